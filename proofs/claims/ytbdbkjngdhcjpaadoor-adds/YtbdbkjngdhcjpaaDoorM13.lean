import Derived.Test.YtbdbkjngdhcjpaaDoorM11
import Derived.Test.YtbdbkjngdhcjpaaDoorSf
import Derived.Test.YtbdbkjngdhcjpaaDoorWa
import Derived.Test.YtbdbkjngdhcjpaaDoorM6
import Derived.Below
import Derived.Test.YtbdbkjngdhcjpaaDoorWe
namespace Go.Proofs.YtbdbkjngdhcjpaaDoor
open Go.RowKit
open Go.Proofs

/-- What a world is saved as. -/
def saveM (m : Md) : ByteArray := saveT m.r m.x m.age m.g.l m.g.t m.g.S
theorem save_md (q : Nat) (m : Md) (hm : MdOk m) (w : World) (h : MdAt w q m) (ht : Tab w) :
    Calls Tryd.prog 8 #[.pointer (some ⟨q, 0, none⟩)] w fun e w' => e = .returned (.string (saveM m)) ∧ Kp (fun _ => False) w w' := by
  have hx := hm.kin.shape
  have kd := hx.kind
  have ws := hx.ws
  have hs := hx.hs
  have w0 := hx.w0
  have w12 := hx.w12
  have h0 := hx.h0
  have h12 := hx.h12
  have lb := hm.ok.lb
  have tb := hm.ok.tb
  have ar := hm.kin.ar
  have age := hm.age
  have hkd : 0 ≤ m.x.kind ∧ m.x.kind < 256 := by
    simp at kd
    omega
  exact save_any q m.r m.x m.age m.g.l m.g.t m.g.S w h ht hm.kin.rule (by omega) hm.kin.st hkd ⟨w0, w12⟩ ⟨h0, h12⟩ (by omega) (by omega) (by omega) (by omega) (by omega) (by omega) (by omega)
end Go.Proofs.YtbdbkjngdhcjpaaDoor
namespace Go.Proofs.YtbdbkjngdhcjpaaDoor
open Go.RowKit
open Go.Proofs

/-- The text of the closed fact. -/
def T0 : ByteArray := ⟨#[77, 66, 51, 47, 83, 50, 51, 32, 80, 53, 44, 53, 32, 48, 32, 49, 44, 50, 32, 51, 65, 33]⟩
def p0 : Pu.Parts := ⟨⟨77, [false, false, false, true, false, false, false, false, false], [false, false, true, true, false, false, false, false, false], 2⟩, ⟨80, 5, 5, 0, 0, false, false⟩, 0, 1, 2, [⟨3, 1, false⟩]⟩
theorem read_T0 : Pu.read (src T0) = (22, some p0) := by kernel_rfl
theorem T0_size : T0.size ≤ 400 := by decide
end Go.Proofs.YtbdbkjngdhcjpaaDoor
namespace Go.Proofs.YtbdbkjngdhcjpaaDoor
open Go.RowKit
open Go.Proofs

def L1 : List Int := (List.range 768).map fun k => if k = 11 ∨ k = 12 ∨ k = 13 then 1 else 0
def L2 : List Int := (List.range 768).map fun k => if k = 7 ∨ k = 12 ∨ k = 17 then 1 else 0
theorem laid_T0 : laidG p0 noS = (true, ⟨0, 0, L1⟩) := by kernel_rfl
theorem next_T0 : nextS p0.rule (fun T => nbG p0.shape ⟨0, 0, T⟩) 5 5 L1 = L2 := by kernel_rfl
def T1 : ByteArray := ⟨#[77, 66, 51, 47, 83, 50, 51, 32, 80, 53, 44, 53, 32, 49, 32, 50, 44, 49, 32, 65, 36, 65, 36, 65, 33]⟩
def m0 : Md := ⟨p0.rule, p0.shape, 0, ⟨0, 0, L1⟩⟩
def m1 : Md := ⟨p0.rule, p0.shape, 1, ⟨0, 0, L2⟩⟩
theorem save_T1 : saveM m1 = T1 := by kernel_rfl
theorem T1_list : T1.toList = [77, 66, 51, 47, 83, 50, 51, 32, 80, 53, 44, 53, 32, 49, 32, 50, 44, 49, 32, 65, 36, 65, 36, 65, 33] := by decide +kernel
theorem load_T0 : loadM T0 = (0, some m0) := by
  have h0 : loadE p0 noS = 0 := by
    unfold loadE
    rw [if_neg (by unfold p0; simp), laid_T0, if_pos rfl]
  unfold loadM
  rw [if_neg (by have := T0_size; omega), read_T0]
  simp only
  rw [if_pos h0, laid_T0]
  rfl
theorem step_T0 : stepM m0 1 = (0, m1) := by
  have e : stepG m0.r m0.x m0.g 1 = (true, ⟨0, 0, L2⟩) := by
    have := stepG_two (r := p0.rule) (x := p0.shape) (by unfold p0 Two; simp) (W := 5) (H := 5) rfl rfl L1 1
    rw [show stepN p0.rule (fun T => nbG p0.shape ⟨0, 0, T⟩) 5 5 1 L1 = L2 from next_T0] at this
    exact this
  unfold stepM
  rw [if_neg (by unfold m0; simp), show (1 : Int).toNat = 1 from rfl, e, if_pos rfl]
  rfl

set_option maxHeartbeats 400000 in
theorem steps_any (w : World) (ht : Tab w) : Calls Tryd.prog 15 #[] w fun e w' => e = .returned (.bool true) ∧ Kp (fun _ => False) w w' := by
  have LL := hide (fun wx => Load_md T0 (by have := T0_size; unfold maxLen; omega) wx)
  rw [load_T0] at LL
  have HT := hide ht
  clear ht
  generalize hT0 : T0 = t0 at *
  have HT0 := hide hT0
  have E0 : T0 = { data := #[77, 66, 51, 47, 83, 50, 51, 32, 80, 53, 44, 53, 32, 48, 32, 49, 44, 50, 32, 51, 65, 33] } := rfl
  rw [hT0] at E0
  clear hT0
  go_enter Tryd.func15, Tryd.ntmps15
  go_wp2_with fail
  rw [← E0]
  refine (LL.out _).mono ?_
  rintro e w1 ⟨⟨u, z, rfl, lm⟩, k1⟩
  obtain ⟨_, q, rfl, hq, a1, ok1⟩ := lm.good m0 (by rw [← HT0.out, load_T0])
  have A1 := hide a1
  have K1 := hide k1
  have OK1 := hide ok1
  have hq1 := a1.lt
  clear lm a1 k1 LL E0 ok1
  go_wp2_with fail
  refine (step_md q m0 OK1.out 1 _ A1.out).mono ?_
  rw [step_T0]
  rintro e w2 ⟨⟨rfl, a2⟩, k2⟩
  have A2 := hide a2
  have K2 := hide (K1.out.tr k2 (by intro y hy1 hy2; omega))
  clear a2 k2
  have OK2 : Hid (MdOk m1) := by
    have := stepM_ok OK1.out 1
    rw [step_T0] at this
    exact this
  go_wp2_with fail
  refine (save_md q m1 OK2.out _ A2.out (HT.out.keep K2.out)).mono ?_
  rw [save_T1]
  rintro e w3 ⟨rfl, k3⟩
  have K3 := hide (K2.out.trans k3)
  clear k3
  go_wp2_with fail
  go_ret
  exact ⟨ret_bool (by rw [T1_list]; rfl), K3.out⟩
end Go.Proofs.YtbdbkjngdhcjpaaDoor
namespace Go.Proofs.YtbdbkjngdhcjpaaDoor
open Go.RowKit
open Go.Proofs
theorem few_any (s : ByteArray) (w : World) (hm : s.size ≤ maxLen) : Calls Tryd.prog 11 #[.string s] w fun e w' => e = .returned (.bool (decide (s.size ≤ 1048576))) ∧ w' = w := by
  unfold maxLen at hm
  go_enter Tryd.func11, Tryd.ntmps11
  go_wp2_with fail
  go_ret
  exact ⟨ret_bool (by rw [Bool.eq_iff_iff]; simp; omega), rfl⟩
end Go.Proofs.YtbdbkjngdhcjpaaDoor
namespace Go.Proofs.YtbdbkjngdhcjpaaDoor
open Go.RowKit
open Go.Proofs
theorem Kp.below {w w' : World} (h : Kp (fun _ => False) w w') : Below w.heap.size w w' := ⟨h.os, h.tape, h.output, h.size, fun k hk => h.block k hk (fun x => x)⟩
end Go.Proofs.YtbdbkjngdhcjpaaDoor
namespace Go.Proofs.YtbdbkjngdhcjpaaDoor
open Go.RowKit
open Go.Proofs

def pickP (c n : Int) : Int := if c < 0 then (-(c + 1)) % n else c % n
set_option maxHeartbeats 400000 in
theorem pick_any (c n : Int) (w : World) (h0 : 0 < n) (h1 : n ≤ 1048576) (c0 : -9223372036854775808 ≤ c) (c1 : c ≤ 9223372036854775807) : Calls Tryd.prog 18 #[.int .i64 c, .int .i64 n] w fun e w' => e = .returned (.int .i64 (pickP c n)) ∧ w' = w := by
  unfold pickP
  by_cases hc : c < 0
  · rw [if_pos hc]
    have b1 := Int.emod_nonneg (-(c + 1)) (show n ≠ 0 by omega)
    have b2 := Int.emod_lt_of_pos (-(c + 1)) h0
    have e : -((c + 1).tmod n) = (-(c + 1)) % n := by rw [← Int.neg_tmod, Int.tmod_eq_emod_of_nonneg (by omega)]
    have E := hide e
    clear e b1 b2
    go_enter Tryd.func18, Tryd.ntmps18
    go_wp2
    go_ret
    exact ⟨ret_int E.out, rfl⟩
  · rw [if_neg hc]
    have b1 := Int.emod_nonneg c (show n ≠ 0 by omega)
    have b2 := Int.emod_lt_of_pos c h0
    go_enter Tryd.func18, Tryd.ntmps18
    go_wp2
    go_ret
    exact ⟨rfl, rfl⟩
end Go.Proofs.YtbdbkjngdhcjpaaDoor
namespace Go.Proofs.YtbdbkjngdhcjpaaDoor
open Go.RowKit
open Go.Proofs

theorem pick_in (c n : Int) (h : 0 < n) : 0 ≤ pickP c n ∧ pickP c n < n := by
  unfold pickP
  split
  · exact ⟨Int.emod_nonneg _ (by omega), Int.emod_lt_of_pos _ h⟩
  · exact ⟨Int.emod_nonneg _ (by omega), Int.emod_lt_of_pos _ h⟩
/-- What the law asks of three answers. -/
theorem stepM_add (m : Md) (hm : MdOk m) (a b : Nat) (ha : a ≤ 8) (hb : b ≤ 8) :
    ((stepM m ((a : Int) + b)).1 = 7 → (stepM m a).1 = 0 → (stepM (stepM m a).2 b).1 ≠ 0) ∧
    ((stepM m ((a : Int) + b)).1 ≠ 7 → ((stepM m a).1 ≠ 0 → (stepM m a).1 = (stepM m ((a : Int) + b)).1) ∧ ((stepM m a).1 = 0 → stepM (stepM m a).2 b = stepM m ((a : Int) + b) ∨ ((stepM (stepM m a).2 b).1 = (stepM m ((a : Int) + b)).1 ∧ (stepM m ((a : Int) + b)).1 ≠ 0))) := by
  have hg := hm.age
  have e : ((a : Int) + b).toNat = a + b := by omega
  by_cases h1 : 999999 < m.age + ((a : Int) + b)
  · have e1 : stepM m ((a : Int) + b) = (7, m) := by unfold stepM; rw [if_pos (Or.inr (Or.inr h1))]
    rw [e1]
    refine ⟨fun _ h0 => ?_, fun h => absurd rfl h⟩
    by_cases h2 : 999999 < m.age + a
    · have e2 : stepM m a = (7, m) := by unfold stepM; rw [if_pos (Or.inr (Or.inr h2))]
      rw [e2] at h0
      simp at h0
    · have e2 : stepM m a = if (stepG m.r m.x m.g a).1 = true then (0, { m with age := m.age + a, g := (stepG m.r m.x m.g a).2 }) else (4, m) := by unfold stepM; rw [if_neg (by omega), Int.toNat_natCast]
      by_cases c : (stepG m.r m.x m.g a).1 = true
      · rw [if_pos c] at e2
        rw [e2]
        unfold stepM
        rw [if_pos (Or.inr (Or.inr (by show 999999 < m.age + (a : Int) + b; omega)))]
        simp
      · rw [if_neg c] at e2
        rw [e2] at h0
        simp at h0
  · have e1 : stepM m ((a : Int) + b) = if (stepG m.r m.x m.g (a + b)).1 = true then (0, { m with age := m.age + ((a : Int) + b), g := (stepG m.r m.x m.g (a + b)).2 }) else (4, m) := by unfold stepM; rw [if_neg (by omega), e]
    have e2 : stepM m a = if (stepG m.r m.x m.g a).1 = true then (0, { m with age := m.age + a, g := (stepG m.r m.x m.g a).2 }) else (4, m) := by unfold stepM; rw [if_neg (by omega), Int.toNat_natCast]
    constructor
    · intro h7
      rw [e1] at h7
      split at h7 <;> simp at h7
    · intro _
      by_cases c : (stepG m.r m.x m.g a).1 = true
      · rw [if_pos c] at e2
        rw [e2]
        refine ⟨fun h => absurd rfl h, fun _ => ?_⟩
        have ea := stepG_add m.r m.x m.g a c b
        have e3 : stepM { m with age := m.age + a, g := (stepG m.r m.x m.g a).2 } b = if (stepG m.r m.x (stepG m.r m.x m.g a).2 b).1 = true then (0, { m with age := m.age + a + b, g := (stepG m.r m.x (stepG m.r m.x m.g a).2 b).2 }) else (4, { m with age := m.age + a, g := (stepG m.r m.x m.g a).2 }) := by
          unfold stepM
          rw [if_neg (by show ¬ ((b : Int) < 0 ∨ 100 < (b : Int) ∨ 999999 < m.age + (a : Int) + b); omega), Int.toNat_natCast]
        rw [e3, e1, ea]
        by_cases d : (stepG m.r m.x (stepG m.r m.x m.g a).2 b).1 = true
        · left
          rw [if_pos d, if_pos d, Int.add_assoc]
        · right
          rw [if_neg d, if_neg d]
          exact ⟨rfl, by simp⟩
      · have c' : (stepG m.r m.x m.g a).1 = false := by simpa using c
        have st := stepG_stop c' (a + b) (by omega)
        rw [if_neg c] at e2
        rw [st, if_neg c] at e1
        rw [e1, e2]
        exact ⟨fun _ => rfl, fun h => by simp at h⟩

set_option maxRecDepth 100000 in
set_option maxHeartbeats 1000000 in
theorem adds_walk (s : ByteArray) (hs : s.size ≤ maxLen) (a b : Int) (ha : -9223372036854775808 ≤ a ∧ a ≤ 9223372036854775807) (hb : -9223372036854775808 ≤ b ∧ b ≤ 9223372036854775807) (w : World) (ht : Tab w) :
    Calls Tryd.prog 6 #[.string s, .int .i64 a, .int .i64 b] w fun e w' => e = .returned (.bool true) ∧ Kp (fun _ => False) w w' := by
  have LS := hide (fun wx hx => steps_any wx hx)
  have LF := hide (fun wx => few_any s wx hs)
  have LL := hide (fun wx => Load_md s hs wx)
  have P1 := hide (fun wx => pick_any a 9 wx (by omega) (by omega) ha.1 ha.2)
  have P2 := hide (fun wx => pick_any b 9 wx (by omega) (by omega) hb.1 hb.2)
  have bA := pick_in a 9 (by omega)
  have bB := pick_in b 9 (by omega)
  generalize pickP a 9 = pa at *
  generalize pickP b 9 = pb at *
  obtain ⟨pa, rfl⟩ := Int.eq_ofNat_of_zero_le bA.1
  obtain ⟨pb, rfl⟩ := Int.eq_ofNat_of_zero_le bB.1
  have HT := hide ht
  clear ht hs
  by_cases h0 : s.size ≤ 1048576
  · rw [decide_eq_true h0] at LF
    clear h0
    go_enter Tryd.func6, Tryd.ntmps6
    go_wp2_with fail
    refine (LS.out _ HT.out).mono ?_
    rintro e w1 ⟨rfl, k1⟩
    have K1 := hide k1
    clear k1
    go_wp2_with fail
    refine (LF.out _).mono ?_
    rintro e w2 ⟨rfl, hw⟩
    subst w2
    go_wp2_with fail
    refine (LL.out _).mono ?_
    rintro e w2 ⟨⟨u, z, rfl, lm⟩, k2⟩
    have hs12 := K1.out.size
    have K2 := hide (K1.out.trans k2)
    have hs2 := k2.size
    clear k2 LF LS
    go_wp2_with fail
    refine (LL.out _).mono ?_
    rintro e w3 ⟨⟨u3, z3, rfl, lm3⟩, k3⟩
    have K3 := hide (K2.out.trans k3)
    have KK := hide k3
    clear k3 LL
    obtain ⟨lg, lb⟩ := lm
    obtain ⟨lg3, lb3⟩ := lm3
    generalize loadM s = M at *
    obtain ⟨c, o⟩ := M
    cases o with
    | none =>
      obtain ⟨hc, rfl⟩ := lb rfl
      obtain ⟨_, rfl⟩ := lb3 rfl
      simp only at hc ⊢
      have bc : (c != 0) = true := by simpa using hc
      clear lg lb hc lg3 lb3
      go_wp2_with fail
      go_ret
      exact ⟨by simp, K3.out⟩
    | some m =>
      obtain ⟨hc, q, rfl, hq, a2, ok2⟩ := lg m rfl
      obtain ⟨_, q3, rfl, hq3, a3, _⟩ := lg3 m rfl
      simp only at hc ⊢
      subst hc
      have A2 := hide (a2.keep KK.out (fun h => h))
      have A3 := hide a3
      have OK2 := hide ok2
      have hqlt := a2.lt
      have hqw : w.heap.size ≤ q := by omega
      have hq3w : w.heap.size ≤ q3 := by omega
      have hne : q ≠ q3 := by omega
      clear lg lb a2 ok2 lg3 lb3 a3 KK
      go_wp2_with fail
      refine (P1.out _).mono ?_
      rintro e w4 ⟨rfl, hw⟩
      subst w4
      go_wp2_with fail
      refine (P2.out _).mono ?_
      rintro e w4 ⟨rfl, hw⟩
      subst w4
      go_wp2_with fail
      refine (step_md q m OK2.out pa _ A2.out).mono ?_
      rintro e w4 ⟨⟨rfl, a4⟩, k4⟩
      have A4 := hide a4
      have B4 := hide (A3.out.keep k4 (by omega))
      have K4 := hide (K3.out.tr k4 (by intro y hy1 hy2; omega))
      have OK4 := hide (stepM_ok OK2.out pa)
      have ADD := hide (stepM_add m OK2.out pa pb (by omega) (by omega))
      have OKF := hide (stepM_ok OK2.out ((pa : Int) + pb))
      have LST := hide (fun (wx : World) (h : MdAt wx q3 m) => step_md q3 m OK2.out ((pa : Int) + pb) wx h)
      clear a4 k4 A2 A3
      generalize stepM m ((pa : Int) + pb) = RF at *
      obtain ⟨fc, mf⟩ := RF
      have OKB := hide (stepM_ok OK4.out pb)
      have LSB := hide (fun (wx : World) (h : MdAt wx q (stepM m pa).2) => step_md q _ OK4.out pb wx h)
      generalize stepM m pa = RA at *
      obtain ⟨ac, ma⟩ := RA
      simp only at ADD LST LSB OKB OK4 A4 OKF ⊢
      by_cases hac : ac = 0
      · subst hac
        generalize stepM ma pb = RB at *
        obtain ⟨bc, mb⟩ := RB
        simp only at ADD LSB OKB
        go_wp2_with fail
        refine (LSB.out _ A4.out).mono ?_
        rintro e w5 ⟨⟨rfl, a5⟩, k5⟩
        have A5 := hide a5
        have B5 := hide (B4.out.keep k5 (by omega))
        have K5 := hide (K4.out.tr k5 (by intro y hy1 hy2; omega))
        clear a5 k5
        go_wp2_with fail
        refine (LST.out _ B5.out).mono ?_
        rintro e w6 ⟨⟨rfl, b6⟩, k6⟩
        have A6 := hide (A5.out.keep k6 (by omega))
        have B6 := hide b6
        have K6 := hide (K5.out.tr k6 (by intro y hy1 hy2; omega))
        clear b6 k6
        by_cases h7 : fc = 7
        · subst h7
          have hb0 := ADD.out.1 (by simp) (by simp)
          have bb0 : (bc != 0) = true := by simpa using hb0
          go_wp2_with fail
          go_ret
          exact ⟨rfl, K6.out⟩
        · have b7 : (fc == 7) = false := by simpa using h7
          rcases (ADD.out.2 h7).2 (by simp) with he | ⟨he, hf⟩
          · obtain ⟨rfl, rfl⟩ := Prod.mk.inj he
            by_cases hb0 : bc = 0
            · subst hb0
              go_wp2_with fail
              refine (save_md q mb OKB.out _ A6.out (HT.out.keep K6.out)).mono ?_
              rintro e w7 ⟨rfl, k7⟩
              have B7 := hide (B6.out.keep k7 (fun h => h))
              have K7 := hide (K6.out.trans k7)
              clear k7
              go_wp2_with fail
              refine (save_md q3 mb OKB.out _ B7.out (HT.out.keep K7.out)).mono ?_
              rintro e w8 ⟨rfl, k8⟩
              have K8 := hide (K7.out.trans k8)
              clear k8
              go_wp2_with fail
              go_ret
              exact ⟨by simp, K8.out⟩
            · have bb0 : (bc != 0) = true := by simpa using hb0
              go_wp2_with fail
              go_ret
              exact ⟨by simp, K6.out⟩
          · subst he
            have bb0 : (bc != 0) = true := by simpa using hf
            go_wp2_with fail
            go_ret
            exact ⟨by simp, K6.out⟩
      · have bac : (ac == 0) = false := by simpa using hac
        have bac2 : (ac != 0) = true := by simpa using hac
        go_wp2_with fail
        refine (LST.out _ B4.out).mono ?_
        rintro e w6 ⟨⟨rfl, b6⟩, k6⟩
        have K6 := hide (K4.out.tr k6 (by intro y hy1 hy2; omega))
        clear b6 k6
        by_cases h7 : fc = 7
        · subst h7
          go_wp2_with fail
          go_ret
          exact ⟨rfl, K6.out⟩
        · have b7 : (fc == 7) = false := by simpa using h7
          have he := (ADD.out.2 h7).1 hac
          subst he
          go_wp2_with fail
          go_ret
          exact ⟨by simp, K6.out⟩
  · rw [decide_eq_false h0] at LF
    clear h0
    go_enter Tryd.func6, Tryd.ntmps6
    go_wp2_with fail
    refine (LS.out _ HT.out).mono ?_
    rintro e w1 ⟨rfl, k1⟩
    have K1 := hide k1
    clear k1
    go_wp2_with fail
    refine (LF.out _).mono ?_
    rintro e w2 ⟨rfl, hw⟩
    subst w2
    go_wp2_with fail
    go_ret
    exact ⟨rfl, K1.out⟩
end Go.Proofs.YtbdbkjngdhcjpaaDoor
