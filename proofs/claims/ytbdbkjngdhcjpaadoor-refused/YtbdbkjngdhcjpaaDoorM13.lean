import Derived.Test.YtbdbkjngdhcjpaaDoorM11
import Derived.Test.YtbdbkjngdhcjpaaDoorSf
import Derived.Test.YtbdbkjngdhcjpaaDoorWa
import Derived.Test.YtbdbkjngdhcjpaaDoorM6
import Derived.Below
namespace Go.Proofs.YtbdbkjngdhcjpaaDoor
open Go.RowKit
open Go.Proofs

/-- What a world is saved as. -/
def saveM (m : Md) : ByteArray := saveT m.r m.x m.age m.g.l m.g.t m.g.S
theorem save_md (q : Nat) (m : Md) (hm : MdOk m) (w : World) (h : MdAt w q m) (ht : Tab w) :
    Calls Tryd.prog 8 #[.pointer (some ⟨q, 0, none⟩)] w fun e w' => e = .returned (.string (saveM m)) ∧ Kp (fun _ => False) w w' := by
  have hx := hm.kin.shape
  have kd := hx.kind
  have ws := hx.ws
  have hs := hx.hs
  have w0 := hx.w0
  have w12 := hx.w12
  have h0 := hx.h0
  have h12 := hx.h12
  have lb := hm.ok.lb
  have tb := hm.ok.tb
  have ar := hm.kin.ar
  have age := hm.age
  have hkd : 0 ≤ m.x.kind ∧ m.x.kind < 256 := by
    simp at kd
    omega
  exact save_any q m.r m.x m.age m.g.l m.g.t m.g.S w h ht hm.kin.rule (by omega) hm.kin.st hkd ⟨w0, w12⟩ ⟨h0, h12⟩ (by omega) (by omega) (by omega) (by omega) (by omega) (by omega) (by omega)
end Go.Proofs.YtbdbkjngdhcjpaaDoor
namespace Go.Proofs.YtbdbkjngdhcjpaaDoor
open Go.RowKit
open Go.Proofs

/-- The text of the closed fact. -/
def T0 : ByteArray := ⟨#[77, 66, 51, 47, 83, 50, 51, 32, 80, 53, 44, 53, 32, 48, 32, 49, 44, 50, 32, 51, 65, 33]⟩
def p0 : Pu.Parts := ⟨⟨77, [false, false, false, true, false, false, false, false, false], [false, false, true, true, false, false, false, false, false], 2⟩, ⟨80, 5, 5, 0, 0, false, false⟩, 0, 1, 2, [⟨3, 1, false⟩]⟩
theorem read_T0 : Pu.read (src T0) = (22, some p0) := by kernel_rfl
theorem T0_size : T0.size ≤ 400 := by decide
end Go.Proofs.YtbdbkjngdhcjpaaDoor
namespace Go.Proofs.YtbdbkjngdhcjpaaDoor
open Go.RowKit
open Go.Proofs

def L1 : List Int := (List.range 768).map fun k => if k = 11 ∨ k = 12 ∨ k = 13 then 1 else 0
def L2 : List Int := (List.range 768).map fun k => if k = 7 ∨ k = 12 ∨ k = 17 then 1 else 0
theorem laid_T0 : laidG p0 noS = (true, ⟨0, 0, L1⟩) := by kernel_rfl
theorem next_T0 : nextS p0.rule (fun T => nbG p0.shape ⟨0, 0, T⟩) 5 5 L1 = L2 := by kernel_rfl
def T1 : ByteArray := ⟨#[77, 66, 51, 47, 83, 50, 51, 32, 80, 53, 44, 53, 32, 49, 32, 50, 44, 49, 32, 65, 36, 65, 36, 65, 33]⟩
def m0 : Md := ⟨p0.rule, p0.shape, 0, ⟨0, 0, L1⟩⟩
def m1 : Md := ⟨p0.rule, p0.shape, 1, ⟨0, 0, L2⟩⟩
theorem save_T1 : saveM m1 = T1 := by kernel_rfl
theorem T1_list : T1.toList = [77, 66, 51, 47, 83, 50, 51, 32, 80, 53, 44, 53, 32, 49, 32, 50, 44, 49, 32, 65, 36, 65, 36, 65, 33] := by decide +kernel
theorem load_T0 : loadM T0 = (0, some m0) := by
  have h0 : loadE p0 noS = 0 := by
    unfold loadE
    rw [if_neg (by unfold p0; simp), laid_T0, if_pos rfl]
  unfold loadM
  rw [if_neg (by have := T0_size; omega), read_T0]
  simp only
  rw [if_pos h0, laid_T0]
  rfl
theorem step_T0 : stepM m0 1 = (0, m1) := by
  have e : stepG m0.r m0.x m0.g 1 = (true, ⟨0, 0, L2⟩) := by
    have := stepG_two (r := p0.rule) (x := p0.shape) (by unfold p0 Two; simp) (W := 5) (H := 5) rfl rfl L1 1
    rw [show stepN p0.rule (fun T => nbG p0.shape ⟨0, 0, T⟩) 5 5 1 L1 = L2 from next_T0] at this
    exact this
  unfold stepM
  rw [if_neg (by unfold m0; simp), show (1 : Int).toNat = 1 from rfl, e, if_pos rfl]
  rfl

set_option maxHeartbeats 400000 in
theorem steps_any (w : World) (ht : Tab w) : Calls Tryd.prog 15 #[] w fun e w' => e = .returned (.bool true) ∧ Kp (fun _ => False) w w' := by
  have LL := hide (fun wx => Load_md T0 (by have := T0_size; unfold maxLen; omega) wx)
  rw [load_T0] at LL
  have HT := hide ht
  clear ht
  generalize hT0 : T0 = t0 at *
  have HT0 := hide hT0
  have E0 : T0 = { data := #[77, 66, 51, 47, 83, 50, 51, 32, 80, 53, 44, 53, 32, 48, 32, 49, 44, 50, 32, 51, 65, 33] } := rfl
  rw [hT0] at E0
  clear hT0
  go_enter Tryd.func15, Tryd.ntmps15
  go_wp2_with fail
  rw [← E0]
  refine (LL.out _).mono ?_
  rintro e w1 ⟨⟨u, z, rfl, lm⟩, k1⟩
  obtain ⟨_, q, rfl, hq, a1, ok1⟩ := lm.good m0 (by rw [← HT0.out, load_T0])
  have A1 := hide a1
  have K1 := hide k1
  have OK1 := hide ok1
  have hq1 := a1.lt
  clear lm a1 k1 LL E0 ok1
  go_wp2_with fail
  refine (step_md q m0 OK1.out 1 _ A1.out).mono ?_
  rw [step_T0]
  rintro e w2 ⟨⟨rfl, a2⟩, k2⟩
  have A2 := hide a2
  have K2 := hide (K1.out.tr k2 (by intro y hy1 hy2; omega))
  clear a2 k2
  have OK2 : Hid (MdOk m1) := by
    have := stepM_ok OK1.out 1
    rw [step_T0] at this
    exact this
  go_wp2_with fail
  refine (save_md q m1 OK2.out _ A2.out (HT.out.keep K2.out)).mono ?_
  rw [save_T1]
  rintro e w3 ⟨rfl, k3⟩
  have K3 := hide (K2.out.trans k3)
  clear k3
  go_wp2_with fail
  go_ret
  exact ⟨ret_bool (by rw [T1_list]; rfl), K3.out⟩
end Go.Proofs.YtbdbkjngdhcjpaaDoor
namespace Go.Proofs.YtbdbkjngdhcjpaaDoor
open Go.RowKit
open Go.Proofs
theorem few_any (s : ByteArray) (w : World) (hm : s.size ≤ maxLen) : Calls Tryd.prog 11 #[.string s] w fun e w' => e = .returned (.bool (decide (s.size ≤ 1048576))) ∧ w' = w := by
  unfold maxLen at hm
  go_enter Tryd.func11, Tryd.ntmps11
  go_wp2_with fail
  go_ret
  exact ⟨ret_bool (by rw [Bool.eq_iff_iff]; simp; omega), rfl⟩
end Go.Proofs.YtbdbkjngdhcjpaaDoor
namespace Go.Proofs.YtbdbkjngdhcjpaaDoor
open Go.RowKit
open Go.Proofs

set_option maxRecDepth 100000 in
set_option maxHeartbeats 1000000 in
theorem refused_walk (s : ByteArray) (hs : s.size ≤ maxLen) (X Y st n : Int) (w : World) (ht : Tab w) :
    Calls Tryd.prog 5 #[.string s, .int .i64 X, .int .i64 Y, .int .i64 st, .int .i64 n] w fun e w' => e = .returned (.bool true) ∧ Kp (fun _ => False) w w' := by
  have LS := hide (fun wx hx => steps_any wx hx)
  have LF := hide (fun wx => few_any s wx hs)
  have LL := hide (fun wx => Load_md s hs wx)
  have HT := hide ht
  clear ht hs
  by_cases h0 : s.size ≤ 1048576
  · rw [decide_eq_true h0] at LF
    clear h0
    go_enter Tryd.func5, Tryd.ntmps5
    go_wp2_with fail
    refine (LS.out _ HT.out).mono ?_
    rintro e w1 ⟨rfl, k1⟩
    have K1 := hide k1
    clear k1
    go_wp2_with fail
    refine (LF.out _).mono ?_
    rintro e w2 ⟨rfl, hw⟩
    subst w2
    go_wp2_with fail
    refine (LL.out _).mono ?_
    rintro e w2 ⟨⟨u, z, rfl, lm⟩, k2⟩
    have hs12 := K1.out.size
    have K2 := hide (K1.out.trans k2)
    clear k2 LL LF LS
    obtain ⟨lg, lb⟩ := lm
    generalize loadM s = M at *
    obtain ⟨c, o⟩ := M
    cases o with
    | none =>
      obtain ⟨hc, rfl⟩ := lb rfl
      simp only at hc ⊢
      have bc : (c != 0) = true := by simpa using hc
      clear lg lb hc
      go_wp2_with fail
      go_ret
      exact ⟨rfl, K2.out⟩
    | some m =>
      obtain ⟨hc, q, rfl, hq, a2, ok2⟩ := lg m rfl
      simp only at hc ⊢
      subst hc
      have A2 := hide a2
      have OK2 := hide ok2
      have hqw : w.heap.size ≤ q := by omega
      clear lg lb a2 ok2
      go_wp2_with fail
      refine (save_md q m OK2.out _ A2.out (HT.out.keep K2.out)).mono ?_
      rintro e w3 ⟨rfl, k3⟩
      have A3 := hide (A2.out.keep k3 (fun h => h))
      have K3 := hide (K2.out.trans k3)
      clear k3 A2 K2
      go_wp2_with fail
      refine (put_md q m OK2.out X Y st _ A3.out).mono ?_
      rintro e w4 ⟨⟨c, g, rfl, a4, ok4, hg⟩, k4⟩
      have A4 := hide a4
      have OK4 := hide ok4
      have HG := hide hg
      have K4 := hide (K3.out.tr k4 (by intro y hy1 hy2; omega))
      clear a4 ok4 k4 hg A3 K3
      by_cases hc : c = 0
      · subst hc
        go_wp2_with fail
        refine (save_md q _ OK4.out _ A4.out (HT.out.keep K4.out)).mono ?_
        rintro e w5 ⟨rfl, k5⟩
        have A5 := hide (A4.out.keep k5 (fun h => h))
        have K5 := hide (K4.out.trans k5)
        clear k5
        go_wp2_with fail
        refine (step_md q _ OK4.out n _ A5.out).mono ?_
        rintro e w6 ⟨⟨rfl, a6⟩, k6⟩
        have K6 := hide (K5.out.tr k6 (by intro y hy1 hy2; omega))
        have A6 := hide a6
        have OK6 := hide (stepM_ok OK4.out n)
        have HB := hide (stepM_bad (m := { m with g := g }) (n := n))
        clear a6 k6
        generalize stepM { m with g := g } n = R at *
        obtain ⟨d, m2⟩ := R
        simp only at HB ⊢
        by_cases hd : d = 0
        · subst hd
          go_wp2_with fail
          go_ret
          exact ⟨rfl, K6.out⟩
        · have e2 : m2 = { m with g := g } := HB.out hd
          have bd : (d != 0) = true := by simpa using hd
          subst e2
          clear hd HB
          go_wp2_with fail
          refine (save_md q _ OK6.out _ A6.out (HT.out.keep K6.out)).mono ?_
          rintro e w7 ⟨rfl, k7⟩
          have K7 := hide (K6.out.trans k7)
          clear k7
          go_wp2_with fail
          go_ret
          exact ⟨by simp, K7.out⟩
      · have e2 : g = m.g := HG.out hc
        have bc : (c != 0) = true := by simpa using hc
        subst e2
        have em : ({ m with g := m.g } : Md) = m := rfl
        rw [em] at A4 OK4
        clear hc HG em
        go_wp2_with fail
        refine (save_md q m OK4.out _ A4.out (HT.out.keep K4.out)).mono ?_
        rintro e w5 ⟨rfl, k5⟩
        have A5 := hide (A4.out.keep k5 (fun h => h))
        have K5 := hide (K4.out.trans k5)
        clear k5
        go_wp2_with fail
        refine (save_md q m OK4.out _ A5.out (HT.out.keep K5.out)).mono ?_
        rintro e w6 ⟨rfl, k6⟩
        have A6 := hide (A5.out.keep k6 (fun h => h))
        have K6 := hide (K5.out.trans k6)
        clear k6
        go_wp2_with fail
        refine (step_md q m OK4.out n _ A6.out).mono ?_
        rintro e w7 ⟨⟨rfl, a7⟩, k7⟩
        have K7 := hide (K6.out.tr k7 (by intro y hy1 hy2; omega))
        have A7 := hide a7
        have OK7 := hide (stepM_ok OK4.out n)
        have HB := hide (stepM_bad (m := m) (n := n))
        clear a7 k7
        generalize stepM m n = R at *
        obtain ⟨d, m2⟩ := R
        simp only at HB ⊢
        by_cases hd : d = 0
        · subst hd
          go_wp2_with fail
          go_ret
          exact ⟨rfl, K7.out⟩
        · have e2 : m2 = m := HB.out hd
          have bd : (d != 0) = true := by simpa using hd
          subst e2
          clear hd HB
          go_wp2_with fail
          refine (save_md q _ OK7.out _ A7.out (HT.out.keep K7.out)).mono ?_
          rintro e w8 ⟨rfl, k8⟩
          have K8 := hide (K7.out.trans k8)
          clear k8
          go_wp2_with fail
          go_ret
          exact ⟨by simp, K8.out⟩
  · rw [decide_eq_false h0] at LF
    clear h0
    go_enter Tryd.func5, Tryd.ntmps5
    go_wp2_with fail
    refine (LS.out _ HT.out).mono ?_
    rintro e w1 ⟨rfl, k1⟩
    have K1 := hide k1
    clear k1
    go_wp2_with fail
    refine (LF.out _).mono ?_
    rintro e w2 ⟨rfl, hw⟩
    subst w2
    go_wp2_with fail
    go_ret
    exact ⟨rfl, K1.out⟩
end Go.Proofs.YtbdbkjngdhcjpaaDoor
namespace Go.Proofs.YtbdbkjngdhcjpaaDoor
open Go.RowKit
open Go.Proofs
theorem Kp.below {w w' : World} (h : Kp (fun _ => False) w w') : Below w.heap.size w w' := ⟨h.os, h.tape, h.output, h.size, fun k hk => h.block k hk (fun x => x)⟩
end Go.Proofs.YtbdbkjngdhcjpaaDoor
