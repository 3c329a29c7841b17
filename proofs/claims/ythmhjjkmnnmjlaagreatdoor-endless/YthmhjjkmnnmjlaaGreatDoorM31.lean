import Derived.Test.YthmhjjkmnnmjlaaGreatDoorVb
import Derived.Test.YthmhjjkmnnmjlaaGreatDoorM22
import Derived.Test.YthmhjjkmnnmjlaaGreatDoorTb
import Derived.Test.YthmhjjkmnnmjlaaGreatDoorM21
import Derived.Test.YthmhjjkmnnmjlaaGreatDoorM27
import Derived.Test.YthmhjjkmnnmjlaaGreatDoorM24
namespace Go.Proofs.YthmhjjkmnnmjlaaGreatDoor
open Go.RowKit
open Go.Proofs

theorem HdAt.setAge {w : World} {q : Nat} {r : Pu.Rule} {x : Pu.Shape} {age : Int} {g1 g2 : Nat} {v : Value} (h : HdAt w q r x age g1 g2 v) (b : Int) : HdAt (w.setCell ⟨q, 11, none⟩ (.int .i64 b)) q r x b g1 g2 v := by
  have k : Kp (· = q) w (w.setCell ⟨q, 11, none⟩ (.int .i64 b)) := (Kp.refl (· = q) w).setCell (p := ⟨q, 11, none⟩) rfl _
  have n1 : g1 ≠ q := by
    intro e
    have a := h.va
    have b := h.s1.2
    unfold VAt at a
    rw [e, a] at b
    have := Option.some.inj b
    injection this with _ t _
    exact absurd t (by decide)
  have n2 : g2 ≠ q := by
    intro e
    have a := h.va
    have b := h.s2.2
    unfold VAt at a
    rw [e, a] at b
    have := Option.some.inj b
    injection this with _ t _
    exact absurd t (by decide)
  exact ⟨h.va.put 11 _ _ rfl, h.s1.keep k n1, h.s2.keep k n2⟩
theorem ClAt.others {w : World} {q : Nat} {a : Array Value} {v : Value} {l : List Cl} (h : ClAt w v l) (hv : VAt w q a) (m : Nat) (u : Value) : ClAt (w.setCell ⟨q, m, none⟩ u) v l := by
  have k : Kp (· = q) w (w.setCell ⟨q, m, none⟩ u) := (Kp.refl (· = q) w).setCell (p := ⟨q, m, none⟩) rfl u
  refine h.keep k (fun g hg e => ?_)
  subst e
  unfold VAt at hv
  rw [hv] at hg
  simp at hg
theorem cellL_mem {r : Pu.Rule} {x : Pu.Shape} {l : List Cl} {X Y : Int} {d : Cl} (h : d ∈ cellL r x l X Y) : d.1 = X ∧ d.2.1 = Y := by
  unfold cellL at h
  split at h
  · simp at h
    subst h
    exact ⟨rfl, rfl⟩
  · simp at h
theorem rowL_mem {r : Pu.Rule} {x : Pu.Shape} {l : List Cl} {X0 Y : Int} {d : Cl} : ∀ {n : Nat}, d ∈ rowL r x l X0 Y n → (X0 ≤ d.1 ∧ d.1 < X0 + n) ∧ d.2.1 = Y := by
  intro n
  induction n with
  | zero => intro h; simp [rowL] at h
  | succ n ih =>
    intro h
    unfold rowL at h
    rcases List.mem_append.1 h with h | h
    · have := ih h
      omega
    · have := cellL_mem h
      omega
theorem allL_mem {r : Pu.Rule} {x : Pu.Shape} {l : List Cl} {X0 Y0 : Int} {n : Nat} {d : Cl} : ∀ {k : Nat}, d ∈ allL r x l X0 Y0 n k → (X0 ≤ d.1 ∧ d.1 < X0 + n) ∧ (Y0 ≤ d.2.1 ∧ d.2.1 < Y0 + k) := by
  intro k
  induction k with
  | zero => intro h; simp [allL] at h
  | succ k ih =>
    intro h
    unfold allL at h
    rcases List.mem_append.1 h with h | h
    · have := ih h
      omega
    · have := rowL_mem h
      omega
theorem area_small {r : Pu.Rule} {x : Pu.Shape} (hx : Pu.ShapeOk x) {g : Gs} {l : List Cl} (h : Alike r x g l) : (areaL x l).R - (areaL x l).L < 79 ∧ (areaL x l).B - (areaL x l).T < 79 := by
  have w12 := hx.w12
  have h12 := hx.h12
  have w0 := hx.w0
  have h0 := hx.h0
  unfold areaL bxL areaP
  by_cases e : l = []
  · rw [if_pos e, if_pos rfl]
    simp only
    omega
  · rw [if_neg e, if_neg (by simp)]
    obtain ⟨_, ⟨ca, ca1, ca2⟩, ⟨cb, cb1, cb2⟩, ⟨cc, cc1, cc2⟩, ⟨cd, cd1, cd2⟩⟩ := boxL_is e
    have rm := h.rm
    simp only
    constructor
    · by_cases z : x.w = 0
      · rw [if_pos z, if_pos z]
        have := (rm.x z cb cb1 ca ca1).2
        omega
      · rw [if_neg z, if_neg z]
        omega
    · by_cases z : x.h = 0
      · rw [if_pos z, if_pos z]
        have := (rm.y z cd cd1 cc cc1).2
        omega
      · rw [if_neg z, if_neg z]
        omega
theorem gen_bd {r : Pu.Rule} {x : Pu.Shape} (hx : Pu.ShapeOk x) {g : Gs} {l : List Cl} (h : Alike r x g l) : ClBd (genL r x l) ∧ (genL r x l).length ≤ 1000000 := by
  have b := area_bd hx h.gs
  rw [area_same h] at b
  have s := area_small hx h
  constructor
  · intro d hd
    have := allL_mem hd
    omega
  · unfold genL
    refine Nat.le_trans (allL_len _ _ _ _ _ _ _) ?_
    exact Nat.le_trans (Nat.mul_le_mul (show _ ≤ 80 by omega) (show _ ≤ 80 by omega)) (by omega)
theorem Alike.states {r : Pu.Rule} (h2 : 2 ≤ r.states) {x : Pu.Shape} {g : Gs} {l : List Cl} (h : Alike r x g l) (X Y : Int) : 0 ≤ atL l X Y ∧ atL l X Y < r.states := by
  rw [← h.same]
  unfold getG getP
  split
  · omega
  · exact h.gs.st _

set_option maxRecDepth 100000 in
set_option maxHeartbeats 2000000 in
/-- The document's Step. -/
theorem xstep_core (q : Nat) (r : Pu.Rule) (x : Pu.Shape) (age : Int) (g : Gs) (l : List Cl) (n : Nat) (w : World) (h : DocAt w q r x age l) (al : Alike r x g l) (sq : x.kind = 83 → x.h = x.w) (kin : Kin r x) (hn : n ≤ 100) (hage : 0 ≤ age) (hage2 : age + n ≤ 999999) :
    Calls Tryz.prog 27 #[.pointer (some ⟨q, 0, none⟩), .int .i64 n] w fun e w' => e = .returned (.int .i64 (if (stepL r x l n).1 = true then 0 else 4)) ∧ DocAt w' q r x (if (stepL r x l n).1 = true then age + n else age) (if (stepL r x l n).1 = true then (stepL r x l n).2 else l) ∧ Kp (· = q) w w' := by
  have hx := kin.shape
  obtain ⟨g1, g2, v0, hv, s1, s2, hc⟩ := h.at1
  obtain ⟨ad0, cap0, ev0, _⟩ := hc.form
  have hd : HdAt w q r x age g1 g2 v0 := ⟨hv, s1, s2⟩
  have HAL := hide (fun i (ht : (stepL r x l i).1 = true) => (step_alike kin.st.1 hx sq al i).2 ((step_alike kin.st.1 hx sq al i).1.trans ht))
  have HGN := hide (fun (wx : World) (g' : Gs) (m : List Cl) (al' : Alike r x g' m) (hg : DocAt wx q r x age m) => xgen_any q r x age m wx hg hx kin.kind kin.one kin.ar kin.st.1 kin.st.2 (by have := al'.len hx; omega) (al'.states kin.st.1) (fun d hd => (al'.mem d hd).2) al'.rm)
  have HBD := hide (fun (g' : Gs) (m : List Cl) (al' : Alike r x g' m) => gen_bd hx al')
  have HRM := hide (fun (vx : Value) (m : List Cl) (v : Value) (wx : World) (hx : HdAt wx q r x age g1 g2 v) (hc' : ClAt wx vx m) (hh : ClBd m ∧ m.length ≤ 1000000) => xroom_any q _ x.w x.h vx m wx hx.va rfl rfl hc' hh.2 hh.1)
  have HSTOP := hide (fun (k : Nat) (hf : (stepL r x l k).1 = false) (m : Nat) (hm : k ≤ m) => stepL_stop hf m hm)
  have HSU : Hid (∀ i, stepL r x l (i + 1) = if (stepL r x l i).1 = false then stepL r x l i else (roomB x.w x.h (genL r x (stepL r x l i).2), genL r x (stepL r x l i).2)) := fun _ => rfl
  have HS0 : Hid (stepL r x l 0 = (true, l)) := rfl
  generalize stepL r x l = SL at *
  have CL := hide (fun (v : Value) wx (hx : HdAt wx q r x age g1 g2 v) => (⟨hx.cells, hx.c12⟩ : HdC wx q r x age g1 g2 ∧ wx.cell? ⟨q, 12, none⟩ = some v))
  have FR := hide (fun (v : Value) wx (m : Nat) (hx : HdAt wx q r x age g1 g2 v) => (frozen_of_row wx q m _ _ hx.va : wx.frozen? ⟨q, m, none⟩ = false))
  have H0 := hide hd
  have C0 := hide hc
  have hql := hv.lt
  obtain ⟨⟨_, _, _, _, _, _, _, _, _, _, _, c11⟩, c12⟩ := CL.out _ _ hd
  obtain ⟨RE, hRE⟩ : ∃ RE : Int, RE = if (SL n).1 = true then 0 else 4 := ⟨_, rfl⟩
  obtain ⟨RA, hRA⟩ : ∃ RA : Int, RA = if (SL n).1 = true then age + n else age := ⟨_, rfl⟩
  obtain ⟨RG, hRG⟩ : ∃ RG : List Cl, RG = if (SL n).1 = true then (SL n).2 else l := ⟨_, rfl⟩
  rw [← hRE, ← hRA, ← hRG]
  have HRE := hide hRE
  have HRA := hide hRA
  have HRG := hide hRG
  clear h hd hv s1 s2 hc al sq kin hx hRE hRA hRG
  obtain ⟨V0, hV0⟩ : ∃ V0, V0 = v0 := ⟨_, rfl⟩
  rw [← hV0] at H0 C0
  rw [ev0] at hV0 c12
  have HV0 := hide hV0
  go_enter Tryz.func27, Tryz.ntmps27
  go_wp2_with fail
  clear c11 c12
  go_loopg [6] n (fun gk ii wr => ∃ (i : Nat) (v : Value), i ≤ n ∧ n ≤ i + gk ∧ ii = .int .i64 i ∧ HdAt wr q r x age g1 g2 v ∧ ClAt wr v (SL i).2 ∧ (SL i).1 = true ∧ ClAt wr V0 l ∧ Kp (· = q) w wr)
  case atStart => exact ⟨0, V0, by omega, by omega, rfl, H0.out, by rw [HS0.out]; exact C0.out, by rw [HS0.out], C0.out, Kp.refl _ _⟩
  case round =>
    obtain ⟨i, v, m1, m2, rfl, m3, m4, m5, m6, m7⟩ := hrel
    have M3 := hide m3
    have M4 := hide m4
    have OK := hide m5
    have M6 := hide m6
    have M7 := hide m7
    clear m3 m4 m5 m6 m7
    by_cases hi : i < n
    · have AL := hide (HAL.out i OK.out)
      have BD := hide (HBD.out _ _ AL.out)
      have hsu := HSU.out i
      rw [if_neg (by rw [OK.out]; simp)] at hsu
      have HSI := hide hsu
      clear hsu
      go_wp2_with fail
      refine (HGN.out _ _ _ AL.out ⟨g1, g2, v, M3.out.va, M3.out.s1, M3.out.s2, M4.out⟩).mono ?_
      rintro e w2 ⟨⟨u, rfl, cu⟩, k2⟩
      obtain ⟨adu, capu, rfl, _⟩ := cu.form
      have P3 := hide (M3.out.keep k2)
      have PU := hide cu
      have P6 := hide (M6.out.keep k2 (fun _ _ h => h))
      have P7 := hide (M7.out.trans (k2.mono (T := (· = q)) (fun _ hx => hx.elim)))
      clear k2 cu
      have RMk := hide (HRM.out _ (genL r x (SL i).2) v w2 P3.out PU.out BD.out)
      generalize roomB x.w x.h (genL r x (SL i).2) = rb at *
      generalize genL r x (SL i).2 = GL at *
      go_wp2_with fail
      refine RMk.out.mono ?_
      rintro e w3 ⟨rfl, hw3⟩
      subst w3
      have Q3 := hide P3.out
      have QU := hide PU.out
      have Q6 := hide P6.out
      have Q7 := hide P7.out
      obtain ⟨_, c12⟩ := CL.out _ _ Q3.out
      have f12 := FR.out _ _ 12 Q3.out
      cases rb
      · have HE : Hid (SL n = (false, GL)) := (HSTOP.out (i + 1) (by rw [HSI.out]) n (by omega)).trans HSI.out
        go_wp2_with fail
        go_ret
        refine ⟨by rw [HRE.out, HE.out]; rfl, ?_, Q7.out.setCell (p := ⟨q, 12, none⟩) rfl _⟩
        rw [HRA.out, HRG.out, HE.out]
        rw [← HV0.out]
        have D := Q3.out.setLive V0
        exact ⟨g1, g2, V0, D.va, D.s1, D.s2, Q6.out.other Q3.out.va V0⟩
      · go_wp2_with fail
        go_roundg (gk - 1)
        case measure => omega
        case rel => exact ⟨i + 1, _, by omega, by omega, by go_num, Q3.out.setLive _, by rw [HSI.out]; exact QU.out.other Q3.out.va _, by rw [HSI.out], Q6.out.other Q3.out.va _, Q7.out.setCell (p := ⟨q, 12, none⟩) rfl _⟩
    · have ei : i = n := by omega
      subst ei
      obtain ⟨⟨_, _, _, _, _, _, _, _, _, _, _, c11⟩, c12⟩ := CL.out _ _ M3.out
      have f11 := FR.out _ _ 11 M3.out
      go_wp2_with fail
      go_ret
      refine ⟨by rw [HRE.out, OK.out]; rfl, ?_, M7.out.setCell (p := ⟨q, 11, none⟩) rfl _⟩
      rw [HRA.out, HRG.out, OK.out]
      have D := M3.out.setAge (age + i)
      exact ⟨g1, g2, v, D.va, D.s1, D.s2, M4.out.others M3.out.va 11 _⟩
/-- The document's Step where it is refused by its numbers. -/
theorem xstep_no (q : Nat) (r : Pu.Rule) (x : Pu.Shape) (age : Int) (l : List Cl) (n : Int) (w : World) (h : DocAt w q r x age l) (hage : 0 ≤ age ∧ age ≤ 999999) (hb : n < 0 ∨ 100 < n ∨ 999999 < age + n) :
    Calls Tryz.prog 27 #[.pointer (some ⟨q, 0, none⟩), .int .i64 n] w fun e w' => e = .returned (.int .i64 7) ∧ w' = w := by
  obtain ⟨g1, g2, v, hv, s1, s2, _⟩ := h.at1
  have c11 := (⟨hv, s1, s2⟩ : HdAt w q r x age g1 g2 v).cells.c11
  clear h hv s1 s2
  by_cases h1 : n < 0
  · go_enter Tryz.func27, Tryz.ntmps27
    go_wp2_with fail
    go_ret
    exact ⟨rfl, rfl⟩
  · by_cases h2 : 100 < n
    · go_enter Tryz.func27, Tryz.ntmps27
      go_wp2_with fail
      go_ret
      exact ⟨rfl, rfl⟩
    · have h3 : 999999 < age + n := by omega
      clear hb
      go_enter Tryz.func27, Tryz.ntmps27
      go_wp2_with fail
      go_ret
      exact ⟨rfl, rfl⟩
end Go.Proofs.YthmhjjkmnnmjlaaGreatDoor
namespace Go.Proofs.YthmhjjkmnnmjlaaGreatDoor
open Go.RowKit
open Go.Proofs

set_option maxRecDepth 100000 in
set_option maxHeartbeats 2000000 in
theorem wput_nohas (q : Nat) (r : Pu.Rule) (x : Pu.Shape) (age : Int) (g : Gs) (a b s : Int) (w : World) (h : GsAt w q (preOf r x age) x.w x.h g) (hr : RuleOk r) (h1 : hasB x a b = false) :
    Calls Tryz.prog 19 #[.pointer (some ⟨q, 0, none⟩), .int .i64 a, .int .i64 b, .int .i64 s] w fun e w' => e = .returned (.int .i64 5) ∧ GsAt w' q (preOf r x age) x.w x.h g ∧ Kp (· = q) w w' := by
  have HF := hide (fun wx => has_any x a b wx)
  rw [h1] at HF
  have H : Hid (GrAt w q (preOf r x age) x.w x.h g.l g.t g.S) := h
  have ld := hide (fun j v => H.out.shape hr j v)
  have ROK := hide hr
  have HQ := H.out.lt
  clear h hr h1
  go_enter Tryz.func19, Tryz.ntmps19
  go_wp2_with (refine wpList_load_at rfl 65 _ rfl q 20 rfl (shv x) ld.out _ Tryz.underlying65 rfl info_shape ?_)
  refine (HF.out _).mono ?_
  rintro e w1 ⟨rfl, k1⟩
  have G1 := hide (H.out.keep k1 (fun hx => hx))
  have K1 := hide (k1.mono (T := (· = q)) (fun _ hx => hx.elim))
  have ld1 := hide (fun j v => G1.out.shape ROK.out j v)
  have d20 : w1.cell? ⟨q, 20, none⟩ = some (.int .u8 x.kind) := ld1.out 0 _ rfl
  have d21 : w1.cell? ⟨q, 21, none⟩ = some (.int .i64 x.w) := ld1.out 1 _ rfl
  have d22 : w1.cell? ⟨q, 22, none⟩ = some (.int .i64 x.h) := ld1.out 2 _ rfl
  have d23 : w1.cell? ⟨q, 23, none⟩ = some (.int .i64 x.ws) := ld1.out 3 _ rfl
  have d24 : w1.cell? ⟨q, 24, none⟩ = some (.int .i64 x.hs) := ld1.out 4 _ rfl
  have d25 : w1.cell? ⟨q, 25, none⟩ = some (.bool x.wst) := ld1.out 5 _ rfl
  have d26 : w1.cell? ⟨q, 26, none⟩ = some (.bool x.hst) := ld1.out 6 _ rfl
  clear k1
  go_wp2_with fail
  go_ret
  exact ⟨rfl, G1.out, K1.out⟩

set_option maxRecDepth 100000 in
set_option maxHeartbeats 2000000 in
theorem wput_nonear (q : Nat) (r : Pu.Rule) (x : Pu.Shape) (age : Int) (g : Gs) (a b s : Int) (w : World) (h : GsAt w q (preOf r x age) x.w x.h g) (hr : RuleOk r) (h1 : hasB x a b = true) (h2 : nearB x a b = false) :
    Calls Tryz.prog 19 #[.pointer (some ⟨q, 0, none⟩), .int .i64 a, .int .i64 b, .int .i64 s] w fun e w' => e = .returned (.int .i64 5) ∧ GsAt w' q (preOf r x age) x.w x.h g ∧ Kp (· = q) w w' := by
  have HF := hide (fun wx => has_any x a b wx)
  rw [h1] at HF
  have HN := hide (fun wx => near_any x a b wx)
  rw [h2] at HN
  have H : Hid (GrAt w q (preOf r x age) x.w x.h g.l g.t g.S) := h
  have ld := hide (fun j v => H.out.shape hr j v)
  have ROK := hide hr
  have HQ := H.out.lt
  clear h hr h1 h2
  go_enter Tryz.func19, Tryz.ntmps19
  go_wp2_with (refine wpList_load_at rfl 65 _ rfl q 20 rfl (shv x) ld.out _ Tryz.underlying65 rfl info_shape ?_)
  refine (HF.out _).mono ?_
  rintro e w1 ⟨rfl, k1⟩
  have G1 := hide (H.out.keep k1 (fun hx => hx))
  have K1 := hide (k1.mono (T := (· = q)) (fun _ hx => hx.elim))
  have ld1 := hide (fun j v => G1.out.shape ROK.out j v)
  have d20 : w1.cell? ⟨q, 20, none⟩ = some (.int .u8 x.kind) := ld1.out 0 _ rfl
  have d21 : w1.cell? ⟨q, 21, none⟩ = some (.int .i64 x.w) := ld1.out 1 _ rfl
  have d22 : w1.cell? ⟨q, 22, none⟩ = some (.int .i64 x.h) := ld1.out 2 _ rfl
  have d23 : w1.cell? ⟨q, 23, none⟩ = some (.int .i64 x.ws) := ld1.out 3 _ rfl
  have d24 : w1.cell? ⟨q, 24, none⟩ = some (.int .i64 x.hs) := ld1.out 4 _ rfl
  have d25 : w1.cell? ⟨q, 25, none⟩ = some (.bool x.wst) := ld1.out 5 _ rfl
  have d26 : w1.cell? ⟨q, 26, none⟩ = some (.bool x.hst) := ld1.out 6 _ rfl
  clear k1
  go_wp2_with fail
  refine (HN.out _).mono ?_
  rintro e w2 ⟨rfl, k2⟩
  have G2 := hide (G1.out.keep k2 (fun hx => hx))
  have K2 := hide (K1.out.trans (k2.mono (T := (· = q)) (fun _ hx => hx.elim)))
  have ld2 := hide (fun j v => G2.out.rule ROK.out j v)
  clear k2 d20 d21 d22 d23 d24 d25 d26
  go_wp2_with fail
  go_ret
  exact ⟨rfl, G2.out, K2.out⟩

set_option maxRecDepth 100000 in
set_option maxHeartbeats 2000000 in
theorem wput_nostate (q : Nat) (r : Pu.Rule) (x : Pu.Shape) (age : Int) (g : Gs) (a b s : Int) (w : World) (h : GsAt w q (preOf r x age) x.w x.h g) (hr : RuleOk r) (h1 : hasB x a b = true) (h2 : nearB x a b = true) (h3 : ¬ (0 ≤ s ∧ s < r.states)) :
    Calls Tryz.prog 19 #[.pointer (some ⟨q, 0, none⟩), .int .i64 a, .int .i64 b, .int .i64 s] w fun e w' => e = .returned (.int .i64 6) ∧ GsAt w' q (preOf r x age) x.w x.h g ∧ Kp (· = q) w w' := by
  have HF := hide (fun wx => has_any x a b wx)
  rw [h1] at HF
  have HN := hide (fun wx => near_any x a b wx)
  rw [h2] at HN
  have HR := hide (fun wx => rhas_any r hr s wx)
  rw [decide_eq_false h3] at HR
  have H : Hid (GrAt w q (preOf r x age) x.w x.h g.l g.t g.S) := h
  have ld := hide (fun j v => H.out.shape hr j v)
  have ROK := hide hr
  have HQ := H.out.lt
  clear h hr h1 h2 h3
  go_enter Tryz.func19, Tryz.ntmps19
  go_wp2_with (refine wpList_load_at rfl 65 _ rfl q 20 rfl (shv x) ld.out _ Tryz.underlying65 rfl info_shape ?_)
  refine (HF.out _).mono ?_
  rintro e w1 ⟨rfl, k1⟩
  have G1 := hide (H.out.keep k1 (fun hx => hx))
  have K1 := hide (k1.mono (T := (· = q)) (fun _ hx => hx.elim))
  have ld1 := hide (fun j v => G1.out.shape ROK.out j v)
  have d20 : w1.cell? ⟨q, 20, none⟩ = some (.int .u8 x.kind) := ld1.out 0 _ rfl
  have d21 : w1.cell? ⟨q, 21, none⟩ = some (.int .i64 x.w) := ld1.out 1 _ rfl
  have d22 : w1.cell? ⟨q, 22, none⟩ = some (.int .i64 x.h) := ld1.out 2 _ rfl
  have d23 : w1.cell? ⟨q, 23, none⟩ = some (.int .i64 x.ws) := ld1.out 3 _ rfl
  have d24 : w1.cell? ⟨q, 24, none⟩ = some (.int .i64 x.hs) := ld1.out 4 _ rfl
  have d25 : w1.cell? ⟨q, 25, none⟩ = some (.bool x.wst) := ld1.out 5 _ rfl
  have d26 : w1.cell? ⟨q, 26, none⟩ = some (.bool x.hst) := ld1.out 6 _ rfl
  clear k1
  go_wp2_with fail
  refine (HN.out _).mono ?_
  rintro e w2 ⟨rfl, k2⟩
  have G2 := hide (G1.out.keep k2 (fun hx => hx))
  have K2 := hide (K1.out.trans (k2.mono (T := (· = q)) (fun _ hx => hx.elim)))
  have ld2 := hide (fun j v => G2.out.rule ROK.out j v)
  clear k2 d20 d21 d22 d23 d24 d25 d26
  go_wp2_with (refine wpList_load_at rfl 63 _ rfl q 0 rfl (rulev r) ld2.out _ Tryz.underlying63 rfl (by rw [info_rule, rulev_size ROK.out]) ?_)
  refine (HR.out _).mono ?_
  rintro e w3 ⟨rfl, k3⟩
  have G3 := hide (G2.out.keep k3 (fun hx => hx))
  have K3 := hide (K2.out.trans (k3.mono (T := (· = q)) (fun _ hx => hx.elim)))
  clear k3
  go_wp2_with fail
  go_ret
  exact ⟨rfl, G3.out, K3.out⟩

set_option maxRecDepth 100000 in
set_option maxHeartbeats 2000000 in
theorem wput_in (q : Nat) (r : Pu.Rule) (x : Pu.Shape) (age : Int) (g : Gs) (a b s : Int) (w : World) (h : GsAt w q (preOf r x age) x.w x.h g) (hr : RuleOk r) (hx : Pu.ShapeOk x) (hgl : -9999 ≤ g.l ∧ g.l ≤ 9999) (hgt : -9999 ≤ g.t ∧ g.t ≤ 9999) (h1 : hasB x a b = true) (h2 : nearB x a b = true) (h3 : 0 ≤ s ∧ s < r.states) :
    Calls Tryz.prog 19 #[.pointer (some ⟨q, 0, none⟩), .int .i64 a, .int .i64 b, .int .i64 s] w fun e w' => e = .returned (.int .i64 (if (putG x.w x.h g a b s).1 = true then 0 else 4)) ∧ GsAt w' q (preOf r x age) x.w x.h (putG x.w x.h g a b s).2 ∧ Kp (· = q) w w' := by
  have HF := hide (fun wx => has_any x a b wx)
  rw [h1] at HF
  have HN := hide (fun wx => near_any x a b wx)
  rw [h2] at HN
  have HR := hide (fun wx => rhas_any r hr s wx)
  rw [decide_eq_true h3] at HR
  have sp := spot_of hx h1 h2
  have HP := hide (fun (wx : World) (hx' : GsAt wx q (preOf r x age) x.w x.h g) => put_exact q (preOf r x age) x.w x.h g a b s wx hx' hx.w0 hx.w12 hx.h0 hx.h12 (by omega) (by omega) (by omega) (by omega) (by have := sp.xb; omega) (by have := sp.yb; omega))
  obtain ⟨pb, hpb⟩ : ∃ pb, (putG x.w x.h g a b s).1 = pb := ⟨_, rfl⟩
  rw [hpb] at HP ⊢
  clear hpb sp
  have H : Hid (GrAt w q (preOf r x age) x.w x.h g.l g.t g.S) := h
  have ld := hide (fun j v => H.out.shape hr j v)
  have ROK := hide hr
  have HQ := H.out.lt
  clear h hr h1 hx h2 h3 hgl hgt
  go_enter Tryz.func19, Tryz.ntmps19
  go_wp2_with (refine wpList_load_at rfl 65 _ rfl q 20 rfl (shv x) ld.out _ Tryz.underlying65 rfl info_shape ?_)
  refine (HF.out _).mono ?_
  rintro e w1 ⟨rfl, k1⟩
  have G1 := hide (H.out.keep k1 (fun hx => hx))
  have K1 := hide (k1.mono (T := (· = q)) (fun _ hx => hx.elim))
  have ld1 := hide (fun j v => G1.out.shape ROK.out j v)
  have d20 : w1.cell? ⟨q, 20, none⟩ = some (.int .u8 x.kind) := ld1.out 0 _ rfl
  have d21 : w1.cell? ⟨q, 21, none⟩ = some (.int .i64 x.w) := ld1.out 1 _ rfl
  have d22 : w1.cell? ⟨q, 22, none⟩ = some (.int .i64 x.h) := ld1.out 2 _ rfl
  have d23 : w1.cell? ⟨q, 23, none⟩ = some (.int .i64 x.ws) := ld1.out 3 _ rfl
  have d24 : w1.cell? ⟨q, 24, none⟩ = some (.int .i64 x.hs) := ld1.out 4 _ rfl
  have d25 : w1.cell? ⟨q, 25, none⟩ = some (.bool x.wst) := ld1.out 5 _ rfl
  have d26 : w1.cell? ⟨q, 26, none⟩ = some (.bool x.hst) := ld1.out 6 _ rfl
  clear k1
  go_wp2_with fail
  refine (HN.out _).mono ?_
  rintro e w2 ⟨rfl, k2⟩
  have G2 := hide (G1.out.keep k2 (fun hx => hx))
  have K2 := hide (K1.out.trans (k2.mono (T := (· = q)) (fun _ hx => hx.elim)))
  have ld2 := hide (fun j v => G2.out.rule ROK.out j v)
  clear k2 d20 d21 d22 d23 d24 d25 d26
  go_wp2_with (refine wpList_load_at rfl 63 _ rfl q 0 rfl (rulev r) ld2.out _ Tryz.underlying63 rfl (by rw [info_rule, rulev_size ROK.out]) ?_)
  refine (HR.out _).mono ?_
  rintro e w3 ⟨rfl, k3⟩
  have G3 := hide (G2.out.keep k3 (fun hx => hx))
  have K3 := hide (K2.out.trans (k3.mono (T := (· = q)) (fun _ hx => hx.elim)))
  clear k3
  go_wp2_with fail
  refine (HP.out _ G3.out).mono ?_
  rintro e w4 ⟨rfl, g4, k4⟩
  have G4 := hide g4
  have K4 := hide (K3.out.trans k4)
  clear g4 k4
  cases pb
  · go_wp2_with fail
    go_ret
    exact ⟨rfl, G4.out, K4.out⟩
  · go_wp2_with fail
    go_ret
    exact ⟨rfl, G4.out, K4.out⟩
end Go.Proofs.YthmhjjkmnnmjlaaGreatDoor
namespace Go.Proofs.YthmhjjkmnnmjlaaGreatDoor
open Go.RowKit
open Go.Proofs

/-- A world's Count. -/
theorem wcount_any (q : Nat) (pre : Array Value) (gw gh l t : Int) (S : List Int) (w : World) (h : GrAt w q pre gw gh l t S) :
    Calls Tryz.prog 21 #[.pointer (some ⟨q, 0, none⟩)] w fun e w' => e = .returned (.int .i64 (countP S)) ∧ w' = w := by
  go_enter Tryz.func21, Tryz.ntmps21
  go_wp2_with fail
  refine (gcount_any q pre gw gh l t S _ h).mono ?_
  rintro e w1 ⟨rfl, hw⟩
  subst w1
  go_wp2_with fail
  go_ret
  exact ⟨rfl, rfl⟩

end Go.Proofs.YthmhjjkmnnmjlaaGreatDoor
namespace Go.Proofs.YthmhjjkmnnmjlaaGreatDoor
open Go.RowKit
open Go.Proofs

/-- A world of the program's and one of the document's lie there, and are alike. -/
structure Both (w : World) (q1 q2 : Nat) (r : Pu.Rule) (x : Pu.Shape) (age : Int) (g : Gs) (l : List Cl) : Prop where
  gs : GsAt w q1 (preOf r x age) x.w x.h g
  doc : DocAt w q2 r x age l
  al : Alike r x g l
  kin : Kin r x
  age : 0 ≤ age ∧ age ≤ 999999
theorem Alike.clbd {r : Pu.Rule} {x : Pu.Shape} (hx : Pu.ShapeOk x) {g : Gs} {l : List Cl} (h : Alike r x g l) : ClBd l := fun c hc => by
  have := h.bd hx c hc
  omega
theorem Both.keep {w w' : World} {q1 q2 : Nat} {r : Pu.Rule} {x : Pu.Shape} {age : Int} {g : Gs} {l : List Cl} (h : Both w q1 q2 r x age g l) (k : Kp (fun _ => False) w w') : Both w' q1 q2 r x age g l :=
  ⟨GrAt.keep h.gs k (fun h => h), h.doc.keep k, h.al, h.kin, h.age⟩
/-- Both tell the same of a cell. -/
theorem both_get {q1 q2 : Nat} {r : Pu.Rule} {x : Pu.Shape} {age : Int} {g : Gs} {l : List Cl} (al : Alike r x g l) (kin : Kin r x) (X Y : Int) (hX : -9223372036854775808 ≤ X ∧ X ≤ 9223372036854775807) (hY : -9223372036854775808 ≤ Y ∧ Y ≤ 9223372036854775807) :
    (∀ w, Both w q1 q2 r x age g l → Calls Tryz.prog 17 #[.pointer (some ⟨q1, 0, none⟩), .int .i64 X, .int .i64 Y] w fun e w' => e = .returned (.int .i64 (atL l (getX x X Y) (getY x X Y))) ∧ Kp (fun _ => False) w w') ∧
    (∀ w, Both w q1 q2 r x age g l → Calls Tryz.prog 18 #[.pointer (some ⟨q2, 0, none⟩), .int .i64 X, .int .i64 Y] w fun e w' => e = .returned (.int .i64 (atL l (getX x X Y) (getY x X Y))) ∧ Kp (fun _ => False) w w') := by
  have hx := kin.shape
  have lb := al.gs.lb
  have tb := al.gs.tb
  refine ⟨fun w h => ?_, fun w h => xget_any q2 r x age l X Y w h.doc hx kin.kind kin.one (by have := al.len hx; omega) hX hY⟩
  unfold getX getY
  by_cases e : x.kind = 84 ∨ x.kind = 75 ∨ x.kind = 67
  · rw [if_pos e, if_pos e, ← al.same]
    exact wget_fold q1 r x age g.l g.t g.S X Y w h.gs kin.rule (foldok_of hx kin.kind) e hX hY (by omega) (by omega) (by omega) (by omega)
  · rw [if_neg e, if_neg e]
    have hk : x.kind = 80 ∨ x.kind = 83 := by
      have := hx.kind
      simp at this
      omega
    have hv : (if hasB x X Y = true then getP x.w x.h g.l g.t g.S X Y else 0) = atL l X Y := by
      by_cases hh : hasB x X Y = true
      · rw [if_pos hh]
        exact al.same X Y
      · rw [if_neg hh]
        by_cases z : atL l X Y = 0
        · exact z.symm
        · obtain ⟨d, hd, e1, e2⟩ := atL_ne z
          obtain ⟨_, m1, m2⟩ := al.mem d hd
          rw [e1] at m1
          rw [e2] at m2
          exact absurd (by unfold hasB; rw [m1, m2]; rfl) hh
    rw [← hv]
    exact wget_no q1 r x age g.l g.t g.S X Y w h.gs kin.rule hx hk (by omega) (by omega) (by omega) (by omega)
/-- Both count the same. -/
theorem both_count {q1 q2 : Nat} {r : Pu.Rule} {x : Pu.Shape} {age : Int} {g : Gs} {l : List Cl} (w : World) (h : Both w q1 q2 r x age g l) :
    (Calls Tryz.prog 21 #[.pointer (some ⟨q1, 0, none⟩)] w fun e w' => e = .returned (.int .i64 l.length) ∧ w' = w) ∧ (Calls Tryz.prog 22 #[.pointer (some ⟨q2, 0, none⟩)] w fun e w' => e = .returned (.int .i64 l.length) ∧ w' = w) := by
  refine ⟨?_, xcount_any q2 r x age l w h.doc⟩
  have := wcount_any q1 _ _ _ _ _ _ w h.gs
  rwa [h.al.count h.kin.shape] at this
/-- Both answer a Put the same, and are alike behind it. -/
theorem both_put {q1 q2 : Nat} {r : Pu.Rule} {x : Pu.Shape} {age : Int} {g : Gs} {l : List Cl} (al : Alike r x g l) (kin : Kin r x) (X Y s : Int) :
    ∃ g' l', Alike r x g' l' ∧
    (∀ w, GsAt w q1 (preOf r x age) x.w x.h g → Calls Tryz.prog 19 #[.pointer (some ⟨q1, 0, none⟩), .int .i64 X, .int .i64 Y, .int .i64 s] w fun e w' => e = .returned (.int .i64 (putE r x l X Y s)) ∧ GsAt w' q1 (preOf r x age) x.w x.h g' ∧ Kp (· = q1) w w') ∧
    (∀ w, DocAt w q2 r x age l → Calls Tryz.prog 20 #[.pointer (some ⟨q2, 0, none⟩), .int .i64 X, .int .i64 Y, .int .i64 s] w fun e w' => e = .returned (.int .i64 (putE r x l X Y s)) ∧ DocAt w' q2 r x age l' ∧ Kp (· = q2) w w') := by
  have hx := kin.shape
  have hlen := al.len hx
  have hdoc := fun w (h : DocAt w q2 r x age l) => xput_any q2 r x age l X Y s w h hx (by omega) (al.clbd hx)
  by_cases h1 : hasB x X Y = true
  · by_cases h2 : nearB x X Y = true
    · by_cases h3 : 0 ≤ s ∧ s < r.states
      · obtain ⟨p1, p2, p3⟩ := alike_put hx al h1 h2 h3
        have pe : putE r x l X Y s = if roomB x.w x.h (putC X Y s l) = true then 0 else 4 := by unfold putE; rw [if_pos ⟨h1, h2⟩, if_pos h3]
        by_cases c : roomB x.w x.h (putC X Y s l) = true
        · rw [if_pos c] at pe
          refine ⟨(putG x.w x.h g X Y s).2, putC X Y s l, p2 c, fun w h => ?_, fun w h => ?_⟩
          · have := wput_in q1 r x age g X Y s w h kin.rule hx al.gs.lb al.gs.tb h1 h2 h3
            rw [p1, if_pos c] at this
            rw [pe]
            exact this
          · have := hdoc w h
            rw [pe, if_pos rfl] at this
            rw [pe]
            exact this
        · rw [if_neg c] at pe
          have c' : roomB x.w x.h (putC X Y s l) = false := by simpa using c
          refine ⟨g, l, al, fun w h => ?_, fun w h => ?_⟩
          · have := wput_in q1 r x age g X Y s w h kin.rule hx al.gs.lb al.gs.tb h1 h2 h3
            rw [p1, if_neg c, p3 c'] at this
            rw [pe]
            exact this
          · have := hdoc w h
            rw [pe, if_neg (by omega)] at this
            rw [pe]
            exact this
      · have pe : putE r x l X Y s = 6 := by unfold putE; rw [if_pos ⟨h1, h2⟩, if_neg h3]
        refine ⟨g, l, al, fun w h => ?_, fun w h => ?_⟩
        · rw [pe]
          exact wput_nostate q1 r x age g X Y s w h kin.rule h1 h2 h3
        · have := hdoc w h
          rw [pe, if_neg (by omega)] at this
          rw [pe]
          exact this
    · have h2' : nearB x X Y = false := by simpa using h2
      have pe : putE r x l X Y s = 5 := by unfold putE; rw [if_neg (fun h => h2 h.2)]
      refine ⟨g, l, al, fun w h => ?_, fun w h => ?_⟩
      · rw [pe]
        exact wput_nonear q1 r x age g X Y s w h kin.rule h1 h2'
      · have := hdoc w h
        rw [pe, if_neg (by omega)] at this
        rw [pe]
        exact this
  · have h1' : hasB x X Y = false := by simpa using h1
    have pe : putE r x l X Y s = 5 := by unfold putE; rw [if_neg (fun h => h1 h.1)]
    refine ⟨g, l, al, fun w h => ?_, fun w h => ?_⟩
    · rw [pe]
      exact wput_nohas q1 r x age g X Y s w h kin.rule h1'
    · have := hdoc w h
      rw [pe, if_neg (by omega)] at this
      rw [pe]
      exact this
/-- Both save the same. -/
theorem both_save {q1 q2 : Nat} {r : Pu.Rule} {x : Pu.Shape} {age : Int} {g : Gs} {l : List Cl} (al : Alike r x g l) (kin : Kin r x) (hage : 0 ≤ age ∧ age ≤ 999999) :
    (∀ w, Both w q1 q2 r x age g l → Tab w → Calls Tryz.prog 23 #[.pointer (some ⟨q1, 0, none⟩)] w fun e w' => e = .returned (.string (ustr (xsaveT r x age l))) ∧ Kp (fun _ => False) w w') ∧
    (∀ w, Both w q1 q2 r x age g l → Calls Tryz.prog 24 #[.pointer (some ⟨q2, 0, none⟩)] w fun e w' => e = .returned (.string (ustr (xsaveT r x age l))) ∧ Kp (fun _ => False) w w') := by
  have hx := kin.shape
  have st := kin.st
  have kd := hx.kind
  have ws := hx.ws
  have hs := hx.hs
  have w0 := hx.w0
  have w12 := hx.w12
  have h0 := hx.h0
  have h12 := hx.h12
  have lb := al.gs.lb
  have tb := al.gs.tb
  have one := kin.one
  have hkd : 0 ≤ x.kind ∧ x.kind < 256 := by
    simp at kd
    omega
  have hb : HdB r x age := ⟨by have := kin.ar; omega, st, hkd, by omega, by omega, by omega, by omega, hage⟩
  have hsame : saveT r x age g.l g.t g.S = ustr (xsaveT r x age l) := save_eq r age al.same (fun d hd => (al.mem d hd).1) st.2 hx.ws.1 (fun e => (one.wst e).1) hx.hs.1 (fun e => (one.hst e).2.2)
  refine ⟨fun w h ht => ?_, fun w h => xsave_any q2 r x age l w h.doc hb one (by have := al.len hx; omega) (al.clbd hx) (at_bd st.2 (fun d hd => (al.mem d hd).1)) (box_small hx (fun d hd => (al.mem d hd).2) al.rm)⟩
  have := save_any q1 r x age g.l g.t g.S w h.gs ht kin.rule hb.ar st hkd ⟨w0, w12⟩ ⟨h0, h12⟩ hb.ws hb.hs ⟨hage.1, by omega⟩ (by omega) (by omega) (by omega) (by omega)
  rwa [hsame] at this
/-- What Load makes lies there, and is alike. -/
theorem Duo.both {w : World} {q1 q2 : Nat} {p : Pu.Parts} (h : Duo w q1 q2 p) (hk : KindB p.shape) : Both w q1 q2 p.rule p.shape p.age (laidG p noS).2 (liveOf p) :=
  ⟨h.gs, h.doc, alike_load h.ok noS noS_len noS_zero h.e, ⟨h.rule, h.ok.states, h.ar, h.ok.shape, hk, h.one⟩, h.ok.age⟩
end Go.Proofs.YthmhjjkmnnmjlaaGreatDoor
