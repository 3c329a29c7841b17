import Derived.Test.YtiimimclbkjcbaaNf
import Derived.Test.YtiimimclbkjcbaaGj
namespace Go.Proofs.Ytiimimclbkjcbaa
open Go.RowKit
open Go.Proofs

theorem put_gridE {pre : Array Value} (hp : pre.size = 28) (a b c d gw gh l t : Int) {S S' : List Int} (hS : S.length = 768) (hS' : S'.length = 768) : splice (grv pre a b c d S) 28 (gnv gw gh l t S').toList = grv pre gw gh l t S' := by
  apply Array.ext_getElem?
  intro m
  have hg := gnv_size gw gh l t hS'
  rw [splice_get _ _ _ _ (by rw [grv_size hp _ _ _ _ _ hS, Array.length_toList, hg]; omega), grv_get hp, grv_get hp, Array.length_toList, hg]
  by_cases h1 : m < 28
  · rw [if_pos h1, if_pos h1, if_pos h1]
  · rw [if_neg h1, if_neg h1, if_neg h1]
    by_cases h2 : m < 800
    · rw [if_pos h2, Array.getElem?_toList, gnv_get]
      by_cases h3 : m < 32
      · rw [if_pos (by omega), if_pos h3]
      · rw [if_neg (by omega), if_neg h3]
        congr 1
    · rw [if_neg h2, if_neg (by omega), if_neg (by omega)]
      rw [Array.getElem?_eq_none (by simp [intsv, hS]; omega), Array.getElem?_eq_none (by simp [intsv, hS']; omega)]
theorem GrAt.grid {w : World} {q : Nat} {pre : Array Value} {gw gh l t : Int} {S : List Int} (h : GrAt w q pre gw gh l t S) (j : Nat) (v : Value) (hv : (gnv gw gh l t S)[j]? = some v) : w.cell? ⟨q, 28 + j, none⟩ = some v := by
  rw [cell_of_row w q _ _ _ _ h.row, grv_get h.psz, if_neg (by omega)]
  rw [gnv_get] at hv
  by_cases h1 : j < 4
  · rw [if_pos h1] at hv
    rw [if_pos (by omega), show 28 + j - 28 = j by omega]
    exact hv
  · rw [if_neg h1] at hv
    rw [if_neg (by omega), show 28 + j - 32 = j - 4 by omega]
    exact hv
theorem putCells_in (vs : List Value) : ∀ {S : Nat → Prop} {a w : World} (g k : Nat), Kp S a w → S g → Kp S a (putCells w g k vs) := by
  induction vs with
  | nil => intro S a w g k h _; exact h
  | cons v vs ih => intro S a w g k h hs; exact ih _ _ (h.setCell (p := ⟨g, k, none⟩) hs v) hs

set_option maxRecDepth 100000 in
set_option maxHeartbeats 1000000 in
/-- Step, whatever the shape. -/
theorem wstep_core' (Z : List Int) (hZ : Z.length = 768) (hz0 : (Try.prog.info? 61).map (·.zero) = some (some (.agg (gnew 0 0 Z))))
    (hnew : ∀ gw gh w, Calls Try.prog 43 #[.int .i64 gw, .int .i64 gh] w fun e w' => e = .returned (.agg (gnew gw gh Z)) ∧ Kp (fun _ => False) w w') (hZ0 : Z = noS)
    (q : Nat) (r : Pu.Rule) (x : Pu.Shape) (age : Int) (g : Gs) (n : Nat) (w : World) (h : GsAt w q (preOf r x age) x.w x.h g) (hr : RuleOk r) (hx : Pu.ShapeOk x) (hfo : foldsB x → FoldOk x)
    (ha : r.around = 77 ∨ r.around = 86 ∨ r.around = 72) (h2 : 2 ≤ r.states) (h9 : r.states ≤ 9) (ho : GsOk r.states x.w x.h g) (hn : n ≤ 100) (hage : 0 ≤ age) (hage2 : age + n ≤ 999999) :
    Calls Try.prog 23 #[.pointer (some ⟨q, 0, none⟩), .int .i64 n] w fun e w' => e = .returned (.int .i64 (if (stepG r x g n).1 = true then 0 else 4)) ∧ GsAt w' q (preOf r x (if (stepG r x g n).1 = true then age + n else age)) x.w x.h (if (stepG r x g n).1 = true then (stepG r x g n).2 else g) ∧ Kp (· = q) w w' := by
  have HN := hide (fun (wx : World) (g2 : Gs) (ho2 : GsOk r.states x.w x.h g2) (hg : GsAt wx q (preOf r x age) x.w x.h g2) => wnext_exact Z hZ hz0 hnew q r x age g2 wx hg hr hx hfo ha h2 h9 ho2 hZ0)
  have HOK := hide (fun i => stepG_ok h2 hx ho i)
  have HSTOP := hide (fun (k : Nat) (hf : (stepG r x g k).1 = false) (m : Nat) (hm : k ≤ m) => stepG_stop hf m hm)
  have HSU : Hid (∀ i, stepG r x g (i + 1) = if (stepG r x g i).1 = false then stepG r x g i else nextG r x (stepG r x g i).2) := fun _ => rfl
  have HS0 : Hid (stepG r x g 0 = (true, g)) := rfl
  generalize stepG r x g = SG at *
  have NOK := hide (fun (g2 : Gs) (ho2 : GsOk r.states x.w x.h g2) => (nextG_ok h2 hx ho2).len)
  have H : Hid (GrAt w q (preOf r x age) x.w x.h g.l g.t g.S) := h
  have ROK := hide hr
  have HZL := hide hZ
  have HZ := hide hz0
  have hq := H.out.lt
  have GL := hide ho.len
  have ldg := hide (fun j v => H.out.grid j v)
  have c27 := H.out.age hr
  have PS := hide (preOf_size ROK.out x age)
  generalize nextG r x = NX at *
  obtain ⟨RE, hRE⟩ : ∃ RE : Int, RE = if (SG n).1 = true then 0 else 4 := ⟨_, rfl⟩
  obtain ⟨RA, hRA⟩ : ∃ RA : Int, RA = if (SG n).1 = true then age + n else age := ⟨_, rfl⟩
  obtain ⟨RG, hRG⟩ : ∃ RG : Gs, RG = if (SG n).1 = true then (SG n).2 else g := ⟨_, rfl⟩
  rw [← hRE, ← hRA, ← hRG]
  have HRE := hide hRE
  have HRA := hide hRA
  have HRG := hide hRG
  clear h hr hx hfo ha h2 h9 ho hz0 hZ hnew hZ0 hRE hRA hRG
  go_enter Try.func23, Try.ntmps23
  go_wp2_with (first
    | (refine wpList_load_at rfl 61 _ rfl q 28 rfl (gnv x.w x.h g.l g.t g.S) ldg.out _ Try.underlying61 rfl (by rw [info_grid, gnv_size _ _ _ _ GL.out]) ?_)
    | (refine wpList_alloc_row rfl 61 rfl (gnew 0 0 Z) HZ.out ?_
       intro w1 hw1
       have A1 : Hid (w1.heap[w.heap.size]? = some (.cells (gnew 0 0 Z) 61 (0, 0))) := by rw [hw1]; exact heap_alloc_new _ _
       have K1 : Hid (Kp (fun _ => False) w w1) := by rw [hw1]; exact (Kp.refl _ _).alloc _
       clear hw1)
    | (refine wpList_store_row_g rfl 61 _ _ rfl w.heap.size (gnv x.w x.h g.l g.t g.S) rfl rfl 61 (gnew 0 0 Z) A1.out (by rw [info_grid, gnv_size _ _ _ _ GL.out]) (by rw [gnew_size _ _ HZL.out, gnv_size _ _ _ _ GL.out]) (gnv_one _ _ _ _ _) ?_
       intro w2 hw2
       have A2 : Hid (w2.heap[w.heap.size]? = some (.cells (gnv x.w x.h g.l g.t g.S) 61 (0, 0))) := by rw [hw2]; exact setRow_heap _ _ _ _ _ _ A1.out
       have K2 : Hid (Kp (fun _ => False) w w2) := by rw [hw2]; exact K1.out.setRowNew (Nat.le_refl _) _
       clear hw2))
  have G2 : Hid (GsAt w2 q (preOf r x age) x.w x.h (SG 0).2) := by
    show GsAt _ _ _ _ _ _
    rw [HS0.out]
    exact H.out.keep K2.out (fun hx => hx)
  have KQ2 := hide (K2.out.mono (T := (· = q)) (fun _ hx => hx.elim))
  clear c27 K2 A1 K1
  go_loopg [6] n (fun gk ii wr => ∃ i : Nat, i ≤ n ∧ n ≤ i + gk ∧ ii = .int .i64 i ∧ GsAt wr q (preOf r x age) x.w x.h (SG i).2 ∧ (SG i).1 = true ∧ wr.heap[w.heap.size]? = some (.cells (gnv x.w x.h g.l g.t g.S) 61 (0, 0)) ∧ Kp (· = q) w wr)
  case atStart => exact ⟨0, by omega, by omega, rfl, G2.out, by rw [HS0.out], A2.out, KQ2.out⟩
  case round =>
    obtain ⟨i, g1, g2, rfl, m2, ok2, a2, k2⟩ := hrel
    have G3 := hide m2
    have OK3 := hide ok2
    have A3 := hide a2
    have K3 := hide k2
    clear m2 k2 ok2 a2
    by_cases hi : i < n
    · go_wp2_with fail
      refine (HN.out _ (SG i).2 (HOK.out i) G3.out).mono ?_
      have hsu := HSU.out i
      rw [if_neg (by rw [OK3.out]; simp)] at hsu
      rw [← hsu]
      have HLO := hide (HOK.out i).len
      have HLN := hide (HOK.out (i + 1)).len
      clear hsu
      rintro e w4 ⟨rfl, k4⟩
      have hs4 := k4.size
      have G4 : Hid (GsAt w4 q (preOf r x age) x.w x.h (SG i).2) := GrAt.keep G3.out k4 (fun hx => hx)
      have A4 := hide (k4.row A3.out (fun hx => hx))
      have K4 := hide (K3.out.trans (k4.mono (T := (· = q)) (fun _ hx => hx.elim)))
      have hq4 : q < w4.heap.size := GrAt.lt G4.out
      have hw4 := (Array.getElem?_eq_some_iff.1 A4.out).1
      clear k4
      have HST := hide (HSTOP.out (i + 1))
      generalize hT : SG (i + 1) = T at *
      have HT := hide hT
      clear hT
      obtain ⟨tb, tg⟩ := T
      simp only at HLN ⊢
      cases tb
      · have HE : Hid (SG n = (false, tg)) := HST.out rfl n (by omega)
        go_wp2_with (first
          | (refine wpList_alloc_row rfl 61 rfl (gnew 0 0 Z) HZ.out ?_
             intro w5 hw5
             have A5 : Hid (w5.heap[w4.heap.size]? = some (.cells (gnew 0 0 Z) 61 (0, 0))) := by rw [hw5]; exact heap_alloc_new _ _
             have K5 : Hid (Kp (fun _ => False) w4 w5) := by rw [hw5]; exact (Kp.refl _ _).alloc _
             clear hw5)
          | (refine wpList_store_row_g rfl 61 _ _ rfl w4.heap.size (gnv x.w x.h tg.l tg.t tg.S) rfl rfl 61 (gnew 0 0 Z) A5.out (by rw [info_grid, gnv_size _ _ _ _ HLN.out]) (by rw [gnew_size _ _ HZL.out, gnv_size _ _ _ _ HLN.out]) (gnv_one _ _ _ _ _) ?_
             intro w6 hw6
             have K6 : Kp (fun _ => False) w4 w6 := by rw [hw6]; exact K5.out.setRowNew (Nat.le_refl _) _
             have G6 : Hid (GsAt w6 q (preOf r x age) x.w x.h (SG i).2) := GrAt.keep G4.out K6 (fun hx => hx)
             have F6 := hide (K6.row A4.out (fun hx => hx))
             have KQ6 := hide (K4.out.trans (K6.mono (T := (· = q)) (fun _ hx => hx.elim)))
             clear hw6 K6)
          | (refine wpList_load_row rfl 61 _ rfl w.heap.size rfl 61 (gnv x.w x.h g.l g.t g.S) (0, 0) _ F6.out Try.underlying61 rfl (by rw [info_grid, gnv_size _ _ _ _ GL.out]) ?_)
          | (refine wpList_store_at_g rfl 61 _ _ rfl q 28 (gnv x.w x.h g.l g.t g.S) rfl rfl 63 _ G6.out.row (by rw [info_grid, gnv_size _ _ _ _ GL.out]) (by rw [gnv_size _ _ _ _ GL.out, grv_size PS.out _ _ _ _ _ HLO.out]; omega) (gnv_one _ _ _ _ _) ?_
             intro w7 hw7
             have G7 : Hid (GsAt w7 q (preOf r x age) x.w x.h g) := ⟨by rw [hw7, putCells_row _ _ _ _ _ _ G6.out.row, put_gridE PS.out _ _ _ _ x.w x.h _ _ HLO.out GL.out], PS.out, GL.out⟩
             have K7 : Hid (Kp (· = q) w w7) := by rw [hw7]; exact putCells_in _ _ _ KQ6.out rfl
             clear hw7))
        go_ret
        refine ⟨?_, ?_, K7.out⟩
        · rw [HRE.out, HE.out]; rfl
        · rw [HRA.out, HRG.out, HE.out]; exact G7.out
      · go_wp2_with (first
          | (refine wpList_alloc_row rfl 61 rfl (gnew 0 0 Z) HZ.out ?_
             intro w5 hw5
             have A5 : Hid (w5.heap[w4.heap.size]? = some (.cells (gnew 0 0 Z) 61 (0, 0))) := by rw [hw5]; exact heap_alloc_new _ _
             have K5 : Hid (Kp (fun _ => False) w4 w5) := by rw [hw5]; exact (Kp.refl _ _).alloc _
             clear hw5)
          | (refine wpList_store_row_g rfl 61 _ _ rfl w4.heap.size (gnv x.w x.h tg.l tg.t tg.S) rfl rfl 61 (gnew 0 0 Z) A5.out (by rw [info_grid, gnv_size _ _ _ _ HLN.out]) (by rw [gnew_size _ _ HZL.out, gnv_size _ _ _ _ HLN.out]) (gnv_one _ _ _ _ _) ?_
             intro w6 hw6
             have K6 : Kp (fun _ => False) w4 w6 := by rw [hw6]; exact K5.out.setRowNew (Nat.le_refl _) _
             have B6 : Hid (w6.heap[w4.heap.size]? = some (.cells (gnv x.w x.h tg.l tg.t tg.S) 61 (0, 0))) := by rw [hw6]; exact setRow_heap _ _ _ _ _ _ A5.out
             have G6 : Hid (GsAt w6 q (preOf r x age) x.w x.h (SG i).2) := GrAt.keep G4.out K6 (fun hx => hx)
             have F6 := hide (K6.row A4.out (fun hx => hx))
             have KQ6 := hide (K4.out.trans (K6.mono (T := (· = q)) (fun _ hx => hx.elim)))
             clear hw6 K6)
          | (refine wpList_load_row rfl 61 _ rfl w4.heap.size rfl 61 (gnv x.w x.h tg.l tg.t tg.S) (0, 0) _ B6.out Try.underlying61 rfl (by rw [info_grid, gnv_size _ _ _ _ HLN.out]) ?_)
          | (refine wpList_store_at_g rfl 61 _ _ rfl q 28 (gnv x.w x.h tg.l tg.t tg.S) rfl rfl 63 _ G6.out.row (by rw [info_grid, gnv_size _ _ _ _ HLN.out]) (by rw [gnv_size _ _ _ _ HLN.out, grv_size PS.out _ _ _ _ _ HLO.out]; omega) (gnv_one _ _ _ _ _) ?_
             intro w7 hw7
             have K67 : Kp (· = q) w6 w7 := by rw [hw7]; exact putCells_in _ _ _ (Kp.refl _ _) rfl
             have G7 : Hid (GsAt w7 q (preOf r x age) x.w x.h tg) := ⟨by rw [hw7, putCells_row _ _ _ _ _ _ G6.out.row, put_gridE PS.out _ _ _ _ x.w x.h _ _ HLO.out HLN.out], PS.out, HLN.out⟩
             have F7 := hide (K67.row F6.out (by omega))
             have K7 : Hid (Kp (· = q) w w7) := KQ6.out.trans K67
             clear hw7 K67))
        go_roundg (gk - 1)
        case measure => omega
        case rel => exact ⟨i + 1, by omega, by omega, by go_num, by rw [HT.out]; exact G7.out, by rw [HT.out], F7.out, K7.out⟩
    · have ei : i = n := by omega
      subst ei
      have c27 : wr.cell? ⟨q, 27, none⟩ = some (.int .i64 age) := GrAt.age G3.out ROK.out
      have f27 := GrAt.fro G3.out 27
      go_wp2_with fail
      go_ret
      refine ⟨?_, ?_, K3.out.setCell (p := ⟨q, 27, none⟩) rfl _⟩
      · rw [HRE.out, OK3.out]; rfl
      · rw [HRA.out, HRG.out, OK3.out]; exact GrAt.setAge G3.out ROK.out _
/-- Step where it is refused by its numbers. -/
theorem wstep_no (q : Nat) (r : Pu.Rule) (x : Pu.Shape) (age : Int) (g : Gs) (n : Int) (w : World) (h : GsAt w q (preOf r x age) x.w x.h g) (hr : RuleOk r) (hage : 0 ≤ age ∧ age ≤ 999999) (hb : n < 0 ∨ 100 < n ∨ 999999 < age + n) :
    Calls Try.prog 23 #[.pointer (some ⟨q, 0, none⟩), .int .i64 n] w fun e w' => e = .returned (.int .i64 7) ∧ w' = w := by
  have c27 : w.cell? ⟨q, 27, none⟩ = some (.int .i64 age) := GrAt.age h hr
  clear h hr
  by_cases h1 : n < 0
  · go_enter Try.func23, Try.ntmps23
    go_wp2_with fail
    go_ret
    exact ⟨rfl, rfl⟩
  · by_cases h2 : 100 < n
    · go_enter Try.func23, Try.ntmps23
      go_wp2_with fail
      go_ret
      exact ⟨rfl, rfl⟩
    · have h3 : 999999 < age + n := by omega
      clear hb
      go_enter Try.func23, Try.ntmps23
      go_wp2_with fail
      go_ret
      exact ⟨rfl, rfl⟩
end Go.Proofs.Ytiimimclbkjcbaa
