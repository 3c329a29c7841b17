import Derived.Test.YtbdbkjngdhcjpaaDoorNf
import Derived.Test.YtbdbkjngdhcjpaaDoorM14
namespace Go.Proofs.YtbdbkjngdhcjpaaDoor
open Go.RowKit
open Go.Proofs

theorem put_gridE {pre : Array Value} (hp : pre.size = 28) (a b c d gw gh l t : Int) {S S' : List Int} (hS : S.length = 768) (hS' : S'.length = 768) : splice (grv pre a b c d S) 28 (gnv gw gh l t S').toList = grv pre gw gh l t S' := by
  apply Array.ext_getElem?
  intro m
  have hg := gnv_size gw gh l t hS'
  rw [splice_get _ _ _ _ (by rw [grv_size hp _ _ _ _ _ hS, Array.length_toList, hg]; omega), grv_get hp, grv_get hp, Array.length_toList, hg]
  by_cases h1 : m < 28
  · rw [if_pos h1, if_pos h1, if_pos h1]
  · rw [if_neg h1, if_neg h1, if_neg h1]
    by_cases h2 : m < 800
    · rw [if_pos h2, Array.getElem?_toList, gnv_get]
      by_cases h3 : m < 32
      · rw [if_pos (by omega), if_pos h3]
      · rw [if_neg (by omega), if_neg h3]
        congr 1
    · rw [if_neg h2, if_neg (by omega), if_neg (by omega)]
      rw [Array.getElem?_eq_none (by simp [intsv, hS]; omega), Array.getElem?_eq_none (by simp [intsv, hS']; omega)]
theorem GrAt.grid {w : World} {q : Nat} {pre : Array Value} {gw gh l t : Int} {S : List Int} (h : GrAt w q pre gw gh l t S) (j : Nat) (v : Value) (hv : (gnv gw gh l t S)[j]? = some v) : w.cell? ⟨q, 28 + j, none⟩ = some v := by
  rw [cell_of_row w q _ _ _ _ h.row, grv_get h.psz, if_neg (by omega)]
  rw [gnv_get] at hv
  by_cases h1 : j < 4
  · rw [if_pos h1] at hv
    rw [if_pos (by omega), show 28 + j - 28 = j by omega]
    exact hv
  · rw [if_neg h1] at hv
    rw [if_neg (by omega), show 28 + j - 32 = j - 4 by omega]
    exact hv
theorem putCells_in (vs : List Value) : ∀ {S : Nat → Prop} {a w : World} (g k : Nat), Kp S a w → S g → Kp S a (putCells w g k vs) := by
  induction vs with
  | nil => intro S a w g k h _; exact h
  | cons v vs ih => intro S a w g k h hs; exact ih _ _ (h.setCell (p := ⟨g, k, none⟩) hs v) hs

set_option maxRecDepth 100000 in
set_option maxHeartbeats 1000000 in
/-- Step, whatever the shape. -/
theorem wstep_core' (Z : List Int) (hZ : Z.length = 768) (hz0 : (Tryd.prog.info? 53).map (·.zero) = some (some (.agg (gnew 0 0 Z))))
    (hnew : ∀ gw gh w, Calls Tryd.prog 47 #[.int .i64 gw, .int .i64 gh] w fun e w' => e = .returned (.agg (gnew gw gh Z)) ∧ Kp (fun _ => False) w w') (hZ0 : Z = noS)
    (q : Nat) (r : Pu.Rule) (x : Pu.Shape) (age : Int) (g : Gs) (n : Nat) (w : World) (h : GsAt w q (preOf r x age) x.w x.h g) (hr : RuleOk r) (hx : Pu.ShapeOk x) (hfo : foldsB x → FoldOk x)
    (ha : r.around = 77 ∨ r.around = 86 ∨ r.around = 72) (h2 : 2 ≤ r.states) (h9 : r.states ≤ 9) (ho : GsOk r.states x.w x.h g) (hn : n ≤ 100) (hage : 0 ≤ age) (hage2 : age + n ≤ 999999) :
    Calls Tryd.prog 17 #[.pointer (some ⟨q, 0, none⟩), .int .i64 n] w fun e w' => e = .returned (.int .i64 (if (stepG r x g n).1 = true then 0 else 4)) ∧ GsAt w' q (preOf r x (if (stepG r x g n).1 = true then age + n else age)) x.w x.h (if (stepG r x g n).1 = true then (stepG r x g n).2 else g) ∧ Kp (· = q) w w' := by
  have HN := hide (fun (wx : World) (g2 : Gs) (ho2 : GsOk r.states x.w x.h g2) (hg : GsAt wx q (preOf r x age) x.w x.h g2) => wnext_exact Z hZ hz0 hnew q r x age g2 wx hg hr hx hfo ha h2 h9 ho2 hZ0)
  have HOK := hide (fun i => stepG_ok h2 hx ho i)
  have HSTOP := hide (fun (k : Nat) (hf : (stepG r x g k).1 = false) (m : Nat) (hm : k ≤ m) => stepG_stop hf m hm)
  have HSU : Hid (∀ i, stepG r x g (i + 1) = if (stepG r x g i).1 = false then stepG r x g i else nextG r x (stepG r x g i).2) := fun _ => rfl
  have HS0 : Hid (stepG r x g 0 = (true, g)) := rfl
  generalize stepG r x g = SG at *
  have NOK := hide (fun (g2 : Gs) (ho2 : GsOk r.states x.w x.h g2) => (nextG_ok h2 hx ho2).len)
  have H : Hid (GrAt w q (preOf r x age) x.w x.h g.l g.t g.S) := h
  have ROK := hide hr
  have HZL := hide hZ
  have HZ := hide hz0
  have hq := H.out.lt
  have GL := hide ho.len
  have ldg := hide (fun j v => H.out.grid j v)
  have c27 := H.out.age hr
  have PS := hide (preOf_size ROK.out x age)
  generalize nextG r x = NX at *
  obtain ⟨RE, hRE⟩ : ∃ RE : Int, RE = if (SG n).1 = true then 0 else 4 := ⟨_, rfl⟩
  obtain ⟨RA, hRA⟩ : ∃ RA : Int, RA = if (SG n).1 = true then age + n else age := ⟨_, rfl⟩
  obtain ⟨RG, hRG⟩ : ∃ RG : Gs, RG = if (SG n).1 = true then (SG n).2 else g := ⟨_, rfl⟩
  rw [← hRE, ← hRA, ← hRG]
  have HRE := hide hRE
  have HRA := hide hRA
  have HRG := hide hRG
  clear h hr hx hfo ha h2 h9 ho hz0 hZ hnew hZ0 hRE hRA hRG
  go_enter Tryd.func17, Tryd.ntmps17
  go_wp2_with (first
    | (refine wpList_load_at rfl 53 _ rfl q 28 rfl (gnv x.w x.h g.l g.t g.S) ldg.out _ Tryd.underlying53 rfl (by rw [info_grid, gnv_size _ _ _ _ GL.out]) ?_)
    | (refine wpList_alloc_row rfl 53 rfl (gnew 0 0 Z) HZ.out ?_
       intro w1 hw1
       have A1 : Hid (w1.heap[w.heap.size]? = some (.cells (gnew 0 0 Z) 53 (0, 0))) := by rw [hw1]; exact heap_alloc_new _ _
       have K1 : Hid (Kp (fun _ => False) w w1) := by rw [hw1]; exact (Kp.refl _ _).alloc _
       clear hw1)
    | (refine wpList_store_row_g rfl 53 _ _ rfl w.heap.size (gnv x.w x.h g.l g.t g.S) rfl rfl 53 (gnew 0 0 Z) A1.out (by rw [info_grid, gnv_size _ _ _ _ GL.out]) (by rw [gnew_size _ _ HZL.out, gnv_size _ _ _ _ GL.out]) (gnv_one _ _ _ _ _) ?_
       intro w2 hw2
       have A2 : Hid (w2.heap[w.heap.size]? = some (.cells (gnv x.w x.h g.l g.t g.S) 53 (0, 0))) := by rw [hw2]; exact setRow_heap _ _ _ _ _ _ A1.out
       have K2 : Hid (Kp (fun _ => False) w w2) := by rw [hw2]; exact K1.out.setRowNew (Nat.le_refl _) _
       clear hw2))
  have G2 : Hid (GsAt w2 q (preOf r x age) x.w x.h (SG 0).2) := by
    show GsAt _ _ _ _ _ _
    rw [HS0.out]
    exact H.out.keep K2.out (fun hx => hx)
  have KQ2 := hide (K2.out.mono (T := (· = q)) (fun _ hx => hx.elim))
  clear c27 K2 A1 K1
  go_loopg [6] n (fun gk ii wr => ∃ i : Nat, i ≤ n ∧ n ≤ i + gk ∧ ii = .int .i64 i ∧ GsAt wr q (preOf r x age) x.w x.h (SG i).2 ∧ (SG i).1 = true ∧ wr.heap[w.heap.size]? = some (.cells (gnv x.w x.h g.l g.t g.S) 53 (0, 0)) ∧ Kp (· = q) w wr)
  case atStart => exact ⟨0, by omega, by omega, rfl, G2.out, by rw [HS0.out], A2.out, KQ2.out⟩
  case round =>
    obtain ⟨i, g1, g2, rfl, m2, ok2, a2, k2⟩ := hrel
    have G3 := hide m2
    have OK3 := hide ok2
    have A3 := hide a2
    have K3 := hide k2
    clear m2 k2 ok2 a2
    by_cases hi : i < n
    · go_wp2_with fail
      refine (HN.out _ (SG i).2 (HOK.out i) G3.out).mono ?_
      have hsu := HSU.out i
      rw [if_neg (by rw [OK3.out]; simp)] at hsu
      rw [← hsu]
      have HLO := hide (HOK.out i).len
      have HLN := hide (HOK.out (i + 1)).len
      clear hsu
      rintro e w4 ⟨rfl, k4⟩
      have hs4 := k4.size
      have G4 : Hid (GsAt w4 q (preOf r x age) x.w x.h (SG i).2) := GrAt.keep G3.out k4 (fun hx => hx)
      have A4 := hide (k4.row A3.out (fun hx => hx))
      have K4 := hide (K3.out.trans (k4.mono (T := (· = q)) (fun _ hx => hx.elim)))
      have hq4 : q < w4.heap.size := GrAt.lt G4.out
      have hw4 := (Array.getElem?_eq_some_iff.1 A4.out).1
      clear k4
      have HST := hide (HSTOP.out (i + 1))
      generalize hT : SG (i + 1) = T at *
      have HT := hide hT
      clear hT
      obtain ⟨tb, tg⟩ := T
      simp only at HLN ⊢
      cases tb
      · have HE : Hid (SG n = (false, tg)) := HST.out rfl n (by omega)
        go_wp2_with (first
          | (refine wpList_alloc_row rfl 53 rfl (gnew 0 0 Z) HZ.out ?_
             intro w5 hw5
             have A5 : Hid (w5.heap[w4.heap.size]? = some (.cells (gnew 0 0 Z) 53 (0, 0))) := by rw [hw5]; exact heap_alloc_new _ _
             have K5 : Hid (Kp (fun _ => False) w4 w5) := by rw [hw5]; exact (Kp.refl _ _).alloc _
             clear hw5)
          | (refine wpList_store_row_g rfl 53 _ _ rfl w4.heap.size (gnv x.w x.h tg.l tg.t tg.S) rfl rfl 53 (gnew 0 0 Z) A5.out (by rw [info_grid, gnv_size _ _ _ _ HLN.out]) (by rw [gnew_size _ _ HZL.out, gnv_size _ _ _ _ HLN.out]) (gnv_one _ _ _ _ _) ?_
             intro w6 hw6
             have K6 : Kp (fun _ => False) w4 w6 := by rw [hw6]; exact K5.out.setRowNew (Nat.le_refl _) _
             have G6 : Hid (GsAt w6 q (preOf r x age) x.w x.h (SG i).2) := GrAt.keep G4.out K6 (fun hx => hx)
             have F6 := hide (K6.row A4.out (fun hx => hx))
             have KQ6 := hide (K4.out.trans (K6.mono (T := (· = q)) (fun _ hx => hx.elim)))
             clear hw6 K6)
          | (refine wpList_load_row rfl 53 _ rfl w.heap.size rfl 53 (gnv x.w x.h g.l g.t g.S) (0, 0) _ F6.out Tryd.underlying53 rfl (by rw [info_grid, gnv_size _ _ _ _ GL.out]) ?_)
          | (refine wpList_store_at_g rfl 53 _ _ rfl q 28 (gnv x.w x.h g.l g.t g.S) rfl rfl 55 _ G6.out.row (by rw [info_grid, gnv_size _ _ _ _ GL.out]) (by rw [gnv_size _ _ _ _ GL.out, grv_size PS.out _ _ _ _ _ HLO.out]; omega) (gnv_one _ _ _ _ _) ?_
             intro w7 hw7
             have G7 : Hid (GsAt w7 q (preOf r x age) x.w x.h g) := ⟨by rw [hw7, putCells_row _ _ _ _ _ _ G6.out.row, put_gridE PS.out _ _ _ _ x.w x.h _ _ HLO.out GL.out], PS.out, GL.out⟩
             have K7 : Hid (Kp (· = q) w w7) := by rw [hw7]; exact putCells_in _ _ _ KQ6.out rfl
             clear hw7))
        go_ret
        refine ⟨?_, ?_, K7.out⟩
        · rw [HRE.out, HE.out]; rfl
        · rw [HRA.out, HRG.out, HE.out]; exact G7.out
      · go_wp2_with (first
          | (refine wpList_alloc_row rfl 53 rfl (gnew 0 0 Z) HZ.out ?_
             intro w5 hw5
             have A5 : Hid (w5.heap[w4.heap.size]? = some (.cells (gnew 0 0 Z) 53 (0, 0))) := by rw [hw5]; exact heap_alloc_new _ _
             have K5 : Hid (Kp (fun _ => False) w4 w5) := by rw [hw5]; exact (Kp.refl _ _).alloc _
             clear hw5)
          | (refine wpList_store_row_g rfl 53 _ _ rfl w4.heap.size (gnv x.w x.h tg.l tg.t tg.S) rfl rfl 53 (gnew 0 0 Z) A5.out (by rw [info_grid, gnv_size _ _ _ _ HLN.out]) (by rw [gnew_size _ _ HZL.out, gnv_size _ _ _ _ HLN.out]) (gnv_one _ _ _ _ _) ?_
             intro w6 hw6
             have K6 : Kp (fun _ => False) w4 w6 := by rw [hw6]; exact K5.out.setRowNew (Nat.le_refl _) _
             have B6 : Hid (w6.heap[w4.heap.size]? = some (.cells (gnv x.w x.h tg.l tg.t tg.S) 53 (0, 0))) := by rw [hw6]; exact setRow_heap _ _ _ _ _ _ A5.out
             have G6 : Hid (GsAt w6 q (preOf r x age) x.w x.h (SG i).2) := GrAt.keep G4.out K6 (fun hx => hx)
             have F6 := hide (K6.row A4.out (fun hx => hx))
             have KQ6 := hide (K4.out.trans (K6.mono (T := (· = q)) (fun _ hx => hx.elim)))
             clear hw6 K6)
          | (refine wpList_load_row rfl 53 _ rfl w4.heap.size rfl 53 (gnv x.w x.h tg.l tg.t tg.S) (0, 0) _ B6.out Tryd.underlying53 rfl (by rw [info_grid, gnv_size _ _ _ _ HLN.out]) ?_)
          | (refine wpList_store_at_g rfl 53 _ _ rfl q 28 (gnv x.w x.h tg.l tg.t tg.S) rfl rfl 55 _ G6.out.row (by rw [info_grid, gnv_size _ _ _ _ HLN.out]) (by rw [gnv_size _ _ _ _ HLN.out, grv_size PS.out _ _ _ _ _ HLO.out]; omega) (gnv_one _ _ _ _ _) ?_
             intro w7 hw7
             have K67 : Kp (· = q) w6 w7 := by rw [hw7]; exact putCells_in _ _ _ (Kp.refl _ _) rfl
             have G7 : Hid (GsAt w7 q (preOf r x age) x.w x.h tg) := ⟨by rw [hw7, putCells_row _ _ _ _ _ _ G6.out.row, put_gridE PS.out _ _ _ _ x.w x.h _ _ HLO.out HLN.out], PS.out, HLN.out⟩
             have F7 := hide (K67.row F6.out (by omega))
             have K7 : Hid (Kp (· = q) w w7) := KQ6.out.trans K67
             clear hw7 K67))
        go_roundg (gk - 1)
        case measure => omega
        case rel => exact ⟨i + 1, by omega, by omega, by go_num, by rw [HT.out]; exact G7.out, by rw [HT.out], F7.out, K7.out⟩
    · have ei : i = n := by omega
      subst ei
      have c27 : wr.cell? ⟨q, 27, none⟩ = some (.int .i64 age) := GrAt.age G3.out ROK.out
      have f27 := GrAt.fro G3.out 27
      go_wp2_with fail
      go_ret
      refine ⟨?_, ?_, K3.out.setCell (p := ⟨q, 27, none⟩) rfl _⟩
      · rw [HRE.out, OK3.out]; rfl
      · rw [HRA.out, HRG.out, OK3.out]; exact GrAt.setAge G3.out ROK.out _
/-- Step where it is refused by its numbers. -/
theorem wstep_no (q : Nat) (r : Pu.Rule) (x : Pu.Shape) (age : Int) (g : Gs) (n : Int) (w : World) (h : GsAt w q (preOf r x age) x.w x.h g) (hr : RuleOk r) (hage : 0 ≤ age ∧ age ≤ 999999) (hb : n < 0 ∨ 100 < n ∨ 999999 < age + n) :
    Calls Tryd.prog 17 #[.pointer (some ⟨q, 0, none⟩), .int .i64 n] w fun e w' => e = .returned (.int .i64 7) ∧ w' = w := by
  have c27 : w.cell? ⟨q, 27, none⟩ = some (.int .i64 age) := GrAt.age h hr
  clear h hr
  by_cases h1 : n < 0
  · go_enter Tryd.func17, Tryd.ntmps17
    go_wp2_with fail
    go_ret
    exact ⟨rfl, rfl⟩
  · by_cases h2 : 100 < n
    · go_enter Tryd.func17, Tryd.ntmps17
      go_wp2_with fail
      go_ret
      exact ⟨rfl, rfl⟩
    · have h3 : 999999 < age + n := by omega
      clear hb
      go_enter Tryd.func17, Tryd.ntmps17
      go_wp2_with fail
      go_ret
      exact ⟨rfl, rfl⟩
end Go.Proofs.YtbdbkjngdhcjpaaDoor
namespace Go.Proofs.YtbdbkjngdhcjpaaDoor
open Go.RowKit
open Go.Proofs

/-- The cells of the next generation. -/
def nextS (r : Pu.Rule) (G : List Int → Int → Int → Int) (W H : Nat) (S : List Int) : List Int := fillG (nxv r (G S) S W) (H * W)
def stepN (r : Pu.Rule) (G : List Int → Int → Int → Int) (W H : Nat) : Nat → List Int → List Int
  | 0, S => S
  | n + 1, S => nextS r G W H (stepN r G W H n S)
def StOk (r : Pu.Rule) (S : List Int) : Prop := S.length = 768 ∧ ∀ k, 0 ≤ S.getD k 0 ∧ S.getD k 0 < r.states
theorem fillG_at (val : Nat → Int) (n k : Nat) : (fillG val n).getD k 0 = if k < 768 ∧ k < n then val k else 0 := by
  unfold fillG
  unfold List.getD
  rw [List.getElem?_map]
  by_cases h : k < 768
  · rw [List.getElem?_range h]
    by_cases h2 : k < n
    · rw [if_pos ⟨h, h2⟩]
      show (if k < n then val k else 0) = _
      rw [if_pos h2]
    · rw [if_neg (by omega)]
      show (if k < n then val k else 0) = _
      rw [if_neg h2]
  · rw [if_neg (by omega), List.getElem?_eq_none (by rw [List.length_range]; omega)]
    rfl
theorem nextS_ok (r : Pu.Rule) (h2 : 2 ≤ r.states) (G : List Int → Int → Int → Int) (W H : Nat) (S : List Int) (h : StOk r S) : StOk r (nextS r G W H S) := by
  refine ⟨fillG_len _ _, fun k => ?_⟩
  unfold nextS
  rw [fillG_at]
  split
  · unfold nxv
    exact nextR_bd r h2 _ _ (h.2 k).1
  · omega
theorem stepN_ok (r : Pu.Rule) (h2 : 2 ≤ r.states) (G : List Int → Int → Int → Int) (W H : Nat) (S : List Int) (h : StOk r S) : ∀ n, StOk r (stepN r G W H n S) := by
  intro n
  induction n with
  | zero => exact h
  | succ n ih => exact nextS_ok r h2 G W H _ ih

/-- What Get tells in a plane. -/
def planeG (x : Pu.Shape) (S : List Int) (X Y : Int) : Int := if hasB x X Y = true then getP x.w x.h 0 0 S X Y else 0

/-- Step, whatever the shape. -/
theorem wstep_exact (q : Nat) (r : Pu.Rule) (x : Pu.Shape) (age : Int) (g : Gs) (n : Nat) (w : World) (h : GsAt w q (preOf r x age) x.w x.h g) (hr : RuleOk r) (hx : Pu.ShapeOk x) (hfo : foldsB x → FoldOk x)
    (ha : r.around = 77 ∨ r.around = 86 ∨ r.around = 72) (h2 : 2 ≤ r.states) (h9 : r.states ≤ 9) (ho : GsOk r.states x.w x.h g) (hn : n ≤ 100) (hage : 0 ≤ age) (hage2 : age + n ≤ 999999) :
    Calls Tryd.prog 17 #[.pointer (some ⟨q, 0, none⟩), .int .i64 n] w fun e w' => e = .returned (.int .i64 (if (stepG r x g n).1 = true then 0 else 4)) ∧ GsAt w' q (preOf r x (if (stepG r x g n).1 = true then age + n else age)) x.w x.h (if (stepG r x g n).1 = true then (stepG r x g n).2 else g) ∧ Kp (· = q) w w' :=
  wstep_core' noS noS_len zero_grid new_any rfl q r x age g n w h hr hx hfo ha h2 h9 ho hn hage hage2
theorem getG_two {x : Pu.Shape} (hx : Two x) {W H : Nat} (hW : x.w = W) (hH : x.h = H) (S : List Int) {i j : Nat} (hi : i < W) (hj : j < H) : getG x.w x.h ⟨0, 0, S⟩ i j = S.getD (j * W + i) 0 := by
  have sl := slot_two hx (a := i) (b := j) (by rw [hW]; omega) (by rw [hH]; omega)
  have e : (j : Int) * x.w + i = ((j * W + i : Nat) : Int) := by rw [hW]; simp
  unfold getG getP
  simp only
  rw [sl.1, if_neg (by omega), e]
  rfl
theorem fillG_skip (val : Nat → Int) (k : Nat) (h : val k = 0) : fillG val (k + 1) = fillG val k := by
  unfold fillG
  apply List.map_congr_left
  intro m _
  by_cases e : m = k
  · subst e
    rw [if_pos (by omega), if_neg (by omega), h]
  · by_cases l : m < k
    · rw [if_pos l, if_pos (by omega)]
    · rw [if_neg l, if_neg (by omega)]
/-- The next generation in a shape with two sides. -/
theorem nextG_two {r : Pu.Rule} {x : Pu.Shape} (hx : Two x) {W H : Nat} (hW : x.w = W) (hH : x.h = H) (S : List Int) : nextG r x ⟨0, 0, S⟩ = (true, ⟨0, 0, nextS r (fun T => nbG x ⟨0, 0, T⟩) W H S⟩) := by
  have W12 : W ≤ 12 := by have := hx.2.1; omega
  have H12 : H ≤ 12 := by have := hx.2.2.2; omega
  have w1 := hx.1
  have h1 := hx.2.2.1
  have hA : areaG x ⟨0, 0, S⟩ = ⟨false, 0, 0, x.w - 1, x.h - 1⟩ := by
    unfold areaG areaP
    split
    · rfl
    · rw [if_neg (by omega), if_neg (by omega), if_neg (by omega), if_neg (by omega)]
  have hval : ∀ i j : Nat, i < W → j < H → valN r x ⟨0, 0, S⟩ i j = nxv r (nbG x ⟨0, 0, S⟩) S W (j * W + i) := by
    intro i j hi hj
    rw [nxv_at r _ S W i j hi]
    unfold valN
    rw [getG_two hx hW hH S hi hj]
  have row : ∀ (j : Nat), j < H → ∀ i : Nat, i ≤ W → rowX r x ⟨0, 0, S⟩ 0 (0 + (j : Int)) (true, ⟨0, 0, fillG (nxv r (nbG x ⟨0, 0, S⟩) S W) (j * W)⟩) i = (true, ⟨0, 0, fillG (nxv r (nbG x ⟨0, 0, S⟩) S W) (j * W + i)⟩) := by
    intro j hj i
    induction i with
    | zero => intro _; rfl
    | succ i ih =>
      intro hi
      have klt : j * W + i < 768 := by
        have : j * W ≤ 12 * W := Nat.mul_le_mul_right W (by omega)
        omega
      show cellN r x ⟨0, 0, S⟩ (rowX r x ⟨0, 0, S⟩ 0 (0 + (j : Int)) _ i) (0 + (i : Int)) (0 + (j : Int)) = _
      rw [ih (by omega), Int.zero_add, Int.zero_add]
      unfold cellN
      rw [if_neg (by simp), hval i j (by omega) hj]
      by_cases z : nxv r (nbG x ⟨0, 0, S⟩) S W (j * W + i) = 0
      · rw [if_pos z, show j * W + (i + 1) = (j * W + i) + 1 from rfl, fillG_skip _ _ z]
      · have sl := slot_two hx (a := i) (b := j) (by rw [hW]; omega) (by rw [hH]; omega)
        have e : (j : Int) * x.w + i = ((j * W + i : Nat) : Int) := by rw [hW]; simp
        rw [if_neg z, if_neg (by rw [near_two hx]; simp)]
        unfold putG
        simp only
        rw [sl.1, if_pos sl.2.1]
        unfold setG
        simp only
        rw [sl.1, e, Int.toNat_natCast, fillG_succ _ _ klt]
        rfl
  have all : ∀ j : Nat, j ≤ H → allX r x ⟨0, 0, S⟩ 0 0 W (true, ⟨0, 0, noS⟩) j = (true, ⟨0, 0, fillG (nxv r (nbG x ⟨0, 0, S⟩) S W) (j * W)⟩) := by
    intro j
    induction j with
    | zero =>
      intro _
      rw [Nat.zero_mul, fillG_zero]
      rfl
    | succ j ih =>
      intro hj
      show rowX r x ⟨0, 0, S⟩ 0 (0 + (j : Int)) (allX r x ⟨0, 0, S⟩ 0 0 W (true, ⟨0, 0, noS⟩) j) W = _
      rw [ih (by omega), row j (by omega) W (Nat.le_refl _), Nat.add_mul, Nat.one_mul]
  unfold nextG
  rw [hA]
  simp only
  rw [show (x.w - 1 - 0 + 1).toNat = W by omega, show (x.h - 1 - 0 + 1).toNat = H by omega]
  exact all H (Nat.le_refl _)
theorem stepG_two {r : Pu.Rule} {x : Pu.Shape} (hx : Two x) {W H : Nat} (hW : x.w = W) (hH : x.h = H) (S : List Int) : ∀ n : Nat, stepG r x ⟨0, 0, S⟩ n = (true, ⟨0, 0, stepN r (fun T => nbG x ⟨0, 0, T⟩) W H n S⟩) := by
  intro n
  induction n with
  | zero => rfl
  | succ n ih =>
    unfold stepG
    rw [ih, if_neg (by simp), nextG_two hx hW hH]
    rfl
/-- What is asked of the cells around alone tells the next generation. -/
theorem nextS_congr (r : Pu.Rule) {G G' : List Int → Int → Int → Int} {W H : Nat} (S : List Int) (h : ∀ X Y : Int, -1 ≤ X → X ≤ W → -1 ≤ Y → Y ≤ H → G S X Y = G' S X Y) : nextS r G W H S = nextS r G' W H S := by
  unfold nextS fillG
  apply List.map_congr_left
  intro m _
  by_cases hm : m < H * W
  · rw [if_pos hm, if_pos hm]
    have hW : 0 < W := by
      rcases Nat.eq_zero_or_pos W with h0 | h0
      · rw [h0] at hm; omega
      · exact h0
    have h1 : m % W < W := Nat.mod_lt _ hW
    have h2 : m / W < H := Nat.div_lt_of_lt_mul (by rw [Nat.mul_comm]; exact hm)
    unfold nxv
    congr 1
    refine ones9_congr 9 (fun a b ha hb => ?_)
    unfold onesW
    simp only
    generalize m / W = dq at *
    generalize m % W = dr at *
    rw [h _ _ (by omega) (by omega) (by omega) (by omega)]
  · rw [if_neg hm, if_neg hm]
theorem stepN_congr (r : Pu.Rule) {G G' : List Int → Int → Int → Int} {W H : Nat} (h : ∀ (S : List Int) (X Y : Int), -1 ≤ X → X ≤ W → -1 ≤ Y → Y ≤ H → G S X Y = G' S X Y) (n : Nat) (S : List Int) : stepN r G W H n S = stepN r G' W H n S := by
  induction n with
  | zero => rfl
  | succ n ih =>
    show nextS r G W H (stepN r G W H n S) = nextS r G' W H (stepN r G' W H n S)
    rw [ih]
    exact nextS_congr r _ (h _)
/-- A grid of a shape with two sides. -/
theorem ok_two {r : Pu.Rule} {x : Pu.Shape} (hx : Two x) {S : List Int} (hS : StOk r S) : GsOk r.states x.w x.h ⟨0, 0, S⟩ := by
  have h1 := hx.1
  have h2 := hx.2.1
  have h3 := hx.2.2.1
  have h4 := hx.2.2.2
  refine ⟨hS.1, by show -9999 ≤ (0 : Int) ∧ (0 : Int) ≤ 9999; omega, by show -9999 ≤ (0 : Int) ∧ (0 : Int) ≤ 9999; omega, fun _ => rfl, fun _ => rfl, fun X Y hne => ?_, hS.2⟩
  have hw : InW x.w x.h 0 0 X Y := live_win (S := S) hne
  have s1 := span1 (g := x.w) (by omega)
  have s2 := span1 (g := x.h) (by omega)
  obtain ⟨a1, a2⟩ := hw
  omega
/-- Step in a shape with two sides, where G tells the neighbours. -/
theorem wstep_core (G : List Int → Int → Int → Int) (q : Nat) (r : Pu.Rule) (x : Pu.Shape) (age : Int) (S : List Int) (n : Nat) (w : World) (h : GrAt w q (preOf r x age) x.w x.h 0 0 S) (hr : RuleOk r) (hx : Two x) (hsh : Pu.ShapeOk x) (hfo : foldsB x → FoldOk x) (W H : Nat) (hW : x.w = W) (hH : x.h = H)
    (ha : r.around = 77 ∨ r.around = 86 ∨ r.around = 72) (h2 : 2 ≤ r.states) (h9 : r.states ≤ 9) (hS : StOk r S) (hn : n ≤ 100) (hage : 0 ≤ age) (hage2 : age + n ≤ 999999)
    (hG : ∀ (T : List Int) (X Y : Int), -1 ≤ X → X ≤ W → -1 ≤ Y → Y ≤ H → nbG x ⟨0, 0, T⟩ X Y = G T X Y) :
    Calls Tryd.prog 17 #[.pointer (some ⟨q, 0, none⟩), .int .i64 n] w fun e w' => e = .returned (.int .i64 0) ∧ GrAt w' q (preOf r x (age + n)) x.w x.h 0 0 (stepN r G W H n S) ∧ Kp (· = q) w w' := by
  have := wstep_exact q r x age ⟨0, 0, S⟩ n w h hr hsh hfo ha h2 h9 (ok_two hx hS) hn hage hage2
  rw [stepG_two hx hW hH, stepN_congr r (G' := G) hG] at this
  exact this
theorem wstep_plane (q : Nat) (r : Pu.Rule) (x : Pu.Shape) (age : Int) (S : List Int) (n : Nat) (w : World) (h : GrAt w q (preOf r x age) x.w x.h 0 0 S) (hr : RuleOk r) (hx : Two x) (hsh : Pu.ShapeOk x) (hk : x.kind = 80) (W H : Nat) (hW : x.w = W) (hH : x.h = H)
    (ha : r.around = 77 ∨ r.around = 86 ∨ r.around = 72) (h2 : 2 ≤ r.states) (h9 : r.states ≤ 9) (hS : StOk r S) (hn : n ≤ 100) (hage : 0 ≤ age) (hage2 : age + n ≤ 999999) :
    Calls Tryd.prog 17 #[.pointer (some ⟨q, 0, none⟩), .int .i64 n] w fun e w' => e = .returned (.int .i64 0) ∧ GrAt w' q (preOf r x (age + n)) x.w x.h 0 0 (stepN r (planeG x) W H n S) ∧ Kp (· = q) w w' :=
  wstep_core (planeG x) q r x age S n w h hr hx hsh (fun hf => by unfold foldsB at hf; omega) W H hW hH ha h2 h9 hS hn hage hage2 (fun T X Y _ _ _ _ => by
    unfold nbG
    rw [if_neg (fun hb : beyond x X Y => by have := hb.1; omega), if_neg (fun hf : foldsB x => by unfold foldsB at hf; omega)]
    rfl)
end Go.Proofs.YtbdbkjngdhcjpaaDoor
