import Derived.Test.YtflbkgfcnggkpabJe
import Derived.Test.YtflbkgfcnggkpabGj
namespace Go.Proofs.Ytflbkgfcnggkpab
open Go.RowKit
open Go.Proofs

theorem put_grid2 {pre : Array Value} (hp : pre.size = 28) (a b c d gw gh : Int) {S S' : List Int} (hS : S.length = 768) (hS' : S'.length = 768) : splice (grv pre a b c d S) 28 (gnew gw gh S').toList = grv pre gw gh 0 0 S' := by
  apply Array.ext_getElem?
  intro m
  have hg := gnew_size gw gh hS'
  rw [splice_get _ _ _ _ (by rw [grv_size hp _ _ _ _ _ hS, Array.length_toList, hg]; omega), grv_get hp, grv_get hp, Array.length_toList, hg]
  by_cases h1 : m < 28
  · rw [if_pos h1, if_pos h1, if_pos h1]
  · rw [if_neg h1, if_neg h1, if_neg h1]
    by_cases h2 : m < 800
    · rw [if_pos h2, Array.getElem?_toList, gnew_get]
      by_cases h3 : m < 32
      · rw [if_pos (by omega), if_pos h3]
      · rw [if_neg (by omega), if_neg h3]
        congr 1
    · rw [if_neg h2, if_neg (by omega), if_neg (by omega)]
      rw [Array.getElem?_eq_none (by simp [intsv, hS]; omega), Array.getElem?_eq_none (by simp [intsv, hS']; omega)]
theorem app_set (A : Array Value) (h : A.size = 27) (u v : Value) : (A ++ #[u]).setIfInBounds 27 v = A ++ #[v] := by
  apply Array.ext_getElem?
  intro m
  rw [Array.getElem?_setIfInBounds, Array.size_append, h, Array.getElem?_append, Array.getElem?_append, h]
  by_cases e : 27 = m
  · subst e
    simp
  · rw [if_neg e]
    by_cases l : m < 27
    · rw [if_pos l, if_pos l]
    · rw [if_neg l, if_neg l, Array.getElem?_eq_none (by simp; omega), Array.getElem?_eq_none (by simp; omega)]
theorem preOf_age {r : Pu.Rule} (h : RuleOk r) (x : Pu.Shape) (a b : Int) : (preOf r x a).setIfInBounds 27 (.int .i64 b) = preOf r x b :=
  app_set (rulev r ++ shv x) (by rw [Array.size_append, rulev_size h]; rfl) _ _
theorem GrAt.age {w : World} {q : Nat} {r : Pu.Rule} {x : Pu.Shape} {a gw gh l t : Int} {S : List Int} (h : GrAt w q (preOf r x a) gw gh l t S) (hr : RuleOk r) : w.cell? ⟨q, 27, none⟩ = some (.int .i64 a) := by
  rw [cell_of_row w q _ _ _ _ h.row, grv_get h.psz, if_pos (by omega)]
  unfold preOf
  have z1 : (rulev r ++ shv x).size = 27 := by rw [Array.size_append, rulev_size hr]; rfl
  rw [Array.getElem?_append, if_neg (by omega), z1]
  rfl
theorem GrAt.setAge {w : World} {q : Nat} {r : Pu.Rule} {x : Pu.Shape} {a gw gh l t : Int} {S : List Int} (h : GrAt w q (preOf r x a) gw gh l t S) (hr : RuleOk r) (b : Int) : GrAt (w.setCell ⟨q, 27, none⟩ (.int .i64 b)) q (preOf r x b) gw gh l t S := by
  refine ⟨?_, preOf_size hr x b, h.len⟩
  rw [heap_setCell_same w q _ _ _ _ h.row, ← preOf_age hr x a b]
  congr 2
  apply Array.ext_getElem?
  intro m
  have p1 : (preOf r x a).size = 28 := h.psz
  have p2 : ((preOf r x a).setIfInBounds 27 (.int .i64 b)).size = 28 := by rw [Array.size_setIfInBounds]; exact p1
  rw [Array.getElem?_setIfInBounds, grv_get p1, grv_get p2, grv_size p1 _ _ _ _ _ h.len, Array.getElem?_setIfInBounds, p1]
  by_cases e : 27 = m
  · subst e; simp
  · rw [if_neg e, if_neg e]

/-- The cells of the next generation. -/
def nextS (r : Pu.Rule) (G : List Int → Int → Int → Int) (W H : Nat) (S : List Int) : List Int := fillG (nxv r (G S) S W) (H * W)
def stepN (r : Pu.Rule) (G : List Int → Int → Int → Int) (W H : Nat) : Nat → List Int → List Int
  | 0, S => S
  | n + 1, S => nextS r G W H (stepN r G W H n S)
def StOk (r : Pu.Rule) (S : List Int) : Prop := S.length = 768 ∧ ∀ k, 0 ≤ S.getD k 0 ∧ S.getD k 0 < r.states
theorem nextR_bd (r : Pu.Rule) (h2 : 2 ≤ r.states) (s : Int) (k : Nat) (hs : 0 ≤ s) : 0 ≤ nextR r s k ∧ nextR r s k < r.states := by
  unfold nextR
  split
  · split <;> omega
  · split
    · omega
    · split <;> omega
theorem fillG_at (val : Nat → Int) (n k : Nat) : (fillG val n).getD k 0 = if k < 768 ∧ k < n then val k else 0 := by
  unfold fillG
  unfold List.getD
  rw [List.getElem?_map]
  by_cases h : k < 768
  · rw [List.getElem?_range h]
    by_cases h2 : k < n
    · rw [if_pos ⟨h, h2⟩]
      show (if k < n then val k else 0) = _
      rw [if_pos h2]
    · rw [if_neg (by omega)]
      show (if k < n then val k else 0) = _
      rw [if_neg h2]
  · rw [if_neg (by omega), List.getElem?_eq_none (by rw [List.length_range]; omega)]
    rfl
theorem nextS_ok (r : Pu.Rule) (h2 : 2 ≤ r.states) (G : List Int → Int → Int → Int) (W H : Nat) (S : List Int) (h : StOk r S) : StOk r (nextS r G W H S) := by
  refine ⟨fillG_len _ _, fun k => ?_⟩
  unfold nextS
  rw [fillG_at]
  split
  · unfold nxv
    exact nextR_bd r h2 _ _ (h.2 k).1
  · omega
theorem stepN_ok (r : Pu.Rule) (h2 : 2 ≤ r.states) (G : List Int → Int → Int → Int) (W H : Nat) (S : List Int) (h : StOk r S) : ∀ n, StOk r (stepN r G W H n S) := by
  intro n
  induction n with
  | zero => exact h
  | succ n ih => exact nextS_ok r h2 G W H _ ih

theorem putCells_in (vs : List Value) : ∀ {S : Nat → Prop} {a w : World} (g k : Nat), Kp S a w → S g → Kp S a (putCells w g k vs) := by
  induction vs with
  | nil => intro S a w g k h _; exact h
  | cons v vs ih => intro S a w g k h hs; exact ih _ _ (h.setCell (p := ⟨g, k, none⟩) hs v) hs
/-- What Get tells in a plane. -/
def planeG (x : Pu.Shape) (S : List Int) (X Y : Int) : Int := if hasB x X Y = true then getP x.w x.h 0 0 S X Y else 0

set_option maxRecDepth 100000 in
set_option maxHeartbeats 1000000 in
/-- Step, where G tells what Get tells around the cells. -/
theorem wstep_core (G : List Int → Int → Int → Int) (q : Nat) (r : Pu.Rule) (x : Pu.Shape) (age : Int) (S : List Int) (n : Nat) (w : World) (h : GrAt w q (preOf r x age) x.w x.h 0 0 S) (hr : RuleOk r) (hx : Two x) (hk : x.kind ≠ 83) (W H : Nat) (hW : x.w = W) (hH : x.h = H)
    (ha : r.around = 77 ∨ r.around = 86 ∨ r.around = 72) (h2 : 2 ≤ r.states) (h9 : r.states ≤ 9) (hS : StOk r S) (hn : n ≤ 100) (hage : 0 ≤ age) (hage2 : age + n ≤ 999999)
    (hget : ∀ (T : List Int) (wx : World) (X Y : Int), -1 ≤ X → X ≤ W → -1 ≤ Y → Y ≤ H → GrAt wx q (preOf r x age) x.w x.h 0 0 T → Calls Try.prog 13 #[.pointer (some ⟨q, 0, none⟩), .int .i64 X, .int .i64 Y] wx fun e w' => e = .returned (.int .i64 (G T X Y)) ∧ Kp (fun _ => False) wx w') :
    Calls Try.prog 12 #[.pointer (some ⟨q, 0, none⟩), .int .i64 n] w fun e w' => e = .returned (.int .i64 0) ∧ GrAt w' q (preOf r x (age + n)) x.w x.h 0 0 (stepN r G W H n S) ∧ Kp (· = q) w w' := by
  have HN := hide (fun (wx : World) (T : List Int) (hT : StOk r T) (hg : GrAt wx q (preOf r x age) x.w x.h 0 0 T) => wnext_core noS noS_len zero_grid new_any q r x age T wx hg hr hx W H hW hH ha h9 hT.2 rfl (G T) (hget T))
  have HOK := hide (fun i => stepN_ok r h2 G W H S hS i)
  have HSU : Hid (∀ i, fillG (nxv r (G (stepN r G W H i S)) (stepN r G W H i S) W) (H * W) = stepN r G W H (i + 1) S) := fun _ => rfl
  have HS0 : Hid (stepN r G W H 0 S = S) := rfl
  generalize stepN r G W H = ST at *
  have HE := hide (fun wx => endless_any x wx)
  rw [decide_eq_false (by have := hx.1; have := hx.2.2.1; omega)] at HE
  have G0 := hide h
  have ROK := hide hr
  have hq := h.lt
  have ld := hide (fun j v => h.shape hr j v)
  have c27 := h.age hr
  have d20 : w.cell? ⟨q, 20, none⟩ = some (.int .u8 x.kind) := ld.out 0 _ rfl
  have b83 : (x.kind == 83) = false := by simpa using hk
  have d21 : w.cell? ⟨q, 21, none⟩ = some (.int .i64 x.w) := ld.out 1 _ rfl
  have d22 : w.cell? ⟨q, 22, none⟩ = some (.int .i64 x.h) := ld.out 2 _ rfl
  have d23 : w.cell? ⟨q, 23, none⟩ = some (.int .i64 x.ws) := ld.out 3 _ rfl
  have d24 : w.cell? ⟨q, 24, none⟩ = some (.int .i64 x.hs) := ld.out 4 _ rfl
  have d25 : w.cell? ⟨q, 25, none⟩ = some (.bool x.wst) := ld.out 5 _ rfl
  have d26 : w.cell? ⟨q, 26, none⟩ = some (.bool x.hst) := ld.out 6 _ rfl
  have HEX : Hid (∀ wx, Calls Try.prog 23 #[.agg #[.int .u8 x.kind, .int .i64 x.w, .int .i64 x.h, .int .i64 x.ws, .int .i64 x.hs, .bool x.wst, .bool x.hst]] wx fun e w' => e = .returned (.bool false) ∧ Kp (fun _ => False) wx w') := by
    intro wx
    have := HE.out wx
    exact this
  clear h hr hx hk hW hH ha h2 h9 hS HE hget
  go_enter Try.func12, Try.ntmps12
  go_wp2_with fail
  refine (HEX.out _).mono ?_
  rintro e w1 ⟨rfl, k1⟩
  have G1 : Hid (GrAt w1 q (preOf r x age) x.w x.h 0 0 (ST 0 S)) := by rw [HS0.out]; exact G0.out.keep k1 (fun hx => hx)
  have K1 := hide (k1.mono (T := (· = q)) (fun _ hx => hx.elim))
  clear k1 c27 d20 d21 d22 d23 d24 d25 d26
  go_wp2_with fail
  go_loopg [5] n (fun gk ii wr => ∃ i : Nat, i ≤ n ∧ n ≤ i + gk ∧ ii = .int .i64 i ∧ GrAt wr q (preOf r x age) x.w x.h 0 0 (ST i S) ∧ Kp (· = q) w wr)
  case atStart => exact ⟨0, by omega, by omega, rfl, G1.out, K1.out⟩
  case round =>
    obtain ⟨i, g1, g2, rfl, m2, k2⟩ := hrel
    have G2 := hide m2
    have K2 := hide k2
    clear m2 k2
    by_cases hi : i < n
    · go_wp2_with fail
      refine (HN.out _ (ST i S) (HOK.out i) G2.out).mono ?_
      rw [HSU.out i]
      have hln := (HOK.out (i + 1)).1
      have hlo := (HOK.out i).1
      have HLN := hide hln
      have HLO := hide hlo
      clear hln hlo
      rintro e w3 ⟨rfl, k3⟩
      have G3 := hide (G2.out.keep k3 (fun hx => hx))
      have K3 := hide (K2.out.trans (k3.mono (T := (· = q)) (fun _ hx => hx.elim)))
      clear k3
      have PS := hide (preOf_size ROK.out x age)
      generalize hT : ST (i + 1) S = T at *
      have HT := hide hT
      clear hT
      go_wp2_with (refine wpList_store_at_g rfl 56 _ _ rfl q 28 (gnew x.w x.h T) rfl rfl 58 _ G3.out.row (by rw [info_grid, gnew_size _ _ HLN.out]) (by rw [gnew_size _ _ HLN.out, grv_size PS.out _ _ _ _ _ HLO.out]; omega) (gnew_one _ _ _) ?_
                   intro w6 hw6
                   have G6 : Hid (GrAt w6 q (preOf r x age) x.w x.h 0 0 T) := ⟨by rw [hw6, putCells_row _ _ _ _ _ _ G3.out.row, put_grid2 PS.out _ _ _ _ x.w x.h HLO.out HLN.out], PS.out, HLN.out⟩
                   have K6 : Hid (Kp (· = q) w w6) := by rw [hw6]; exact putCells_in _ _ _ K3.out rfl
                   clear hw6)
      go_roundg (gk - 1)
      case measure => omega
      case rel => exact ⟨i + 1, by omega, by omega, by go_num, by rw [HT.out]; exact G6.out, K6.out⟩
    · have ei : i = n := by omega
      subst ei
      have c27 := G2.out.age ROK.out
      have f27 := G2.out.fro 27
      go_wp2_with fail
      go_ret
      exact ⟨rfl, G2.out.setAge ROK.out _, K2.out.setCell (p := ⟨q, 27, none⟩) rfl _⟩
theorem wstep_plane (q : Nat) (r : Pu.Rule) (x : Pu.Shape) (age : Int) (S : List Int) (n : Nat) (w : World) (h : GrAt w q (preOf r x age) x.w x.h 0 0 S) (hr : RuleOk r) (hx : Two x) (hsh : Pu.ShapeOk x) (hk : x.kind = 80) (W H : Nat) (hW : x.w = W) (hH : x.h = H)
    (ha : r.around = 77 ∨ r.around = 86 ∨ r.around = 72) (h2 : 2 ≤ r.states) (h9 : r.states ≤ 9) (hS : StOk r S) (hn : n ≤ 100) (hage : 0 ≤ age) (hage2 : age + n ≤ 999999) :
    Calls Try.prog 12 #[.pointer (some ⟨q, 0, none⟩), .int .i64 n] w fun e w' => e = .returned (.int .i64 0) ∧ GrAt w' q (preOf r x (age + n)) x.w x.h 0 0 (stepN r (planeG x) W H n S) ∧ Kp (· = q) w w' :=
  wstep_core (planeG x) q r x age S n w h hr hx (by omega) W H hW hH ha h2 h9 hS hn hage hage2 (fun T wy X Y _ _ _ _ hg2 => wget_no q r x age 0 0 T X Y wy hg2 hr hsh (Or.inl hk) (by omega) (by omega) (by omega) (by omega))
end Go.Proofs.Ytflbkgfcnggkpab
