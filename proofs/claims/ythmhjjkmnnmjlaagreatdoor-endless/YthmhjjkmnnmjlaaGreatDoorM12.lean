import Derived.Test.YthmhjjkmnnmjlaaGreatDoorM11
import Derived.Test.YthmhjjkmnnmjlaaGreatDoorM7
namespace Go.Proofs.YthmhjjkmnnmjlaaGreatDoor
open Go.RowKit
open Go.Proofs

theorem oneC_mem {W H x y s : Int} {c : Cl} (h : c ∈ oneC W H x y s) : c = (x, y, s) ∧ s ≠ 0 ∧ onSideB x W = true ∧ onSideB y H = true := by
  unfold oneC at h
  split at h
  · rename_i e
    simp at e
    simp at h
    exact ⟨h, e.1, e.2.1, e.2.2⟩
  · simp at h
theorem rowC_mem {W H y s : Int} {n : Nat} {x : Int} {c : Cl} (h : c ∈ rowC W H y s n x) : ∃ k : Nat, k < n ∧ c = (x + k, y, s) ∧ s ≠ 0 ∧ onSideB (x + k) W = true ∧ onSideB y H = true := by
  unfold rowC at h
  rw [List.mem_flatMap] at h
  obtain ⟨k, hk, h⟩ := h
  exact ⟨k, List.mem_range.1 hk, oneC_mem h⟩
/-- What the body's cells lie between. -/
structure BdOk (st : Int) (W H : Int) (n : Nat) (p : Bd) : Prop where
  x0 : -9999 ≤ p.x
  x1 : p.x ≤ 9999 + 99 * n
  y0 : -9999 ≤ p.y
  y1 : p.y ≤ 9999 + 99 * n
  len : p.live.length ≤ 99 * n
  mem : ∀ c, c ∈ p.live → (-9999 ≤ c.1 ∧ c.1 ≤ 9999 + 99 * n) ∧ (-9999 ≤ c.2.1 ∧ c.2.1 ≤ 9999 + 99 * n) ∧ (1 ≤ c.2.2 ∧ c.2.2 < st) ∧ onSideB c.1 W = true ∧ onSideB c.2.1 H = true
theorem bst_ok {st W H left : Int} (l0 : -9999 ≤ left) (l1 : left ≤ 9999) {n : Nat} {p : Bd} {r : Pu.Run} (h : BdOk st W H n p) (hr : Pu.RunOk st r) : BdOk st W H (n + 1) (bst W H left p r) := by
  obtain ⟨r1, r2, r3, r4⟩ := hr
  have hx0 := h.x0
  have hx1 := h.x1
  have hy0 := h.y0
  have hy1 := h.y1
  have hl := h.len
  unfold bst
  split
  · refine ⟨l0, by simp only; omega, by simp only; omega, by simp only; omega, by simp only; omega, fun c hc => ?_⟩
    obtain ⟨m1, m2, m3, m4⟩ := h.mem c hc
    exact ⟨by omega, by omega, m3, m4⟩
  · have lb := rowC_len W H p.y r.state r.count.toNat p.x
    refine ⟨by simp only; omega, by simp only; omega, hy0, by simp only; omega, by simp only [List.length_append]; omega, fun c hc => ?_⟩
    rcases List.mem_append.1 hc with hc | hc
    · obtain ⟨m1, m2, m3, m4⟩ := h.mem c hc
      exact ⟨by omega, by omega, m3, m4⟩
    · obtain ⟨k, hk, rfl, e1, e2, e3⟩ := rowC_mem hc
      exact ⟨⟨by simp only; omega, by simp only; omega⟩, ⟨by simp only; omega, by simp only; omega⟩, ⟨by simp only; omega, r4⟩, e2, e3⟩
theorem bsts_ok {st W H left : Int} (l0 : -9999 ≤ left) (l1 : left ≤ 9999) : ∀ (l : List Pu.Run) (p : Bd) (n : Nat), BdOk st W H n p → (∀ r, r ∈ l → Pu.RunOk st r) → BdOk st W H (n + l.length) (l.foldl (bst W H left) p) := by
  intro l
  induction l with
  | nil => intro p n h _; exact h
  | cons r l ih =>
    intro p n h hr
    have := ih (bst W H left p r) (n + 1) (bst_ok l0 l1 h (hr r List.mem_cons_self)) (fun s hs => hr s (List.mem_cons_of_mem _ hs))
    rw [List.foldl_cons, List.length_cons]
    rwa [show n + (l.length + 1) = n + 1 + l.length by omega]
/-- The live cells of a text's parts. -/
def liveOf (p : Pu.Parts) : List Cl := (bsts p.shape.w p.shape.h p.col p.row p.runs).live
theorem liveOf_ok {p : Pu.Parts} (h : Pu.PartsOk p) : BdOk p.rule.states p.shape.w p.shape.h p.runs.length (bsts p.shape.w p.shape.h p.col p.row p.runs) := by
  have := bsts_ok (st := p.rule.states) (W := p.shape.w) (H := p.shape.h) h.col.1 h.col.2 p.runs ⟨p.col, p.row, []⟩ 0 ⟨h.col.1, by have := h.col.2; simp only; omega, h.row.1, by have := h.row.2; simp only; omega, by simp, by simp⟩ h.runs
  rwa [Nat.zero_add] at this
theorem liveOf_bd {p : Pu.Parts} (h : Pu.PartsOk p) : ClBd (liveOf p) ∧ (liveOf p).length ≤ 1000000 := by
  have hk := liveOf_ok h
  have hf := h.few
  refine ⟨fun c hc => ?_, ?_⟩
  · have := hk.mem c hc
    omega
  · have := hk.len
    unfold liveOf
    omega
/-- What the document's Load answers of a right text. -/
def xloadE (p : Pu.Parts) : Int := if (p.shape.w = 0 ∨ p.shape.h = 0) ∧ p.rule.births.getD 0 false = true then 3 else if roomB p.shape.w p.shape.h (liveOf p) = true then 0 else 4
/-- The document's world lies at q. -/
structure DocAt (w : World) (q : Nat) (r : Pu.Rule) (x : Pu.Shape) (age : Int) (l : List Cl) : Prop where
  at1 : ∃ g1 g2 v, VAt w q (vw r g1 g2 x age v) ∧ SlB w g1 r.births ∧ SlB w g2 r.survivals ∧ ClAt w v l
def XLoaded (w w' : World) (j : Nat) (o : Option Pu.Parts) (e : Ending) : Prop := match o with
  | none => e = .returned (.tuple #[.pointer none, .int .i64 j, .int .i64 2])
  | some p => ∃ u, e = .returned (.tuple #[u, .int .i64 0, .int .i64 (xloadE p)]) ∧ (xloadE p ≠ 0 → u = .pointer none) ∧ (xloadE p = 0 → ∃ q, u = .pointer (some ⟨q, 0, none⟩) ∧ w.heap.size ≤ q ∧ DocAt w' q p.rule p.shape p.age (liveOf p))

set_option maxHeartbeats 1000000 in
theorem xload_long (s : ByteArray) (w : World) (hs : 400 < s.size) (hm : s.size ≤ maxLen) :
    Calls Tryz.prog 15 #[.string s] w fun e w' => e = .returned (.tuple #[.pointer none, .int .i64 0, .int .i64 1]) ∧ w' = w := by
  unfold maxLen at hm
  go_enter Tryz.func15, Tryz.ntmps15
  go_wp2
  go_ret3
  exact ⟨rfl, rfl⟩

set_option maxRecDepth 100000 in
set_option maxHeartbeats 4000000 in
theorem xload_any (s : ByteArray) (w : World) (hs : s.size ≤ 400) (j : Nat) (o : Option Pu.Parts) (hq : Hid (Pu.read (src s) = (j, o))) :
    Calls Tryz.prog 15 #[.string s] w fun e w' => Kp (fun _ => False) w w' ∧ XLoaded w w' j o e := by
  have R0 : Hid (RxAt ((w.alloc (.cells #[.string s, .int .i64 0] 52)).alloc (.cells vzero 56)) w.heap.size s 0) := ⟨heap_new_keep (heap_alloc_new _ _), Nat.zero_le _, hs⟩
  have V0 : Hid (VAt ((w.alloc (.cells #[.string s, .int .i64 0] 52)).alloc (.cells vzero 56)) (w.heap.size + 1) vzero) := by
    have := heap_alloc_new (w.alloc (.cells #[.string s, .int .i64 0] 52)) (.cells vzero 56)
    rwa [show (w.alloc (.cells #[.string s, .int .i64 0] 52)).heap.size = w.heap.size + 1 by simp] at this
  have K0 : Hid (Kp (fun _ => False) w ((w.alloc (.cells #[.string s, .int .i64 0] 52)).alloc (.cells vzero 56))) := ((Kp.refl _ _).alloc _).alloc _
  unfold vzero at R0 V0 K0
  go_enter Tryz.func15, Tryz.ntmps15
  go_wp2_with fail
  generalize ((w.alloc (.cells #[.string s, .int .i64 0] 52)).alloc (.cells #[.int .u8 0, .slice none 0 0, .slice none 0 0, .int .i64 0, .int .u8 0, .int .i64 0, .int .i64 0, .int .i64 0, .int .i64 0, .bool false, .bool false, .int .i64 0, .slice none 0 0] 56)) = w0 at *
  have s0 := K0.out.size
  refine (xtext_any w.heap.size (w.heap.size + 1) (by omega) s _ R0.out V0.out j o hq).mono ?_
  rintro e w1 ⟨rfl, r1, k1, v1⟩
  have R1 := hide r1
  have K1 := hide (K0.out.tr k1 (fun z hz hx => by rcases hx with rfl | rfl <;> omega))
  clear k1 R0 V0 K0
  cases o with
  | none =>
    have c1 := r1.c1
    clear r1 v1
    go_wp2_with fail
    go_quiet (fail)
    go_wp2_with fail
    go_ret3
    exact ⟨K1.out.drewN _, rfl⟩
  | some p =>
    obtain ⟨g1, g2, v, at1, b1, l1, own, n1, n2⟩ := v1 p rfl
    have pk := Pu.read_inv hq.out
    have lb := liveOf_bd pk
    have C1 : Hid (ClAt w1 v (liveOf p)) := ClAt.of_own own
    have V1 := hide at1
    have D1 : Hid (DocAt w1 (w.heap.size + 1) p.rule p.shape p.age (liveOf p)) := ⟨g1, g2, v, at1, b1, l1, C1.out⟩
    have LB := hide lb
    have c5 : w1.cell? ⟨w.heap.size + 1, 5, none⟩ = some (.int .i64 p.shape.w) := at1.cell 5
    have c6 : w1.cell? ⟨w.heap.size + 1, 6, none⟩ = some (.int .i64 p.shape.h) := at1.cell 6
    have c1 : w1.cell? ⟨w.heap.size + 1, 1, none⟩ = some (.slice (some ⟨g1, 0, none⟩) 9 9) := at1.cell 1
    have c12 : w1.cell? ⟨w.heap.size + 1, 12, none⟩ = some v := at1.cell 12
    have b0 : w1.cell? ⟨g1, 0, none⟩ = some (.bool (p.rule.births.getD 0 false)) := by
      rw [cell_of_row w1 g1 0 _ _ _ b1.2]
      have := b1.1
      generalize p.rule.births = bs at *
      cases bs with
      | nil => simp at this
      | cons a bs => simp [bv]
    have XE : Hid (∀ z, xloadE p = z → xloadE p = z) := fun z h => h
    have X3 : Hid ((p.shape.w = 0 ∨ p.shape.h = 0) → p.rule.births.getD 0 false = true → xloadE p = 3) := fun h1 h2 => if_pos ⟨h1, h2⟩
    have X0 : Hid (¬ ((p.shape.w = 0 ∨ p.shape.h = 0) ∧ p.rule.births.getD 0 false = true) → xloadE p = if roomB p.shape.w p.shape.h (liveOf p) = true then 0 else 4) := fun h1 => if_neg h1
    clear at1 b1 l1 own v1 r1 pk lb hq XE
    have F3 : Hid (xloadE p = 3 → ∃ u, Ending.returned (.tuple #[.pointer none, .int .i64 0, .int .i64 3]) = .returned (.tuple #[u, .int .i64 0, .int .i64 (xloadE p)]) ∧ (xloadE p ≠ 0 → u = .pointer none) ∧ (xloadE p = 0 → ∃ q, u = .pointer (some ⟨q, 0, none⟩) ∧ w.heap.size ≤ q ∧ DocAt w1 q p.rule p.shape p.age (liveOf p))) := fun h => ⟨_, by rw [h], fun _ => rfl, fun h2 => by omega⟩
    have F4 : Hid (xloadE p = 4 → ∃ u, Ending.returned (.tuple #[.pointer none, .int .i64 0, .int .i64 4]) = .returned (.tuple #[u, .int .i64 0, .int .i64 (xloadE p)]) ∧ (xloadE p ≠ 0 → u = .pointer none) ∧ (xloadE p = 0 → ∃ q, u = .pointer (some ⟨q, 0, none⟩) ∧ w.heap.size ≤ q ∧ DocAt w1 q p.rule p.shape p.age (liveOf p))) := fun h => ⟨_, by rw [h], fun _ => rfl, fun h2 => by omega⟩
    have F0 : Hid (xloadE p = 0 → ∃ u, Ending.returned (.tuple #[.pointer (some ⟨w.heap.size + 1, 0, none⟩), .int .i64 0, .int .i64 0]) = .returned (.tuple #[u, .int .i64 0, .int .i64 (xloadE p)]) ∧ (xloadE p ≠ 0 → u = .pointer none) ∧ (xloadE p = 0 → ∃ q, u = .pointer (some ⟨q, 0, none⟩) ∧ w.heap.size ≤ q ∧ DocAt w1 q p.rule p.shape p.age (liveOf p))) := fun h => ⟨_, by rw [h], fun h2 => absurd h h2, fun _ => ⟨_, rfl, by omega, D1.out⟩⟩
    have RM := hide (xroom_any (w.heap.size + 1) _ p.shape.w p.shape.h v (liveOf p) w1 V1.out rfl rfl C1.out LB.out.2 LB.out.1)
    clear V1 C1 LB D1
    generalize p.rule.births.getD 0 false = bb at *
    generalize p.shape.w = W at *
    generalize p.shape.h = H at *
    generalize roomB W H (liveOf p) = rm at *
    have cs : ((W == 0) = true ∧ W = 0) ∨ ((W == 0) = false ∧ (H == 0) = true ∧ H = 0) ∨ ((W == 0) = false ∧ (H == 0) = false ∧ W ≠ 0 ∧ H ≠ 0) := by
      by_cases e1 : W = 0
      · left; exact ⟨by simpa using e1, e1⟩
      · right
        by_cases e2 : H = 0
        · left; exact ⟨by simpa using e1, by simpa using e2, e2⟩
        · right; exact ⟨by simpa using e1, by simpa using e2, e1, e2⟩
    rcases cs with ⟨z1, z2⟩ | ⟨z1, z2, z3⟩ | ⟨z1, z2, z3, z4⟩
    · subst z2
      cases bb with
      | true =>
        go_wp2_with fail
        go_ret3
        exact ⟨K1.out, F3.out (X3.out (by simp) (by simp))⟩
      | false =>
        have X := hide (X0.out (by simp))
        cases rm with
        | true =>
          go_wp2_with fail
          refine RM.out.mono ?_
          rintro e w2 ⟨rfl, hw⟩
          subst hw
          go_wp2_with fail
          go_ret3
          exact ⟨K1.out, F0.out X.out⟩
        | false =>
          go_wp2_with fail
          refine RM.out.mono ?_
          rintro e w2 ⟨rfl, hw⟩
          subst hw
          go_wp2_with fail
          go_ret3
          exact ⟨K1.out, F4.out X.out⟩
    · subst z3
      cases bb with
      | true =>
        go_wp2_with fail
        go_ret3
        exact ⟨K1.out, F3.out (X3.out (by simp) (by simp))⟩
      | false =>
        have X := hide (X0.out (by simp))
        cases rm with
        | true =>
          go_wp2_with fail
          refine RM.out.mono ?_
          rintro e w2 ⟨rfl, hw⟩
          subst hw
          go_wp2_with fail
          go_ret3
          exact ⟨K1.out, F0.out X.out⟩
        | false =>
          go_wp2_with fail
          refine RM.out.mono ?_
          rintro e w2 ⟨rfl, hw⟩
          subst hw
          go_wp2_with fail
          go_ret3
          exact ⟨K1.out, F4.out X.out⟩
    · have X := hide (X0.out (by rintro ⟨h, _⟩; omega))
      cases rm with
      | true =>
        go_wp2_with fail
        refine RM.out.mono ?_
        rintro e w2 ⟨rfl, hw⟩
        subst hw
        go_wp2_with fail
        go_ret3
        exact ⟨K1.out, F0.out X.out⟩
      | false =>
        go_wp2_with fail
        refine RM.out.mono ?_
        rintro e w2 ⟨rfl, hw⟩
        subst hw
        go_wp2_with fail
        go_ret3
        exact ⟨K1.out, F4.out X.out⟩
end Go.Proofs.YthmhjjkmnnmjlaaGreatDoor
namespace Go.Proofs.YthmhjjkmnnmjlaaGreatDoor
open Go.RowKit
open Go.Proofs

/-- The cells of a grid, behind what stands ahead of it in its world. -/
def intsv (S : List Int) : Array Value := (S.map (Value.int .i64)).toArray
def grv (pre : Array Value) (gw gh l t : Int) (S : List Int) : Array Value := pre ++ #[.int .i64 gw, .int .i64 gh, .int .i64 l, .int .i64 t] ++ intsv S
structure GrAt (w : World) (q : Nat) (pre : Array Value) (gw gh l t : Int) (S : List Int) : Prop where
  row : w.heap[q]? = some (.cells (grv pre gw gh l t S) 70 (0, 0))
  psz : pre.size = 28
  len : S.length = 768
theorem grv_get {pre : Array Value} (h : pre.size = 28) (gw gh l t : Int) (S : List Int) (m : Nat) : (grv pre gw gh l t S)[m]? = if m < 28 then pre[m]? else if m < 32 then #[Value.int .i64 gw, .int .i64 gh, .int .i64 l, .int .i64 t][m - 28]? else (intsv S)[m - 32]? := by
  unfold grv
  rw [Array.getElem?_append, Array.getElem?_append, Array.size_append, h]
  simp only [List.size_toArray, List.length_cons, List.length_nil]
  by_cases h1 : m < 28
  · rw [if_pos (by omega), if_pos h1, if_pos h1]
  · by_cases h2 : m < 32
    · rw [if_pos (by omega), if_neg h1, if_neg h1, if_pos h2]
    · rw [if_neg (by omega), if_neg h1, if_neg h2]
theorem intsv_get (S : List Int) (k : Nat) (h : k < S.length) : (intsv S)[k]? = some (.int .i64 S[k]) := by simp [intsv, h]
section
variable {w w' : World} {q : Nat} {pre : Array Value} {gw gh l t : Int} {S : List Int}
theorem GrAt.fld (h : GrAt w q pre gw gh l t S) (m : Nat) (hm : m < 4) : w.cell? ⟨q, 28 + m, none⟩ = #[Value.int .i64 gw, .int .i64 gh, .int .i64 l, .int .i64 t][m]? := by
  rw [cell_of_row w q _ _ _ _ h.row, grv_get h.psz, if_neg (by omega), if_pos (by omega)]
  congr 1
  omega
theorem GrAt.cell (h : GrAt w q pre gw gh l t S) (k : Nat) (hk : k < 768) : w.cell? ⟨q, 32 + k, none⟩ = some (.int .i64 (S[k]'(by rw [h.len]; exact hk))) := by
  rw [cell_of_row w q _ _ _ _ h.row, grv_get h.psz, if_neg (by omega), if_neg (by omega), show 32 + k - 32 = k by omega, intsv_get S k (by rw [h.len]; exact hk)]
theorem GrAt.fro (h : GrAt w q pre gw gh l t S) (m : Nat) : w.frozen? ⟨q, m, none⟩ = false := frozen_of_row w q _ _ _ h.row
theorem GrAt.lt (h : GrAt w q pre gw gh l t S) : q < w.heap.size := (Array.getElem?_eq_some_iff.1 h.row).1
theorem GrAt.keep {T : Nat → Prop} (h : GrAt w q pre gw gh l t S) (k : Kp T w w') (hn : ¬ T q) : GrAt w' q pre gw gh l t S := ⟨k.row h.row hn, h.psz, h.len⟩
theorem GrAt.drewN (h : GrAt w q pre gw gh l t S) (n : Nat) : GrAt (w.drewN n) q pre gw gh l t S := ⟨h.row, h.psz, h.len⟩
theorem GrAt.alloc (h : GrAt w q pre gw gh l t S) (o : Obj) : GrAt (w.alloc o) q pre gw gh l t S := ⟨(Below.heap_alloc _ _ _ h.lt).trans h.row, h.psz, h.len⟩
theorem GrAt.other (h : GrAt w q pre gw gh l t S) (e : w'.heap[q]? = w.heap[q]?) : GrAt w' q pre gw gh l t S := ⟨e.trans h.row, h.psz, h.len⟩
theorem grv_size {pre : Array Value} (h : pre.size = 28) (gw gh l t : Int) (S : List Int) (hS : S.length = 768) : (grv pre gw gh l t S).size = 800 := by simp [grv, h, intsv, hS]
theorem GrAt.left (h : GrAt w q pre gw gh l t S) (u : Int) : GrAt (w.setCell ⟨q, 30, none⟩ (.int .i64 u)) q pre gw gh u t S := by
  refine ⟨?_, h.psz, h.len⟩
  rw [heap_setCell_same w q _ _ _ _ h.row]
  congr 2
  apply Array.ext_getElem?
  intro m
  rw [Array.getElem?_setIfInBounds, grv_get h.psz, grv_get h.psz, grv_size h.psz _ _ _ _ _ h.len]
  by_cases e : 30 = m
  · subst e; simp
  · rw [if_neg e]
    by_cases h1 : m < 28
    · simp [h1]
    · by_cases h2 : m < 32
      · rw [if_neg h1, if_neg h1, if_pos h2, if_pos h2]
        have : m = 28 ∨ m = 29 ∨ m = 31 := by omega
        rcases this with rfl | rfl | rfl <;> rfl
      · simp [h1, h2]
theorem GrAt.top (h : GrAt w q pre gw gh l t S) (u : Int) : GrAt (w.setCell ⟨q, 31, none⟩ (.int .i64 u)) q pre gw gh l u S := by
  refine ⟨?_, h.psz, h.len⟩
  rw [heap_setCell_same w q _ _ _ _ h.row]
  congr 2
  apply Array.ext_getElem?
  intro m
  rw [Array.getElem?_setIfInBounds, grv_get h.psz, grv_get h.psz, grv_size h.psz _ _ _ _ _ h.len]
  by_cases e : 31 = m
  · subst e; simp
  · rw [if_neg e]
    by_cases h1 : m < 28
    · simp [h1]
    · by_cases h2 : m < 32
      · rw [if_neg h1, if_neg h1, if_pos h2, if_pos h2]
        have : m = 28 ∨ m = 29 ∨ m = 30 := by omega
        rcases this with rfl | rfl | rfl <;> rfl
      · simp [h1, h2]
theorem GrAt.put (h : GrAt w q pre gw gh l t S) (k : Nat) (hk : k < 768) (u : Int) : GrAt (w.setCell ⟨q, 32 + k, none⟩ (.int .i64 u)) q pre gw gh l t (S.set k u) := by
  refine ⟨?_, h.psz, by simpa using h.len⟩
  rw [heap_setCell_same w q _ _ _ _ h.row]
  congr 2
  apply Array.ext_getElem?
  intro m
  rw [Array.getElem?_setIfInBounds, grv_get h.psz, grv_get h.psz, grv_size h.psz _ _ _ _ _ h.len]
  by_cases e : 32 + k = m
  · subst e
    rw [if_pos rfl, if_pos (by omega), if_neg (by omega), if_neg (by omega), show 32 + k - 32 = k by omega, intsv_get _ k (by simp [h.len]; omega)]
    simp
  · rw [if_neg e]
    by_cases h1 : m < 28
    · simp [h1]
    · by_cases h2 : m < 32
      · simp [h1, h2]
      · rw [if_neg h1, if_neg h1, if_neg h2, if_neg h2]
        simp only [intsv, List.getElem?_toArray, List.getElem?_map]
        rw [List.getElem?_set_ne (by omega)]
end

def slotP (gw gh l t x y : Int) : Int :=
  if x < l ∨ l + spanP gw ≤ x ∨ y < t ∨ t + spanP gh ≤ y then -1 else if 768 ≤ y % spanP gh * spanP gw + x % spanP gw then -1 else y % spanP gh * spanP gw + x % spanP gw
theorem spanP_bd {g : Int} (h0 : 0 ≤ g) (h1 : g ≤ 12) : 0 < spanP g ∧ spanP g ≤ 64 := by unfold spanP; split <;> omega

set_option maxRecDepth 100000 in
set_option maxHeartbeats 1000000 in
theorem slot_any (q : Nat) (pre : Array Value) (gw gh l t : Int) (S : List Int) (x y : Int) (w : World) (h : GrAt w q pre gw gh l t S) (w0 : 0 ≤ gw) (w1 : gw ≤ 12) (h0 : 0 ≤ gh) (h1 : gh ≤ 12)
    (l0 : -50000000 ≤ l) (l1 : l ≤ 50000000) (t0 : -50000000 ≤ t) (t1 : t ≤ 50000000) :
    Calls Tryz.prog 62 #[.pointer (some ⟨q, 28, none⟩), .int .i64 x, .int .i64 y] w fun e w' => e = .returned (.int .i64 (slotP gw gh l t x y)) ∧ w' = w := by
  have c0 : w.cell? ⟨q, 28, none⟩ = some (.int .i64 gw) := h.fld 0 (by omega)
  have c1 : w.cell? ⟨q, 29, none⟩ = some (.int .i64 gh) := h.fld 1 (by omega)
  have c2 : w.cell? ⟨q, 30, none⟩ = some (.int .i64 l) := h.fld 2 (by omega)
  have c3 : w.cell? ⟨q, 31, none⟩ = some (.int .i64 t) := h.fld 3 (by omega)
  clear h
  have sw := spanP_bd w0 w1
  have sh := spanP_bd h0 h1
  unfold slotP
  by_cases k1 : x < l
  · rw [if_pos (Or.inl k1)]
    go_enter Tryz.func62, Tryz.ntmps62
    go_wp2_with fail
    refine (span_any gw _).mono ?_
    rintro e w1 ⟨rfl, hw⟩
    subst w1
    go_wp2_with fail
    refine (span_any gh _).mono ?_
    rintro e w1 ⟨rfl, hw⟩
    subst w1
    go_wp2_with fail
    go_ret
    exact ⟨rfl, rfl⟩
  · by_cases k2 : l + spanP gw ≤ x
    · rw [if_pos (Or.inr (Or.inl k2))]
      go_enter Tryz.func62, Tryz.ntmps62
      go_wp2_with fail
      refine (span_any gw _).mono ?_
      rintro e w1 ⟨rfl, hw⟩
      subst w1
      go_wp2_with fail
      refine (span_any gh _).mono ?_
      rintro e w1 ⟨rfl, hw⟩
      subst w1
      generalize spanP gw = cols at *
      generalize spanP gh = rows at *
      go_wp2_with fail
      go_ret
      exact ⟨rfl, rfl⟩
    · by_cases k3 : y < t
      · rw [if_pos (Or.inr (Or.inr (Or.inl k3)))]
        go_enter Tryz.func62, Tryz.ntmps62
        go_wp2_with fail
        refine (span_any gw _).mono ?_
        rintro e w1 ⟨rfl, hw⟩
        subst w1
        go_wp2_with fail
        refine (span_any gh _).mono ?_
        rintro e w1 ⟨rfl, hw⟩
        subst w1
        generalize spanP gw = cols at *
        generalize spanP gh = rows at *
        go_wp2_with fail
        go_ret
        exact ⟨rfl, rfl⟩
      · by_cases k4 : t + spanP gh ≤ y
        · rw [if_pos (Or.inr (Or.inr (Or.inr k4)))]
          go_enter Tryz.func62, Tryz.ntmps62
          go_wp2_with fail
          refine (span_any gw _).mono ?_
          rintro e w1 ⟨rfl, hw⟩
          subst w1
          go_wp2_with fail
          refine (span_any gh _).mono ?_
          rintro e w1 ⟨rfl, hw⟩
          subst w1
          generalize spanP gw = cols at *
          generalize spanP gh = rows at *
          go_wp2_with fail
          go_ret
          exact ⟨rfl, rfl⟩
        · rw [if_neg (by omega)]
          have m1 := Int.emod_nonneg y (show spanP gh ≠ 0 by omega)
          have m2 := Int.emod_lt_of_pos y sh.1
          have m3 := Int.emod_nonneg x (show spanP gw ≠ 0 by omega)
          have m4 := Int.emod_lt_of_pos x sw.1
          have p1 : 0 ≤ y % spanP gh * spanP gw := Int.mul_nonneg m1 (by omega)
          have p2 : y % spanP gh * spanP gw ≤ 4096 := by
            have a1 : y % spanP gh * spanP gw ≤ 64 * spanP gw := Int.mul_le_mul_of_nonneg_right (by omega) (by omega)
            omega
          by_cases k5 : 768 ≤ y % spanP gh * spanP gw + x % spanP gw
          · rw [if_pos k5]
            go_enter Tryz.func62, Tryz.ntmps62
            go_wp2_with fail
            refine (span_any gw _).mono ?_
            rintro e w1 ⟨rfl, hw⟩
            subst w1
            go_wp2_with fail
            refine (span_any gh _).mono ?_
            rintro e w1 ⟨rfl, hw⟩
            subst w1
            go_wp2_with fail
            refine (mod_any y (spanP gh) _ (by omega) (by omega) (by omega) (by omega)).mono ?_
            rintro e w1 ⟨rfl, hw⟩
            subst w1
            go_wp2_with fail
            refine (mod_any x (spanP gw) _ (by omega) (by omega) (by omega) (by omega)).mono ?_
            rintro e w1 ⟨rfl, hw⟩
            subst w1
            go_wp2_with fail
            go_ret
            exact ⟨rfl, rfl⟩
          · rw [if_neg k5]
            go_enter Tryz.func62, Tryz.ntmps62
            go_wp2_with fail
            refine (span_any gw _).mono ?_
            rintro e w1 ⟨rfl, hw⟩
            subst w1
            go_wp2_with fail
            refine (span_any gh _).mono ?_
            rintro e w1 ⟨rfl, hw⟩
            subst w1
            go_wp2_with fail
            refine (mod_any y (spanP gh) _ (by omega) (by omega) (by omega) (by omega)).mono ?_
            rintro e w1 ⟨rfl, hw⟩
            subst w1
            go_wp2_with fail
            refine (mod_any x (spanP gw) _ (by omega) (by omega) (by omega) (by omega)).mono ?_
            rintro e w1 ⟨rfl, hw⟩
            subst w1
            go_wp2_with fail
            go_ret
            exact ⟨rfl, rfl⟩
end Go.Proofs.YthmhjjkmnnmjlaaGreatDoor
