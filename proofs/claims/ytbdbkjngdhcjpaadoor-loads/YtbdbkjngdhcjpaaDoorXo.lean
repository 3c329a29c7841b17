import Derived.Test.YtbdbkjngdhcjpaaDoorM5
namespace Go.Proofs.YtbdbkjngdhcjpaaDoor
open Go.RowKit
open Go.Proofs

theorem oneC_mem {W H x y s : Int} {c : Cl} (h : c ∈ oneC W H x y s) : c = (x, y, s) ∧ s ≠ 0 ∧ onSideB x W = true ∧ onSideB y H = true := by
  unfold oneC at h
  split at h
  · rename_i e
    simp at e
    simp at h
    exact ⟨h, e.1, e.2.1, e.2.2⟩
  · simp at h
theorem rowC_mem {W H y s : Int} {n : Nat} {x : Int} {c : Cl} (h : c ∈ rowC W H y s n x) : ∃ k : Nat, k < n ∧ c = (x + k, y, s) ∧ s ≠ 0 ∧ onSideB (x + k) W = true ∧ onSideB y H = true := by
  unfold rowC at h
  rw [List.mem_flatMap] at h
  obtain ⟨k, hk, h⟩ := h
  exact ⟨k, List.mem_range.1 hk, oneC_mem h⟩
/-- What the body's cells lie between. -/
structure BdOk (st : Int) (W H : Int) (n : Nat) (p : Bd) : Prop where
  x0 : -9999 ≤ p.x
  x1 : p.x ≤ 9999 + 99 * n
  y0 : -9999 ≤ p.y
  y1 : p.y ≤ 9999 + 99 * n
  len : p.live.length ≤ 99 * n
  mem : ∀ c, c ∈ p.live → (-9999 ≤ c.1 ∧ c.1 ≤ 9999 + 99 * n) ∧ (-9999 ≤ c.2.1 ∧ c.2.1 ≤ 9999 + 99 * n) ∧ (1 ≤ c.2.2 ∧ c.2.2 < st) ∧ onSideB c.1 W = true ∧ onSideB c.2.1 H = true
theorem bst_ok {st W H left : Int} (l0 : -9999 ≤ left) (l1 : left ≤ 9999) {n : Nat} {p : Bd} {r : Pu.Run} (h : BdOk st W H n p) (hr : Pu.RunOk st r) : BdOk st W H (n + 1) (bst W H left p r) := by
  obtain ⟨r1, r2, r3, r4⟩ := hr
  have hx0 := h.x0
  have hx1 := h.x1
  have hy0 := h.y0
  have hy1 := h.y1
  have hl := h.len
  unfold bst
  split
  · refine ⟨l0, by simp only; omega, by simp only; omega, by simp only; omega, by simp only; omega, fun c hc => ?_⟩
    obtain ⟨m1, m2, m3, m4⟩ := h.mem c hc
    exact ⟨by omega, by omega, m3, m4⟩
  · have lb := rowC_len W H p.y r.state r.count.toNat p.x
    refine ⟨by simp only; omega, by simp only; omega, hy0, by simp only; omega, by simp only [List.length_append]; omega, fun c hc => ?_⟩
    rcases List.mem_append.1 hc with hc | hc
    · obtain ⟨m1, m2, m3, m4⟩ := h.mem c hc
      exact ⟨by omega, by omega, m3, m4⟩
    · obtain ⟨k, hk, rfl, e1, e2, e3⟩ := rowC_mem hc
      exact ⟨⟨by simp only; omega, by simp only; omega⟩, ⟨by simp only; omega, by simp only; omega⟩, ⟨by simp only; omega, r4⟩, e2, e3⟩
theorem bsts_ok {st W H left : Int} (l0 : -9999 ≤ left) (l1 : left ≤ 9999) : ∀ (l : List Pu.Run) (p : Bd) (n : Nat), BdOk st W H n p → (∀ r, r ∈ l → Pu.RunOk st r) → BdOk st W H (n + l.length) (l.foldl (bst W H left) p) := by
  intro l
  induction l with
  | nil => intro p n h _; exact h
  | cons r l ih =>
    intro p n h hr
    have := ih (bst W H left p r) (n + 1) (bst_ok l0 l1 h (hr r List.mem_cons_self)) (fun s hs => hr s (List.mem_cons_of_mem _ hs))
    rw [List.foldl_cons, List.length_cons]
    rwa [show n + (l.length + 1) = n + 1 + l.length by omega]
/-- The live cells of a text's parts. -/
def liveOf (p : Pu.Parts) : List Cl := (bsts p.shape.w p.shape.h p.col p.row p.runs).live
theorem liveOf_ok {p : Pu.Parts} (h : Pu.PartsOk p) : BdOk p.rule.states p.shape.w p.shape.h p.runs.length (bsts p.shape.w p.shape.h p.col p.row p.runs) := by
  have := bsts_ok (st := p.rule.states) (W := p.shape.w) (H := p.shape.h) h.col.1 h.col.2 p.runs ⟨p.col, p.row, []⟩ 0 ⟨h.col.1, by have := h.col.2; simp only; omega, h.row.1, by have := h.row.2; simp only; omega, by simp, by simp⟩ h.runs
  rwa [Nat.zero_add] at this
theorem liveOf_bd {p : Pu.Parts} (h : Pu.PartsOk p) : ClBd (liveOf p) ∧ (liveOf p).length ≤ 1000000 := by
  have hk := liveOf_ok h
  have hf := h.few
  refine ⟨fun c hc => ?_, ?_⟩
  · have := hk.mem c hc
    omega
  · have := hk.len
    unfold liveOf
    omega
/-- What the document's Load answers of a right text. -/
def xloadE (p : Pu.Parts) : Int := if (p.shape.w = 0 ∨ p.shape.h = 0) ∧ p.rule.births.getD 0 false = true then 3 else if roomB p.shape.w p.shape.h (liveOf p) = true then 0 else 4
/-- The document's world lies at q. -/
structure DocAt (w : World) (q : Nat) (r : Pu.Rule) (x : Pu.Shape) (age : Int) (l : List Cl) : Prop where
  at1 : ∃ g1 g2 v, VAt w q (vw r g1 g2 x age v) ∧ SlB w g1 r.births ∧ SlB w g2 r.survivals ∧ ClAt w v l
def XLoaded (w w' : World) (j : Nat) (o : Option Pu.Parts) (e : Ending) : Prop := match o with
  | none => e = .returned (.tuple #[.pointer none, .int .i64 j, .int .i64 2])
  | some p => ∃ u, e = .returned (.tuple #[u, .int .i64 0, .int .i64 (xloadE p)]) ∧ (xloadE p ≠ 0 → u = .pointer none) ∧ (xloadE p = 0 → ∃ q, u = .pointer (some ⟨q, 0, none⟩) ∧ w.heap.size ≤ q ∧ DocAt w' q p.rule p.shape p.age (liveOf p))

set_option maxHeartbeats 1000000 in
theorem xload_long (s : ByteArray) (w : World) (hs : 400 < s.size) (hm : s.size ≤ maxLen) :
    Calls Tryd.prog 19 #[.string s] w fun e w' => e = .returned (.tuple #[.pointer none, .int .i64 0, .int .i64 1]) ∧ w' = w := by
  unfold maxLen at hm
  go_enter Tryd.func19, Tryd.ntmps19
  go_wp2
  go_ret3
  exact ⟨rfl, rfl⟩

set_option maxRecDepth 100000 in
set_option maxHeartbeats 4000000 in
theorem xload_any (s : ByteArray) (w : World) (hs : s.size ≤ 400) (j : Nat) (o : Option Pu.Parts) (hq : Hid (Pu.read (src s) = (j, o))) :
    Calls Tryd.prog 19 #[.string s] w fun e w' => Kp (fun _ => False) w w' ∧ XLoaded w w' j o e := by
  have R0 : Hid (RxAt ((w.alloc (.cells #[.string s, .int .i64 0] 75)).alloc (.cells vzero 60)) w.heap.size s 0) := ⟨heap_new_keep (heap_alloc_new _ _), Nat.zero_le _, hs⟩
  have V0 : Hid (VAt ((w.alloc (.cells #[.string s, .int .i64 0] 75)).alloc (.cells vzero 60)) (w.heap.size + 1) vzero) := by
    have := heap_alloc_new (w.alloc (.cells #[.string s, .int .i64 0] 75)) (.cells vzero 60)
    rwa [show (w.alloc (.cells #[.string s, .int .i64 0] 75)).heap.size = w.heap.size + 1 by simp] at this
  have K0 : Hid (Kp (fun _ => False) w ((w.alloc (.cells #[.string s, .int .i64 0] 75)).alloc (.cells vzero 60))) := ((Kp.refl _ _).alloc _).alloc _
  unfold vzero at R0 V0 K0
  go_enter Tryd.func19, Tryd.ntmps19
  go_wp2_with fail
  generalize ((w.alloc (.cells #[.string s, .int .i64 0] 75)).alloc (.cells #[.int .u8 0, .slice none 0 0, .slice none 0 0, .int .i64 0, .int .u8 0, .int .i64 0, .int .i64 0, .int .i64 0, .int .i64 0, .bool false, .bool false, .int .i64 0, .slice none 0 0] 60)) = w0 at *
  have s0 := K0.out.size
  refine (xtext_any w.heap.size (w.heap.size + 1) (by omega) s _ R0.out V0.out j o hq).mono ?_
  rintro e w1 ⟨rfl, r1, k1, v1⟩
  have R1 := hide r1
  have K1 := hide (K0.out.tr k1 (fun z hz hx => by rcases hx with rfl | rfl <;> omega))
  clear k1 R0 V0 K0
  cases o with
  | none =>
    have c1 := r1.c1
    clear r1 v1
    go_wp2_with fail
    go_quiet (fail)
    go_wp2_with fail
    go_ret3
    exact ⟨K1.out.drewN _, rfl⟩
  | some p =>
    obtain ⟨g1, g2, v, at1, b1, l1, own, n1, n2⟩ := v1 p rfl
    have pk := Pu.read_inv hq.out
    have lb := liveOf_bd pk
    have C1 : Hid (ClAt w1 v (liveOf p)) := ClAt.of_own own
    have V1 := hide at1
    have D1 : Hid (DocAt w1 (w.heap.size + 1) p.rule p.shape p.age (liveOf p)) := ⟨g1, g2, v, at1, b1, l1, C1.out⟩
    have LB := hide lb
    have c5 : w1.cell? ⟨w.heap.size + 1, 5, none⟩ = some (.int .i64 p.shape.w) := at1.cell 5
    have c6 : w1.cell? ⟨w.heap.size + 1, 6, none⟩ = some (.int .i64 p.shape.h) := at1.cell 6
    have c1 : w1.cell? ⟨w.heap.size + 1, 1, none⟩ = some (.slice (some ⟨g1, 0, none⟩) 9 9) := at1.cell 1
    have c12 : w1.cell? ⟨w.heap.size + 1, 12, none⟩ = some v := at1.cell 12
    have b0 : w1.cell? ⟨g1, 0, none⟩ = some (.bool (p.rule.births.getD 0 false)) := by
      rw [cell_of_row w1 g1 0 _ _ _ b1.2]
      have := b1.1
      generalize p.rule.births = bs at *
      cases bs with
      | nil => simp at this
      | cons a bs => simp [bv]
    have XE : Hid (∀ z, xloadE p = z → xloadE p = z) := fun z h => h
    have X3 : Hid ((p.shape.w = 0 ∨ p.shape.h = 0) → p.rule.births.getD 0 false = true → xloadE p = 3) := fun h1 h2 => if_pos ⟨h1, h2⟩
    have X0 : Hid (¬ ((p.shape.w = 0 ∨ p.shape.h = 0) ∧ p.rule.births.getD 0 false = true) → xloadE p = if roomB p.shape.w p.shape.h (liveOf p) = true then 0 else 4) := fun h1 => if_neg h1
    clear at1 b1 l1 own v1 r1 pk lb hq XE
    have F3 : Hid (xloadE p = 3 → ∃ u, Ending.returned (.tuple #[.pointer none, .int .i64 0, .int .i64 3]) = .returned (.tuple #[u, .int .i64 0, .int .i64 (xloadE p)]) ∧ (xloadE p ≠ 0 → u = .pointer none) ∧ (xloadE p = 0 → ∃ q, u = .pointer (some ⟨q, 0, none⟩) ∧ w.heap.size ≤ q ∧ DocAt w1 q p.rule p.shape p.age (liveOf p))) := fun h => ⟨_, by rw [h], fun _ => rfl, fun h2 => by omega⟩
    have F4 : Hid (xloadE p = 4 → ∃ u, Ending.returned (.tuple #[.pointer none, .int .i64 0, .int .i64 4]) = .returned (.tuple #[u, .int .i64 0, .int .i64 (xloadE p)]) ∧ (xloadE p ≠ 0 → u = .pointer none) ∧ (xloadE p = 0 → ∃ q, u = .pointer (some ⟨q, 0, none⟩) ∧ w.heap.size ≤ q ∧ DocAt w1 q p.rule p.shape p.age (liveOf p))) := fun h => ⟨_, by rw [h], fun _ => rfl, fun h2 => by omega⟩
    have F0 : Hid (xloadE p = 0 → ∃ u, Ending.returned (.tuple #[.pointer (some ⟨w.heap.size + 1, 0, none⟩), .int .i64 0, .int .i64 0]) = .returned (.tuple #[u, .int .i64 0, .int .i64 (xloadE p)]) ∧ (xloadE p ≠ 0 → u = .pointer none) ∧ (xloadE p = 0 → ∃ q, u = .pointer (some ⟨q, 0, none⟩) ∧ w.heap.size ≤ q ∧ DocAt w1 q p.rule p.shape p.age (liveOf p))) := fun h => ⟨_, by rw [h], fun h2 => absurd h h2, fun _ => ⟨_, rfl, by omega, D1.out⟩⟩
    have RM := hide (xroom_any (w.heap.size + 1) _ p.shape.w p.shape.h v (liveOf p) w1 V1.out rfl rfl C1.out LB.out.2 LB.out.1)
    clear V1 C1 LB D1
    generalize p.rule.births.getD 0 false = bb at *
    generalize p.shape.w = W at *
    generalize p.shape.h = H at *
    generalize roomB W H (liveOf p) = rm at *
    have cs : ((W == 0) = true ∧ W = 0) ∨ ((W == 0) = false ∧ (H == 0) = true ∧ H = 0) ∨ ((W == 0) = false ∧ (H == 0) = false ∧ W ≠ 0 ∧ H ≠ 0) := by
      by_cases e1 : W = 0
      · left; exact ⟨by simpa using e1, e1⟩
      · right
        by_cases e2 : H = 0
        · left; exact ⟨by simpa using e1, by simpa using e2, e2⟩
        · right; exact ⟨by simpa using e1, by simpa using e2, e1, e2⟩
    rcases cs with ⟨z1, z2⟩ | ⟨z1, z2, z3⟩ | ⟨z1, z2, z3, z4⟩
    · subst z2
      cases bb with
      | true =>
        go_wp2_with fail
        go_ret3
        exact ⟨K1.out, F3.out (X3.out (by simp) (by simp))⟩
      | false =>
        have X := hide (X0.out (by simp))
        cases rm with
        | true =>
          go_wp2_with fail
          refine RM.out.mono ?_
          rintro e w2 ⟨rfl, hw⟩
          subst hw
          go_wp2_with fail
          go_ret3
          exact ⟨K1.out, F0.out X.out⟩
        | false =>
          go_wp2_with fail
          refine RM.out.mono ?_
          rintro e w2 ⟨rfl, hw⟩
          subst hw
          go_wp2_with fail
          go_ret3
          exact ⟨K1.out, F4.out X.out⟩
    · subst z3
      cases bb with
      | true =>
        go_wp2_with fail
        go_ret3
        exact ⟨K1.out, F3.out (X3.out (by simp) (by simp))⟩
      | false =>
        have X := hide (X0.out (by simp))
        cases rm with
        | true =>
          go_wp2_with fail
          refine RM.out.mono ?_
          rintro e w2 ⟨rfl, hw⟩
          subst hw
          go_wp2_with fail
          go_ret3
          exact ⟨K1.out, F0.out X.out⟩
        | false =>
          go_wp2_with fail
          refine RM.out.mono ?_
          rintro e w2 ⟨rfl, hw⟩
          subst hw
          go_wp2_with fail
          go_ret3
          exact ⟨K1.out, F4.out X.out⟩
    · have X := hide (X0.out (by rintro ⟨h, _⟩; omega))
      cases rm with
      | true =>
        go_wp2_with fail
        refine RM.out.mono ?_
        rintro e w2 ⟨rfl, hw⟩
        subst hw
        go_wp2_with fail
        go_ret3
        exact ⟨K1.out, F0.out X.out⟩
      | false =>
        go_wp2_with fail
        refine RM.out.mono ?_
        rintro e w2 ⟨rfl, hw⟩
        subst hw
        go_wp2_with fail
        go_ret3
        exact ⟨K1.out, F4.out X.out⟩
end Go.Proofs.YtbdbkjngdhcjpaaDoor
