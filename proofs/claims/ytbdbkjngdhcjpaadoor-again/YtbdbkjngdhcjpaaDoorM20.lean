import Derived.Test.YtbdbkjngdhcjpaaDoorM19
import Derived.Test.YtbdbkjngdhcjpaaDoorTc
namespace Go.Proofs.YtbdbkjngdhcjpaaDoor
open Go.RowKit
open Go.Proofs

theorem oneC_mem {W H x y s : Int} {c : Cl} (h : c ∈ oneC W H x y s) : c = (x, y, s) ∧ s ≠ 0 ∧ onSideB x W = true ∧ onSideB y H = true := by
  unfold oneC at h
  split at h
  · rename_i e
    simp at e
    simp at h
    exact ⟨h, e.1, e.2.1, e.2.2⟩
  · simp at h
theorem rowC_mem {W H y s : Int} {n : Nat} {x : Int} {c : Cl} (h : c ∈ rowC W H y s n x) : ∃ k : Nat, k < n ∧ c = (x + k, y, s) ∧ s ≠ 0 ∧ onSideB (x + k) W = true ∧ onSideB y H = true := by
  unfold rowC at h
  rw [List.mem_flatMap] at h
  obtain ⟨k, hk, h⟩ := h
  exact ⟨k, List.mem_range.1 hk, oneC_mem h⟩
/-- What the body's cells lie between. -/
structure BdOk (st : Int) (W H : Int) (n : Nat) (p : Bd) : Prop where
  x0 : -9999 ≤ p.x
  x1 : p.x ≤ 9999 + 99 * n
  y0 : -9999 ≤ p.y
  y1 : p.y ≤ 9999 + 99 * n
  len : p.live.length ≤ 99 * n
  mem : ∀ c, c ∈ p.live → (-9999 ≤ c.1 ∧ c.1 ≤ 9999 + 99 * n) ∧ (-9999 ≤ c.2.1 ∧ c.2.1 ≤ 9999 + 99 * n) ∧ (1 ≤ c.2.2 ∧ c.2.2 < st) ∧ onSideB c.1 W = true ∧ onSideB c.2.1 H = true
theorem bst_ok {st W H left : Int} (l0 : -9999 ≤ left) (l1 : left ≤ 9999) {n : Nat} {p : Bd} {r : Pu.Run} (h : BdOk st W H n p) (hr : Pu.RunOk st r) : BdOk st W H (n + 1) (bst W H left p r) := by
  obtain ⟨r1, r2, r3, r4⟩ := hr
  have hx0 := h.x0
  have hx1 := h.x1
  have hy0 := h.y0
  have hy1 := h.y1
  have hl := h.len
  unfold bst
  split
  · refine ⟨l0, by simp only; omega, by simp only; omega, by simp only; omega, by simp only; omega, fun c hc => ?_⟩
    obtain ⟨m1, m2, m3, m4⟩ := h.mem c hc
    exact ⟨by omega, by omega, m3, m4⟩
  · have lb := rowC_len W H p.y r.state r.count.toNat p.x
    refine ⟨by simp only; omega, by simp only; omega, hy0, by simp only; omega, by simp only [List.length_append]; omega, fun c hc => ?_⟩
    rcases List.mem_append.1 hc with hc | hc
    · obtain ⟨m1, m2, m3, m4⟩ := h.mem c hc
      exact ⟨by omega, by omega, m3, m4⟩
    · obtain ⟨k, hk, rfl, e1, e2, e3⟩ := rowC_mem hc
      exact ⟨⟨by simp only; omega, by simp only; omega⟩, ⟨by simp only; omega, by simp only; omega⟩, ⟨by simp only; omega, r4⟩, e2, e3⟩
theorem bsts_ok {st W H left : Int} (l0 : -9999 ≤ left) (l1 : left ≤ 9999) : ∀ (l : List Pu.Run) (p : Bd) (n : Nat), BdOk st W H n p → (∀ r, r ∈ l → Pu.RunOk st r) → BdOk st W H (n + l.length) (l.foldl (bst W H left) p) := by
  intro l
  induction l with
  | nil => intro p n h _; exact h
  | cons r l ih =>
    intro p n h hr
    have := ih (bst W H left p r) (n + 1) (bst_ok l0 l1 h (hr r List.mem_cons_self)) (fun s hs => hr s (List.mem_cons_of_mem _ hs))
    rw [List.foldl_cons, List.length_cons]
    rwa [show n + (l.length + 1) = n + 1 + l.length by omega]
/-- The live cells of a text's parts. -/
def liveOf (p : Pu.Parts) : List Cl := (bsts p.shape.w p.shape.h p.col p.row p.runs).live
theorem liveOf_ok {p : Pu.Parts} (h : Pu.PartsOk p) : BdOk p.rule.states p.shape.w p.shape.h p.runs.length (bsts p.shape.w p.shape.h p.col p.row p.runs) := by
  have := bsts_ok (st := p.rule.states) (W := p.shape.w) (H := p.shape.h) h.col.1 h.col.2 p.runs ⟨p.col, p.row, []⟩ 0 ⟨h.col.1, by have := h.col.2; simp only; omega, h.row.1, by have := h.row.2; simp only; omega, by simp, by simp⟩ h.runs
  rwa [Nat.zero_add] at this
theorem liveOf_bd {p : Pu.Parts} (h : Pu.PartsOk p) : ClBd (liveOf p) ∧ (liveOf p).length ≤ 1000000 := by
  have hk := liveOf_ok h
  have hf := h.few
  refine ⟨fun c hc => ?_, ?_⟩
  · have := hk.mem c hc
    omega
  · have := hk.len
    unfold liveOf
    omega
/-- What the document's Load answers of a right text. -/
def xloadE (p : Pu.Parts) : Int := if (p.shape.w = 0 ∨ p.shape.h = 0) ∧ p.rule.births.getD 0 false = true then 3 else if roomB p.shape.w p.shape.h (liveOf p) = true then 0 else 4
/-- The document's world lies at q. -/
structure DocAt (w : World) (q : Nat) (r : Pu.Rule) (x : Pu.Shape) (age : Int) (l : List Cl) : Prop where
  at1 : ∃ g1 g2 v, VAt w q (vw r g1 g2 x age v) ∧ SlB w g1 r.births ∧ SlB w g2 r.survivals ∧ ClAt w v l
def XLoaded (w w' : World) (j : Nat) (o : Option Pu.Parts) (e : Ending) : Prop := match o with
  | none => e = .returned (.tuple #[.pointer none, .int .i64 j, .int .i64 2])
  | some p => ∃ u, e = .returned (.tuple #[u, .int .i64 0, .int .i64 (xloadE p)]) ∧ (xloadE p ≠ 0 → u = .pointer none) ∧ (xloadE p = 0 → ∃ q, u = .pointer (some ⟨q, 0, none⟩) ∧ w.heap.size ≤ q ∧ DocAt w' q p.rule p.shape p.age (liveOf p))

set_option maxHeartbeats 1000000 in
theorem xload_long (s : ByteArray) (w : World) (hs : 400 < s.size) (hm : s.size ≤ maxLen) :
    Calls Tryd.prog 19 #[.string s] w fun e w' => e = .returned (.tuple #[.pointer none, .int .i64 0, .int .i64 1]) ∧ w' = w := by
  unfold maxLen at hm
  go_enter Tryd.func19, Tryd.ntmps19
  go_wp2
  go_ret3
  exact ⟨rfl, rfl⟩

set_option maxRecDepth 100000 in
set_option maxHeartbeats 4000000 in
theorem xload_any (s : ByteArray) (w : World) (hs : s.size ≤ 400) (j : Nat) (o : Option Pu.Parts) (hq : Hid (Pu.read (src s) = (j, o))) :
    Calls Tryd.prog 19 #[.string s] w fun e w' => Kp (fun _ => False) w w' ∧ XLoaded w w' j o e := by
  have R0 : Hid (RxAt ((w.alloc (.cells #[.string s, .int .i64 0] 75)).alloc (.cells vzero 60)) w.heap.size s 0) := ⟨heap_new_keep (heap_alloc_new _ _), Nat.zero_le _, hs⟩
  have V0 : Hid (VAt ((w.alloc (.cells #[.string s, .int .i64 0] 75)).alloc (.cells vzero 60)) (w.heap.size + 1) vzero) := by
    have := heap_alloc_new (w.alloc (.cells #[.string s, .int .i64 0] 75)) (.cells vzero 60)
    rwa [show (w.alloc (.cells #[.string s, .int .i64 0] 75)).heap.size = w.heap.size + 1 by simp] at this
  have K0 : Hid (Kp (fun _ => False) w ((w.alloc (.cells #[.string s, .int .i64 0] 75)).alloc (.cells vzero 60))) := ((Kp.refl _ _).alloc _).alloc _
  unfold vzero at R0 V0 K0
  go_enter Tryd.func19, Tryd.ntmps19
  go_wp2_with fail
  generalize ((w.alloc (.cells #[.string s, .int .i64 0] 75)).alloc (.cells #[.int .u8 0, .slice none 0 0, .slice none 0 0, .int .i64 0, .int .u8 0, .int .i64 0, .int .i64 0, .int .i64 0, .int .i64 0, .bool false, .bool false, .int .i64 0, .slice none 0 0] 60)) = w0 at *
  have s0 := K0.out.size
  refine (xtext_any w.heap.size (w.heap.size + 1) (by omega) s _ R0.out V0.out j o hq).mono ?_
  rintro e w1 ⟨rfl, r1, k1, v1⟩
  have R1 := hide r1
  have K1 := hide (K0.out.tr k1 (fun z hz hx => by rcases hx with rfl | rfl <;> omega))
  clear k1 R0 V0 K0
  cases o with
  | none =>
    have c1 := r1.c1
    clear r1 v1
    go_wp2_with fail
    go_quiet (fail)
    go_wp2_with fail
    go_ret3
    exact ⟨K1.out.drewN _, rfl⟩
  | some p =>
    obtain ⟨g1, g2, v, at1, b1, l1, own, n1, n2⟩ := v1 p rfl
    have pk := Pu.read_inv hq.out
    have lb := liveOf_bd pk
    have C1 : Hid (ClAt w1 v (liveOf p)) := ClAt.of_own own
    have V1 := hide at1
    have D1 : Hid (DocAt w1 (w.heap.size + 1) p.rule p.shape p.age (liveOf p)) := ⟨g1, g2, v, at1, b1, l1, C1.out⟩
    have LB := hide lb
    have c5 : w1.cell? ⟨w.heap.size + 1, 5, none⟩ = some (.int .i64 p.shape.w) := at1.cell 5
    have c6 : w1.cell? ⟨w.heap.size + 1, 6, none⟩ = some (.int .i64 p.shape.h) := at1.cell 6
    have c1 : w1.cell? ⟨w.heap.size + 1, 1, none⟩ = some (.slice (some ⟨g1, 0, none⟩) 9 9) := at1.cell 1
    have c12 : w1.cell? ⟨w.heap.size + 1, 12, none⟩ = some v := at1.cell 12
    have b0 : w1.cell? ⟨g1, 0, none⟩ = some (.bool (p.rule.births.getD 0 false)) := by
      rw [cell_of_row w1 g1 0 _ _ _ b1.2]
      have := b1.1
      generalize p.rule.births = bs at *
      cases bs with
      | nil => simp at this
      | cons a bs => simp [bv]
    have XE : Hid (∀ z, xloadE p = z → xloadE p = z) := fun z h => h
    have X3 : Hid ((p.shape.w = 0 ∨ p.shape.h = 0) → p.rule.births.getD 0 false = true → xloadE p = 3) := fun h1 h2 => if_pos ⟨h1, h2⟩
    have X0 : Hid (¬ ((p.shape.w = 0 ∨ p.shape.h = 0) ∧ p.rule.births.getD 0 false = true) → xloadE p = if roomB p.shape.w p.shape.h (liveOf p) = true then 0 else 4) := fun h1 => if_neg h1
    clear at1 b1 l1 own v1 r1 pk lb hq XE
    have F3 : Hid (xloadE p = 3 → ∃ u, Ending.returned (.tuple #[.pointer none, .int .i64 0, .int .i64 3]) = .returned (.tuple #[u, .int .i64 0, .int .i64 (xloadE p)]) ∧ (xloadE p ≠ 0 → u = .pointer none) ∧ (xloadE p = 0 → ∃ q, u = .pointer (some ⟨q, 0, none⟩) ∧ w.heap.size ≤ q ∧ DocAt w1 q p.rule p.shape p.age (liveOf p))) := fun h => ⟨_, by rw [h], fun _ => rfl, fun h2 => by omega⟩
    have F4 : Hid (xloadE p = 4 → ∃ u, Ending.returned (.tuple #[.pointer none, .int .i64 0, .int .i64 4]) = .returned (.tuple #[u, .int .i64 0, .int .i64 (xloadE p)]) ∧ (xloadE p ≠ 0 → u = .pointer none) ∧ (xloadE p = 0 → ∃ q, u = .pointer (some ⟨q, 0, none⟩) ∧ w.heap.size ≤ q ∧ DocAt w1 q p.rule p.shape p.age (liveOf p))) := fun h => ⟨_, by rw [h], fun _ => rfl, fun h2 => by omega⟩
    have F0 : Hid (xloadE p = 0 → ∃ u, Ending.returned (.tuple #[.pointer (some ⟨w.heap.size + 1, 0, none⟩), .int .i64 0, .int .i64 0]) = .returned (.tuple #[u, .int .i64 0, .int .i64 (xloadE p)]) ∧ (xloadE p ≠ 0 → u = .pointer none) ∧ (xloadE p = 0 → ∃ q, u = .pointer (some ⟨q, 0, none⟩) ∧ w.heap.size ≤ q ∧ DocAt w1 q p.rule p.shape p.age (liveOf p))) := fun h => ⟨_, by rw [h], fun h2 => absurd h h2, fun _ => ⟨_, rfl, by omega, D1.out⟩⟩
    have RM := hide (xroom_any (w.heap.size + 1) _ p.shape.w p.shape.h v (liveOf p) w1 V1.out rfl rfl C1.out LB.out.2 LB.out.1)
    clear V1 C1 LB D1
    generalize p.rule.births.getD 0 false = bb at *
    generalize p.shape.w = W at *
    generalize p.shape.h = H at *
    generalize roomB W H (liveOf p) = rm at *
    have cs : ((W == 0) = true ∧ W = 0) ∨ ((W == 0) = false ∧ (H == 0) = true ∧ H = 0) ∨ ((W == 0) = false ∧ (H == 0) = false ∧ W ≠ 0 ∧ H ≠ 0) := by
      by_cases e1 : W = 0
      · left; exact ⟨by simpa using e1, e1⟩
      · right
        by_cases e2 : H = 0
        · left; exact ⟨by simpa using e1, by simpa using e2, e2⟩
        · right; exact ⟨by simpa using e1, by simpa using e2, e1, e2⟩
    rcases cs with ⟨z1, z2⟩ | ⟨z1, z2, z3⟩ | ⟨z1, z2, z3, z4⟩
    · subst z2
      cases bb with
      | true =>
        go_wp2_with fail
        go_ret3
        exact ⟨K1.out, F3.out (X3.out (by simp) (by simp))⟩
      | false =>
        have X := hide (X0.out (by simp))
        cases rm with
        | true =>
          go_wp2_with fail
          refine RM.out.mono ?_
          rintro e w2 ⟨rfl, hw⟩
          subst hw
          go_wp2_with fail
          go_ret3
          exact ⟨K1.out, F0.out X.out⟩
        | false =>
          go_wp2_with fail
          refine RM.out.mono ?_
          rintro e w2 ⟨rfl, hw⟩
          subst hw
          go_wp2_with fail
          go_ret3
          exact ⟨K1.out, F4.out X.out⟩
    · subst z3
      cases bb with
      | true =>
        go_wp2_with fail
        go_ret3
        exact ⟨K1.out, F3.out (X3.out (by simp) (by simp))⟩
      | false =>
        have X := hide (X0.out (by simp))
        cases rm with
        | true =>
          go_wp2_with fail
          refine RM.out.mono ?_
          rintro e w2 ⟨rfl, hw⟩
          subst hw
          go_wp2_with fail
          go_ret3
          exact ⟨K1.out, F0.out X.out⟩
        | false =>
          go_wp2_with fail
          refine RM.out.mono ?_
          rintro e w2 ⟨rfl, hw⟩
          subst hw
          go_wp2_with fail
          go_ret3
          exact ⟨K1.out, F4.out X.out⟩
    · have X := hide (X0.out (by rintro ⟨h, _⟩; omega))
      cases rm with
      | true =>
        go_wp2_with fail
        refine RM.out.mono ?_
        rintro e w2 ⟨rfl, hw⟩
        subst hw
        go_wp2_with fail
        go_ret3
        exact ⟨K1.out, F0.out X.out⟩
      | false =>
        go_wp2_with fail
        refine RM.out.mono ?_
        rintro e w2 ⟨rfl, hw⟩
        subst hw
        go_wp2_with fail
        go_ret3
        exact ⟨K1.out, F4.out X.out⟩
end Go.Proofs.YtbdbkjngdhcjpaaDoor
namespace Go.Proofs.YtbdbkjngdhcjpaaDoor
open Go.RowKit
open Go.Proofs

/-- These cells have room. -/
structure Rm (W H : Int) (l : List Cl) : Prop where
  x : W = 0 → ∀ c, c ∈ l → ∀ d, d ∈ l → (-9999 ≤ c.1 ∧ c.1 ≤ 9999) ∧ c.1 - d.1 < 64
  y : H = 0 → ∀ c, c ∈ l → ∀ d, d ∈ l → (-9999 ≤ c.2.1 ∧ c.2.1 ≤ 9999) ∧ c.2.1 - d.2.1 < 64
theorem Rm.nil (W H : Int) : Rm W H [] := ⟨by simp, by simp⟩
theorem Rm.mono {W H : Int} {l m : List Cl} (h : Rm W H m) (hs : ∀ c, c ∈ l → c ∈ m) : Rm W H l :=
  ⟨fun e c hc d hd => h.x e c (hs c hc) d (hs d hd), fun e c hc d hd => h.y e c (hs c hc) d (hs d hd)⟩
theorem room_iff {W H : Int} (s : Side W H) (l : List Cl) : roomB W H l = true ↔ Rm W H l := by
  have w0 := s.w0
  have h0 := s.h0
  have one := s.one
  unfold roomB
  rw [decide_eq_true_iff]
  by_cases hl : l = []
  · subst hl
    exact ⟨fun _ => Rm.nil _ _, fun _ => Or.inl rfl⟩
  · have hb := boxL_is hl
    unfold boxA boxB
    generalize boxL l = p at *
    obtain ⟨hin, ⟨ca, ca1, ca2⟩, ⟨cb, cb1, cb2⟩, ⟨cc, cc1, cc2⟩, ⟨cd, cd1, cd2⟩⟩ := hb
    constructor
    · rintro (h | h | h)
      · exact absurd h hl
      · exact ⟨fun e => by omega, fun e => by omega⟩
      · refine ⟨fun e c hc d hd => ?_, fun e c hc d hd => ?_⟩
        · rw [if_neg (by omega), if_neg (by omega)] at h
          have i1 := hin c hc
          have i2 := hin d hd
          omega
        · rw [if_pos e, if_pos e] at h
          have i1 := hin c hc
          have i2 := hin d hd
          omega
    · intro h
      by_cases e : W = 0
      · have i1 := h.x e cb cb1 ca ca1
        have i2 := h.x e ca ca1 ca ca1
        right; right
        rw [if_neg (by omega), if_neg (by omega)]
        omega
      · by_cases e2 : H = 0
        · have i1 := h.y e2 cd cd1 cc cc1
          have i2 := h.y e2 cc cc1 cc cc1
          right; right
          rw [if_pos e2, if_pos e2]
          omega
        · right; left; omega
/-- What is found in a list. -/
theorem atL_ne {l : List Cl} {X Y : Int} (h : atL l X Y ≠ 0) : ∃ c, c ∈ l ∧ c.1 = X ∧ c.2.1 = Y := by
  induction l with
  | nil => exact absurd rfl h
  | cons c l ih =>
    unfold atL at h
    by_cases e : c.1 = X ∧ c.2.1 = Y
    · exact ⟨c, List.mem_cons_self, e.1, e.2⟩
    · rw [if_neg e] at h
      obtain ⟨d, hd, e2⟩ := ih h
      exact ⟨d, List.mem_cons_of_mem _ hd, e2⟩
theorem atL_mem {l : List Cl} (hz : ∀ c, c ∈ l → c.2.2 ≠ 0) {c : Cl} (h : c ∈ l) : atL l c.1 c.2.1 ≠ 0 := by
  induction l with
  | nil => simp at h
  | cons d l ih =>
    unfold atL
    split
    · exact hz d List.mem_cons_self
    · rename_i e
      rcases List.mem_cons.1 h with rfl | h
      · exact absurd ⟨rfl, rfl⟩ e
      · exact ih (fun c hc => hz c (List.mem_cons_of_mem _ hc)) h
theorem atL_app (l m : List Cl) (X Y : Int) (hn : ∀ c, c ∈ l → ¬ (c.1 = X ∧ c.2.1 = Y)) : atL (l ++ m) X Y = atL m X Y := by
  induction l with
  | nil => rfl
  | cons c l ih =>
    rw [List.cons_append, atL, if_neg (hn c List.mem_cons_self), ih (fun d hd => hn d (List.mem_cons_of_mem _ hd))]
theorem atL_app2 (l m : List Cl) (X Y : Int) (hn : ∀ c, c ∈ m → ¬ (c.1 = X ∧ c.2.1 = Y)) : atL (l ++ m) X Y = atL l X Y := by
  induction l with
  | nil =>
    rw [List.nil_append]
    by_cases e : atL m X Y = 0
    · rw [e]; rfl
    · obtain ⟨c, h1, h2⟩ := atL_ne e
      exact absurd h2 (hn c h1)
  | cons c l ih =>
    rw [List.cons_append, atL, atL, ih]
/-- One cell more. -/
theorem atL_snoc (l : List Cl) (x y s X Y : Int) (hn : ∀ c, c ∈ l → ¬ (c.1 = x ∧ c.2.1 = y)) : atL (l ++ [(x, y, s)]) X Y = if X = x ∧ Y = y then s else atL l X Y := by
  by_cases e : X = x ∧ Y = y
  · rw [if_pos e, atL_app l _ X Y (fun c hc => by rw [e.1, e.2]; exact hn c hc)]
    simp [atL, e.1, e.2]
  · rw [if_neg e, atL_app2]
    intro c hc h2
    simp at hc
    subst hc
    exact e ⟨h2.1.symm, h2.2.symm⟩
/-- A grid and a list tell the same cells. -/
def Same (W H : Int) (g : Gs) (l : List Cl) : Prop := ∀ X Y, getG W H g X Y = atL l X Y
theorem fits_iff {x : Pu.Shape} {g : Gs} {l : List Cl} (hs : Same x.w x.h g l) (hz : ∀ c, c ∈ l → c.2.2 ≠ 0) (hr : Rm x.w x.h l) (X Y s : Int) : (nearB x X Y = true ∧ Fits x.w x.h g X Y) ↔ Rm x.w x.h (l ++ [(X, Y, s)]) := by
  have hin : ∀ c, c ∈ l ++ [(X, Y, s)] → Hold (addB (liveP x.w x.h g.l g.t g.S) X Y) c.1 c.2.1 := by
    intro c hc
    rcases List.mem_append.1 hc with hc | hc
    · refine hold_add _ _ (hold_live g.S ?_)
      have := hs c.1 c.2.1
      unfold getG at this
      rw [this]
      exact atL_mem hz hc
    · simp at hc
      subst hc
      exact hold_new _ _ _
  have hed := edges_add (x := X) (y := Y) (edges_live (gw := x.w) (gh := x.h) (l := g.l) (t := g.t) g.S (PX := fun a => ∃ c, c ∈ l ++ [(X, Y, s)] ∧ c.1 = a) (PY := fun a => ∃ c, c ∈ l ++ [(X, Y, s)] ∧ c.2.1 = a) (fun A B hg => by
    have := hs A B
    unfold getG at this
    rw [this] at hg
    obtain ⟨c, hc, h1, h2⟩ := atL_ne hg
    exact ⟨⟨c, List.mem_append_left _ hc, h1⟩, ⟨c, List.mem_append_left _ hc, h2⟩⟩)) ⟨(X, Y, s), by simp, rfl⟩ ⟨(X, Y, s), by simp, rfl⟩
  replace hed := hed.resolve_left (by rw [(addB_mem _ _ _).1]; simp)
  unfold Fits FitB
  generalize addB (liveP x.w x.h g.l g.t g.S) X Y = b at *
  obtain ⟨⟨cl, l1, l2⟩, ⟨cr, r1, r2⟩, ⟨ct, t1, t2⟩, ⟨cb, b1, b2⟩⟩ := hed
  unfold nearB nearOnB
  rw [Bool.and_eq_true, decide_eq_true_iff, decide_eq_true_iff]
  constructor
  · rintro ⟨⟨n1, n2⟩, f1, f2⟩
    refine ⟨fun e c hc d hd => ?_, fun e c hc d hd => ?_⟩
    · have i1 := hin c hc
      have i2 := hin d hd
      unfold Hold at i1 i2
      have := f1 e
      refine ⟨?_, by omega⟩
      rcases List.mem_append.1 hc with hc | hc
      · exact (hr.x e c hc c hc).1
      · simp at hc
        subst hc
        simp only
        omega
    · have i1 := hin c hc
      have i2 := hin d hd
      unfold Hold at i1 i2
      have := f2 e
      refine ⟨?_, by omega⟩
      rcases List.mem_append.1 hc with hc | hc
      · exact (hr.y e c hc c hc).1
      · simp at hc
        subst hc
        simp only
        omega
  · intro h
    refine ⟨⟨?_, ?_⟩, fun e => ?_, fun e => ?_⟩
    · by_cases e : x.w = 0
      · right; exact (h.x e (X, Y, s) (by simp) (X, Y, s) (by simp)).1
      · left; exact e
    · by_cases e : x.h = 0
      · right; exact (h.y e (X, Y, s) (by simp) (X, Y, s) (by simp)).1
      · left; exact e
    · have := (h.x e cr r1 cl l1).2
      omega
    · have := (h.y e cb b1 ct t1).2
      omega
/-- The list as it is built: cells ahead of (a, b). -/
structure Lk (st : Int) (a b : Int) (l : List Cl) : Prop where
  ahead : ∀ c, c ∈ l → c.2.1 < b ∨ (c.2.1 = b ∧ c.1 < a)
  nz : ∀ c, c ∈ l → c.2.2 ≠ 0
theorem run_same {c : Int} {x : Pu.Shape} (hx : Pu.ShapeOk x) {g : Gs} {l : List Cl} (ho : GsOk c x.w x.h g) (hs : Same x.w x.h g l) {a b u : Int} (hk : Lk c a b l) (hr : Rm x.w x.h l) (hu : 1 ≤ u ∧ u < c) : ∀ k : Nat,
    Lk c (a + k) b (l ++ rowC x.w x.h b u k a) ∧ ((runG x g a b u k).1 = true → Same x.w x.h (runG x g a b u k).2 (l ++ rowC x.w x.h b u k a) ∧ Rm x.w x.h (l ++ rowC x.w x.h b u k a)) ∧ ((runG x g a b u k).1 = false → ¬ Rm x.w x.h (l ++ rowC x.w x.h b u k a)) := by
  intro k
  induction k with
  | zero =>
    refine ⟨?_, fun _ => ?_, fun h => ?_⟩
    · simpa [rowC] using hk
    · simpa [rowC, runG] using ⟨hs, hr⟩
    · simp [runG] at h
  | succ k ih =>
    obtain ⟨i1, i2, i3⟩ := ih
    rw [rowC_succ, ← List.append_assoc]
    have hok := runG_ok hx ho a b u (by omega) k
    have hl : Lk c (a + ((k + 1 : Nat) : Int)) b (l ++ rowC x.w x.h b u k a ++ oneC x.w x.h (a + k) b u) := by
      refine ⟨fun d hd => ?_, fun d hd => ?_⟩
      · rcases List.mem_append.1 hd with hd | hd
        · have := i1.ahead d hd
          omega
        · obtain ⟨rfl, _⟩ := oneC_mem hd
          exact Or.inr ⟨rfl, show a + (k : Int) < a + ((k + 1 : Nat) : Int) by omega⟩
      · rcases List.mem_append.1 hd with hd | hd
        · exact i1.nz d hd
        · obtain ⟨rfl, h2, _⟩ := oneC_mem hd
          exact h2
    refine ⟨hl, ?_⟩
    unfold runG
    generalize l ++ rowC x.w x.h b u k a = m at *
    generalize runG x g a b u k = R at *
    by_cases e1 : R.1 = false
    · rw [if_pos e1]
      refine ⟨fun h => ?_, fun _ hh => i3 e1 (hh.mono fun c hc => List.mem_append_left _ hc)⟩
      rw [e1] at h
      cases h
    · rw [if_neg e1]
      obtain ⟨s1, s2⟩ := i2 (by simpa using e1)
      by_cases e2 : hasB x (a + k) b = false
      · rw [if_pos e2]
        have e3 : oneC x.w x.h (a + k) b u = [] := by
          unfold oneC
          rw [if_neg]
          unfold hasB at e2
          simp
          intro _ h
          simpa [h] using e2
        rw [e3, List.append_nil]
        exact ⟨fun _ => ⟨s1, s2⟩, fun h => absurd h e1⟩
      · rw [if_neg e2]
        have e2' : hasB x (a + k) b = true := by simpa using e2
        have e3 : oneC x.w x.h (a + k) b u = [(a + k, b, u)] := by
          unfold oneC
          rw [if_pos]
          unfold hasB at e2'
          rw [e2']
          simp
          omega
        rw [e3]
        have F := fits_iff s1 i1.nz s2 (a + k) b u
        by_cases e4 : nearB x (a + k) b = false
        · rw [if_pos e4]
          refine ⟨fun h => by simp at h, fun _ hh => ?_⟩
          have := (F.2 hh).1
          rw [e4] at this
          cases this
        · rw [if_neg e4]
          have e4' : nearB x (a + k) b = true := by simpa using e4
          have sp := spot_of hx e2' e4'
          by_cases e5 : Fits x.w x.h R.2 (a + k) b
          · obtain ⟨p1, p2, p3⟩ := put_spec (side_of hx) hok sp (by omega) (Or.inr e5) (u := u)
            refine ⟨fun _ => ⟨fun X Y => ?_, F.1 ⟨e4', e5⟩⟩, fun h => ?_⟩
            · rw [p3, atL_snoc, s1]
              intro d hd hh
              have := i1.ahead d hd
              omega
            · rw [p1] at h
              cases h
          · rw [put_fail (side_of hx) (fun h => h.elim (fun h => by omega) e5)]
            refine ⟨fun h => by simp at h, fun _ hh => e5 (F.2 hh).2⟩
theorem lay_same {c : Int} {x : Pu.Shape} (hx : Pu.ShapeOk x) (col : Int) : ∀ (rs : List Pu.Run) (a b : Int) (g : Gs) (l : List Cl), (∀ r, r ∈ rs → Pu.RunOk c r) → GsOk c x.w x.h g → Same x.w x.h g l → Lk c a b l → Rm x.w x.h l →
    ((layG x col rs a b g).1 = true → Same x.w x.h (layG x col rs a b g).2 (rs.foldl (bst x.w x.h col) ⟨a, b, l⟩).live ∧ Rm x.w x.h (rs.foldl (bst x.w x.h col) ⟨a, b, l⟩).live ∧ GsOk c x.w x.h (layG x col rs a b g).2) ∧
    ((layG x col rs a b g).1 = false → ¬ Rm x.w x.h (rs.foldl (bst x.w x.h col) ⟨a, b, l⟩).live) := by
  have grow : ∀ (rs : List Pu.Run) (p : Bd) (d : Cl), d ∈ p.live → d ∈ (rs.foldl (bst x.w x.h col) p).live := by
    intro rs
    induction rs with
    | nil => intro p d h; exact h
    | cons r rs ih =>
      intro p d h
      refine ih _ d ?_
      unfold bst
      split
      · exact h
      · exact List.mem_append_left _ h
  intro rs
  induction rs with
  | nil =>
    intro a b g l _ ho hs hk hr
    refine ⟨fun _ => ⟨hs, hr, ho⟩, fun h => ?_⟩
    simp [layG] at h
  | cons rn rs ih =>
    intro a b g l hall ho hs hk hr
    have hrn := hall rn List.mem_cons_self
    obtain ⟨r1, r2, r3, r4⟩ := hrn
    have hall' : ∀ r, r ∈ rs → Pu.RunOk c r := fun r h => hall r (List.mem_cons_of_mem _ h)
    rw [List.foldl_cons]
    unfold layG
    by_cases e : rn.down = true
    · rw [if_pos e]
      have e2 : bst x.w x.h col ⟨a, b, l⟩ rn = ⟨col, b + rn.count, l⟩ := by unfold bst; rw [if_pos e]
      rw [e2]
      exact ih col (b + rn.count) g l hall' ho hs ⟨fun c hc => by have := hk.ahead c hc; omega, hk.nz⟩ hr
    · rw [if_neg e]
      have e2 : bst x.w x.h col ⟨a, b, l⟩ rn = ⟨a + rn.count, b, l ++ rowC x.w x.h b rn.state rn.count.toNat a⟩ := by unfold bst; rw [if_neg e]
      rw [e2]
      have hcnt : ((rn.count.toNat : Nat) : Int) = rn.count := by omega
      unfold layRunG
      by_cases z : rn.state = 0
      · rw [if_pos z, if_neg (by simp)]
        have e3 : rowC x.w x.h b rn.state rn.count.toNat a = [] := by
          unfold rowC
          rw [List.flatMap_eq_nil_iff]
          intro k _
          unfold oneC
          rw [z]
          simp
        rw [e3, List.append_nil]
        exact ih (a + rn.count) b g l hall' ho hs ⟨fun c hc => by have := hk.ahead c hc; omega, hk.nz⟩ hr
      · rw [if_neg z]
        obtain ⟨i1, i2, i3⟩ := run_same hx ho hs hk hr (u := rn.state) (by omega) rn.count.toNat
        rw [hcnt] at i1
        have hok := runG_ok hx ho a b rn.state (by omega) rn.count.toNat
        generalize l ++ rowC x.w x.h b rn.state rn.count.toNat a = m at *
        generalize runG x g a b rn.state rn.count.toNat = R at *
        by_cases e3 : R.1 = false
        · rw [if_pos e3]
          refine ⟨fun h => by simp at h, fun _ hh => i3 e3 (hh.mono fun c hc => grow rs _ c hc)⟩
        · rw [if_neg e3]
          obtain ⟨s1, s2⟩ := i2 (by simpa using e3)
          exact ih (a + rn.count) b R.2 m hall' hok s1 i1 s2
/-- What Load lays is what the document's list tells. -/
theorem laid_same {p : Pu.Parts} (hp : Pu.PartsOk p) (S : List Int) (hS : S.length = 768) (hz : ∀ k, S.getD k 0 = 0) :
    ((laidG p S).1 = true ↔ roomB p.shape.w p.shape.h (liveOf p) = true) ∧ ((laidG p S).1 = true → Same p.shape.w p.shape.h (laidG p S).2 (liveOf p) ∧ GsOk p.rule.states p.shape.w p.shape.h (laidG p S).2) := by
  have hx := hp.shape
  have hg0 : ∀ X Y, getG p.shape.w p.shape.h ⟨0, 0, S⟩ X Y = 0 := by
    intro X Y
    unfold getG getP
    split
    · rfl
    · exact hz _
  have ho : GsOk p.rule.states p.shape.w p.shape.h ⟨0, 0, S⟩ := ⟨hS, by simp, by simp, fun _ => rfl, fun _ => rfl, fun X Y h => absurd (hg0 X Y) h, fun k => by have := hp.states; simp only [hz]; omega⟩
  have L := lay_same hx p.col p.runs p.col p.row ⟨0, 0, S⟩ [] hp.runs ho (fun X Y => hg0 X Y) ⟨by simp, by simp⟩ (Rm.nil _ _)
  have e : (p.runs.foldl (bst p.shape.w p.shape.h p.col) ⟨p.col, p.row, []⟩).live = liveOf p := rfl
  rw [e] at L
  have e2 : layG p.shape p.col p.runs p.col p.row ⟨0, 0, S⟩ = laidG p S := rfl
  rw [e2] at L
  rw [room_iff (side_of hx)]
  refine ⟨⟨fun h => (L.1 h).2.1, fun h => ?_⟩, fun h => ⟨(L.1 h).1, (L.1 h).2.2⟩⟩
  by_cases e3 : (laidG p S).1 = true
  · exact e3
  · exact absurd h (L.2 (by simpa using e3))
theorem loadE_same {p : Pu.Parts} (hp : Pu.PartsOk p) (S : List Int) (hS : S.length = 768) (hz : ∀ k, S.getD k 0 = 0) : loadE p S = xloadE p := by
  have h := (laid_same hp S hS hz).1
  unfold loadE xloadE
  split
  · rfl
  · by_cases e : (laidG p S).1 = true
    · rw [if_pos e, if_pos (h.1 e)]
    · rw [if_neg e, if_neg (fun hh => e (h.2 hh))]
end Go.Proofs.YtbdbkjngdhcjpaaDoor
