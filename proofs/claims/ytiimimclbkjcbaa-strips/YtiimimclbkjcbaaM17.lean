import Derived.Test.YtiimimclbkjcbaaM16
import Derived.Test.YtiimimclbkjcbaaM1
import Derived.Below
import Derived.Test.YtiimimclbkjcbaaWe
namespace Go.Proofs.Ytiimimclbkjcbaa
open Go.RowKit
open Go.Proofs

theorem cntP_cons (a : Int) (S : List Int) : countP (a :: S) = (if a = 0 then 0 else 1) + countP S := by
  unfold countP
  by_cases e : a = 0
  · subst e; simp
  · rw [if_neg e]
    simp [e]
    omega
theorem cntP_set : ∀ (S : List Int) (k : Nat), S.getD k 0 ≠ 0 → countP S = countP (S.set k 0) + 1 := by
  intro S
  induction S with
  | nil => intro k h; simp at h
  | cons a S ih =>
    intro k h
    cases k with
    | zero =>
      have h0 : a ≠ 0 := by simpa using h
      rw [List.set_cons_zero, cntP_cons, cntP_cons, if_neg h0, if_pos rfl]
      omega
    | succ k =>
      have h0 : S.getD k 0 ≠ 0 := by simpa using h
      rw [List.set_cons_succ, cntP_cons, cntP_cons, ih k h0]
      omega
theorem cntP_zero : ∀ (S : List Int), (∀ k, S.getD k 0 = 0) → countP S = 0 := by
  intro S
  induction S with
  | nil => intro _; rfl
  | cons a S ih =>
    intro h
    have h0 : a = 0 := by simpa using h 0
    rw [cntP_cons, if_pos h0, ih (fun k => by simpa using h (k + 1))]
theorem cntP_places : ∀ (ks : List Nat) (S : List Int), ks.Nodup → (∀ k, k ∈ ks → S.getD k 0 ≠ 0) → (∀ k, S.getD k 0 ≠ 0 → k ∈ ks) → countP S = ks.length := by
  intro ks
  induction ks with
  | nil =>
    intro S _ _ h
    exact cntP_zero S (fun k => by
      by_cases e : S.getD k 0 = 0
      · exact e
      · exact absurd (h k e) (by simp))
  | cons k ks ih =>
    intro S hn h1 h2
    have hk := h1 k List.mem_cons_self
    have hnk : k ∉ ks := (List.nodup_cons.1 hn).1
    have hlt : k < S.length := by
      rcases Nat.lt_or_ge k S.length with h | h
      · exact h
      · exact absurd (by simp [List.getD, List.getElem?_eq_none h]) hk
    have hg : ∀ m, (S.set k 0).getD m 0 = if m = k then 0 else S.getD m 0 := by
      intro m
      unfold List.getD
      rw [List.getElem?_set]
      by_cases e : k = m
      · subst e
        simp [hlt]
      · rw [if_neg e, if_neg (fun h => e h.symm)]
    rw [cntP_set S k hk, ih (S.set k 0) (List.nodup_cons.1 hn).2]
    · rfl
    · intro m hm
      rw [hg, if_neg (fun e => by subst e; exact hnk hm)]
      exact h1 m (List.mem_cons_of_mem _ hm)
    · intro m hm
      rw [hg] at hm
      by_cases e : m = k
      · rw [if_pos e] at hm
        exact absurd rfl hm
      · rw [if_neg e] at hm
        rcases List.mem_cons.1 (h2 m hm) with h | h
        · exact absurd h e
        · exact h
/-- Nothing stands beyond the grid's own places. -/
def TidyG (gw gh : Int) (S : List Int) : Prop := ∀ k : Nat, spanP gh * spanP gw ≤ k → S.getD k 0 = 0
theorem count_cells {gw gh : Int} (hs : Side gw gh) {g : Gs} (ht : TidyG gw gh g.S) {l : List (Int × Int)} (hn : l.Nodup) (h : ∀ X Y, (X, Y) ∈ l ↔ getG gw gh g X Y ≠ 0) : countP g.S = l.length := by
  have sw := spanP_bd hs.w0 hs.w1
  have sh := spanP_bd hs.h0 hs.h1
  have hin : ∀ d : Int × Int, d ∈ l → InW gw gh g.l g.t d.1 d.2 ∧ g.S.getD (idx gw gh d.1 d.2).toNat 0 ≠ 0 := by
    intro d hd
    have h1 := (h d.1 d.2).1 hd
    have hw := live_win h1
    refine ⟨hw, ?_⟩
    unfold getG at h1
    rwa [get_win hs g.S hw] at h1
  have e : l.length = (l.map fun d => (idx gw gh d.1 d.2).toNat).length := by simp
  rw [e]
  refine cntP_places _ g.S ?_ ?_ ?_
  · unfold List.Nodup
    rw [List.pairwise_map]
    refine List.Pairwise.imp_of_mem ?_ hn
    intro a b ha hb hn e
    have i1 := (hin a ha).1
    have i2 := (hin b hb).1
    have b1 := idx_bd hs a.1 a.2
    have b2 := idx_bd hs b.1 b.2
    obtain ⟨j1, j2⟩ := idx_inj hs i1 i2 (by omega)
    exact hn (Prod.ext j1 j2)
  · intro k hk
    obtain ⟨d, hd, rfl⟩ := List.mem_map.1 hk
    exact (hin d hd).2
  · intro k hk
    have hlt : (k : Int) < spanP gh * spanP gw := by
      rcases Int.lt_or_le (k : Int) (spanP gh * spanP gw) with h | h
      · exact h
      · exact absurd (ht k h) hk
    obtain ⟨X, Y, hw, hi⟩ := rep_win hs g.l g.t ((k : Int) % spanP gw) ((k : Int) / spanP gw)
    have hik : idx gw gh X Y = k := by
      rw [hi]
      unfold idx
      have q0 : 0 ≤ (k : Int) / spanP gw := Int.ediv_nonneg (by omega) (by omega)
      have q1 : (k : Int) / spanP gw < spanP gh := Int.ediv_lt_of_lt_mul (by omega) hlt
      rw [Int.emod_eq_of_lt q0 q1, Int.emod_emod_of_dvd _ (Int.dvd_refl _)]
      have := Int.mul_ediv_add_emod (k : Int) (spanP gw)
      rw [Int.mul_comm] at this
      exact this
    have hg : getG gw gh g X Y ≠ 0 := by
      unfold getG
      rw [get_win hs g.S hw, hik]
      simpa using hk
    refine List.mem_map.2 ⟨(X, Y), (h X Y).2 hg, ?_⟩
    simp only
    rw [hik]
    simp
/-- Two grids that tell the same cells, all in a square of twelve, have as many. -/
theorem count_twins {gw gh gw' gh' : Int} (hs : Side gw gh) (hs' : Side gw' gh') {g g' : Gs} (ht : TidyG gw gh g.S) (ht' : TidyG gw' gh' g'.S) (same : ∀ X Y, getG gw' gh' g' X Y = getG gw gh g X Y) (hin : ∀ X Y, getG gw gh g X Y ≠ 0 → (0 ≤ X ∧ X < 12) ∧ (0 ≤ Y ∧ Y < 12)) : countP g.S = countP g'.S := by
  let l : List (Int × Int) := ((List.range 144).map fun k : Nat => (((k % 12 : Nat) : Int), ((k / 12 : Nat) : Int))).filter fun c => decide (getG gw gh g c.1 c.2 ≠ 0)
  have hn : l.Nodup := by
    refine List.Pairwise.filter _ ?_
    rw [List.pairwise_map]
    refine List.Pairwise.imp ?_ (List.pairwise_lt_range (n := 144))
    intro a b hab e
    have e1 := congrArg Prod.fst e
    have e2 := congrArg Prod.snd e
    simp only at e1 e2
    omega
  have hl : ∀ X Y, (X, Y) ∈ l ↔ getG gw gh g X Y ≠ 0 := by
    intro X Y
    constructor
    · intro h
      have := (List.mem_filter.1 h).2
      exact of_decide_eq_true this
    · intro h
      have hb := hin X Y h
      refine List.mem_filter.2 ⟨List.mem_map.2 ⟨(Y * 12 + X).toNat, List.mem_range.2 (by omega), ?_⟩, decide_eq_true h⟩
      refine Prod.ext ?_ ?_
      · simp only
        omega
      · simp only
        omega
  rw [count_cells hs ht hn hl, count_cells hs' ht' hn (fun X Y => by rw [same]; exact hl X Y)]
theorem tdy_set {gw gh : Int} {S : List Int} (hs : Side gw gh) (h : TidyG gw gh S) (l t x y u : Int) (hw : InW gw gh l t x y) : TidyG gw gh (S.set (slotP gw gh l t x y).toNat u) := by
  intro k hk
  have b := idx_bd hs x y
  have hi : idx gw gh x y < spanP gh * spanP gw := by
    have sw := spanP_bd hs.w0 hs.w1
    have sh := spanP_bd hs.h0 hs.h1
    have r1 := Int.emod_nonneg y (show spanP gh ≠ 0 by omega)
    have r2 := Int.emod_lt_of_pos y (show 0 < spanP gh by omega)
    have r4 := Int.emod_lt_of_pos x (show 0 < spanP gw by omega)
    unfold idx
    have m1 : (y % spanP gh + 1) * spanP gw ≤ spanP gh * spanP gw := Int.mul_le_mul_of_nonneg_right (by omega) (by omega)
    rw [Int.add_mul, Int.one_mul] at m1
    omega
  rw [slot_win hs hw]
  have := h k hk
  unfold List.getD at *
  rw [List.getElem?_set, if_neg (by omega)]
  exact this
theorem tdy_put {gw gh : Int} {g : Gs} (hs : Side gw gh) (h : TidyG gw gh g.S) (x y u : Int) : TidyG gw gh (putG gw gh g x y u).2.S := by
  unfold putG
  split
  · rename_i e
    exact tdy_set hs h _ _ _ _ _ ((slot_iff hs).1 e)
  · split
    · exact h
    · split
      · rename_i e
        exact tdy_set hs h _ _ _ _ _ ((slot_iff hs).1 e)
      · exact h
theorem tdy_no (gw gh : Int) : TidyG gw gh noS := fun k _ => noS_zero k
theorem tdy_cell {r : Pu.Rule} {x : Pu.Shape} (hs : Side x.w x.h) (g : Gs) {p : Bool × Gs} (h : TidyG x.w x.h p.2.S) (X Y : Int) : TidyG x.w x.h (cellN r x g p X Y).2.S := by
  unfold cellN
  split
  · exact h
  · split
    · exact h
    · split
      · exact h
      · exact tdy_put hs h _ _ _
theorem tdy_row {r : Pu.Rule} {x : Pu.Shape} (hs : Side x.w x.h) (g : Gs) {p : Bool × Gs} (h : TidyG x.w x.h p.2.S) (X0 Y : Int) : ∀ k, TidyG x.w x.h (rowX r x g X0 Y p k).2.S := by
  intro k
  induction k with
  | zero => exact h
  | succ k ih => exact tdy_cell hs g ih _ _
theorem tdy_all {r : Pu.Rule} {x : Pu.Shape} (hs : Side x.w x.h) (g : Gs) {p : Bool × Gs} (h : TidyG x.w x.h p.2.S) (X0 Y0 : Int) (n : Nat) : ∀ k, TidyG x.w x.h (allX r x g X0 Y0 n p k).2.S := by
  intro k
  induction k with
  | zero => exact h
  | succ k ih => exact tdy_row hs g ih _ _ _
theorem tdy_next (r : Pu.Rule) {x : Pu.Shape} (hs : Side x.w x.h) (g : Gs) : TidyG x.w x.h (nextG r x g).2.S := tdy_all hs g (p := (true, ⟨0, 0, noS⟩)) (tdy_no _ _) _ _ _ _
theorem tdy_step (r : Pu.Rule) {x : Pu.Shape} (hs : Side x.w x.h) {g : Gs} (h : TidyG x.w x.h g.S) : ∀ n, TidyG x.w x.h (stepG r x g n).2.S := by
  intro n
  induction n with
  | zero => exact h
  | succ n ih =>
    unfold stepG
    split
    · exact ih
    · exact tdy_next r hs _

/-- One lies, or one stands. -/
def Strip (ly : Bool) (xU xW : Pu.Shape) : Prop := if ly = true then Lie xU xW else Std xU xW
/-- The two worlds are twins. -/
structure Twin (ly : Bool) (r : Pu.Rule) (xU xW : Pu.Shape) (k : Int) (gU gW : Gs) : Prop where
  rel : if ly = true then Rl r xU xW k gU gW else Rs r xU xW k gU gW
  tU : TidyG xU.w xU.h gU.S
  tW : TidyG xW.w xW.h gW.S
section
variable {ly : Bool} {xU xW : Pu.Shape} {r : Pu.Rule} {k : Int} {gU gW : Gs}
theorem Strip.oks (h : Strip ly xU xW) : Pu.ShapeOk xU ∧ Pu.ShapeOk xW := by
  unfold Strip at h
  split at h
  · exact ⟨h.okU, h.okW⟩
  · exact ⟨h.okU, h.okW⟩
theorem Strip.kind (h : Strip ly xU xW) : xW.kind = xU.kind ∧ (xU.kind = 80 ∨ xU.kind = 84) := by
  unfold Strip at h
  split at h
  · exact ⟨h.kk, h.kd⟩
  · exact ⟨h.kk, h.kd⟩
theorem Strip.flat (h : Strip ly xU xW) : (xU.ws = 0 ∧ xU.hs = 0 ∧ xU.wst = false ∧ xU.hst = false) ∧ (xW.ws = 0 ∧ xW.hs = 0 ∧ xW.wst = false ∧ xW.hst = false) := by
  unfold Strip at h
  split at h
  · exact ⟨h.us, h.wsn⟩
  · exact ⟨h.us, h.wsn⟩
theorem Strip.sides (h : Strip ly xU xW) : (1 ≤ xU.w ∧ xU.w ≤ 12) ∧ (1 ≤ xU.h ∧ xU.h ≤ 12) ∧ (xW.w = 0 ∨ xW.w = xU.w) ∧ (xW.h = 0 ∨ xW.h = xU.h) := by
  unfold Strip at h
  split at h
  · have := h.uw; have := h.ww; have := h.hh; have := h.h0
    exact ⟨by omega, by omega, by omega, by omega⟩
  · have := h.uw; have := h.ww; have := h.hh; have := h.h0
    exact ⟨by omega, by omega, by omega, by omega⟩
theorem Twin.same (h : Twin ly r xU xW k gU gW) : ∀ X Y, getG xW.w xW.h gW X Y = getG xU.w xU.h gU X Y := by
  have := h.rel
  split at this
  · exact this.same
  · exact this.same
theorem Twin.oks (h : Twin ly r xU xW k gU gW) : GsOk r.states xU.w xU.h gU ∧ GsOk r.states xW.w xW.h gW := by
  have := h.rel
  split at this
  · exact ⟨this.okU, this.okW⟩
  · exact ⟨this.okU, this.okW⟩
theorem Twin.live (hs : Strip ly xU xW) (h : Twin ly r xU xW k gU gW) (hk : k ≤ 4) : ∀ X Y, getG xU.w xU.h gU X Y ≠ 0 → (0 ≤ X ∧ X < 12) ∧ (0 ≤ Y ∧ Y < 12) := by
  intro X Y hz
  have sd := hs.sides
  have := h.rel
  split at this
  · have := this.col X Y hz
    omega
  · have := this.col X Y hz
    omega
theorem Twin.count (hs : Strip ly xU xW) (h : Twin ly r xU xW k gU gW) (hk : k ≤ 4) : countP gU.S = countP gW.S :=
  count_twins (side_of hs.oks.1) (side_of hs.oks.2) h.tU h.tW h.same (h.live hs hk)
theorem twin_begin (hs : Strip ly xU xW) (h2 : 0 < r.states) : Twin ly r xU xW 0 ⟨0, 0, noS⟩ ⟨0, 0, noS⟩ := by
  obtain ⟨u1, u2⟩ := gs_empty h2 (side_of hs.oks.1) noS noS_len noS_zero
  obtain ⟨w1, w2⟩ := gs_empty h2 (side_of hs.oks.2) noS noS_len noS_zero
  refine ⟨?_, tdy_no _ _, tdy_no _ _⟩
  split
  · exact ⟨fun X Y => by rw [u2, w2], fun X Y hz => absurd (u2 X Y) hz, u1, w1⟩
  · exact ⟨fun X Y => by rw [u2, w2], fun X Y hz => absurd (u2 X Y) hz, u1, w1⟩
theorem twin_step (h2 : 2 ≤ r.states) (hb : r.births.getD 0 false = false) (hs : Strip ly xU xW) (h : Twin ly r xU xW 0 gU gW) (n : Nat) (hn : n ≤ 4) : (stepG r xU gU n).1 = true ∧ (stepG r xW gW n).1 = true ∧ Twin ly r xU xW n (stepG r xU gU n).2 (stepG r xW gW n).2 := by
  have t1 := tdy_step r (side_of hs.oks.1) h.tU n
  have t2 := tdy_step r (side_of hs.oks.2) h.tW n
  have hr := h.rel
  cases ly
  · have hs' : Std xU xW := hs
    have hr' : Rs r xU xW 0 gU gW := hr
    obtain ⟨a, b, c⟩ := step_std h2 hb hs' hr' n hn
    exact ⟨a, b, ⟨c, t1, t2⟩⟩
  · have hs' : Lie xU xW := hs
    have hr' : Rl r xU xW 0 gU gW := hr
    obtain ⟨a, b, c⟩ := step_strip h2 hb hs' hr' n hn
    exact ⟨a, b, ⟨c, t1, t2⟩⟩
/-- Where the law puts. -/
def Mid (ly : Bool) (xU : Pu.Shape) (a b : Int) : Prop := ((0 ≤ a ∧ a < xU.w) ∧ (0 ≤ b ∧ b < xU.h)) ∧ (if ly = true then 4 ≤ a ∧ a ≤ 7 else 4 ≤ b ∧ b ≤ 7)
theorem mid_has (hs : Strip ly xU xW) {a b : Int} (hm : Mid ly xU a b) : (hasB xU a b = true ∧ nearB xU a b = true) ∧ (hasB xW a b = true ∧ nearB xW a b = true) := by
  have sd := hs.sides
  obtain ⟨h1, _⟩ := hm
  unfold hasB onSideB nearB nearOnB
  simp only [Bool.and_eq_true, decide_eq_true_iff]
  omega
theorem twin_put (hs : Strip ly xU xW) (h : Twin ly r xU xW 0 gU gW) {a b s : Int} (hm : Mid ly xU a b) (h3 : 0 ≤ s ∧ s < r.states) : (putG xU.w xU.h gU a b s).1 = true ∧ (putG xW.w xW.h gW a b s).1 = true ∧ Twin ly r xU xW 0 (putG xU.w xU.h gU a b s).2 (putG xW.w xW.h gW a b s).2 := by
  obtain ⟨⟨m1, m2⟩, ⟨m3, m4⟩⟩ := mid_has hs hm
  have sd := hs.sides
  have fU : Fits xU.w xU.h gU a b := by
    unfold Fits FitB
    exact ⟨fun e => by omega, fun e => by omega⟩
  have fW : Fits xW.w xW.h gW a b := by
    have ed := (edges_add (x := a) (y := b) (edges_live (gw := xW.w) (gh := xW.h) (l := gW.l) (t := gW.t) gW.S (PX := fun X => 0 ≤ X ∧ X < 12) (PY := fun Y => 0 ≤ Y ∧ Y < 12) (fun X Y hg => by
      have e : getG xW.w xW.h gW X Y ≠ 0 := hg
      rw [h.same] at e
      exact h.live hs (by omega) X Y e)) (by have := hm.1; omega) (by have := hm.1; omega)).resolve_left (by rw [(addB_mem _ _ _).1]; simp)
    obtain ⟨e1, e2, e3, e4⟩ := ed
    unfold Fits FitB
    exact ⟨fun _ => by omega, fun _ => by omega⟩
  obtain ⟨u1, u2, u3⟩ := put_spec (side_of hs.oks.1) h.oks.1 (spot_of hs.oks.1 m1 m2) h3 (Or.inr fU)
  obtain ⟨w1, w2, w3⟩ := put_spec (side_of hs.oks.2) h.oks.2 (spot_of hs.oks.2 m3 m4) h3 (Or.inr fW)
  have same : ∀ X Y, getG xW.w xW.h (putG xW.w xW.h gW a b s).2 X Y = getG xU.w xU.h (putG xU.w xU.h gU a b s).2 X Y := fun X Y => by rw [u3, w3, h.same]
  refine ⟨u1, w1, ⟨?_, tdy_put (side_of hs.oks.1) h.tU _ _ _, tdy_put (side_of hs.oks.2) h.tW _ _ _⟩⟩
  have hr := h.rel
  have hm1 := hm.1
  have hm2 := hm.2
  cases ly
  · have hr' : Rs r xU xW 0 gU gW := hr
    have hm' : 4 ≤ b ∧ b ≤ 7 := hm2
    refine (show Rs r xU xW 0 _ _ from ⟨same, fun X Y hz => ?_, u2, w2⟩)
    rw [u3] at hz
    by_cases e : X = a ∧ Y = b
    · obtain ⟨rfl, rfl⟩ := e
      omega
    · rw [if_neg e] at hz
      exact hr'.col X Y hz
  · have hr' : Rl r xU xW 0 gU gW := hr
    have hm' : 4 ≤ a ∧ a ≤ 7 := hm2
    refine (show Rl r xU xW 0 _ _ from ⟨same, fun X Y hz => ?_, u2, w2⟩)
    rw [u3] at hz
    by_cases e : X = a ∧ Y = b
    · obtain ⟨rfl, rfl⟩ := e
      omega
    · rw [if_neg e] at hz
      exact hr'.col X Y hz
end
end Go.Proofs.Ytiimimclbkjcbaa
namespace Go.Proofs.Ytiimimclbkjcbaa
open Go.RowKit
open Go.Proofs
theorem Kp.below {w w' : World} (h : Kp (fun _ => False) w w') : Below w.heap.size w w' := ⟨h.os, h.tape, h.output, h.size, fun k hk => h.block k hk (fun x => x)⟩
end Go.Proofs.Ytiimimclbkjcbaa
namespace Go.Proofs.Ytiimimclbkjcbaa
open Go.RowKit
open Go.Proofs

def pickP (c n : Int) : Int := if c < 0 then (-(c + 1)) % n else c % n
set_option maxHeartbeats 400000 in
theorem pick_any (c n : Int) (w : World) (h0 : 0 < n) (h1 : n ≤ 1048576) (c0 : -9223372036854775808 ≤ c) (c1 : c ≤ 9223372036854775807) : Calls Try.prog 15 #[.int .i64 c, .int .i64 n] w fun e w' => e = .returned (.int .i64 (pickP c n)) ∧ w' = w := by
  unfold pickP
  by_cases hc : c < 0
  · rw [if_pos hc]
    have b1 := Int.emod_nonneg (-(c + 1)) (show n ≠ 0 by omega)
    have b2 := Int.emod_lt_of_pos (-(c + 1)) h0
    have e : -((c + 1).tmod n) = (-(c + 1)) % n := by rw [← Int.neg_tmod, Int.tmod_eq_emod_of_nonneg (by omega)]
    have E := hide e
    clear e b1 b2
    go_enter Try.func15, Try.ntmps15
    go_wp2
    go_ret
    exact ⟨ret_int E.out, rfl⟩
  · rw [if_neg hc]
    have b1 := Int.emod_nonneg c (show n ≠ 0 by omega)
    have b2 := Int.emod_lt_of_pos c h0
    go_enter Try.func15, Try.ntmps15
    go_wp2
    go_ret
    exact ⟨rfl, rfl⟩
end Go.Proofs.Ytiimimclbkjcbaa
