import Derived.Test.YtiimimclbkjcbaaJf
namespace Go.Proofs.Ytiimimclbkjcbaa
open Go.RowKit
open Go.Proofs

/-- In the area. -/
abbrev InA (x : Pu.Shape) (g : Gs) (X Y : Int) : Prop := ((areaG x g).L ≤ X ∧ X ≤ (areaG x g).R) ∧ ((areaG x g).T ≤ Y ∧ Y ≤ (areaG x g).B)
/-- What is live in the next generation has room. -/
structure Roomy (r : Pu.Rule) (x : Pu.Shape) (g : Gs) : Prop where
  near : ∀ X Y, InA x g X Y → valN r x g X Y ≠ 0 → nearB x X Y = true
  wide : x.w = 0 → ∀ X Y X' Y', InA x g X Y → valN r x g X Y ≠ 0 → InA x g X' Y' → valN r x g X' Y' ≠ 0 → X - X' < 64
  high : x.h = 0 → ∀ X Y X' Y', InA x g X Y → valN r x g X Y ≠ 0 → InA x g X' Y' → valN r x g X' Y' ≠ 0 → Y - Y' < 64
/-- A grid that is being filled: the cells that are done. -/
structure Fill (r : Pu.Rule) (x : Pu.Shape) (g : Gs) (D : Int → Int → Prop) [∀ X Y, Decidable (D X Y)] (p : Bool × Gs) : Prop where
  yes : p.1 = true
  ok : GsOk r.states x.w x.h p.2
  get : ∀ X Y, getG x.w x.h p.2 X Y = if D X Y then valN r x g X Y else 0
theorem fill_cell {r : Pu.Rule} (h2 : 2 ≤ r.states) {x : Pu.Shape} (hx : Pu.ShapeOk x) {g : Gs} (ho : GsOk r.states x.w x.h g) (hr : Roomy r x g) {D D' : Int → Int → Prop} [∀ X Y, Decidable (D X Y)] [∀ X Y, Decidable (D' X Y)] {p : Bool × Gs} (h : Fill r x g D p) (hD : ∀ X Y, D X Y → InA x g X Y)
    {a b : Int} (ha : InA x g a b) (hD' : ∀ X Y, D' X Y ↔ D X Y ∨ (X = a ∧ Y = b)) : Fill r x g D' (cellN r x g p a b) := by
  have vb := valN_bd h2 ho a b
  have hin := area_has hx g ha.1 ha.2
  unfold cellN
  rw [if_neg (by rw [h.yes]; simp)]
  by_cases z : valN r x g a b = 0
  · rw [if_pos z]
    refine ⟨h.yes, h.ok, fun X Y => ?_⟩
    rw [h.get]
    by_cases c : D X Y
    · rw [if_pos c, if_pos ((hD' X Y).2 (Or.inl c))]
    · rw [if_neg c]
      by_cases e : X = a ∧ Y = b
      · rw [if_pos ((hD' X Y).2 (Or.inr e)), e.1, e.2, z]
      · rw [if_neg (fun hh => ((hD' X Y).1 hh).elim c e)]
  · have hnear := hr.near a b ha z
    rw [if_neg z, if_neg (by rw [hnear]; simp)]
    have sp := spot_of hx hin hnear
    have hf : Fits x.w x.h p.2 a b := by
      have ed := edges_add (x := a) (y := b) (edges_live (gw := x.w) (gh := x.h) (l := p.2.l) (t := p.2.t) p.2.S (PX := fun X => ∃ Y, InA x g X Y ∧ valN r x g X Y ≠ 0) (PY := fun Y => ∃ X, InA x g X Y ∧ valN r x g X Y ≠ 0) (fun X Y hg => by
        have e : getG x.w x.h p.2 X Y ≠ 0 := hg
        rw [h.get] at e
        by_cases c : D X Y
        · rw [if_pos c] at e
          exact ⟨⟨Y, hD X Y c, e⟩, ⟨X, hD X Y c, e⟩⟩
        · rw [if_neg c] at e
          exact absurd rfl e)) ⟨b, ha, z⟩ ⟨a, ha, z⟩
      obtain ⟨⟨y1, l1, l2⟩, ⟨y2, r1, r2⟩, ⟨x1, t1, t2⟩, ⟨x2, b1, b2⟩⟩ := ed.resolve_left (by rw [(addB_mem _ _ _).1]; simp)
      unfold Fits FitB
      exact ⟨fun e => hr.wide e _ _ _ _ r1 r2 l1 l2, fun e => hr.high e _ _ _ _ b1 b2 t1 t2⟩
    obtain ⟨p1, p2, p3⟩ := put_spec (side_of hx) h.ok sp vb (Or.inr hf)
    refine ⟨p1, p2, fun X Y => ?_⟩
    rw [p3]
    by_cases e : X = a ∧ Y = b
    · rw [if_pos e, if_pos ((hD' X Y).2 (Or.inr e)), e.1, e.2]
    · rw [if_neg e, h.get]
      by_cases c : D X Y
      · rw [if_pos c, if_pos ((hD' X Y).2 (Or.inl c))]
      · rw [if_neg c, if_neg (fun hh => ((hD' X Y).1 hh).elim c e)]
theorem next_spec {r : Pu.Rule} (h2 : 2 ≤ r.states) {x : Pu.Shape} (hx : Pu.ShapeOk x) {g : Gs} (ho : GsOk r.states x.w x.h g) (hr : Roomy r x g) :
    (nextG r x g).1 = true ∧ GsOk r.states x.w x.h (nextG r x g).2 ∧ ∀ X Y, getG x.w x.h (nextG r x g).2 X Y = if InA x g X Y then valN r x g X Y else 0 := by
  obtain ⟨A, hA⟩ : ∃ A, areaG x g = A := ⟨_, rfl⟩
  have inA : ∀ X Y, InA x g X Y ↔ ((A.L ≤ X ∧ X ≤ A.R) ∧ (A.T ≤ Y ∧ Y ≤ A.B)) := fun X Y => by unfold InA; rw [hA]
  obtain ⟨n, hn⟩ : ∃ n, n = (A.R - A.L + 1).toNat := ⟨_, rfl⟩
  obtain ⟨m, hm⟩ : ∃ m, m = (A.B - A.T + 1).toNat := ⟨_, rfl⟩
  have hz : ∀ X Y, getG x.w x.h ⟨0, 0, noS⟩ X Y = 0 := (gs_empty (by omega) (side_of hx) noS noS_len noS_zero (c := r.states)).2
  have row : ∀ (j : Nat), j < m → ∀ (p : Bool × Gs), Fill r x g (fun X Y => (A.L ≤ X ∧ X < A.L + n) ∧ (A.T ≤ Y ∧ Y < A.T + j)) p → ∀ i : Nat, i ≤ n →
      Fill r x g (fun X Y => ((A.L ≤ X ∧ X < A.L + n) ∧ (A.T ≤ Y ∧ Y < A.T + j)) ∨ ((A.L ≤ X ∧ X < A.L + i) ∧ Y = A.T + j)) (rowX r x g A.L (A.T + j) p i) := by
    intro j hj p hp i
    induction i with
    | zero =>
      intro _
      refine ⟨hp.yes, hp.ok, fun X Y => ?_⟩
      show getG x.w x.h p.2 X Y = _
      rw [hp.get]
      by_cases c : (A.L ≤ X ∧ X < A.L + n) ∧ (A.T ≤ Y ∧ Y < A.T + j)
      · rw [if_pos c, if_pos (Or.inl c)]
      · rw [if_neg c, if_neg (by omega)]
    | succ i ih =>
      intro hi
      refine fill_cell h2 hx ho hr (ih (by omega)) (fun X Y hc => (inA X Y).2 (by omega)) ((inA _ _).2 (by omega)) (fun X Y => by omega)
  have all : ∀ j : Nat, j ≤ m → Fill r x g (fun X Y => (A.L ≤ X ∧ X < A.L + n) ∧ (A.T ≤ Y ∧ Y < A.T + j)) (allX r x g A.L A.T n (true, ⟨0, 0, noS⟩) j) := by
    intro j
    induction j with
    | zero =>
      intro _
      refine ⟨rfl, empty_ok (by omega) hx, fun X Y => ?_⟩
      show getG x.w x.h ⟨0, 0, noS⟩ X Y = _
      rw [hz, if_neg (by omega)]
    | succ j ih =>
      intro hj
      have R := row j (by omega) _ (ih (by omega)) n (Nat.le_refl _)
      refine ⟨R.yes, R.ok, fun X Y => ?_⟩
      have e := R.get X Y
      show getG x.w x.h (rowX r x g A.L (A.T + j) _ n).2 X Y = _
      rw [e]
      by_cases c : (A.L ≤ X ∧ X < A.L + n) ∧ (A.T ≤ Y ∧ Y < A.T + ((j + 1 : Nat) : Int))
      · rw [if_pos c, if_pos (by omega)]
      · rw [if_neg c, if_neg (by omega)]
  have F := all m (Nat.le_refl _)
  have e : allX r x g A.L A.T n (true, ⟨0, 0, noS⟩) m = nextG r x g := by unfold nextG; rw [hA, hn, hm]
  rw [e] at F
  refine ⟨F.yes, F.ok, fun X Y => ?_⟩
  rw [F.get]
  by_cases c : InA x g X Y
  · rw [if_pos c, if_pos (by have := (inA X Y).1 c; omega)]
  · rw [if_neg c, if_neg (fun hh => c ((inA X Y).2 (by omega)))]
end Go.Proofs.Ytiimimclbkjcbaa
namespace Go.Proofs.Ytiimimclbkjcbaa
open Go.RowKit
open Go.Proofs

theorem ones9_none {f : Nat → Nat → Bool} (n : Nat) (h : ∀ a b, a < 3 → 3 * b + a < n → f a b = false) : ones9 f n = 0 := by
  unfold ones9
  rw [List.length_eq_zero_iff, List.filter_eq_nil_iff]
  intro m hm
  have hm' := List.mem_range.1 hm
  rw [h _ _ (Nat.mod_lt _ (by omega)) (by omega)]
  simp
/-- A strip of twelve and an endless one, lying. -/
structure Lie (xU xW : Pu.Shape) : Prop where
  uw : xU.w = 12
  ww : xW.w = 0
  hh : xW.h = xU.h
  h0 : 1 ≤ xU.h ∧ xU.h ≤ 12
  kk : xW.kind = xU.kind
  kd : xU.kind = 80 ∨ xU.kind = 84
  us : xU.ws = 0 ∧ xU.hs = 0 ∧ xU.wst = false ∧ xU.hst = false
  wsn : xW.ws = 0 ∧ xW.hs = 0 ∧ xW.wst = false ∧ xW.hst = false
section
variable {xU xW : Pu.Shape}
theorem Lie.okU (h : Lie xU xW) : Pu.ShapeOk xU := by
  have h0 := h.h0
  have us := h.us
  have uw := h.uw
  refine ⟨?_, by omega, by omega, by omega, by omega, by omega, by omega, by omega, fun e => by omega⟩
  rcases h.kd with e | e <;> rw [e] <;> simp
theorem Lie.okW (h : Lie xU xW) : Pu.ShapeOk xW := by
  have h0 := h.h0
  have us := h.wsn
  have uw := h.ww
  have hh := h.hh
  refine ⟨?_, by omega, by omega, by omega, by omega, by omega, by omega, by omega, fun _ => by rw [h.kk]; exact h.kd⟩
  rw [h.kk]
  rcases h.kd with e | e <;> rw [e] <;> simp
theorem Lie.two (h : Lie xU xW) : Two xU := by
  have h0 := h.h0
  have uw := h.uw
  exact ⟨by omega, by omega, by omega, by omega⟩
theorem fold_flat {x : Pu.Shape} (hk : x.kind = 84) (hs : x.ws = 0 ∧ x.hs = 0 ∧ x.wst = false ∧ x.hst = false) (X Y : Int) : foldX x X Y = splitR X x.w ∧ foldY x X Y = splitR Y x.h := by
  obtain ⟨h1, h2, h3, h4⟩ := hs
  unfold foldX foldY turnW turnH turnP shiftP
  rw [h1, h2, h3, h4, hk]
  simp
/-- The two tell the same cells, and what is alive lies in the middle. -/
structure Rl (r : Pu.Rule) (xU xW : Pu.Shape) (k : Int) (gU gW : Gs) : Prop where
  same : ∀ X Y, getG xW.w xW.h gW X Y = getG xU.w xU.h gU X Y
  col : ∀ X Y, getG xU.w xU.h gU X Y ≠ 0 → (4 - k ≤ X ∧ X ≤ 7 + k) ∧ (0 ≤ Y ∧ Y < xU.h)
  okU : GsOk r.states xU.w xU.h gU
  okW : GsOk r.states xW.w xW.h gW
variable {r : Pu.Rule} {k : Int} {gU gW : Gs}
theorem Rl.dead (h : Rl r xU xW k gU gW) {X Y : Int} (hX : X < 4 - k ∨ 7 + k < X) : getG xU.w xU.h gU X Y = 0 := by
  by_cases z : getG xU.w xU.h gU X Y = 0
  · exact z
  · have := (h.col X Y z).1
    omega
theorem nbU (hl : Lie xU xW) (hk : xU.kind = 84) (g : Gs) (X Y : Int) : nbG xU g X Y = getG xU.w xU.h g (X % 12) (Y % xU.h) := by
  have f := fold_flat hk hl.us X Y
  have h0 := hl.h0
  unfold nbG
  rw [if_neg (fun hb : beyond xU X Y => by have := hb.1; omega), if_pos (show foldsB xU from Or.inl hk), f.1, f.2]
  unfold splitR
  rw [if_neg (by rw [hl.uw]; omega), if_neg (by omega), hl.uw]
theorem nbW (hl : Lie xU xW) (hk : xU.kind = 84) (g : Gs) (X Y : Int) : nbG xW g X Y = getG xW.w xW.h g X (Y % xU.h) := by
  have hk' : xW.kind = 84 := hl.kk.trans hk
  have f := fold_flat hk' hl.wsn X Y
  have h0 := hl.h0
  unfold nbG
  rw [if_neg (fun hb : beyond xW X Y => by have := hb.1; omega), if_pos (show foldsB xW from Or.inl hk'), f.1, f.2]
  unfold splitR
  rw [if_pos hl.ww, if_neg (by rw [hl.hh]; omega), hl.hh]
theorem nb_plane {x : Pu.Shape} (hk : x.kind = 80) (g : Gs) (X Y : Int) : nbG x g X Y = if hasB x X Y = true then getG x.w x.h g X Y else 0 := by
  unfold nbG
  rw [if_neg (fun hb : beyond x X Y => by have := hb.1; omega), if_neg (fun hf : foldsB x => by unfold foldsB at hf; omega)]
/-- Both know the same neighbours. -/
theorem nb_strip (hl : Lie xU xW) (h : Rl r xU xW k gU gW) (hk : k ≤ 3) {X Y : Int} (hX : -1 ≤ X ∧ X ≤ 12) : nbG xW gW X Y = nbG xU gU X Y := by
  have h0 := hl.h0
  rcases hl.kd with e | e
  · rw [nb_plane (hl.kk.trans e), nb_plane e]
    have hU : hasB xU X Y = true ↔ (0 ≤ X ∧ X < 12) ∧ (0 ≤ Y ∧ Y < xU.h) := by
      rw [has_iff hl.two, hl.uw]
    have hW : hasB xW X Y = true ↔ 0 ≤ Y ∧ Y < xU.h := by
      unfold hasB onSideB
      rw [Bool.and_eq_true, decide_eq_true_iff, decide_eq_true_iff, hl.ww, hl.hh]
      omega
    by_cases c : hasB xU X Y = true
    · rw [if_pos c, if_pos (hW.2 (hU.1 c).2), h.same]
    · rw [if_neg c]
      by_cases d : hasB xW X Y = true
      · rw [if_pos d, h.same]
        refine h.dead ?_
        have := hW.1 d
        have : ¬ (0 ≤ X ∧ X < 12) := fun hh => c (hU.2 ⟨hh, by omega⟩)
        omega
      · rw [if_neg d]
  · rw [nbU hl e, nbW hl e, h.same]
    by_cases c : 0 ≤ X ∧ X < 12
    · rw [Int.emod_eq_of_lt c.1 c.2]
    · rw [h.dead (X := X) (by omega), h.dead (X := X % 12) (by omega)]
theorem val_strip (hl : Lie xU xW) (h : Rl r xU xW k gU gW) (hk : k ≤ 3) {X Y : Int} (hX : 0 ≤ X ∧ X < 12) : valN r xW gW X Y = valN r xU gU X Y := by
  unfold valN
  rw [h.same]
  congr 1
  refine ones9_congr 9 (fun a b ha hb => ?_)
  unfold onesW
  simp only
  rw [nb_strip hl h hk (by omega)]
/-- Where nothing is alive around, nothing is born. -/
theorem val_dead (hl : Lie xU xW) (h : Rl r xU xW k gU gW) (hk : k ≤ 3) (hb : r.births.getD 0 false = false) {X Y : Int} (hX : 0 ≤ X ∧ X < 12) (hd : ∀ X' Y', X - 1 ≤ X' → X' ≤ X + 1 → getG xU.w xU.h gU X' Y' = 0) : valN r xU gU X Y = 0 := by
  have hn : ∀ X' Y', X - 1 ≤ X' → X' ≤ X + 1 → nbG xU gU X' Y' = 0 := by
    intro X' Y' h1 h2
    rcases hl.kd with e | e
    · rw [nb_plane e]
      split
      · exact hd X' Y' h1 h2
      · rfl
    · rw [nbU hl e]
      by_cases c : 0 ≤ X' ∧ X' < 12
      · rw [Int.emod_eq_of_lt c.1 c.2]
        exact hd X' _ h1 h2
      · exact h.dead (by omega)
  unfold valN
  rw [hd X Y (by omega) (by omega), ones9_none 9 (fun a b ha _ => by
    unfold onesW
    simp only
    rw [hn _ _ (by omega) (by omega)]
    simp)]
  unfold nextR
  rw [if_pos rfl, hb]
  simp
theorem area_U (hl : Lie xU xW) (g : Gs) (X Y : Int) : InA xU g X Y ↔ (0 ≤ X ∧ X < 12) ∧ (0 ≤ Y ∧ Y < xU.h) := by
  have h0 := hl.h0
  have uw := hl.uw
  have e : areaG xU g = ⟨false, 0, 0, xU.w - 1, xU.h - 1⟩ := by
    unfold areaG areaP
    split
    · rfl
    · rw [if_neg (by omega), if_neg (by omega), if_neg (by omega), if_neg (by omega)]
  unfold InA
  rw [e]
  simp only
  omega
/-- The endless one's area. -/
theorem area_W (hl : Lie xU xW) (h : Rl r xU xW k gU gW) : (∀ X Y, InA xW gW X Y → (3 - k ≤ X ∧ X ≤ 8 + k) ∧ (0 ≤ Y ∧ Y < xU.h)) ∧ (∀ X Y, 0 ≤ Y ∧ Y < xU.h → ¬ InA xW gW X Y → ∀ X' Y', X - 1 ≤ X' → X' ≤ X + 1 → getG xU.w xU.h gU X' Y' = 0) := by
  have h0 := hl.h0
  have ed := edges_live (gw := xW.w) (gh := xW.h) (l := gW.l) (t := gW.t) gW.S (PX := fun X => 4 - k ≤ X ∧ X ≤ 7 + k) (PY := fun _ => True) (fun X Y hg => by
    have : getG xW.w xW.h gW X Y ≠ 0 := hg
    rw [h.same] at this
    exact ⟨(h.col X Y this).1, trivial⟩)
  have hol : ∀ X Y, getG xU.w xU.h gU X Y ≠ 0 → Hold (liveP xW.w xW.h gW.l gW.t gW.S) X Y := fun X Y hg => by
    rw [← h.same] at hg
    exact hold_live gW.S hg
  unfold InA areaG areaP
  generalize liveP xW.w xW.h gW.l gW.t gW.S = b at *
  have ww := hl.ww
  have hh := hl.hh
  by_cases e : b.e = true
  · simp only [if_pos e]
    refine ⟨fun X Y hA => by omega, fun X Y hY hn X' Y' h1 h2 => ?_⟩
    by_cases z : getG xU.w xU.h gU X' Y' = 0
    · exact z
    · have := (hol X' Y' z).1
      rw [e] at this
      cases this
  · obtain ⟨e1, e2, _, _⟩ := ed.resolve_left e
    simp only [if_neg e, if_pos ww, if_neg (show ¬ xW.h = 0 by omega)]
    refine ⟨fun X Y hA => by omega, fun X Y hY hn X' Y' h1 h2 => ?_⟩
    by_cases z : getG xU.w xU.h gU X' Y' = 0
    · exact z
    · have := (hol X' Y' z).2.1
      omega
/-- One generation on. -/
theorem next_strip (h2 : 2 ≤ r.states) (hb : r.births.getD 0 false = false) (hl : Lie xU xW) (h : Rl r xU xW k gU gW) (h0 : 0 ≤ k) (hk : k ≤ 3) : (nextG r xU gU).1 = true ∧ (nextG r xW gW).1 = true ∧ Rl r xU xW (k + 1) (nextG r xU gU).2 (nextG r xW gW).2 := by
  obtain ⟨aw1, aw2⟩ := area_W hl h
  have hh := hl.h0
  have rU : Roomy r xU gU := ⟨fun X Y _ _ => near_two hl.two X Y, fun e => by have := hl.uw; omega, fun e => by omega⟩
  have rW : Roomy r xW gW := by
    refine ⟨fun X Y hA _ => ?_, fun _ X Y X' Y' hA _ hA' _ => ?_, fun e => by have := hl.hh; omega⟩
    · have := aw1 X Y hA
      unfold nearB nearOnB
      rw [Bool.and_eq_true, decide_eq_true_iff, decide_eq_true_iff]
      have := hl.hh
      omega
    · have := aw1 X Y hA
      have := aw1 X' Y' hA'
      omega
  obtain ⟨u1, u2, u3⟩ := next_spec h2 hl.okU h.okU rU
  obtain ⟨w1, w2, w3⟩ := next_spec h2 hl.okW h.okW rW
  have key : ∀ X Y, getG xW.w xW.h (nextG r xW gW).2 X Y = getG xU.w xU.h (nextG r xU gU).2 X Y ∧ (getG xU.w xU.h (nextG r xU gU).2 X Y ≠ 0 → InA xW gW X Y) := by
    intro X Y
    rw [u3, w3]
    by_cases c : InA xW gW X Y
    · have := aw1 X Y c
      have cU : InA xU gU X Y := (area_U hl gU X Y).2 (by omega)
      rw [if_pos c, if_pos cU]
      exact ⟨val_strip hl h hk (by omega), fun _ => c⟩
    · rw [if_neg c]
      by_cases cU : InA xU gU X Y
      · have hU := (area_U hl gU X Y).1 cU
        rw [if_pos cU, val_dead hl h hk hb hU.1 (aw2 X Y hU.2 c)]
        exact ⟨rfl, fun hz => absurd rfl hz⟩
      · rw [if_neg cU]
        exact ⟨rfl, fun hz => absurd rfl hz⟩
  refine ⟨u1, w1, ⟨fun X Y => (key X Y).1, fun X Y hz => ?_, u2, w2⟩⟩
  have := aw1 X Y ((key X Y).2 hz)
  omega
theorem step_strip (h2 : 2 ≤ r.states) (hb : r.births.getD 0 false = false) (hl : Lie xU xW) (h : Rl r xU xW 0 gU gW) : ∀ n : Nat, n ≤ 4 → (stepG r xU gU n).1 = true ∧ (stepG r xW gW n).1 = true ∧ Rl r xU xW n (stepG r xU gU n).2 (stepG r xW gW n).2 := by
  intro n
  induction n with
  | zero => intro _; exact ⟨rfl, rfl, h⟩
  | succ n ih =>
    intro hn
    obtain ⟨i1, i2, i3⟩ := ih (by omega)
    obtain ⟨n1, n2, n3⟩ := next_strip h2 hb hl i3 (by omega) (by omega)
    unfold stepG
    rw [if_neg (by rw [i1]; simp), if_neg (by rw [i2]; simp)]
    exact ⟨n1, n2, n3⟩
end
end Go.Proofs.Ytiimimclbkjcbaa
