import Derived.Test.YtbdbkjngdhcjpaaDoorM5
import Derived.Deep.LoopGhost
import Derived.Test.YtbdbkjngdhcjpaaDoorM20
import Derived.Test.YtbdbkjngdhcjpaaDoorInv
namespace Go.Proofs.YtbdbkjngdhcjpaaDoor
open Go.RowKit
open Go.Proofs

/-- How many are not 0. -/
def countP (S : List Int) : Nat := (S.filter (fun v => v != 0)).length
theorem countP_snoc (S : List Int) (k : Nat) (h : k < S.length) : countP (S.take (k + 1)) = countP (S.take k) + if S[k] = 0 then 0 else 1 := by
  unfold countP
  rw [List.take_succ_eq_append_getElem h, List.filter_append, List.length_append]
  by_cases e : S[k] = 0 <;> simp [e]
theorem countP_le (S : List Int) : countP S ≤ S.length := List.length_filter_le _ _

set_option maxHeartbeats 400000 in
set_option maxRecDepth 100000 in
theorem gcount_any (q : Nat) (pre : Array Value) (gw gh l t : Int) (S : List Int) (w : World) (h : GrAt w q pre gw gh l t S) :
    Calls Tryd.prog 28 #[.pointer (some ⟨q, 28, none⟩)] w fun e w' => e = .returned (.int .i64 (countP S)) ∧ w' = w := by
  have HL := hide h.len
  have H := hide h
  clear h
  go_enter Tryd.func28, Tryd.ntmps28
  go_wp2
  go_loop [3, 4] (fun n i => ∃ k : Nat, k ≤ 768 ∧ i = .int .i64 k ∧ n = .int .i64 (countP (S.take k))) (fun _ i => 768 - (intOf i).toNat)
  case atStart => exact ⟨0, by omega, rfl, rfl⟩
  case round =>
    obtain ⟨k, hk, rfl, rfl⟩ := hrel
    have hcl := countP_le (S.take k)
    have hcl2 : (S.take k).length ≤ k := List.length_take_le _ _
    by_cases hlt : k < 768
    · have hc := H.out.cell k hlt
      have HS := hide (countP_snoc S k (by rw [HL.out]; exact hlt))
      by_cases e : S[k]'(by rw [HL.out]; exact hlt) = 0
      · rw [e] at hc
        go_wp2
        go_round
        case rel => exact ⟨k + 1, by omega, by go_num, by rw [HS.out, if_pos e]; rfl⟩
        case measure => simp [intOf]; omega
      · have be : (S[k]'(by rw [HL.out]; exact hlt) != 0) = true := by simpa using e
        have E := hide e
        clear e
        go_wp2
        go_round
        case rel => exact ⟨k + 1, by omega, by go_num, by rw [HS.out, if_neg E.out]; go_num⟩
        case measure => simp [intOf]; omega
    · go_wp2
      go_ret
      exact ⟨ret_int (by rw [List.take_of_length_le (by rw [HL.out]; omega)]), rfl⟩
end Go.Proofs.YtbdbkjngdhcjpaaDoor
namespace Go.Proofs.YtbdbkjngdhcjpaaDoor
open Go.RowKit
open Go.Proofs

theorem countP_cons (a : Int) (S : List Int) : countP (a :: S) = (if a = 0 then 0 else 1) + countP S := by
  unfold countP
  by_cases h : a = 0
  · simp [h]
  · simp [h]
    omega
theorem countP_set : ∀ (S : List Int) (k : Nat), S.getD k 0 ≠ 0 → countP S = countP (S.set k 0) + 1 := by
  intro S
  induction S with
  | nil => intro k h; simp at h
  | cons a S ih =>
    intro k h
    cases k with
    | zero =>
      have h' : a ≠ 0 := by simpa using h
      rw [List.set_cons_zero, countP_cons, countP_cons, if_neg h', if_pos rfl]
      omega
    | succ k =>
      have := ih k (by simpa using h)
      rw [List.set_cons_succ, countP_cons, countP_cons, this]
      omega
theorem countP_zero : ∀ (S : List Int), (∀ k, S.getD k 0 = 0) → countP S = 0 := by
  intro S
  induction S with
  | nil => intro _; rfl
  | cons a S ih =>
    intro h
    have h0 : a = 0 := by simpa using h 0
    rw [countP_cons, if_pos h0, ih (fun k => by simpa using h (k + 1))]
/-- As many numbers are not 0 as there are places of them. -/
theorem countP_places : ∀ (ks : List Nat) (S : List Int), ks.Nodup → (∀ k, k ∈ ks → S.getD k 0 ≠ 0) → (∀ k, S.getD k 0 ≠ 0 → k ∈ ks) → countP S = ks.length := by
  intro ks
  induction ks with
  | nil =>
    intro S _ _ h
    exact countP_zero S (fun k => by
      by_cases e : S.getD k 0 = 0
      · exact e
      · exact absurd (h k e) (by simp))
  | cons k ks ih =>
    intro S hn h1 h2
    have hk := h1 k List.mem_cons_self
    have hnk : k ∉ ks := (List.nodup_cons.1 hn).1
    have hlt : k < S.length := by
      rcases Nat.lt_or_ge k S.length with h | h
      · exact h
      · exact absurd (by simp [List.getD, List.getElem?_eq_none h]) hk
    have hg : ∀ m, (S.set k 0).getD m 0 = if m = k then 0 else S.getD m 0 := by
      intro m
      unfold List.getD
      rw [List.getElem?_set]
      by_cases e : k = m
      · subst e
        simp [hlt]
      · rw [if_neg e, if_neg (fun h => e h.symm)]
    rw [countP_set S k hk, ih (S.set k 0) (List.nodup_cons.1 hn).2]
    · rfl
    · intro m hm
      rw [hg, if_neg (fun e => by subst e; exact hnk hm)]
      exact h1 m (List.mem_cons_of_mem _ hm)
    · intro m hm
      rw [hg] at hm
      by_cases e : m = k
      · rw [if_pos e] at hm
        exact absurd rfl hm
      · rw [if_neg e] at hm
        rcases List.mem_cons.1 (h2 m hm) with h | h
        · exact absurd h e
        · exact h
/-- No cell stands twice. -/
def Once (l : List Cl) : Prop := l.Pairwise (fun c d => ¬ (c.1 = d.1 ∧ c.2.1 = d.2.1))
/-- Nothing stands beyond the grid's own places. -/
def Tidy (gw gh : Int) (S : List Int) : Prop := ∀ k : Nat, spanP gh * spanP gw ≤ k → S.getD k 0 = 0
theorem count_same {gw gh : Int} (hs : Side gw gh) {g : Gs} (ht : Tidy gw gh g.S) {l : List Cl} (h : Same gw gh g l) (hz : ∀ d, d ∈ l → d.2.2 ≠ 0) (ho : Once l) : countP g.S = l.length := by
  have sw := spanP_bd hs.w0 hs.w1
  have sh := spanP_bd hs.h0 hs.h1
  have hin : ∀ d, d ∈ l → InW gw gh g.l g.t d.1 d.2.1 ∧ g.S.getD (idx gw gh d.1 d.2.1).toNat 0 ≠ 0 := by
    intro d hd
    have h1 := atL_mem hz hd
    rw [← h d.1 d.2.1] at h1
    have hw := live_win h1
    refine ⟨hw, ?_⟩
    unfold getG at h1
    rwa [get_win hs g.S hw] at h1
  have e : l.length = (l.map fun d => (idx gw gh d.1 d.2.1).toNat).length := by simp
  rw [e]
  refine countP_places _ g.S ?_ ?_ ?_
  · unfold List.Nodup
    rw [List.pairwise_map]
    refine List.Pairwise.imp_of_mem ?_ ho
    intro a b ha hb hn e
    have i1 := (hin a ha).1
    have i2 := (hin b hb).1
    have b1 := idx_bd hs a.1 a.2.1
    have b2 := idx_bd hs b.1 b.2.1
    exact hn (idx_inj hs i1 i2 (by omega))
  · intro k hk
    obtain ⟨d, hd, rfl⟩ := List.mem_map.1 hk
    exact (hin d hd).2
  · intro k hk
    have hlt : (k : Int) < spanP gh * spanP gw := by
      rcases Int.lt_or_le (k : Int) (spanP gh * spanP gw) with h | h
      · exact h
      · exact absurd (ht k h) hk
    obtain ⟨X, Y, hw, hi⟩ := rep_win hs g.l g.t ((k : Int) % spanP gw) ((k : Int) / spanP gw)
    have hik : idx gw gh X Y = k := by
      rw [hi]
      unfold idx
      have q0 : 0 ≤ (k : Int) / spanP gw := Int.ediv_nonneg (by omega) (by omega)
      have q1 : (k : Int) / spanP gw < spanP gh := Int.ediv_lt_of_lt_mul (by omega) hlt
      rw [Int.emod_eq_of_lt q0 q1, Int.emod_emod_of_dvd _ (Int.dvd_refl _)]
      have := Int.mul_ediv_add_emod (k : Int) (spanP gw)
      rw [Int.mul_comm] at this
      exact this
    have hg : atL l X Y ≠ 0 := by
      rw [← h X Y]
      unfold getG
      rw [get_win hs g.S hw, hik]
      simpa using hk
    obtain ⟨d, hd, e1, e2⟩ := atL_ne hg
    refine List.mem_map.2 ⟨d, hd, ?_⟩
    rw [e1, e2, hik]
    simp
end Go.Proofs.YtbdbkjngdhcjpaaDoor
namespace Go.Proofs.YtbdbkjngdhcjpaaDoor
open Go.Proofs

/-- At most one thing stands behind the sides. -/
structure OneB (x : Pu.Shape) : Prop where
  ws : 0 < x.ws → x.wst = false ∧ x.hs = 0 ∧ x.hst = false
  wst : x.wst = true → x.ws = 0 ∧ x.hs = 0 ∧ x.hst = false
  hs : 0 < x.hs → x.ws = 0 ∧ x.wst = false ∧ x.hst = false
  hst : x.hst = true → x.ws = 0 ∧ x.wst = false ∧ x.hs = 0
theorem one_inv {f : Pu.Src} {i j : Nat} {x : Pu.Shape} (h : Pu.shape f i = (j, some x)) : OneB x := by
  obtain ⟨_, k, hk, h⟩ := Pu.bnd_inv h
  obtain ⟨_, a, ha, h⟩ := Pu.bnd_inv h
  obtain ⟨_, _, _, h⟩ := Pu.bnd_inv h
  obtain ⟨_, b, hb, h⟩ := Pu.bnd_inv h
  rw [← Pu.ret_inv h]
  have hA : (k ≠ 84 → a.2.1 = 0) ∧ (k ≠ 75 → a.2.2 = false) := by
    obtain ⟨_, w, hw, h2⟩ := Pu.bnd_inv ha
    split at h2
    · obtain ⟨_, st, _, h3⟩ := Pu.bnd_inv h2
      rw [← Pu.ret_inv h3]
      exact ⟨fun _ => rfl, fun e => absurd ‹_› e⟩
    · split at h2
      · obtain ⟨_, st, hst, h3⟩ := Pu.bnd_inv h2
        rw [← Pu.ret_inv h3]
        exact ⟨fun e => absurd ‹_› e, fun _ => rfl⟩
      · rw [← Pu.ret_inv h2]
        exact ⟨fun _ => rfl, fun _ => rfl⟩
  have hB : (k ≠ 84 ∨ a.2.1 ≠ 0 → b.2.1 = 0) ∧ (k ≠ 75 ∨ a.2.2 = true → b.2.2 = false) := by
    obtain ⟨_, w, hw, h2⟩ := Pu.bnd_inv hb
    split at h2
    · rename_i e
      obtain ⟨_, _, _, h3⟩ := Pu.bnd_inv h2
      rw [← Pu.ret_inv h3]
      refine ⟨fun _ => rfl, fun e2 => ?_⟩
      rcases e2 with e2 | e2
      · exact absurd e.1 e2
      · rw [e.2] at e2
        cases e2
    · split at h2
      · rw [← Pu.ret_inv h2]
        exact ⟨fun _ => rfl, fun _ => rfl⟩
      · rename_i e
        obtain ⟨_, st, hst, h3⟩ := Pu.bnd_inv h2
        rw [← Pu.ret_inv h3]
        refine ⟨fun e2 => ?_, fun _ => rfl⟩
        exfalso
        apply e
        rcases e2 with e2 | e2
        · exact Or.inl e2
        · exact Or.inr (Or.inr e2)
  obtain ⟨a1, a2⟩ := hA
  obtain ⟨b1, b2⟩ := hB
  by_cases k84 : k = 84
  · have e1 := a2 (by omega)
    have e2 := b2 (Or.inl (by omega))
    refine ⟨fun h => ⟨e1, b1 (Or.inr (by simp only at h; omega)), e2⟩, fun h => ?_, fun h => ⟨?_, e1, e2⟩, fun h => ?_⟩
    · simp only at h; rw [e1] at h; cases h
    · by_cases z : a.2.1 = 0
      · exact z
      · have := b1 (Or.inr z)
        simp only at h
        omega
    · simp only at h; rw [e2] at h; cases h
  · have e1 := a1 k84
    have e2 := b1 (Or.inl k84)
    refine ⟨fun h => ?_, fun h => ⟨e1, e2, b2 (Or.inr h)⟩, fun h => ?_, fun h => ⟨e1, ?_, e2⟩⟩
    · simp only at h; omega
    · simp only at h; omega
    · cases z : a.2.2 with
      | false => rfl
      | true =>
        have := b2 (Or.inr z)
        simp only at h
        rw [this] at h
        cases h
theorem around_inv {f : Pu.Src} {i j : Nat} {r : Pu.Rule} (h : Pu.rule f i = (j, some r)) : r.around = 77 ∨ r.around = 86 ∨ r.around = 72 := by
  obtain ⟨_, a, ha, h⟩ := Pu.bnd_inv h
  obtain ⟨_, _, _, h⟩ := Pu.bnd_inv h
  obtain ⟨_, bs, _, h⟩ := Pu.bnd_inv h
  obtain ⟨_, _, _, h⟩ := Pu.bnd_inv h
  obtain ⟨_, _, _, h⟩ := Pu.bnd_inv h
  obtain ⟨_, ss, _, h⟩ := Pu.bnd_inv h
  obtain ⟨_, c, hc, h⟩ := Pu.bnd_inv h
  rw [← Pu.ret_inv h]
  have := Pu.letter_inv ha
  simpa using this
theorem read_one {f : Pu.Src} {j : Nat} {p : Pu.Parts} (h : Pu.read f = (j, some p)) : OneB p.shape ∧ (p.rule.around = 77 ∨ p.rule.around = 86 ∨ p.rule.around = 72) := by
  unfold Pu.read at h
  rcases e : Pu.pre f 0 with ⟨i, _ | a⟩
  · simp [e] at h
  · simp only [e] at h
    obtain ⟨_, x, hx, h2⟩ := Pu.bnd_inv e
    obtain ⟨_, y, hy, h3⟩ := Pu.bnd_inv h2
    have h4 := Pu.ret_inv h3
    rcases e2 : Pu.body a.1.1.states 401 [] f i with ⟨k, _ | rs⟩
    · simp [e2] at h
    · simp only [e2] at h
      have h5 := Option.some.inj (Prod.mk.inj h).2
      subst h4
      rw [← h5]
      obtain ⟨_, r, hr, h6⟩ := Pu.bnd_inv hx
      obtain ⟨_, _, _, h6⟩ := Pu.bnd_inv h6
      obtain ⟨_, s, hs, h6⟩ := Pu.bnd_inv h6
      obtain ⟨_, _, _, h6⟩ := Pu.bnd_inv h6
      obtain ⟨_, ag, _, h6⟩ := Pu.bnd_inv h6
      obtain ⟨_, _, _, h6⟩ := Pu.bnd_inv h6
      have h7 := Pu.ret_inv h6
      rw [← h7]
      exact ⟨one_inv hs, around_inv hr⟩
end Go.Proofs.YtbdbkjngdhcjpaaDoor
namespace Go.Proofs.YtbdbkjngdhcjpaaDoor
open Go.RowKit
open Go.Proofs

theorem once_nil : Once [] := List.Pairwise.nil
theorem once_snoc {l : List Cl} {c : Cl} (h : Once l) (hn : ∀ d, d ∈ l → ¬ (d.1 = c.1 ∧ d.2.1 = c.2.1)) : Once (l ++ [c]) := by
  unfold Once at *
  rw [List.pairwise_append]
  refine ⟨h, List.pairwise_singleton _ _, fun a ha b hb => ?_⟩
  simp at hb
  subst hb
  exact hn a ha
theorem once_sub {l m : List Cl} (h : Once m) (hs : l.Sublist m) : Once l := List.Pairwise.sublist hs h
/-- The body's cells stand in their order. -/
structure Ord (a b : Int) (l : List Cl) : Prop where
  ahead : ∀ c, c ∈ l → c.2.1 < b ∨ (c.2.1 = b ∧ c.1 < a)
  once : Once l
theorem ord_row {W H a b s : Int} {l : List Cl} (h : Ord a b l) : ∀ n : Nat, Ord (a + n) b (l ++ rowC W H b s n a) := by
  intro n
  induction n with
  | zero => simpa [rowC] using h
  | succ n ih =>
    rw [rowC_succ, ← List.append_assoc]
    by_cases e : (decide (s ≠ 0) && (onSideB (a + n) W && onSideB b H)) = true
    · have e1 : oneC W H (a + n) b s = [(a + n, b, s)] := if_pos e
      rw [e1]
      refine ⟨fun c hc => ?_, once_snoc ih.once fun d hd hh => ?_⟩
      · rcases List.mem_append.1 hc with hc | hc
        · have := ih.ahead c hc
          omega
        · simp at hc
          subst hc
          exact Or.inr ⟨rfl, show a + (n : Int) < a + ((n + 1 : Nat) : Int) by omega⟩
      · have := ih.ahead d hd
        simp only at hh
        omega
    · have e1 : oneC W H (a + n) b s = [] := if_neg e
      rw [e1, List.append_nil]
      exact ⟨fun c hc => by have := ih.ahead c hc; omega, ih.once⟩
theorem ord_fold {W H left : Int} : ∀ (rs : List Pu.Run) (p : Bd), (∀ r, r ∈ rs → 1 ≤ r.count) → Ord p.x p.y p.live → Ord (rs.foldl (bst W H left) p).x (rs.foldl (bst W H left) p).y (rs.foldl (bst W H left) p).live := by
  intro rs
  induction rs with
  | nil => intro p _ h; exact h
  | cons r rs ih =>
    intro p hc h
    have h1 := hc r List.mem_cons_self
    refine ih _ (fun r hr => hc r (List.mem_cons_of_mem _ hr)) ?_
    unfold bst
    split
    · exact ⟨fun c hc => by have := h.ahead c hc; simp only; omega, h.once⟩
    · have := ord_row (W := W) (H := H) (s := r.state) h r.count.toNat
      rw [show ((r.count.toNat : Nat) : Int) = r.count by omega] at this
      exact this
theorem liveOf_once {p : Pu.Parts} (h : Pu.PartsOk p) : Once (liveOf p) :=
  (ord_fold (W := p.shape.w) (H := p.shape.h) (left := p.col) p.runs ⟨p.col, p.row, []⟩ (fun r hr => (h.runs r hr).1) ⟨by simp, once_nil⟩).once
/-- The grid is kept tidy. -/
theorem tidy_set {gw gh : Int} {S : List Int} (hs : Side gw gh) (h : Tidy gw gh S) (l t x y u : Int) (hw : InW gw gh l t x y) : Tidy gw gh (S.set (slotP gw gh l t x y).toNat u) := by
  intro k hk
  have b := idx_bd hs x y
  have hi : idx gw gh x y < spanP gh * spanP gw := by
    have sw := spanP_bd hs.w0 hs.w1
    have sh := spanP_bd hs.h0 hs.h1
    have r1 := Int.emod_nonneg y (show spanP gh ≠ 0 by omega)
    have r2 := Int.emod_lt_of_pos y (show 0 < spanP gh by omega)
    have r4 := Int.emod_lt_of_pos x (show 0 < spanP gw by omega)
    unfold idx
    have m1 : (y % spanP gh + 1) * spanP gw ≤ spanP gh * spanP gw := Int.mul_le_mul_of_nonneg_right (by omega) (by omega)
    rw [Int.add_mul, Int.one_mul] at m1
    omega
  rw [slot_win hs hw]
  have := h k hk
  unfold List.getD at *
  rw [List.getElem?_set, if_neg (by omega)]
  exact this
theorem tidy_put {gw gh : Int} {g : Gs} (hs : Side gw gh) (h : Tidy gw gh g.S) (x y u : Int) : Tidy gw gh (putG gw gh g x y u).2.S := by
  unfold putG
  split
  · rename_i e
    exact tidy_set hs h _ _ _ _ _ ((slot_iff hs).1 e)
  · split
    · exact h
    · split
      · rename_i e
        exact tidy_set hs h _ _ _ _ _ ((slot_iff hs).1 e)
      · exact h
theorem tidy_run {x : Pu.Shape} (hx : Pu.ShapeOk x) {g : Gs} (h : Tidy x.w x.h g.S) (a b u : Int) : ∀ k, Tidy x.w x.h (runG x g a b u k).2.S := by
  intro k
  induction k with
  | zero => exact h
  | succ k ih =>
    unfold runG
    split
    · exact ih
    · split
      · exact ih
      · split
        · exact ih
        · exact tidy_put (side_of hx) ih _ _ _
theorem tidy_lay {x : Pu.Shape} (hx : Pu.ShapeOk x) (col : Int) : ∀ (rs : List Pu.Run) (a b : Int) (g : Gs), Tidy x.w x.h g.S → Tidy x.w x.h (layG x col rs a b g).2.S := by
  intro rs
  induction rs with
  | nil => intro a b g h; exact h
  | cons r rs ih =>
    intro a b g h
    have h2 : Tidy x.w x.h (layRunG x g a b r).2.S := by
      unfold layRunG
      split
      · exact h
      · exact tidy_run hx h _ _ _ _
    unfold layG
    split
    · exact ih _ _ _ h
    · split
      · exact h2
      · exact ih _ _ _ h2
/-- A world of the program's and one of the document's, the same. -/
structure Alike (r : Pu.Rule) (x : Pu.Shape) (g : Gs) (l : List Cl) : Prop where
  gs : GsOk r.states x.w x.h g
  same : Same x.w x.h g l
  mem : ∀ d, d ∈ l → (1 ≤ d.2.2 ∧ d.2.2 < r.states) ∧ onSideB d.1 x.w = true ∧ onSideB d.2.1 x.h = true
  once : Once l
  rm : Rm x.w x.h l
  tidy : Tidy x.w x.h g.S
theorem Alike.nz {r : Pu.Rule} {x : Pu.Shape} {g : Gs} {l : List Cl} (h : Alike r x g l) : ∀ d, d ∈ l → d.2.2 ≠ 0 := fun d hd => by have := (h.mem d hd).1; omega
theorem Alike.count {r : Pu.Rule} {x : Pu.Shape} (hx : Pu.ShapeOk x) {g : Gs} {l : List Cl} (h : Alike r x g l) : countP g.S = l.length := count_same (side_of hx) h.tidy h.same h.nz h.once
theorem Alike.len {r : Pu.Rule} {x : Pu.Shape} (hx : Pu.ShapeOk x) {g : Gs} {l : List Cl} (h : Alike r x g l) : l.length ≤ 768 := by
  rw [← h.count hx]
  have := countP_le g.S
  rw [h.gs.len] at this
  exact this
theorem Alike.bd {r : Pu.Rule} {x : Pu.Shape} (hx : Pu.ShapeOk x) {g : Gs} {l : List Cl} (h : Alike r x g l) : ∀ d, d ∈ l → (-9999 ≤ d.1 ∧ d.1 ≤ 9999) ∧ (-9999 ≤ d.2.1 ∧ d.2.1 ≤ 9999) := by
  intro d hd
  obtain ⟨_, h1, h2⟩ := h.mem d hd
  have w12 := hx.w12
  have h12 := hx.h12
  unfold onSideB at h1 h2
  rw [decide_eq_true_iff] at h1 h2
  constructor
  · by_cases e : x.w = 0
    · exact (h.rm.x e d hd d hd).1
    · omega
  · by_cases e : x.h = 0
    · exact (h.rm.y e d hd d hd).1
    · omega
/-- What Load makes is alike. -/
theorem alike_load {p : Pu.Parts} (hp : Pu.PartsOk p) (S : List Int) (hS : S.length = 768) (hz : ∀ k, S.getD k 0 = 0) (he : xloadE p = 0) : Alike p.rule p.shape (laidG p S).2 (liveOf p) := by
  have hk := (liveOf_ok hp).mem
  have h0 := laid_same hp S hS hz
  have hroom : roomB p.shape.w p.shape.h (liveOf p) = true := by
    unfold xloadE at he
    split at he
    · omega
    · by_cases c : roomB p.shape.w p.shape.h (liveOf p) = true
      · exact c
      · rw [if_neg c] at he
        omega
  obtain ⟨hs, ho⟩ := h0.2 (h0.1.2 hroom)
  exact ⟨ho, hs, fun d hd => (hk d hd).2.2, liveOf_once hp, (room_iff (side_of hp.shape) _).1 hroom, tidy_lay hp.shape _ _ _ _ _ (fun k _ => hz k)⟩
/-- What Put does to the list. -/
def dropC (x y : Int) (l : List Cl) : List Cl := l.filter fun c => !(c.1 == x && c.2.1 == y)
def putC (x y s : Int) (l : List Cl) : List Cl := dropC x y l ++ (if 0 < s then [(x, y, s)] else [])
theorem mem_dropC {x y : Int} {l : List Cl} {c : Cl} : c ∈ dropC x y l ↔ c ∈ l ∧ ¬ (c.1 = x ∧ c.2.1 = y) := by
  unfold dropC
  rw [List.mem_filter]
  by_cases e : c.1 = x ∧ c.2.1 = y
  · simp [e.1, e.2]
  · have : (!(c.1 == x && c.2.1 == y)) = true := by
      rw [Bool.not_eq_true', Bool.and_eq_false_iff]
      by_cases e1 : c.1 = x
      · right
        rw [beq_eq_false_iff_ne]
        exact fun e2 => e ⟨e1, e2⟩
      · left
        rw [beq_eq_false_iff_ne]
        exact e1
    rw [this]
    simp [e]
theorem atL_dropC (x y : Int) (l : List Cl) (X Y : Int) : atL (dropC x y l) X Y = if X = x ∧ Y = y then 0 else atL l X Y := by
  induction l with
  | nil => simp [dropC, atL]
  | cons c l ih =>
    have e : dropC x y (c :: l) = if c.1 = x ∧ c.2.1 = y then dropC x y l else c :: dropC x y l := by
      unfold dropC
      rw [List.filter_cons]
      by_cases h : c.1 = x ∧ c.2.1 = y
      · rw [if_pos h, if_neg (by simp [h.1, h.2])]
      · rw [if_neg h, if_pos]
        rw [Bool.not_eq_true', Bool.and_eq_false_iff]
        by_cases e1 : c.1 = x
        · right
          rw [beq_eq_false_iff_ne]
          exact fun e2 => h ⟨e1, e2⟩
        · left
          rw [beq_eq_false_iff_ne]
          exact e1
    rw [e]
    by_cases h : c.1 = x ∧ c.2.1 = y
    · rw [if_pos h, ih]
      by_cases h2 : X = x ∧ Y = y
      · rw [if_pos h2, if_pos h2]
      · rw [if_neg h2, if_neg h2, atL, if_neg (by rw [h.1, h.2]; exact fun q => h2 ⟨q.1.symm, q.2.symm⟩)]
    · rw [if_neg h, atL, atL, ih]
      by_cases h2 : X = x ∧ Y = y
      · rw [if_pos h2, if_pos h2, if_neg (by rw [h2.1, h2.2]; exact h)]
      · rw [if_neg h2, if_neg h2]
theorem atL_putC (x y s : Int) (h0 : 0 ≤ s) (l : List Cl) (X Y : Int) : atL (putC x y s l) X Y = if X = x ∧ Y = y then s else atL l X Y := by
  unfold putC
  by_cases h : 0 < s
  · rw [if_pos h, atL_snoc, atL_dropC]
    · split <;> rfl
    · intro c hc
      exact (mem_dropC.1 hc).2
  · rw [if_neg h, List.append_nil, atL_dropC]
    have : s = 0 := by omega
    rw [this]
/-- A Put that is in place: both do it, or both find no room. -/
theorem alike_put {r : Pu.Rule} {x : Pu.Shape} (hx : Pu.ShapeOk x) {g : Gs} {l : List Cl} (h : Alike r x g l) {X Y s : Int} (h1 : hasB x X Y = true) (h2 : nearB x X Y = true) (hs : 0 ≤ s ∧ s < r.states) :
    ((putG x.w x.h g X Y s).1 = roomB x.w x.h (putC X Y s l)) ∧ (roomB x.w x.h (putC X Y s l) = true → Alike r x (putG x.w x.h g X Y s).2 (putC X Y s l)) ∧ (roomB x.w x.h (putC X Y s l) = false → (putG x.w x.h g X Y s).2 = g) := by
  have F := fits_iff h.same h.nz h.rm X Y s
  have sd := side_of hx
  have sp := spot_of hx h1 h2
  have key : (s = 0 ∨ Fits x.w x.h g X Y) ↔ Rm x.w x.h (putC X Y s l) := by
    constructor
    · intro hf
      by_cases z : s = 0
      · refine h.rm.mono fun c hc => ?_
        unfold putC at hc
        rw [if_neg (by omega), List.append_nil] at hc
        exact (mem_dropC.1 hc).1
      · have hf' := hf.resolve_left z
        refine (F.1 ⟨h2, hf'⟩).mono fun c hc => ?_
        unfold putC at hc
        rw [if_pos (by omega)] at hc
        rcases List.mem_append.1 hc with hc | hc
        · exact List.mem_append_left _ (mem_dropC.1 hc).1
        · exact List.mem_append_right _ hc
    · intro hr
      by_cases z : s = 0
      · exact Or.inl z
      · right
        refine (F.2 ?_).2
        have hin : ∀ c, c ∈ l ++ [(X, Y, s)] → ∃ d, d ∈ putC X Y s l ∧ d.1 = c.1 ∧ d.2.1 = c.2.1 := by
          intro c hc
          unfold putC
          rw [if_pos (by omega)]
          rcases List.mem_append.1 hc with hc | hc
          · by_cases e : c.1 = X ∧ c.2.1 = Y
            · exact ⟨(X, Y, s), by simp, e.1.symm, e.2.symm⟩
            · exact ⟨c, List.mem_append_left _ (mem_dropC.2 ⟨hc, e⟩), rfl, rfl⟩
          · exact ⟨c, List.mem_append_right _ hc, rfl, rfl⟩
        refine ⟨fun e c hc d hd => ?_, fun e c hc d hd => ?_⟩
        · obtain ⟨c', c1, c2, _⟩ := hin c hc
          obtain ⟨d', d1, d2, _⟩ := hin d hd
          have := hr.x e c' c1 d' d1
          rw [c2, d2] at this
          exact this
        · obtain ⟨c', c1, _, c2⟩ := hin c hc
          obtain ⟨d', d1, _, d2⟩ := hin d hd
          have := hr.y e c' c1 d' d1
          rw [c2, d2] at this
          exact this
  by_cases hf : s = 0 ∨ Fits x.w x.h g X Y
  · obtain ⟨p1, p2, p3⟩ := put_spec sd h.gs sp hs hf (u := s)
    have hr := key.1 hf
    have hb := (room_iff sd _).2 hr
    rw [p1, hb]
    refine ⟨rfl, fun _ => ⟨p2, fun A B => ?_, fun d hd => ?_, ?_, hr, tidy_put sd h.tidy _ _ _⟩, fun e => by cases e⟩
    · rw [p3, atL_putC _ _ _ hs.1, h.same]
    · unfold putC at hd
      rcases List.mem_append.1 hd with hd | hd
      · exact h.mem d (mem_dropC.1 hd).1
      · split at hd
        · simp at hd
          subst hd
          unfold hasB at h1
          rw [Bool.and_eq_true] at h1
          exact ⟨by simp only; omega, h1.1, h1.2⟩
        · simp at hd
    · unfold putC
      have o1 : Once (dropC X Y l) := once_sub h.once List.filter_sublist
      split
      · exact once_snoc o1 fun d hd => (mem_dropC.1 hd).2
      · rw [List.append_nil]
        exact o1
  · have e := put_fail sd hf (x := X) (y := Y) (u := s)
    have hb : roomB x.w x.h (putC X Y s l) = false := by
      cases hc : roomB x.w x.h (putC X Y s l) with
      | false => rfl
      | true => exact absurd (key.2 ((room_iff sd _).1 hc)) hf
    rw [e, hb]
    exact ⟨rfl, (fun h => Bool.noConfusion h), fun _ => rfl⟩
end Go.Proofs.YtbdbkjngdhcjpaaDoor
