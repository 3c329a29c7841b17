import Derived.Test.YtbdbkjngdhcjpaaDoorM18
namespace Go.Proofs.YtbdbkjngdhcjpaaDoor
open Go.RowKit
open Go.Proofs

/-- A list of live cells, to be read. -/
def ClAt (w : World) (v : Value) (l : List Cl) : Prop := w.ownsRow 0 87 3 v l.length (cellsv l)
theorem cellsv_len (l : List Cl) : (cellsv l).length = l.length * 3 := by
  induction l with
  | nil => rfl
  | cons c l ih =>
    unfold cellsv
    rw [List.length_append, ih]
    simp [cellv]
    omega
theorem cellsv_get : ∀ (l : List Cl) (k : Nat) (c : Cl), l[k]? = some c → ∀ j : Nat, j < 3 → (cellsv l)[k * 3 + j]? = (cellv c).toList[j]? := by
  intro l
  induction l with
  | nil => intro k c h; simp at h
  | cons d l ih =>
    intro k c h j hj
    unfold cellsv
    cases k with
    | zero =>
      have e : d = c := by simpa using h
      subst e
      rw [Nat.zero_mul, Nat.zero_add, List.getElem?_append_left (by simp [cellv]; omega)]
    | succ k =>
      have e : l[k]? = some c := by simpa using h
      rw [List.getElem?_append_right (by simp [cellv]; omega)]
      rw [← ih k c e j hj]
      congr 1
      simp [cellv]
      omega
theorem ClAt.of_own {w : World} {base : Nat} {v : Value} {l : List Cl} (h : w.ownsRow base 87 3 v l.length (cellsv l)) : ClAt w v l := xown_base h (Nat.zero_le _)
theorem ClAt.keep {S : Nat → Prop} {w w' : World} {v : Value} {l : List Cl} (h : ClAt w v l) (k : Kp S w w') (hS : ∀ g, w.heap[g]?.map (fun o => match o with | .cells _ t _ => t | _ => 0) = some 87 → ¬ S g) : ClAt w' v l := by
  refine ⟨h.1, ?_⟩
  rcases h.2 with h2 | ⟨g, cap, cur, hv, hb, hg, r⟩
  · exact Or.inl h2
  · exact Or.inr ⟨g, cap, cur, hv, hb, (k.block g (Array.getElem?_eq_some_iff.1 hg).1 (hS g (by rw [hg]; rfl))).trans hg, r⟩
/-- Its length, and its cells. -/
theorem ClAt.form {w : World} {v : Value} {l : List Cl} (h : ClAt w v l) : ∃ a cap, v = .slice a l.length cap ∧ (l ≠ [] → ∃ g, a = some ⟨g, 0, none⟩ ∧ ∀ k c, l[k]? = some c → w.cell? ⟨g, k * 3, none⟩ = some (.int .i64 c.1) ∧ w.cell? ⟨g, k * 3 + 1, none⟩ = some (.int .i64 c.2.1) ∧ w.cell? ⟨g, k * 3 + 2, none⟩ = some (.int .i64 c.2.2)) := by
  rcases h.2 with ⟨rfl, h2⟩ | ⟨g, cap, cur, rfl, hb, hg, h1, h2, h3, h4⟩
  · exact ⟨none, 0, by rw [h2], fun hn => absurd (List.length_eq_zero_iff.1 h2) hn⟩
  · refine ⟨some ⟨g, 0, none⟩, cap, rfl, fun _ => ⟨g, rfl, fun k c hk => ?_⟩⟩
    have hlt : k < l.length := by
      rcases Nat.lt_or_ge k l.length with h | h
      · exact h
      · rw [List.getElem?_eq_none h] at hk; cases hk
    have get : ∀ j : Nat, j < 3 → w.cell? ⟨g, k * 3 + j, none⟩ = (cellv c).toList[j]? := by
      intro j hj
      rw [cell_of_row w g _ _ _ _ hg, ← cellsv_get l k c hk j hj, ← h4, List.getElem?_take_of_lt (by omega)]
      simp
    exact ⟨get 0 (by omega), get 1 (by omega), get 2 (by omega)⟩
def atL : List Cl → Int → Int → Int
  | [], _, _ => 0
  | c :: l, x, y => if c.1 = x ∧ c.2.1 = y then c.2.2 else atL l x y
theorem atL_drop {l : List Cl} {k : Nat} {c : Cl} (h : l[k]? = some c) (x y : Int) : atL (l.drop k) x y = if c.1 = x ∧ c.2.1 = y then c.2.2 else atL (l.drop (k + 1)) x y := by
  have hlt : k < l.length := by
    rcases Nat.lt_or_ge k l.length with h2 | h2
    · exact h2
    · rw [List.getElem?_eq_none h2] at h; cases h
  rw [List.drop_eq_getElem_cons hlt]
  have : l[k] = c := by rw [List.getElem?_eq_getElem hlt] at h; exact Option.some.inj h
  rw [this]
  rfl

set_option maxRecDepth 100000 in
set_option maxHeartbeats 2000000 in
theorem xat_any (v : Value) (l : List Cl) (X Y : Int) (w : World) (h : ClAt w v l) (hl : l.length ≤ 1000000) :
    Calls Tryd.prog 44 #[v, .int .i64 X, .int .i64 Y] w fun e w' => e = .returned (.int .i64 (atL l X Y)) ∧ w' = w := by
  obtain ⟨ad, cap, rfl, hf⟩ := h.form
  have HF := hide hf
  clear h hf
  go_enter Tryd.func44, Tryd.ntmps44
  go_wp2
  go_loopg [7] l.length (fun gk ui wr => ∃ k : Nat, k ≤ l.length ∧ l.length ≤ k + gk ∧ ui = .int .i64 k ∧ wr = w ∧ atL l X Y = atL (l.drop k) X Y)
  case atStart => exact ⟨0, Nat.zero_le _, by omega, rfl, rfl, rfl⟩
  case round =>
    obtain ⟨k, h1, h2, rfl, hw, h3⟩ := hrel
    subst hw
    have H3 := hide h3
    clear h3
    by_cases hlt : k < l.length
    · obtain ⟨c, hc⟩ : ∃ c, l[k]? = some c := ⟨l[k], List.getElem?_eq_getElem hlt⟩
      obtain ⟨g, rfl, hg⟩ := HF.out (by intro e; subst e; simp at hlt)
      obtain ⟨c0, c1, c2⟩ := hg k c hc
      have HD := hide (atL_drop hc X Y)
      clear hg hc
      by_cases e1 : c.1 = X
      · by_cases e2 : c.2.1 = Y
        · have b1 : (c.1 == X) = true := by simpa using e1
          have b2 : (c.2.1 == Y) = true := by simpa using e2
          have HE : Hid (atL l X Y = c.2.2) := by
            unfold Hid
            rw [H3.out, HD.out, if_pos ⟨e1, e2⟩]
          go_wp2_with fail
          go_ret
          exact ⟨congrArg (fun z => Ending.returned (Value.int .i64 z)) HE.out.symm, rfl⟩
        · have b1 : (c.1 == X) = true := by simpa using e1
          have b2 : (c.2.1 == Y) = false := by simpa using e2
          have HE : Hid (atL l X Y = atL (l.drop (k + 1)) X Y) := by
            unfold Hid
            rw [H3.out, HD.out, if_neg (fun h => e2 h.2)]
          go_wp2_with fail
          go_roundg (gk - 1)
          case measure => omega
          case rel => exact ⟨k + 1, by omega, by omega, val_i (by omega), rfl, HE.out⟩
      · have b1 : (c.1 == X) = false := by simpa using e1
        have HE : Hid (atL l X Y = atL (l.drop (k + 1)) X Y) := by
          unfold Hid
          rw [H3.out, HD.out, if_neg (fun h => e1 h.1)]
        go_wp2_with fail
        go_roundg (gk - 1)
        case measure => omega
        case rel => exact ⟨k + 1, by omega, by omega, val_i (by omega), rfl, HE.out⟩
    · have HE : Hid (atL l X Y = 0) := by
        unfold Hid
        rw [H3.out, List.drop_of_length_le (by omega)]
        rfl
      go_wp2_with fail
      go_ret
      exact ⟨congrArg (fun z => Ending.returned (Value.int .i64 z)) HE.out.symm, rfl⟩

theorem results_four {fn : Func} {t u v x : Tmp} (h : fn.results = #[.tmp t, .tmp u, .tmp v, .tmp x]) (tmps : Array Value) (P : Program) (w : World) :
    (results fn tmps).run P w = .ok (.tuple #[tmps.getD t undef, tmps.getD u undef, tmps.getD v undef, tmps.getD x undef]) w := by
  simp [results, h]
def boxStep (p : Int × Int × Int × Int) (c : Cl) : Int × Int × Int × Int := (if c.1 < p.1 then c.1 else p.1, if p.2.1 < c.1 then c.1 else p.2.1, if c.2.1 < p.2.2.1 then c.2.1 else p.2.2.1, if p.2.2.2 < c.2.1 then c.2.1 else p.2.2.2)
/-- The least and greatest columns and rows. -/
def boxL : List Cl → Int × Int × Int × Int
  | [] => (0, 0, 0, 0)
  | c :: l => l.foldl boxStep (c.1, c.1, c.2.1, c.2.1)
theorem boxL_take {l : List Cl} {k : Nat} {c : Cl} (h : l[k]? = some c) (h1 : 1 ≤ k) : boxL (l.take (k + 1)) = boxStep (boxL (l.take k)) c := by
  cases l with
  | nil => simp at h
  | cons d l =>
    obtain ⟨k, rfl⟩ : ∃ m, k = m + 1 := ⟨k - 1, by omega⟩
    have e : l[k]? = some c := by simpa using h
    rw [List.take_succ_cons, List.take_succ_cons]
    show List.foldl boxStep (d.1, d.1, d.2.1, d.2.1) (l.take (k + 1)) = boxStep (List.foldl boxStep (d.1, d.1, d.2.1, d.2.1) (l.take k)) c
    rw [List.take_add_one, e, List.foldl_append]
    rfl

set_option maxRecDepth 100000 in
set_option maxHeartbeats 4000000 in
theorem xbox_any (v : Value) (l : List Cl) (w : World) (h : ClAt w v l) (h0 : l ≠ []) (hl : l.length ≤ 1000000) :
    Calls Tryd.prog 23 #[v] w fun e w' => e = .returned (.tuple #[.int .i64 (boxL l).1, .int .i64 (boxL l).2.1, .int .i64 (boxL l).2.2.1, .int .i64 (boxL l).2.2.2]) ∧ w' = w := by
  obtain ⟨ad, cap, rfl, hf⟩ := h.form
  obtain ⟨g, rfl, hg⟩ := hf h0
  have HG := hide hg
  have lp : 0 < l.length := List.length_pos_iff.2 h0
  have B1 : Hid (boxL (l.take 1) = ((l[0]'lp).1, (l[0]'lp).1, (l[0]'lp).2.1, (l[0]'lp).2.1)) := by
    cases l with
    | nil => exact absurd rfl h0
    | cons d l => rfl
  obtain ⟨c0, c1, c2⟩ := hg 0 (l[0]'lp) (List.getElem?_eq_getElem lp)
  simp only [Nat.zero_mul, Nat.zero_add] at c0 c1 c2
  have HD : Hid (∀ k c, l[k]? = some c → 1 ≤ k → boxL (l.take (k + 1)) = boxStep (boxL (l.take k)) c) := fun k c h h1 => boxL_take h h1
  clear h hf hg h0 c2
  go_enter Tryd.func23, Tryd.ntmps23
  go_wp2
  go_loopg [6, 7, 8, 9, 10] l.length (fun gk ua ub uc ud ui wr => ∃ k : Nat, 1 ≤ k ∧ k ≤ l.length ∧ l.length ≤ k + gk ∧ ui = .int .i64 k ∧ wr = w ∧ ua = .int .i64 (boxL (l.take k)).1 ∧ ub = .int .i64 (boxL (l.take k)).2.1 ∧ uc = .int .i64 (boxL (l.take k)).2.2.1 ∧ ud = .int .i64 (boxL (l.take k)).2.2.2)
  case atStart => exact ⟨1, Nat.le_refl _, by omega, by omega, rfl, rfl, by rw [B1.out], by rw [B1.out], by rw [B1.out], by rw [B1.out]⟩
  case round =>
    obtain ⟨k, h1, h2, h3, rfl, hw, rfl, rfl, rfl, rfl⟩ := hrel
    subst hw
    clear c0 c1 B1
    by_cases hlt : k < l.length
    · obtain ⟨c, hc⟩ : ∃ c, l[k]? = some c := ⟨l[k], List.getElem?_eq_getElem hlt⟩
      obtain ⟨c0, c1, c2⟩ := HG.out k c hc
      have BS := hide (HD.out k c hc h1)
      clear hc c2
      generalize boxL (l.take k) = p at *
      obtain ⟨pa, pb, pc, pd⟩ := p
      obtain ⟨cx, cy, cs⟩ := c
      simp only at c0 c1
      have EA : Hid (∀ x, boxStep (pa, pb, pc, pd) (cx, cy, cs) = x → x = (if cx < pa then cx else pa, if pb < cx then cx else pb, if cy < pc then cy else pc, if pd < cy then cy else pd)) := fun x h => h.symm
      by_cases e1 : cx < pa
      all_goals by_cases e2 : pb < cx
      all_goals by_cases e3 : cy < pc
      all_goals by_cases e4 : pd < cy
      all_goals
        go_wp2_with fail
        go_roundg (gk - 1)
        case measure => omega
        case rel =>
          refine ⟨k + 1, by omega, by omega, by omega, val_i (by omega), rfl, ?_⟩
          rw [BS.out]
          unfold boxStep
          exact ⟨val_i (by simp only; split <;> omega), val_i (by simp only; split <;> omega), val_i (by simp only; split <;> omega), val_i (by simp only; split <;> omega)⟩
    · have et : k = l.length := by omega
      subst et
      go_wp2_with fail
      (try simp only [Exit.inBlock, Exit.then])
      refine bodyPost_ret (results_four rfl _ _ _) rfl ?_
      rw [List.take_length]
      exact ⟨rfl, rfl⟩
end Go.Proofs.YtbdbkjngdhcjpaaDoor
namespace Go.Proofs.YtbdbkjngdhcjpaaDoor
open Go.RowKit
open Go.Proofs

structure BoxIs (p : Int × Int × Int × Int) (q : Int × Int × Int × Int) (l : List Cl) : Prop where
  a : q.1 ≤ p.1 ∧ ∀ c, c ∈ l → q.1 ≤ c.1
  b : p.2.1 ≤ q.2.1 ∧ ∀ c, c ∈ l → c.1 ≤ q.2.1
  c : q.2.2.1 ≤ p.2.2.1 ∧ ∀ c, c ∈ l → q.2.2.1 ≤ c.2.1
  d : p.2.2.2 ≤ q.2.2.2 ∧ ∀ c, c ∈ l → c.2.1 ≤ q.2.2.2
  a' : q.1 = p.1 ∨ ∃ c, c ∈ l ∧ q.1 = c.1
  b' : q.2.1 = p.2.1 ∨ ∃ c, c ∈ l ∧ q.2.1 = c.1
  c' : q.2.2.1 = p.2.2.1 ∨ ∃ c, c ∈ l ∧ q.2.2.1 = c.2.1
  d' : q.2.2.2 = p.2.2.2 ∨ ∃ c, c ∈ l ∧ q.2.2.2 = c.2.1
theorem box_fold : ∀ (l : List Cl) (p : Int × Int × Int × Int), BoxIs p (l.foldl boxStep p) l := by
  intro l
  induction l with
  | nil => intro p; exact ⟨⟨Int.le_refl _, by simp⟩, ⟨Int.le_refl _, by simp⟩, ⟨Int.le_refl _, by simp⟩, ⟨Int.le_refl _, by simp⟩, Or.inl rfl, Or.inl rfl, Or.inl rfl, Or.inl rfl⟩
  | cons c l ih =>
    intro p
    have h := ih (boxStep p c)
    rw [List.foldl_cons]
    generalize l.foldl boxStep (boxStep p c) = q at *
    have e1 : (boxStep p c).1 ≤ p.1 ∧ (boxStep p c).1 ≤ c.1 ∧ ((boxStep p c).1 = p.1 ∨ (boxStep p c).1 = c.1) := by
      unfold boxStep; simp only; split <;> omega
    have e2 : p.2.1 ≤ (boxStep p c).2.1 ∧ c.1 ≤ (boxStep p c).2.1 ∧ ((boxStep p c).2.1 = p.2.1 ∨ (boxStep p c).2.1 = c.1) := by
      unfold boxStep; simp only; split <;> omega
    have e3 : (boxStep p c).2.2.1 ≤ p.2.2.1 ∧ (boxStep p c).2.2.1 ≤ c.2.1 ∧ ((boxStep p c).2.2.1 = p.2.2.1 ∨ (boxStep p c).2.2.1 = c.2.1) := by
      unfold boxStep; simp only; split <;> omega
    have e4 : p.2.2.2 ≤ (boxStep p c).2.2.2 ∧ c.2.1 ≤ (boxStep p c).2.2.2 ∧ ((boxStep p c).2.2.2 = p.2.2.2 ∨ (boxStep p c).2.2.2 = c.2.1) := by
      unfold boxStep; simp only; split <;> omega
    obtain ⟨ha, hb, hc, hd, ha', hb', hc', hd'⟩ := h
    refine ⟨⟨by omega, ?_⟩, ⟨by omega, ?_⟩, ⟨by omega, ?_⟩, ⟨by omega, ?_⟩, ?_, ?_, ?_, ?_⟩
    · intro d hd2
      rcases List.mem_cons.1 hd2 with rfl | h
      · omega
      · exact ha.2 d h
    · intro d hd2
      rcases List.mem_cons.1 hd2 with rfl | h
      · omega
      · exact hb.2 d h
    · intro d hd2
      rcases List.mem_cons.1 hd2 with rfl | h
      · omega
      · exact hc.2 d h
    · intro d hd2
      rcases List.mem_cons.1 hd2 with rfl | h
      · omega
      · exact hd.2 d h
    · rcases ha' with h | ⟨d, h1, h2⟩
      · rcases e1.2.2 with h3 | h3
        · left; omega
        · right; exact ⟨c, List.mem_cons_self, by omega⟩
      · right; exact ⟨d, List.mem_cons_of_mem _ h1, h2⟩
    · rcases hb' with h | ⟨d, h1, h2⟩
      · rcases e2.2.2 with h3 | h3
        · left; omega
        · right; exact ⟨c, List.mem_cons_self, by omega⟩
      · right; exact ⟨d, List.mem_cons_of_mem _ h1, h2⟩
    · rcases hc' with h | ⟨d, h1, h2⟩
      · rcases e3.2.2 with h3 | h3
        · left; omega
        · right; exact ⟨c, List.mem_cons_self, by omega⟩
      · right; exact ⟨d, List.mem_cons_of_mem _ h1, h2⟩
    · rcases hd' with h | ⟨d, h1, h2⟩
      · rcases e4.2.2 with h3 | h3
        · left; omega
        · right; exact ⟨c, List.mem_cons_self, by omega⟩
      · right; exact ⟨d, List.mem_cons_of_mem _ h1, h2⟩
/-- What the box of a list is. -/
structure BoxOf (q : Int × Int × Int × Int) (l : List Cl) : Prop where
  in1 : ∀ c, c ∈ l → q.1 ≤ c.1 ∧ c.1 ≤ q.2.1 ∧ q.2.2.1 ≤ c.2.1 ∧ c.2.1 ≤ q.2.2.2
  a : ∃ c, c ∈ l ∧ q.1 = c.1
  b : ∃ c, c ∈ l ∧ q.2.1 = c.1
  c : ∃ c, c ∈ l ∧ q.2.2.1 = c.2.1
  d : ∃ c, c ∈ l ∧ q.2.2.2 = c.2.1
theorem boxL_is {l : List Cl} (h : l ≠ []) : BoxOf (boxL l) l := by
  cases l with
  | nil => exact absurd rfl h
  | cons c l =>
    have h2 := box_fold l (c.1, c.1, c.2.1, c.2.1)
    have e : boxL (c :: l) = l.foldl boxStep (c.1, c.1, c.2.1, c.2.1) := rfl
    rw [e]
    generalize l.foldl boxStep (c.1, c.1, c.2.1, c.2.1) = q at *
    obtain ⟨ha, hb, hc, hd, ha', hb', hc', hd'⟩ := h2
    simp only at ha hb hc hd ha' hb' hc' hd'
    refine ⟨?_, ?_, ?_, ?_, ?_⟩
    · intro d h3
      rcases List.mem_cons.1 h3 with rfl | h
      · exact ⟨ha.1, hb.1, hc.1, hd.1⟩
      · exact ⟨ha.2 d h, hb.2 d h, hc.2 d h, hd.2 d h⟩
    · rcases ha' with h | ⟨d, h1, h2⟩
      · exact ⟨c, List.mem_cons_self, h⟩
      · exact ⟨d, List.mem_cons_of_mem _ h1, h2⟩
    · rcases hb' with h | ⟨d, h1, h2⟩
      · exact ⟨c, List.mem_cons_self, h⟩
      · exact ⟨d, List.mem_cons_of_mem _ h1, h2⟩
    · rcases hc' with h | ⟨d, h1, h2⟩
      · exact ⟨c, List.mem_cons_self, h⟩
      · exact ⟨d, List.mem_cons_of_mem _ h1, h2⟩
    · rcases hd' with h | ⟨d, h1, h2⟩
      · exact ⟨c, List.mem_cons_self, h⟩
      · exact ⟨d, List.mem_cons_of_mem _ h1, h2⟩
/-- Have live cells room? -/
def boxA (H : Int) (p : Int × Int × Int × Int) : Int := if H = 0 then p.2.2.1 else p.1
def boxB (H : Int) (p : Int × Int × Int × Int) : Int := if H = 0 then p.2.2.2 else p.2.1
def roomB (W H : Int) (l : List Cl) : Bool := decide (l = [] ∨ (0 < W ∧ 0 < H) ∨ (-9999 ≤ boxA H (boxL l) ∧ boxB H (boxL l) ≤ 9999 ∧ boxB H (boxL l) - boxA H (boxL l) < 64))
/-- Cells within the numbers that occur. -/
def ClBd (l : List Cl) : Prop := ∀ c, c ∈ l → (-100000 ≤ c.1 ∧ c.1 ≤ 100000) ∧ -100000 ≤ c.2.1 ∧ c.2.1 ≤ 100000

set_option maxRecDepth 100000 in
set_option maxHeartbeats 4000000 in
theorem xroom_any (q : Nat) (a : Array Value) (W H : Int) (v : Value) (l : List Cl) (w : World) (hv : VAt w q a) (hW : a[5]? = some (.int .i64 W)) (hH : a[6]? = some (.int .i64 H)) (h : ClAt w v l) (hl : l.length ≤ 1000000) (hb : ClBd l) :
    Calls Tryd.prog 37 #[.pointer (some ⟨q, 0, none⟩), v] w fun e w' => e = .returned (.bool (roomB W H l)) ∧ w' = w := by
  have c5 : w.cell? ⟨q, 5, none⟩ = some (.int .i64 W) := (hv.cell 5).trans hW
  have c6 : w.cell? ⟨q, 6, none⟩ = some (.int .i64 H) := (hv.cell 6).trans hH
  have HC := hide h
  obtain ⟨ad, cap, rfl, hf⟩ := h.form
  clear h hf hv hW hH
  by_cases e0 : l = []
  · subst e0
    have HR : Hid (roomB W H [] = true) := decide_eq_true (Or.inl rfl)
    clear HC
    go_enter Tryd.func37, Tryd.ntmps37
    go_wp2
    go_ret
    exact ⟨congrArg (fun z => Ending.returned (Value.bool z)) HR.out.symm, rfl⟩
  · have lp : 0 < l.length := List.length_pos_iff.2 e0
    have lb : ((l.length : Int) == 0) = false := by simp; omega
    by_cases e1 : 0 < W ∧ 0 < H
    · have HR : Hid (roomB W H l = true) := decide_eq_true (Or.inr (Or.inl e1))
      obtain ⟨e2, e3⟩ := e1
      clear HC e0
      go_enter Tryd.func37, Tryd.ntmps37
      go_wp2
      go_ret
      exact ⟨congrArg (fun z => Ending.returned (Value.bool z)) HR.out.symm, rfl⟩
    · have HR : Hid (roomB W H l = decide (-9999 ≤ boxA H (boxL l) ∧ boxB H (boxL l) ≤ 9999 ∧ boxB H (boxL l) - boxA H (boxL l) < 64)) := by
        unfold Hid roomB
        rw [decide_eq_decide]
        constructor
        · rintro (h | h | h)
          · exact absurd h e0
          · exact absurd h e1
          · exact h
        · intro h; exact Or.inr (Or.inr h)
      have hbx := boxL_is e0
      have LB := hide (xbox_any _ l w HC.out e0 hl)
      have q1 : (-100000 ≤ (boxL l).1 ∧ (boxL l).1 ≤ 100000) ∧ (-100000 ≤ (boxL l).2.1 ∧ (boxL l).2.1 ≤ 100000) ∧ (-100000 ≤ (boxL l).2.2.1 ∧ (boxL l).2.2.1 ≤ 100000) ∧ -100000 ≤ (boxL l).2.2.2 ∧ (boxL l).2.2.2 ≤ 100000 := by
        obtain ⟨ca, m1, u1⟩ := hbx.a
        obtain ⟨cb, m2, u2⟩ := hbx.b
        obtain ⟨cc, m3, u3⟩ := hbx.c
        obtain ⟨cd, m4, u4⟩ := hbx.d
        have t1 := hb ca m1
        have t2 := hb cb m2
        have t3 := hb cc m3
        have t4 := hb cd m4
        omega
      clear hbx HC e0
      generalize boxL l = p at *
      obtain ⟨pa, pb, pc, pd⟩ := p
      simp only at q1
      obtain ⟨⟨qa, qa'⟩, ⟨qb, qb'⟩, ⟨qc, qc'⟩, qd, qd'⟩ := q1
      have cs : (¬ 0 < W) ∨ (0 < W ∧ ¬ 0 < H) := by omega
      have HFIN : Hid (∀ (A B : Int), boxA H (pa, pb, pc, pd) = A → boxB H (pa, pb, pc, pd) = B → ∀ y : Bool, y = decide (-9999 ≤ A ∧ B ≤ 9999 ∧ B - A < 64) → Ending.returned (.bool y) = Ending.returned (.bool (roomB W H l))) := by
        rintro A B rfl rfl y rfl
        rw [HR.out]
      clear HR
      by_cases eh : H = 0
      · have bh : (H == 0) = true := by simpa using eh
        have EA : Hid (boxA H (pa, pb, pc, pd) = pc) := by unfold Hid boxA; rw [if_pos eh]
        have EB : Hid (boxB H (pa, pb, pc, pd) = pd) := by unfold Hid boxB; rw [if_pos eh]
        clear bh
        subst eh
        rcases cs with cs | ⟨cs, cs'⟩
        all_goals
          by_cases f1 : -9999 ≤ pc
          all_goals by_cases f2 : pd ≤ 9999
          all_goals
            go_enter Tryd.func37, Tryd.ntmps37
            go_wp2_with fail
            refine LB.out.mono ?_
            rintro e w1 ⟨rfl, hw⟩
            subst hw
            go_wp2_with fail
            go_ret
            refine ⟨HFIN.out pc pd EA.out EB.out _ ?_, rfl⟩
            first | (symm; apply decide_eq_false; omega) | (rw [Bool.eq_iff_iff]; simp <;> omega)
      · have bh : (H == 0) = false := by simpa using eh
        have EA : Hid (boxA H (pa, pb, pc, pd) = pa) := by unfold Hid boxA; rw [if_neg eh]
        have EB : Hid (boxB H (pa, pb, pc, pd) = pb) := by unfold Hid boxB; rw [if_neg eh]
        rcases cs with cs | ⟨cs, cs'⟩
        all_goals
          by_cases f1 : -9999 ≤ pa
          all_goals by_cases f2 : pb ≤ 9999
          all_goals
            go_enter Tryd.func37, Tryd.ntmps37
            go_wp2_with fail
            refine LB.out.mono ?_
            rintro e w1 ⟨rfl, hw⟩
            subst hw
            go_wp2_with fail
            go_ret
            refine ⟨HFIN.out pa pb EA.out EB.out _ ?_, rfl⟩
            first | (symm; apply decide_eq_false; omega) | (rw [Bool.eq_iff_iff]; simp <;> omega)
end Go.Proofs.YtbdbkjngdhcjpaaDoor
