import Derived.Test.YtbdbkjngdhcjpaaDoorMb
import Derived.Test.YtbdbkjngdhcjpaaDoorM21
namespace Go.Proofs.YtbdbkjngdhcjpaaDoor
open Go.RowKit
open Go.Proofs

/-- Signs, parted into rows. -/
def sp : List UInt8 → List (List UInt8)
  | [] => [[]]
  | b :: D => if b = 36 then [] :: sp D else (b :: (sp D).headD []) :: (sp D).tail
theorem sp_cons (D : List UInt8) : ∃ r R, sp D = r :: R := by
  cases D with
  | nil => exact ⟨[], [], rfl⟩
  | cons b D =>
    unfold sp
    split
    · exact ⟨_, _, rfl⟩
    · exact ⟨_, _, rfl⟩
/-- Rows, joined. -/
def jn : List (List UInt8) → List UInt8
  | [] => []
  | [r] => r
  | r :: s :: R => r ++ 36 :: jn (s :: R)
theorem jn_sp : ∀ D : List UInt8, jn (sp D) = D := by
  intro D
  induction D with
  | nil => rfl
  | cons b D ih =>
    obtain ⟨r, R, e⟩ := sp_cons D
    unfold sp
    rw [e] at ih ⊢
    split
    · rename_i h
      subst h
      show [] ++ 36 :: jn (r :: R) = _
      rw [ih]
      rfl
    · show jn ((b :: r) :: R) = _
      cases R with
      | nil =>
        have : r = D := ih
        rw [← this]
        rfl
      | cons s R =>
        have : r ++ 36 :: jn (s :: R) = D := ih
        rw [← this]
        rfl
theorem sp_one : ∀ r : List UInt8, (∀ b, b ∈ r → b ≠ 36) → sp r = [r] := by
  intro r
  induction r with
  | nil => intro _; rfl
  | cons b r ih =>
    intro h
    unfold sp
    rw [if_neg (h b (by simp)), ih (fun c hc => h c (List.mem_cons_of_mem _ hc))]
    rfl
theorem sp_app (M : List UInt8) : ∀ r : List UInt8, (∀ b, b ∈ r → b ≠ 36) → sp (r ++ 36 :: M) = r :: sp M := by
  intro r
  induction r with
  | nil =>
    intro _
    show (if (36 : UInt8) = 36 then [] :: sp M else _) = _
    rw [if_pos rfl]
  | cons b r ih =>
    intro h
    rw [List.cons_append]
    show (if b = 36 then _ else (b :: (sp (r ++ 36 :: M)).headD []) :: (sp (r ++ 36 :: M)).tail) = _
    rw [if_neg (h b (by simp)), ih (fun c hc => h c (List.mem_cons_of_mem _ hc))]
    rfl
theorem sp_jn : ∀ R : List (List UInt8), R ≠ [] → (∀ r, r ∈ R → ∀ b, b ∈ r → b ≠ 36) → sp (jn R) = R := by
  intro R
  induction R with
  | nil => intro h _; exact absurd rfl h
  | cons r R ih =>
    intro _ h
    cases R with
    | nil => exact sp_one r (h r (by simp))
    | cons s R =>
      show sp (r ++ 36 :: jn (s :: R)) = _
      rw [sp_app _ r (h r (by simp)), ih (by simp) (fun q hq => h q (List.mem_cons_of_mem _ hq))]
/-- Rows within rows. -/
def SubR : List (List UInt8) → List (List UInt8) → Prop
  | [], _ => True
  | _ :: _, [] => False
  | a :: A, b :: B => a.Sublist b ∧ SubR A B
theorem jn_head (r : List UInt8) (R : List (List UInt8)) : r.Sublist (jn (r :: R)) := by
  cases R with
  | nil => exact List.Sublist.refl _
  | cons s R => exact List.sublist_append_left _ _
theorem jn_sub : ∀ A B : List (List UInt8), A ≠ [] → SubR A B → (jn A).Sublist (jn B) := by
  intro A
  induction A with
  | nil => intro B h _; exact absurd rfl h
  | cons a A ih =>
    intro B _ h
    cases B with
    | nil => exact h.elim
    | cons b B =>
      obtain ⟨h1, h2⟩ := h
      cases A with
      | nil => exact h1.trans (jn_head b B)
      | cons a2 A =>
        cases B with
        | nil => exact h2.elim
        | cons b2 B =>
          show (a ++ 36 :: jn (a2 :: A)).Sublist (b ++ 36 :: jn (b2 :: B))
          exact h1.append ((ih (b2 :: B) (by simp) h2).cons_cons 36)
theorem subR_of : ∀ A B : List (List UInt8), A.length ≤ B.length → (∀ i, i < A.length → (A.getD i []).Sublist (B.getD i [])) → SubR A B := by
  intro A
  induction A with
  | nil => intro B _ _; trivial
  | cons a A ih =>
    intro B hl h
    cases B with
    | nil => simp at hl
    | cons b B =>
      refine ⟨by simpa using h 0 (by simp), ih B (by simpa using hl) fun i hi => ?_⟩
      have := h (i + 1) (by simpa using hi)
      simpa using this
/-- What stands at a place. -/
def rowv (r : List UInt8) (z : Int) : Int := if z < 0 then 0 else sv (r.getD z.toNat 46)
def rowsv (R : List (List UInt8)) (z y : Int) : Int := if y < 0 then 0 else rowv (R.getD y.toNat []) z
theorem sv_dot : sv 46 = 0 := rfl
theorem rowv_nil (z : Int) : rowv [] z = 0 := by
  unfold rowv
  split
  · rfl
  · exact sv_dot
theorem rowsv_nil (z y : Int) : rowsv [] z y = 0 := by
  unfold rowsv
  split
  · rfl
  · exact rowv_nil z
/-- What signs plot. -/
def pl (left : Int) : List UInt8 → Int → Int → Int → Int → Int
  | [], _, _, _, _ => 0
  | b :: D, x, y, X, Y => if b = 36 then pl left D left (y + 1) X Y else if (X = x ∧ Y = y) ∧ sv b ≠ 0 then sv b else pl left D (x + 1) y X Y
theorem pl_rows (left X Y : Int) : ∀ (D : List UInt8) (x y : Int), pl left D x y X Y = if Y = y then rowv ((sp D).headD []) (X - x) else rowsv (sp D).tail (X - left) (Y - y - 1) := by
  intro D
  induction D with
  | nil =>
    intro x y
    show (0 : Int) = if Y = y then rowv [] (X - x) else rowsv [] (X - left) (Y - y - 1)
    rw [rowv_nil, rowsv_nil]
    split <;> rfl
  | cons b D ih =>
    intro x y
    obtain ⟨r, R, e⟩ := sp_cons D
    unfold pl sp
    by_cases hb : b = 36
    · rw [if_pos hb, if_pos hb, ih, e]
      simp only [List.headD_cons, List.tail_cons]
      by_cases h1 : Y = y
      · rw [if_pos h1, if_neg (by omega), rowv_nil]
        unfold rowsv
        rw [if_pos (by omega)]
      · rw [if_neg h1]
        by_cases h2 : Y = y + 1
        · rw [if_pos h2]
          unfold rowsv
          rw [if_neg (by omega), show (Y - y - 1).toNat = 0 by omega]
          rfl
        · rw [if_neg h2]
          unfold rowsv
          by_cases h3 : Y - y - 1 < 0
          · rw [if_pos h3, if_pos (by omega)]
          · rw [if_neg h3, if_neg (by omega), show (Y - y - 1).toNat = (Y - (y + 1) - 1).toNat + 1 by omega]
            rfl
    · rw [if_neg hb, if_neg hb, ih, e]
      simp only [List.headD_cons, List.tail_cons]
      by_cases h1 : Y = y
      · rw [if_pos h1, if_pos h1]
        unfold rowv
        by_cases h2 : X = x
        · rw [if_pos (show X - (x + 1) < 0 by omega), if_neg (show ¬ X - x < 0 by omega), show (X - x).toNat = 0 by omega]
          show (if (X = x ∧ Y = y) ∧ sv b ≠ 0 then sv b else 0) = sv b
          split
          · rfl
          · rename_i hc
            by_cases z : sv b = 0
            · exact z.symm
            · exact absurd ⟨⟨h2, h1⟩, z⟩ hc
        · rw [if_neg (fun hc => h2 hc.1.1)]
          by_cases h3 : X - x < 0
          · rw [if_pos h3, if_pos (by omega)]
          · rw [if_neg h3, if_neg (by omega), show (X - x).toNat = (X - (x + 1)).toNat + 1 by omega]
            rfl
      · rw [if_neg h1, if_neg h1, if_neg (fun hc => h1 hc.1.2)]
theorem pl_all (left top X Y : Int) (D : List UInt8) : pl left D left top X Y = rowsv (sp D) (X - left) (Y - top) := by
  obtain ⟨r, R, e⟩ := sp_cons D
  rw [pl_rows, e]
  simp only [List.headD_cons, List.tail_cons]
  unfold rowsv
  by_cases h1 : Y = top
  · rw [if_pos h1, if_neg (by omega), show (Y - top).toNat = 0 by omega]
    rfl
  · rw [if_neg h1]
    by_cases h2 : Y - top < 0
    · rw [if_pos h2, if_pos (by omega)]
    · rw [if_neg h2, if_neg (by omega), show (Y - top).toNat = (Y - top - 1).toNat + 1 by omega]
      rfl
theorem pl_down (left : Int) (D : List UInt8) (X Y : Int) : ∀ (k : Nat) (x y : Int), 1 ≤ k → pl left (List.replicate k 36 ++ D) x y X Y = pl left D left (y + k) X Y := by
  intro k
  induction k with
  | zero => intro x y h; omega
  | succ k ih =>
    intro x y _
    rw [List.replicate_succ, List.cons_append]
    show (if (36 : UInt8) = 36 then pl left (List.replicate k 36 ++ D) left (y + 1) X Y else _) = _
    rw [if_pos rfl]
    by_cases h : k = 0
    · subst h; rfl
    · rw [ih left (y + 1) (by omega)]
      congr 1
      omega
theorem pl_right (left : Int) (D : List UInt8) (X Y : Int) {b : UInt8} (hb : b ≠ 36) : ∀ (k : Nat) (x y : Int), pl left (List.replicate k b ++ D) x y X Y = if (Y = y ∧ x ≤ X ∧ X < x + k) ∧ sv b ≠ 0 then sv b else pl left D (x + k) y X Y := by
  intro k
  induction k with
  | zero =>
    intro x y
    rw [if_neg (by omega)]
    show pl left D x y X Y = pl left D (x + 0) y X Y
    rw [Int.add_zero]
  | succ k ih =>
    intro x y
    rw [List.replicate_succ, List.cons_append]
    show (if b = 36 then _ else if (X = x ∧ Y = y) ∧ sv b ≠ 0 then sv b else pl left (List.replicate k b ++ D) (x + 1) y X Y) = _
    rw [if_neg hb, ih, show x + 1 + (k : Int) = x + ((k + 1 : Nat) : Int) by omega]
    by_cases z : sv b = 0
    · rw [if_neg (fun h => h.2 z), if_neg (fun h => h.2 z), if_neg (fun h => h.2 z)]
    · by_cases h1 : X = x ∧ Y = y
      · rw [if_pos ⟨h1, z⟩, if_pos ⟨by omega, z⟩]
      · rw [if_neg (fun h => h1 h.1)]
        by_cases h2 : Y = y ∧ x + 1 ≤ X ∧ X < x + ((k + 1 : Nat) : Int)
        · rw [if_pos ⟨h2, z⟩, if_pos ⟨by omega, z⟩]
        · rw [if_neg (fun h => h2 h.1), if_neg (fun h => h2 (by omega))]
theorem atL_app0 (l m : List Cl) (hz : ∀ c, c ∈ l → c.2.2 ≠ 0) (X Y : Int) : atL (l ++ m) X Y = if atL l X Y ≠ 0 then atL l X Y else atL m X Y := by
  induction l with
  | nil => rw [if_neg (by simp [atL])]; rfl
  | cons c l ih =>
    rw [List.cons_append, atL, atL]
    by_cases e : c.1 = X ∧ c.2.1 = Y
    · rw [if_pos e, if_pos e, if_pos (hz c (by simp))]
    · rw [if_neg e, if_neg e, ih (fun d hd => hz d (List.mem_cons_of_mem _ hd))]
theorem ite3 {P Q R : Prop} [Decidable P] [Decidable Q] [Decidable R] {s : Int} (hP : P → s ≠ 0) (hR : R ↔ P ∨ Q) : (if (if P then s else 0) ≠ 0 then (if P then s else 0) else if Q then s else 0) = if R then s else 0 := by
  by_cases p : P
  · have r : R := hR.2 (Or.inl p)
    simp [p, r, hP p]
  · by_cases q : Q
    · have r : R := hR.2 (Or.inr q)
      simp [p, q, r]
    · have r : ¬ R := fun h => (hR.1 h).elim p q
      simp [p, q, r]
theorem ite4 {P O : Prop} [Decidable P] [Decidable O] {a s z : Int} (hP : P → s ≠ 0) : (if (if a ≠ 0 then a else if P ∧ O then s else 0) ≠ 0 then (if a ≠ 0 then a else if P ∧ O then s else 0) else if O then z else 0) = if a ≠ 0 then a else if O then (if P then s else z) else 0 := by
  by_cases ha : a = 0
  · by_cases o : O
    · by_cases p : P
      · simp [ha, o, p, hP p]
      · simp [ha, o, p]
    · simp [ha, o]
  · simp [ha]
theorem atL_row (W H y s : Int) (X Y x : Int) : ∀ n : Nat, atL (rowC W H y s n x) X Y = if ((Y = y ∧ x ≤ X ∧ X < x + n) ∧ s ≠ 0) ∧ (onSideB X W = true ∧ onSideB Y H = true) then s else 0 := by
  intro n
  induction n with
  | zero => rw [if_neg (by omega)]; rfl
  | succ n ih =>
    rw [rowC_succ, atL_app0 _ _ (fun c hc => by
      unfold rowC at hc
      obtain ⟨k, _, hk⟩ := List.mem_flatMap.1 hc
      obtain ⟨rfl, h2, _⟩ := oneC_mem hk
      exact h2), ih]
    have h1 : atL (oneC W H (x + n) y s) X Y = if ((X = x + n ∧ Y = y) ∧ s ≠ 0) ∧ (onSideB X W = true ∧ onSideB Y H = true) then s else 0 := by
      unfold oneC
      by_cases c : (decide (s ≠ 0) && (onSideB (x + n) W && onSideB y H)) = true
      · rw [if_pos c]
        simp only [Bool.and_eq_true, decide_eq_true_iff] at c
        show (if x + (n : Int) = X ∧ y = Y then s else 0) = _
        by_cases e : x + (n : Int) = X ∧ y = Y
        · obtain ⟨rfl, rfl⟩ := e
          rw [if_pos ⟨rfl, rfl⟩, if_pos ⟨⟨⟨rfl, rfl⟩, c.1⟩, c.2⟩]
        · rw [if_neg e, if_neg (fun h => e ⟨h.1.1.1.symm, h.1.1.2.symm⟩)]
      · rw [if_neg c]
        simp only [Bool.and_eq_true, decide_eq_true_iff] at c
        rw [if_neg (fun h => c (by obtain ⟨⟨⟨rfl, rfl⟩, h2⟩, h3⟩ := h; exact ⟨h2, h3⟩))]
        rfl
    rw [h1]
    refine ite3 (fun h => h.1.2) ⟨?_, ?_⟩
    · rintro ⟨⟨h, z⟩, o⟩
      by_cases e : X = x + n
      · right; exact ⟨⟨⟨e, h.1⟩, z⟩, o⟩
      · left; exact ⟨⟨by omega, z⟩, o⟩
    · rintro (⟨⟨h, z⟩, o⟩ | ⟨⟨h, z⟩, o⟩)
      · exact ⟨⟨by omega, z⟩, o⟩
      · exact ⟨⟨by omega, z⟩, o⟩
/-- The signs of runs. -/
def ex (rs : List Pu.Run) : List UInt8 := unr (rs.map toP)
theorem atL_fold {W H left : Int} {c : Int} (hc : c ≤ 9) (X Y : Int) : ∀ (rs : List Pu.Run) (x y : Int) (live : List Cl), (∀ d, d ∈ live → d.2.2 ≠ 0) → (∀ r, r ∈ rs → Pu.RunOk c r) →
    atL (rs.foldl (bst W H left) ⟨x, y, live⟩).live X Y = if atL live X Y ≠ 0 then atL live X Y else if onSideB X W = true ∧ onSideB Y H = true then pl left (ex rs) x y X Y else 0 := by
  intro rs
  induction rs with
  | nil =>
    intro x y live hz _
    show atL live X Y = if atL live X Y ≠ 0 then atL live X Y else if _ then 0 else 0
    by_cases e : atL live X Y = 0
    · rw [if_neg (by simp [e]), e]
      split <;> rfl
    · rw [if_pos e]
  | cons r rs ih =>
    intro x y live hz hr
    have hr0 := hr r (by simp)
    obtain ⟨r1, r2, r3, r4⟩ := hr0
    have hr' : ∀ q, q ∈ rs → Pu.RunOk c q := fun q hq => hr q (List.mem_cons_of_mem _ hq)
    rw [List.foldl_cons]
    have ee : ex (r :: rs) = List.replicate r.count.toNat (toP r).2 ++ ex rs := rfl
    rw [ee]
    by_cases hd : r.down = true
    · have eb : bst W H left ⟨x, y, live⟩ r = ⟨left, y + r.count, live⟩ := by unfold bst; rw [if_pos hd]
      rw [eb, ih left (y + r.count) live hz hr']
      have e2 : (toP r).2 = 36 := by unfold toP; simp only; rw [if_pos hd]
      rw [e2, pl_down left _ X Y _ x y (by omega), show ((r.count.toNat : Nat) : Int) = r.count by omega]
    · have eb : bst W H left ⟨x, y, live⟩ r = ⟨x + r.count, y, live ++ rowC W H y r.state r.count.toNat x⟩ := by unfold bst; rw [if_neg hd]
      have e2 : (toP r).2 = b8 (Pu.stateLetter r.state) := by unfold toP; simp only; rw [if_neg hd]
      obtain ⟨_, _, s3, s4, _, _⟩ := sg_cases hc r3 r4
      rw [eb, ih (x + r.count) y _ (fun d hd => by
        rcases List.mem_append.1 hd with hd | hd
        · exact hz d hd
        · unfold rowC at hd
          obtain ⟨k, _, hk⟩ := List.mem_flatMap.1 hd
          obtain ⟨rfl, h2, _⟩ := oneC_mem hk
          exact h2) hr']
      rw [atL_app0 _ _ hz, atL_row, e2, pl_right left _ X Y s4, s3, show ((r.count.toNat : Nat) : Int) = r.count by omega]
      exact ite4 (fun h => h.2)
/-- The cells of a text, by its rows. -/
theorem live_rows {p : Pu.Parts} (hp : Pu.PartsOk p) (X Y : Int) : atL (liveOf p) X Y = if onSideB X p.shape.w = true ∧ onSideB Y p.shape.h = true then rowsv (sp (ex p.runs)) (X - p.col) (Y - p.row) else 0 := by
  unfold liveOf bsts
  rw [atL_fold hp.states.2 X Y p.runs p.col p.row [] (by simp) hp.runs, if_neg (by simp [atL]), pl_all]
end Go.Proofs.YtbdbkjngdhcjpaaDoor
namespace Go.Proofs.YtbdbkjngdhcjpaaDoor
open Go.RowKit
open Go.Proofs

/-- The sign of a cell. -/
def sg (G : Int → Int) (l : Int) (j : Nat) : UInt8 := b8 (Pu.stateLetter (G (l + j)))
theorem sg_pos {s : Int} (h0 : 1 ≤ s) (h1 : s ≤ 8) : b8 (64 + s) = b8 (Pu.stateLetter s) := by
  have := letter_pos h0 h1
  unfold Sv.letter at this
  rw [this]
theorem xrow_is (G : Int → Int) (l : Int) (hG : ∀ x, 0 ≤ G x ∧ G x ≤ 8) : ∀ n : Nat, (xrowN G l n).1 ++ (xrowN G l n).2 = (List.range n).map (sg G l) ∧ (xrowN G l n).1 = (List.range (xrowN G l n).1.length).map (sg G l) ∧ (∀ j, (xrowN G l n).1.length ≤ j → j < n → G (l + j) = 0) ∧ ((xrowN G l n).1.length = 0 ∨ ∃ j, (xrowN G l n).1.length = j + 1 ∧ G (l + j) ≠ 0) := by
  intro n
  induction n with
  | zero => exact ⟨rfl, rfl, fun j _ h => by omega, Or.inl rfl⟩
  | succ n ih =>
    obtain ⟨i1, i2, i3, i4⟩ := ih
    have hl := xrowN_len G l n
    unfold xrowN
    by_cases z : G (l + n) = 0
    · rw [if_pos z]
      simp only
      refine ⟨?_, i2, fun j h1 h2 => ?_, i4⟩
      · rw [← List.append_assoc, i1, List.range_succ, List.map_append]
        congr 1
        unfold sg
        simp only [List.map_cons, List.map_nil]
        rw [z]
        rfl
      · by_cases e : j = n
        · rw [e]; exact z
        · exact i3 j h1 (by omega)
    · rw [if_neg z]
      simp only
      have hg := hG (l + n)
      have e1 : (xrowN G l n).1 ++ (xrowN G l n).2 ++ [b8 (64 + G (l + n))] = (List.range (n + 1)).map (sg G l) := by
        rw [i1, List.range_succ, List.map_append, sg_pos (by omega) hg.2]
        rfl
      rw [e1]
      refine ⟨by simp, by simp, fun j h1 h2 => ?_, Or.inr ⟨n, by simp, z⟩⟩
      simp at h1
      omega
/-- A row that is saved: so many signs. -/
theorem xrow_spec (G : Int → Int) (l : Int) (hG : ∀ x, 0 ≤ G x ∧ G x ≤ 8) (n : Nat) : ∃ m, m ≤ n ∧ xrow G l n = (List.range m).map (sg G l) ∧ (∀ j, m ≤ j → j < n → G (l + j) = 0) ∧ (m = 0 ∨ ∃ j, m = j + 1 ∧ G (l + j) ≠ 0) := by
  obtain ⟨_, i2, i3, i4⟩ := xrow_is G l hG n
  have hl := xrowN_len G l n
  exact ⟨_, by omega, i2, i3, i4⟩
theorem sg_facts {G : Int → Int} {l : Int} (hG : ∀ x, 0 ≤ G x ∧ G x ≤ 8) (j : Nat) : sv (sg G l j) = G (l + j) ∧ sg G l j ≠ 36 ∧ (G (l + j) ≠ 0 → sg G l j ≠ 46) := by
  have h := hG (l + j)
  obtain ⟨_, _, s3, s4, _, _⟩ := sg_cases (c := 9) (by omega) h.1 (by omega)
  refine ⟨s3, s4, fun hn e => hn ?_⟩
  have : sv (sg G l j) = 0 := by rw [e]; rfl
  rw [← s3]
  exact this
theorem xrow_no (G : Int → Int) (l : Int) (hG : ∀ x, 0 ≤ G x ∧ G x ≤ 8) (n : Nat) : ∀ b, b ∈ xrow G l n → b ≠ 36 := by
  obtain ⟨m, _, e, _, _⟩ := xrow_spec G l hG n
  rw [e]
  intro b hb
  obtain ⟨j, _, rfl⟩ := List.mem_map.1 hb
  exact (sg_facts hG j).2.1
theorem rowv_xrow (G : Int → Int) (l : Int) (hG : ∀ x, 0 ≤ G x ∧ G x ≤ 8) (n : Nat) (z : Int) : rowv (xrow G l n) z = if 0 ≤ z ∧ z < n then G (l + z) else 0 := by
  obtain ⟨m, hm, e, hz, _⟩ := xrow_spec G l hG n
  unfold rowv
  by_cases h0 : z < 0
  · rw [if_pos h0, if_neg (by omega)]
  · rw [if_neg h0, e]
    obtain ⟨j, rfl⟩ := Int.eq_ofNat_of_zero_le (show 0 ≤ z by omega)
    rw [Int.toNat_natCast]
    by_cases h1 : j < m
    · rw [if_pos (by omega)]
      have : ((List.range m).map (sg G l)).getD j 46 = sg G l j := by simp [List.getD, h1]
      rw [this]
      exact (sg_facts hG j).1
    · have : ((List.range m).map (sg G l)).getD j 46 = 46 := by simp [List.getD, h1]
      rw [this]
      by_cases h2 : j < n
      · rw [if_pos (by omega), hz j (by omega) h2]
        rfl
      · rw [if_neg (by omega)]
        rfl
theorem jn_snoc : ∀ (A : List (List UInt8)) (r : List UInt8), A ≠ [] → jn (A ++ [r]) = jn A ++ 36 :: r := by
  intro A
  induction A with
  | nil => intro r h; exact absurd rfl h
  | cons a A ih =>
    intro r _
    cases A with
    | nil => rfl
    | cons b A =>
      show a ++ 36 :: jn ((b :: A) ++ [r]) = (a ++ 36 :: jn (b :: A)) ++ 36 :: r
      rw [ih r (by simp)]
      simp
/-- The rows that are saved. -/
def Rd (G : Int → Int → Int) (L T : Int) (n i : Nat) : List UInt8 := xrow (fun x => G x (T + i)) L n
theorem xrows_jn (G : Int → Int → Int) (L T : Int) (n : Nat) : ∀ k : Nat, xrows G L T n k = jn ((List.range k).map (Rd G L T n)) := by
  intro k
  induction k with
  | zero => rfl
  | succ k ih =>
    unfold xrows
    rw [List.range_succ, List.map_append]
    by_cases h : 0 < k
    · rw [if_pos h, ih]
      simp only [List.map_cons, List.map_nil]
      rw [jn_snoc _ _ (by simp; omega)]
      simp [Rd]
    · have : k = 0 := by omega
      subst this
      rfl
theorem saved_rows (G : Int → Int → Int) (hG : ∀ x y, 0 ≤ G x y ∧ G x y ≤ 8) (L T : Int) (n k : Nat) (hk : 1 ≤ k) (hin : ∀ X Y, G X Y ≠ 0 → (L ≤ X ∧ X < L + n) ∧ (T ≤ Y ∧ Y < T + k)) (X Y : Int) : rowsv (sp (xrows G L T n k)) (X - L) (Y - T) = G X Y := by
  rw [xrows_jn, sp_jn _ (by simp; omega) (fun r hr => by
    obtain ⟨i, _, rfl⟩ := List.mem_map.1 hr
    exact xrow_no _ _ (fun x => hG x _) n)]
  unfold rowsv
  by_cases h0 : Y - T < 0
  · rw [if_pos h0]
    by_cases z : G X Y = 0
    · exact z.symm
    · have := hin X Y z
      omega
  · rw [if_neg h0]
    obtain ⟨i, hi⟩ := Int.eq_ofNat_of_zero_le (show 0 ≤ Y - T by omega)
    rw [hi, Int.toNat_natCast]
    by_cases h1 : i < k
    · have : ((List.range k).map (Rd G L T n)).getD i [] = Rd G L T n i := by simp [List.getD, h1]
      rw [this]
      unfold Rd
      rw [rowv_xrow _ _ (fun x => hG x _)]
      rw [show T + (i : Int) = Y by omega, show L + (X - L) = X by omega]
      by_cases h2 : 0 ≤ X - L ∧ X - L < n
      · rw [if_pos h2]
      · rw [if_neg h2]
        by_cases z : G X Y = 0
        · exact z.symm
        · have := hin X Y z
          omega
    · have : ((List.range k).map (Rd G L T n)).getD i [] = [] := by simp [List.getD, h1]
      rw [this, rowv_nil]
      by_cases z : G X Y = 0
      · exact z.symm
      · have := hin X Y z
        omega
theorem mem_unr {l : Rs} {p : Nat × UInt8} (h : p ∈ l) : p.1 ≤ (unr l).length := by
  induction l with
  | nil => simp at h
  | cons q l ih =>
    unfold unr
    rw [List.length_append, List.length_replicate]
    rcases List.mem_cons.1 h with rfl | h
    · omega
    · have := ih h
      omega
/-- The runs of what is saved, none of them long. -/
theorem body_rs (G : Int → Int → Int) (l t : Int) (hG : ∀ x y, 0 ≤ G x y ∧ G x y ≤ 8) (n : Nat) (hn : n ≤ 64) : ∀ k : Nat, k + 1 ≤ 64 → ∃ rs, BdyOk (Sv.bodyN G l t n (k + 1)) (xrows G l t n (k + 1)) rs ∧ (Sv.bodyN G l t n (k + 1)).breaks ≤ ((k + 1 : Nat) : Int) ∧ ∀ p, p ∈ rs → p.1 ≤ 64 := by
  have rl : ∀ (rs : Rs) (y : Int), unr rs = xrow (fun x => G x y) l n → ∀ p, p ∈ rs → p.1 ≤ 64 := by
    intro rs y h p hp
    have h1 := mem_unr hp
    rw [h] at h1
    have h2 := xrowN_len (fun x => G x y) l n
    unfold xrow at h1
    omega
  intro k
  induction k with
  | zero =>
    intro _
    obtain ⟨rs, h1, h2, h3, h4⟩ := row_runs (fun x => G x (t + (0 : Nat))) l (fun x => hG x _) n
    refine ⟨rs, ?_⟩
    have hb := rl rs _ h3
    have ea : Sv.bodyN G l t n 1 = if Sv.row (fun x => G x (t + (0 : Nat))) l n = [] then ⟨[], 0 + 1⟩ else ⟨[] ++ (Sv.run 0 36 ++ Sv.row (fun x => G x (t + (0 : Nat))) l n), 1⟩ := rfl
    have eb : xrows G l t n 1 = [] ++ xrow (fun x => G x (t + (0 : Nat))) l n := rfl
    rw [show 0 + 1 = 1 from rfl, ea, eb, h2, ← h3]
    split
    · rename_i e
      refine ⟨?_, by simp, hb⟩
      rw [wr_nil e]
      exact ⟨Pr.nil, rfl, ⟨0, rfl, rfl⟩, by simp⟩
    · refine ⟨⟨h1, by simp [Sv.run], ⟨0, rfl, by simp⟩, fun p hp => h4 p (List.mem_of_getLast? hp)⟩, by simp, hb⟩
  | succ k ih =>
    intro hk
    obtain ⟨rs0, b, bb, bc⟩ := ih (by omega)
    obtain ⟨rs, h1, h2, h3, h4⟩ := row_runs (fun x => G x (t + ((k + 1 : Nat) : Int))) l (fun x => hG x _) n
    have hb := rl rs _ h3
    unfold Sv.bodyN xrows
    rw [if_pos (by omega), h2, ← h3]
    generalize Sv.bodyN G l t n (k + 1) = b0 at *
    generalize xrows G l t n (k + 1) = D at *
    unfold Sv.bodyStep
    obtain ⟨j, e1, e2⟩ := b.br
    split
    · rename_i e
      rw [wr_nil e]
      refine ⟨rs0, ⟨b.pr, b.text, ⟨j + 1, ?_, ?_⟩, b.last⟩, ?_, bc⟩
      · simp only; omega
      · rw [e2, List.replicate_succ']
        simp [unr]
      · simp only; omega
    · rename_i e
      refine ⟨rs0 ++ ([(j + 1, 36)] ++ rs), ⟨?_, ?_, ⟨0, rfl, ?_⟩, ?_⟩, by simp only; omega, ?_⟩
      · refine b.pr.app ((Pr.one (by omega)).app h1 ?_) ?_
        · intro p q hp hq
          simp at hp
          rw [← hp]
          exact fun hc => h4 q (List.mem_of_getElem? hq) hc.symm
        · intro p q hp hq
          simp at hq
          rw [← hq]
          exact b.last p hp
      · simp only
        rw [b.text, e1, run_wr (by omega), wr_app, wr_app]
        rfl
      · rw [e2, unr_app, unr_app]
        simp [unr, List.replicate_succ']
      · intro p hp
        have hne : rs ≠ [] := fun hc => e (by rw [hc]; rfl)
        obtain ⟨z, hz⟩ : ∃ z, rs.getLast? = some z := by
          cases e4 : rs.getLast? with
          | none => exact absurd (List.getLast?_eq_none_iff.1 e4) hne
          | some z => exact ⟨z, rfl⟩
        rw [← List.append_assoc, List.getLast?_append, hz] at hp
        simp at hp
        subst hp
        exact h4 z (List.mem_of_getLast? hz)
      · intro p hp
        rcases List.mem_append.1 hp with hp | hp
        · exact bc p hp
        · rcases List.mem_append.1 hp with hp | hp
          · simp at hp
            rw [hp]
            simp only
            omega
          · exact hb p hp
theorem unr_mem {l : Rs} {p : Nat × UInt8} (h : p ∈ l) (h1 : 1 ≤ p.1) : p.2 ∈ unr l := by
  induction l with
  | nil => simp at h
  | cons q l ih =>
    unfold unr
    rcases List.mem_cons.1 h with rfl | h
    · exact List.mem_append_left _ (List.mem_replicate.2 ⟨by omega, rfl⟩)
    · exact List.mem_append_right _ (ih h)
theorem mem_jn {b : UInt8} : ∀ {R : List (List UInt8)}, b ∈ jn R → b = 36 ∨ ∃ r, r ∈ R ∧ b ∈ r := by
  intro R
  induction R with
  | nil => intro h; simp [jn] at h
  | cons r R ih =>
    intro h
    cases R with
    | nil => exact Or.inr ⟨r, by simp, h⟩
    | cons s R =>
      have h' : b ∈ r ++ 36 :: jn (s :: R) := h
      rcases List.mem_append.1 h' with h' | h'
      · exact Or.inr ⟨r, by simp, h'⟩
      · rcases List.mem_cons.1 h' with h' | h'
        · exact Or.inl h'
        · rcases ih h' with h2 | ⟨q, q1, q2⟩
          · exact Or.inl h2
          · exact Or.inr ⟨q, List.mem_cons_of_mem _ q1, q2⟩
/-- What is saved, in runs that can be read. -/
theorem body_saved (G : Int → Int → Int) (l t : Int) (c : Int) (hc : c ≤ 9) (hG : ∀ x y, 0 ≤ G x y ∧ G x y < c) (n k : Nat) (hn : n ≤ 64) (hk : k + 1 ≤ 64) (hl : xrow (fun x => G x (t + k)) l n ≠ []) :
    ∃ rs, Sv.body G l t n (k + 1) = wr rs ∧ unr rs = xrows G l t n (k + 1) ∧ Pr rs ∧ ∀ p, p ∈ rs → (1 ≤ p.1 ∧ p.1 ≤ 99) ∧ SgOk c p.2 := by
  have hG8 : ∀ x y, 0 ≤ G x y ∧ G x y ≤ 8 := fun x y => by have := hG x y; omega
  obtain ⟨rs0, h1, h2, h3, h4⟩ := row_runs (fun x => G x (t + k)) l (fun x => hG8 x _) n
  have hne : Sv.row (fun x => G x (t + k)) l n ≠ [] := by
    rw [h2]
    intro hc
    rw [wr_nil hc] at h3
    exact hl h3.symm
  obtain ⟨rs, b, _, b3⟩ := body_rs G l t hG8 n hn k hk
  obtain ⟨j, e1, e2⟩ := b.br
  have hb : (Sv.bodyN G l t n (k + 1)).breaks = 1 := by
    unfold Sv.bodyN Sv.bodyStep
    rw [if_neg hne]
  have ej : j = 0 := by omega
  subst ej
  have e3 : xrows G l t n (k + 1) = unr rs := by rw [e2]; simp
  refine ⟨rs, b.text, e3.symm, b.pr, fun p hp => ?_⟩
  have hp1 := b.pr.pos p hp
  refine ⟨⟨hp1, by have := b3 p hp; omega⟩, ?_⟩
  have hm := unr_mem hp hp1
  rw [← e3, xrows_jn] at hm
  rcases mem_jn hm with hm | ⟨r, r1, r2⟩
  · exact Or.inl hm
  · obtain ⟨i, _, rfl⟩ := List.mem_map.1 r1
    obtain ⟨m, _, e, _, _⟩ := xrow_spec (fun x => G x (t + i)) l (fun x => hG8 x _) n
    unfold Rd at r2
    rw [e] at r2
    obtain ⟨j, _, ej⟩ := List.mem_map.1 r2
    rw [← ej]
    exact Or.inr ⟨_, (hG _ _).1, (hG _ _).2, rfl⟩
end Go.Proofs.YtbdbkjngdhcjpaaDoor
