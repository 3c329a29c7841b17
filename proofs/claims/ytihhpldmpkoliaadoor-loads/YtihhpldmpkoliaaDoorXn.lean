import Derived.Test.YtihhpldmpkoliaaDoorXm
namespace Go.Proofs.YtihhpldmpkoliaaDoor
open Go.RowKit
open Go.Proofs

structure BoxIs (p : Int × Int × Int × Int) (q : Int × Int × Int × Int) (l : List Cl) : Prop where
  a : q.1 ≤ p.1 ∧ ∀ c, c ∈ l → q.1 ≤ c.1
  b : p.2.1 ≤ q.2.1 ∧ ∀ c, c ∈ l → c.1 ≤ q.2.1
  c : q.2.2.1 ≤ p.2.2.1 ∧ ∀ c, c ∈ l → q.2.2.1 ≤ c.2.1
  d : p.2.2.2 ≤ q.2.2.2 ∧ ∀ c, c ∈ l → c.2.1 ≤ q.2.2.2
  a' : q.1 = p.1 ∨ ∃ c, c ∈ l ∧ q.1 = c.1
  b' : q.2.1 = p.2.1 ∨ ∃ c, c ∈ l ∧ q.2.1 = c.1
  c' : q.2.2.1 = p.2.2.1 ∨ ∃ c, c ∈ l ∧ q.2.2.1 = c.2.1
  d' : q.2.2.2 = p.2.2.2 ∨ ∃ c, c ∈ l ∧ q.2.2.2 = c.2.1
theorem box_fold : ∀ (l : List Cl) (p : Int × Int × Int × Int), BoxIs p (l.foldl boxStep p) l := by
  intro l
  induction l with
  | nil => intro p; exact ⟨⟨Int.le_refl _, by simp⟩, ⟨Int.le_refl _, by simp⟩, ⟨Int.le_refl _, by simp⟩, ⟨Int.le_refl _, by simp⟩, Or.inl rfl, Or.inl rfl, Or.inl rfl, Or.inl rfl⟩
  | cons c l ih =>
    intro p
    have h := ih (boxStep p c)
    rw [List.foldl_cons]
    generalize l.foldl boxStep (boxStep p c) = q at *
    have e1 : (boxStep p c).1 ≤ p.1 ∧ (boxStep p c).1 ≤ c.1 ∧ ((boxStep p c).1 = p.1 ∨ (boxStep p c).1 = c.1) := by
      unfold boxStep; simp only; split <;> omega
    have e2 : p.2.1 ≤ (boxStep p c).2.1 ∧ c.1 ≤ (boxStep p c).2.1 ∧ ((boxStep p c).2.1 = p.2.1 ∨ (boxStep p c).2.1 = c.1) := by
      unfold boxStep; simp only; split <;> omega
    have e3 : (boxStep p c).2.2.1 ≤ p.2.2.1 ∧ (boxStep p c).2.2.1 ≤ c.2.1 ∧ ((boxStep p c).2.2.1 = p.2.2.1 ∨ (boxStep p c).2.2.1 = c.2.1) := by
      unfold boxStep; simp only; split <;> omega
    have e4 : p.2.2.2 ≤ (boxStep p c).2.2.2 ∧ c.2.1 ≤ (boxStep p c).2.2.2 ∧ ((boxStep p c).2.2.2 = p.2.2.2 ∨ (boxStep p c).2.2.2 = c.2.1) := by
      unfold boxStep; simp only; split <;> omega
    obtain ⟨ha, hb, hc, hd, ha', hb', hc', hd'⟩ := h
    refine ⟨⟨by omega, ?_⟩, ⟨by omega, ?_⟩, ⟨by omega, ?_⟩, ⟨by omega, ?_⟩, ?_, ?_, ?_, ?_⟩
    · intro d hd2
      rcases List.mem_cons.1 hd2 with rfl | h
      · omega
      · exact ha.2 d h
    · intro d hd2
      rcases List.mem_cons.1 hd2 with rfl | h
      · omega
      · exact hb.2 d h
    · intro d hd2
      rcases List.mem_cons.1 hd2 with rfl | h
      · omega
      · exact hc.2 d h
    · intro d hd2
      rcases List.mem_cons.1 hd2 with rfl | h
      · omega
      · exact hd.2 d h
    · rcases ha' with h | ⟨d, h1, h2⟩
      · rcases e1.2.2 with h3 | h3
        · left; omega
        · right; exact ⟨c, List.mem_cons_self, by omega⟩
      · right; exact ⟨d, List.mem_cons_of_mem _ h1, h2⟩
    · rcases hb' with h | ⟨d, h1, h2⟩
      · rcases e2.2.2 with h3 | h3
        · left; omega
        · right; exact ⟨c, List.mem_cons_self, by omega⟩
      · right; exact ⟨d, List.mem_cons_of_mem _ h1, h2⟩
    · rcases hc' with h | ⟨d, h1, h2⟩
      · rcases e3.2.2 with h3 | h3
        · left; omega
        · right; exact ⟨c, List.mem_cons_self, by omega⟩
      · right; exact ⟨d, List.mem_cons_of_mem _ h1, h2⟩
    · rcases hd' with h | ⟨d, h1, h2⟩
      · rcases e4.2.2 with h3 | h3
        · left; omega
        · right; exact ⟨c, List.mem_cons_self, by omega⟩
      · right; exact ⟨d, List.mem_cons_of_mem _ h1, h2⟩
/-- What the box of a list is. -/
structure BoxOf (q : Int × Int × Int × Int) (l : List Cl) : Prop where
  in1 : ∀ c, c ∈ l → q.1 ≤ c.1 ∧ c.1 ≤ q.2.1 ∧ q.2.2.1 ≤ c.2.1 ∧ c.2.1 ≤ q.2.2.2
  a : ∃ c, c ∈ l ∧ q.1 = c.1
  b : ∃ c, c ∈ l ∧ q.2.1 = c.1
  c : ∃ c, c ∈ l ∧ q.2.2.1 = c.2.1
  d : ∃ c, c ∈ l ∧ q.2.2.2 = c.2.1
theorem boxL_is {l : List Cl} (h : l ≠ []) : BoxOf (boxL l) l := by
  cases l with
  | nil => exact absurd rfl h
  | cons c l =>
    have h2 := box_fold l (c.1, c.1, c.2.1, c.2.1)
    have e : boxL (c :: l) = l.foldl boxStep (c.1, c.1, c.2.1, c.2.1) := rfl
    rw [e]
    generalize l.foldl boxStep (c.1, c.1, c.2.1, c.2.1) = q at *
    obtain ⟨ha, hb, hc, hd, ha', hb', hc', hd'⟩ := h2
    simp only at ha hb hc hd ha' hb' hc' hd'
    refine ⟨?_, ?_, ?_, ?_, ?_⟩
    · intro d h3
      rcases List.mem_cons.1 h3 with rfl | h
      · exact ⟨ha.1, hb.1, hc.1, hd.1⟩
      · exact ⟨ha.2 d h, hb.2 d h, hc.2 d h, hd.2 d h⟩
    · rcases ha' with h | ⟨d, h1, h2⟩
      · exact ⟨c, List.mem_cons_self, h⟩
      · exact ⟨d, List.mem_cons_of_mem _ h1, h2⟩
    · rcases hb' with h | ⟨d, h1, h2⟩
      · exact ⟨c, List.mem_cons_self, h⟩
      · exact ⟨d, List.mem_cons_of_mem _ h1, h2⟩
    · rcases hc' with h | ⟨d, h1, h2⟩
      · exact ⟨c, List.mem_cons_self, h⟩
      · exact ⟨d, List.mem_cons_of_mem _ h1, h2⟩
    · rcases hd' with h | ⟨d, h1, h2⟩
      · exact ⟨c, List.mem_cons_self, h⟩
      · exact ⟨d, List.mem_cons_of_mem _ h1, h2⟩
/-- Have live cells room? -/
def boxA (H : Int) (p : Int × Int × Int × Int) : Int := if H = 0 then p.2.2.1 else p.1
def boxB (H : Int) (p : Int × Int × Int × Int) : Int := if H = 0 then p.2.2.2 else p.2.1
def roomB (W H : Int) (l : List Cl) : Bool := decide (l = [] ∨ (0 < W ∧ 0 < H) ∨ (-9999 ≤ boxA H (boxL l) ∧ boxB H (boxL l) ≤ 9999 ∧ boxB H (boxL l) - boxA H (boxL l) < 64))
/-- Cells within the numbers that occur. -/
def ClBd (l : List Cl) : Prop := ∀ c, c ∈ l → (-100000 ≤ c.1 ∧ c.1 ≤ 100000) ∧ -100000 ≤ c.2.1 ∧ c.2.1 ≤ 100000

set_option maxRecDepth 100000 in
set_option maxHeartbeats 4000000 in
theorem xroom_any (q : Nat) (a : Array Value) (W H : Int) (v : Value) (l : List Cl) (w : World) (hv : VAt w q a) (hW : a[5]? = some (.int .i64 W)) (hH : a[6]? = some (.int .i64 H)) (h : ClAt w v l) (hl : l.length ≤ 1000000) (hb : ClBd l) :
    Calls Tryd.prog 26 #[.pointer (some ⟨q, 0, none⟩), v] w fun e w' => e = .returned (.bool (roomB W H l)) ∧ w' = w := by
  have c5 : w.cell? ⟨q, 5, none⟩ = some (.int .i64 W) := (hv.cell 5).trans hW
  have c6 : w.cell? ⟨q, 6, none⟩ = some (.int .i64 H) := (hv.cell 6).trans hH
  have HC := hide h
  obtain ⟨ad, cap, rfl, hf⟩ := h.form
  clear h hf hv hW hH
  by_cases e0 : l = []
  · subst e0
    have HR : Hid (roomB W H [] = true) := decide_eq_true (Or.inl rfl)
    clear HC
    go_enter Tryd.func26, Tryd.ntmps26
    go_wp2
    go_ret
    exact ⟨congrArg (fun z => Ending.returned (Value.bool z)) HR.out.symm, rfl⟩
  · have lp : 0 < l.length := List.length_pos_iff.2 e0
    have lb : ((l.length : Int) == 0) = false := by simp; omega
    by_cases e1 : 0 < W ∧ 0 < H
    · have HR : Hid (roomB W H l = true) := decide_eq_true (Or.inr (Or.inl e1))
      obtain ⟨e2, e3⟩ := e1
      clear HC e0
      go_enter Tryd.func26, Tryd.ntmps26
      go_wp2
      go_ret
      exact ⟨congrArg (fun z => Ending.returned (Value.bool z)) HR.out.symm, rfl⟩
    · have HR : Hid (roomB W H l = decide (-9999 ≤ boxA H (boxL l) ∧ boxB H (boxL l) ≤ 9999 ∧ boxB H (boxL l) - boxA H (boxL l) < 64)) := by
        unfold Hid roomB
        rw [decide_eq_decide]
        constructor
        · rintro (h | h | h)
          · exact absurd h e0
          · exact absurd h e1
          · exact h
        · intro h; exact Or.inr (Or.inr h)
      have hbx := boxL_is e0
      have LB := hide (xbox_any _ l w HC.out e0 hl)
      have q1 : (-100000 ≤ (boxL l).1 ∧ (boxL l).1 ≤ 100000) ∧ (-100000 ≤ (boxL l).2.1 ∧ (boxL l).2.1 ≤ 100000) ∧ (-100000 ≤ (boxL l).2.2.1 ∧ (boxL l).2.2.1 ≤ 100000) ∧ -100000 ≤ (boxL l).2.2.2 ∧ (boxL l).2.2.2 ≤ 100000 := by
        obtain ⟨ca, m1, u1⟩ := hbx.a
        obtain ⟨cb, m2, u2⟩ := hbx.b
        obtain ⟨cc, m3, u3⟩ := hbx.c
        obtain ⟨cd, m4, u4⟩ := hbx.d
        have t1 := hb ca m1
        have t2 := hb cb m2
        have t3 := hb cc m3
        have t4 := hb cd m4
        omega
      clear hbx HC e0
      generalize boxL l = p at *
      obtain ⟨pa, pb, pc, pd⟩ := p
      simp only at q1
      obtain ⟨⟨qa, qa'⟩, ⟨qb, qb'⟩, ⟨qc, qc'⟩, qd, qd'⟩ := q1
      have cs : (¬ 0 < W) ∨ (0 < W ∧ ¬ 0 < H) := by omega
      have HFIN : Hid (∀ (A B : Int), boxA H (pa, pb, pc, pd) = A → boxB H (pa, pb, pc, pd) = B → ∀ y : Bool, y = decide (-9999 ≤ A ∧ B ≤ 9999 ∧ B - A < 64) → Ending.returned (.bool y) = Ending.returned (.bool (roomB W H l))) := by
        rintro A B rfl rfl y rfl
        rw [HR.out]
      clear HR
      by_cases eh : H = 0
      · have bh : (H == 0) = true := by simpa using eh
        have EA : Hid (boxA H (pa, pb, pc, pd) = pc) := by unfold Hid boxA; rw [if_pos eh]
        have EB : Hid (boxB H (pa, pb, pc, pd) = pd) := by unfold Hid boxB; rw [if_pos eh]
        clear bh
        subst eh
        rcases cs with cs | ⟨cs, cs'⟩
        all_goals
          by_cases f1 : -9999 ≤ pc
          all_goals by_cases f2 : pd ≤ 9999
          all_goals
            go_enter Tryd.func26, Tryd.ntmps26
            go_wp2_with fail
            refine LB.out.mono ?_
            rintro e w1 ⟨rfl, hw⟩
            subst hw
            go_wp2_with fail
            go_ret
            refine ⟨HFIN.out pc pd EA.out EB.out _ ?_, rfl⟩
            first | (symm; apply decide_eq_false; omega) | (rw [Bool.eq_iff_iff]; simp <;> omega)
      · have bh : (H == 0) = false := by simpa using eh
        have EA : Hid (boxA H (pa, pb, pc, pd) = pa) := by unfold Hid boxA; rw [if_neg eh]
        have EB : Hid (boxB H (pa, pb, pc, pd) = pb) := by unfold Hid boxB; rw [if_neg eh]
        rcases cs with cs | ⟨cs, cs'⟩
        all_goals
          by_cases f1 : -9999 ≤ pa
          all_goals by_cases f2 : pb ≤ 9999
          all_goals
            go_enter Tryd.func26, Tryd.ntmps26
            go_wp2_with fail
            refine LB.out.mono ?_
            rintro e w1 ⟨rfl, hw⟩
            subst hw
            go_wp2_with fail
            go_ret
            refine ⟨HFIN.out pa pb EA.out EB.out _ ?_, rfl⟩
            first | (symm; apply decide_eq_false; omega) | (rw [Bool.eq_iff_iff]; simp <;> omega)
end Go.Proofs.YtihhpldmpkoliaaDoor
