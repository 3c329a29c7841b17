import Derived.Test.YtbdbkjngdhcjpaaDoorM7
namespace Go.Proofs.YtbdbkjngdhcjpaaDoor
open Go.RowKit
open Go.Proofs

theorem div_in (a n : Int) (w : World) (h0 : 0 ≤ a) (h1 : a < n) (h2 : n ≤ 64) : Calls Tryd.prog 98 #[.int .i64 a, .int .i64 n] w fun e w' => e = .returned (.int .i64 0) ∧ w' = w := by
  have t1 : a.tmod n = a := Int.tmod_eq_of_lt h0 h1
  have t2 : a / n = 0 := Int.ediv_eq_zero_of_lt h0 h1
  have t3 : a.tdiv n = 0 := Int.tdiv_eq_zero_of_lt h0 h1
  have T2 := hide t2
  have T3 := hide t3
  clear t2 t3
  go_enter Tryd.func98, Tryd.ntmps98
  go_wp2
  go_ret
  exact ⟨ret_int (by first | exact T2.out | exact T3.out), rfl⟩
theorem split_in (a n : Int) (w : World) (h0 : 0 ≤ a) (h1 : a < n) (h2 : n ≤ 64) : Calls Tryd.prog 76 #[.int .i64 a, .int .i64 n] w fun e w' => e = .returned (.tuple #[.int .i64 0, .int .i64 a]) ∧ w' = w := by
  have HD := hide (fun wx => div_in a n wx h0 h1 h2)
  have HM := hide (fun wx => mod_any a n wx (by omega) h2 (by omega) (by omega))
  rw [Int.emod_eq_of_lt h0 h1] at HM
  have b1 : (n == 0) = false := by simp; omega
  go_enter Tryd.func76, Tryd.ntmps76
  go_wp2_with fail
  refine (HD.out _).mono ?_
  rintro e w1 ⟨rfl, hw⟩
  subst w1
  go_wp2_with fail
  refine (HM.out _).mono ?_
  rintro e w1 ⟨rfl, hw⟩
  subst w1
  go_wp2_with fail
  go_ret2
  exact ⟨rfl, rfl⟩
theorem shifted_in (a s n : Int) (w : World) (h0 : 0 ≤ a) (h1 : a < n) (h2 : n ≤ 64) (s0 : 0 ≤ s) (s1 : s ≤ 64) : Calls Tryd.prog 77 #[.int .i64 a, .int .i64 0, .int .i64 s, .int .i64 n] w fun e w' => e = .returned (.int .i64 a) ∧ w' = w := by
  by_cases hs : s = 0
  · subst hs
    go_enter Tryd.func77, Tryd.ntmps77
    go_wp2
    go_ret
    exact ⟨rfl, rfl⟩
  · have b1 : (s == 0) = false := by simpa using hs
    have HM := hide (fun wx => mod_any 0 n wx (by omega) h2 (by omega) (by omega))
    have HN := hide (fun wx => mod_any a n wx (by omega) h2 (by omega) (by omega))
    rw [Int.emod_eq_of_lt h0 h1] at HN
    rw [Int.zero_emod] at HM
    go_enter Tryd.func77, Tryd.ntmps77
    go_wp2_with fail
    refine (HM.out _).mono ?_
    rintro e w1 ⟨rfl, hw⟩
    subst w1
    go_wp2_with fail
    refine (HN.out _).mono ?_
    rintro e w1 ⟨rfl, hw⟩
    subst w1
    go_wp2_with fail
    go_ret
    exact ⟨rfl, rfl⟩

set_option maxRecDepth 100000 in
set_option maxHeartbeats 1000000 in
theorem fold_in (s : Pu.Shape) (x y : Int) (w : World) (hx : 0 ≤ x ∧ x < s.w) (hy : 0 ≤ y ∧ y < s.h) (hw : s.w ≤ 12) (hh : s.h ≤ 12) (hws : 0 ≤ s.ws ∧ s.ws ≤ 64) (hhs : 0 ≤ s.hs ∧ s.hs ≤ 64) :
    Calls Tryd.prog 50 #[.agg (shv s), .int .i64 x, .int .i64 y] w fun e w' => e = .returned (.tuple #[.int .i64 x, .int .i64 y]) ∧ Kp (fun _ => False) w w' := by
  have S1 := hide (fun wx => split_in x s.w wx hx.1 hx.2 (by omega))
  have S2 := hide (fun wx => split_in y s.h wx hy.1 hy.2 (by omega))
  have S3 := hide (fun wx => shifted_in x s.ws s.w wx hx.1 hx.2 (by omega) hws.1 hws.2)
  have S4 := hide (fun wx => shifted_in y s.hs s.h wx hy.1 hy.2 (by omega) hhs.1 hhs.2)
  clear hx hy hw hh hws hhs
  obtain ⟨kind, sw, sh, ws, hs, wst, hst⟩ := s
  simp only at S1 S2 S3 S4
  simp only [shv]
  by_cases hk : kind = 67
  · subst hk
    cases wst <;> cases hst
    all_goals
      go_enter Tryd.func50, Tryd.ntmps50
      go_wp2_with fail
      refine (S1.out _).mono ?_
      rintro e w1 ⟨rfl, hw⟩
      subst w1
      go_wp2_with fail
      refine (S2.out _).mono ?_
      rintro e w1 ⟨rfl, hw⟩
      subst w1
      go_wp2_with fail
      refine (S3.out _).mono ?_
      rintro e w1 ⟨rfl, hw⟩
      subst w1
      go_wp2_with fail
      refine (S4.out _).mono ?_
      rintro e w1 ⟨rfl, hw⟩
      subst w1
      go_wp2_with fail
      go_ret2
      exact ⟨rfl, (Kp.refl _ _).alloc _⟩
  · have b1 : (kind == 67) = false := by simpa using hk
    clear hk
    cases wst <;> cases hst
    all_goals
      go_enter Tryd.func50, Tryd.ntmps50
      go_wp2_with fail
      refine (S1.out _).mono ?_
      rintro e w1 ⟨rfl, hw⟩
      subst w1
      go_wp2_with fail
      refine (S2.out _).mono ?_
      rintro e w1 ⟨rfl, hw⟩
      subst w1
      go_wp2_with fail
      refine (S3.out _).mono ?_
      rintro e w1 ⟨rfl, hw⟩
      subst w1
      go_wp2_with fail
      refine (S4.out _).mono ?_
      rintro e w1 ⟨rfl, hw⟩
      subst w1
      go_wp2_with fail
      go_ret2
      exact ⟨rfl, (Kp.refl _ _).alloc _⟩

theorem folds_yes (s : Pu.Shape) (w : World) (h : s.kind = 84 ∨ s.kind = 75 ∨ s.kind = 67) : Calls Tryd.prog 49 #[.agg (shv s)] w fun e w' => e = .returned (.bool true) ∧ Kp (fun _ => False) w w' := by
  obtain ⟨kind, xw, xh, ws, hs, wst, hst⟩ := s
  simp only [shv] at *
  rcases h with rfl | rfl | rfl
  all_goals
    go_enter Tryd.func49, Tryd.ntmps49
    go_wp2
    go_ret
    exact ⟨rfl, (Kp.refl _ _).alloc _⟩
set_option maxHeartbeats 400000 in
theorem find_in (s : Pu.Shape) (a b : Int) (w : World) (h : s.kind = 84 ∨ s.kind = 75 ∨ s.kind = 67) (hx : 0 ≤ a ∧ a < s.w) (hy : 0 ≤ b ∧ b < s.h) (hw : s.w ≤ 12) (hh : s.h ≤ 12) (hws : 0 ≤ s.ws ∧ s.ws ≤ 64) (hhs : 0 ≤ s.hs ∧ s.hs ≤ 64) :
    Calls Tryd.prog 29 #[.agg (shv s), .int .i64 a, .int .i64 b] w fun e w' => e = .returned (.tuple #[.int .i64 a, .int .i64 b, .bool true]) ∧ Kp (fun _ => False) w w' := by
  have HF := hide (fun wx => folds_yes s wx h)
  have HH := hide (fun wx => fold_in s a b wx hx hy hw hh hws hhs)
  clear h hx hy hw hh hws hhs
  go_enter Tryd.func29, Tryd.ntmps29
  go_wp2_with (first
    | (refine wpList_box_row rfl 50 _ rfl (shv s) rfl ?_
       intro w1 hw1
       have A1 : Hid (w1.heap[w.heap.size]? = some (.cells (shv s) 50 (0, 0))) := by rw [hw1]; exact heap_alloc_new _ _
       have K1 : Hid (Kp (fun _ => False) w w1) := by rw [hw1]; exact (Kp.refl _ _).alloc _
       clear hw1)
    | (refine wpList_load_row rfl 50 _ rfl w.heap.size rfl 50 (shv s) (0, 0) _ A1.out Tryd.underlying50 rfl info_shape ?_))
  refine (HF.out _).mono ?_
  rintro e w2 ⟨rfl, k2⟩
  have A2 := hide (k2.row A1.out (fun hx => hx))
  have K2 := hide (K1.out.trans k2)
  clear k2
  go_wp2_with (refine wpList_load_row rfl 50 _ rfl w.heap.size rfl 50 (shv s) (0, 0) _ A2.out Tryd.underlying50 rfl info_shape ?_)
  refine (HH.out _).mono ?_
  rintro e w3 ⟨rfl, k3⟩
  have K3 := hide (K2.out.trans k3)
  clear k3
  go_wp2_with fail
  go_ret3
  exact ⟨rfl, K3.out⟩

/-- Get of a cell of a shape with two sides, of whatever kind. -/
theorem wget_two (q : Nat) (r : Pu.Rule) (x : Pu.Shape) (age : Int) (S : List Int) (a b : Int) (w : World) (h : GrAt w q (preOf r x age) x.w x.h 0 0 S) (hr : RuleOk r) (ht : Two x) (hk : x.kind ∈ [(80 : Int), 84, 75, 67, 83]) (hws : 0 ≤ x.ws ∧ x.ws ≤ 64) (hhs : 0 ≤ x.hs ∧ x.hs ≤ 64) (ha : 0 ≤ a ∧ a < x.w) (hb : 0 ≤ b ∧ b < x.h) :
    Calls Tryd.prog 14 #[.pointer (some ⟨q, 0, none⟩), .int .i64 a, .int .i64 b] w fun e w' => e = .returned (.int .i64 (S.getD (b * x.w + a).toNat 0)) ∧ Kp (fun _ => False) w w' := by
  obtain ⟨t1, t2, t3, t4⟩ := ht
  have FI : Hid (∀ wx, Calls Tryd.prog 29 #[.agg (shv x), .int .i64 a, .int .i64 b] wx fun e w' => e = .returned (.tuple #[.int .i64 a, .int .i64 b, .bool true]) ∧ Kp (fun _ => False) wx w') := by
    intro wx
    by_cases hf : x.kind = 84 ∨ x.kind = 75 ∨ x.kind = 67
    · exact find_in x a b wx hf ha hb t2 t4 hws hhs
    · have hk2 : x.kind = 80 ∨ x.kind = 83 := by simp at hk; omega
      have := find_no x a b wx hk2
      rw [(has_two ⟨t1, t2, t3, t4⟩ ha hb).1] at this
      exact this
  have ld := hide (fun j v => h.shape hr j v)
  have hz := slot_two ⟨t1, t2, t3, t4⟩ ha hb
  have HG := hide (fun (wx : World) (hx' : GrAt wx q (preOf r x age) x.w x.h 0 0 S) => gget_any q (preOf r x age) x.w x.h 0 0 S a b wx hx' (by omega) t2 (by omega) t4 (by omega) (by omega) (by omega) (by omega))
  have e : getP x.w x.h 0 0 S a b = S.getD (b * x.w + a).toNat 0 := by unfold getP; rw [hz.1, if_neg (by omega)]
  rw [e] at HG
  have H := hide h
  clear h hk hz e
  go_enter Tryd.func14, Tryd.ntmps14
  go_wp2_with (refine wpList_load_at rfl 50 _ rfl q 20 rfl (shv x) ld.out _ Tryd.underlying50 rfl info_shape ?_)
  refine (FI.out _).mono ?_
  rintro e w1 ⟨rfl, k1⟩
  have G1 := hide (H.out.keep k1 (fun hx => hx))
  have K1 := hide k1
  clear k1
  go_wp2_with fail
  refine (HG.out _ G1.out).mono ?_
  rintro e w2 ⟨rfl, hw⟩
  subst w2
  go_wp2_with fail
  go_ret
  exact ⟨rfl, K1.out⟩
end Go.Proofs.YtbdbkjngdhcjpaaDoor
