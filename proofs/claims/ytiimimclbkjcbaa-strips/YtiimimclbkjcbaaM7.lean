import Derived.Test.YtiimimclbkjcbaaM6
import Derived.Test.YtiimimclbkjcbaaHa
namespace Go.Proofs.Ytiimimclbkjcbaa
open Go.RowKit
open Go.Proofs

theorem runsv_get : ∀ (acc : List Pu.Run) (i j : Nat) (h : i < acc.length), j < 3 → (runsv acc)[3 * i + j]? = (runv acc[i])[j]? := by
  intro acc
  induction acc with
  | nil => intro i j h; simp at h
  | cons r rs ih =>
    intro i j h hj
    have hr : (runv r).toList.length = 3 := rfl
    unfold runsv
    cases i with
    | zero =>
      rw [List.getElem?_append_left (by rw [hr]; omega)]
      simp
    | succ i =>
      rw [List.getElem?_append_right (by rw [hr]; omega), hr, show 3 * (i + 1) + j - 3 = 3 * i + j by omega]
      simp only [List.length_cons] at h
      exact ih i j (by omega) hj

/-- The runs' own row. -/
structure RunsAt (w : World) (g cap : Nat) (acc : List Pu.Run) : Prop where
  row : ∃ cur, w.heap[g]? = some (.cells cur 94 (0, 0)) ∧ cur.toList.take (acc.length * 3) = runsv acc
theorem RunsAt.cell {w : World} {g cap : Nat} {acc : List Pu.Run} (h : RunsAt w g cap acc) (i : Nat) (hi : i < acc.length) (j : Nat) (v : Value) (hv : (runv acc[i])[j]? = some v) : w.cell? ⟨g, i * 3 + j, none⟩ = some v := by
  rw [Nat.mul_comm i 3]
  obtain ⟨cur, hr, ht⟩ := h.row
  have hj : j < 3 := by
    rcases Nat.lt_or_ge j 3 with h3 | h3
    · exact h3
    · rw [Array.getElem?_eq_none (by show 3 ≤ j; exact h3)] at hv; simp at hv
  rw [cell_of_row w g _ _ _ _ hr]
  have h1 := runsv_get acc i j hi hj
  rw [hv, ← ht, List.getElem?_take, if_pos (by omega)] at h1
  simpa using h1
theorem RunsAt.keep {T : Nat → Prop} {w w' : World} {g cap : Nat} {acc : List Pu.Run} (h : RunsAt w g cap acc) (k : Kp T w w') (hn : ¬ T g) : RunsAt w' g cap acc := by
  obtain ⟨cur, hr, ht⟩ := h.row
  exact ⟨cur, k.row hr hn, ht⟩

set_option maxRecDepth 100000 in
set_option maxHeartbeats 400000 in
theorem lay_nil (q : Nat) (r : Pu.Rule) (x : Pu.Shape) (age col row l t : Int) (S : List Int) (w : World) (h : GrAt w q (preOf r x age) x.w x.h l t S) (hr : RuleOk r) (l0 : -20000 ≤ l ∧ l ≤ 20000) (t0 : -20000 ≤ t ∧ t ≤ 20000) :
    Calls Try.prog 44 #[.pointer (some ⟨q, 0, none⟩), .agg (ptv r x age col row (.slice none 0 0))] w fun e w' => BoolRet e ∧ WdW w' q r x age 3000000 ∧ Kp (· = q) w w' := by
  have H := hide h
  have HR := hide hr
  clear h hr
  go_enter Try.func44, Try.ntmps44
  go_wp2_with (refine wpList_box_row rfl 76 _ rfl (ptv r x age col row (.slice none 0 0)) rfl ?_
               intro w1 hw1
               have P1 : Hid (PtAt w1 w.heap.size r x age col row (.slice none 0 0)) := ⟨by rw [hw1]; exact heap_alloc_new _ _, HR.out⟩
               have G1 : Hid (GrAt w1 q (preOf r x age) x.w x.h l t S) := by rw [hw1]; exact H.out.alloc _
               have K1 : Hid (Kp (· = q) w w1) := by rw [hw1]; exact (Kp.refl _ _).alloc _
               have c1 : w1.cell? ⟨w.heap.size, 28, none⟩ = some (.int .i64 col) := P1.out.cell 1
               have c2 : w1.cell? ⟨w.heap.size, 29, none⟩ = some (.int .i64 row) := P1.out.cell 2
               have c3 : w1.cell? ⟨w.heap.size, 30, none⟩ = some (.slice none 0 0) := P1.out.cell 3
               clear hw1)
  go_loopg [5, 6, 7] 0 (fun gk a b i wr => a = .int .i64 col ∧ b = .int .i64 row ∧ i = .int .i64 0 ∧ wr = w1)
  case atStart => exact ⟨rfl, rfl, rfl, rfl⟩
  case round =>
    obtain ⟨rfl, rfl, rfl, rfl⟩ := hrel
    go_wp2_with fail
    go_ret
    exact ⟨bool_ret true, WdW.mk' G1.out (by omega) (by omega), K1.out⟩

set_option maxRecDepth 100000 in
set_option maxHeartbeats 400000 in
theorem lay_some (q g cap : Nat) (r : Pu.Rule) (x : Pu.Shape) (age col row l t : Int) (S : List Int) (acc : List Pu.Run) (w : World) (h : GrAt w q (preOf r x age) x.w x.h l t S) (hr : RuleOk r) (hx : Pu.ShapeOk x) (l0 : -20000 ≤ l ∧ l ≤ 20000) (t0 : -20000 ≤ t ∧ t ≤ 20000)
    (ha : RunsAt w g cap acc) (hgq : g ≠ q) (hlen : acc.length ≤ 401) (hok : ∀ rn, rn ∈ acc → 1 ≤ rn.count ∧ rn.count ≤ 99) (hc : -9999 ≤ col ∧ col ≤ 9999) (hw : -9999 ≤ row ∧ row ≤ 9999) :
    Calls Try.prog 44 #[.pointer (some ⟨q, 0, none⟩), .agg (ptv r x age col row (.slice (some ⟨g, 0, none⟩) acc.length cap))] w fun e w' => BoolRet e ∧ WdW w' q r x age 3000000 ∧ Kp (· = q) w w' := by
  have hq := h.lt
  have hgl : g < w.heap.size := by
    obtain ⟨cur, hr1, _⟩ := ha.row
    exact (Array.getElem?_eq_some_iff.1 hr1).1
  have H := hide h
  have HR := hide hr
  have HX := hide hx
  have HA := hide ha
  have HOK := hide hok
  clear h hr hx ha hok
  go_enter Try.func44, Try.ntmps44
  go_wp2_with (refine wpList_box_row rfl 76 _ rfl (ptv r x age col row (.slice (some ⟨g, 0, none⟩) acc.length cap)) rfl ?_
               intro w1 hw1
               have P1 : Hid (PtAt w1 w.heap.size r x age col row (.slice (some ⟨g, 0, none⟩) acc.length cap)) := ⟨by rw [hw1]; exact heap_alloc_new _ _, HR.out⟩
               have G1 : Hid (GrAt w1 q (preOf r x age) x.w x.h l t S) := by rw [hw1]; exact H.out.alloc _
               have K1 : Hid (Kp (· = q) w w1) := by rw [hw1]; exact (Kp.refl _ _).alloc _
               have A1 : Hid (RunsAt w1 g cap acc) := by rw [hw1]; exact HA.out.keep ((Kp.refl (fun _ => False) w).alloc _) (fun hx => hx)
               have c1 : w1.cell? ⟨w.heap.size, 28, none⟩ = some (.int .i64 col) := P1.out.cell 1
               have c2 : w1.cell? ⟨w.heap.size, 29, none⟩ = some (.int .i64 row) := P1.out.cell 2
               clear hw1)
  go_loopg [5, 6, 7] acc.length (fun gk a b i wr => ∃ (k : Nat) (a' b' : Int), k ≤ acc.length ∧ acc.length ≤ k + gk ∧ a = .int .i64 a' ∧ b = .int .i64 b' ∧ i = .int .i64 k ∧ (-(9999 + 99 * k) ≤ a' ∧ a' ≤ 9999 + 99 * k) ∧ (-(9999 + 99 * k) ≤ b' ∧ b' ≤ 9999 + 99 * k) ∧
    WdW wr q r x age (20000 + 6400 * k) ∧ PtAt wr w.heap.size r x age col row (.slice (some ⟨g, 0, none⟩) acc.length cap) ∧ RunsAt wr g cap acc ∧ Kp (· = q) w wr)
  case atStart => exact ⟨0, col, row, by omega, by omega, rfl, rfl, rfl, by omega, by omega, WdW.mk' G1.out (by omega) (by omega), P1.out, A1.out, K1.out⟩
  case round =>
    obtain ⟨k, a', b', g1, g2, rfl, rfl, rfl, g3, g4, g5, g6, g7, g8⟩ := hrel
    clear c1 c2
    have c1 : wr.cell? ⟨w.heap.size, 28, none⟩ = some (.int .i64 col) := g6.cell 1
    have c3 : wr.cell? ⟨w.heap.size, 30, none⟩ = some (.slice (some ⟨g, 0, none⟩) acc.length cap) := g6.cell 3
    have G5 := hide g5
    have G6 := hide g6
    have G7 := hide g7
    have G8 := hide g8
    clear g5 g6 g7 g8
    by_cases hlt : k < acc.length
    · have rk := HOK.out acc[k] (List.getElem_mem hlt)
      have ldr := hide (fun j v => G7.out.cell k hlt j v)
      generalize acc[k] = rn at *
      have HD : Hid ((runv rn)[2]? = some (.bool rn.down)) := rfl
      generalize rn.down = dn at HD
      cases dn
      · go_wp2_with (first
          | (refine wpList_load_at rfl 94 _ rfl g (k * 3) rfl (runv rn) ldr.out _ Try.underlying94 rfl info_run ?_)
          | (refine wpList_store_row_g rfl 94 _ _ rfl wr.heap.size (runv rn) rfl rfl 94 (runv ⟨0, 0, false⟩) (heap_alloc_new _ _) info_run rfl (runv_one _) ?_
             intro w2 hw2
             have KK : Kp (fun _ => False) wr w2 := by rw [hw2]; exact ((Kp.refl _ _).alloc _).setRowNew (Nat.le_refl _) _
             have E2 : Hid (w2.heap[wr.heap.size]? = some (.cells (runv rn) 94 (0, 0))) := by rw [hw2]; exact setRow_heap _ _ _ _ _ _ (heap_alloc_new _ _)
             have P2 := hide (G6.out.keep KK (fun hx => hx))
             have A2 := hide (G7.out.keep KK (fun hx => hx))
             have K2 := hide (G8.out.trans (KK.mono (T := (· = q)) (fun _ hx => hx.elim)))
             have W2 : Hid (WdW w2 q r x age (20000 + 6400 * k)) := by
               obtain ⟨l', t', S', h1, h2, h3⟩ := G5.out
               exact WdW.mk' (h1.keep KK (fun hx => hx)) h2 h3
             have e0 : w2.cell? ⟨wr.heap.size, 0, none⟩ = some (.int .i64 rn.count) := cell_of_row _ _ 0 _ _ _ E2.out
             have e1 : w2.cell? ⟨wr.heap.size, 1, none⟩ = some (.int .i64 rn.state) := cell_of_row _ _ 1 _ _ _ E2.out
             have e2 : w2.cell? ⟨wr.heap.size, 2, none⟩ = some (.bool false) := (cell_of_row _ _ 2 _ _ _ E2.out).trans HD.out
             have c4 : w2.cell? ⟨w.heap.size, 28, none⟩ = some (.int .i64 col) := P2.out.cell 1
             clear hw2 KK))
        obtain ⟨l', t', S', h1, h2, h3⟩ := W2.out
        have hqw : q < w2.heap.size := h1.lt
        refine (layRun_any q r x age l' t' S' (20000 + 6400 * k) a' b' ⟨rn.count, rn.state, false⟩ _ h1 HR.out HX.out rk h2 h3 (by omega) (by omega) (by omega) (by omega)).mono ?_
        rintro e w3 ⟨⟨y, rfl⟩, w3w, k3⟩
        have P3 := hide (P2.out.keep k3 (by omega))
        have A3 := hide (A2.out.keep k3 hgq)
        have K3 := hide (K2.out.trans k3)
        have W3 := hide w3w
        have e0' : w3.cell? ⟨wr.heap.size, 0, none⟩ = some (.int .i64 rn.count) := cell_of_row _ _ 0 _ _ _ (k3.row E2.out (by have := hq; have := G8.out.size; omega))
        clear k3 w3w h1 e0 e1 e2
        cases y
        · go_wp2_with fail
          go_ret
          obtain ⟨l2, t2, S2, j1, j2, j3⟩ := W3.out
          exact ⟨bool_ret false, WdW.mk' j1 (by omega) (by omega), K3.out⟩
        · go_wp2_with fail
          go_roundg (gk - 1)
          case measure => omega
          case rel =>
            obtain ⟨l2, t2, S2, j1, j2, j3⟩ := W3.out
            exact ⟨k + 1, a' + rn.count, b', by omega, by omega, by go_num, rfl, by go_num, by omega, by omega, WdW.mk' j1 (by omega) (by omega), P3.out, A3.out, K3.out⟩
      · go_wp2_with (first
          | (refine wpList_load_at rfl 94 _ rfl g (k * 3) rfl (runv rn) ldr.out _ Try.underlying94 rfl info_run ?_)
          | (refine wpList_store_row_g rfl 94 _ _ rfl wr.heap.size (runv rn) rfl rfl 94 (runv ⟨0, 0, false⟩) (heap_alloc_new _ _) info_run rfl (runv_one _) ?_
             intro w2 hw2
             have KK : Kp (fun _ => False) wr w2 := by rw [hw2]; exact ((Kp.refl _ _).alloc _).setRowNew (Nat.le_refl _) _
             have E2 : Hid (w2.heap[wr.heap.size]? = some (.cells (runv rn) 94 (0, 0))) := by rw [hw2]; exact setRow_heap _ _ _ _ _ _ (heap_alloc_new _ _)
             have P2 := hide (G6.out.keep KK (fun hx => hx))
             have A2 := hide (G7.out.keep KK (fun hx => hx))
             have K2 := hide (G8.out.trans (KK.mono (T := (· = q)) (fun _ hx => hx.elim)))
             have W2 : Hid (WdW w2 q r x age (20000 + 6400 * k)) := by
               obtain ⟨l', t', S', h1, h2, h3⟩ := G5.out
               exact WdW.mk' (h1.keep KK (fun hx => hx)) h2 h3
             have e0 : w2.cell? ⟨wr.heap.size, 0, none⟩ = some (.int .i64 rn.count) := cell_of_row _ _ 0 _ _ _ E2.out
             have e1 : w2.cell? ⟨wr.heap.size, 1, none⟩ = some (.int .i64 rn.state) := cell_of_row _ _ 1 _ _ _ E2.out
             have e2 : w2.cell? ⟨wr.heap.size, 2, none⟩ = some (.bool true) := (cell_of_row _ _ 2 _ _ _ E2.out).trans HD.out
             have c4 : w2.cell? ⟨w.heap.size, 28, none⟩ = some (.int .i64 col) := P2.out.cell 1
             clear hw2 KK))
        go_roundg (gk - 1)
        case measure => omega
        case rel =>
          obtain ⟨l2, t2, S2, j1, j2, j3⟩ := W2.out
          exact ⟨k + 1, col, b' + rn.count, by omega, by omega, rfl, by go_num, by go_num, by omega, by omega, WdW.mk' j1 (by omega) (by omega), P2.out, A2.out, K2.out⟩
    · go_wp2_with fail
      go_ret
      obtain ⟨l', t', S', h1, h2, h3⟩ := G5.out
      exact ⟨bool_ret true, WdW.mk' h1 (by omega) (by omega), G8.out⟩
end Go.Proofs.Ytiimimclbkjcbaa
namespace Go.Proofs.Ytiimimclbkjcbaa
open Go.RowKit
open Go.Proofs

set_option maxRecDepth 100000 in
set_option maxHeartbeats 400000 in
theorem lay_one (q g cap : Nat) (r : Pu.Rule) (x : Pu.Shape) (age col row n st : Int) (S : List Int) (w : World) (h : GrAt w q (preOf r x age) x.w x.h 0 0 S) (hr : RuleOk r) (hx : Two x)
    (ha : RunsAt w g cap [⟨n, st, false⟩]) (_hgq : g ≠ q) (rk : 1 ≤ n ∧ n ≤ 99) (hst : ¬ st = 0) (hc : -9999 ≤ col ∧ col ≤ 9999) (hw : -9999 ≤ row ∧ row ≤ 9999) :
    Calls Try.prog 44 #[.pointer (some ⟨q, 0, none⟩), .agg (ptv r x age col row (.slice (some ⟨g, 0, none⟩) 1 cap))] w fun e w' => e = .returned (.bool true) ∧ GrAt w' q (preOf r x age) x.w x.h 0 0 (runS x S col row st n.toNat) ∧ Kp (· = q) w w' := by
  have hq := h.lt
  have H := hide h
  have HR := hide hr
  have HX := hide hx
  have HA := hide ha
  have HST := hide hst
  clear h hr hx ha hst
  go_enter Try.func44, Try.ntmps44
  go_wp2_with (refine wpList_box_row rfl 76 _ rfl (ptv r x age col row (.slice (some ⟨g, 0, none⟩) 1 cap)) rfl ?_
               intro w1 hw1
               have P1 : Hid (PtAt w1 w.heap.size r x age col row (.slice (some ⟨g, 0, none⟩) 1 cap)) := ⟨by rw [hw1]; exact heap_alloc_new _ _, HR.out⟩
               have G1 : Hid (GrAt w1 q (preOf r x age) x.w x.h 0 0 S) := by rw [hw1]; exact H.out.alloc _
               have K1 : Hid (Kp (· = q) w w1) := by rw [hw1]; exact (Kp.refl _ _).alloc _
               have A1 : Hid (RunsAt w1 g cap [⟨n, st, false⟩]) := by rw [hw1]; exact HA.out.keep ((Kp.refl (fun _ => False) w).alloc _) (fun hx => hx)
               have c1 : w1.cell? ⟨w.heap.size, 28, none⟩ = some (.int .i64 col) := P1.out.cell 1
               have c2 : w1.cell? ⟨w.heap.size, 29, none⟩ = some (.int .i64 row) := P1.out.cell 2
               clear hw1)
  go_loopg [5, 6, 7] 1 (fun gk a b i wr => PtAt wr w.heap.size r x age col row (.slice (some ⟨g, 0, none⟩) 1 cap) ∧ Kp (· = q) w wr ∧
    ((gk = 1 ∧ a = .int .i64 col ∧ b = .int .i64 row ∧ i = .int .i64 0 ∧ GrAt wr q (preOf r x age) x.w x.h 0 0 S ∧ RunsAt wr g cap [⟨n, st, false⟩]) ∨
     (gk = 0 ∧ (∃ a' b' : Int, a = .int .i64 a' ∧ b = .int .i64 b') ∧ i = .int .i64 1 ∧ GrAt wr q (preOf r x age) x.w x.h 0 0 (runS x S col row st n.toNat))))
  case atStart => exact ⟨P1.out, K1.out, Or.inl ⟨rfl, rfl, rfl, rfl, G1.out, A1.out⟩⟩
  case round =>
    obtain ⟨g6, g8, hcase⟩ := hrel
    clear c1 c2
    have c1 : wr.cell? ⟨w.heap.size, 28, none⟩ = some (.int .i64 col) := g6.cell 1
    have c3 : wr.cell? ⟨w.heap.size, 30, none⟩ = some (.slice (some ⟨g, 0, none⟩) 1 cap) := g6.cell 3
    have G6 := hide g6
    have G8 := hide g8
    clear g6 g8
    rcases hcase with ⟨hgk, rfl, rfl, rfl, g5, g7⟩ | ⟨hgk, ⟨a', b', rfl, rfl⟩, rfl, g5⟩
    · have HGK := hide hgk
      have ldr := hide (fun j v => g7.cell 0 (by simp) j v)
      have G5 := hide g5
      clear g5 g7 hgk
      go_wp2_with (first
        | (refine wpList_load_at rfl 94 _ rfl g (0 * 3) rfl (runv ⟨n, st, false⟩) ldr.out _ Try.underlying94 rfl info_run ?_)
        | (refine wpList_store_row_g rfl 94 _ _ rfl wr.heap.size (runv ⟨n, st, false⟩) rfl rfl 94 (runv ⟨0, 0, false⟩) (heap_alloc_new _ _) info_run rfl (runv_one _) ?_
           intro w2 hw2
           have KK : Kp (fun _ => False) wr w2 := by rw [hw2]; exact ((Kp.refl _ _).alloc _).setRowNew (Nat.le_refl _) _
           have E2 : Hid (w2.heap[wr.heap.size]? = some (.cells (runv ⟨n, st, false⟩) 94 (0, 0))) := by rw [hw2]; exact setRow_heap _ _ _ _ _ _ (heap_alloc_new _ _)
           have P2 := hide (G6.out.keep KK (fun hx => hx))
           have K2 := hide (G8.out.trans (KK.mono (T := (· = q)) (fun _ hx => hx.elim)))
           have W2 := hide (G5.out.keep KK (fun hx => hx))
           have e0 : w2.cell? ⟨wr.heap.size, 0, none⟩ = some (.int .i64 n) := cell_of_row _ _ 0 _ _ _ E2.out
           have e1 : w2.cell? ⟨wr.heap.size, 1, none⟩ = some (.int .i64 st) := cell_of_row _ _ 1 _ _ _ E2.out
           have e2 : w2.cell? ⟨wr.heap.size, 2, none⟩ = some (.bool false) := cell_of_row _ _ 2 _ _ _ E2.out
           clear hw2 KK))
      refine (layRun_in q r x age S col row n st false _ W2.out HR.out HX.out rk HST.out (by omega) (by omega)).mono ?_
      rintro e w3 ⟨rfl, w3w, k3⟩
      have P3 := hide (P2.out.keep k3 (by omega))
      have K3 := hide (K2.out.trans k3)
      have W3 := hide w3w
      have e0' : w3.cell? ⟨wr.heap.size, 0, none⟩ = some (.int .i64 n) := cell_of_row _ _ 0 _ _ _ (k3.row E2.out (by have := hq; have := G8.out.size; omega))
      clear k3 w3w e0 e1 e2
      go_wp2_with fail
      go_roundg 0
      case measure => have := HGK.out; omega
      case rel => exact ⟨P3.out, K3.out, Or.inr ⟨rfl, ⟨_, _, rfl, rfl⟩, rfl, W3.out⟩⟩
    · have G5 := hide g5
      clear g5 hgk
      go_wp2_with fail
      go_ret
      exact ⟨rfl, G5.out, G8.out⟩
end Go.Proofs.Ytiimimclbkjcbaa
