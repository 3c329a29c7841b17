import Derived.Test.YtiimimclbkjcbaaHa
import Derived.Test.YtiimimclbkjcbaaGi
namespace Go.Proofs.Ytiimimclbkjcbaa
open Go.RowKit
open Go.Proofs

set_option maxRecDepth 100000 in
set_option maxHeartbeats 400000 in
theorem lay_one (q g cap : Nat) (r : Pu.Rule) (x : Pu.Shape) (age col row n st : Int) (S : List Int) (w : World) (h : GrAt w q (preOf r x age) x.w x.h 0 0 S) (hr : RuleOk r) (hx : Two x)
    (ha : RunsAt w g cap [⟨n, st, false⟩]) (_hgq : g ≠ q) (rk : 1 ≤ n ∧ n ≤ 99) (hst : ¬ st = 0) (hc : -9999 ≤ col ∧ col ≤ 9999) (hw : -9999 ≤ row ∧ row ≤ 9999) :
    Calls Try.prog 44 #[.pointer (some ⟨q, 0, none⟩), .agg (ptv r x age col row (.slice (some ⟨g, 0, none⟩) 1 cap))] w fun e w' => e = .returned (.bool true) ∧ GrAt w' q (preOf r x age) x.w x.h 0 0 (runS x S col row st n.toNat) ∧ Kp (· = q) w w' := by
  have hq := h.lt
  have H := hide h
  have HR := hide hr
  have HX := hide hx
  have HA := hide ha
  have HST := hide hst
  clear h hr hx ha hst
  go_enter Try.func44, Try.ntmps44
  go_wp2_with (refine wpList_box_row rfl 76 _ rfl (ptv r x age col row (.slice (some ⟨g, 0, none⟩) 1 cap)) rfl ?_
               intro w1 hw1
               have P1 : Hid (PtAt w1 w.heap.size r x age col row (.slice (some ⟨g, 0, none⟩) 1 cap)) := ⟨by rw [hw1]; exact heap_alloc_new _ _, HR.out⟩
               have G1 : Hid (GrAt w1 q (preOf r x age) x.w x.h 0 0 S) := by rw [hw1]; exact H.out.alloc _
               have K1 : Hid (Kp (· = q) w w1) := by rw [hw1]; exact (Kp.refl _ _).alloc _
               have A1 : Hid (RunsAt w1 g cap [⟨n, st, false⟩]) := by rw [hw1]; exact HA.out.keep ((Kp.refl (fun _ => False) w).alloc _) (fun hx => hx)
               have c1 : w1.cell? ⟨w.heap.size, 28, none⟩ = some (.int .i64 col) := P1.out.cell 1
               have c2 : w1.cell? ⟨w.heap.size, 29, none⟩ = some (.int .i64 row) := P1.out.cell 2
               clear hw1)
  go_loopg [5, 6, 7] 1 (fun gk a b i wr => PtAt wr w.heap.size r x age col row (.slice (some ⟨g, 0, none⟩) 1 cap) ∧ Kp (· = q) w wr ∧
    ((gk = 1 ∧ a = .int .i64 col ∧ b = .int .i64 row ∧ i = .int .i64 0 ∧ GrAt wr q (preOf r x age) x.w x.h 0 0 S ∧ RunsAt wr g cap [⟨n, st, false⟩]) ∨
     (gk = 0 ∧ (∃ a' b' : Int, a = .int .i64 a' ∧ b = .int .i64 b') ∧ i = .int .i64 1 ∧ GrAt wr q (preOf r x age) x.w x.h 0 0 (runS x S col row st n.toNat))))
  case atStart => exact ⟨P1.out, K1.out, Or.inl ⟨rfl, rfl, rfl, rfl, G1.out, A1.out⟩⟩
  case round =>
    obtain ⟨g6, g8, hcase⟩ := hrel
    clear c1 c2
    have c1 : wr.cell? ⟨w.heap.size, 28, none⟩ = some (.int .i64 col) := g6.cell 1
    have c3 : wr.cell? ⟨w.heap.size, 30, none⟩ = some (.slice (some ⟨g, 0, none⟩) 1 cap) := g6.cell 3
    have G6 := hide g6
    have G8 := hide g8
    clear g6 g8
    rcases hcase with ⟨hgk, rfl, rfl, rfl, g5, g7⟩ | ⟨hgk, ⟨a', b', rfl, rfl⟩, rfl, g5⟩
    · have HGK := hide hgk
      have ldr := hide (fun j v => g7.cell 0 (by simp) j v)
      have G5 := hide g5
      clear g5 g7 hgk
      go_wp2_with (first
        | (refine wpList_load_at rfl 94 _ rfl g (0 * 3) rfl (runv ⟨n, st, false⟩) ldr.out _ Try.underlying94 rfl info_run ?_)
        | (refine wpList_store_row_g rfl 94 _ _ rfl wr.heap.size (runv ⟨n, st, false⟩) rfl rfl 94 (runv ⟨0, 0, false⟩) (heap_alloc_new _ _) info_run rfl (runv_one _) ?_
           intro w2 hw2
           have KK : Kp (fun _ => False) wr w2 := by rw [hw2]; exact ((Kp.refl _ _).alloc _).setRowNew (Nat.le_refl _) _
           have E2 : Hid (w2.heap[wr.heap.size]? = some (.cells (runv ⟨n, st, false⟩) 94 (0, 0))) := by rw [hw2]; exact setRow_heap _ _ _ _ _ _ (heap_alloc_new _ _)
           have P2 := hide (G6.out.keep KK (fun hx => hx))
           have K2 := hide (G8.out.trans (KK.mono (T := (· = q)) (fun _ hx => hx.elim)))
           have W2 := hide (G5.out.keep KK (fun hx => hx))
           have e0 : w2.cell? ⟨wr.heap.size, 0, none⟩ = some (.int .i64 n) := cell_of_row _ _ 0 _ _ _ E2.out
           have e1 : w2.cell? ⟨wr.heap.size, 1, none⟩ = some (.int .i64 st) := cell_of_row _ _ 1 _ _ _ E2.out
           have e2 : w2.cell? ⟨wr.heap.size, 2, none⟩ = some (.bool false) := cell_of_row _ _ 2 _ _ _ E2.out
           clear hw2 KK))
      refine (layRun_in q r x age S col row n st false _ W2.out HR.out HX.out rk HST.out (by omega) (by omega)).mono ?_
      rintro e w3 ⟨rfl, w3w, k3⟩
      have P3 := hide (P2.out.keep k3 (by omega))
      have K3 := hide (K2.out.trans k3)
      have W3 := hide w3w
      have e0' : w3.cell? ⟨wr.heap.size, 0, none⟩ = some (.int .i64 n) := cell_of_row _ _ 0 _ _ _ (k3.row E2.out (by have := hq; have := G8.out.size; omega))
      clear k3 w3w e0 e1 e2
      go_wp2_with fail
      go_roundg 0
      case measure => have := HGK.out; omega
      case rel => exact ⟨P3.out, K3.out, Or.inr ⟨rfl, ⟨_, _, rfl, rfl⟩, rfl, W3.out⟩⟩
    · have G5 := hide g5
      clear g5 hgk
      go_wp2_with fail
      go_ret
      exact ⟨rfl, G5.out, G8.out⟩
end Go.Proofs.Ytiimimclbkjcbaa
