import Derived.Test.YtiimimclbkjcbaaM11
import Derived.Test.YtiimimclbkjcbaaM13
import Derived.Test.YtiimimclbkjcbaaM12
namespace Go.Proofs.Ytiimimclbkjcbaa
open Go.RowKit
open Go.Proofs

set_option maxHeartbeats 400000 in
theorem zhas_any (l : List Bool) (hl : l.length = 9) (k : Nat) (hk : k < 9) (w : World) :
    Calls Try.prog 68 #[.agg (bv l), .int .i64 k] w fun e w' => e = .returned (.bool (l.getD k false)) ∧ Kp (fun _ => False) w w' := by
  have e : l.getD k false = l[k]'(by omega) := by simp [List.getD, show k < l.length by omega]
  rw [e]
  have HB := hide (bv_get l k (by omega))
  clear e
  generalize l[k]'(by omega) = bb at *
  go_enter Try.func68, Try.ntmps68
  go_wp2_with (refine wpList_box_row rfl 54 _ rfl (bv l) rfl ?_
               intro w1 hw1
               have K1 : Hid (Kp (fun _ => False) w w1) := by rw [hw1]; exact (Kp.refl _ _).alloc _
               have c0 : w1.cell? ⟨w.heap.size, k, none⟩ = some (.bool bb) := by rw [hw1, cell_of_row _ _ k _ _ _ (heap_alloc_new _ _)]; exact HB.out
               clear hw1)
  go_ret
  exact ⟨rfl, K1.out⟩

theorem bv9 (l : List Bool) (hl : l.length = 9) : bv l = #[.bool (l.getD 0 false), .bool (l.getD 1 false), .bool (l.getD 2 false), .bool (l.getD 3 false), .bool (l.getD 4 false), .bool (l.getD 5 false), .bool (l.getD 6 false), .bool (l.getD 7 false), .bool (l.getD 8 false)] := by
  obtain ⟨b0, b1, b2, b3, b4, b5, b6, b7, b8, e1⟩ := nine l hl
  subst e1
  rfl

set_option maxRecDepth 100000 in
set_option maxHeartbeats 1000000 in
theorem rnext_any (r : Pu.Rule) (hr : RuleOk r) (s : Int) (k : Nat) (w : World) (hs : 0 ≤ s ∧ s < r.states) (hst : r.states ≤ 9) (hk : k < 9) :
    Calls Try.prog 53 #[.agg (rulev r), .int .i64 s, .int .i64 k] w fun e w' => e = .returned (.int .i64 (nextR r s k)) ∧ Kp (fun _ => False) w w' := by
  have LB := hide (fun wx => zhas_any r.births hr.1 k hk wx)
  have LV := hide (fun wx => zhas_any r.survivals hr.2 k hk wx)
  rw [bv9 _ hr.1] at LB
  rw [bv9 _ hr.2] at LV
  have RA := hide (fun m hm => rule_at hr m hm)
  have RS := hide (rulev_states hr)
  unfold nextR
  generalize r.births.getD k false = bb at *
  generalize r.survivals.getD k false = sb at *
  by_cases h0 : s = 0
  · subst h0
    rw [if_pos rfl]
    clear LV
    cases bb
    all_goals
      go_enter Try.func53, Try.ntmps53
      go_wp2_with (refine wpList_box_row rfl 56 _ rfl (rulev r) rfl ?_
                   intro w1 hw1
                   have K1 : Hid (Kp (fun _ => False) w w1) := by rw [hw1]; exact (Kp.refl _ _).alloc _
                   have CC : Hid (∀ m, w1.cell? ⟨w.heap.size, m, none⟩ = (rulev r)[m]?) := fun m => by rw [hw1, cell_of_row _ _ m _ _ _ (heap_alloc_new _ _)]
                   have c1 := (CC.out 1).trans (RA.out 0 (by omega)).1
                   have c2 := (CC.out 2).trans (RA.out 1 (by omega)).1
                   have c3 := (CC.out 3).trans (RA.out 2 (by omega)).1
                   have c4 := (CC.out 4).trans (RA.out 3 (by omega)).1
                   have c5 := (CC.out 5).trans (RA.out 4 (by omega)).1
                   have c6 := (CC.out 6).trans (RA.out 5 (by omega)).1
                   have c7 := (CC.out 7).trans (RA.out 6 (by omega)).1
                   have c8 := (CC.out 8).trans (RA.out 7 (by omega)).1
                   have c9 := (CC.out 9).trans (RA.out 8 (by omega)).1
                   clear hw1)
      refine (LB.out _).mono ?_
      rintro e w2 ⟨rfl, k2⟩
      have K2 := hide (K1.out.trans k2)
      clear k2 c1 c2 c3 c4 c5 c6 c7 c8 c9
      go_wp2_with fail
      go_ret
      exact ⟨rfl, K2.out⟩
  · rw [if_neg h0]
    have b0 : (s == 0) = false := by simpa using h0
    clear LB
    by_cases h1 : s = 1
    · subst h1
      clear b0 h0
      cases sb
      · rw [if_neg (by simp)]
        by_cases h2 : r.states ≤ 1 + 1
        · rw [if_pos h2]
          go_enter Try.func53, Try.ntmps53
          go_wp2_with (refine wpList_box_row rfl 56 _ rfl (rulev r) rfl ?_
                       intro w1 hw1
                       have A1 : Hid (w1.heap[w.heap.size]? = some (.cells (rulev r) 56 (0, 0))) := by rw [hw1]; exact heap_alloc_new _ _
                       have K1 : Hid (Kp (fun _ => False) w w1) := by rw [hw1]; exact (Kp.refl _ _).alloc _
                       have CC : Hid (∀ m, w1.cell? ⟨w.heap.size, m, none⟩ = (rulev r)[m]?) := fun m => cell_of_row _ _ m _ _ _ A1.out
                       have c1 := (CC.out 10).trans (RA.out 0 (by omega)).2
                       have c2 := (CC.out 11).trans (RA.out 1 (by omega)).2
                       have c3 := (CC.out 12).trans (RA.out 2 (by omega)).2
                       have c4 := (CC.out 13).trans (RA.out 3 (by omega)).2
                       have c5 := (CC.out 14).trans (RA.out 4 (by omega)).2
                       have c6 := (CC.out 15).trans (RA.out 5 (by omega)).2
                       have c7 := (CC.out 16).trans (RA.out 6 (by omega)).2
                       have c8 := (CC.out 17).trans (RA.out 7 (by omega)).2
                       have c9 := (CC.out 18).trans (RA.out 8 (by omega)).2
                       clear hw1)
          refine (LV.out _).mono ?_
          rintro e w2 ⟨rfl, k2⟩
          have K2 := hide (K1.out.trans k2)
          have cs : w2.cell? ⟨w.heap.size, 19, none⟩ = some (.int .i64 r.states) := (cell_of_row _ _ 19 _ _ _ (k2.row A1.out (fun hx => hx))).trans RS.out
          clear k2 c1 c2 c3 c4 c5 c6 c7 c8 c9
          go_wp2_with fail
          go_ret
          exact ⟨rfl, K2.out⟩
        · rw [if_neg h2]
          go_enter Try.func53, Try.ntmps53
          go_wp2_with (refine wpList_box_row rfl 56 _ rfl (rulev r) rfl ?_
                       intro w1 hw1
                       have A1 : Hid (w1.heap[w.heap.size]? = some (.cells (rulev r) 56 (0, 0))) := by rw [hw1]; exact heap_alloc_new _ _
                       have K1 : Hid (Kp (fun _ => False) w w1) := by rw [hw1]; exact (Kp.refl _ _).alloc _
                       have CC : Hid (∀ m, w1.cell? ⟨w.heap.size, m, none⟩ = (rulev r)[m]?) := fun m => cell_of_row _ _ m _ _ _ A1.out
                       have c1 := (CC.out 10).trans (RA.out 0 (by omega)).2
                       have c2 := (CC.out 11).trans (RA.out 1 (by omega)).2
                       have c3 := (CC.out 12).trans (RA.out 2 (by omega)).2
                       have c4 := (CC.out 13).trans (RA.out 3 (by omega)).2
                       have c5 := (CC.out 14).trans (RA.out 4 (by omega)).2
                       have c6 := (CC.out 15).trans (RA.out 5 (by omega)).2
                       have c7 := (CC.out 16).trans (RA.out 6 (by omega)).2
                       have c8 := (CC.out 17).trans (RA.out 7 (by omega)).2
                       have c9 := (CC.out 18).trans (RA.out 8 (by omega)).2
                       clear hw1)
          refine (LV.out _).mono ?_
          rintro e w2 ⟨rfl, k2⟩
          have K2 := hide (K1.out.trans k2)
          have cs : w2.cell? ⟨w.heap.size, 19, none⟩ = some (.int .i64 r.states) := (cell_of_row _ _ 19 _ _ _ (k2.row A1.out (fun hx => hx))).trans RS.out
          clear k2 c1 c2 c3 c4 c5 c6 c7 c8 c9
          go_wp2_with fail
          go_ret
          exact ⟨rfl, K2.out⟩
      · rw [if_pos ⟨rfl, rfl⟩]
        go_enter Try.func53, Try.ntmps53
        go_wp2_with (refine wpList_box_row rfl 56 _ rfl (rulev r) rfl ?_
                     intro w1 hw1
                     have A1 : Hid (w1.heap[w.heap.size]? = some (.cells (rulev r) 56 (0, 0))) := by rw [hw1]; exact heap_alloc_new _ _
                     have K1 : Hid (Kp (fun _ => False) w w1) := by rw [hw1]; exact (Kp.refl _ _).alloc _
                     have CC : Hid (∀ m, w1.cell? ⟨w.heap.size, m, none⟩ = (rulev r)[m]?) := fun m => cell_of_row _ _ m _ _ _ A1.out
                     have c1 := (CC.out 10).trans (RA.out 0 (by omega)).2
                     have c2 := (CC.out 11).trans (RA.out 1 (by omega)).2
                     have c3 := (CC.out 12).trans (RA.out 2 (by omega)).2
                     have c4 := (CC.out 13).trans (RA.out 3 (by omega)).2
                     have c5 := (CC.out 14).trans (RA.out 4 (by omega)).2
                     have c6 := (CC.out 15).trans (RA.out 5 (by omega)).2
                     have c7 := (CC.out 16).trans (RA.out 6 (by omega)).2
                     have c8 := (CC.out 17).trans (RA.out 7 (by omega)).2
                     have c9 := (CC.out 18).trans (RA.out 8 (by omega)).2
                     clear hw1)
        refine (LV.out _).mono ?_
        rintro e w2 ⟨rfl, k2⟩
        have K2 := hide (K1.out.trans k2)
        clear k2 c1 c2 c3 c4 c5 c6 c7 c8 c9
        go_wp2_with fail
        go_ret
        exact ⟨rfl, K2.out⟩
    · rw [if_neg (by intro h; exact h1 h.1)]
      have b1 : (s == 1) = false := by simpa using h1
      clear h0 h1 LV
      by_cases h2 : r.states ≤ s + 1
      all_goals
        first | rw [if_pos h2] | rw [if_neg h2]
        go_enter Try.func53, Try.ntmps53
        go_wp2_with (refine wpList_box_row rfl 56 _ rfl (rulev r) rfl ?_
                     intro w1 hw1
                     have K1 : Hid (Kp (fun _ => False) w w1) := by rw [hw1]; exact (Kp.refl _ _).alloc _
                     have cs : w1.cell? ⟨w.heap.size, 19, none⟩ = some (.int .i64 r.states) := by rw [hw1, cell_of_row _ _ 19 _ _ _ (heap_alloc_new _ _)]; exact RS.out
                     clear hw1)
        go_ret
        exact ⟨rfl, K1.out⟩

/-- How many neighbours have the state 1: g tells of the nine cells around. -/
def onesW (around : Int) (g : Nat → Nat → Int) : Nat → Nat → Bool := fun a b => nearR around ((a : Int) - 1) ((b : Int) - 1) && (g a b == 1)
set_option maxRecDepth 100000 in
set_option maxHeartbeats 1000000 in
theorem ones_any (q : Nat) (r : Pu.Rule) (x : Pu.Shape) (age gw gh l t : Int) (S : List Int) (X Y : Int) (g : Nat → Nat → Int) (w : World) (h : GrAt w q (preOf r x age) gw gh l t S) (hr : RuleOk r) (ha : r.around = 77 ∨ r.around = 86 ∨ r.around = 72)
    (hX : -100000 ≤ X ∧ X ≤ 100000) (hY : -100000 ≤ Y ∧ Y ≤ 100000)
    (hg : ∀ (wx : World) (a b : Nat), a < 3 → b < 3 → GrAt wx q (preOf r x age) gw gh l t S → Calls Try.prog 67 #[.pointer (some ⟨q, 0, none⟩), .int .i64 (X + ((a : Int) - 1)), .int .i64 (Y + ((b : Int) - 1))] wx fun e w' => e = .returned (.bool (g a b == 1)) ∧ Kp (fun _ => False) wx w') :
    Calls Try.prog 52 #[.pointer (some ⟨q, 0, none⟩), .int .i64 X, .int .i64 Y] w fun e w' => e = .returned (.int .i64 (ones9 (onesW r.around g) 9)) ∧ Kp (fun _ => False) w w' := by
  have HG := hide hg
  have H := hide h
  have ROK := hide hr
  have LN := hide (fun (wx : World) (dx dy : Int) (h1 : -1 ≤ dx ∧ dx ≤ 1) (h2 : -1 ≤ dy ∧ dy ≤ 1) => rnear_any r dx dy wx ha h1 h2)
  have HFX := hide (fun a b (ha : a < 3) => ones9_at (onesW r.around g) a b ha)
  have HLE := hide (fun n => ones9_le (onesW r.around g) n)
  have HON : Hid (∀ a b, onesW r.around g a b = (nearR r.around ((a : Int) - 1) ((b : Int) - 1) && (g a b == 1))) := fun _ _ => rfl
  have HZ : Hid (ones9 (onesW r.around g) 0 = 0) := rfl
  generalize onesW r.around g = F at *
  clear hg h hr ha
  go_enter Try.func52, Try.ntmps52
  go_wp2
  go_loopg [7, 8] 3 (fun gc kk dd ws => ∃ b : Nat, b ≤ 3 ∧ 3 ≤ b + gc ∧ kk = .int .i64 (ones9 F (3 * b)) ∧ dd = .int .i64 ((b : Int) - 1) ∧ Kp (fun _ => False) w ws)
  case atStart => exact ⟨0, by omega, by omega, by rw [Nat.mul_zero, HZ.out]; rfl, rfl, Kp.refl _ _⟩
  case round =>
    obtain ⟨b, s1, s2, rfl, rfl, k4⟩ := hrel
    have K4 := hide k4
    clear k4
    by_cases hb : b < 3
    · have hbb : (b : Int) - 1 ≤ 1 := by omega
      go_wp2_with fail
      obtain ⟨gQ, hgQ⟩ : ∃ g, g = gk := ⟨gk, rfl⟩
      have HGQ := hide hgQ
      obtain ⟨wQ, hwQ⟩ : ∃ u, u = wr := ⟨wr, rfl⟩
      rw [← hwQ] at K4
      go_loopg [7, 9] 3 (fun gd kk dd ws => ∃ a : Nat, a ≤ 3 ∧ 3 ≤ a + gd ∧ kk = .int .i64 (ones9 F (3 * b + a)) ∧ dd = .int .i64 ((a : Int) - 1) ∧ Kp (fun _ => False) wQ ws)
      case atStart => exact ⟨0, by omega, by omega, rfl, rfl, by rw [hwQ]; exact Kp.refl _ _⟩
      case round =>
        obtain ⟨a, q1, q2, rfl, rfl, k5⟩ := hrel
        clear hgQ
        have KQ := hide k5
        have K5 := hide (K4.out.trans k5)
        have G5 := hide (H.out.keep K5.out (fun hx => hx))
        have hle := HLE.out (3 * b + a)
        clear k5
        by_cases ha : a < 3
        · have haa : (a : Int) - 1 ≤ 1 := by omega
          have ld2 := hide (fun j v => G5.out.rule ROK.out j v)
          go_wp2_with (refine wpList_load_at rfl 56 _ rfl q 0 rfl (rulev r) ld2.out _ Try.underlying56 rfl (by rw [info_rule, rulev_size ROK.out]) ?_)
          refine (LN.out _ ((a : Int) - 1) ((b : Int) - 1) (by omega) (by omega)).mono ?_
          have hon := HON.out a b
          have hfx := HFX.out a b ha
          rw [hon] at hfx
          clear hon
          have HFA := hide hfx
          clear hfx
          generalize nearR r.around ((a : Int) - 1) ((b : Int) - 1) = cb at *
          rintro e w6 ⟨rfl, k6⟩
          have KQ6 := hide (KQ.out.trans k6)
          have G6 := hide (G5.out.keep k6 (fun hx => hx))
          clear k6
          cases cb
          · have hfa := HFA.out
            rw [Bool.false_and, if_neg (by simp)] at hfa
            have HFA := hide hfa
            clear hfa
            go_wp2_with fail
            go_roundg (gk - 1)
            case measure => omega
            case rel => exact ⟨a + 1, by omega, by omega, by rw [show 3 * b + (a + 1) = 3 * b + a + 1 from rfl, HFA.out]; rfl, by first | rfl | (congr 1; omega), KQ6.out⟩
          · go_wp2_with fail
            refine (HG.out _ a b ha hb G6.out).mono ?_
            rintro e w7 ⟨rfl, k7⟩
            have KQ7 := hide (KQ6.out.trans k7)
            clear k7
            have hfa := HFA.out
            generalize (g a b == 1) = gb at *
            cases gb
            · rw [if_neg (by simp)] at hfa
              have HFA := hide hfa
              clear hfa
              go_wp2_with fail
              go_roundg (gk - 1)
              case measure => omega
              case rel => exact ⟨a + 1, by omega, by omega, by rw [show 3 * b + (a + 1) = 3 * b + a + 1 from rfl, HFA.out]; rfl, by first | rfl | (congr 1; omega), KQ7.out⟩
            · rw [if_pos (by simp)] at hfa
              have HFA := hide hfa
              clear hfa
              go_wp2_with fail
              go_roundg (gk - 1)
              case measure => omega
              case rel => exact ⟨a + 1, by omega, by omega, by rw [show 3 * b + (a + 1) = 3 * b + a + 1 from rfl, HFA.out]; go_num, by first | rfl | (congr 1; omega), KQ7.out⟩
        · have ea : a = 3 := by omega
          subst ea
          go_wp2_with fail
          go_roundg (gQ - 1)
          case measure => have := HGQ.out; omega
          case rel => exact ⟨b + 1, by omega, by have := HGQ.out; omega, rfl, by first | rfl | (congr 1; omega), K5.out⟩
    · have eb : b = 3 := by omega
      subst eb
      go_wp2_with fail
      go_ret
      exact ⟨rfl, K4.out⟩
theorem nextR_bd (r : Pu.Rule) (h2 : 2 ≤ r.states) (s : Int) (k : Nat) (hs : 0 ≤ s) : 0 ≤ nextR r s k ∧ nextR r s k < r.states := by
  unfold nextR
  split
  · split <;> omega
  · split
    · omega
    · split <;> omega
end Go.Proofs.Ytiimimclbkjcbaa
