import Derived.Test.YtbdbkjngdhcjpaaDoorM14
import Derived.Test.YtbdbkjngdhcjpaaDoorM27
import Derived.Test.YtbdbkjngdhcjpaaDoorM26
import Derived.Test.YtbdbkjngdhcjpaaDoorNc
namespace Go.Proofs.YtbdbkjngdhcjpaaDoor
open Go.RowKit
open Go.Proofs

set_option maxHeartbeats 400000 in
theorem zhas_any (l : List Bool) (hl : l.length = 9) (k : Nat) (hk : k < 9) (w : World) :
    Calls Tryd.prog 81 #[.agg (bv l), .int .i64 k] w fun e w' => e = .returned (.bool (l.getD k false)) ∧ Kp (fun _ => False) w w' := by
  have e : l.getD k false = l[k]'(by omega) := by simp [List.getD, show k < l.length by omega]
  rw [e]
  have HB := hide (bv_get l k (by omega))
  clear e
  generalize l[k]'(by omega) = bb at *
  go_enter Tryd.func81, Tryd.ntmps81
  go_wp2_with (refine wpList_box_row rfl 46 _ rfl (bv l) rfl ?_
               intro w1 hw1
               have K1 : Hid (Kp (fun _ => False) w w1) := by rw [hw1]; exact (Kp.refl _ _).alloc _
               have c0 : w1.cell? ⟨w.heap.size, k, none⟩ = some (.bool bb) := by rw [hw1, cell_of_row _ _ k _ _ _ (heap_alloc_new _ _)]; exact HB.out
               clear hw1)
  go_ret
  exact ⟨rfl, K1.out⟩

theorem bv9 (l : List Bool) (hl : l.length = 9) : bv l = #[.bool (l.getD 0 false), .bool (l.getD 1 false), .bool (l.getD 2 false), .bool (l.getD 3 false), .bool (l.getD 4 false), .bool (l.getD 5 false), .bool (l.getD 6 false), .bool (l.getD 7 false), .bool (l.getD 8 false)] := by
  obtain ⟨b0, b1, b2, b3, b4, b5, b6, b7, b8, e1⟩ := nine l hl
  subst e1
  rfl

set_option maxRecDepth 100000 in
set_option maxHeartbeats 1000000 in
theorem rnext_any (r : Pu.Rule) (hr : RuleOk r) (s : Int) (k : Nat) (w : World) (hs : 0 ≤ s ∧ s < r.states) (hst : r.states ≤ 9) (hk : k < 9) :
    Calls Tryd.prog 57 #[.agg (rulev r), .int .i64 s, .int .i64 k] w fun e w' => e = .returned (.int .i64 (nextR r s k)) ∧ Kp (fun _ => False) w w' := by
  have LB := hide (fun wx => zhas_any r.births hr.1 k hk wx)
  have LV := hide (fun wx => zhas_any r.survivals hr.2 k hk wx)
  rw [bv9 _ hr.1] at LB
  rw [bv9 _ hr.2] at LV
  have RA := hide (fun m hm => rule_at hr m hm)
  have RS := hide (rulev_states hr)
  unfold nextR
  generalize r.births.getD k false = bb at *
  generalize r.survivals.getD k false = sb at *
  by_cases h0 : s = 0
  · subst h0
    rw [if_pos rfl]
    clear LV
    cases bb
    all_goals
      go_enter Tryd.func57, Tryd.ntmps57
      go_wp2_with (refine wpList_box_row rfl 48 _ rfl (rulev r) rfl ?_
                   intro w1 hw1
                   have K1 : Hid (Kp (fun _ => False) w w1) := by rw [hw1]; exact (Kp.refl _ _).alloc _
                   have CC : Hid (∀ m, w1.cell? ⟨w.heap.size, m, none⟩ = (rulev r)[m]?) := fun m => by rw [hw1, cell_of_row _ _ m _ _ _ (heap_alloc_new _ _)]
                   have c1 := (CC.out 1).trans (RA.out 0 (by omega)).1
                   have c2 := (CC.out 2).trans (RA.out 1 (by omega)).1
                   have c3 := (CC.out 3).trans (RA.out 2 (by omega)).1
                   have c4 := (CC.out 4).trans (RA.out 3 (by omega)).1
                   have c5 := (CC.out 5).trans (RA.out 4 (by omega)).1
                   have c6 := (CC.out 6).trans (RA.out 5 (by omega)).1
                   have c7 := (CC.out 7).trans (RA.out 6 (by omega)).1
                   have c8 := (CC.out 8).trans (RA.out 7 (by omega)).1
                   have c9 := (CC.out 9).trans (RA.out 8 (by omega)).1
                   clear hw1)
      refine (LB.out _).mono ?_
      rintro e w2 ⟨rfl, k2⟩
      have K2 := hide (K1.out.trans k2)
      clear k2 c1 c2 c3 c4 c5 c6 c7 c8 c9
      go_wp2_with fail
      go_ret
      exact ⟨rfl, K2.out⟩
  · rw [if_neg h0]
    have b0 : (s == 0) = false := by simpa using h0
    clear LB
    by_cases h1 : s = 1
    · subst h1
      clear b0 h0
      cases sb
      · rw [if_neg (by simp)]
        by_cases h2 : r.states ≤ 1 + 1
        · rw [if_pos h2]
          go_enter Tryd.func57, Tryd.ntmps57
          go_wp2_with (refine wpList_box_row rfl 48 _ rfl (rulev r) rfl ?_
                       intro w1 hw1
                       have A1 : Hid (w1.heap[w.heap.size]? = some (.cells (rulev r) 48 (0, 0))) := by rw [hw1]; exact heap_alloc_new _ _
                       have K1 : Hid (Kp (fun _ => False) w w1) := by rw [hw1]; exact (Kp.refl _ _).alloc _
                       have CC : Hid (∀ m, w1.cell? ⟨w.heap.size, m, none⟩ = (rulev r)[m]?) := fun m => cell_of_row _ _ m _ _ _ A1.out
                       have c1 := (CC.out 10).trans (RA.out 0 (by omega)).2
                       have c2 := (CC.out 11).trans (RA.out 1 (by omega)).2
                       have c3 := (CC.out 12).trans (RA.out 2 (by omega)).2
                       have c4 := (CC.out 13).trans (RA.out 3 (by omega)).2
                       have c5 := (CC.out 14).trans (RA.out 4 (by omega)).2
                       have c6 := (CC.out 15).trans (RA.out 5 (by omega)).2
                       have c7 := (CC.out 16).trans (RA.out 6 (by omega)).2
                       have c8 := (CC.out 17).trans (RA.out 7 (by omega)).2
                       have c9 := (CC.out 18).trans (RA.out 8 (by omega)).2
                       clear hw1)
          refine (LV.out _).mono ?_
          rintro e w2 ⟨rfl, k2⟩
          have K2 := hide (K1.out.trans k2)
          have cs : w2.cell? ⟨w.heap.size, 19, none⟩ = some (.int .i64 r.states) := (cell_of_row _ _ 19 _ _ _ (k2.row A1.out (fun hx => hx))).trans RS.out
          clear k2 c1 c2 c3 c4 c5 c6 c7 c8 c9
          go_wp2_with fail
          go_ret
          exact ⟨rfl, K2.out⟩
        · rw [if_neg h2]
          go_enter Tryd.func57, Tryd.ntmps57
          go_wp2_with (refine wpList_box_row rfl 48 _ rfl (rulev r) rfl ?_
                       intro w1 hw1
                       have A1 : Hid (w1.heap[w.heap.size]? = some (.cells (rulev r) 48 (0, 0))) := by rw [hw1]; exact heap_alloc_new _ _
                       have K1 : Hid (Kp (fun _ => False) w w1) := by rw [hw1]; exact (Kp.refl _ _).alloc _
                       have CC : Hid (∀ m, w1.cell? ⟨w.heap.size, m, none⟩ = (rulev r)[m]?) := fun m => cell_of_row _ _ m _ _ _ A1.out
                       have c1 := (CC.out 10).trans (RA.out 0 (by omega)).2
                       have c2 := (CC.out 11).trans (RA.out 1 (by omega)).2
                       have c3 := (CC.out 12).trans (RA.out 2 (by omega)).2
                       have c4 := (CC.out 13).trans (RA.out 3 (by omega)).2
                       have c5 := (CC.out 14).trans (RA.out 4 (by omega)).2
                       have c6 := (CC.out 15).trans (RA.out 5 (by omega)).2
                       have c7 := (CC.out 16).trans (RA.out 6 (by omega)).2
                       have c8 := (CC.out 17).trans (RA.out 7 (by omega)).2
                       have c9 := (CC.out 18).trans (RA.out 8 (by omega)).2
                       clear hw1)
          refine (LV.out _).mono ?_
          rintro e w2 ⟨rfl, k2⟩
          have K2 := hide (K1.out.trans k2)
          have cs : w2.cell? ⟨w.heap.size, 19, none⟩ = some (.int .i64 r.states) := (cell_of_row _ _ 19 _ _ _ (k2.row A1.out (fun hx => hx))).trans RS.out
          clear k2 c1 c2 c3 c4 c5 c6 c7 c8 c9
          go_wp2_with fail
          go_ret
          exact ⟨rfl, K2.out⟩
      · rw [if_pos ⟨rfl, rfl⟩]
        go_enter Tryd.func57, Tryd.ntmps57
        go_wp2_with (refine wpList_box_row rfl 48 _ rfl (rulev r) rfl ?_
                     intro w1 hw1
                     have A1 : Hid (w1.heap[w.heap.size]? = some (.cells (rulev r) 48 (0, 0))) := by rw [hw1]; exact heap_alloc_new _ _
                     have K1 : Hid (Kp (fun _ => False) w w1) := by rw [hw1]; exact (Kp.refl _ _).alloc _
                     have CC : Hid (∀ m, w1.cell? ⟨w.heap.size, m, none⟩ = (rulev r)[m]?) := fun m => cell_of_row _ _ m _ _ _ A1.out
                     have c1 := (CC.out 10).trans (RA.out 0 (by omega)).2
                     have c2 := (CC.out 11).trans (RA.out 1 (by omega)).2
                     have c3 := (CC.out 12).trans (RA.out 2 (by omega)).2
                     have c4 := (CC.out 13).trans (RA.out 3 (by omega)).2
                     have c5 := (CC.out 14).trans (RA.out 4 (by omega)).2
                     have c6 := (CC.out 15).trans (RA.out 5 (by omega)).2
                     have c7 := (CC.out 16).trans (RA.out 6 (by omega)).2
                     have c8 := (CC.out 17).trans (RA.out 7 (by omega)).2
                     have c9 := (CC.out 18).trans (RA.out 8 (by omega)).2
                     clear hw1)
        refine (LV.out _).mono ?_
        rintro e w2 ⟨rfl, k2⟩
        have K2 := hide (K1.out.trans k2)
        clear k2 c1 c2 c3 c4 c5 c6 c7 c8 c9
        go_wp2_with fail
        go_ret
        exact ⟨rfl, K2.out⟩
    · rw [if_neg (by intro h; exact h1 h.1)]
      have b1 : (s == 1) = false := by simpa using h1
      clear h0 h1 LV
      by_cases h2 : r.states ≤ s + 1
      all_goals
        first | rw [if_pos h2] | rw [if_neg h2]
        go_enter Tryd.func57, Tryd.ntmps57
        go_wp2_with (refine wpList_box_row rfl 48 _ rfl (rulev r) rfl ?_
                     intro w1 hw1
                     have K1 : Hid (Kp (fun _ => False) w w1) := by rw [hw1]; exact (Kp.refl _ _).alloc _
                     have cs : w1.cell? ⟨w.heap.size, 19, none⟩ = some (.int .i64 r.states) := by rw [hw1, cell_of_row _ _ 19 _ _ _ (heap_alloc_new _ _)]; exact RS.out
                     clear hw1)
        go_ret
        exact ⟨rfl, K1.out⟩

/-- How many neighbours have the state 1: g tells of the nine cells around. -/
def onesW (around : Int) (g : Nat → Nat → Int) : Nat → Nat → Bool := fun a b => nearR around ((a : Int) - 1) ((b : Int) - 1) && (g a b == 1)
set_option maxRecDepth 100000 in
set_option maxHeartbeats 1000000 in
theorem ones_any (q : Nat) (r : Pu.Rule) (x : Pu.Shape) (age gw gh l t : Int) (S : List Int) (X Y : Int) (g : Nat → Nat → Int) (w : World) (h : GrAt w q (preOf r x age) gw gh l t S) (hr : RuleOk r) (ha : r.around = 77 ∨ r.around = 86 ∨ r.around = 72)
    (hX : -100000 ≤ X ∧ X ≤ 100000) (hY : -100000 ≤ Y ∧ Y ≤ 100000)
    (hg : ∀ (wx : World) (a b : Nat), a < 3 → b < 3 → GrAt wx q (preOf r x age) gw gh l t S → Calls Tryd.prog 80 #[.pointer (some ⟨q, 0, none⟩), .int .i64 (X + ((a : Int) - 1)), .int .i64 (Y + ((b : Int) - 1))] wx fun e w' => e = .returned (.bool (g a b == 1)) ∧ Kp (fun _ => False) wx w') :
    Calls Tryd.prog 56 #[.pointer (some ⟨q, 0, none⟩), .int .i64 X, .int .i64 Y] w fun e w' => e = .returned (.int .i64 (ones9 (onesW r.around g) 9)) ∧ Kp (fun _ => False) w w' := by
  have HG := hide hg
  have H := hide h
  have ROK := hide hr
  have LN := hide (fun (wx : World) (dx dy : Int) (h1 : -1 ≤ dx ∧ dx ≤ 1) (h2 : -1 ≤ dy ∧ dy ≤ 1) => rnear_any r dx dy wx ha h1 h2)
  have HFX := hide (fun a b (ha : a < 3) => ones9_at (onesW r.around g) a b ha)
  have HLE := hide (fun n => ones9_le (onesW r.around g) n)
  have HON : Hid (∀ a b, onesW r.around g a b = (nearR r.around ((a : Int) - 1) ((b : Int) - 1) && (g a b == 1))) := fun _ _ => rfl
  have HZ : Hid (ones9 (onesW r.around g) 0 = 0) := rfl
  generalize onesW r.around g = F at *
  clear hg h hr ha
  go_enter Tryd.func56, Tryd.ntmps56
  go_wp2
  go_loopg [7, 8] 3 (fun gc kk dd ws => ∃ b : Nat, b ≤ 3 ∧ 3 ≤ b + gc ∧ kk = .int .i64 (ones9 F (3 * b)) ∧ dd = .int .i64 ((b : Int) - 1) ∧ Kp (fun _ => False) w ws)
  case atStart => exact ⟨0, by omega, by omega, by rw [Nat.mul_zero, HZ.out]; rfl, rfl, Kp.refl _ _⟩
  case round =>
    obtain ⟨b, s1, s2, rfl, rfl, k4⟩ := hrel
    have K4 := hide k4
    clear k4
    by_cases hb : b < 3
    · have hbb : (b : Int) - 1 ≤ 1 := by omega
      go_wp2_with fail
      obtain ⟨gQ, hgQ⟩ : ∃ g, g = gk := ⟨gk, rfl⟩
      have HGQ := hide hgQ
      obtain ⟨wQ, hwQ⟩ : ∃ u, u = wr := ⟨wr, rfl⟩
      rw [← hwQ] at K4
      go_loopg [7, 9] 3 (fun gd kk dd ws => ∃ a : Nat, a ≤ 3 ∧ 3 ≤ a + gd ∧ kk = .int .i64 (ones9 F (3 * b + a)) ∧ dd = .int .i64 ((a : Int) - 1) ∧ Kp (fun _ => False) wQ ws)
      case atStart => exact ⟨0, by omega, by omega, rfl, rfl, by rw [hwQ]; exact Kp.refl _ _⟩
      case round =>
        obtain ⟨a, q1, q2, rfl, rfl, k5⟩ := hrel
        clear hgQ
        have KQ := hide k5
        have K5 := hide (K4.out.trans k5)
        have G5 := hide (H.out.keep K5.out (fun hx => hx))
        have hle := HLE.out (3 * b + a)
        clear k5
        by_cases ha : a < 3
        · have haa : (a : Int) - 1 ≤ 1 := by omega
          have ld2 := hide (fun j v => G5.out.rule ROK.out j v)
          go_wp2_with (refine wpList_load_at rfl 48 _ rfl q 0 rfl (rulev r) ld2.out _ Tryd.underlying48 rfl (by rw [info_rule, rulev_size ROK.out]) ?_)
          refine (LN.out _ ((a : Int) - 1) ((b : Int) - 1) (by omega) (by omega)).mono ?_
          have hon := HON.out a b
          have hfx := HFX.out a b ha
          rw [hon] at hfx
          clear hon
          have HFA := hide hfx
          clear hfx
          generalize nearR r.around ((a : Int) - 1) ((b : Int) - 1) = cb at *
          rintro e w6 ⟨rfl, k6⟩
          have KQ6 := hide (KQ.out.trans k6)
          have G6 := hide (G5.out.keep k6 (fun hx => hx))
          clear k6
          cases cb
          · have hfa := HFA.out
            rw [Bool.false_and, if_neg (by simp)] at hfa
            have HFA := hide hfa
            clear hfa
            go_wp2_with fail
            go_roundg (gk - 1)
            case measure => omega
            case rel => exact ⟨a + 1, by omega, by omega, by rw [show 3 * b + (a + 1) = 3 * b + a + 1 from rfl, HFA.out]; rfl, by first | rfl | (congr 1; omega), KQ6.out⟩
          · go_wp2_with fail
            refine (HG.out _ a b ha hb G6.out).mono ?_
            rintro e w7 ⟨rfl, k7⟩
            have KQ7 := hide (KQ6.out.trans k7)
            clear k7
            have hfa := HFA.out
            generalize (g a b == 1) = gb at *
            cases gb
            · rw [if_neg (by simp)] at hfa
              have HFA := hide hfa
              clear hfa
              go_wp2_with fail
              go_roundg (gk - 1)
              case measure => omega
              case rel => exact ⟨a + 1, by omega, by omega, by rw [show 3 * b + (a + 1) = 3 * b + a + 1 from rfl, HFA.out]; rfl, by first | rfl | (congr 1; omega), KQ7.out⟩
            · rw [if_pos (by simp)] at hfa
              have HFA := hide hfa
              clear hfa
              go_wp2_with fail
              go_roundg (gk - 1)
              case measure => omega
              case rel => exact ⟨a + 1, by omega, by omega, by rw [show 3 * b + (a + 1) = 3 * b + a + 1 from rfl, HFA.out]; go_num, by first | rfl | (congr 1; omega), KQ7.out⟩
        · have ea : a = 3 := by omega
          subst ea
          go_wp2_with fail
          go_roundg (gQ - 1)
          case measure => have := HGQ.out; omega
          case rel => exact ⟨b + 1, by omega, by have := HGQ.out; omega, rfl, by first | rfl | (congr 1; omega), K5.out⟩
    · have eb : b = 3 := by omega
      subst eb
      go_wp2_with fail
      go_ret
      exact ⟨rfl, K4.out⟩
theorem nextR_bd (r : Pu.Rule) (h2 : 2 ≤ r.states) (s : Int) (k : Nat) (hs : 0 ≤ s) : 0 ≤ nextR r s k ∧ nextR r s k < r.states := by
  unfold nextR
  split
  · split <;> omega
  · split
    · omega
    · split <;> omega
end Go.Proofs.YtbdbkjngdhcjpaaDoor
namespace Go.Proofs.YtbdbkjngdhcjpaaDoor
open Go.RowKit
open Go.Proofs

/-- The cells that may be live in the next generation. -/
def areaP (x : Pu.Shape) (b : Bx) : Bx :=
  if b.e = true then ⟨false, 0, 0, x.w - 1, x.h - 1⟩
  else ⟨false, if x.w = 0 then b.L - 1 else 0, if x.h = 0 then b.T - 1 else 0, if x.w = 0 then b.R + 1 else x.w - 1, if x.h = 0 then b.B + 1 else x.h - 1⟩
/-- What follows at (X, Y). -/
def valN (r : Pu.Rule) (x : Pu.Shape) (g : Gs) (X Y : Int) : Int := nextR r (getG x.w x.h g X Y) (ones9 (onesW r.around fun a b => nbG x g (X + ((a : Int) - 1)) (Y + ((b : Int) - 1))) 9)
/-- The cells of the next generation, one more. -/
def cellN (r : Pu.Rule) (x : Pu.Shape) (g : Gs) (p : Bool × Gs) (X Y : Int) : Bool × Gs :=
  if p.1 = false then p else if valN r x g X Y = 0 then p else if nearB x X Y = false then (false, p.2) else putG x.w x.h p.2 X Y (valN r x g X Y)
def rowX (r : Pu.Rule) (x : Pu.Shape) (g : Gs) (X0 Y : Int) (p : Bool × Gs) : Nat → Bool × Gs
  | 0 => p
  | k + 1 => cellN r x g (rowX r x g X0 Y p k) (X0 + k) Y
def allX (r : Pu.Rule) (x : Pu.Shape) (g : Gs) (X0 Y0 : Int) (n : Nat) (p : Bool × Gs) : Nat → Bool × Gs
  | 0 => p
  | k + 1 => rowX r x g X0 (Y0 + k) (allX r x g X0 Y0 n p k) n
def areaG (x : Pu.Shape) (g : Gs) : Bx := areaP x (liveP x.w x.h g.l g.t g.S)
/-- The next generation; false, if it finds no room. -/
def nextG (r : Pu.Rule) (x : Pu.Shape) (g : Gs) : Bool × Gs :=
  allX r x g (areaG x g).L (areaG x g).T ((areaG x g).R - (areaG x g).L + 1).toNat (true, ⟨0, 0, noS⟩) ((areaG x g).B - (areaG x g).T + 1).toNat
theorem cellN_stop {r : Pu.Rule} {x : Pu.Shape} {g : Gs} {p : Bool × Gs} (h : p.1 = false) (X Y : Int) : cellN r x g p X Y = p := by
  unfold cellN
  rw [if_pos h]
theorem rowX_stop {r : Pu.Rule} {x : Pu.Shape} {g : Gs} {X0 Y : Int} {p : Bool × Gs} {k : Nat} (h : (rowX r x g X0 Y p k).1 = false) : ∀ m : Nat, k ≤ m → rowX r x g X0 Y p m = rowX r x g X0 Y p k := by
  intro m hm
  induction m with
  | zero => have : k = 0 := by omega
            subst this; rfl
  | succ m ih =>
    by_cases e : k = m + 1
    · rw [e]
    · have := ih (by omega)
      show cellN r x g (rowX r x g X0 Y p m) _ _ = _
      rw [this]
      exact cellN_stop h _ _
theorem rowX_id {r : Pu.Rule} {x : Pu.Shape} {g : Gs} {X0 Y : Int} {p : Bool × Gs} (h : p.1 = false) (m : Nat) : rowX r x g X0 Y p m = p := rowX_stop (k := 0) h m (Nat.zero_le _)
theorem allX_stop {r : Pu.Rule} {x : Pu.Shape} {g : Gs} {X0 Y0 : Int} {n : Nat} {p : Bool × Gs} {k : Nat} (h : (allX r x g X0 Y0 n p k).1 = false) : ∀ m : Nat, k ≤ m → allX r x g X0 Y0 n p m = allX r x g X0 Y0 n p k := by
  intro m hm
  induction m with
  | zero => have : k = 0 := by omega
            subst this; rfl
  | succ m ih =>
    by_cases e : k = m + 1
    · rw [e]
    · have := ih (by omega)
      show rowX r x g X0 (Y0 + m) (allX r x g X0 Y0 n p m) n = _
      rw [this]
      exact rowX_id h _
/-- Where one cell finds no room, nothing else is put. -/
theorem allX_cut {r : Pu.Rule} {x : Pu.Shape} {g : Gs} {X0 Y0 : Int} {n : Nat} {p : Bool × Gs} {j i : Nat} (hi : i ≤ n) (h : (rowX r x g X0 (Y0 + j) (allX r x g X0 Y0 n p j) i).1 = false) (m : Nat) (hm : j < m) : allX r x g X0 Y0 n p m = rowX r x g X0 (Y0 + j) (allX r x g X0 Y0 n p j) i := by
  have e1 : allX r x g X0 Y0 n p (j + 1) = rowX r x g X0 (Y0 + j) (allX r x g X0 Y0 n p j) i := rowX_stop h n hi
  rw [← e1]
  exact allX_stop (by rw [e1]; exact h) m hm
theorem valN_bd {r : Pu.Rule} (h2 : 2 ≤ r.states) {x : Pu.Shape} {g : Gs} (ho : GsOk r.states x.w x.h g) (X Y : Int) : 0 ≤ valN r x g X Y ∧ valN r x g X Y < r.states := by
  unfold valN
  refine nextR_bd r h2 _ _ ?_
  unfold getG getP
  split
  · omega
  · exact (ho.st _).1
theorem cellN_ok {r : Pu.Rule} (h2 : 2 ≤ r.states) {x : Pu.Shape} (hx : Pu.ShapeOk x) {g : Gs} (ho : GsOk r.states x.w x.h g) {p : Bool × Gs} (hp : GsOk r.states x.w x.h p.2) {X Y : Int} (hh : hasB x X Y = true) : GsOk r.states x.w x.h (cellN r x g p X Y).2 := by
  unfold cellN
  split
  · exact hp
  · split
    · exact hp
    · split
      · exact hp
      · rename_i h1 h2' h3
        have hs := spot_of hx hh (by simpa using h3)
        have hu := valN_bd h2 ho X Y
        by_cases hf : valN r x g X Y = 0 ∨ Fits x.w x.h p.2 X Y
        · exact (put_spec (side_of hx) hp hs hu hf).2.1
        · rw [put_fail (side_of hx) hf]
          exact hp
theorem rowX_ok {r : Pu.Rule} (h2 : 2 ≤ r.states) {x : Pu.Shape} (hx : Pu.ShapeOk x) {g : Gs} (ho : GsOk r.states x.w x.h g) {p : Bool × Gs} (hp : GsOk r.states x.w x.h p.2) {X0 Y : Int} : ∀ k : Nat, (∀ i : Nat, i < k → hasB x (X0 + i) Y = true) → GsOk r.states x.w x.h (rowX r x g X0 Y p k).2 := by
  intro k
  induction k with
  | zero => intro _; exact hp
  | succ k ih =>
    intro hh
    exact cellN_ok h2 hx ho (ih fun i hi => hh i (by omega)) (hh k (by omega))
theorem allX_ok {r : Pu.Rule} (h2 : 2 ≤ r.states) {x : Pu.Shape} (hx : Pu.ShapeOk x) {g : Gs} (ho : GsOk r.states x.w x.h g) {p : Bool × Gs} (hp : GsOk r.states x.w x.h p.2) {X0 Y0 : Int} {n : Nat} : ∀ k : Nat, (∀ i j : Nat, i < n → j < k → hasB x (X0 + i) (Y0 + j) = true) → GsOk r.states x.w x.h (allX r x g X0 Y0 n p k).2 := by
  intro k
  induction k with
  | zero => intro _; exact hp
  | succ k ih =>
    intro hh
    exact rowX_ok h2 hx ho (ih fun i j hi hj => hh i j hi (by omega)) n (fun i hi => hh i k hi (by omega))
/-- The area's edges, and that its cells are cells of the shape. -/
theorem area_bd {c : Int} {x : Pu.Shape} (hx : Pu.ShapeOk x) {g : Gs} (ho : GsOk c x.w x.h g) :
    (-10000 ≤ (areaG x g).L ∧ (areaG x g).L ≤ 10000) ∧ (-10000 ≤ (areaG x g).T ∧ (areaG x g).T ≤ 10000) ∧ (-10000 ≤ (areaG x g).R ∧ (areaG x g).R ≤ 10000) ∧ (-10000 ≤ (areaG x g).B ∧ (areaG x g).B ≤ 10000) := by
  have ed := edges_live (gw := x.w) (gh := x.h) (l := g.l) (t := g.t) g.S (PX := fun X => -9999 ≤ X ∧ X ≤ 9999) (PY := fun Y => -9999 ≤ Y ∧ Y ≤ 9999) (fun X Y hg => ho.live X Y hg)
  have w0 := hx.w0
  have w12 := hx.w12
  have h0 := hx.h0
  have h12 := hx.h12
  unfold areaG areaP
  generalize liveP x.w x.h g.l g.t g.S = b at *
  by_cases e : b.e = true
  · rw [if_pos e]
    simp only
    omega
  · rw [if_neg e]
    obtain ⟨e1, e2, e3, e4⟩ := ed.resolve_left e
    simp only
    refine ⟨⟨?_, ?_⟩, ⟨?_, ?_⟩, ⟨?_, ?_⟩, ?_, ?_⟩ <;> split <;> omega
theorem area_has {x : Pu.Shape} (hx : Pu.ShapeOk x) (g : Gs) {X Y : Int} (h1 : (areaG x g).L ≤ X ∧ X ≤ (areaG x g).R) (h2 : (areaG x g).T ≤ Y ∧ Y ≤ (areaG x g).B) : hasB x X Y = true := by
  have w0 := hx.w0
  have h0 := hx.h0
  unfold hasB onSideB
  unfold areaG areaP at h1 h2
  generalize liveP x.w x.h g.l g.t g.S = b at *
  rw [Bool.and_eq_true, decide_eq_true_iff, decide_eq_true_iff]
  by_cases e : b.e = true
  · rw [if_pos e] at h1 h2
    simp only at h1 h2
    omega
  · rw [if_neg e] at h1 h2
    simp only at h1 h2
    constructor
    · by_cases z : x.w = 0
      · exact Or.inl z
      · rw [if_neg z, if_neg z] at h1
        right; omega
    · by_cases z : x.h = 0
      · exact Or.inl z
      · rw [if_neg z, if_neg z] at h2
        right; omega
theorem empty_ok {c : Int} (hc : 0 < c) {x : Pu.Shape} (hx : Pu.ShapeOk x) : GsOk c x.w x.h ⟨0, 0, noS⟩ := (gs_empty hc (side_of hx) noS noS_len noS_zero).1
theorem nextG_ok {r : Pu.Rule} (h2 : 2 ≤ r.states) {x : Pu.Shape} (hx : Pu.ShapeOk x) {g : Gs} (ho : GsOk r.states x.w x.h g) : GsOk r.states x.w x.h (nextG r x g).2 :=
  allX_ok h2 hx ho (p := (true, ⟨0, 0, noS⟩)) (empty_ok (by omega) hx) _ (fun i j hi hj => area_has hx g (by omega) (by omega))
/-- n generations; false, if one of them finds no room. -/
def stepG (r : Pu.Rule) (x : Pu.Shape) (g : Gs) : Nat → Bool × Gs
  | 0 => (true, g)
  | n + 1 => if (stepG r x g n).1 = false then stepG r x g n else nextG r x (stepG r x g n).2
theorem stepG_stop {r : Pu.Rule} {x : Pu.Shape} {g : Gs} {k : Nat} (h : (stepG r x g k).1 = false) : ∀ m : Nat, k ≤ m → stepG r x g m = stepG r x g k := by
  intro m hm
  induction m with
  | zero => have : k = 0 := by omega
            subst this; rfl
  | succ m ih =>
    by_cases e : k = m + 1
    · rw [e]
    · have := ih (by omega)
      show (if (stepG r x g m).1 = false then stepG r x g m else _) = _
      rw [if_pos (by rw [this]; exact h), this]
theorem stepG_ok {r : Pu.Rule} (h2 : 2 ≤ r.states) {x : Pu.Shape} (hx : Pu.ShapeOk x) {g : Gs} (ho : GsOk r.states x.w x.h g) : ∀ n : Nat, GsOk r.states x.w x.h (stepG r x g n).2 := by
  intro n
  induction n with
  | zero => exact ho
  | succ n ih =>
    unfold stepG
    split
    · exact ih
    · exact nextG_ok h2 hx ih
end Go.Proofs.YtbdbkjngdhcjpaaDoor
