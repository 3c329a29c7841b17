import Derived.Test.YtiimimclbkjcbaaM9
import Derived.Test.YtiimimclbkjcbaaM17
import Derived.Deep.CutRange
namespace Go.Proofs.Ytiimimclbkjcbaa
open Go.RowKit
open Go.Proofs

theorem alloc_size (w : World) (o : Obj) : (w.alloc o).heap.size = w.heap.size + 1 := Array.size_push o
structure Wish where
  near : Int
  births : Int
  lives : Int
  states : Int
  kind : Int
  w : Int
  h : Int
  shift : Int
  cells : ByteArray
def wishv (v : Wish) : Array Value := #[.int .i64 v.near, .int .i64 v.births, .int .i64 v.lives, .int .i64 v.states, .int .i64 v.kind, .int .i64 v.w, .int .i64 v.h, .int .i64 v.shift, .string v.cells]
def i64 (a : Int) : Prop := -9223372036854775808 ≤ a ∧ a ≤ 9223372036854775807
structure WishOk (v : Wish) : Prop where
  near : i64 v.near
  births : i64 v.births
  lives : i64 v.lives
  states : i64 v.states
  kind : i64 v.kind
  w : i64 v.w
  h : i64 v.h
  shift : i64 v.shift
  cells : v.cells.size ≤ maxLen
structure WsAt (w : World) (g : Nat) (v : Wish) : Prop where
  row : w.heap[g]? = some (.cells (wishv v) 32 (0, 0))
theorem WsAt.keep {T : Nat → Prop} {w w' : World} {g : Nat} {v : Wish} (h : WsAt w g v) (k : Kp T w w') (hn : ¬ T g) : WsAt w' g v := ⟨k.row h.row hn⟩
theorem WsAt.cell {w : World} {g : Nat} {v : Wish} (h : WsAt w g v) (m : Nat) : w.cell? ⟨g, m, none⟩ = (wishv v)[m]? := cell_of_row _ _ _ _ _ _ h.row
def zp : Pu.Plan := ⟨0, 0, 0, 0, 0, 0, 0, 0, 0, false, false⟩
theorem info_plan : (Try.prog.info? 34).map (·.size) = some 11 := by kernel_rfl
theorem zero_plan : (Try.prog.info? 34).map (·.zero) = some (some (.agg (planv zp))) := by kernel_rfl
theorem planv_one (p : Pu.Plan) : (planv p).all (·.oneCell') = true := by simp [planv, Value.oneCell']
theorem info_wish : (Try.prog.info? 32).map (·.size) = some 9 := by kernel_rfl
theorem build_plan (nr : Int) : Try.prog.built 34 [(0, .int .u8 nr)] = some (planv { zp with near := nr }) := by kernel_rfl
theorem most_any (nr : Int) (w : World) : Calls Try.prog 28 #[.int .u8 nr] w fun e w' => e = .returned (.int .i64 (Pu.mostOf nr)) ∧ w' = w := by
  unfold Pu.mostOf
  by_cases h1 : nr = 86
  · subst h1
    go_enter Try.func28, Try.ntmps28
    go_wp2
    go_ret
    exact ⟨rfl, rfl⟩
  · have b1 : (nr == 86) = false := by simpa using h1
    rw [if_neg h1]
    by_cases h2 : nr = 72
    · subst h2
      go_enter Try.func28, Try.ntmps28
      go_wp2
      go_ret
      exact ⟨rfl, rfl⟩
    · have b2 : (nr == 72) = false := by simpa using h2
      rw [if_neg h2]
      clear h1 h2
      go_enter Try.func28, Try.ntmps28
      go_wp2
      go_ret
      exact ⟨rfl, rfl⟩
theorem pickP_bd (c n : Int) (h : 0 < n) : 0 ≤ pickP c n ∧ pickP c n < n := by
  unfold pickP
  split
  · exact ⟨Int.emod_nonneg _ (by omega), Int.emod_lt_of_pos _ h⟩
  · exact ⟨Int.emod_nonneg _ (by omega), Int.emod_lt_of_pos _ h⟩
theorem wpList_build1 {P : Program} {ops : Array Oper} {rest : List Oper} {o : Oper} {a : Act} {w : World} {Q : Exit → Act → World → Prop} (hg : o.guard = none) (t : TypeId) (i : Nat) (x : Operand) (ho : o.op = .build t #[(i, x)])
    (u : Value) (hu : a.eval x = u) (cells : Array Value) (hf : P.built t [(i, u)] = some cells) (h : wpList P ops Q rest (a.put o.dst (.agg cells)) w) : wpList P ops Q (o :: rest) a w :=
  wpList_build_is hg t _ ho cells (by simpa [hu] using hf) h

/-- The wish, the result's row and the plan's row, as 'planned' has them. -/
structure Ste (w wc : World) (v : Wish) (p : Pu.Plan) : Prop where
  wish : WsAt wc w.heap.size v
  res : PlAt wc (w.heap.size + 1) zp
  plan : PlAt wc (w.heap.size + 2) p
  keep : Kp (fun _ => False) w wc
theorem Ste.put {w wc : World} {v : Wish} {p : Pu.Plan} (h : Ste w wc v p) (m : Nat) (u : Value) (q : Pu.Plan) (hq : (planv p).setIfInBounds m u = planv q) : Ste w (wc.setCell ⟨w.heap.size + 2, m, none⟩ u) v q := by
  refine ⟨⟨?_⟩, ⟨?_⟩, ⟨?_⟩, h.keep.setNew (by simp only; omega) u⟩
  · exact (heap_setCell_other _ _ _ _ (by simp only; omega)).trans h.wish.row
  · exact (heap_setCell_other _ _ _ _ (by simp only; omega)).trans h.res.row
  · rw [heap_setCell_same _ _ _ _ _ _ h.plan.row, hq]
theorem Ste.putC {w wc : World} {v : Wish} {p : Pu.Plan} (h : Ste w wc v p) (x : Int) : Ste w (wc.setCell ⟨w.heap.size + 2, 3, none⟩ (.int .i64 x)) v { p with c := x } := h.put 3 _ { p with c := x } rfl
theorem Ste.putK {w wc : World} {v : Wish} {p : Pu.Plan} (h : Ste w wc v p) (x : Int) : Ste w (wc.setCell ⟨w.heap.size + 2, 4, none⟩ (.int .u8 x)) v { p with kind := x } := h.put 4 _ { p with kind := x } rfl
theorem Ste.putW {w wc : World} {v : Wish} {p : Pu.Plan} (h : Ste w wc v p) (x : Int) : Ste w (wc.setCell ⟨w.heap.size + 2, 5, none⟩ (.int .i64 x)) v { p with w := x } := h.put 5 _ { p with w := x } rfl
theorem Ste.putH {w wc : World} {v : Wish} {p : Pu.Plan} (h : Ste w wc v p) (x : Int) : Ste w (wc.setCell ⟨w.heap.size + 2, 6, none⟩ (.int .i64 x)) v { p with h := x } := h.put 6 _ { p with h := x } rfl
theorem Ste.putSw {w wc : World} {v : Wish} {p : Pu.Plan} (h : Ste w wc v p) (x : Int) : Ste w (wc.setCell ⟨w.heap.size + 2, 7, none⟩ (.int .i64 x)) v { p with sw := x } := h.put 7 _ { p with sw := x } rfl
theorem Ste.putSh {w wc : World} {v : Wish} {p : Pu.Plan} (h : Ste w wc v p) (x : Int) : Ste w (wc.setCell ⟨w.heap.size + 2, 8, none⟩ (.int .i64 x)) v { p with sh := x } := h.put 8 _ { p with sh := x } rfl
theorem Ste.putSt {w wc : World} {v : Wish} {p : Pu.Plan} (h : Ste w wc v p) (x : Bool) : Ste w (wc.setCell ⟨w.heap.size + 2, 9, none⟩ (.bool x)) v { p with star := x } := h.put 9 _ { p with star := x } rfl
theorem Ste.putSth {w wc : World} {v : Wish} {p : Pu.Plan} (h : Ste w wc v p) (x : Bool) : Ste w (wc.setCell ⟨w.heap.size + 2, 10, none⟩ (.bool x)) v { p with starH := x } := h.put 10 _ { p with starH := x } rfl
theorem Ste.drewN {w wc : World} {v : Wish} {p : Pu.Plan} (h : Ste w wc v p) (n : Nat) : Ste w (wc.drewN n) v p := ⟨⟨h.wish.row⟩, ⟨h.res.row⟩, ⟨h.plan.row⟩, h.keep.drewN n⟩

def nearOf (a : Int) : Int := if a = 0 then 77 else if a = 1 then 86 else 72

set_option maxRecDepth 100000 in
set_option maxHeartbeats 2000000 in
theorem planned_any (v : Wish) (hv : WishOk v) (kinds : ByteArray) (side : Int) (hk : 0 < kinds.size) (hk5 : kinds.size ≤ 5) (hkk : ∀ k (h : k < kinds.size), ((kinds[k]).toNat : Int) ∈ [(80 : Int), 84, 75, 67, 83]) (hs : 1 ≤ side ∧ side ≤ 12) (w : World) :
    Calls Try.prog 16 #[.agg (wishv v), .string kinds, .int .i64 side] w fun e w' => (∃ p, e = .returned (.agg (planv p)) ∧ Pu.PlanOk p ∧ p.w ≤ side ∧ p.h ≤ side ∧ ∃ k, ∃ h : k < kinds.size, p.kind = ((kinds[k]).toNat : Int)) ∧ Kp (fun _ => False) w w' := by
  have LP0 := hide (fun wx => pick_any v.near 3 wx (by omega) (by omega) hv.near.1 hv.near.2)
  have b0 := pickP_bd v.near 3 (by omega)
  generalize pickP v.near 3 = a0 at *
  obtain ⟨k0, rfl⟩ := Int.eq_ofNat_of_zero_le b0.1
  have b1 : k0 < 3 := by omega
  go_enter Try.func16, Try.ntmps16
  go_wp2_with (first
    | (refine wpList_box_row rfl 32 _ rfl (wishv v) rfl ?_
       intro w1 hw1
       have W1 : Hid (WsAt w1 w.heap.size v) := ⟨by rw [hw1]; exact heap_alloc_new _ _⟩
       have K1 : Hid (Kp (fun _ => False) w w1) := by rw [hw1]; exact (Kp.refl _ _).alloc _
       have sz1 : w1.heap.size = w.heap.size + 1 := by rw [hw1]; exact alloc_size _ _
       clear hw1)
    | (refine wpList_alloc_row rfl 34 rfl (planv zp) zero_plan ?_
       intro w2 hw2
       have W2 : Hid (WsAt w2 w.heap.size v) := by rw [hw2]; exact W1.out.keep ((Kp.refl (fun _ => False) _).alloc _) (fun hx => hx)
       have R2 : Hid (PlAt w2 (w.heap.size + 1) zp) := ⟨by rw [hw2, ← sz1]; exact heap_alloc_new _ _⟩
       have K2 : Hid (Kp (fun _ => False) w w2) := by rw [hw2]; exact K1.out.alloc _
       have sz2 : w2.heap.size = w.heap.size + 2 := by rw [hw2, alloc_size]; omega
       have c0 : w2.cell? ⟨w.heap.size, 0, none⟩ = some (.int .i64 v.near) := W2.out.cell 0
       clear hw2))
  refine (LP0.out _).mono ?_
  rintro e w3 ⟨rfl, hw⟩
  subst w3
  clear c0
  go_wp2_with fail
  have hbt : ((({ data := #[77, 86, 72] } : ByteArray)[k0]'b1).toNat : Int) = 77 ∨ ((({ data := #[77, 86, 72] } : ByteArray)[k0]'b1).toNat : Int) = 86 ∨ ((({ data := #[77, 86, 72] } : ByteArray)[k0]'b1).toNat : Int) = 72 := by
    have hk3 : k0 = 0 ∨ k0 = 1 ∨ k0 = 2 := by omega
    rcases hk3 with rfl | rfl | rfl
    · exact Or.inl rfl
    · exact Or.inr (Or.inl rfl)
    · exact Or.inr (Or.inr rfl)
  generalize ((({ data := #[77, 86, 72] } : ByteArray)[k0]'b1).toNat : Int) = nr at *
  have m8 : Pu.mostOf nr = 8 ∨ Pu.mostOf nr = 4 ∨ Pu.mostOf nr = 6 := by rcases hbt with rfl | rfl | rfl <;> simp [Pu.mostOf]
  refine (most_any nr _).mono ?_
  rintro e w4 ⟨rfl, hw⟩
  have E4 : Hid (Ste w w4 v { zp with near := nr }) := by
    rw [hw]
    exact ⟨W2.out.keep ((Kp.refl (fun _ => False) _).alloc _) (fun hx => hx), R2.out.keep ((Kp.refl (fun _ => False) _).alloc _) (fun hx => hx), ⟨by rw [← sz2]; exact heap_alloc_new _ _⟩, K2.out.alloc _⟩
  clear hw W2 R2 K2 sz2 W1 K1 sz1 LP0 b0 b1
  have HB := hide hbt
  have LB := hide (fun (wx : World) (n : Int) (h0 : 0 < n) (h1 : n ≤ 1048576) => pick_any v.births n wx h0 h1 hv.births.1 hv.births.2)
  have LL := hide (fun (wx : World) (n : Int) (h0 : 0 < n) (h1 : n ≤ 1048576) => pick_any v.lives n wx h0 h1 hv.lives.1 hv.lives.2)
  have MM := hide (rfl : Pu.mostOf nr = Pu.mostOf nr)
  generalize hmo : Pu.mostOf nr = mo at m8 ⊢
  have HMO := hide hmo
  clear hmo hbt MM
  have c1 : w4.cell? ⟨w.heap.size, 1, none⟩ = some (.int .i64 v.births) := E4.out.wish.cell 1
  have f1 : w4.frozen? ⟨w.heap.size + 2, 1, none⟩ = false := frozen_of_row _ _ _ _ _ E4.out.plan.row
  have x1 : w4.cell? ⟨w.heap.size + 2, 1, none⟩ = some (.int .i64 0) := E4.out.plan.cell 1
  go_upto_region 4 with fail
  go_cut [9] from 11 to 106 (fun m wc => m = .int .i64 mo ∧ ∃ b : Nat, b < 2 ^ (mo + 1) ∧ Ste w wc v { zp with near := nr, births := b })
  case first =>
    rcases m8 with rfl | rfl | rfl
    · have w9 : IntKind.i64.wrap 9 = 9 := by rfl
      have w99 : IntKind.i64.wrap 512 = 512 := by rfl
      have hpb := pickP_bd v.births 512 (by omega)
      have L := hide (fun wx => LB.out wx 512 (by omega) (by omega))
      obtain ⟨bn, hbn⟩ := Int.eq_ofNat_of_zero_le hpb.1
      rw [hbn] at L hpb
      clear hbn
      go_region_with (go_at_call 15; refine (L.out _).mono ?_; rintro e w5 ⟨rfl, hw⟩; subst w5)
      all_goals
        go_wp2_with fail
        go_meet
        case rel => exact ⟨rfl, bn, by omega, (E4.out.drewN _).put 1 _ _ rfl⟩
    · have w9 : IntKind.i64.wrap 5 = 5 := by rfl
      have w99 : IntKind.i64.wrap 32 = 32 := by rfl
      have hpb := pickP_bd v.births 32 (by omega)
      have L := hide (fun wx => LB.out wx 32 (by omega) (by omega))
      obtain ⟨bn, hbn⟩ := Int.eq_ofNat_of_zero_le hpb.1
      rw [hbn] at L hpb
      clear hbn
      go_region_with (go_at_call 15; refine (L.out _).mono ?_; rintro e w5 ⟨rfl, hw⟩; subst w5)
      all_goals
        go_wp2_with fail
        go_meet
        case rel => exact ⟨rfl, bn, by omega, (E4.out.drewN _).put 1 _ _ rfl⟩
    · have w9 : IntKind.i64.wrap 7 = 7 := by rfl
      have w99 : IntKind.i64.wrap 128 = 128 := by rfl
      have hpb := pickP_bd v.births 128 (by omega)
      have L := hide (fun wx => LB.out wx 128 (by omega) (by omega))
      obtain ⟨bn, hbn⟩ := Int.eq_ofNat_of_zero_le hpb.1
      rw [hbn] at L hpb
      clear hbn
      go_region_with (go_at_call 15; refine (L.out _).mono ?_; rintro e w5 ⟨rfl, hw⟩; subst w5)
      all_goals
        go_wp2_with fail
        go_meet
        case rel => exact ⟨rfl, bn, by omega, (E4.out.drewN _).put 1 _ _ rfl⟩
  case rest =>
    obtain ⟨rfl, bn, hbn, e5⟩ := hcut
    have HBN := hide hbn
    have E5 := hide e5
    clear hbn e5 c1 f1 x1
    have c1 : wc.cell? ⟨w.heap.size, 2, none⟩ = some (.int .i64 v.lives) := E5.out.wish.cell 2
    have f1 : wc.frozen? ⟨w.heap.size + 2, 2, none⟩ = false := frozen_of_row _ _ _ _ _ E5.out.plan.row
    have x1 : wc.cell? ⟨w.heap.size + 2, 2, none⟩ = some (.int .i64 0) := E5.out.plan.cell 2
    go_upto_region 5 with fail
    go_cut [9] from 11 to 106 (fun m wd => m = .int .i64 mo ∧ ∃ b : Nat, b < 2 ^ (mo + 1) ∧ Ste w wd v { zp with near := nr, births := bn, lives := b })
    case first =>
      rcases m8 with rfl | rfl | rfl
      · have w9 : IntKind.i64.wrap 9 = 9 := by rfl
        have w99 : IntKind.i64.wrap 512 = 512 := by rfl
        have hpb := pickP_bd v.lives 512 (by omega)
        have L := hide (fun wx => LL.out wx 512 (by omega) (by omega))
        obtain ⟨ln, hln⟩ := Int.eq_ofNat_of_zero_le hpb.1
        rw [hln] at L hpb
        clear hln
        go_region_with (go_at_call 15; refine (L.out _).mono ?_; rintro e w5 ⟨rfl, hw⟩; subst w5)
        all_goals
          go_wp2_with fail
          go_meet
          case rel => exact ⟨rfl, ln, by omega, (E5.out.drewN _).put 2 _ _ rfl⟩
      · have w9 : IntKind.i64.wrap 5 = 5 := by rfl
        have w99 : IntKind.i64.wrap 32 = 32 := by rfl
        have hpb := pickP_bd v.lives 32 (by omega)
        have L := hide (fun wx => LL.out wx 32 (by omega) (by omega))
        obtain ⟨ln, hln⟩ := Int.eq_ofNat_of_zero_le hpb.1
        rw [hln] at L hpb
        clear hln
        go_region_with (go_at_call 15; refine (L.out _).mono ?_; rintro e w5 ⟨rfl, hw⟩; subst w5)
        all_goals
          go_wp2_with fail
          go_meet
          case rel => exact ⟨rfl, ln, by omega, (E5.out.drewN _).put 2 _ _ rfl⟩
      · have w9 : IntKind.i64.wrap 7 = 7 := by rfl
        have w99 : IntKind.i64.wrap 128 = 128 := by rfl
        have hpb := pickP_bd v.lives 128 (by omega)
        have L := hide (fun wx => LL.out wx 128 (by omega) (by omega))
        obtain ⟨ln, hln⟩ := Int.eq_ofNat_of_zero_le hpb.1
        rw [hln] at L hpb
        clear hln
        go_region_with (go_at_call 15; refine (L.out _).mono ?_; rintro e w5 ⟨rfl, hw⟩; subst w5)
        all_goals
          go_wp2_with fail
          go_meet
          case rel => exact ⟨rfl, ln, by omega, (E5.out.drewN _).put 2 _ _ rfl⟩
    case rest =>
      obtain ⟨rfl, ln, hln, e6⟩ := hcut
      have HLN := hide hln
      have E6 := hide e6
      clear hln e6 c1 f1 x1 LB LL E4 E5 m8
      have LS := hide (fun wx => pick_any v.states 8 wx (by omega) (by omega) hv.states.1 hv.states.2)
      have bS := pickP_bd v.states 8 (by omega)
      generalize pickP v.states 8 = cs at *
      have LK := hide (fun wx => pick_any v.kind kinds.size wx (by omega) (by omega) hv.kind.1 hv.kind.2)
      have bK := pickP_bd v.kind kinds.size (by omega)
      generalize pickP v.kind kinds.size = ck at *
      obtain ⟨kk, rfl⟩ := Int.eq_ofNat_of_zero_le bK.1
      have hkl : kk < kinds.size := by omega
      have LW := hide (fun wx => pick_any v.w side wx (by omega) (by omega) hv.w.1 hv.w.2)
      have bW := pickP_bd v.w side (by omega)
      generalize pickP v.w side = pw at *
      have LH := hide (fun wx => pick_any v.h side wx (by omega) (by omega) hv.h.1 hv.h.2)
      have bH := pickP_bd v.h side (by omega)
      generalize pickP v.h side = ph at *
      have c3 : wc.cell? ⟨w.heap.size, 3, none⟩ = some (.int .i64 v.states) := E6.out.wish.cell 3
      have c4 : wc.cell? ⟨w.heap.size, 4, none⟩ = some (.int .i64 v.kind) := E6.out.wish.cell 4
      have c5 : wc.cell? ⟨w.heap.size, 5, none⟩ = some (.int .i64 v.w) := E6.out.wish.cell 5
      have c6 : wc.cell? ⟨w.heap.size, 6, none⟩ = some (.int .i64 v.h) := E6.out.wish.cell 6
      have x3 : wc.cell? ⟨w.heap.size + 2, 3, none⟩ = some (.int .i64 0) := E6.out.plan.cell 3
      have x4 : wc.cell? ⟨w.heap.size + 2, 4, none⟩ = some (.int .u8 0) := E6.out.plan.cell 4
      have x5 : wc.cell? ⟨w.heap.size + 2, 5, none⟩ = some (.int .i64 0) := E6.out.plan.cell 5
      have x6 : wc.cell? ⟨w.heap.size + 2, 6, none⟩ = some (.int .i64 0) := E6.out.plan.cell 6
      have f3 : wc.frozen? ⟨w.heap.size + 2, 3, none⟩ = false := frozen_of_row _ _ _ _ _ E6.out.plan.row
      have f4 : wc.frozen? ⟨w.heap.size + 2, 4, none⟩ = false := frozen_of_row _ _ _ _ _ E6.out.plan.row
      have f5 : wc.frozen? ⟨w.heap.size + 2, 5, none⟩ = false := frozen_of_row _ _ _ _ _ E6.out.plan.row
      have f6 : wc.frozen? ⟨w.heap.size + 2, 6, none⟩ = false := frozen_of_row _ _ _ _ _ E6.out.plan.row
      have HKK := hide (hkk kk hkl)
      clear hkk bK
      go_wp2_with fail
      refine (LS.out _).mono ?_
      rintro e w5 ⟨rfl, hw⟩
      subst w5
      go_wp2_with fail
      refine (LK.out _).mono ?_
      rintro e w5 ⟨rfl, hw⟩
      subst w5
      go_wp2_with fail
      refine (LW.out _).mono ?_
      rintro e w5 ⟨rfl, hw⟩
      subst w5
      go_upto_region 9 with fail
      go_cut [9] from 11 to 106 (fun m wd => m = .int .i64 mo ∧ Ste w wd v ⟨nr, bn, ln, 2 + cs, (kinds[kk].toNat : Int), 1 + pw, 1 + ph, 0, 0, false, false⟩)
      case first =>
        go_wp2_with fail
        refine (LH.out _).mono ?_
        rintro e w5 ⟨rfl, hw⟩
        subst w5
        go_wp2_with fail
        go_meet
        case rel => exact ⟨rfl, (((E6.out.putC (2 + cs)).putK _).putW (1 + pw)).putH (1 + ph)⟩
      case rest =>
        obtain ⟨rfl, e7⟩ := hcut
        have E7 := hide e7
        clear e7 E6 c3 c4 c5 c6 x3 x4 x5 x6 f3 f4 f5 f6 LS LK LW LH
        have HKL := hide (⟨kk, hkl, rfl⟩ : ∃ k, ∃ h : k < kinds.size, ((kinds[kk]).toNat : Int) = ((kinds[k]).toNat : Int))
        generalize ((kinds[kk]).toNat : Int) = kd at *
        have c7 : wc.cell? ⟨w.heap.size, 7, none⟩ = some (.int .i64 v.shift) := E7.out.wish.cell 7
        have x4 : wc.cell? ⟨w.heap.size + 2, 4, none⟩ = some (.int .u8 kd) := E7.out.plan.cell 4
        have x5 : wc.cell? ⟨w.heap.size + 2, 5, none⟩ = some (.int .i64 (1 + pw)) := E7.out.plan.cell 5
        have x6 : wc.cell? ⟨w.heap.size + 2, 6, none⟩ = some (.int .i64 (1 + ph)) := E7.out.plan.cell 6
        have x7 : wc.cell? ⟨w.heap.size + 2, 7, none⟩ = some (.int .i64 0) := E7.out.plan.cell 7
        have x8 : wc.cell? ⟨w.heap.size + 2, 8, none⟩ = some (.int .i64 0) := E7.out.plan.cell 8
        have x9 : wc.cell? ⟨w.heap.size + 2, 9, none⟩ = some (.bool false) := E7.out.plan.cell 9
        have x10 : wc.cell? ⟨w.heap.size + 2, 10, none⟩ = some (.bool false) := E7.out.plan.cell 10
        have ff : ∀ m, wc.frozen? ⟨w.heap.size + 2, m, none⟩ = false := fun m => frozen_of_row _ _ _ _ _ E7.out.plan.row
        have f6 := ff 6
        have f7 := ff 7
        have f8 := ff 8
        have f9 := ff 9
        have f10 := ff 10
        clear ff
        have LT := hide (fun wx => pick_any v.shift (1 + pw + (1 + ph)) wx (by omega) (by omega) hv.shift.1 hv.shift.2)
        have bT := pickP_bd v.shift (1 + pw + (1 + ph)) (by omega)
        generalize pickP v.shift (1 + pw + (1 + ph)) = ps at *
        have L2 := hide (fun wx => pick_any v.shift 2 wx (by omega) (by omega) hv.shift.1 hv.shift.2)
        have b2 := pickP_bd v.shift 2 (by omega)
        generalize pickP v.shift 2 = p2 at *
        have OK : Hid (∀ (pw' ph' sw sh : Int) (st sth : Bool), 1 ≤ pw' ∧ pw' ≤ side → 1 ≤ ph' ∧ ph' ≤ side → (kd = 83 → ph' = pw') → ((0 ≤ sw ∧ sw < pw' ∧ sh = 0) ∨ (sw = 0 ∧ 0 ≤ sh ∧ sh < ph')) → (kd ≠ 84 → sw = 0 ∧ sh = 0) → (kd = 75 → sth = !st) → (kd ≠ 75 → st = false ∧ sth = false) →
            Pu.PlanOk ⟨nr, bn, ln, 2 + cs, kd, pw', ph', sw, sh, st, sth⟩ ∧ pw' ≤ side ∧ ph' ≤ side ∧ ∃ k, ∃ h : k < kinds.size, kd = ((kinds[k]).toNat : Int)) := by
          intro pw' ph' sw sh st sth h1 h2 h3 h4 h5 h6 h7
          refine ⟨⟨HB.out, ?_, ?_, ?_, HKK.out, ?_, ?_, h3, h4, h5, h6, h7⟩, h1.2, h2.2, HKL.out⟩
          · show bn < 2 ^ (Pu.mostOf nr + 1)
            rw [HMO.out]; exact HBN.out
          · show ln < 2 ^ (Pu.mostOf nr + 1)
            rw [HMO.out]; exact HLN.out
          · show 2 ≤ 2 + cs ∧ 2 + cs ≤ 9
            omega
          · show 1 ≤ pw' ∧ pw' ≤ 12
            omega
          · show 1 ≤ ph' ∧ ph' ≤ 12
            omega
        clear hkl
        by_cases k83 : kd = 83
        · subst k83
          clear L2 LT
          go_upto_region 18 with fail
          go_cut [9] from 11 to 106 (fun m wd => m = .int .i64 mo ∧ Ste w wd v ⟨nr, bn, ln, 2 + cs, 83, 1 + pw, 1 + pw, 0, 0, false, false⟩)
          case first =>
            go_wp2_with fail
            go_meet
            case rel => exact ⟨rfl, ((E7.out.putH (1 + pw)).putSt false).putSth false⟩
          case rest =>
            obtain ⟨rfl, e8⟩ := hcut
            have E8 := hide e8
            clear e8
            go_wp2_with (first
              | (refine wpList_load_row rfl 34 _ rfl (w.heap.size + 2) rfl 34 (planv ⟨nr, bn, ln, 2 + cs, 83, 1 + pw, 1 + pw, 0, 0, false, false⟩) (0, 0) _ E8.out.plan.row Try.underlying34 rfl info_plan ?_)
              | (refine wpList_store_row_g rfl 34 _ _ rfl (w.heap.size + 1) (planv ⟨nr, bn, ln, 2 + cs, 83, 1 + pw, 1 + pw, 0, 0, false, false⟩) rfl rfl 34 (planv zp) E8.out.res.row info_plan rfl (planv_one _) ?_
                 intro w8 hw8
                 have R8 : Hid (PlAt w8 (w.heap.size + 1) ⟨nr, bn, ln, 2 + cs, 83, 1 + pw, 1 + pw, 0, 0, false, false⟩) := ⟨by rw [hw8]; exact setRow_heap _ _ _ _ _ _ E8.out.res.row⟩
                 have K8 : Hid (Kp (fun _ => False) w w8) := by rw [hw8]; exact E8.out.keep.setRowNew (by omega) _
                 clear hw8))
            exact bodyPost_ret (v := .agg (planv ⟨nr, bn, ln, 2 + cs, 83, 1 + pw, 1 + pw, 0, 0, false, false⟩)) (results_cell_row Try.results16 _ _ (w.heap.size + 1) 34 (planv ⟨nr, bn, ln, 2 + cs, 83, 1 + pw, 1 + pw, 0, 0, false, false⟩) (0, 0) _ rfl R8.out.row Try.underlying34 rfl info_plan) rfl
              ⟨⟨_, rfl, OK.out _ _ 0 0 false false (by omega) (by omega) (fun _ => rfl) (by omega) (fun _ => ⟨rfl, rfl⟩) (by omega) (fun _ => ⟨rfl, rfl⟩)⟩, K8.out⟩
        · by_cases k84 : kd = 84
          · subst k84
            clear L2
            by_cases hp : ps < 1 + pw
            · go_wp2_with fail
              refine (LT.out _).mono ?_
              rintro e w5 ⟨rfl, hw⟩
              subst w5
              go_upto_region 18 with fail
              go_cut [9] from 11 to 106 (fun m wd => m = .int .i64 mo ∧ Ste w wd v ⟨nr, bn, ln, 2 + cs, 84, 1 + pw, 1 + ph, ps, 0, false, false⟩)
              case first =>
                go_wp2_with fail
                go_meet
                case rel => exact ⟨rfl, ((E7.out.putSw ps).putSt false).putSth false⟩
              case rest =>
                obtain ⟨rfl, e8⟩ := hcut
                have E8 := hide e8
                clear e8
                go_wp2_with (first
                  | (refine wpList_load_row rfl 34 _ rfl (w.heap.size + 2) rfl 34 (planv ⟨nr, bn, ln, 2 + cs, 84, 1 + pw, 1 + ph, ps, 0, false, false⟩) (0, 0) _ E8.out.plan.row Try.underlying34 rfl info_plan ?_)
                  | (refine wpList_store_row_g rfl 34 _ _ rfl (w.heap.size + 1) (planv ⟨nr, bn, ln, 2 + cs, 84, 1 + pw, 1 + ph, ps, 0, false, false⟩) rfl rfl 34 (planv zp) E8.out.res.row info_plan rfl (planv_one _) ?_
                     intro w8 hw8
                     have R8 : Hid (PlAt w8 (w.heap.size + 1) ⟨nr, bn, ln, 2 + cs, 84, 1 + pw, 1 + ph, ps, 0, false, false⟩) := ⟨by rw [hw8]; exact setRow_heap _ _ _ _ _ _ E8.out.res.row⟩
                     have K8 : Hid (Kp (fun _ => False) w w8) := by rw [hw8]; exact E8.out.keep.setRowNew (by omega) _
                     clear hw8))
                exact bodyPost_ret (v := .agg (planv ⟨nr, bn, ln, 2 + cs, 84, 1 + pw, 1 + ph, ps, 0, false, false⟩)) (results_cell_row Try.results16 _ _ (w.heap.size + 1) 34 (planv ⟨nr, bn, ln, 2 + cs, 84, 1 + pw, 1 + ph, ps, 0, false, false⟩) (0, 0) _ rfl R8.out.row Try.underlying34 rfl info_plan) rfl
                  ⟨⟨_, rfl, OK.out _ _ ps 0 false false (by omega) (by omega) (by omega) (by omega) (by omega) (by omega) (fun _ => ⟨rfl, rfl⟩)⟩, K8.out⟩
            · go_wp2_with fail
              refine (LT.out _).mono ?_
              rintro e w5 ⟨rfl, hw⟩
              subst w5
              go_upto_region 18 with fail
              go_cut [9] from 11 to 106 (fun m wd => m = .int .i64 mo ∧ Ste w wd v ⟨nr, bn, ln, 2 + cs, 84, 1 + pw, 1 + ph, 0, ps - (1 + pw), false, false⟩)
              case first =>
                go_wp2_with fail
                go_meet
                case rel => exact ⟨rfl, ((E7.out.putSh (ps - (1 + pw))).putSt false).putSth false⟩
              case rest =>
                obtain ⟨rfl, e8⟩ := hcut
                have E8 := hide e8
                clear e8
                go_wp2_with (first
                  | (refine wpList_load_row rfl 34 _ rfl (w.heap.size + 2) rfl 34 (planv ⟨nr, bn, ln, 2 + cs, 84, 1 + pw, 1 + ph, 0, ps - (1 + pw), false, false⟩) (0, 0) _ E8.out.plan.row Try.underlying34 rfl info_plan ?_)
                  | (refine wpList_store_row_g rfl 34 _ _ rfl (w.heap.size + 1) (planv ⟨nr, bn, ln, 2 + cs, 84, 1 + pw, 1 + ph, 0, ps - (1 + pw), false, false⟩) rfl rfl 34 (planv zp) E8.out.res.row info_plan rfl (planv_one _) ?_
                     intro w8 hw8
                     have R8 : Hid (PlAt w8 (w.heap.size + 1) ⟨nr, bn, ln, 2 + cs, 84, 1 + pw, 1 + ph, 0, ps - (1 + pw), false, false⟩) := ⟨by rw [hw8]; exact setRow_heap _ _ _ _ _ _ E8.out.res.row⟩
                     have K8 : Hid (Kp (fun _ => False) w w8) := by rw [hw8]; exact E8.out.keep.setRowNew (by omega) _
                     clear hw8))
                exact bodyPost_ret (v := .agg (planv ⟨nr, bn, ln, 2 + cs, 84, 1 + pw, 1 + ph, 0, ps - (1 + pw), false, false⟩)) (results_cell_row Try.results16 _ _ (w.heap.size + 1) 34 (planv ⟨nr, bn, ln, 2 + cs, 84, 1 + pw, 1 + ph, 0, ps - (1 + pw), false, false⟩) (0, 0) _ rfl R8.out.row Try.underlying34 rfl info_plan) rfl
                  ⟨⟨_, rfl, OK.out _ _ 0 (ps - (1 + pw)) false false (by omega) (by omega) (by omega) (by omega) (by omega) (by omega) (fun _ => ⟨rfl, rfl⟩)⟩, K8.out⟩
          · by_cases k75 : kd = 75
            · subst k75
              clear LT
              have hp : p2 = 0 ∨ p2 = 1 := by omega
              clear b2
              rcases hp with rfl | rfl
              · go_wp2_with fail
                refine (L2.out _).mono ?_
                rintro e w5 ⟨rfl, hw⟩
                subst w5
                go_upto_region 18 with fail
                go_cut [9] from 11 to 106 (fun m wd => m = .int .i64 mo ∧ Ste w wd v ⟨nr, bn, ln, 2 + cs, 75, 1 + pw, 1 + ph, 0, 0, true, false⟩)
                case first =>
                  go_wp2_with fail
                  go_meet
                  case rel => exact ⟨rfl, (E7.out.putSt true).putSth false⟩
                case rest =>
                  obtain ⟨rfl, e8⟩ := hcut
                  have E8 := hide e8
                  clear e8
                  go_wp2_with (first
                    | (refine wpList_load_row rfl 34 _ rfl (w.heap.size + 2) rfl 34 (planv ⟨nr, bn, ln, 2 + cs, 75, 1 + pw, 1 + ph, 0, 0, true, false⟩) (0, 0) _ E8.out.plan.row Try.underlying34 rfl info_plan ?_)
                    | (refine wpList_store_row_g rfl 34 _ _ rfl (w.heap.size + 1) (planv ⟨nr, bn, ln, 2 + cs, 75, 1 + pw, 1 + ph, 0, 0, true, false⟩) rfl rfl 34 (planv zp) E8.out.res.row info_plan rfl (planv_one _) ?_
                       intro w8 hw8
                       have R8 : Hid (PlAt w8 (w.heap.size + 1) ⟨nr, bn, ln, 2 + cs, 75, 1 + pw, 1 + ph, 0, 0, true, false⟩) := ⟨by rw [hw8]; exact setRow_heap _ _ _ _ _ _ E8.out.res.row⟩
                       have K8 : Hid (Kp (fun _ => False) w w8) := by rw [hw8]; exact E8.out.keep.setRowNew (by omega) _
                       clear hw8))
                  exact bodyPost_ret (v := .agg (planv ⟨nr, bn, ln, 2 + cs, 75, 1 + pw, 1 + ph, 0, 0, true, false⟩)) (results_cell_row Try.results16 _ _ (w.heap.size + 1) 34 (planv ⟨nr, bn, ln, 2 + cs, 75, 1 + pw, 1 + ph, 0, 0, true, false⟩) (0, 0) _ rfl R8.out.row Try.underlying34 rfl info_plan) rfl
                    ⟨⟨_, rfl, OK.out _ _ 0 0 true false (by omega) (by omega) (by omega) (by omega) (fun _ => ⟨rfl, rfl⟩) (fun _ => rfl) (by omega)⟩, K8.out⟩
              · go_wp2_with fail
                refine (L2.out _).mono ?_
                rintro e w5 ⟨rfl, hw⟩
                subst w5
                go_upto_region 18 with fail
                go_cut [9] from 11 to 106 (fun m wd => m = .int .i64 mo ∧ Ste w wd v ⟨nr, bn, ln, 2 + cs, 75, 1 + pw, 1 + ph, 0, 0, false, true⟩)
                case first =>
                  go_wp2_with fail
                  go_meet
                  case rel => exact ⟨rfl, (E7.out.putSt false).putSth true⟩
                case rest =>
                  obtain ⟨rfl, e8⟩ := hcut
                  have E8 := hide e8
                  clear e8
                  go_wp2_with (first
                    | (refine wpList_load_row rfl 34 _ rfl (w.heap.size + 2) rfl 34 (planv ⟨nr, bn, ln, 2 + cs, 75, 1 + pw, 1 + ph, 0, 0, false, true⟩) (0, 0) _ E8.out.plan.row Try.underlying34 rfl info_plan ?_)
                    | (refine wpList_store_row_g rfl 34 _ _ rfl (w.heap.size + 1) (planv ⟨nr, bn, ln, 2 + cs, 75, 1 + pw, 1 + ph, 0, 0, false, true⟩) rfl rfl 34 (planv zp) E8.out.res.row info_plan rfl (planv_one _) ?_
                       intro w8 hw8
                       have R8 : Hid (PlAt w8 (w.heap.size + 1) ⟨nr, bn, ln, 2 + cs, 75, 1 + pw, 1 + ph, 0, 0, false, true⟩) := ⟨by rw [hw8]; exact setRow_heap _ _ _ _ _ _ E8.out.res.row⟩
                       have K8 : Hid (Kp (fun _ => False) w w8) := by rw [hw8]; exact E8.out.keep.setRowNew (by omega) _
                       clear hw8))
                  exact bodyPost_ret (v := .agg (planv ⟨nr, bn, ln, 2 + cs, 75, 1 + pw, 1 + ph, 0, 0, false, true⟩)) (results_cell_row Try.results16 _ _ (w.heap.size + 1) 34 (planv ⟨nr, bn, ln, 2 + cs, 75, 1 + pw, 1 + ph, 0, 0, false, true⟩) (0, 0) _ rfl R8.out.row Try.underlying34 rfl info_plan) rfl
                    ⟨⟨_, rfl, OK.out _ _ 0 0 false true (by omega) (by omega) (by omega) (by omega) (fun _ => ⟨rfl, rfl⟩) (fun _ => rfl) (by omega)⟩, K8.out⟩
            · have n83 : (kd == 83) = false := by simpa using k83
              have n84 : (kd == 84) = false := by simpa using k84
              have n75 : (kd == 75) = false := by simpa using k75
              have N3 := hide k83
              have N4 := hide k84
              have N5 := hide k75
              clear L2 LT k83 k84 k75
              go_upto_region 18 with fail
              go_cut [9] from 11 to 106 (fun m wd => m = .int .i64 mo ∧ Ste w wd v ⟨nr, bn, ln, 2 + cs, kd, 1 + pw, 1 + ph, 0, 0, false, false⟩)
              case first =>
                go_wp2_with fail
                go_meet
                case rel => exact ⟨rfl, (E7.out.putSt false).putSth false⟩
              case rest =>
                obtain ⟨rfl, e8⟩ := hcut
                have E8 := hide e8
                clear e8
                go_wp2_with (first
                  | (refine wpList_load_row rfl 34 _ rfl (w.heap.size + 2) rfl 34 (planv ⟨nr, bn, ln, 2 + cs, kd, 1 + pw, 1 + ph, 0, 0, false, false⟩) (0, 0) _ E8.out.plan.row Try.underlying34 rfl info_plan ?_)
                  | (refine wpList_store_row_g rfl 34 _ _ rfl (w.heap.size + 1) (planv ⟨nr, bn, ln, 2 + cs, kd, 1 + pw, 1 + ph, 0, 0, false, false⟩) rfl rfl 34 (planv zp) E8.out.res.row info_plan rfl (planv_one _) ?_
                     intro w8 hw8
                     have R8 : Hid (PlAt w8 (w.heap.size + 1) ⟨nr, bn, ln, 2 + cs, kd, 1 + pw, 1 + ph, 0, 0, false, false⟩) := ⟨by rw [hw8]; exact setRow_heap _ _ _ _ _ _ E8.out.res.row⟩
                     have K8 : Hid (Kp (fun _ => False) w w8) := by rw [hw8]; exact E8.out.keep.setRowNew (by omega) _
                     clear hw8))
                exact bodyPost_ret (v := .agg (planv ⟨nr, bn, ln, 2 + cs, kd, 1 + pw, 1 + ph, 0, 0, false, false⟩)) (results_cell_row Try.results16 _ _ (w.heap.size + 1) 34 (planv ⟨nr, bn, ln, 2 + cs, kd, 1 + pw, 1 + ph, 0, 0, false, false⟩) (0, 0) _ rfl R8.out.row Try.underlying34 rfl info_plan) rfl
                  ⟨⟨_, rfl, OK.out _ _ 0 0 false false (by omega) (by omega) (fun h => absurd h N3.out) (by omega) (fun _ => ⟨rfl, rfl⟩) (fun h => absurd h N5.out) (fun _ => ⟨rfl, rfl⟩)⟩, K8.out⟩
end Go.Proofs.Ytiimimclbkjcbaa
