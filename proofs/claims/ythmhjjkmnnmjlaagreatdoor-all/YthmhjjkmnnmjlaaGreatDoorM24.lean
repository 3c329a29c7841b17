import Derived.Test.YthmhjjkmnnmjlaaGreatDoorM23
import Derived.Test.YthmhjjkmnnmjlaaGreatDoorXx
import Derived.Test.YthmhjjkmnnmjlaaGreatDoorM17
import Derived.Test.YthmhjjkmnnmjlaaGreatDoorXy
namespace Go.Proofs.YthmhjjkmnnmjlaaGreatDoor
open Go.RowKit
open Go.Proofs

theorem foldok_of {x : Pu.Shape} (hx : Pu.ShapeOk x) (hk : KindB x) : FoldOk x := by
  have o := hx.open_
  have ws := hx.ws
  have hs := hx.hs
  have w0 := hx.w0
  have h0 := hx.h0
  refine ⟨⟨hx.w0, hx.w12⟩, ⟨hx.h0, hx.h12⟩, by omega, by omega, fun h => ?_, fun h => ?_⟩
  · unfold turnW at h
    have k : x.kind = 75 ∨ x.kind = 67 := by
      rcases Bool.or_eq_true_iff.1 h with h | h
      · exact Or.inl (hk.wst h)
      · exact Or.inr (by simpa using h)
    by_cases e : x.w = 0
    · have := o (Or.inl e)
      omega
    · omega
  · unfold turnH at h
    have k : x.kind = 75 ∨ x.kind = 67 := by
      rcases Bool.or_eq_true_iff.1 h with h | h
      · exact Or.inl (hk.hst h)
      · exact Or.inr (by simpa using h)
    by_cases e : x.h = 0
    · have := o (Or.inr e)
      omega
    · omega
/-- What stays of a world, whatever is called on it: rule and shape. -/
structure Kin (r : Pu.Rule) (x : Pu.Shape) : Prop where
  rule : RuleOk r
  st : 2 ≤ r.states ∧ r.states ≤ 9
  ar : r.around = 77 ∨ r.around = 86 ∨ r.around = 72
  shape : Pu.ShapeOk x
  kind : KindB x
  one : OneB x
theorem Kin.fo {r : Pu.Rule} {x : Pu.Shape} (h : Kin r x) : FoldOk x := foldok_of h.shape h.kind
end Go.Proofs.YthmhjjkmnnmjlaaGreatDoor
namespace Go.Proofs.YthmhjjkmnnmjlaaGreatDoor
open Go.RowKit
open Go.Proofs

/-- The document's Fold, whatever the shape. -/
theorem xfold_any (q : Nat) (x : Pu.Shape) (X Y : Int) (w : World) (hx : Pu.ShapeOk x) (hk : KindB x) (ho : OneB x) (hX : -9223372036854775808 ≤ X ∧ X ≤ 9223372036854775807) (hY : -9223372036854775808 ≤ Y ∧ Y ≤ 9223372036854775807)
    (c4 : w.cell? ⟨q, 4, none⟩ = some (.int .u8 x.kind)) (c5 : w.cell? ⟨q, 5, none⟩ = some (.int .i64 x.w)) (c6 : w.cell? ⟨q, 6, none⟩ = some (.int .i64 x.h)) (c7 : w.cell? ⟨q, 7, none⟩ = some (.int .i64 x.ws)) (c8 : w.cell? ⟨q, 8, none⟩ = some (.int .i64 x.hs)) (c9 : w.cell? ⟨q, 9, none⟩ = some (.bool x.wst)) (c10 : w.cell? ⟨q, 10, none⟩ = some (.bool x.hst)) :
    Calls Tryz.prog 34 #[.pointer (some ⟨q, 0, none⟩), .int .i64 X, .int .i64 Y] w fun e w' => e = .returned (.tuple #[.int .i64 (foldX x X Y), .int .i64 (foldY x X Y)]) ∧ Kp (fun _ => False) w w' := by
  have w0 := hx.w0
  have w12 := hx.w12
  have h0 := hx.h0
  have h12 := hx.h12
  have one := hx.one
  have ws := hx.ws
  have hs := hx.hs
  have op := hx.open_
  by_cases e67 : x.kind = 67
  · have n1 : ¬ 0 < x.ws := fun h => by have := hk.ws h; omega
    have n2 : ¬ 0 < x.hs := fun h => by have := hk.hs h; omega
    have n3 : x.wst = false := by
      cases e : x.wst with
      | false => rfl
      | true => have := hk.wst e; omega
    have n4 : x.hst = false := by
      cases e : x.hst with
      | false => rfl
      | true => have := hk.hst e; omega
    have z1 : x.ws = 0 := by omega
    have z2 : x.hs = 0 := by omega
    have p1 : 0 < x.w := by
      by_cases e : x.w = 0
      · have := op (Or.inl e); omega
      · omega
    have p2 : 0 < x.h := by
      by_cases e : x.h = 0
      · have := op (Or.inr e); omega
      · omega
    have t1 : turnW x = true := by unfold turnW; rw [e67]; simp
    have t2 : turnH x = true := by unfold turnH; rw [e67]; simp
    unfold foldX foldY shiftP turnP splitQ splitR
    rw [z1, z2, if_pos rfl, if_pos rfl, t1, t2, if_neg (show ¬ x.w = 0 by omega), if_neg (show ¬ x.h = 0 by omega), if_neg (show ¬ x.w = 0 by omega), if_neg (show ¬ x.h = 0 by omega)]
    rw [e67] at c4
    rw [z1] at c7
    rw [z2] at c8
    rw [n3] at c9
    rw [n4] at c10
    by_cases o1 : Y / x.h % 2 = 1
    · rw [if_pos ⟨rfl, o1⟩]
      by_cases o2 : X / x.w % 2 = 1
      · rw [if_pos ⟨rfl, o2⟩]
        exact xfold_c11 q x.w x.h X Y w hX hY c4 c5 c6 c7 c8 c9 c10 ⟨p1, w12⟩ ⟨p2, h12⟩ o1 o2
      · rw [if_neg (fun h => o2 h.2)]
        exact xfold_c10 q x.w x.h X Y w hX hY c4 c5 c6 c7 c8 c9 c10 ⟨p1, w12⟩ ⟨p2, h12⟩ o1 o2
    · rw [if_neg (fun h => o1 h.2)]
      by_cases o2 : X / x.w % 2 = 1
      · rw [if_pos ⟨rfl, o2⟩]
        exact xfold_c01 q x.w x.h X Y w hX hY c4 c5 c6 c7 c8 c9 c10 ⟨p1, w12⟩ ⟨p2, h12⟩ o1 o2
      · rw [if_neg (fun h => o2 h.2)]
        exact xfold_c00 q x.w x.h X Y w hX hY c4 c5 c6 c7 c8 c9 c10 ⟨p1, w12⟩ ⟨p2, h12⟩ o1 o2
  · have b67 : (x.kind == 67) = false := by simpa using e67
    by_cases t1 : x.wst = true
    · obtain ⟨z1, z2, n4⟩ := ho.wst t1
      have k75 := hk.wst t1
      have p1 : 0 < x.w := by
        by_cases e : x.w = 0
        · have := op (Or.inl e); omega
        · omega
      have p2 : 0 < x.h := by
        by_cases e : x.h = 0
        · have := op (Or.inr e); omega
        · omega
      have u1 : turnW x = true := by unfold turnW; rw [t1]; rfl
      have u2 : turnH x = false := by unfold turnH; rw [n4, b67]; rfl
      unfold foldX foldY shiftP turnP splitQ splitR
      rw [z1, z2, if_pos rfl, if_pos rfl, u1, u2, if_neg (show ¬ x.w = 0 by omega), if_neg (show ¬ x.h = 0 by omega), if_neg (show ¬ x.w = 0 by omega), if_neg (show ¬ x.h = 0 by omega), if_neg (show ¬ (false = true ∧ X / x.w % 2 = 1) by simp)]
      rw [z1] at c7
      rw [z2] at c8
      rw [t1] at c9
      rw [n4] at c10
      by_cases o1 : Y / x.h % 2 = 1
      · rw [if_pos ⟨rfl, o1⟩]
        exact xfold_w1 q x.kind x.w x.h X Y w hX hY c4 c5 c6 c7 c8 c9 c10 b67 ⟨p1, w12⟩ ⟨p2, h12⟩ o1
      · rw [if_neg (fun h => o1 h.2)]
        exact xfold_w0 q x.kind x.w x.h X Y w hX hY c4 c5 c6 c7 c8 c9 c10 b67 ⟨p1, w12⟩ ⟨p2, h12⟩ o1
    · have n3 : x.wst = false := by simpa using t1
      by_cases t2 : x.hst = true
      · obtain ⟨z1, _, z2⟩ := ho.hst t2
        have k75 := hk.hst t2
        have p1 : 0 < x.w := by
          by_cases e : x.w = 0
          · have := op (Or.inl e); omega
          · omega
        have p2 : 0 < x.h := by
          by_cases e : x.h = 0
          · have := op (Or.inr e); omega
          · omega
        have u1 : turnW x = false := by unfold turnW; rw [n3, b67]; rfl
        have u2 : turnH x = true := by unfold turnH; rw [t2]; rfl
        unfold foldX foldY shiftP turnP splitQ splitR
        rw [z1, z2, if_pos rfl, if_pos rfl, u1, u2, if_neg (show ¬ x.w = 0 by omega), if_neg (show ¬ x.h = 0 by omega), if_neg (show ¬ x.w = 0 by omega), if_neg (show ¬ x.h = 0 by omega), if_neg (show ¬ (false = true ∧ Y / x.h % 2 = 1) by simp)]
        rw [z1] at c7
        rw [z2] at c8
        rw [n3] at c9
        rw [t2] at c10
        by_cases o2 : X / x.w % 2 = 1
        · rw [if_pos ⟨rfl, o2⟩]
          exact xfold_h1 q x.kind x.w x.h X Y w hX hY c4 c5 c6 c7 c8 c9 c10 b67 ⟨p1, w12⟩ ⟨p2, h12⟩ o2
        · rw [if_neg (fun h => o2 h.2)]
          exact xfold_h0 q x.kind x.w x.h X Y w hX hY c4 c5 c6 c7 c8 c9 c10 b67 ⟨p1, w12⟩ ⟨p2, h12⟩ o2
      · have n4 : x.hst = false := by simpa using t2
        have u1 : turnW x = false := by unfold turnW; rw [n3, b67]; rfl
        have u2 : turnH x = false := by unfold turnH; rw [n4, b67]; rfl
        have eX : turnP (turnW x) (splitQ Y x.h) x.w (splitR X x.w) = splitR X x.w := by unfold turnP; rw [u1, if_neg (by simp)]
        have eY : turnP (turnH x) (splitQ X x.w) x.h (splitR Y x.h) = splitR Y x.h := by unfold turnP; rw [u2, if_neg (by simp)]
        unfold foldX foldY
        rw [eX, eY]
        unfold splitQ splitR
        rw [n3] at c9
        rw [n4] at c10
        by_cases s1 : 0 < x.ws
        · obtain ⟨_, z2, _⟩ := ho.ws s1
          have p1 : 0 < x.w := by omega
          by_cases p2 : x.h = 0
          · exact absurd p2 (hk.ws0 s1)
          · rw [z2, if_neg (show ¬ x.w = 0 by omega), if_neg p2, if_neg (show ¬ x.w = 0 by omega), if_neg p2]
            rw [z2] at c8
            have e3 : shiftP (Y % x.h) (X / x.w) 0 x.h = Y % x.h := by unfold shiftP; rw [if_pos rfl]
            rw [e3]
            exact xfold_ws q x.kind x.w x.h x.ws X Y w hX hY c4 c5 c6 c7 c8 c9 c10 b67 ⟨p1, w12⟩ ⟨by omega, h12⟩ ⟨s1, by omega⟩
        · have z1 : x.ws = 0 := by omega
          rw [z1] at c7
          by_cases s2 : 0 < x.hs
          · have p2 : 0 < x.h := by omega
            by_cases p1 : x.w = 0
            · exact absurd p1 (hk.hs0 s2)
            · rw [z1, if_neg p1, if_neg (show ¬ x.h = 0 by omega), if_neg p1, if_neg (show ¬ x.h = 0 by omega)]
              have e3 : shiftP (X % x.w) (Y / x.h) 0 x.w = X % x.w := by unfold shiftP; rw [if_pos rfl]
              rw [e3]
              exact xfold_hs q x.kind x.w x.h x.hs X Y w hX hY c4 c5 c6 c7 c8 c9 c10 b67 ⟨by omega, w12⟩ ⟨p2, h12⟩ ⟨s2, by omega⟩
          · have z2 : x.hs = 0 := by omega
            rw [z2] at c8
            rw [z1, z2]
            unfold shiftP
            rw [if_pos rfl, if_pos rfl]
            by_cases p1 : x.w = 0
            · have p2 : 0 < x.h := by omega
              rw [p1] at c5
              rw [if_pos p1, if_neg (show ¬ x.h = 0 by omega)]
              exact xfold_c q x.kind x.h X Y w hX hY c4 c5 c6 c7 c8 c9 c10 b67 ⟨p2, h12⟩
            · by_cases p2 : x.h = 0
              · rw [p2] at c6
                rw [if_pos p2, if_neg p1]
                exact xfold_b q x.kind x.w X Y w hX hY c4 c5 c6 c7 c8 c9 c10 b67 ⟨by omega, w12⟩
              · rw [if_neg p1, if_neg p2]
                exact xfold_a q x.kind x.w x.h X Y w hX hY c4 c5 c6 c7 c8 c9 c10 b67 ⟨by omega, w12⟩ ⟨by omega, h12⟩
end Go.Proofs.YthmhjjkmnnmjlaaGreatDoor
namespace Go.Proofs.YthmhjjkmnnmjlaaGreatDoor
open Go.RowKit
open Go.Proofs

set_option maxRecDepth 100000 in
set_option maxHeartbeats 2000000 in
theorem xput_no (q : Nat) (r : Pu.Rule) (x : Pu.Shape) (age : Int) (g1 g2 : Nat) (v : Value) (X Y s : Int) (w : World) (h : HdAt w q r x age g1 g2 v) (hin : (onSideB X x.w && onSideB Y x.h) = false)  :
    Calls Tryz.prog 20 #[.pointer (some ⟨q, 0, none⟩), .int .i64 X, .int .i64 Y, .int .i64 s] w fun e w' => e = .returned (.int .i64 5) ∧ Kp (fun _ => False) w w' := by
  have HH := hide (xhas_any q _ x.w x.h X Y w h.va rfl rfl)
  rw [hin] at HH
  have HC : Hid (∀ n, HdC (w.drewN n) q r x age g1 g2) := fun n => (h.keep ((Kp.refl _ w).drewN n)).cells
  clear hin h
  go_enter Tryz.func20, Tryz.ntmps20
  go_wp2_with fail
  refine HH.out.mono ?_
  rintro e w1 ⟨rfl, nn, hw1⟩
  have c := HC.out nn
  rw [← hw1] at c
  have K1 : Hid (Kp (fun _ => False) w w1) := by rw [hw1]; exact (Kp.refl _ _).drewN nn
  obtain ⟨_, _, _, c3, _, c5, c6, _, _, _, _, _⟩ := c
  clear hw1
  go_wp2_with fail
  go_ret
  exact ⟨rfl, K1.out⟩

set_option maxRecDepth 100000 in
set_option maxHeartbeats 2000000 in
theorem xput_fw1 (q : Nat) (r : Pu.Rule) (x : Pu.Shape) (age : Int) (g1 g2 : Nat) (v : Value) (X Y s : Int) (w : World) (h : HdAt w q r x age g1 g2 v) (hin : (onSideB X x.w && onSideB Y x.h) = true) (bw : (x.w == 0) = true) (hX : X < -9999) :
    Calls Tryz.prog 20 #[.pointer (some ⟨q, 0, none⟩), .int .i64 X, .int .i64 Y, .int .i64 s] w fun e w' => e = .returned (.int .i64 5) ∧ Kp (fun _ => False) w w' := by
  have HH := hide (xhas_any q _ x.w x.h X Y w h.va rfl rfl)
  rw [hin] at HH
  have HC : Hid (∀ n, HdC (w.drewN n) q r x age g1 g2) := fun n => (h.keep ((Kp.refl _ w).drewN n)).cells
  clear hin h
  go_enter Tryz.func20, Tryz.ntmps20
  go_wp2_with fail
  refine HH.out.mono ?_
  rintro e w1 ⟨rfl, nn, hw1⟩
  have c := HC.out nn
  rw [← hw1] at c
  have K1 : Hid (Kp (fun _ => False) w w1) := by rw [hw1]; exact (Kp.refl _ _).drewN nn
  obtain ⟨_, _, _, c3, _, c5, c6, _, _, _, _, _⟩ := c
  clear hw1
  go_wp2_with fail
  go_ret
  exact ⟨rfl, K1.out⟩

set_option maxRecDepth 100000 in
set_option maxHeartbeats 2000000 in
theorem xput_fw2 (q : Nat) (r : Pu.Rule) (x : Pu.Shape) (age : Int) (g1 g2 : Nat) (v : Value) (X Y s : Int) (w : World) (h : HdAt w q r x age g1 g2 v) (hin : (onSideB X x.w && onSideB Y x.h) = true) (bw : (x.w == 0) = true) (hX : 9999 < X) :
    Calls Tryz.prog 20 #[.pointer (some ⟨q, 0, none⟩), .int .i64 X, .int .i64 Y, .int .i64 s] w fun e w' => e = .returned (.int .i64 5) ∧ Kp (fun _ => False) w w' := by
  have HH := hide (xhas_any q _ x.w x.h X Y w h.va rfl rfl)
  rw [hin] at HH
  have HC : Hid (∀ n, HdC (w.drewN n) q r x age g1 g2) := fun n => (h.keep ((Kp.refl _ w).drewN n)).cells
  clear hin h
  go_enter Tryz.func20, Tryz.ntmps20
  go_wp2_with fail
  refine HH.out.mono ?_
  rintro e w1 ⟨rfl, nn, hw1⟩
  have c := HC.out nn
  rw [← hw1] at c
  have K1 : Hid (Kp (fun _ => False) w w1) := by rw [hw1]; exact (Kp.refl _ _).drewN nn
  obtain ⟨_, _, _, c3, _, c5, c6, _, _, _, _, _⟩ := c
  clear hw1
  go_wp2_with fail
  go_ret
  exact ⟨rfl, K1.out⟩

set_option maxRecDepth 100000 in
set_option maxHeartbeats 2000000 in
theorem xput_fh1 (q : Nat) (r : Pu.Rule) (x : Pu.Shape) (age : Int) (g1 g2 : Nat) (v : Value) (X Y s : Int) (w : World) (h : HdAt w q r x age g1 g2 v) (hin : (onSideB X x.w && onSideB Y x.h) = true) (bw : (x.w == 0) = false) (bh : (x.h == 0) = true) (hY : Y < -9999) :
    Calls Tryz.prog 20 #[.pointer (some ⟨q, 0, none⟩), .int .i64 X, .int .i64 Y, .int .i64 s] w fun e w' => e = .returned (.int .i64 5) ∧ Kp (fun _ => False) w w' := by
  have HH := hide (xhas_any q _ x.w x.h X Y w h.va rfl rfl)
  rw [hin] at HH
  have HC : Hid (∀ n, HdC (w.drewN n) q r x age g1 g2) := fun n => (h.keep ((Kp.refl _ w).drewN n)).cells
  clear hin h
  go_enter Tryz.func20, Tryz.ntmps20
  go_wp2_with fail
  refine HH.out.mono ?_
  rintro e w1 ⟨rfl, nn, hw1⟩
  have c := HC.out nn
  rw [← hw1] at c
  have K1 : Hid (Kp (fun _ => False) w w1) := by rw [hw1]; exact (Kp.refl _ _).drewN nn
  obtain ⟨_, _, _, c3, _, c5, c6, _, _, _, _, _⟩ := c
  clear hw1
  go_wp2_with fail
  go_ret
  exact ⟨rfl, K1.out⟩

set_option maxRecDepth 100000 in
set_option maxHeartbeats 2000000 in
theorem xput_fh2 (q : Nat) (r : Pu.Rule) (x : Pu.Shape) (age : Int) (g1 g2 : Nat) (v : Value) (X Y s : Int) (w : World) (h : HdAt w q r x age g1 g2 v) (hin : (onSideB X x.w && onSideB Y x.h) = true) (bw : (x.w == 0) = false) (bh : (x.h == 0) = true) (hY : 9999 < Y) :
    Calls Tryz.prog 20 #[.pointer (some ⟨q, 0, none⟩), .int .i64 X, .int .i64 Y, .int .i64 s] w fun e w' => e = .returned (.int .i64 5) ∧ Kp (fun _ => False) w w' := by
  have HH := hide (xhas_any q _ x.w x.h X Y w h.va rfl rfl)
  rw [hin] at HH
  have HC : Hid (∀ n, HdC (w.drewN n) q r x age g1 g2) := fun n => (h.keep ((Kp.refl _ w).drewN n)).cells
  clear hin h
  go_enter Tryz.func20, Tryz.ntmps20
  go_wp2_with fail
  refine HH.out.mono ?_
  rintro e w1 ⟨rfl, nn, hw1⟩
  have c := HC.out nn
  rw [← hw1] at c
  have K1 : Hid (Kp (fun _ => False) w w1) := by rw [hw1]; exact (Kp.refl _ _).drewN nn
  obtain ⟨_, _, _, c3, _, c5, c6, _, _, _, _, _⟩ := c
  clear hw1
  go_wp2_with fail
  go_ret
  exact ⟨rfl, K1.out⟩

set_option maxRecDepth 100000 in
set_option maxHeartbeats 2000000 in
theorem xput_sn1 (q : Nat) (r : Pu.Rule) (x : Pu.Shape) (age : Int) (g1 g2 : Nat) (v : Value) (X Y s : Int) (w : World) (h : HdAt w q r x age g1 g2 v) (hin : (onSideB X x.w && onSideB Y x.h) = true) (bw : (x.w == 0) = false) (bh : (x.h == 0) = false) (hs : s < 0) :
    Calls Tryz.prog 20 #[.pointer (some ⟨q, 0, none⟩), .int .i64 X, .int .i64 Y, .int .i64 s] w fun e w' => e = .returned (.int .i64 6) ∧ Kp (fun _ => False) w w' := by
  have HH := hide (xhas_any q _ x.w x.h X Y w h.va rfl rfl)
  rw [hin] at HH
  have HC : Hid (∀ n, HdC (w.drewN n) q r x age g1 g2) := fun n => (h.keep ((Kp.refl _ w).drewN n)).cells
  clear hin h
  go_enter Tryz.func20, Tryz.ntmps20
  go_wp2_with fail
  refine HH.out.mono ?_
  rintro e w1 ⟨rfl, nn, hw1⟩
  have c := HC.out nn
  rw [← hw1] at c
  have K1 : Hid (Kp (fun _ => False) w w1) := by rw [hw1]; exact (Kp.refl _ _).drewN nn
  obtain ⟨_, _, _, c3, _, c5, c6, _, _, _, _, _⟩ := c
  clear hw1
  go_wp2_with fail
  go_ret
  exact ⟨rfl, K1.out⟩

set_option maxRecDepth 100000 in
set_option maxHeartbeats 2000000 in
theorem xput_sn2 (q : Nat) (r : Pu.Rule) (x : Pu.Shape) (age : Int) (g1 g2 : Nat) (v : Value) (X Y s : Int) (w : World) (h : HdAt w q r x age g1 g2 v) (hin : (onSideB X x.w && onSideB Y x.h) = true) (bw : (x.w == 0) = false) (bh : (x.h == 0) = false) (hs0 : 0 ≤ s) (hs : r.states ≤ s) :
    Calls Tryz.prog 20 #[.pointer (some ⟨q, 0, none⟩), .int .i64 X, .int .i64 Y, .int .i64 s] w fun e w' => e = .returned (.int .i64 6) ∧ Kp (fun _ => False) w w' := by
  have HH := hide (xhas_any q _ x.w x.h X Y w h.va rfl rfl)
  rw [hin] at HH
  have HC : Hid (∀ n, HdC (w.drewN n) q r x age g1 g2) := fun n => (h.keep ((Kp.refl _ w).drewN n)).cells
  clear hin h
  go_enter Tryz.func20, Tryz.ntmps20
  go_wp2_with fail
  refine HH.out.mono ?_
  rintro e w1 ⟨rfl, nn, hw1⟩
  have c := HC.out nn
  rw [← hw1] at c
  have K1 : Hid (Kp (fun _ => False) w w1) := by rw [hw1]; exact (Kp.refl _ _).drewN nn
  obtain ⟨_, _, _, c3, _, c5, c6, _, _, _, _, _⟩ := c
  clear hw1
  go_wp2_with fail
  go_ret
  exact ⟨rfl, K1.out⟩

set_option maxRecDepth 100000 in
set_option maxHeartbeats 2000000 in
theorem xput_sw1 (q : Nat) (r : Pu.Rule) (x : Pu.Shape) (age : Int) (g1 g2 : Nat) (v : Value) (X Y s : Int) (w : World) (h : HdAt w q r x age g1 g2 v) (hin : (onSideB X x.w && onSideB Y x.h) = true) (bw : (x.w == 0) = true) (hX : -9999 ≤ X ∧ X ≤ 9999) (bh : (x.h == 0) = false) (hs : s < 0) :
    Calls Tryz.prog 20 #[.pointer (some ⟨q, 0, none⟩), .int .i64 X, .int .i64 Y, .int .i64 s] w fun e w' => e = .returned (.int .i64 6) ∧ Kp (fun _ => False) w w' := by
  have HH := hide (xhas_any q _ x.w x.h X Y w h.va rfl rfl)
  rw [hin] at HH
  have HC : Hid (∀ n, HdC (w.drewN n) q r x age g1 g2) := fun n => (h.keep ((Kp.refl _ w).drewN n)).cells
  clear hin h
  go_enter Tryz.func20, Tryz.ntmps20
  go_wp2_with fail
  refine HH.out.mono ?_
  rintro e w1 ⟨rfl, nn, hw1⟩
  have c := HC.out nn
  rw [← hw1] at c
  have K1 : Hid (Kp (fun _ => False) w w1) := by rw [hw1]; exact (Kp.refl _ _).drewN nn
  obtain ⟨_, _, _, c3, _, c5, c6, _, _, _, _, _⟩ := c
  clear hw1
  go_wp2_with fail
  go_ret
  exact ⟨rfl, K1.out⟩

set_option maxRecDepth 100000 in
set_option maxHeartbeats 2000000 in
theorem xput_sw2 (q : Nat) (r : Pu.Rule) (x : Pu.Shape) (age : Int) (g1 g2 : Nat) (v : Value) (X Y s : Int) (w : World) (h : HdAt w q r x age g1 g2 v) (hin : (onSideB X x.w && onSideB Y x.h) = true) (bw : (x.w == 0) = true) (hX : -9999 ≤ X ∧ X ≤ 9999) (bh : (x.h == 0) = false) (hs0 : 0 ≤ s) (hs : r.states ≤ s) :
    Calls Tryz.prog 20 #[.pointer (some ⟨q, 0, none⟩), .int .i64 X, .int .i64 Y, .int .i64 s] w fun e w' => e = .returned (.int .i64 6) ∧ Kp (fun _ => False) w w' := by
  have HH := hide (xhas_any q _ x.w x.h X Y w h.va rfl rfl)
  rw [hin] at HH
  have HC : Hid (∀ n, HdC (w.drewN n) q r x age g1 g2) := fun n => (h.keep ((Kp.refl _ w).drewN n)).cells
  clear hin h
  go_enter Tryz.func20, Tryz.ntmps20
  go_wp2_with fail
  refine HH.out.mono ?_
  rintro e w1 ⟨rfl, nn, hw1⟩
  have c := HC.out nn
  rw [← hw1] at c
  have K1 : Hid (Kp (fun _ => False) w w1) := by rw [hw1]; exact (Kp.refl _ _).drewN nn
  obtain ⟨_, _, _, c3, _, c5, c6, _, _, _, _, _⟩ := c
  clear hw1
  go_wp2_with fail
  go_ret
  exact ⟨rfl, K1.out⟩

set_option maxRecDepth 100000 in
set_option maxHeartbeats 2000000 in
theorem xput_sh1 (q : Nat) (r : Pu.Rule) (x : Pu.Shape) (age : Int) (g1 g2 : Nat) (v : Value) (X Y s : Int) (w : World) (h : HdAt w q r x age g1 g2 v) (hin : (onSideB X x.w && onSideB Y x.h) = true) (bw : (x.w == 0) = false) (bh : (x.h == 0) = true) (hY : -9999 ≤ Y ∧ Y ≤ 9999) (hs : s < 0) :
    Calls Tryz.prog 20 #[.pointer (some ⟨q, 0, none⟩), .int .i64 X, .int .i64 Y, .int .i64 s] w fun e w' => e = .returned (.int .i64 6) ∧ Kp (fun _ => False) w w' := by
  have HH := hide (xhas_any q _ x.w x.h X Y w h.va rfl rfl)
  rw [hin] at HH
  have HC : Hid (∀ n, HdC (w.drewN n) q r x age g1 g2) := fun n => (h.keep ((Kp.refl _ w).drewN n)).cells
  clear hin h
  go_enter Tryz.func20, Tryz.ntmps20
  go_wp2_with fail
  refine HH.out.mono ?_
  rintro e w1 ⟨rfl, nn, hw1⟩
  have c := HC.out nn
  rw [← hw1] at c
  have K1 : Hid (Kp (fun _ => False) w w1) := by rw [hw1]; exact (Kp.refl _ _).drewN nn
  obtain ⟨_, _, _, c3, _, c5, c6, _, _, _, _, _⟩ := c
  clear hw1
  go_wp2_with fail
  go_ret
  exact ⟨rfl, K1.out⟩

set_option maxRecDepth 100000 in
set_option maxHeartbeats 2000000 in
theorem xput_sh2 (q : Nat) (r : Pu.Rule) (x : Pu.Shape) (age : Int) (g1 g2 : Nat) (v : Value) (X Y s : Int) (w : World) (h : HdAt w q r x age g1 g2 v) (hin : (onSideB X x.w && onSideB Y x.h) = true) (bw : (x.w == 0) = false) (bh : (x.h == 0) = true) (hY : -9999 ≤ Y ∧ Y ≤ 9999) (hs0 : 0 ≤ s) (hs : r.states ≤ s) :
    Calls Tryz.prog 20 #[.pointer (some ⟨q, 0, none⟩), .int .i64 X, .int .i64 Y, .int .i64 s] w fun e w' => e = .returned (.int .i64 6) ∧ Kp (fun _ => False) w w' := by
  have HH := hide (xhas_any q _ x.w x.h X Y w h.va rfl rfl)
  rw [hin] at HH
  have HC : Hid (∀ n, HdC (w.drewN n) q r x age g1 g2) := fun n => (h.keep ((Kp.refl _ w).drewN n)).cells
  clear hin h
  go_enter Tryz.func20, Tryz.ntmps20
  go_wp2_with fail
  refine HH.out.mono ?_
  rintro e w1 ⟨rfl, nn, hw1⟩
  have c := HC.out nn
  rw [← hw1] at c
  have K1 : Hid (Kp (fun _ => False) w w1) := by rw [hw1]; exact (Kp.refl _ _).drewN nn
  obtain ⟨_, _, _, c3, _, c5, c6, _, _, _, _, _⟩ := c
  clear hw1
  go_wp2_with fail
  go_ret
  exact ⟨rfl, K1.out⟩

/-- What the document's Put answers. -/
def putE (r : Pu.Rule) (x : Pu.Shape) (l : List Cl) (X Y s : Int) : Int := if hasB x X Y = true ∧ nearB x X Y = true then (if 0 ≤ s ∧ s < r.states then (if roomB x.w x.h (putC X Y s l) = true then 0 else 4) else 6) else 5
theorem xput_any (q : Nat) (r : Pu.Rule) (x : Pu.Shape) (age : Int) (l : List Cl) (X Y s : Int) (w : World) (h : DocAt w q r x age l) (hx : Pu.ShapeOk x) (hl : l.length ≤ 1000) (hbd : ClBd l) :
    Calls Tryz.prog 20 #[.pointer (some ⟨q, 0, none⟩), .int .i64 X, .int .i64 Y, .int .i64 s] w fun e w' => e = .returned (.int .i64 (putE r x l X Y s)) ∧ DocAt w' q r x age (if putE r x l X Y s = 0 then putC X Y s l else l) ∧ Kp (· = q) w w' := by
  obtain ⟨g1, g2, v, hv, s1, s2, hc⟩ := h.at1
  have hd : HdAt w q r x age g1 g2 v := ⟨hv, s1, s2⟩
  have one := hx.one
  have w0 := hx.w0
  have h0 := hx.h0
  have w12 := hx.w12
  have h12 := hx.h12
  have fin : ∀ n : Int, n ≠ 0 → putE r x l X Y s = n → (∀ (e : Ending) (w' : World), (e = .returned (.int .i64 n) ∧ Kp (fun _ => False) w w') → (e = .returned (.int .i64 (putE r x l X Y s)) ∧ DocAt w' q r x age (if putE r x l X Y s = 0 then putC X Y s l else l) ∧ Kp (· = q) w w')) := by
    intro n hn e1 e w' hh
    rw [e1, if_neg hn]
    exact ⟨hh.1, ⟨g1, g2, v, hv.keep hh.2 (fun h => h), s1.keep hh.2 (fun h => h), s2.keep hh.2 (fun h => h), hc.keep hh.2 (fun _ _ h => h)⟩, hh.2.mono (fun _ h => absurd h id)⟩
  by_cases h1 : hasB x X Y = true
  · have h1' : (onSideB X x.w && onSideB Y x.h) = true := h1
    by_cases h2 : nearB x X Y = true
    · have sp := spot_of hx h1 h2
      have xb := sp.xb
      have yb := sp.yb
      by_cases h3 : 0 ≤ s ∧ s < r.states
      · have pe : putE r x l X Y s = if roomB x.w x.h (putC X Y s l) = true then 0 else 4 := by unfold putE; rw [if_pos ⟨h1, h2⟩, if_pos h3]
        have use : ∀ (e : Ending) (w' : World), PutIn w q r x age g1 g2 (putC X Y s l) e w' → (e = .returned (.int .i64 (putE r x l X Y s)) ∧ DocAt w' q r x age (if putE r x l X Y s = 0 then putC X Y s l else l) ∧ Kp (· = q) w w') := by
          intro e w' hp
          unfold PutIn at hp
          by_cases c : roomB x.w x.h (putC X Y s l) = true
          · rw [if_pos c] at hp pe
            obtain ⟨e1, ⟨v', hd', hc'⟩, k⟩ := hp
            rw [pe, if_pos rfl]
            exact ⟨e1, ⟨g1, g2, v', hd'.va, hd'.s1, hd'.s2, hc'⟩, k⟩
          · rw [if_neg c] at hp pe
            exact fin 4 (by omega) pe e w' hp
        by_cases bw : x.w = 0
        · exact (xput_in_w q r x age g1 g2 v l X Y s w hd hc hl hbd h1' xb yb (by rw [bw]; rfl) (by rw [beq_eq_false_iff_ne]; omega) h3.1 h3.2).mono use
        · by_cases bh : x.h = 0
          · exact (xput_in_h q r x age g1 g2 v l X Y s w hd hc hl hbd h1' xb yb (by rw [beq_eq_false_iff_ne]; omega) (by rw [bh]; rfl) h3.1 h3.2).mono use
          · exact (xput_in_n q r x age g1 g2 v l X Y s w hd hc hl hbd h1' xb yb (by rw [beq_eq_false_iff_ne]; omega) (by rw [beq_eq_false_iff_ne]; omega) h3.1 h3.2).mono use
      · have pe : putE r x l X Y s = 6 := by unfold putE; rw [if_pos ⟨h1, h2⟩, if_neg h3]
        have use := fin 6 (by omega) pe
        by_cases bw : x.w = 0
        · have b1 : (x.w == 0) = true := by rw [bw]; rfl
          have b2 : (x.h == 0) = false := by rw [beq_eq_false_iff_ne]; omega
          by_cases hs : s < 0
          · exact (xput_sw1 q r x age g1 g2 v X Y s w hd h1' b1 xb b2 hs).mono use
          · exact (xput_sw2 q r x age g1 g2 v X Y s w hd h1' b1 xb b2 (by omega) (by omega)).mono use
        · have b1 : (x.w == 0) = false := by rw [beq_eq_false_iff_ne]; omega
          by_cases bh : x.h = 0
          · have b2 : (x.h == 0) = true := by rw [bh]; rfl
            by_cases hs : s < 0
            · exact (xput_sh1 q r x age g1 g2 v X Y s w hd h1' b1 b2 yb hs).mono use
            · exact (xput_sh2 q r x age g1 g2 v X Y s w hd h1' b1 b2 yb (by omega) (by omega)).mono use
          · have b2 : (x.h == 0) = false := by rw [beq_eq_false_iff_ne]; omega
            by_cases hs : s < 0
            · exact (xput_sn1 q r x age g1 g2 v X Y s w hd h1' b1 b2 hs).mono use
            · exact (xput_sn2 q r x age g1 g2 v X Y s w hd h1' b1 b2 (by omega) (by omega)).mono use
    · have pe : putE r x l X Y s = 5 := by unfold putE; rw [if_neg (fun h => h2 h.2)]
      have use := fin 5 (by omega) pe
      unfold nearB nearOnB at h2
      rw [Bool.and_eq_true, decide_eq_true_iff, decide_eq_true_iff] at h2
      by_cases bw : x.w = 0
      · have b1 : (x.w == 0) = true := by rw [bw]; rfl
        by_cases hX : X < -9999
        · exact (xput_fw1 q r x age g1 g2 v X Y s w hd h1' b1 hX).mono use
        · exact (xput_fw2 q r x age g1 g2 v X Y s w hd h1' b1 (by omega)).mono use
      · have b1 : (x.w == 0) = false := by rw [beq_eq_false_iff_ne]; omega
        have b2 : (x.h == 0) = true := by rw [beq_iff_eq]; omega
        by_cases hY : Y < -9999
        · exact (xput_fh1 q r x age g1 g2 v X Y s w hd h1' b1 b2 hY).mono use
        · exact (xput_fh2 q r x age g1 g2 v X Y s w hd h1' b1 b2 (by have : x.h = 0 := by simpa using b2
                                                                     omega)).mono use
  · have pe : putE r x l X Y s = 5 := by unfold putE; rw [if_neg (fun h => h1 h.1)]
    have h1' : (onSideB X x.w && onSideB Y x.h) = false := by
      have : hasB x X Y = false := by simpa using h1
      exact this
    exact (xput_no q r x age g1 g2 v X Y s w hd h1').mono (fin 5 (by omega) pe)

set_option maxHeartbeats 1000000 in
theorem xfolds_any (q : Nat) (k : Int) (w : World) (c4 : w.cell? ⟨q, 4, none⟩ = some (.int .u8 k)) : Calls Tryz.prog 33 #[.pointer (some ⟨q, 0, none⟩)] w fun e w' => e = .returned (.bool (decide (k = 84 ∨ k = 75 ∨ k = 67))) ∧ w' = w := by
  by_cases e1 : k = 84
  · subst e1
    rw [decide_eq_true (by omega)]
    go_enter Tryz.func33, Tryz.ntmps33
    go_wp2
    go_ret
    exact ⟨rfl, rfl⟩
  · have b1 : (k == 84) = false := by simpa using e1
    by_cases e2 : k = 75
    · subst e2
      rw [decide_eq_true (by omega)]
      clear b1 e1
      go_enter Tryz.func33, Tryz.ntmps33
      go_wp2
      go_ret
      exact ⟨rfl, rfl⟩
    · have b2 : (k == 75) = false := by simpa using e2
      by_cases e3 : k = 67
      · subst e3
        rw [decide_eq_true (by omega)]
        clear b1 e1 b2 e2
        go_enter Tryz.func33, Tryz.ntmps33
        go_wp2
        go_ret
        exact ⟨rfl, rfl⟩
      · have b3 : (k == 67) = false := by simpa using e3
        rw [decide_eq_false (by omega)]
        clear e1 e2 e3
        go_enter Tryz.func33, Tryz.ntmps33
        go_wp2
        go_ret
        exact ⟨rfl, rfl⟩
/-- The cell that (X, Y) is. -/
def getX (x : Pu.Shape) (X Y : Int) : Int := if x.kind = 84 ∨ x.kind = 75 ∨ x.kind = 67 then foldX x X Y else X
def getY (x : Pu.Shape) (X Y : Int) : Int := if x.kind = 84 ∨ x.kind = 75 ∨ x.kind = 67 then foldY x X Y else Y
set_option maxRecDepth 100000 in
set_option maxHeartbeats 1000000 in
theorem xget_any (q : Nat) (r : Pu.Rule) (x : Pu.Shape) (age : Int) (l : List Cl) (X Y : Int) (w : World) (h : DocAt w q r x age l) (hx : Pu.ShapeOk x) (hk : KindB x) (ho : OneB x) (hl : l.length ≤ 1000000) (hX : -9223372036854775808 ≤ X ∧ X ≤ 9223372036854775807) (hY : -9223372036854775808 ≤ Y ∧ Y ≤ 9223372036854775807) :
    Calls Tryz.prog 18 #[.pointer (some ⟨q, 0, none⟩), .int .i64 X, .int .i64 Y] w fun e w' => e = .returned (.int .i64 (atL l (getX x X Y) (getY x X Y))) ∧ Kp (fun _ => False) w w' := by
  obtain ⟨g1, g2, v, hv, s1, s2, hc⟩ := h.at1
  have hd : HdAt w q r x age g1 g2 v := ⟨hv, s1, s2⟩
  have HC := hide hc
  have HD := hide hd
  obtain ⟨_, _, _, _, c4, c5, c6, c7, c8, c9, c10, _⟩ := hd.cells
  have FO := hide (xfolds_any q x.kind w c4)
  have FD := hide (xfold_any q x X Y w hx hk ho hX hY c4 c5 c6 c7 c8 c9 c10)
  have AT := hide (fun A B wx (hx : ClAt wx v l) => xat_any v l A B wx hx hl)
  have CE := hide (fun wx (hx : HdAt wx q r x age g1 g2 v) => hx.c12)
  clear h hx hk ho hv s1 s2 hc hd c4 c5 c6 c7 c8 c9 c10
  unfold getX getY
  by_cases e : x.kind = 84 ∨ x.kind = 75 ∨ x.kind = 67
  · rw [decide_eq_true e] at FO
    rw [if_pos e, if_pos e]
    generalize foldX x X Y = A at *
    generalize foldY x X Y = B at *
    clear e
    go_enter Tryz.func18, Tryz.ntmps18
    go_wp2_with fail
    refine FO.out.mono ?_
    rintro e w1 ⟨rfl, hw1⟩
    subst w1
    go_wp2_with fail
    refine FD.out.mono ?_
    rintro e w1 ⟨rfl, k1⟩
    have K1 := hide k1
    have D1 := hide (HD.out.keep k1)
    have C1 := hide (HC.out.keep k1 (fun _ _ h => h))
    have c12 := CE.out w1 D1.out
    clear k1
    go_wp2_with fail
    refine (AT.out _ _ _ C1.out).mono ?_
    rintro e w2 ⟨rfl, hw2⟩
    subst w2
    go_wp2_with fail
    go_ret
    exact ⟨rfl, K1.out⟩
  · rw [decide_eq_false e] at FO
    rw [if_neg e, if_neg e]
    have c12 := CE.out w HD.out
    clear e FD
    go_enter Tryz.func18, Tryz.ntmps18
    go_wp2_with fail
    refine FO.out.mono ?_
    rintro e w1 ⟨rfl, hw1⟩
    subst w1
    go_wp2_with fail
    refine (AT.out _ _ _ HC.out).mono ?_
    rintro e w2 ⟨rfl, hw2⟩
    subst w2
    go_wp2_with fail
    go_ret
    exact ⟨rfl, Kp.refl _ _⟩
set_option maxHeartbeats 1000000 in
theorem xcount_any (q : Nat) (r : Pu.Rule) (x : Pu.Shape) (age : Int) (l : List Cl) (w : World) (h : DocAt w q r x age l) : Calls Tryz.prog 22 #[.pointer (some ⟨q, 0, none⟩)] w fun e w' => e = .returned (.int .i64 l.length) ∧ w' = w := by
  obtain ⟨g1, g2, v, hv, s1, s2, hc⟩ := h.at1
  have c12 : w.cell? ⟨q, 12, none⟩ = some v := (⟨hv, s1, s2⟩ : HdAt w q r x age g1 g2 v).c12
  obtain ⟨ad, cap, ev, _⟩ := hc.form
  subst ev
  clear h hv s1 s2 hc
  go_enter Tryz.func22, Tryz.ntmps22
  go_wp2
  go_ret
  exact ⟨rfl, rfl⟩
end Go.Proofs.YthmhjjkmnnmjlaaGreatDoor
