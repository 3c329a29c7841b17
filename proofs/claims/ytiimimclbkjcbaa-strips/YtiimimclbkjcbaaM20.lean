import Derived.Test.YtiimimclbkjcbaaJf
import Derived.Test.YtiimimclbkjcbaaJh
import Derived.Test.YtiimimclbkjcbaaM18
import Derived.Test.YtiimimclbkjcbaaKa
import Derived.Deep.RegionWith
namespace Go.Proofs.Ytiimimclbkjcbaa
open Go.RowKit
open Go.Proofs

/-- The wish's cells with a dead edge around them. -/
def edgeF (v : Wish) (c : Int) (W H : Nat) (x y : Nat) : Int := if 1 ≤ x ∧ x ≤ W ∧ 1 ≤ y ∧ y ≤ H then stP v c ((y - 1) * W + (x - 1)) else 0
theorem edgeF_bd (v : Wish) (c : Int) (W H x y : Nat) (hc : 2 ≤ c) : 0 ≤ edgeF v c W H x y ∧ edgeF v c W H x y < c := by
  unfold edgeF
  split
  · exact stP_bd v c _ hc
  · omega
theorem fillS_G (v : Wish) (c : Int) (k : Nat) : fillS v c k = fillG (stP v c) k := rfl
theorem flat_lt {W H i j : Nat} (hi : i < W) (hj : j < H) : j * W + i < H * W := by
  have h1 : (j + 1) * W ≤ H * W := Nat.mul_le_mul_right W hj
  rw [Nat.add_mul] at h1
  omega
theorem plane_edge (v : Wish) (p : Pu.Plan) (hp : Pu.PlanOk p) (W H i j a b : Nat) (hW : p.w = W) (hH : p.h = H) :
    planeG (Pu.shapeOf p) (fillS v p.c (H * W)) ((i : Int) + ((a : Int) - 1)) ((j : Int) + ((b : Int) - 1)) = edgeF v p.c W H (i + a) (j + b) := by
  have hw := hp.w
  have hh := hp.h
  have HW : H * W ≤ 144 := Nat.mul_le_mul (show H ≤ 12 by omega) (show W ≤ 12 by omega)
  unfold planeG edgeF
  by_cases hin : 1 ≤ i + a ∧ i + a ≤ W ∧ 1 ≤ j + b ∧ j + b ≤ H
  · rw [if_pos hin]
    have e1 : (i : Int) + ((a : Int) - 1) = ((i + a - 1 : Nat) : Int) := by omega
    have e2 : (j : Int) + ((b : Int) - 1) = ((j + b - 1 : Nat) : Int) := by omega
    rw [e1, e2]
    have hA : 0 ≤ ((i + a - 1 : Nat) : Int) ∧ ((i + a - 1 : Nat) : Int) < (Pu.shapeOf p).w := by show _ ∧ _ < p.w; omega
    have hB : 0 ≤ ((j + b - 1 : Nat) : Int) ∧ ((j + b - 1 : Nat) : Int) < (Pu.shapeOf p).h := by show _ ∧ _ < p.h; omega
    rw [if_pos (has_two (two_plan hp) hA hB).1]
    have sl := slot_two (two_plan hp) hA hB
    unfold getP
    rw [sl.1, if_neg (by omega)]
    have e3 : (((j + b - 1 : Nat) : Int) * (Pu.shapeOf p).w + ((i + a - 1 : Nat) : Int)).toNat = (j + b - 1) * W + (i + a - 1) := by
      show (((j + b - 1 : Nat) : Int) * p.w + ((i + a - 1 : Nat) : Int)).toNat = _
      rw [hW, ← Int.natCast_mul, ← Int.natCast_add]
      rfl
    rw [e3, fillS_G, fillG_at]
    have hl := flat_lt (W := W) (H := H) (i := i + a - 1) (j := j + b - 1) (by omega) (by omega)
    rw [if_pos (by omega)]
  · rw [if_neg hin]
    have hno : hasB (Pu.shapeOf p) ((i : Int) + ((a : Int) - 1)) ((j : Int) + ((b : Int) - 1)) = false := by
      unfold hasB onSideB Pu.shapeOf
      simp
      omega
    rw [hno, if_neg (by simp)]
theorem ages_eq (v : Wish) (p : Pu.Plan) (hp : Pu.PlanOk p) (W H i j : Nat) (hW : p.w = W) (hH : p.h = H) (hi : i < W) (hj : j < H) :
    (stepN (Pu.ruleOf p) (planeG (Pu.shapeOf p)) W H 1 (fillS v p.c (H * W))).getD (j * W + i) 0 = onF p (edgeF v p.c W H) i j := by
  have hw := hp.w
  have hh := hp.h
  have hc := hp.c
  have HW : H * W ≤ 144 := Nat.mul_le_mul (show H ≤ 12 by omega) (show W ≤ 12 by omega)
  have hl := flat_lt (W := W) (H := H) hi hj
  show (nextS _ _ W H (fillS v p.c (H * W))).getD (j * W + i) 0 = _
  unfold nextS
  rw [fillG_at, if_pos (by omega), nxv_at _ _ _ W i j hi]
  have e1 : (fillS v p.c (H * W)).getD (j * W + i) 0 = stP v p.c (j * W + i) := by rw [fillS_G, fillG_at, if_pos (by omega)]
  have e2 : edgeF v p.c W H (i + 1) (j + 1) = stP v p.c (j * W + i) := by
    unfold edgeF
    rw [if_pos (by omega)]
    rfl
  have e3 : ones9 (onesW (Pu.ruleOf p).around fun a b => planeG (Pu.shapeOf p) (fillS v p.c (H * W)) ((i : Int) + ((a : Int) - 1)) ((j : Int) + ((b : Int) - 1))) 9 = ones9 (onesF p (edgeF v p.c W H) i j) 9 := by
    apply ones9_congr
    intro a b ha hab
    unfold onesW onesF
    show (nearR p.near ((a : Int) - 1) ((b : Int) - 1) && (planeG (Pu.shapeOf p) (fillS v p.c (H * W)) ((i : Int) + ((a : Int) - 1)) ((j : Int) + ((b : Int) - 1)) == 1)) = _
    rw [plane_edge v p hp W H i j a b hW hH]
    rw [near_counts hp.near (by omega) (by omega)]
  rw [e3, e1]
  unfold onF
  rw [e2]
  refine next_next ?_ ?_
  · exact stP_bd v p.c _ hc.1
  · have := ones9_8 (onesF p (edgeF v p.c W H) i j) (by unfold onesF countsP; simp)
    omega
theorem fillS_ok (v : Wish) (p : Pu.Plan) (hp : Pu.PlanOk p) (k : Nat) : StOk (Pu.ruleOf p) (fillS v p.c k) := by
  have hc := hp.c
  refine ⟨by rw [fillS_G]; exact fillG_len _ _, fun m => ?_⟩
  rw [fillS_G, fillG_at]
  show 0 ≤ _ ∧ _ < p.c
  split
  · exact stP_bd v p.c _ hc.1
  · omega
theorem plan_shape {p : Pu.Plan} (hp : Pu.PlanOk p) : Pu.ShapeOk (Pu.shapeOf p) := by
  have hw := hp.w
  have hh := hp.h
  have ht := hp.torus
  refine ⟨hp.kind, ?_, hw.2, ?_, hh.2, ?_, ?_, ?_, ?_⟩
  · show 0 ≤ p.w; omega
  · show 0 ≤ p.h; omega
  · left; show p.w ≠ 0; omega
  · show 0 ≤ p.sw ∧ (p.sw = 0 ∨ p.sw < p.w); omega
  · show 0 ≤ p.sh ∧ (p.sh = 0 ∨ p.sh < p.h); omega
  · intro h
    have h2 : p.w = 0 ∨ p.h = 0 := h
    omega
end Go.Proofs.Ytiimimclbkjcbaa
namespace Go.Proofs.Ytiimimclbkjcbaa
open Go.RowKit
open Go.Proofs

/-- A count over the nine does not hang on the order. -/
theorem ones9_sum (f : Nat → Nat → Bool) : ones9 f 9 = (if f 0 0 = true then 1 else 0) + (if f 1 0 = true then 1 else 0) + (if f 2 0 = true then 1 else 0) + (if f 0 1 = true then 1 else 0) + (if f 1 1 = true then 1 else 0) + (if f 2 1 = true then 1 else 0) + (if f 0 2 = true then 1 else 0) + (if f 1 2 = true then 1 else 0) + (if f 2 2 = true then 1 else 0) := by
  have h0 : ones9 f 0 = 0 := rfl
  have h1 := ones9_at f 0 0 (by omega)
  have h2 := ones9_at f 1 0 (by omega)
  have h3 := ones9_at f 2 0 (by omega)
  have h4 := ones9_at f 0 1 (by omega)
  have h5 := ones9_at f 1 1 (by omega)
  have h6 := ones9_at f 2 1 (by omega)
  have h7 := ones9_at f 0 2 (by omega)
  have h8 := ones9_at f 1 2 (by omega)
  have h9 := ones9_at f 2 2 (by omega)
  simp only [Nat.mul_zero, Nat.zero_add, Nat.reduceMul, Nat.reduceAdd, Nat.add_zero] at h1 h2 h3 h4 h5 h6 h7 h8 h9
  rw [h9, h8, h7, h6, h5, h4, h3, h2, h1, h0, Nat.zero_add]
theorem ones9_mirror (f g : Nat → Nat → Bool) (h : ∀ a b, a < 3 → b < 3 → f a b = g (2 - a) b) : ones9 f 9 = ones9 g 9 := by
  rw [ones9_sum, ones9_sum, h 0 0 (by omega) (by omega), h 1 0 (by omega) (by omega), h 2 0 (by omega) (by omega), h 0 1 (by omega) (by omega), h 1 1 (by omega) (by omega), h 2 1 (by omega) (by omega), h 0 2 (by omega) (by omega), h 1 2 (by omega) (by omega), h 2 2 (by omega) (by omega)]
  show _ = _
  simp only [Nat.sub_zero, Nat.reduceSub]
  omega
theorem ones9_turn (f g : Nat → Nat → Bool) (h : ∀ a b, a < 3 → b < 3 → f a b = g b a) : ones9 f 9 = ones9 g 9 := by
  rw [ones9_sum, ones9_sum, h 0 0 (by omega) (by omega), h 1 0 (by omega) (by omega), h 2 0 (by omega) (by omega), h 0 1 (by omega) (by omega), h 1 1 (by omega) (by omega), h 2 1 (by omega) (by omega), h 0 2 (by omega) (by omega), h 1 2 (by omega) (by omega), h 2 2 (by omega) (by omega)]
  omega
theorem ones9_flip (f g : Nat → Nat → Bool) (h : ∀ a b, a < 3 → b < 3 → f a b = g a (2 - b)) : ones9 f 9 = ones9 g 9 := by
  rw [ones9_sum, ones9_sum, h 0 0 (by omega) (by omega), h 1 0 (by omega) (by omega), h 2 0 (by omega) (by omega), h 0 1 (by omega) (by omega), h 1 1 (by omega) (by omega), h 2 1 (by omega) (by omega), h 0 2 (by omega) (by omega), h 1 2 (by omega) (by omega), h 2 2 (by omega) (by omega)]
  show _ = _
  simp only [Nat.sub_zero, Nat.reduceSub]
  omega
/-- M and V are the same in the mirror; all three are the same turned. -/
theorem nearR_mirror {a : Int} (ha : a = 77 ∨ a = 86) (x y : Nat) (hx : x < 3) (hy : y < 3) : nearR a ((x : Int) - 1) ((y : Int) - 1) = nearR a (((2 - x : Nat) : Int) - 1) ((y : Int) - 1) := by
  have h1 : x = 0 ∨ x = 1 ∨ x = 2 := by omega
  have h2 : y = 0 ∨ y = 1 ∨ y = 2 := by omega
  rcases ha with rfl | rfl <;> rcases h1 with rfl | rfl | rfl <;> rcases h2 with rfl | rfl | rfl <;> decide
theorem nearR_turn {a : Int} (ha : a = 77 ∨ a = 86 ∨ a = 72) (x y : Nat) (hx : x < 3) (hy : y < 3) : nearR a ((x : Int) - 1) ((y : Int) - 1) = nearR a ((y : Int) - 1) ((x : Int) - 1) := by
  have h1 : x = 0 ∨ x = 1 ∨ x = 2 := by omega
  have h2 : y = 0 ∨ y = 1 ∨ y = 2 := by omega
  rcases ha with rfl | rfl | rfl <;> rcases h1 with rfl | rfl | rfl <;> rcases h2 with rfl | rfl | rfl <;> decide

theorem nextS_at (r : Pu.Rule) (G : List Int → Int → Int → Int) (W H : Nat) (S : List Int) (i j : Nat) (hi : i < W) (hj : j < H) (hWH : H * W ≤ 144) :
    (nextS r G W H S).getD (j * W + i) 0 = nextR r (S.getD (j * W + i) 0) (ones9 (onesW r.around fun a b => G S ((i : Int) + ((a : Int) - 1)) ((j : Int) + ((b : Int) - 1))) 9) := by
  have hl := flat_lt (W := W) (H := H) hi hj
  unfold nextS
  rw [fillG_at, if_pos (by omega), nxv_at _ _ _ W i j hi]
/-- In the mirror: where Get is Get in the mirror, the next generation is the next one in the mirror. -/
theorem mirror_next (r : Pu.Rule) (ha : r.around = 77 ∨ r.around = 86) (G : List Int → Int → Int → Int) (W H : Nat) (hWH : H * W ≤ 144)
    (hG : ∀ Su Sw : List Int, RelU false W Su Sw (H * W) → ∀ X Y : Int, -1 ≤ X → X ≤ W → -1 ≤ Y → Y ≤ H → G Sw X Y = G Su ((W : Int) - 1 - X) Y) (Su Sw : List Int) (h : RelU false W Su Sw (H * W)) : RelU false W (nextS r G W H Su) (nextS r G W H Sw) (H * W) := by
  intro i j hi hij
  have hj := row_lt hi hij
  show (nextS r G W H Sw).getD (j * W + (W - 1 - i)) 0 = _
  rw [nextS_at r G W H Sw (W - 1 - i) j (by omega) hj hWH, nextS_at r G W H Su i j hi hj hWH]
  have e0 : Sw.getD (j * W + (W - 1 - i)) 0 = Su.getD (j * W + i) 0 := h i j hi hij
  rw [e0]
  congr 1
  apply ones9_mirror
  intro a b ha3 hb3
  unfold onesW
  rw [nearR_mirror ha a b ha3 hb3]
  congr 2
  show G Sw _ _ = G Su _ _
  rw [hG Su Sw h _ _ (by omega) (by omega) (by omega) (by omega)]
  congr 1
  omega
/-- Turned: where Get is Get turned, so is the next generation. -/
theorem turn_next (r : Pu.Rule) (ha : r.around = 77 ∨ r.around = 86 ∨ r.around = 72) (G : List Int → Int → Int → Int) (W : Nat) (hWH : W * W ≤ 144)
    (hG : ∀ Su Sw : List Int, RelU true W Su Sw (W * W) → ∀ X Y : Int, -1 ≤ X → X ≤ W → -1 ≤ Y → Y ≤ W → G Sw X Y = G Su Y X) (Su Sw : List Int) (h : RelU true W Su Sw (W * W)) : RelU true W (nextS r G W W Su) (nextS r G W W Sw) (W * W) := by
  intro i j hi hij
  have hj := row_lt hi hij
  show (nextS r G W W Sw).getD (i * W + j) 0 = _
  rw [nextS_at r G W W Sw j i hj hi hWH, nextS_at r G W W Su i j hi hj hWH]
  have e0 : Sw.getD (i * W + j) 0 = Su.getD (j * W + i) 0 := h i j hi hij
  rw [e0]
  congr 1
  apply ones9_turn
  intro a b ha3 hb3
  unfold onesW
  rw [nearR_turn ha a b ha3 hb3]
  congr 2
  show G Sw _ _ = G Su _ _
  rw [hG Su Sw h _ _ (by omega) (by omega) (by omega) (by omega)]
end Go.Proofs.Ytiimimclbkjcbaa
namespace Go.Proofs.Ytiimimclbkjcbaa
open Go.RowKit
open Go.Proofs

/-- What a generation does to the cells of a plan's world, and that it keeps what is changed about. -/
structure StepsBy (p : Pu.Plan) (tu : Bool) (W H : Nat) (NX : List Int → List Int) : Prop where
  step : ∀ (wx : World) (q : Nat) (age : Int) (S : List Int), StOk (Pu.ruleOf p) S → 0 ≤ age → age ≤ 1000 → GrAt wx q (preOf (Pu.ruleOf p) (Pu.shapeOf p) age) p.w p.h 0 0 S → Calls Try.prog 23 #[.pointer (some ⟨q, 0, none⟩), .int .i64 1] wx fun e w' => e = .returned (.int .i64 0) ∧ GrAt w' q (preOf (Pu.ruleOf p) (Pu.shapeOf p) (age + 1)) p.w p.h 0 0 (NX S) ∧ Kp (· = q) wx w'
  ok : ∀ S, StOk (Pu.ruleOf p) S → StOk (Pu.ruleOf p) (NX S)
  rel : ∀ Su Sw, StOk (Pu.ruleOf p) Su → StOk (Pu.ruleOf p) Sw → RelU tu W Su Sw (H * W) → RelU tu W (NX Su) (NX Sw) (H * W)
def zw : Wish := ⟨0, 0, 0, 0, 0, 0, 0, 0, ⟨#[]⟩⟩
theorem build_zw : Try.prog.built 32 [] = some (wishv zw) := by kernel_rfl
theorem wpList_build0 {P : Program} {ops : Array Oper} {rest : List Oper} {o : Oper} {a : Act} {w : World} {Q : Exit → Act → World → Prop} (hg : o.guard = none) (t : TypeId) (ho : o.op = .build t #[])
    (cells : Array Value) (hf : P.built t [] = some cells) (h : wpList P ops Q rest (a.put o.dst (.agg cells)) w) : wpList P ops Q (o :: rest) a w :=
  wpList_build_is hg t _ ho cells (by simpa using hf) h
theorem PlAt.set {w : World} {g : Nat} {p : Pu.Plan} (h : PlAt w g p) (m : Nat) (u : Value) (q : Pu.Plan) (hq : (planv p).setIfInBounds m u = planv q) : PlAt (w.setCell ⟨g, m, none⟩ u) g q := ⟨by rw [heap_setCell_same _ _ _ _ _ _ h.row, hq]⟩
theorem planOk_flat {p : Pu.Plan} (h : Pu.PlanOk p) : Pu.PlanOk { p with sw := 0, sh := 0 } := by
  have hw := h.w
  exact ⟨h.near, h.births, h.lives, h.c, h.kind, h.w, h.h, h.sphere, Or.inl ⟨by show (0 : Int) ≤ 0; omega, by show (0 : Int) < p.w; omega, rfl⟩, fun _ => ⟨rfl, rfl⟩, h.klein, h.plain⟩
theorem kinds4 : ∀ k (h : k < ({ data := #[80, 84, 75, 67] } : ByteArray).size), ((({ data := #[80, 84, 75, 67] } : ByteArray)[k]).toNat : Int) ∈ [(80 : Int), 84, 75, 67, 83] := by
  intro k h
  have h5 : k < 4 := h
  have : k = 0 ∨ k = 1 ∨ k = 2 ∨ k = 3 := by omega
  rcases this with rfl | rfl | rfl | rfl <;> (clear h5; revert h; decide)
theorem kinds4_at {x : Int} (h : ∃ k, ∃ h : k < ({ data := #[80, 84, 75, 67] } : ByteArray).size, x = ((({ data := #[80, 84, 75, 67] } : ByteArray)[k]).toNat : Int)) : x ≠ 83 := by
  obtain ⟨k, hk, rfl⟩ := h
  have h5 : k < 4 := hk
  have : k = 0 ∨ k = 1 ∨ k = 2 ∨ k = 3 := by omega
  rcases this with rfl | rfl | rfl | rfl <;> (clear h5; revert hk; decide)

set_option maxRecDepth 100000 in
set_option maxHeartbeats 2000000 in
theorem mirrors_walk (hall : ∀ p : Pu.Plan, Pu.PlanOk p → (p.near = 77 ∨ p.near = 86) → p.kind ≠ 83 → p.sw = 0 → p.sh = 0 → ∀ W H : Nat, p.w = W → p.h = H → RuleOk (Pu.ruleOf p) → ∃ NX, StepsBy p false W H NX)
    (v : Wish) (hv : WishOk v) (n : Int) (hn : i64 n) (w : World) :
    Calls Try.prog 9 #[.agg (wishv v), .int .i64 n] w fun e w' => e = .returned (.bool true) ∧ Kp (fun _ => False) w w' := by
  have HALL := hide hall
  have LPL := hide (fun wx => planned_any v hv { data := #[80, 84, 75, 67] } 8 (by decide) (by decide) kinds4 (by omega) wx)
  have LPK := hide (fun wx => pick_any n 5 wx (by omega) (by omega) hn.1 hn.2)
  have bN := pickP_bd n 5 (by omega)
  generalize pickP n 5 = pn at *
  obtain ⟨pn, rfl⟩ := Int.eq_ofNat_of_zero_le bN.1
  clear hall
  go_enter Try.func9, Try.ntmps9
  go_wp2_with (first
    | (refine wpList_box_row rfl 32 _ rfl (wishv v) rfl ?_
       intro w1 hw1
       have W1 : Hid (WsAt w1 w.heap.size v) := ⟨by rw [hw1]; exact heap_alloc_new _ _⟩
       have K1 : Hid (Kp (fun _ => False) w w1) := by rw [hw1]; exact (Kp.refl _ _).alloc _
       clear hw1)
    | (refine wpList_load_row rfl 32 _ rfl w.heap.size rfl 32 (wishv v) (0, 0) _ W1.out.row Try.underlying32 rfl info_wish ?_))
  refine (LPL.out _).mono ?_
  rintro e w2 ⟨⟨p, rfl, hp, _, _, hkd⟩, k2⟩
  have hk83 := kinds4_at hkd
  have W2 := hide (W1.out.keep k2 (fun hx => hx))
  have K2 := hide (K1.out.trans k2)
  have l2 : w.heap.size < w2.heap.size := (Array.getElem?_eq_some_iff.1 W2.out.row).1
  clear k2 hkd LPL
  go_upto_region 2 with (first
    | (refine wpList_alloc_row rfl 34 rfl (planv zp) zero_plan ?_
       intro w3 hw3
       have W3 : Hid (WsAt w3 w.heap.size v) := by rw [hw3]; exact W2.out.keep ((Kp.refl (fun _ => False) _).alloc _) (fun hx => hx)
       have P3 : Hid (PlAt w3 w2.heap.size zp) := ⟨by rw [hw3]; exact heap_alloc_new _ _⟩
       have K3 : Hid (Kp (fun _ => False) w w3) := by rw [hw3]; exact K2.out.alloc _
       clear hw3)
    | (refine wpList_store_row_g rfl 34 _ _ rfl w2.heap.size (planv p) rfl rfl 34 (planv zp) P3.out.row info_plan rfl (planv_one _) ?_
       intro w4 hw4
       have W4 : Hid (WsAt w4 w.heap.size v) := ⟨by rw [hw4]; exact (setRow_other _ _ _ _ (by omega)).trans W3.out.row⟩
       have P4 : Hid (PlAt w4 w2.heap.size p) := ⟨by rw [hw4]; exact setRow_heap _ _ _ _ _ _ P3.out.row⟩
       have K4 : Hid (Kp (fun _ => False) w w4) := by rw [hw4]; exact K3.out.setRowNew K2.out.size _
       clear hw4))
  have c0 : w4.cell? ⟨w2.heap.size, 0, none⟩ = some (.int .u8 p.near) := P4.out.cell 0
  clear W3 P3 K3 W2 W1 K1
  by_cases hH : p.near = 72
  · rw [hH] at c0
    go_wp2_with fail
    go_ret
    exact ⟨rfl, K4.out⟩
  · have b72 : (p.near == 72) = false := by simpa using hH
    have hne : p.near = 77 ∨ p.near = 86 := by have := hp.near; omega
    have c7 : w4.cell? ⟨w2.heap.size, 7, none⟩ = some (.int .i64 p.sw) := P4.out.cell 7
    have c8 : w4.cell? ⟨w2.heap.size, 8, none⟩ = some (.int .i64 p.sh) := P4.out.cell 8
    have f7 : w4.frozen? ⟨w2.heap.size, 7, none⟩ = false := frozen_of_row _ _ _ _ _ P4.out.row
    have f8 : w4.frozen? ⟨w2.heap.size, 8, none⟩ = false := frozen_of_row _ _ _ _ _ P4.out.row
    go_upto_region 6 with fail
    have PQ : Hid (PlAt ((w4.setCell ⟨w2.heap.size, 7, none⟩ (.int .i64 0)).setCell ⟨w2.heap.size, 8, none⟩ (.int .i64 0)) w2.heap.size { p with sw := 0, sh := 0 }) := (P4.out.set 7 _ { p with sw := 0 } rfl).set 8 _ { p with sw := 0, sh := 0 } rfl
    have WQ : Hid (WsAt ((w4.setCell ⟨w2.heap.size, 7, none⟩ (.int .i64 0)).setCell ⟨w2.heap.size, 8, none⟩ (.int .i64 0)) w.heap.size v) := ⟨(heap_setCell_other _ _ _ _ (by simp only; omega)).trans ((heap_setCell_other _ _ _ _ (by simp only; omega)).trans W4.out.row)⟩
    have KQ : Hid (Kp (fun _ => False) w ((w4.setCell ⟨w2.heap.size, 7, none⟩ (.int .i64 0)).setCell ⟨w2.heap.size, 8, none⟩ (.int .i64 0))) := (K4.out.setNew (by simp only; omega) _).setNew (by simp only; omega) _
    generalize (w4.setCell ⟨w2.heap.size, 7, none⟩ (.int .i64 0)).setCell ⟨w2.heap.size, 8, none⟩ (.int .i64 0) = w5 at *
    have hp' := planOk_flat hp
    have HNE := hide (⟨hne, hk83⟩ : (p.near = 77 ∨ p.near = 86) ∧ p.kind ≠ 83)
    clear c0 c7 c8 f7 f8 P4 W4 K4 b72 hH hne hk83
    obtain ⟨z, hz⟩ : ∃ z : Pu.Plan, z = { p with sw := 0, sh := 0 } := ⟨_, rfl⟩
    rw [← hz] at PQ hp'
    have HZ := hide hz
    have hzn : z.near = 77 ∨ z.near = 86 := by rw [hz]; exact HNE.out.1
    have hzk : z.kind ≠ 83 := by rw [hz]; exact HNE.out.2
    have hz1 : z.sw = 0 := by rw [hz]
    have hz2 : z.sh = 0 := by rw [hz]
    have HZN := hide hzn
    have HZK := hide hzk
    have HZ1 := hide hz1
    have HZ2 := hide hz2
    clear hz hzn hzk hz1 hz2
    have LM1 := hide (fun wx => pmade_any z hp' v hv.cells wx)
    have LM2 := hide (fun wx => pmade_any z hp' zw (by decide) wx)
    go_wp2_with (first
      | (refine wpList_load_row rfl 34 _ rfl w2.heap.size rfl 34 (planv z) (0, 0) _ PQ.out.row Try.underlying34 rfl info_plan ?_)
      | (refine wpList_load_row rfl 32 _ rfl w.heap.size rfl 32 (wishv v) (0, 0) _ WQ.out.row Try.underlying32 rfl info_wish ?_))
    refine (LM1.out _).mono ?_
    rintro e w6 ⟨⟨qu, rfl, hqu, rk, gu⟩, k6⟩
    have P6 := hide (PQ.out.keep k6 (fun hx => hx))
    have K6 := hide (KQ.out.trans k6)
    have GU := hide gu
    have RK := hide rk
    have qul := gu.lt
    have s5 := KQ.out.size
    clear k6 gu rk
    go_wp2_with (first
      | (refine wpList_load_row rfl 34 _ rfl w2.heap.size rfl 34 (planv z) (0, 0) _ P6.out.row Try.underlying34 rfl info_plan ?_)
      | (refine wpList_build0 rfl 32 rfl (wishv zw) build_zw ?_))
    refine (LM2.out _).mono ?_
    rintro e w7 ⟨⟨qw, rfl, hqw, _, gw⟩, k7⟩
    have P7 := hide (P6.out.keep k7 (fun hx => hx))
    have K7 := hide (K6.out.trans k7)
    have GU7 := hide (GU.out.keep k7 (fun hx => hx))
    have GW7 := hide gw
    clear k7 gw
    obtain ⟨W, hW⟩ := Int.eq_ofNat_of_zero_le (show 0 ≤ z.w by have := hp'.w; omega)
    obtain ⟨H, hH⟩ := Int.eq_ofNat_of_zero_le (show 0 ≤ z.h by have := hp'.h; omega)
    obtain ⟨NX, hNX⟩ := HALL.out z hp' HZN.out HZK.out HZ1.out HZ2.out W H hW hH RK.out
    have hqne : qu ≠ qw := by omega
    have LMT := hide (fun (wx : World) (hgu : GrAt wx qu (preOf (Pu.ruleOf z) (Pu.shapeOf z) 0) z.w z.h 0 0 (fillS v z.c (z.h * z.w).toNat)) (hgw : GrAt wx qw (preOf (Pu.ruleOf z) (Pu.shapeOf z) 0) z.w z.h 0 0 (fillS zw z.c (z.h * z.w).toNat)) => matched_any z hp' RK.out W H hW hH false (by simp) NX hNX.step hNX.ok hNX.rel qu qw hqne _ _ (fillS_ok v z hp' _) (fillS_ok zw z hp' _) pn (by omega) wx hgu hgw)
    generalize fillS v z.c (z.h * z.w).toNat = Su at *
    generalize fillS zw z.c (z.h * z.w).toNat = Sw at *
    have c0 : w7.cell? ⟨w2.heap.size, 0, none⟩ = some (.int .u8 z.near) := P7.out.cell 0
    have c1 : w7.cell? ⟨w2.heap.size, 1, none⟩ = some (.int .i64 z.births) := P7.out.cell 1
    have c2 : w7.cell? ⟨w2.heap.size, 2, none⟩ = some (.int .i64 z.lives) := P7.out.cell 2
    have c3 : w7.cell? ⟨w2.heap.size, 3, none⟩ = some (.int .i64 z.c) := P7.out.cell 3
    have c4 : w7.cell? ⟨w2.heap.size, 4, none⟩ = some (.int .u8 z.kind) := P7.out.cell 4
    have c5 : w7.cell? ⟨w2.heap.size, 5, none⟩ = some (.int .i64 z.w) := P7.out.cell 5
    have c6 : w7.cell? ⟨w2.heap.size, 6, none⟩ = some (.int .i64 z.h) := P7.out.cell 6
    have c7 : w7.cell? ⟨w2.heap.size, 7, none⟩ = some (.int .i64 z.sw) := P7.out.cell 7
    have c8 : w7.cell? ⟨w2.heap.size, 8, none⟩ = some (.int .i64 z.sh) := P7.out.cell 8
    have c9 : w7.cell? ⟨w2.heap.size, 9, none⟩ = some (.bool z.star) := P7.out.cell 9
    have c10 : w7.cell? ⟨w2.heap.size, 10, none⟩ = some (.bool z.starH) := P7.out.cell 10
    clear hNX hW hH
    go_upto_region 10 with fail
    go_region_with (first
      | (go_at_call 15; refine (LPK.out _).mono ?_; rintro e w8 ⟨rfl, hw8⟩; subst w8)
      | (go_at_call 25; refine (LMT.out _ (GU7.out.drewN _) (GW7.out.drewN _)).mono ?_; rintro e w8 ⟨rfl, k8⟩))
    all_goals
      go_wp2_with fail
      go_ret
      exact ⟨rfl, (K7.out.drewN _).tr k8 (by intro zz hz1 hz2; omega)⟩
end Go.Proofs.Ytiimimclbkjcbaa
