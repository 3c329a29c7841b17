import Derived.Test.YtiimimclbkjcbaaM17
import Derived.Test.YtiimimclbkjcbaaIc
import Derived.OpenShut
import Derived.ShutString
import Derived.ChangeSame
import Derived.WideShapes
namespace Go.Proofs.Ytiimimclbkjcbaa
open Go.RowKit
open Go.Proofs

theorem kindsL : ∀ k (h : k < ({ data := #[84, 75, 67] } : ByteArray).size), ((({ data := #[84, 75, 67] } : ByteArray)[k]).toNat : Int) ∈ [(80 : Int), 84, 75, 67, 83] := by
  intro k h
  have h5 : k < 3 := h
  have : k = 0 ∨ k = 1 ∨ k = 2 := by omega
  rcases this with rfl | rfl | rfl <;> (clear h5; revert h; decide)
theorem kindsL_at {x : Int} (h : ∃ k, ∃ h : k < ({ data := #[84, 75, 67] } : ByteArray).size, x = ((({ data := #[84, 75, 67] } : ByteArray)[k]).toNat : Int)) : x = 84 ∨ x = 75 ∨ x = 67 := by
  obtain ⟨k, hk, rfl⟩ := h
  have h5 : k < 3 := hk
  have : k = 0 ∨ k = 1 ∨ k = 2 := by omega
  rcases this with rfl | rfl | rfl <;> (clear h5; revert hk; decide)

theorem MxF.keepW {w w' : World} {base q : Nat} {v : Value} {n W : Nat} {f : Nat → Nat → Int} (h : MxF w base v n W f) (k : Kp (· = q) w w') (hb : q < base) {c : Array Value} {fr : Nat × Nat} (hq : w.heap[q]? = some (Obj.cells c 63 fr)) : MxF w' base v n W f := by
  obtain ⟨vs, ho, hr⟩ := h.own
  refine ⟨vs, own_keep ho k (by intro g hg hx; omega), fun i hi => ?_⟩
  obtain ⟨gi, ci, h1, cur, h2, h3⟩ := hr i hi
  refine ⟨gi, ci, h1, cur, k.row h2 ?_, h3⟩
  intro e
  rw [e, hq] at h2
  simp at h2

set_option maxRecDepth 100000 in
set_option maxHeartbeats 2000000 in
theorem lifts_walk (v : Wish) (hv : WishOk v) (n dx dy : Int) (hn : i64 n) (_hdx : i64 dx) (_hdy : i64 dy) (w : World) :
    Calls Try.prog 7 #[.agg (wishv v), .int .i64 n, .int .i64 dx, .int .i64 dy] w fun e w' => e = .returned (.bool true) ∧ Kp (fun _ => False) w w' := by
  have LPL := hide (fun wx => planned_any v hv { data := #[84, 75, 67] } 12 (by decide) (by decide) kindsL (by omega) wx)
  have LPK := hide (fun wx => pick_any n 4 wx (by omega) (by omega) hn.1 hn.2)
  have bN := pickP_bd n 4 (by omega)
  generalize pickP n 4 = pn at *
  obtain ⟨pn, rfl⟩ := Int.eq_ofNat_of_zero_le bN.1
  go_enter Try.func7, Try.ntmps7
  go_wp2_with (first
    | (refine wpList_box_row rfl 32 _ rfl (wishv v) rfl ?_
       intro w1 hw1
       have W1 : Hid (WsAt w1 w.heap.size v) := ⟨by rw [hw1]; exact heap_alloc_new _ _⟩
       have K1 : Hid (Kp (fun _ => False) w w1) := by rw [hw1]; exact (Kp.refl _ _).alloc _
       clear hw1)
    | (refine wpList_load_row rfl 32 _ rfl w.heap.size rfl 32 (wishv v) (0, 0) _ W1.out.row Try.underlying32 rfl info_wish ?_))
  refine (LPL.out _).mono ?_
  rintro e w2 ⟨⟨p, rfl, hp, _, _, hkd⟩, k2⟩
  have hk3 := kindsL_at hkd
  have W2 := hide (W1.out.keep k2 (fun hx => hx))
  have K2 := hide (K1.out.trans k2)
  have l2 : w.heap.size < w2.heap.size := (Array.getElem?_eq_some_iff.1 W2.out.row).1
  clear k2 hkd LPL
  go_upto_region 2 with (first
    | (refine wpList_alloc_row rfl 34 rfl (planv zp) zero_plan ?_
       intro w3 hw3
       have W3 : Hid (WsAt w3 w.heap.size v) := by rw [hw3]; exact W2.out.keep ((Kp.refl (fun _ => False) _).alloc _) (fun hx => hx)
       have P3 : Hid (PlAt w3 w2.heap.size zp) := ⟨by rw [hw3]; exact heap_alloc_new _ _⟩
       have K3 : Hid (Kp (fun _ => False) w w3) := by rw [hw3]; exact K2.out.alloc _
       clear hw3)
    | (refine wpList_store_row_g rfl 34 _ _ rfl w2.heap.size (planv p) rfl rfl 34 (planv zp) P3.out.row info_plan rfl (planv_one _) ?_
       intro w4 hw4
       have W4 : Hid (WsAt w4 w.heap.size v) := ⟨by rw [hw4]; exact (setRow_other _ _ _ _ (by omega)).trans W3.out.row⟩
       have P4 : Hid (PlAt w4 w2.heap.size p) := ⟨by rw [hw4]; exact setRow_heap _ _ _ _ _ _ P3.out.row⟩
       have K4 : Hid (Kp (fun _ => False) w w4) := by rw [hw4]; exact K3.out.setRowNew K2.out.size _
       clear hw4))
  clear W3 P3 K3 W2 W1 K1
  have HK3 := hide hk3
  have c0 : w4.cell? ⟨w2.heap.size, 0, none⟩ = some (.int .u8 p.near) := P4.out.cell 0
  have c4 : w4.cell? ⟨w2.heap.size, 4, none⟩ = some (.int .u8 p.kind) := P4.out.cell 4
  have LM1 := hide (fun wx => pmade_any p hp v hv.cells wx)
  by_cases hbad : p.near = 72 ∧ p.kind ≠ 84
  · have b1 : (p.near == 72) = true := by simpa using hbad.1
    have b2 : (p.kind != 84) = true := by simpa using hbad.2
    clear hbad hk3
    go_wp2_with fail
    go_ret
    exact ⟨rfl, K4.out⟩
  · have hgood : p.kind = 84 ∨ p.near ≠ 72 := by omega
    have HGD := hide hgood
    obtain ⟨W, hW⟩ := Int.eq_ofNat_of_zero_le (show 0 ≤ p.w by have := hp.w; omega)
    obtain ⟨H, hH⟩ := Int.eq_ofNat_of_zero_le (show 0 ≤ p.h by have := hp.h; omega)
    have LSQ := hide (fun (wx : World) (q : Nat) (S : List Int) (X Y : Int) (rk : RuleOk (Pu.ruleOf p)) (hX : -1099511627776 ≤ X ∧ X ≤ 1099511627776) (hY : -1099511627776 ≤ Y ∧ Y ≤ 1099511627776) (hg : GrAt wx q (preOf (Pu.ruleOf p) (Pu.shapeOf p) 0) p.w p.h 0 0 S) => square_any p hp rk hk3 q 0 S X Y hX hY pn (by omega) wx hg)
    have LON := hide (fun (wx : World) (base : Nat) (u : Value) (m : Nat) (f : Nat → Nat → Int) (h1 : 1 ≤ m) (h2 : m ≤ 24) (hf : ∀ x y, x < m + 2 → y < m + 2 → 0 ≤ f x y ∧ f x y < p.c) (hm : MxF wx base u (m + 2) (m + 2) f) => onward_any p hp u m m h2 h2 h1 f hf base wx hm)
    have LST := hide (fun (wx : World) (q : Nat) (S : List Int) (rk : RuleOk (Pu.ruleOf p)) (hS : StOk (Pu.ruleOf p) S) (hg : GrAt wx q (preOf (Pu.ruleOf p) (Pu.shapeOf p) 0) p.w p.h 0 0 S) => step_plan hp hk3 hW hH rk wx q 0 S pn (by omega) hS (by omega) (by omega) hg)
    have LG := hide (fun (wx : World) (q : Nat) (age : Int) (S : List Int) (X Y : Int) (rk : RuleOk (Pu.ruleOf p)) (hg : GrAt wx q (preOf (Pu.ruleOf p) (Pu.shapeOf p) age) p.w p.h 0 0 S) (hX : -1099511627776 ≤ X ∧ X ≤ 1099511627776) (hY : -1099511627776 ≤ Y ∧ Y ≤ 1099511627776) => wget_fold q (Pu.ruleOf p) (Pu.shapeOf p) age 0 0 S X Y wx hg rk (plan_fold hp) hk3 (by omega) (by omega) (by omega) (by omega) (by omega) (by omega))
    have HN := hide (fun (S : List Int) (hS : StOk (Pu.ruleOf p) S) (X Y : Int) (i j : Nat) => lifts_next hp hgood hW hH hS X Y i j)
    have HOK := hide (fun (S : List Int) (hS : StOk (Pu.ruleOf p) S) (k : Nat) => stepN_ok (Pu.ruleOf p) hp.c.1 (foldG (Pu.shapeOf p)) W H S hS k)
    have HVB := hide (fun (S : List Int) (hS : StOk (Pu.ruleOf p) S) (X Y : Int) (i j : Nat) => viewF_bd hp hW hS X Y i j)
    have HSF := hide (fillS_ok v p hp (p.h * p.w).toNat)
    have HVG : Hid (∀ (S : List Int) (X Y : Int), getP (Pu.shapeOf p).w (Pu.shapeOf p).h 0 0 S (foldX (Pu.shapeOf p) X Y) (foldY (Pu.shapeOf p) X Y) = viewF (Pu.shapeOf p) S X Y 0 0) := fun S X Y => by
      show _ = foldG (Pu.shapeOf p) S (X + ((0 : Nat) : Int)) (Y + ((0 : Nat) : Int))
      rw [show X + ((0 : Nat) : Int) = X by omega, show Y + ((0 : Nat) : Int) = Y by omega]
      rfl
    generalize fillS v p.c (p.h * p.w).toNat = S0 at *
    have HSU : Hid (∀ k, nextS (Pu.ruleOf p) (foldG (Pu.shapeOf p)) W H (stepN (Pu.ruleOf p) (foldG (Pu.shapeOf p)) W H k S0) = stepN (Pu.ruleOf p) (foldG (Pu.shapeOf p)) W H (k + 1) S0) := fun _ => rfl
    have HS0 : Hid (stepN (Pu.ruleOf p) (foldG (Pu.shapeOf p)) W H 0 S0 = S0) := rfl
    have two : (p.near == 72) = false ∨ ((p.near == 72) = true ∧ (p.kind != 84) = false) := by
      by_cases e : p.near = 72
      · right
        have e2 : p.kind = 84 := by omega
        exact ⟨by simpa using e, by simpa using e2⟩
      · left
        simpa using e
    clear hbad hgood hk3 hW hH
    have a1 : -1099511627776 ≤ dx.tmod 1099511627776 ∧ dx.tmod 1099511627776 ≤ 1099511627776 := by rcases tmod_cases dx 1099511627776 (by omega) with ⟨t1, _, t3⟩ | ⟨t1, _, t3, _, _⟩ <;> omega
    have a2 : -1099511627776 ≤ dy.tmod 1099511627776 ∧ dy.tmod 1099511627776 ≤ 1099511627776 := by rcases tmod_cases dy 1099511627776 (by omega) with ⟨t1, _, t3⟩ | ⟨t1, _, t3, _, _⟩ <;> omega
    rcases two with b1 | ⟨b1, b2⟩
    all_goals
      go_wp2_with (first
        | (refine wpList_load_row rfl 34 _ rfl w2.heap.size rfl 34 (planv p) (0, 0) _ P4.out.row Try.underlying34 rfl info_plan ?_)
        | (refine wpList_load_row rfl 32 _ rfl w.heap.size rfl 32 (wishv v) (0, 0) _ W4.out.row Try.underlying32 rfl info_wish ?_))
      refine (LM1.out _).mono ?_
      rintro e w6 ⟨⟨q, rfl, hq, rk, g6⟩, k6⟩
      have P6 := hide (P4.out.keep k6 (fun hx => hx))
      have K6 := hide (K4.out.trans k6)
      have G6 := hide g6
      have RK := hide rk
      have s4 := K4.out.size
      have hqw : w.heap.size ≤ q := by omega
      clear k6 g6 rk c0 c4 b1
      go_wp2_with fail
      refine (LPK.out _).mono ?_
      rintro e w7 ⟨rfl, hw7⟩
      subst w7
      go_wp2_with fail
      generalize dx.tmod 1099511627776 = a at *
      generalize dy.tmod 1099511627776 = b at *
      refine (LSQ.out _ q S0 a b RK.out a1 a2 G6.out).mono ?_
      rintro e w9 ⟨⟨v9, rfl, m9⟩, k9⟩
      have P9 := hide (P6.out.keep k9 (fun hx => hx))
      have K9 := hide (K6.out.trans k9)
      have G9 := hide (G6.out.keep k9 (fun hx => hx))
      have q6 := G6.out.lt
      have M9 := hide m9
      clear k9 m9
      have gne : w2.heap.size ≠ q := by
        intro e
        have h1 := P9.out.row
        have h2 := G9.out.row
        rw [e, h2] at h1
        simp at h1
      go_wp2_with fail
      go_loopg [12, 13] pn (fun gk vl kk wr => ∃ k : Nat, k ≤ pn ∧ pn ≤ k + gk ∧ kk = .int .i64 k ∧ (∃ base, q < base ∧ MxF wr base vl (2 * (pn - k) + 1) (2 * (pn - k) + 1) (viewF (Pu.shapeOf p) (stepN (Pu.ruleOf p) (foldG (Pu.shapeOf p)) W H k S0) (a - ((pn - k : Nat) : Int)) (b - ((pn - k : Nat) : Int)))) ∧ Kp (fun _ => False) w9 wr)
      case atStart => exact ⟨0, by omega, by omega, rfl, ⟨_, q6, by rw [HS0.out, Nat.sub_zero]; exact M9.out⟩, Kp.refl _ _⟩
      case round =>
        obtain ⟨k, g1, g2, rfl, ⟨base, hb, m2⟩, k2⟩ := hrel
        have K2' := hide k2
        have P2 := hide (P9.out.keep k2 (fun hx => hx))
        have G2 := hide (G9.out.keep k2 (fun hx => hx))
        have sq := G2.out.lt
        have OKK := hide (HOK.out S0 HSF.out k)
        by_cases hk : k < pn
        · have e1 : 2 * (pn - k) + 1 = (2 * (pn - (k + 1)) + 1) + 2 := by omega
          rw [e1] at m2
          have M2 := hide m2
          have HSK := hide (HSU.out k)
          have HNK := hide (HN.out _ OKK.out (a - ((pn - k : Nat) : Int)) (b - ((pn - k : Nat) : Int)))
          rw [HSK.out, show a - ((pn - k : Nat) : Int) + 1 = a - ((pn - (k + 1) : Nat) : Int) by omega, show b - ((pn - k : Nat) : Int) + 1 = b - ((pn - (k + 1) : Nat) : Int) by omega] at HNK
          have HB := hide (HVB.out _ OKK.out (a - ((pn - k : Nat) : Int)) (b - ((pn - k : Nat) : Int)))
          clear m2 e1 k2
          generalize viewF (Pu.shapeOf p) (stepN (Pu.ruleOf p) (foldG (Pu.shapeOf p)) W H k S0) (a - ((pn - k : Nat) : Int)) (b - ((pn - k : Nat) : Int)) = F at *
          go_wp2_with (refine wpList_load_row rfl 34 _ rfl w2.heap.size rfl 34 (planv p) (0, 0) _ P2.out.row Try.underlying34 rfl info_plan ?_)
          refine (LON.out _ base _ (2 * (pn - (k + 1)) + 1) F (by omega) (by omega) (fun x y _ _ => HB.out x y) M2.out).mono ?_
          rintro e w10 ⟨⟨v10, rfl, m10⟩, k10⟩
          have M10 := hide (m10.congr (fun i x _ _ => HNK.out x i))
          have K10 := hide (K2'.out.trans k10)
          clear m10 k10
          go_wp2_with fail
          go_roundg (gk - 1)
          case measure => omega
          case rel => exact ⟨k + 1, by omega, by omega, by go_num, ⟨_, sq, M10.out⟩, K10.out⟩
        · have ek : k = pn := by omega
          subst ek
          rw [Nat.sub_self, show a - ((0 : Nat) : Int) = a by omega, show b - ((0 : Nat) : Int) = b by omega] at m2
          have m2' : MxF wr base u12 1 1 (viewF (Pu.shapeOf p) (stepN (Pu.ruleOf p) (foldG (Pu.shapeOf p)) W H k S0) a b) := m2
          obtain ⟨gL, cL, rfl, hL1, hL2, _⟩ := m2'.open_ (by omega)
          have M2 := hide m2'
          unfold maxLen at hL2
          clear k2 m2 m2'
          go_wp2_with fail
          refine (LST.out _ q S0 RK.out HSF.out G2.out).mono ?_
          rintro e w11 ⟨rfl, g11, k11⟩
          have G11 := hide g11
          have K11 := hide ((K9.out.trans K2'.out).tr k11 (by intro z hz1 hz2; omega))
          have M11 := hide (M2.out.keepW k11 hb G2.out.row)
          clear g11 k11
          go_wp2_with fail
          refine (LG.out _ q _ _ a b RK.out G11.out a1 a2).mono ?_
          rintro e w12 ⟨rfl, k12⟩
          rw [HVG.out]
          have M12 := hide (M11.out.keep k12)
          have K12 := hide (K11.out.trans k12)
          obtain ⟨gi, ci, h1, h2⟩ := M12.out.rows 0 (by omega)
          have h3 := h2 0 (by omega)
          clear h2 k12
          generalize viewF (Pu.shapeOf p) (stepN (Pu.ruleOf p) (foldG (Pu.shapeOf p)) W H k S0) a b 0 0 = sv at *
          go_wp2_with fail
          go_ret
          exact ⟨rfl, K12.out⟩
end Go.Proofs.Ytiimimclbkjcbaa
namespace Go.Proofs.Ytiimimclbkjcbaa
open Go.RowKit
open Go.Proofs
open Go.ChangeShapes Go.WideShapes

theorem array9 {α : Type} {cs : Array α} (h : cs.size = 9) : ∃ c0 c1 c2 c3 c4 c5 c6 c7 c8, cs = #[c0, c1, c2, c3, c4, c5, c6, c7, c8] := by
  obtain ⟨l⟩ := cs
  match l, h with
  | [c0, c1, c2, c3, c4, c5, c6, c7, c8], _ => exact ⟨c0, c1, c2, c3, c4, c5, c6, c7, c8, rfl⟩
theorem list9 {α : Type} {l : List α} (h : l.length = 9) : ∃ c0 c1 c2 c3 c4 c5 c6 c7 c8, l = [c0, c1, c2, c3, c4, c5, c6, c7, c8] := by
  match l, h with
  | [c0, c1, c2, c3, c4, c5, c6, c7, c8], _ => exact ⟨c0, c1, c2, c3, c4, c5, c6, c7, c8, rfl⟩
theorem cells_wish : Try.prog.cellsOf 32 = 9 := by kernel_rfl
theorem cells_int : Try.prog.cellsOf 3 = 1 := by kernel_rfl
theorem cells_str : Try.prog.cellsOf 9 = 1 := by kernel_rfl
section
variable {H : Type} {enc : TypeId × Value → H} {w : World} {base : Nat} {spare : Nat → Bool} {held : Bool}
theorem fld_int (n : Int) (h : (Lit.int .i64 n).wf = true) : DataW.trod enc Try.prog w base spare held 1 3 [.int .i64 n] = some (.lit (.int .i64 n), []) := by
  simp [DataW.trod, Try.underlying3, h]
theorem fld_str (s : ByteArray) (h : s.size ≤ maxLen) : DataW.trod enc Try.prog w base spare held 1 9 [.string s] = some (.lit (.string s.data.toList), []) := by
  simp [DataW.trod, Try.underlying9, h]
theorem i64_of {n : Int} (h : (Lit.int .i64 n).wf = true) : i64 n := bounds_i64 h
def wishD (H : Type) (x : Wish) : DataW H := .agg [.lit (.int .i64 x.near), .lit (.int .i64 x.births), .lit (.int .i64 x.lives), .lit (.int .i64 x.states), .lit (.int .i64 x.kind), .lit (.int .i64 x.w), .lit (.int .i64 x.h), .lit (.int .i64 x.shift), .lit (.string x.cells.data.toList)]
structure WishWf (x : Wish) : Prop where
  a0 : (Lit.int .i64 x.near).wf = true
  a1 : (Lit.int .i64 x.births).wf = true
  a2 : (Lit.int .i64 x.lives).wf = true
  a3 : (Lit.int .i64 x.states).wf = true
  a4 : (Lit.int .i64 x.kind).wf = true
  a5 : (Lit.int .i64 x.w).wf = true
  a6 : (Lit.int .i64 x.h).wf = true
  a7 : (Lit.int .i64 x.shift).wf = true
  a8 : x.cells.size ≤ maxLen
theorem WishWf.ok {x : Wish} (h : WishWf x) : WishOk x := ⟨i64_of h.a0, i64_of h.a1, i64_of h.a2, i64_of h.a3, i64_of h.a4, i64_of h.a5, i64_of h.a6, i64_of h.a7, h.a8⟩
set_option maxRecDepth 100000 in
theorem shut_wish {x : Wish} (h : WishWf x) : DataW.Trod enc Try.prog w base spare held 32 (.agg (wishv x)) (wishD H x) [] := by
  refine ⟨2, ?_⟩
  have := trod_struct_mk (enc := enc) (w := w) (base := base) (spare := spare) (held := held) (n := 1) (cs := (wishv x).toList) (xs := [(.lit (.int .i64 x.near), []), (.lit (.int .i64 x.births), []), (.lit (.int .i64 x.lives), []), (.lit (.int .i64 x.states), []), (.lit (.int .i64 x.kind), []), (.lit (.int .i64 x.w), []), (.lit (.int .i64 x.h), []), (.lit (.int .i64 x.shift), []), (.lit (.string x.cells.data.toList), [])]) Try.underlying32 (by rw [cells_wish]; rfl)
    (by simp [cells_int, cells_str, wishv, fld_int _ h.a0, fld_int _ h.a1, fld_int _ h.a2, fld_int _ h.a3, fld_int _ h.a4, fld_int _ h.a5, fld_int _ h.a6, fld_int _ h.a7, fld_str _ h.a8])
  simpa [Value.cells, wishD] using this
set_option maxRecDepth 100000 in
theorem open_wish {r : Reach} {b0 : Nat} {v : Value} {d : DataW H} {ps : List MemPlace} (hval : Value.okWide Try.prog w r b0 32 v) (hd : DataW.Trod enc Try.prog w base spare held 32 v d ps) :
    ∃ x : Wish, v = .agg (wishv x) ∧ d = wishD H x ∧ ps = [] ∧ WishWf x := by
  obtain ⟨cs, rfl, hsz⟩ := okWide_struct Try.underlying32 hval
  obtain ⟨c0, c1, c2, c3, c4, c5, c6, c7, c8, rfl⟩ := array9 (hsz.trans cells_wish)
  obtain ⟨fuel, hf⟩ := hd
  obtain ⟨xs, n, _, hx, _, hlen, hfl⟩ := DataW.trod_struct Try.underlying32 hf
  obtain ⟨y0, y1, y2, y3, y4, y5, y6, y7, y8, rfl⟩ := list9 hlen
  have g0 : DataW.trod enc Try.prog w base spare held n 3 ((((Value.agg #[c0, c1, c2, c3, c4, c5, c6, c7, c8]).cells.toList).drop 0).take (Try.prog.cellsOf 3)) = some y0 := hfl 0 _ rfl
  rw [cells_int] at g0
  have g0' : DataW.trod enc Try.prog w base spare held n 3 [c0] = some y0 := g0
  have g1 : DataW.trod enc Try.prog w base spare held n 3 ((((Value.agg #[c0, c1, c2, c3, c4, c5, c6, c7, c8]).cells.toList).drop 1).take (Try.prog.cellsOf 3)) = some y1 := hfl 1 _ rfl
  rw [cells_int] at g1
  have g1' : DataW.trod enc Try.prog w base spare held n 3 [c1] = some y1 := g1
  have g2 : DataW.trod enc Try.prog w base spare held n 3 ((((Value.agg #[c0, c1, c2, c3, c4, c5, c6, c7, c8]).cells.toList).drop 2).take (Try.prog.cellsOf 3)) = some y2 := hfl 2 _ rfl
  rw [cells_int] at g2
  have g2' : DataW.trod enc Try.prog w base spare held n 3 [c2] = some y2 := g2
  have g3 : DataW.trod enc Try.prog w base spare held n 3 ((((Value.agg #[c0, c1, c2, c3, c4, c5, c6, c7, c8]).cells.toList).drop 3).take (Try.prog.cellsOf 3)) = some y3 := hfl 3 _ rfl
  rw [cells_int] at g3
  have g3' : DataW.trod enc Try.prog w base spare held n 3 [c3] = some y3 := g3
  have g4 : DataW.trod enc Try.prog w base spare held n 3 ((((Value.agg #[c0, c1, c2, c3, c4, c5, c6, c7, c8]).cells.toList).drop 4).take (Try.prog.cellsOf 3)) = some y4 := hfl 4 _ rfl
  rw [cells_int] at g4
  have g4' : DataW.trod enc Try.prog w base spare held n 3 [c4] = some y4 := g4
  have g5 : DataW.trod enc Try.prog w base spare held n 3 ((((Value.agg #[c0, c1, c2, c3, c4, c5, c6, c7, c8]).cells.toList).drop 5).take (Try.prog.cellsOf 3)) = some y5 := hfl 5 _ rfl
  rw [cells_int] at g5
  have g5' : DataW.trod enc Try.prog w base spare held n 3 [c5] = some y5 := g5
  have g6 : DataW.trod enc Try.prog w base spare held n 3 ((((Value.agg #[c0, c1, c2, c3, c4, c5, c6, c7, c8]).cells.toList).drop 6).take (Try.prog.cellsOf 3)) = some y6 := hfl 6 _ rfl
  rw [cells_int] at g6
  have g6' : DataW.trod enc Try.prog w base spare held n 3 [c6] = some y6 := g6
  have g7 : DataW.trod enc Try.prog w base spare held n 3 ((((Value.agg #[c0, c1, c2, c3, c4, c5, c6, c7, c8]).cells.toList).drop 7).take (Try.prog.cellsOf 3)) = some y7 := hfl 7 _ rfl
  rw [cells_int] at g7
  have g7' : DataW.trod enc Try.prog w base spare held n 3 [c7] = some y7 := g7
  have g8 : DataW.trod enc Try.prog w base spare held n 9 ((((Value.agg #[c0, c1, c2, c3, c4, c5, c6, c7, c8]).cells.toList).drop 8).take (Try.prog.cellsOf 9)) = some y8 := hfl 8 _ rfl
  rw [cells_str] at g8
  have g8' : DataW.trod enc Try.prog w base spare held n 9 [c8] = some y8 := g8
  clear hfl hlen hf hsz hval g0 g1 g2 g3 g4 g5 g6 g7 g8
  obtain ⟨n0, e0, z0, k0⟩ := DataW.trod_int Try.underlying3 g0'
  obtain rfl := (List.cons.inj e0).1
  subst z0
  obtain ⟨n1, e1, z1, k1⟩ := DataW.trod_int Try.underlying3 g1'
  obtain rfl := (List.cons.inj e1).1
  subst z1
  obtain ⟨n2, e2, z2, k2⟩ := DataW.trod_int Try.underlying3 g2'
  obtain rfl := (List.cons.inj e2).1
  subst z2
  obtain ⟨n3, e3, z3, k3⟩ := DataW.trod_int Try.underlying3 g3'
  obtain rfl := (List.cons.inj e3).1
  subst z3
  obtain ⟨n4, e4, z4, k4⟩ := DataW.trod_int Try.underlying3 g4'
  obtain rfl := (List.cons.inj e4).1
  subst z4
  obtain ⟨n5, e5, z5, k5⟩ := DataW.trod_int Try.underlying3 g5'
  obtain rfl := (List.cons.inj e5).1
  subst z5
  obtain ⟨n6, e6, z6, k6⟩ := DataW.trod_int Try.underlying3 g6'
  obtain rfl := (List.cons.inj e6).1
  subst z6
  obtain ⟨n7, e7, z7, k7⟩ := DataW.trod_int Try.underlying3 g7'
  obtain rfl := (List.cons.inj e7).1
  subst z7
  obtain ⟨s, e8, z8, k8⟩ := DataW.trod_string Try.underlying9 g8'
  obtain rfl := (List.cons.inj e8).1
  subst z8
  simp at hx
  exact ⟨⟨n0, n1, n2, n3, n4, n5, n6, n7, s⟩, rfl, hx.1, hx.2, ⟨k0, k1, k2, k3, k4, k5, k6, k7, k8⟩⟩
end
end Go.Proofs.Ytiimimclbkjcbaa
