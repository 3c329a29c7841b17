import Derived.Test.YtiimimclbkjcbaaM17
import Derived.Test.YtiimimclbkjcbaaKc
namespace Go.Proofs.Ytiimimclbkjcbaa
open Go.RowKit
open Go.Proofs

/-- The second world is the first one, moved. -/
def RelM (x : Pu.Shape) (a b : Int) (Su Sw : List Int) : Prop := ∀ X Y : Int, foldG x Sw X Y = foldG x Su (X + a) (Y + b)
theorem relM_next (r : Pu.Rule) {x : Pu.Shape} (h : Two x) (hw : turnW x = false) (hh : turnH x = false) (hs : x.ws = 0 ∨ x.hs = 0) {W H : Nat} (hW : x.w = W) (hH : x.h = H) {a b : Int} {Su Sw : List Int} (hr : RelM x a b Su Sw) : RelM x a b (nextS r (foldG x) W H Su) (nextS r (foldG x) W H Sw) := by
  intro X Y
  rw [step_torus r h hw hh hs hW hH Sw X Y, step_torus r h hw hh hs hW hH Su (X + a) (Y + b), hr X Y]
  congr 1
  refine ones9_congr 9 fun c d _ _ => ?_
  unfold onesW
  show (_ && (foldG x Sw _ _ == 1)) = (_ && (foldG x Su _ _ == 1))
  rw [hr]
  congr 3
  · omega
  · omega
theorem relM_step (r : Pu.Rule) {x : Pu.Shape} (h : Two x) (hw : turnW x = false) (hh : turnH x = false) (hs : x.ws = 0 ∨ x.hs = 0) {W H : Nat} (hW : x.w = W) (hH : x.h = H) {a b : Int} {Su Sw : List Int} (hr : RelM x a b Su Sw) : ∀ n, RelM x a b (stepN r (foldG x) W H n Su) (stepN r (foldG x) W H n Sw) := by
  intro n
  induction n with
  | zero => exact hr
  | succ n ih => exact relM_next r h hw hh hs hW hH ih
theorem relM_init {x : Pu.Shape} (h : Two x) (hw : turnW x = false) (hh : turnH x = false) (hs : x.ws = 0 ∨ x.hs = 0) {W H : Nat} (hW : x.w = W) (hH : x.h = H) {a b : Int} {Su Sw : List Int} (hr : ∀ i j : Nat, i < W → j * W + i < H * W → Sw.getD (j * W + i) 0 = foldG x Su ((i : Int) + a) ((j : Int) + b)) : RelM x a b Su Sw := by
  intro X Y
  have bd := fold_bd h X Y
  have m := fold_moved h hw hh hs X Y a b
  rw [foldG_at h hW Sw X Y]
  obtain ⟨i, hi⟩ := Int.eq_ofNat_of_zero_le bd.1.1
  obtain ⟨j, hj⟩ := Int.eq_ofNat_of_zero_le bd.2.1
  have e : foldG x Su (foldX x X Y + a) (foldY x X Y + b) = foldG x Su (X + a) (Y + b) := by
    unfold foldG
    rw [m.1, m.2]
  rw [← e, hi, hj]
  exact hr i j (by omega) (flat_lt (by omega) (by omega))
theorem foldG_ok {r : Pu.Rule} {x : Pu.Shape} (h : Two x) {W : Nat} (hW : x.w = W) {S : List Int} (hS : StOk r S) (X Y : Int) : 0 ≤ foldG x S X Y ∧ foldG x S X Y < r.states := by
  rw [foldG_at h hW S X Y]
  exact hS.2 _
theorem put_rel {W i j : Nat} {B : List Int} {g : Nat → Nat → Int} (hl : B.length = 768) (hk : j * W + i < 768) (hi : i < W) (h : ∀ c d : Nat, c < W → d * W + c < j * W + i → B.getD (d * W + c) 0 = g c d) : ∀ c d : Nat, c < W → d * W + c < j * W + i + 1 → (B.set (j * W + i) (g i j)).getD (d * W + c) 0 = g c d := by
  intro c d hc hd
  unfold List.getD
  rw [List.getElem?_set]
  by_cases e : j * W + i = d * W + c
  · obtain ⟨rfl, rfl⟩ := flat_inj2 hi hc e.symm
    rw [if_pos e, if_pos (by omega)]
    rfl
  · rw [if_neg e]
    have := h c d hc (by omega)
    unfold List.getD at this
    exact this
theorem fold_plan {p : Pu.Plan} (hp : Pu.PlanOk p) (hk : p.kind = 84) : FoldOk (Pu.shapeOf p) ∧ turnW (Pu.shapeOf p) = false ∧ turnH (Pu.shapeOf p) = false ∧ ((Pu.shapeOf p).ws = 0 ∨ (Pu.shapeOf p).hs = 0) := by
  have hw := hp.w
  have hh := hp.h
  have ht := hp.torus
  have hs := hp.plain (by omega)
  have e1 : turnW (Pu.shapeOf p) = false := by
    show (p.star || (p.kind == 67)) = false
    rw [hs.1, hk]; rfl
  have e2 : turnH (Pu.shapeOf p) = false := by
    show (p.starH || (p.kind == 67)) = false
    rw [hs.2, hk]; rfl
  refine ⟨⟨by show 0 ≤ p.w ∧ p.w ≤ 12; omega, by show 0 ≤ p.h ∧ p.h ≤ 12; omega, by show p.sw = 0 ∨ (0 < p.sw ∧ p.sw < p.w); omega, by show p.sh = 0 ∨ (0 < p.sh ∧ p.sh < p.h); omega, by rw [e1]; simp, by rw [e2]; simp⟩, e1, e2, ?_⟩
  show p.sw = 0 ∨ p.sh = 0
  omega
theorem kindsT : ∀ k (h : k < ({ data := #[84] } : ByteArray).size), ((({ data := #[84] } : ByteArray)[k]).toNat : Int) ∈ [(80 : Int), 84, 75, 67, 83] := by
  intro k h
  have h5 : k < 1 := h
  have : k = 0 := by omega
  subst this
  exact List.mem_cons_of_mem _ List.mem_cons_self
theorem kindsT_at {x : Int} (h : ∃ k, ∃ h : k < ({ data := #[84] } : ByteArray).size, x = ((({ data := #[84] } : ByteArray)[k]).toNat : Int)) : x = 84 := by
  obtain ⟨k, hk, rfl⟩ := h
  have h5 : k < 1 := hk
  have : k = 0 := by omega
  subst this
  rfl

set_option maxRecDepth 100000 in
set_option maxHeartbeats 2000000 in
theorem moves_walk (hall : ∀ p : Pu.Plan, Pu.PlanOk p → p.kind = 84 → ∀ W H : Nat, p.w = W → p.h = H → RuleOk (Pu.ruleOf p) → ∀ (wx : World) (q : Nat) (S : List Int) (n : Nat), n ≤ 5 → StOk (Pu.ruleOf p) S → GrAt wx q (preOf (Pu.ruleOf p) (Pu.shapeOf p) 0) p.w p.h 0 0 S →
      Calls Try.prog 23 #[.pointer (some ⟨q, 0, none⟩), .int .i64 n] wx fun e w' => e = .returned (.int .i64 0) ∧ GrAt w' q (preOf (Pu.ruleOf p) (Pu.shapeOf p) n) p.w p.h 0 0 (stepN (Pu.ruleOf p) (foldG (Pu.shapeOf p)) W H n S) ∧ Kp (· = q) wx w')
    (v : Wish) (hv : WishOk v) (n dx dy : Int) (hn : i64 n) (_hdx : i64 dx) (_hdy : i64 dy) (w : World) :
    Calls Try.prog 8 #[.agg (wishv v), .int .i64 n, .int .i64 dx, .int .i64 dy] w fun e w' => e = .returned (.bool true) ∧ Kp (fun _ => False) w w' := by
  have HALL := hide hall
  have LPL := hide (fun wx => planned_any v hv { data := #[84] } 8 (by decide) (by decide) kindsT (by omega) wx)
  have LPK := hide (fun wx => pick_any n 6 wx (by omega) (by omega) hn.1 hn.2)
  have bN := pickP_bd n 6 (by omega)
  generalize pickP n 6 = pn at *
  obtain ⟨pn, rfl⟩ := Int.eq_ofNat_of_zero_le bN.1
  clear hall
  go_enter Try.func8, Try.ntmps8
  go_wp2_with (first
    | (refine wpList_box_row rfl 32 _ rfl (wishv v) rfl ?_
       intro w1 hw1
       have W1 : Hid (WsAt w1 w.heap.size v) := ⟨by rw [hw1]; exact heap_alloc_new _ _⟩
       have K1 : Hid (Kp (fun _ => False) w w1) := by rw [hw1]; exact (Kp.refl _ _).alloc _
       clear hw1)
    | (refine wpList_load_row rfl 32 _ rfl w.heap.size rfl 32 (wishv v) (0, 0) _ W1.out.row Try.underlying32 rfl info_wish ?_))
  refine (LPL.out _).mono ?_
  rintro e w2 ⟨⟨p, rfl, hp, _, _, hkd⟩, k2⟩
  have hk83 := kindsT_at hkd
  have W2 := hide (W1.out.keep k2 (fun hx => hx))
  have K2 := hide (K1.out.trans k2)
  have l2 : w.heap.size < w2.heap.size := (Array.getElem?_eq_some_iff.1 W2.out.row).1
  clear k2 hkd LPL
  go_upto_region 2 with (first
    | (refine wpList_alloc_row rfl 34 rfl (planv zp) zero_plan ?_
       intro w3 hw3
       have W3 : Hid (WsAt w3 w.heap.size v) := by rw [hw3]; exact W2.out.keep ((Kp.refl (fun _ => False) _).alloc _) (fun hx => hx)
       have P3 : Hid (PlAt w3 w2.heap.size zp) := ⟨by rw [hw3]; exact heap_alloc_new _ _⟩
       have K3 : Hid (Kp (fun _ => False) w w3) := by rw [hw3]; exact K2.out.alloc _
       clear hw3)
    | (refine wpList_store_row_g rfl 34 _ _ rfl w2.heap.size (planv p) rfl rfl 34 (planv zp) P3.out.row info_plan rfl (planv_one _) ?_
       intro w4 hw4
       have W4 : Hid (WsAt w4 w.heap.size v) := ⟨by rw [hw4]; exact (setRow_other _ _ _ _ (by omega)).trans W3.out.row⟩
       have P4 : Hid (PlAt w4 w2.heap.size p) := ⟨by rw [hw4]; exact setRow_heap _ _ _ _ _ _ P3.out.row⟩
       have K4 : Hid (Kp (fun _ => False) w w4) := by rw [hw4]; exact K3.out.setRowNew K2.out.size _
       clear hw4))
  clear W3 P3 K3 W2 W1 K1
  have HK84 := hide hk83
  clear hk83
  have LM1 := hide (fun wx => pmade_any p hp v hv.cells wx)
  have LM2 := hide (fun wx => pmade_any p hp zw (by decide) wx)
  go_wp2_with (first
    | (refine wpList_load_row rfl 34 _ rfl w2.heap.size rfl 34 (planv p) (0, 0) _ P4.out.row Try.underlying34 rfl info_plan ?_)
    | (refine wpList_load_row rfl 32 _ rfl w.heap.size rfl 32 (wishv v) (0, 0) _ W4.out.row Try.underlying32 rfl info_wish ?_))
  refine (LM1.out _).mono ?_
  rintro e w6 ⟨⟨qu, rfl, hqu, rk, gu⟩, k6⟩
  have P6 := hide (P4.out.keep k6 (fun hx => hx))
  have K6 := hide (K4.out.trans k6)
  have GU := hide gu
  have RK := hide rk
  have qul := gu.lt
  have s5 := K4.out.size
  clear k6 gu rk
  go_wp2_with (first
    | (refine wpList_load_row rfl 34 _ rfl w2.heap.size rfl 34 (planv p) (0, 0) _ P6.out.row Try.underlying34 rfl info_plan ?_)
    | (refine wpList_build0 rfl 32 rfl (wishv zw) build_zw ?_))
  refine (LM2.out _).mono ?_
  rintro e w7 ⟨⟨qw, rfl, hqw, _, gw⟩, k7⟩
  have P7 := hide (P6.out.keep k7 (fun hx => hx))
  have K7 := hide (K6.out.trans k7)
  have GU7 := hide (GU.out.keep k7 (fun hx => hx))
  have GW7 := hide gw
  clear k7 gw
  obtain ⟨W, hW⟩ := Int.eq_ofNat_of_zero_le (show 0 ≤ p.w by have := hp.w; omega)
  obtain ⟨H, hH⟩ := Int.eq_ofNat_of_zero_le (show 0 ≤ p.h by have := hp.h; omega)
  have hw := hp.w
  have hh := hp.h
  have EW := hide hW
  have EH := hide hH
  have W12 : W ≤ 12 := by omega
  have H12 : H ≤ 12 := by omega
  have hWH : H * W ≤ 144 := Nat.mul_le_mul H12 W12
  have hqne : qu ≠ qw := by omega
  obtain ⟨fk, tw, th, ts⟩ := fold_plan hp HK84.out
  have SU := hide (fillS_ok v p hp (p.h * p.w).toNat)
  have SW := hide (fillS_ok zw p hp (p.h * p.w).toNat)
  generalize fillS v p.c (p.h * p.w).toNat = Su at *
  generalize fillS zw p.c (p.h * p.w).toNat = Sw at *
  have LST := hide (fun (wx : World) (q : Nat) (S : List Int) (hS : StOk (Pu.ruleOf p) S) (hg : GrAt wx q (preOf (Pu.ruleOf p) (Pu.shapeOf p) 0) p.w p.h 0 0 S) => HALL.out p hp HK84.out W H hW hH RK.out wx q S pn (by omega) hS hg)
  have LP := hide (fun (wx : World) (S : List Int) (a b s : Int) (hg : GrAt wx qw (preOf (Pu.ruleOf p) (Pu.shapeOf p) 0) p.w p.h 0 0 S) (ha : 0 ≤ a ∧ a < p.w) (hb : 0 ≤ b ∧ b < p.h) (hs : 0 ≤ s ∧ s < p.c) => wput_two qw (Pu.ruleOf p) (Pu.shapeOf p) 0 S a b s wx hg RK.out (two_plan hp) ha hb hs)
  have LG := hide (fun (wx : World) (q : Nat) (age : Int) (S : List Int) (X Y : Int) (hg : GrAt wx q (preOf (Pu.ruleOf p) (Pu.shapeOf p) age) p.w p.h 0 0 S) (hX : -1099511627800 ≤ X ∧ X ≤ 1099511627800) (hY : -1099511627800 ≤ Y ∧ Y ≤ 1099511627800) => wget_fold q (Pu.ruleOf p) (Pu.shapeOf p) age 0 0 S X Y wx hg RK.out fk (Or.inl HK84.out) (by omega) (by omega) (by omega) (by omega) (by omega) (by omega))
  have HG : Hid (∀ S X Y, getP (Pu.shapeOf p).w (Pu.shapeOf p).h 0 0 S (foldX (Pu.shapeOf p) X Y) (foldY (Pu.shapeOf p) X Y) = foldG (Pu.shapeOf p) S X Y) := fun _ _ _ => rfl
  have HBD := hide (fun (S : List Int) (hS : StOk (Pu.ruleOf p) S) (X Y : Int) => foldG_ok (two_plan hp) EW.out hS X Y)
  have HINI := hide (fun (a b : Int) (B : List Int) (hB : ∀ i j : Nat, i < W → j * W + i < H * W → B.getD (j * W + i) 0 = foldG (Pu.shapeOf p) Su ((i : Int) + a) ((j : Int) + b)) => relM_step (Pu.ruleOf p) (two_plan hp) tw th ts EW.out EH.out (relM_init (two_plan hp) tw th ts EW.out EH.out hB) pn)
  have HKc : Hid (∀ i j : Nat, ((j : Int) * (Pu.shapeOf p).w + i).toNat = j * W + i) := fun i j => flat_nat W i j _ EW.out
  clear hW hH fk tw th ts LM1 LM2
  go_wp2_with fail
  refine (LPK.out _).mono ?_
  rintro e w8 ⟨rfl, hw8⟩
  subst w8
  have a1 : -1099511627776 ≤ dx.tmod 1099511627776 ∧ dx.tmod 1099511627776 ≤ 1099511627776 := by rcases tmod_cases dx 1099511627776 (by omega) with ⟨t1, _, t3⟩ | ⟨t1, _, t3, _, _⟩ <;> omega
  have a2 : -1099511627776 ≤ dy.tmod 1099511627776 ∧ dy.tmod 1099511627776 ≤ 1099511627776 := by rcases tmod_cases dy 1099511627776 (by omega) with ⟨t1, _, t3⟩ | ⟨t1, _, t3, _, _⟩ <;> omega
  go_wp2_with fail
  generalize dx.tmod 1099511627776 = a at *
  generalize dy.tmod 1099511627776 = b at *
  have WU : Hid (GrAt w7 qu (preOf (Pu.ruleOf p) (Pu.shapeOf p) 0) p.w p.h 0 0 Su) := GU7.out
  have sz7 := K7.out.size
  have gneu : w2.heap.size ≠ qu := by
    intro e
    have h1 := P7.out.row
    have h2 := GU7.out.row
    rw [e, h2] at h1
    simp at h1
  have gnew' : w2.heap.size ≠ qw := by
    intro e
    have h1 := P7.out.row
    have h2 := GW7.out.row
    rw [e, h2] at h1
    simp at h1
  have qul7 := GU7.out.lt
  have qwl7 := GW7.out.lt
  go_loopg [14] H (fun gk jj wr => ∃ j : Nat, j ≤ H ∧ H ≤ j + gk ∧ jj = .int .i64 j ∧ GrAt wr qu (preOf (Pu.ruleOf p) (Pu.shapeOf p) 0) p.w p.h 0 0 Su ∧ (∃ B, GrAt wr qw (preOf (Pu.ruleOf p) (Pu.shapeOf p) 0) p.w p.h 0 0 B ∧ StOk (Pu.ruleOf p) B ∧ ∀ c d : Nat, c < W → d * W + c < j * W → B.getD (d * W + c) 0 = foldG (Pu.shapeOf p) Su ((c : Int) + a) ((d : Int) + b)) ∧ PlAt wr w2.heap.size p ∧ Kp (fun _ => False) w wr)
  case atStart => exact ⟨0, by omega, by omega, rfl, WU.out, ⟨Sw, GW7.out, SW.out, fun c d _ h => by omega⟩, P7.out, K7.out⟩
  case round =>
    obtain ⟨j, g1, g2, rfl, u2, b2, p2, k2⟩ := hrel
    have U2 := hide u2
    have B2 := hide b2
    have P2 := hide p2
    have K2' := hide k2
    have c6 : wr.cell? ⟨w2.heap.size, 6, none⟩ = some (.int .i64 H) := by rw [← EH.out]; exact p2.cell 6
    clear u2 b2 p2 k2
    by_cases hj : j < H
    · go_wp2_with fail
      obtain ⟨gO, hgO⟩ : ∃ g, g = gk := ⟨gk, rfl⟩
      have HGO := hide hgO
      clear hgO c6
      go_loopg [15] W (fun gi ii ws => ∃ i : Nat, i ≤ W ∧ W ≤ i + gi ∧ ii = .int .i64 i ∧ GrAt ws qu (preOf (Pu.ruleOf p) (Pu.shapeOf p) 0) p.w p.h 0 0 Su ∧ (∃ B, GrAt ws qw (preOf (Pu.ruleOf p) (Pu.shapeOf p) 0) p.w p.h 0 0 B ∧ StOk (Pu.ruleOf p) B ∧ ∀ c d : Nat, c < W → d * W + c < j * W + i → B.getD (d * W + c) 0 = foldG (Pu.shapeOf p) Su ((c : Int) + a) ((d : Int) + b)) ∧ PlAt ws w2.heap.size p ∧ Kp (fun _ => False) w ws)
      case atStart => exact ⟨0, by omega, by omega, rfl, U2.out, B2.out, P2.out, K2'.out⟩
      case round =>
        obtain ⟨i, r1, r2, rfl, u3, ⟨B, v3, ob, rel3⟩, p3, k3⟩ := hrel
        have U3 := hide u3
        have V3 := hide v3
        have OB := hide ob
        have R3 := hide rel3
        have P3 := hide p3
        have K3 := hide k3
        have c5 : wr.cell? ⟨w2.heap.size, 5, none⟩ = some (.int .i64 W) := by rw [← EW.out]; exact p3.cell 5
        clear u3 v3 ob rel3 p3 k3
        by_cases hi : i < W
        · have klt : j * W + i < 768 := by
            have := flat_lt (W := W) (H := H) hi hj
            omega
          have hbd := HBD.out Su SU.out ((i : Int) + a) ((j : Int) + b)
          have RP := hide (put_rel (g := fun c d => foldG (Pu.shapeOf p) Su ((c : Int) + a) ((d : Int) + b)) OB.out.1 klt hi R3.out)
          have LGk := hide (fun (wx : World) (hg : GrAt wx qu (preOf (Pu.ruleOf p) (Pu.shapeOf p) 0) p.w p.h 0 0 Su) => LG.out wx qu 0 Su ((i : Int) + a) ((j : Int) + b) hg (by omega) (by omega))
          rw [HG.out] at LGk
          have LPk := hide (fun (wx : World) (hg : GrAt wx qw (preOf (Pu.ruleOf p) (Pu.shapeOf p) 0) p.w p.h 0 0 B) => LP.out wx B i j (foldG (Pu.shapeOf p) Su ((i : Int) + a) ((j : Int) + b)) hg (by have := EW.out; omega) (by have := EH.out; omega) hbd)
          rw [HKc.out] at LPk
          go_wp2_with fail
          refine (LGk.out _ U3.out).mono ?_
          rintro e w8 ⟨rfl, k8⟩
          have U8 := hide (U3.out.keep k8 (fun hx => hx))
          have V8 := hide (V3.out.keep k8 (fun hx => hx))
          have P8 := hide (P3.out.keep k8 (fun hx => hx))
          have K8 := hide (K3.out.trans k8)
          clear k8
          go_wp2_with fail
          refine (LPk.out _ V8.out).mono ?_
          rintro e w9 ⟨rfl, v9, k9⟩
          have V9 := hide v9
          have U9 := hide (U8.out.keep k9 hqne)
          have P9 := hide (P8.out.keep k9 (by omega))
          have K9 := hide (K8.out.tr k9 (by intro z hz1 hz2; omega))
          clear v9 k9
          go_wp2_with fail
          go_roundg (gk - 1)
          case measure => omega
          case rel => exact ⟨i + 1, by omega, by omega, by go_num, U9.out, ⟨_, V9.out, OB.out.set _ _ hbd, RP.out⟩, P9.out, K9.out⟩
        · have ei : i = W := by omega
          subst ei
          have e1 : j * i + i = (j + 1) * i := by rw [Nat.add_mul]; omega
          rw [e1] at R3
          clear e1
          go_wp2_with fail
          go_roundg (gO - 1)
          case measure => have := HGO.out; omega
          case rel => exact ⟨j + 1, by omega, by have := HGO.out; omega, by go_num, U3.out, ⟨B, V3.out, OB.out, R3.out⟩, P3.out, K3.out⟩
    · have ej : j = H := by omega
      subst ej
      obtain ⟨B, v3, ob, rel3⟩ := B2.out
      have V3 := hide v3
      have OB := hide ob
      have RM := hide (HINI.out a b B rel3)
      clear v3 ob rel3 B2
      go_wp2_with fail
      refine (LST.out _ qu Su SU.out U2.out).mono ?_
      rintro e w8 ⟨rfl, u8, k8⟩
      have U8 := hide u8
      have V8 := hide (V3.out.keep k8 (fun hx => hqne hx.symm))
      have P8 := hide (P2.out.keep k8 (by omega))
      have K8 := hide (K2'.out.tr k8 (by intro z hz1 hz2; omega))
      clear u8 k8
      go_wp2_with fail
      refine (LST.out _ qw B OB.out V8.out).mono ?_
      rintro e w9 ⟨rfl, v9, k9⟩
      have V9 := hide v9
      have U9 := hide (U8.out.keep k9 hqne)
      have P9 := hide (P8.out.keep k9 (by omega))
      have K9 := hide (K8.out.tr k9 (by intro z hz1 hz2; omega))
      clear v9 k9
      generalize stepN (Pu.ruleOf p) (foldG (Pu.shapeOf p)) W j pn Su = Su' at *
      generalize stepN (Pu.ruleOf p) (foldG (Pu.shapeOf p)) W j pn B = Sw' at *
      go_wp2_with fail
      go_loopg [20] j (fun gk jj wr => ∃ y : Nat, y ≤ j ∧ j ≤ y + gk ∧ jj = .int .i64 y ∧ Kp (fun _ => False) w9 wr)
      case atStart => exact ⟨0, by omega, by omega, rfl, Kp.refl _ _⟩
      case round =>
        obtain ⟨y, s1, s2, rfl, k10⟩ := hrel
        have K10 := hide k10
        have P10 := hide (P9.out.keep k10 (fun hx => hx))
        have c6 : wr.cell? ⟨w2.heap.size, 6, none⟩ = some (.int .i64 j) := by rw [← EH.out]; exact P10.out.cell 6
        clear k10
        by_cases hy : y < j
        · go_wp2_with fail
          obtain ⟨gO, hgO⟩ : ∃ g, g = gk := ⟨gk, rfl⟩
          have HGO := hide hgO
          clear hgO c6
          go_loopg [21] W (fun gi ii ws => ∃ i : Nat, i ≤ W ∧ W ≤ i + gi ∧ ii = .int .i64 i ∧ Kp (fun _ => False) w9 ws)
          case atStart => exact ⟨0, by omega, by omega, rfl, K10.out⟩
          case round =>
            obtain ⟨i, r1, r2, rfl, k11⟩ := hrel
            have K11 := hide k11
            have P11 := hide (P9.out.keep k11 (fun hx => hx))
            have U11 := hide (U9.out.keep k11 (fun hx => hx))
            have V11 := hide (V9.out.keep k11 (fun hx => hx))
            have c5 : wr.cell? ⟨w2.heap.size, 5, none⟩ = some (.int .i64 W) := by rw [← EW.out]; exact P11.out.cell 5
            clear k11
            by_cases hi : i < W
            · have LGu := hide (fun (wx : World) (hg : GrAt wx qu (preOf (Pu.ruleOf p) (Pu.shapeOf p) (pn : Int)) p.w p.h 0 0 Su') => LG.out wx qu pn Su' ((i : Int) + a) ((y : Int) + b) hg (by omega) (by omega))
              have LGw := hide (fun (wx : World) (hg : GrAt wx qw (preOf (Pu.ruleOf p) (Pu.shapeOf p) (pn : Int)) p.w p.h 0 0 Sw') => LG.out wx qw pn Sw' (i : Int) (y : Int) hg (by omega) (by omega))
              rw [HG.out] at LGu LGw
              rw [RM.out] at LGw
              generalize foldG (Pu.shapeOf p) Su' ((i : Int) + a) ((y : Int) + b) = sv at *
              go_wp2_with fail
              refine (LGu.out _ U11.out).mono ?_
              rintro e w12 ⟨rfl, k12⟩
              have V12 := hide (V11.out.keep k12 (fun hx => hx))
              have K12 := hide (K11.out.trans k12)
              clear k12
              go_wp2_with fail
              refine (LGw.out _ V12.out).mono ?_
              rintro e w13 ⟨rfl, k13⟩
              have K13 := hide (K12.out.trans k13)
              clear k13
              go_wp2_with fail
              go_roundg (gk - 1)
              case measure => omega
              case rel => exact ⟨i + 1, by omega, by omega, by go_num, K13.out⟩
            · have ei : i = W := by omega
              subst ei
              go_wp2_with fail
              go_roundg (gO - 1)
              case measure => have := HGO.out; omega
              case rel => exact ⟨y + 1, by omega, by have := HGO.out; omega, by go_num, K11.out⟩
        · have ey : y = j := by omega
          subst ey
          go_wp2_with fail
          go_ret
          exact ⟨rfl, K9.out.trans K10.out⟩
end Go.Proofs.Ytiimimclbkjcbaa
