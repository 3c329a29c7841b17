import Derived.Test.YtiimimclbkjcbaaJf
import Derived.Test.YtiimimclbkjcbaaM18
namespace Go.Proofs.Ytiimimclbkjcbaa
open Go.RowKit
open Go.Proofs

def TX (tu : Bool) (W i j : Nat) : Nat := if tu = true then j else W - 1 - i
def TY (tu : Bool) (i j : Nat) : Nat := if tu = true then i else j
/-- The second world's cells are the first one's, changed about: so many of them. -/
def RelU (tu : Bool) (W : Nat) (Su Sw : List Int) (m : Nat) : Prop := ∀ i j, i < W → j * W + i < m → Sw.getD (TY tu i j * W + TX tu W i j) 0 = Su.getD (j * W + i) 0
theorem flat_inj2 {W i j a b : Nat} (hi : i < W) (ha : a < W) (h : b * W + a = j * W + i) : a = i ∧ b = j := by
  have h1 : (b * W + a) % W = (j * W + i) % W := by rw [h]
  rw [Nat.mul_comm b W, Nat.mul_comm j W, Nat.mul_add_mod, Nat.mul_add_mod, Nat.mod_eq_of_lt ha, Nat.mod_eq_of_lt hi] at h1
  subst h1
  refine ⟨rfl, ?_⟩
  have h2 : b * W = j * W := by omega
  exact Nat.eq_of_mul_eq_mul_right (by omega) h2
theorem row_lt {W H i j : Nat} (_hi : i < W) (h : j * W + i < H * W) : j < H := by
  rcases Nat.lt_or_ge j H with h1 | h1
  · exact h1
  · have : H * W ≤ j * W := Nat.mul_le_mul_right W h1
    omega
theorem TX_lt {tu : Bool} {W H i j : Nat} (ht : tu = true → W = H) (hi : i < W) (hj : j < H) : TX tu W i j < W ∧ TY tu i j < H := by
  unfold TX TY
  cases tu
  · simp; omega
  · have := ht rfl
    simp
    omega
theorem TXY_inj {tu : Bool} {W H i j a b : Nat} (ht : tu = true → W = H) (hi : i < W) (hj : j < H) (ha : a < W) (hb : b < H) (h : TY tu a b * W + TX tu W a b = TY tu i j * W + TX tu W i j) : a = i ∧ b = j := by
  have h1 := flat_inj2 (TX_lt ht hi hj).1 (TX_lt ht ha hb).1 h
  unfold TX TY at h1
  cases tu
  · simp at h1; omega
  · simp at h1; omega
theorem RelU.put {tu : Bool} {W H : Nat} {Su Sw : List Int} {i j : Nat} (h : RelU tu W Su Sw (j * W + i)) (ht : tu = true → W = H) (hi : i < W) (hj : j < H) (hl : Sw.length = 768) (hWH : H * W ≤ 144) : RelU tu W Su (Sw.set (TY tu i j * W + TX tu W i j) (Su.getD (j * W + i) 0)) (j * W + i + 1) := by
  intro a b ha hab
  have tl := TX_lt ht hi hj
  have hlt : TY tu i j * W + TX tu W i j < H * W := by
    have h1 : (TY tu i j + 1) * W ≤ H * W := Nat.mul_le_mul_right W tl.2
    rw [Nat.add_mul] at h1
    omega
  have hbH : b < H := by
    have h1 : (j + 1) * W ≤ H * W := Nat.mul_le_mul_right W hj
    rw [Nat.add_mul] at h1
    exact row_lt ha (by omega)
  unfold List.getD
  rw [List.getElem?_set]
  by_cases e : TY tu i j * W + TX tu W i j = TY tu a b * W + TX tu W a b
  · obtain ⟨rfl, rfl⟩ := TXY_inj ht hi hj ha hbH e.symm
    rw [if_pos e, if_pos (by omega)]
    rfl
  · rw [if_neg e]
    have hne : b * W + a ≠ j * W + i := by
      intro e2
      obtain ⟨rfl, rfl⟩ := flat_inj2 hi ha e2
      exact e rfl
    have := h a b ha (by omega)
    unfold List.getD at this
    exact this
theorem StOk.set {r : Pu.Rule} {S : List Int} (h : StOk r S) (k : Nat) (u : Int) (hu : 0 ≤ u ∧ u < r.states) : StOk r (S.set k u) := by
  refine ⟨by rw [List.length_set]; exact h.1, fun m => ?_⟩
  unfold List.getD
  rw [List.getElem?_set]
  by_cases e : k = m
  · rw [if_pos e]
    split
    · exact hu
    · have := h.2 S.length
      simp at this
      exact ⟨Int.le_refl 0, by show (0 : Int) < r.states; omega⟩
  · rw [if_neg e]
    exact h.2 m

theorem getD_set {S : List Int} {k : Nat} {u : Int} (h : k < S.length) : (S.set k u).getD k 0 = u := by
  unfold List.getD
  rw [List.getElem?_set, if_pos rfl, if_pos h]
  rfl

set_option maxRecDepth 100000 in
set_option maxHeartbeats 2000000 in
theorem matched_any (p : Pu.Plan) (hp : Pu.PlanOk p) (hr : RuleOk (Pu.ruleOf p)) (W H : Nat) (hW : p.w = W) (hH : p.h = H) (tu : Bool) (ht : tu = true → W = H) (NX : List Int → List Int)
    (hst : ∀ (wx : World) (q : Nat) (age : Int) (S : List Int), StOk (Pu.ruleOf p) S → 0 ≤ age → age ≤ 1000 → GrAt wx q (preOf (Pu.ruleOf p) (Pu.shapeOf p) age) p.w p.h 0 0 S → Calls Try.prog 23 #[.pointer (some ⟨q, 0, none⟩), .int .i64 1] wx fun e w' => e = .returned (.int .i64 0) ∧ GrAt w' q (preOf (Pu.ruleOf p) (Pu.shapeOf p) (age + 1)) p.w p.h 0 0 (NX S) ∧ Kp (· = q) wx w')
    (hok : ∀ S, StOk (Pu.ruleOf p) S → StOk (Pu.ruleOf p) (NX S)) (hrel : ∀ Su Sw, StOk (Pu.ruleOf p) Su → StOk (Pu.ruleOf p) Sw → RelU tu W Su Sw (H * W) → RelU tu W (NX Su) (NX Sw) (H * W))
    (qu qw : Nat) (hne : qu ≠ qw) (Su Sw : List Int) (su : StOk (Pu.ruleOf p) Su) (sw : StOk (Pu.ruleOf p) Sw) (n : Nat) (hn : n ≤ 4) (w : World) (gu : GrAt w qu (preOf (Pu.ruleOf p) (Pu.shapeOf p) 0) p.w p.h 0 0 Su) (gw : GrAt w qw (preOf (Pu.ruleOf p) (Pu.shapeOf p) 0) p.w p.h 0 0 Sw) :
    Calls Try.prog 25 #[.agg (planv p), .pointer (some ⟨qu, 0, none⟩), .pointer (some ⟨qw, 0, none⟩), .int .i64 n, .bool tu] w fun e w' => e = .returned (.bool true) ∧ Kp (fun z => z = qu ∨ z = qw) w w' := by
  have hw := hp.w
  have hh := hp.h
  have EW := hide hW
  have EH := hide hH
  have W12 : W ≤ 12 := by omega
  have H12 : H ≤ 12 := by omega
  have hWH : H * W ≤ 144 := Nat.mul_le_mul H12 W12
  have HT := hide ht
  have HST := hide hst
  have HOK := hide hok
  have HREL := hide hrel
  have GU := hide gu
  have GW := hide gw
  have OU := hide su
  have OW := hide sw
  have qul := gu.lt
  have qwl := gw.lt
  have LP := hide (fun (wx : World) (q : Nat) (age : Int) (S : List Int) (a b s : Int) (h : GrAt wx q (preOf (Pu.ruleOf p) (Pu.shapeOf p) age) p.w p.h 0 0 S) (ha : 0 ≤ a ∧ a < p.w) (hb : 0 ≤ b ∧ b < p.h) (hs : 0 ≤ s ∧ s < p.c) => wput_two q (Pu.ruleOf p) (Pu.shapeOf p) age S a b s wx h hr (two_plan hp) ha hb hs)
  have LG := hide (fun (wx : World) (q : Nat) (age : Int) (S : List Int) (a b : Int) (h : GrAt wx q (preOf (Pu.ruleOf p) (Pu.shapeOf p) age) p.w p.h 0 0 S) (ha : 0 ≤ a ∧ a < p.w) (hb : 0 ≤ b ∧ b < p.h) => wget_two q (Pu.ruleOf p) (Pu.shapeOf p) age S a b wx h hr (two_plan hp) hp.kind (by show 0 ≤ p.sw ∧ p.sw ≤ 64; have := hp.torus; omega) (by show 0 ≤ p.sh ∧ p.sh ≤ 64; have := hp.torus; omega) ha hb)
  clear gu gw su sw hst hok hrel ht hW hH
  go_enter Try.func25, Try.ntmps25
  go_wp2_with (refine wpList_box_row rfl 34 _ rfl (planv p) rfl ?_
               intro w1 hw1
               have P1 : Hid (PlAt w1 w.heap.size p) := ⟨by rw [hw1]; exact heap_alloc_new _ _⟩
               have K1 : Hid (Kp (fun z => z = qu ∨ z = qw) w w1) := by rw [hw1]; exact (Kp.refl _ _).alloc _
               have U1 : Hid (GrAt w1 qu (preOf (Pu.ruleOf p) (Pu.shapeOf p) ((0 : Nat) : Int)) p.w p.h 0 0 Su) := by rw [hw1]; exact GU.out.alloc _
               have V1 : Hid (GrAt w1 qw (preOf (Pu.ruleOf p) (Pu.shapeOf p) ((0 : Nat) : Int)) p.w p.h 0 0 Sw) := by rw [hw1]; exact GW.out.alloc _
               clear hw1)
  go_loopg [11] (n + 1) (fun gk kk wr => ∃ (k : Nat) (A B : List Int), k ≤ n + 1 ∧ n + 1 ≤ k + gk ∧ kk = .int .i64 k ∧ GrAt wr qu (preOf (Pu.ruleOf p) (Pu.shapeOf p) (k : Int)) p.w p.h 0 0 A ∧ GrAt wr qw (preOf (Pu.ruleOf p) (Pu.shapeOf p) (k : Int)) p.w p.h 0 0 B ∧ StOk (Pu.ruleOf p) A ∧ StOk (Pu.ruleOf p) B ∧ (k = 0 ∨ RelU tu W A B (H * W)) ∧ PlAt wr w.heap.size p ∧ Kp (fun z => z = qu ∨ z = qw) w wr)
  case atStart => exact ⟨0, Su, Sw, by omega, by omega, rfl, U1.out, V1.out, OU.out, OW.out, Or.inl rfl, P1.out, K1.out⟩
  case round =>
    obtain ⟨k, A, B, g1, g2, rfl, u2, v2, oa, ob, rel2, p2, k2⟩ := hrel
    have U2 := hide u2
    have OA := hide oa
    have P2 := hide p2
    have K2 := hide k2
    have R2 : Hid (RelU tu W A B (if k = 0 then 0 else H * W)) := by
      by_cases e : k = 0
      · rw [if_pos e]; intro i j _ h; omega
      · rw [if_neg e]; exact rel2.resolve_left e
    have B2 : Hid (∃ B, GrAt wr qw (preOf (Pu.ruleOf p) (Pu.shapeOf p) (k : Int)) p.w p.h 0 0 B ∧ StOk (Pu.ruleOf p) B ∧ RelU tu W A B (if k = 0 then 0 * W else H * W)) := ⟨B, v2, ob, by rw [Nat.zero_mul]; exact R2.out⟩
    clear u2 v2 oa ob rel2 p2 k2 R2
    by_cases hk : k ≤ n
    · have hkk : (k : Int) ≤ (n : Int) := by omega
      go_wp2_with fail
      obtain ⟨gO, hgO⟩ : ∃ g, g = gk := ⟨gk, rfl⟩
      have HGO := hide hgO
      clear hgO
      go_loopg [12] H (fun gi jj ws => ∃ j : Nat, j ≤ H ∧ H ≤ j + gi ∧ jj = .int .i64 j ∧ GrAt ws qu (preOf (Pu.ruleOf p) (Pu.shapeOf p) (k : Int)) p.w p.h 0 0 A ∧ (∃ B, GrAt ws qw (preOf (Pu.ruleOf p) (Pu.shapeOf p) (k : Int)) p.w p.h 0 0 B ∧ StOk (Pu.ruleOf p) B ∧ RelU tu W A B (if k = 0 then j * W else H * W)) ∧ PlAt ws w.heap.size p ∧ Kp (fun z => z = qu ∨ z = qw) w ws)
      case atStart => exact ⟨0, by omega, by omega, rfl, U2.out, B2.out, P2.out, K2.out⟩
      case round =>
        obtain ⟨j, r1, r2, rfl, u3, b3, p3, k3⟩ := hrel
        have U3 := hide u3
        have B3 := hide b3
        have P3 := hide p3
        have K3 := hide k3
        have c6 : wr.cell? ⟨w.heap.size, 6, none⟩ = some (.int .i64 H) := by rw [← EH.out]; exact p3.cell 6
        clear u3 b3 p3 k3
        by_cases hj : j < H
        · go_wp2_with fail
          obtain ⟨gP, hgP⟩ : ∃ g, g = gk := ⟨gk, rfl⟩
          have HGP := hide hgP
          clear hgP c6
          go_loopg [13] W (fun gi ii ws => ∃ i : Nat, i ≤ W ∧ W ≤ i + gi ∧ ii = .int .i64 i ∧ GrAt ws qu (preOf (Pu.ruleOf p) (Pu.shapeOf p) (k : Int)) p.w p.h 0 0 A ∧ (∃ B, GrAt ws qw (preOf (Pu.ruleOf p) (Pu.shapeOf p) (k : Int)) p.w p.h 0 0 B ∧ StOk (Pu.ruleOf p) B ∧ RelU tu W A B (if k = 0 then j * W + i else H * W)) ∧ PlAt ws w.heap.size p ∧ Kp (fun z => z = qu ∨ z = qw) w ws)
          case atStart => exact ⟨0, by omega, by omega, rfl, U3.out, B3.out, P3.out, K3.out⟩
          case round =>
            obtain ⟨i, s1, s2, rfl, u4, ⟨B, v4, ob, rel4⟩, p4, k4⟩ := hrel
            have U4 := hide u4
            have V4 := hide v4
            have OB := hide ob
            have R4 := hide rel4
            have P4 := hide p4
            have K4 := hide k4
            have c5 : wr.cell? ⟨w.heap.size, 5, none⟩ = some (.int .i64 W) := by rw [← EW.out]; exact p4.cell 5
            clear u4 v4 ob rel4 p4 k4
            by_cases hi : i < W
            · have kHW : j * W + i < H * W := by
                have h1 : (j + 1) * W ≤ H * W := Nat.mul_le_mul_right W hj
                rw [Nat.add_mul] at h1
                omega
              have hsv := OA.out.2 (j * W + i)
              have LGu := hide (fun (wx : World) (hg : GrAt wx qu (preOf (Pu.ruleOf p) (Pu.shapeOf p) (k : Int)) p.w p.h 0 0 A) => LG.out wx qu (k : Int) A i j hg (by have := EW.out; omega) (by have := EH.out; omega))
              have e2 : ((j : Int) * (Pu.shapeOf p).w + i).toNat = j * W + i := by
                show ((j : Int) * p.w + i).toNat = _
                rw [EW.out, ← Int.natCast_mul, ← Int.natCast_add]; rfl
              rw [e2] at LGu
              have tl := TX_lt HT.out hi hj
              have tlt : TY tu i j * W + TX tu W i j < H * W := by
                have h1 : (TY tu i j + 1) * W ≤ H * W := Nat.mul_le_mul_right W tl.2
                rw [Nat.add_mul] at h1
                omega
              by_cases hz : k = 0
              · subst hz
                have r4 := R4.out
                rw [if_pos rfl] at r4
                have RP := hide (r4.put HT.out hi hj OB.out.1 hWH)
                clear r4 R4 e2
                generalize A.getD (j * W + i) 0 = sv at *
                go_wp2_with fail
                refine (LGu.out _ U4.out).mono ?_
                rintro e w5 ⟨rfl, k5⟩
                have V5 := hide (V4.out.keep k5 (fun hx => hx))
                have U5 := hide (U4.out.keep k5 (fun hx => hx))
                have P5 := hide (P4.out.keep k5 (fun hx => hx))
                have K5 := hide (K4.out.tr k5 (by intro z _ hz; exact hz.elim))
                have c5 : w5.cell? ⟨w.heap.size, 5, none⟩ = some (.int .i64 W) := by rw [← EW.out]; exact P5.out.cell 5
                clear k5
                cases tu
                · unfold TX TY at RP tlt
                  rw [if_neg (by simp), if_neg (by simp)] at RP tlt
                  have eT : ((((j : Int)) : Int) * (Pu.shapeOf p).w + ((W : Int) - 1 - (i : Int))).toNat = j * W + (W - 1 - i) := by
                    show ((((j : Int)) : Int) * p.w + ((W : Int) - 1 - (i : Int))).toNat = _
                    rw [EW.out]
                    have e9 : ((((j : Int)) : Int) * (W : Int) + ((W : Int) - 1 - (i : Int))) = ((j * W + (W - 1 - i) : Nat) : Int) := by
                      rw [Int.natCast_add, Int.natCast_mul]
                      all_goals omega
                    rw [e9]; rfl
                  have LPk := hide (fun (wx : World) (hg : GrAt wx qw (preOf (Pu.ruleOf p) (Pu.shapeOf p) ((0 : Nat) : Int)) p.w p.h 0 0 B) => LP.out wx qw ((0 : Nat) : Int) B ((W : Int) - 1 - (i : Int)) ((j : Int)) sv hg (by have := EW.out; omega) (by have := EH.out; omega) hsv)
                  have LGk := hide (fun (wx : World) (C : List Int) (hg : GrAt wx qw (preOf (Pu.ruleOf p) (Pu.shapeOf p) ((0 : Nat) : Int)) p.w p.h 0 0 C) => LG.out wx qw ((0 : Nat) : Int) C ((W : Int) - 1 - (i : Int)) ((j : Int)) hg (by have := EW.out; omega) (by have := EH.out; omega))
                  rw [eT] at LPk
                  have LGk' := hide (fun (wx : World) (C : List Int) (hg : GrAt wx qw (preOf (Pu.ruleOf p) (Pu.shapeOf p) ((0 : Nat) : Int)) p.w p.h 0 0 C) => by have := LGk.out wx C hg; rw [eT] at this; exact this)
                  clear eT LGk
                  go_wp2_with fail
                  refine (LPk.out _ V5.out).mono ?_
                  rintro e w6 ⟨rfl, v6, k6⟩
                  have V6 := hide v6
                  have U6 := hide (U5.out.keep k6 hne)
                  have P6 := hide (P5.out.keep k6 (by omega))
                  have K6 := hide (K5.out.tr k6 (by intro z _ hz; exact Or.inr hz))
                  clear v6 k6
                  have LGz := hide (fun (wx : World) (hg : GrAt wx qw (preOf (Pu.ruleOf p) (Pu.shapeOf p) ((0 : Nat) : Int)) p.w p.h 0 0 (B.set (j * W + (W - 1 - i)) sv)) => LGk'.out wx _ hg)
                  rw [show (B.set (j * W + (W - 1 - i)) sv).getD (j * W + (W - 1 - i)) 0 = sv from getD_set (by rw [OB.out.1]; omega)] at LGz
                  go_wp2_with fail
                  refine (LGz.out _ V6.out).mono ?_
                  rintro e w7 ⟨rfl, k7⟩
                  have V7 := hide (V6.out.keep k7 (fun hx => hx))
                  have U7 := hide (U6.out.keep k7 (fun hx => hx))
                  have P7 := hide (P6.out.keep k7 (fun hx => hx))
                  have K7 := hide (K6.out.tr k7 (by intro z _ hz; exact hz.elim))
                  clear k7
                  go_wp2_with fail
                  go_roundg (gk - 1)
                  case measure => omega
                  case rel => exact ⟨i + 1, by omega, by omega, by go_num, U7.out, ⟨B.set (j * W + (W - 1 - i)) sv, V7.out, OB.out.set _ _ hsv, by first | (rw [if_pos trivial]; exact RP.out) | (rw [if_pos rfl]; exact RP.out)⟩, P7.out, K7.out⟩
                · unfold TX TY at RP tlt
                  rw [if_pos rfl, if_pos rfl] at RP tlt
                  have eT : ((((i : Int)) : Int) * (Pu.shapeOf p).w + ((j : Int))).toNat = i * W + j := by
                    show ((((i : Int)) : Int) * p.w + ((j : Int))).toNat = _
                    rw [EW.out]
                    have e9 : ((((i : Int)) : Int) * (W : Int) + ((j : Int))) = ((i * W + j : Nat) : Int) := by
                      rw [Int.natCast_add, Int.natCast_mul]
                      all_goals omega
                    rw [e9]; rfl
                  have LPk := hide (fun (wx : World) (hg : GrAt wx qw (preOf (Pu.ruleOf p) (Pu.shapeOf p) ((0 : Nat) : Int)) p.w p.h 0 0 B) => LP.out wx qw ((0 : Nat) : Int) B ((j : Int)) ((i : Int)) sv hg (by have := EW.out; have := HT.out rfl; omega) (by have := EH.out; have := HT.out rfl; omega) hsv)
                  have LGk := hide (fun (wx : World) (C : List Int) (hg : GrAt wx qw (preOf (Pu.ruleOf p) (Pu.shapeOf p) ((0 : Nat) : Int)) p.w p.h 0 0 C) => LG.out wx qw ((0 : Nat) : Int) C ((j : Int)) ((i : Int)) hg (by have := EW.out; have := HT.out rfl; omega) (by have := EH.out; have := HT.out rfl; omega))
                  rw [eT] at LPk
                  have LGk' := hide (fun (wx : World) (C : List Int) (hg : GrAt wx qw (preOf (Pu.ruleOf p) (Pu.shapeOf p) ((0 : Nat) : Int)) p.w p.h 0 0 C) => by have := LGk.out wx C hg; rw [eT] at this; exact this)
                  clear eT LGk
                  go_wp2_with fail
                  refine (LPk.out _ V5.out).mono ?_
                  rintro e w6 ⟨rfl, v6, k6⟩
                  have V6 := hide v6
                  have U6 := hide (U5.out.keep k6 hne)
                  have P6 := hide (P5.out.keep k6 (by omega))
                  have K6 := hide (K5.out.tr k6 (by intro z _ hz; exact Or.inr hz))
                  clear v6 k6
                  have LGz := hide (fun (wx : World) (hg : GrAt wx qw (preOf (Pu.ruleOf p) (Pu.shapeOf p) ((0 : Nat) : Int)) p.w p.h 0 0 (B.set (i * W + j) sv)) => LGk'.out wx _ hg)
                  rw [show (B.set (i * W + j) sv).getD (i * W + j) 0 = sv from getD_set (by rw [OB.out.1]; omega)] at LGz
                  go_wp2_with fail
                  refine (LGz.out _ V6.out).mono ?_
                  rintro e w7 ⟨rfl, k7⟩
                  have V7 := hide (V6.out.keep k7 (fun hx => hx))
                  have U7 := hide (U6.out.keep k7 (fun hx => hx))
                  have P7 := hide (P6.out.keep k7 (fun hx => hx))
                  have K7 := hide (K6.out.tr k7 (by intro z _ hz; exact hz.elim))
                  clear k7
                  go_wp2_with fail
                  go_roundg (gk - 1)
                  case measure => omega
                  case rel => exact ⟨i + 1, by omega, by omega, by go_num, U7.out, ⟨B.set (i * W + j) sv, V7.out, OB.out.set _ _ hsv, by first | (rw [if_pos trivial]; exact RP.out) | (rw [if_pos rfl]; exact RP.out)⟩, P7.out, K7.out⟩
              · have r4 := R4.out
                rw [if_neg hz] at r4
                have R4 := hide r4
                have RV := hide (r4 i j hi kHW)
                have bk : ((k : Int) == 0) = false := by simp; omega
                have NK := hide hz
                clear r4 e2 hz
                generalize A.getD (j * W + i) 0 = sv at *
                go_wp2_with fail
                refine (LGu.out _ U4.out).mono ?_
                rintro e w5 ⟨rfl, k5⟩
                have V5 := hide (V4.out.keep k5 (fun hx => hx))
                have U5 := hide (U4.out.keep k5 (fun hx => hx))
                have P5 := hide (P4.out.keep k5 (fun hx => hx))
                have K5 := hide (K4.out.tr k5 (by intro z _ hz; exact hz.elim))
                have c5 : w5.cell? ⟨w.heap.size, 5, none⟩ = some (.int .i64 W) := by rw [← EW.out]; exact P5.out.cell 5
                clear k5
                cases tu
                · unfold TX TY at RV tlt
                  rw [if_neg (by simp), if_neg (by simp)] at RV tlt
                  have eT : ((((j : Int)) : Int) * (Pu.shapeOf p).w + ((W : Int) - 1 - (i : Int))).toNat = j * W + (W - 1 - i) := by
                    show ((((j : Int)) : Int) * p.w + ((W : Int) - 1 - (i : Int))).toNat = _
                    rw [EW.out]
                    have e9 : ((((j : Int)) : Int) * (W : Int) + ((W : Int) - 1 - (i : Int))) = ((j * W + (W - 1 - i) : Nat) : Int) := by
                      rw [Int.natCast_add, Int.natCast_mul]
                      all_goals omega
                    rw [e9]; rfl
                  have LGk := hide (fun (wx : World) (hg : GrAt wx qw (preOf (Pu.ruleOf p) (Pu.shapeOf p) (k : Int)) p.w p.h 0 0 B) => LG.out wx qw (k : Int) B ((W : Int) - 1 - (i : Int)) ((j : Int)) hg (by have := EW.out; omega) (by have := EH.out; omega))
                  rw [eT, show B.getD (j * W + (W - 1 - i)) 0 = sv from RV.out] at LGk
                  clear eT
                  go_wp2_with fail
                  refine (LGk.out _ V5.out).mono ?_
                  rintro e w7 ⟨rfl, k7⟩
                  have V7 := hide (V5.out.keep k7 (fun hx => hx))
                  have U7 := hide (U5.out.keep k7 (fun hx => hx))
                  have P7 := hide (P5.out.keep k7 (fun hx => hx))
                  have K7 := hide (K5.out.tr k7 (by intro z _ hz; exact hz.elim))
                  clear k7
                  go_wp2_with fail
                  go_roundg (gk - 1)
                  case measure => omega
                  case rel => exact ⟨i + 1, by omega, by omega, by go_num, U7.out, ⟨B, V7.out, OB.out, by rw [if_neg NK.out]; exact R4.out⟩, P7.out, K7.out⟩
                · unfold TX TY at RV tlt
                  rw [if_pos rfl, if_pos rfl] at RV tlt
                  have eT : ((((i : Int)) : Int) * (Pu.shapeOf p).w + ((j : Int))).toNat = i * W + j := by
                    show ((((i : Int)) : Int) * p.w + ((j : Int))).toNat = _
                    rw [EW.out]
                    have e9 : ((((i : Int)) : Int) * (W : Int) + ((j : Int))) = ((i * W + j : Nat) : Int) := by
                      rw [Int.natCast_add, Int.natCast_mul]
                      all_goals omega
                    rw [e9]; rfl
                  have LGk := hide (fun (wx : World) (hg : GrAt wx qw (preOf (Pu.ruleOf p) (Pu.shapeOf p) (k : Int)) p.w p.h 0 0 B) => LG.out wx qw (k : Int) B ((j : Int)) ((i : Int)) hg (by have := EW.out; have := HT.out rfl; omega) (by have := EH.out; have := HT.out rfl; omega))
                  rw [eT, show B.getD (i * W + j) 0 = sv from RV.out] at LGk
                  clear eT
                  go_wp2_with fail
                  refine (LGk.out _ V5.out).mono ?_
                  rintro e w7 ⟨rfl, k7⟩
                  have V7 := hide (V5.out.keep k7 (fun hx => hx))
                  have U7 := hide (U5.out.keep k7 (fun hx => hx))
                  have P7 := hide (P5.out.keep k7 (fun hx => hx))
                  have K7 := hide (K5.out.tr k7 (by intro z _ hz; exact hz.elim))
                  clear k7
                  go_wp2_with fail
                  go_roundg (gk - 1)
                  case measure => omega
                  case rel => exact ⟨i + 1, by omega, by omega, by go_num, U7.out, ⟨B, V7.out, OB.out, by rw [if_neg NK.out]; exact R4.out⟩, P7.out, K7.out⟩
            · have ei : i = W := by omega
              subst ei
              have e1 : j * i + i = (j + 1) * i := by rw [Nat.add_mul]; omega
              rw [e1] at R4
              clear e1
              go_wp2_with fail
              go_roundg (gP - 1)
              case measure => have := HGP.out; omega
              case rel => exact ⟨j + 1, by omega, by have := HGP.out; omega, by go_num, U4.out, ⟨B, V4.out, OB.out, R4.out⟩, P4.out, K4.out⟩
        · have ej : j = H := by omega
          subst ej
          obtain ⟨B, v4, ob, rel4⟩ := B3.out
          have V4 := hide v4
          have OB := hide ob
          have R4 : Hid (RelU tu W A B (j * W)) := by
            by_cases e : k = 0
            · rw [if_pos e] at rel4; exact rel4
            · rw [if_neg e] at rel4; exact rel4
          clear v4 ob rel4
          go_wp2_with fail
          refine (HST.out _ qu (k : Int) A OA.out (by omega) (by omega) U3.out).mono ?_
          rintro e w5 ⟨rfl, u5, k5⟩
          have U5 := hide u5
          have V5 := hide (V4.out.keep k5 (fun hx => hne hx.symm))
          have P5 := hide (P3.out.keep k5 (by omega))
          have K5 := hide (K3.out.tr k5 (by intro z _ hz; exact Or.inl hz))
          clear u5 k5
          go_wp2_with fail
          refine (HST.out _ qw (k : Int) B OB.out (by omega) (by omega) V5.out).mono ?_
          rintro e w6 ⟨rfl, v6, k6⟩
          have V6 := hide v6
          have U6 := hide (U5.out.keep k6 hne)
          have P6 := hide (P5.out.keep k6 (by omega))
          have K6 := hide (K5.out.tr k6 (by intro z _ hz; exact Or.inr hz))
          clear v6 k6
          go_wp2_with fail
          go_roundg (gO - 1)
          case measure => have := HGO.out; omega
          case rel => exact ⟨k + 1, NX A, NX B, by omega, by have := HGO.out; omega, by go_num, U6.out, V6.out, HOK.out A OA.out, HOK.out B OB.out, Or.inr (HREL.out A B OA.out OB.out R4.out), P6.out, K6.out⟩
    · have hkk : ¬ (k : Int) ≤ (n : Int) := by omega
      go_wp2_with fail
      go_ret
      exact ⟨rfl, K2.out⟩
end Go.Proofs.Ytiimimclbkjcbaa
