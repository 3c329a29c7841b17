import Derived.Test.YthmhjjkmnnmjlaaGreatDoorM30
import Derived.Test.YthmhjjkmnnmjlaaGreatDoorXy
namespace Go.Proofs.YthmhjjkmnnmjlaaGreatDoor
open Go.RowKit
open Go.Proofs

theorem cellL_len (r : Pu.Rule) (x : Pu.Shape) (l : List Cl) (X Y : Int) : (cellL r x l X Y).length ≤ 1 := by
  unfold cellL
  split <;> simp
theorem rowL_len (r : Pu.Rule) (x : Pu.Shape) (l : List Cl) (X0 Y : Int) : ∀ n : Nat, (rowL r x l X0 Y n).length ≤ n := by
  intro n
  induction n with
  | zero => simp [rowL]
  | succ n ih =>
    unfold rowL
    rw [List.length_append]
    have := cellL_len r x l (X0 + n) Y
    omega
theorem allL_len (r : Pu.Rule) (x : Pu.Shape) (l : List Cl) (X0 Y0 : Int) (n : Nat) : ∀ k : Nat, (allL r x l X0 Y0 n k).length ≤ n * k := by
  intro k
  induction k with
  | zero => simp [allL]
  | succ k ih =>
    unfold allL
    rw [List.length_append, Nat.mul_succ]
    have := rowL_len r x l X0 (Y0 + k) n
    omega


set_option maxHeartbeats 1000000 in
theorem xgen_nil (q : Nat) (r : Pu.Rule) (x : Pu.Shape) (age : Int) (g1 g2 : Nat) (v : Value) (l : List Cl) (w : World) (h : HdAt w q r x age g1 g2 v) (hc : ClAt w v l) (e : l = []) (hz : x.w = 0 ∨ x.h = 0) (hx : Pu.ShapeOk x) :
    Calls Tryz.prog 49 #[.pointer (some ⟨q, 0, none⟩)] w fun e w' => (∃ u, e = .returned u ∧ ClAt w' u (genL r x l)) ∧ Kp (fun _ => False) w w' := by
  subst e
  have hG : genL r x [] = [] := by
    unfold genL areaL bxL areaP
    rw [if_pos rfl, if_pos rfl]
    simp only
    rcases hz with hz | hz
    · rw [hz]
      have : ∀ k, allL r x [] 0 0 0 k = [] := by
        intro k
        induction k with
        | zero => rfl
        | succ k ih => unfold allL; rw [ih]; rfl
      exact this _
    · rw [hz]
      rfl
  rw [hG]
  obtain ⟨_, _, _, _, _, c5, c6, _, _, _, _, _⟩ := h.cells
  have c12 := h.c12
  obtain ⟨ad, cap, ev, _⟩ := hc.form
  have ev' : v = .slice ad 0 cap := ev
  rw [ev'] at c12
  have w0 := hx.w0
  have w12 := hx.w12
  have h0 := hx.h0
  have h12 := hx.h12
  have CN : Hid (ClAt w (.slice none 0 0) []) := World.ownsRow_nil _ _ _ _
  clear h hc ev ev' hG hx
  by_cases bw : x.w = 0
  · rw [bw] at c5
    clear hz bw
    go_enter Tryz.func49, Tryz.ntmps49
    go_wp2_with fail
    go_ret
    exact ⟨⟨_, rfl, CN.out⟩, Kp.refl _ _⟩
  · have bw' : (x.w == 0) = false := by simpa using bw
    have bh : x.h = 0 := hz.resolve_left bw
    rw [bh] at c6
    clear hz bw bh
    go_enter Tryz.func49, Tryz.ntmps49
    go_wp2_with fail
    go_ret
    exact ⟨⟨_, rfl, CN.out⟩, Kp.refl _ _⟩
set_option maxRecDepth 100000 in
set_option maxHeartbeats 4000000 in
theorem xgen_main (q : Nat) (r : Pu.Rule) (x : Pu.Shape) (age : Int) (g1 g2 : Nat) (v : Value) (l : List Cl) (w : World) (h : HdAt w q r x age g1 g2 v) (hc : ClAt w v l) (hx : Pu.ShapeOk x) (hk : KindB x) (ho : OneB x) (ha : r.around = 77 ∨ r.around = 86 ∨ r.around = 72) (h2 : 2 ≤ r.states) (h9 : r.states ≤ 9) (hl : l.length ≤ 1000) (hat : ∀ X Y, 0 ≤ atL l X Y ∧ atL l X Y < r.states)
    (ae : Bool) (aL aT aR aB : Int) (hA : areaL x l = ⟨ae, aL, aT, aR, aB⟩) (b1 : -10000 ≤ aL ∧ aR ≤ 10000 ∧ aR - aL < 79) (b2 : -10000 ≤ aT ∧ aB ≤ 10000 ∧ aB - aT < 79) (hcase : ((x.w == 0) = false ∧ (x.h == 0) = false ∧ aL = 0 ∧ aR = x.w - 1 ∧ aT = 0 ∧ aB = x.h - 1) ∨ (x.w = 0 ∧ l ≠ [] ∧ aL = (boxL l).1 - 1 ∧ aR = (boxL l).2.1 + 1 ∧ aT = 0 ∧ aB = x.h - 1 ∧ (-9999 ≤ (boxL l).1 ∧ (boxL l).1 ≤ 9999) ∧ (-9999 ≤ (boxL l).2.1 ∧ (boxL l).2.1 ≤ 9999)) ∨ ((x.w == 0) = false ∧ x.h = 0 ∧ l ≠ [] ∧ aL = 0 ∧ aR = x.w - 1 ∧ aT = (boxL l).2.2.1 - 1 ∧ aB = (boxL l).2.2.2 + 1 ∧ (-9999 ≤ (boxL l).2.2.1 ∧ (boxL l).2.2.1 ≤ 9999) ∧ (-9999 ≤ (boxL l).2.2.2 ∧ (boxL l).2.2.2 ≤ 9999))) :
    Calls Tryz.prog 49 #[.pointer (some ⟨q, 0, none⟩)] w fun e w' => (∃ u, e = .returned u ∧ ClAt w' u (genL r x l)) ∧ Kp (fun _ => False) w w' := by
  have hql := h.va.lt
  have hg1 := h.s1.lt
  have hg2 := h.s2.lt
  have H4L := hide hc.low
  have CE := hide (fun wx (hx : HdAt wx q r x age g1 g2 v) => hx.c12)
  have DC := hide (fun wx (h1 : HdAt wx q r x age g1 g2 v) (h2 : ClAt wx v l) => (⟨g1, g2, v, h1.va, h1.s1, h1.s2, h2⟩ : DocAt wx q r x age l))
  have LAT := hide (fun (wx : World) (A B : Int) (hg : ClAt wx v l) => xat_any v l A B wx hg (by omega))
  have LO := hide (fun (wx : World) (X Y : Int) (hX : -100000 ≤ X ∧ X ≤ 100000) (hY : -100000 ≤ Y ∧ Y ≤ 100000) (hg : DocAt wx q r x age l) => xaround_any q r x age l X Y wx hg hx hk ho (by omega) ha hX hY)
  have LR := hide (fun (wx : World) (s : Int) (k : Nat) (hg : DocAt wx q r x age l) (h1 : 0 ≤ s ∧ s < r.states) (h2 : k < 9) => xnext_any q r x age l s k wx hg h1 h9 h2)
  have L8 := hide (fun (g : Nat → Nat → Int) => ones9_8 (onesW r.around g) (onesW_mid r.around g ha))
  have GB := hide hat
  have VB := hide (fun X Y => nextR_bd r h2 (atL l X Y) (ones9 (onesW r.around fun a b => nbL x l (X + ((a : Int) - 1)) (Y + ((b : Int) - 1))) 9) (hat X Y).1)
  have VDEF : Hid (∀ X Y, valL r x l X Y = nextR r (atL l X Y) (ones9 (onesW r.around fun a b => nbL x l (X + ((a : Int) - 1)) (Y + ((b : Int) - 1))) 9)) := fun _ _ => rfl
  have CDEF : Hid (∀ X Y, cellL r x l X Y = if 0 < valL r x l X Y then [(X, Y, valL r x l X Y)] else []) := fun _ _ => rfl
  obtain ⟨ti, ti1, ti2, ti3, ti4⟩ := info_cell1
  have TI1 := hide ti1
  have TI2 := hide ti2
  have TI3 := hide ti3
  have TI4 := hide ti4
  have HGEN : Hid (allL r x l aL aT (aR - aL + 1).toNat (aB - aT + 1).toNat = genL r x l) := by
    show _ = _
    unfold genL
    rw [hA]
  have ALEN := hide (fun j => allL_len r x l aL aT (aR - aL + 1).toNat j)
  have RLEN := hide (fun (j i : Nat) => rowL_len r x l aL (aT + j) i)
  have AL0 : Hid (allL r x l aL aT (aR - aL + 1).toNat 0 = []) := rfl
  have ALS : Hid (∀ j, allL r x l aL aT (aR - aL + 1).toNat (j + 1) = allL r x l aL aT (aR - aL + 1).toNat j ++ rowL r x l aL (aT + j) (aR - aL + 1).toNat) := fun _ => rfl
  have RL0 : Hid (∀ j : Nat, rowL r x l aL (aT + j) 0 = []) := fun _ => rfl
  have RLS : Hid (∀ (j i : Nat), rowL r x l aL (aT + j) (i + 1) = rowL r x l aL (aT + j) i ++ cellL r x l (aL + i) (aT + j)) := fun _ _ => rfl
  have PRD := hide (fun (j : Nat) (hj : j ≤ 80) => Nat.mul_le_mul (show (aR - aL + 1).toNat ≤ 80 by omega) hj)
  generalize allL r x l aL aT (aR - aL + 1).toNat = AL at *
  obtain ⟨RL, hRL⟩ : ∃ RL : Nat → Nat → List Cl, ∀ j i, rowL r x l aL (aT + (j : Nat)) i = RL j i := ⟨_, fun _ _ => rfl⟩
  simp only [hRL] at RLEN ALS RL0 RLS
  have H1 := hide h
  have C1 := hide hc
  have K1 : Hid (Kp (fun _ => False) w w) := Kp.refl _ _
  obtain ⟨_, _, _, _, _, c5, c6, _, _, _, _, _⟩ := h.cells
  have c12 := h.c12
  have LBX := hide (fun (hne : l ≠ []) (wx : World) (hg : ClAt wx v l) => xbox_any v l wx hg hne (by omega))
  have HNE : Hid (l ≠ [] → 0 < l.length) := List.length_pos_iff.2
  generalize boxL l = bx at *
  obtain ⟨bx1, bx2, bx3, bx4⟩ := bx
  simp only at LBX hcase
  obtain ⟨ad, cap, ev, _⟩ := hc.form
  have w0 := hx.w0
  have w12 := hx.w12
  have h0 := hx.h0
  have h12 := hx.h12
  clear h hc hk ho ha h2 h9 hl hat hA ti1 ti2 ti3 ti4 hRL hx
  go_enter Tryz.func49, Tryz.ntmps49
  obtain ⟨tb, htb⟩ : ∃ tb : Bool, tb = decide (x.w = 0 ∨ x.h = 0) := ⟨_, rfl⟩
  go_upto_region 6 with fail
  go_cut [38] from 27 to 37 (fun t wc => t = .bool tb ∧ wc = w)
  case first =>
    rcases hcase with ⟨z1, z2, _⟩ | ⟨z1, _⟩ | ⟨z1, z2, _⟩
    · obtain rfl : tb = false := htb.trans (decide_eq_false (by simp at z1 z2; omega))
      clear htb
      go_wp2_with fail
      go_meet
      case rel => exact ⟨rfl, rfl⟩
    · obtain rfl : tb = true := htb.trans (decide_eq_true (Or.inl z1))
      rw [z1] at c5
      clear htb z1
      go_wp2_with fail
      go_meet
      case rel => exact ⟨rfl, rfl⟩
    · obtain rfl : tb = true := htb.trans (decide_eq_true (Or.inr z2))
      rw [z2] at c6
      clear htb z2
      go_wp2_with fail
      go_meet
      case rel => exact ⟨rfl, rfl⟩
  case rest =>
   obtain ⟨rfl, hw1⟩ := hcut
   subst wc
   go_upto_if 38 with fail
   go_cut [4, 5, 6, 7] from 39 to 67 (fun a b c d wd => a = .int .i64 aL ∧ b = .int .i64 aR ∧ c = .int .i64 aT ∧ d = .int .i64 aB ∧ wd = w)
   case first =>
    rcases hcase with ⟨z1, z2, e1, e2, e3, e4⟩ | ⟨z1, hne, e1, e2, e3, e4, q1, q2⟩ | ⟨z1, z2, hne, e1, e2, e3, e4, q1, q2⟩
    · obtain rfl : tb = false := htb.trans (decide_eq_false (by simp at z1 z2; omega))
      clear htb
      go_wp2_with fail
      go_meet
      case rel => exact ⟨by rw [e1], by rw [e2], by rw [e3], by rw [e4], rfl⟩
    · obtain rfl : tb = true := htb.trans (decide_eq_true (Or.inl z1))
      clear htb
      have hlp := HNE.out hne
      have hnl : ((l.length : Int) == 0) = false := by rw [beq_eq_false_iff_ne]; omega
      have LB := hide (LBX.out hne _ C1.out)
      rw [ev] at c12 LB
      rw [z1] at c5
      have E1 := hide e1
      have E2 := hide e2
      have E3 := hide e3
      have E4 := hide e4
      clear z1 e1 e2 e3 e4
      go_wp2_with fail
      refine LB.out.mono ?_
      rintro e w1 ⟨rfl, hw1⟩
      subst w1
      go_wp2_with fail
      go_meet
      case rel => exact ⟨by rw [E1.out], by rw [E2.out], by rw [E3.out], by rw [E4.out], rfl⟩
    · obtain rfl : tb = true := htb.trans (decide_eq_true (Or.inr z2))
      clear htb
      have hlp := HNE.out hne
      have hnl : ((l.length : Int) == 0) = false := by rw [beq_eq_false_iff_ne]; omega
      have LB := hide (LBX.out hne _ C1.out)
      rw [ev] at c12 LB
      rw [z2] at c6
      have E1 := hide e1
      have E2 := hide e2
      have E3 := hide e3
      have E4 := hide e4
      clear z2 e1 e2 e3 e4
      go_wp2_with fail
      refine LB.out.mono ?_
      rintro e w1 ⟨rfl, hw1⟩
      subst w1
      go_wp2_with fail
      go_meet
      case rel => exact ⟨by rw [E1.out], by rw [E2.out], by rw [E3.out], by rw [E4.out], rfl⟩
   case rest =>
    obtain ⟨rfl, rfl, rfl, rfl, hw2⟩ := hcut
    subst wc
    clear c5 c6 c12 hcase LBX HNE ev htb
    go_wp2_with fail
    obtain ⟨nX, hnX⟩ : ∃ nX, nX = (aR - aL + 1).toNat := ⟨_, rfl⟩
    obtain ⟨nY, hnY⟩ : ∃ nY, nY = (aB - aT + 1).toNat := ⟨_, rfl⟩
    rw [← hnY] at HGEN
    rw [← hnX] at ALS ALEN PRD
    go_loopg [3, 12] nY (fun gk lv yv wr => ∃ (j : Nat) (vt : Value), j ≤ nY ∧ nY ≤ j + gk ∧ vt = lv ∧ yv = .int .i64 (aT + j) ∧ HdAt wr q r x age g1 g2 v ∧ ClAt wr v l ∧ wr.ownsRow w.heap.size 80 3 vt (AL j).length (cellsv (AL j)) ∧ Kp (fun _ => False) w wr)
    case atStart => exact ⟨0, _, by omega, by omega, rfl, by simp, H1.out, C1.out, by rw [AL0.out]; exact World.ownsRow_nil _ _ _ _, K1.out⟩
    case round =>
      obtain ⟨j, vt, m1, m2, rfl, rfl, m3, m4, m5, m6⟩ := hrel
      clear H1 C1 K1
      have M3 := hide m3
      have M4 := hide m4
      have M5 := hide m5
      have M6 := hide m6
      clear m3 m4 m5 m6
      by_cases hj : aT + j ≤ aB
      · go_wp2_with fail
        obtain ⟨gO, hgO⟩ : ∃ g, g = gk := ⟨gk, rfl⟩
        have HGO := hide hgO
        obtain ⟨wO, hwO⟩ : ∃ u, u = wr := ⟨wr, rfl⟩
        obtain ⟨vO, hvO⟩ : ∃ u, u = vt := ⟨vt, rfl⟩
        rw [← hwO] at M3 M4 M5 M6
        rw [← hvO] at M5
        clear hgO
        go_loopg [3, 13] nX (fun gi lv xv ws => ∃ (i : Nat) (vu : Value), i ≤ nX ∧ nX ≤ i + gi ∧ vu = lv ∧ xv = .int .i64 (aL + i) ∧ HdAt ws q r x age g1 g2 v ∧ ClAt ws v l ∧ ws.ownsRow w.heap.size 80 3 vu (AL j ++ RL j i).length (cellsv (AL j ++ RL j i)) ∧ Kp (fun _ => False) w ws)
        case atStart => exact ⟨0, vO, by omega, by omega, hvO, by simp, by rw [← hwO]; exact M3.out, by rw [← hwO]; exact M4.out, by rw [← hwO, RL0.out, List.append_nil]; exact M5.out, by rw [← hwO]; exact M6.out⟩
        case round =>
          obtain ⟨i, vu, r1, r2, rfl, rfl, n3, n4, n5, n6⟩ := hrel
          have c12 := CE.out _ n3
          have DD := hide (DC.out _ n3 n4)
          have N3 := hide n3
          have N4 := hide n4
          have N5 := hide n5
          have N6 := hide n6
          clear n3 n4 n5 n6
          by_cases hi : aL + i ≤ aR
          · have LAk := hide (fun wx hg => LAT.out wx (aL + i) (aT + j) hg)
            have LOk := hide (fun wx hg => LO.out wx (aL + i) (aT + j) (by omega) (by omega) hg)
            have h8 := L8.out (fun a b => nbL x l ((aL + i) + ((a : Int) - 1)) ((aT + j) + ((b : Int) - 1)))
            have hsb := GB.out (aL + i) (aT + j)
            have HV := hide (VDEF.out (aL + i) (aT + j))
            have HC := hide ((RLS.out j i).trans (congrArg (RL j i ++ ·) (CDEF.out (aL + i) (aT + j))))
            have hlen1 := ALEN.out j
            have hlen2 := RLEN.out j i
            have hprod := PRD.out j (by omega)
            have vbd := VB.out (aL + i) (aT + j)
            generalize valL r x l (aL + i) (aT + j) = vv at *
            generalize ones9 (onesW r.around fun a b => nbL x l ((aL + i) + ((a : Int) - 1)) ((aT + j) + ((b : Int) - 1))) 9 = on at *
            generalize atL l (aL + i) (aT + j) = sb at *
            go_wp2_with fail
            refine (LAk.out _ N4.out).mono ?_
            rintro e w4 ⟨rfl, hw4⟩
            subst w4
            go_wp2_with fail
            refine (LOk.out _ DD.out).mono ?_
            rintro e w4 ⟨rfl, k4⟩
            have P3 := hide (N3.out.keep k4)
            have P4 := hide (N4.out.keep k4 (fun _ _ h => h))
            have P5 := hide (own_keep N5.out k4 (fun _ _ h => h))
            have P6 := hide (N6.out.trans k4)
            have D4 := hide (DC.out _ P3.out P4.out)
            clear k4 c12 N3 N4 N5 N6 DD
            go_wp2_with fail
            refine (LR.out _ sb on D4.out hsb (by omega)).mono ?_
            rw [← HV.out]
            rintro e w5 ⟨rfl, hw5⟩
            subst w5
            have sz4 := P6.out.size
            by_cases hv : 0 < vv
            · rw [if_pos hv] at HC
              obtain ⟨L, hL⟩ : ∃ L, AL j ++ RL j i = L := ⟨_, rfl⟩
              have HT2 : Hid (AL j ++ RL j (i + 1) = L ++ [(aL + i, aT + j, vv)]) := by
                show _ = _
                rw [HC.out, ← hL, List.append_assoc]
              rw [hL] at P5
              obtain ⟨ll, hll⟩ : ∃ n, L.length = n := ⟨_, rfl⟩
              have hln : ll ≤ 10000 := by rw [← hll, ← hL, List.length_append]; omega
              rw [hll] at P5
              have HLL := hide hll
              clear hll hL HC
              go_wp2_with (refine wpList_append_lies _ rfl _ _ 54 rfl w.heap.size 80 ti (.agg (cellv (0, 0, 0))) 3 24 Tryz.underlying54 TI1.out TI2.out TI3.out TI4.out rfl (by decide) vu ll (cellsv L) ?_ ?_ ⟨w4.heap.size, 0, none⟩ 1 1 (cellv (aL + i, aT + j, vv)).toList ?_ ?_ ?_ ?_ ?_ ?_ ?_ ?_ (w4.heap.size + 1) ?_ ?_
                           · rfl
                           · exact (own_of P5.out fun g hg _ => Below.heap_alloc _ _ _ hg)
                           · rfl
                           · rfl
                           · exact World.news_of_block (heap_alloc_new w4 (.cells (cellv (aL + i, aT + j, vv)) 80))
                           · exact (fun u hu => (Array.all_eq_true_iff_forall_mem.1 (cellv_one _)) u (by simpa using hu))
                           · decide
                           · (unfold maxLen; omega)
                           · omega
                           · (simp; omega)
                           · simp
                           intro g9 cap9 w9 hown hgrow _ _
                           have O9 := hide hown
                           have K9 : Hid (Kp (fun k => some k = vu.ownBlock) w4 w9) := ⟨hgrow.os, hgrow.tape, hgrow.output, Nat.le_trans (Nat.le_succ _) (Nat.le_trans (by simp) hgrow.size), fun k hk hn => (hgrow.block k (by simp; omega) hn).trans (Below.heap_alloc _ _ _ hk)⟩
                           clear hown hgrow)
              go_roundg (gk - 1)
              case measure => omega
              case rel =>
                refine ⟨i + 1, _, by omega, by omega, rfl, by go_num, P3.out.keepOwn K9.out P5.out hql hg1 hg2, ?_, ?_, P6.out.tr K9.out (fun z hz hx => absurd hx (own_far P5.out hz))⟩
                · exact P4.out.keepOwn K9.out P5.out H4L.out
                · rw [HT2.out, cellsv_append, cellsv_one, List.length_append (bs := [_]), HLL.out]
                  exact O9.out
            · rw [if_neg hv, List.append_nil] at HC
              go_wp2_with fail
              go_roundg (gk - 1)
              case measure => omega
              case rel => exact ⟨i + 1, _, by omega, by omega, rfl, by go_num, P3.out, P4.out, by rw [HC.out]; exact P5.out, P6.out⟩
          · have ei : i = nX := by omega
            rw [ei, ← ALS.out] at N5
            clear ei
            go_wp2_with fail
            go_roundg (gO - 1)
            case measure => have := HGO.out; omega
            case rel => exact ⟨j + 1, _, by omega, by have := HGO.out; omega, rfl, by go_num, N3.out, N4.out, N5.out, N6.out⟩
      · have ej : j = nY := by omega
        rw [ej, HGEN.out] at M5
        clear ej
        go_wp2_with fail
        go_ret
        exact ⟨⟨_, rfl, ClAt.of_own M5.out⟩, M6.out⟩
/-- The document's next generation. -/
theorem xgen_any (q : Nat) (r : Pu.Rule) (x : Pu.Shape) (age : Int) (l : List Cl) (w : World) (h : DocAt w q r x age l) (hx : Pu.ShapeOk x) (hk : KindB x) (ho : OneB x) (ha : r.around = 77 ∨ r.around = 86 ∨ r.around = 72) (h2 : 2 ≤ r.states) (h9 : r.states ≤ 9) (hl : l.length ≤ 1000) (hat : ∀ X Y, 0 ≤ atL l X Y ∧ atL l X Y < r.states)
    (_hin : ∀ d, d ∈ l → onSideB d.1 x.w = true ∧ onSideB d.2.1 x.h = true) (hr : Rm x.w x.h l) :
    Calls Tryz.prog 49 #[.pointer (some ⟨q, 0, none⟩)] w fun e w' => (∃ u, e = .returned u ∧ ClAt w' u (genL r x l)) ∧ Kp (fun _ => False) w w' := by
  obtain ⟨g1, g2, v, hv, s1, s2, hc⟩ := h.at1
  have hd : HdAt w q r x age g1 g2 v := ⟨hv, s1, s2⟩
  have one := hx.one
  have w0 := hx.w0
  have h0 := hx.h0
  have w12 := hx.w12
  have h12 := hx.h12
  by_cases bw : x.w = 0
  · have bh : x.h ≠ 0 := by omega
    by_cases e : l = []
    · exact xgen_nil q r x age g1 g2 v l w hd hc e (Or.inl bw) hx
    · have bo := boxL_is e
      have A : areaL x l = ⟨false, (boxL l).1 - 1, 0, (boxL l).2.1 + 1, x.h - 1⟩ := by
        unfold areaL bxL areaP
        rw [if_neg e]
        simp [bw, bh]
      obtain ⟨hin1, ⟨ca, ca1, ca2⟩, ⟨cb, cb1, cb2⟩, _, _⟩ := bo
      have r1 := hr.x bw ca ca1 ca ca1
      have r2 := hr.x bw cb cb1 ca ca1
      exact xgen_main q r x age g1 g2 v l w hd hc hx hk ho ha h2 h9 hl hat _ _ _ _ _ A (by omega) (by omega) (Or.inr (Or.inl ⟨bw, e, rfl, rfl, rfl, rfl, by omega, by omega⟩))
  · by_cases bh : x.h = 0
    · by_cases e : l = []
      · exact xgen_nil q r x age g1 g2 v l w hd hc e (Or.inr bh) hx
      · have bo := boxL_is e
        have A : areaL x l = ⟨false, 0, (boxL l).2.2.1 - 1, x.w - 1, (boxL l).2.2.2 + 1⟩ := by
          unfold areaL bxL areaP
          rw [if_neg e]
          simp [bw, bh]
        obtain ⟨hin1, _, _, ⟨ca, ca1, ca2⟩, ⟨cb, cb1, cb2⟩⟩ := bo
        have r1 := hr.y bh ca ca1 ca ca1
        have r2 := hr.y bh cb cb1 ca ca1
        exact xgen_main q r x age g1 g2 v l w hd hc hx hk ho ha h2 h9 hl hat _ _ _ _ _ A (by omega) (by omega) (Or.inr (Or.inr ⟨by rw [beq_eq_false_iff_ne]; exact bw, bh, e, rfl, rfl, rfl, rfl, by omega, by omega⟩))
    · have A : areaL x l = ⟨false, 0, 0, x.w - 1, x.h - 1⟩ := by
        unfold areaL areaP
        split
        · rfl
        · rfl
      exact xgen_main q r x age g1 g2 v l w hd hc hx hk ho ha h2 h9 hl hat _ _ _ _ _ A (by omega) (by omega) (Or.inl ⟨by rw [beq_eq_false_iff_ne]; exact bw, by rw [beq_eq_false_iff_ne]; exact bh, rfl, rfl, rfl, rfl⟩)
end Go.Proofs.YthmhjjkmnnmjlaaGreatDoor
