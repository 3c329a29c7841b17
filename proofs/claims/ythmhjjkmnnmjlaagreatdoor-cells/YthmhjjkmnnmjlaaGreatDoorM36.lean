import Derived.Test.YthmhjjkmnnmjlaaGreatDoorM35
import Derived.Deep.CutRange
namespace Go.Proofs.YthmhjjkmnnmjlaaGreatDoor
open Go.RowKit
open Go.Proofs

set_option maxRecDepth 100000 in
set_option maxHeartbeats 40000000 in
theorem call_put (c : Pc) (ow oa ob oc : Int) (os : ByteArray) (sorts : Int) (w : World) (h : PcAt w c) :
    Calls Tryz.prog 13 #[.pointer (some ⟨c.pr, 0, none⟩), .agg (opv ⟨3, ow, oa, ob, oc, os⟩), .int .i64 sorts] w fun e w' => e = .returned (.bool true) ∧ (∃ d, Turn c d ∧ PcAt w' d) ∧ Kp (fun z => z = c.q1 ∨ z = c.q2) w w' := by
  have HN := hide (fun n wx => num_any n wx)
  obtain ⟨g', l', al', L1, L2⟩ := both_put (q1 := c.q1) (q2 := c.q2) (age := c.age) h.both.al h.both.kin oa ob oc
  replace L1 := hide L1
  replace L2 := hide L2
  have AL := hide al'
  obtain ⟨age', hage'⟩ : ∃ a, a = c.age := ⟨_, rfl⟩
  have HA : Hid (0 ≤ age' ∧ age' ≤ 999999) := by rw [hage']; exact h.both.age
  generalize putE c.r c.x c.l oa ob oc = v at *
  rw [← hage'] at L1
  have L2' : Hid (∀ (wx : World), DocAt wx c.q2 c.r c.x c.age c.l → Calls Tryz.prog 20 #[.pointer (some ⟨c.q2, 0, none⟩), .int .i64 oa, .int .i64 ob, .int .i64 oc] wx fun e w' => e = .returned (.int .i64 v) ∧ DocAt w' c.q2 c.r c.x age' l' ∧ Kp (· = c.q2) wx w') := by rw [hage']; exact L2.out
  have L1' : Hid (∀ (wx : World), GsAt wx c.q1 (preOf c.r c.x c.age) c.x.w c.x.h c.g → Calls Tryz.prog 19 #[.pointer (some ⟨c.q1, 0, none⟩), .int .i64 oa, .int .i64 ob, .int .i64 oc] wx fun e w' => e = .returned (.int .i64 v) ∧ GsAt w' c.q1 (preOf c.r c.x age') c.x.w c.x.h g' ∧ Kp (· = c.q1) wx w') := by rw [hage'] at L1 ⊢; exact L1.out
  clear L1 L2 al' hage'
  have L1 := L1'
  have L2 := L2'
  clear L1' L2'
  have HP := hide h
  clear h
  go_enter Tryz.func13, Tryz.ntmps13
  go_upto_region 7 with (refine wpList_box_row rfl 27 _ rfl (opv ⟨3, ow, oa, ob, oc, os⟩) rfl ?_
                         intro w1 hw1
                         have O1 : Hid (w1.heap[w.heap.size]? = some (.cells (opv ⟨3, ow, oa, ob, oc, os⟩) 27 (0, 0))) := by rw [hw1]; exact heap_alloc_new _ _
                         have K1 : Hid (Kp (fun _ => False) w w1) := by rw [hw1]; exact (Kp.refl _ _).alloc _
                         have P1 := hide (HP.out.keep K1.out)
                         have b0 : w1.cell? ⟨w.heap.size, 0, none⟩ = some (.int .i64 3) := cell_of_row _ _ 0 _ _ _ O1.out
                         clear hw1)
  clear b0
  have b2 : w1.cell? ⟨w.heap.size, 2, none⟩ = some (.int .i64 oa) := cell_of_row _ _ 2 _ _ _ O1.out
  have b3 : w1.cell? ⟨w.heap.size, 3, none⟩ = some (.int .i64 ob) := cell_of_row _ _ 3 _ _ _ O1.out
  have b4 : w1.cell? ⟨w.heap.size, 4, none⟩ = some (.int .i64 oc) := cell_of_row _ _ 4 _ _ _ O1.out
  have d0 : w1.cell? ⟨c.pr, 0, none⟩ = some (.pointer (some ⟨c.q1, 0, none⟩)) := P1.out.at_.c0
  have d1 : w1.cell? ⟨c.pr, 1, none⟩ = some (.pointer (some ⟨c.q2, 0, none⟩)) := P1.out.at_.c1
  have hq1 := GrAt.lt P1.out.both.gs
  have hq2 := P1.out.both.doc.lt
  have hne := gs_doc_ne P1.out.both.gs P1.out.both.doc
  have hpr := P1.out.at_.lt
  have how := (Array.getElem?_eq_some_iff.1 O1.out).1
  have nO1 : w.heap.size ≠ c.q1 := fun e => by have := GrAt.row P1.out.both.gs; rw [← e, O1.out] at this; have := Option.some.inj this; injection this with _ t _; exact absurd t (by decide)
  go_cut [9] from 45 to 55 (fun sv wc => sv = .int .i64 v ∧ GsAt wc c.q1 (preOf c.r c.x age') c.x.w c.x.h g' ∧ DocAt wc c.q2 c.r c.x c.age c.l ∧ PrAt wc c.pr (.pointer (some ⟨c.q1, 0, none⟩)) (.pointer (some ⟨c.q2, 0, none⟩)) ∧ wc.heap[w.heap.size]? = some (.cells (opv ⟨3, ow, oa, ob, oc, os⟩) 27 (0, 0)) ∧ Kp (fun z => z = c.q1 ∨ z = c.q2) w wc)
  case first =>
    go_region_with (go_at_call 19; refine (L1.out _ (by exact (P1.out.keep ((Kp.refl _ _).drewN 1)).both.gs)).mono ?_; rintro e w2 ⟨rfl, gs2, k2⟩)
    all_goals
      have GS2 := hide gs2
      have K2 := hide (Kp.drewNl (n := 1) k2)
      clear k2 gs2
      go_wp2_with fail
      go_meet
    all_goals exact ⟨rfl, GS2.out, P1.out.both.doc.keepW K2.out (fun e => hne e.symm) (fun z hz => by rw [hz]; exact gs_wt P1.out.both.gs), P1.out.at_.keep K2.out (fun e => pr_wt P1.out.at_ (by rw [e]; exact gs_wt P1.out.both.gs)), K2.out.row O1.out nO1, (K1.out.orN).trans K2.out.or1⟩
  case rest =>
    obtain ⟨rfl, gs2, dc2, pr2, o2, k2⟩ := hcut
    have GS2 := hide gs2
    have DC2 := hide dc2
    have PR2 := hide pr2
    have O2 := hide o2
    have K2 := hide k2
    clear gs2 dc2 pr2 o2 k2 b2 b3 b4 d0 d1
    go_upto_region 8 with fail
    have b2 : wc.cell? ⟨w.heap.size, 2, none⟩ = some (.int .i64 oa) := cell_of_row _ _ 2 _ _ _ O2.out
    have b3 : wc.cell? ⟨w.heap.size, 3, none⟩ = some (.int .i64 ob) := cell_of_row _ _ 3 _ _ _ O2.out
    have b4 : wc.cell? ⟨w.heap.size, 4, none⟩ = some (.int .i64 oc) := cell_of_row _ _ 4 _ _ _ O2.out
    have d1 : wc.cell? ⟨c.pr, 1, none⟩ = some (.pointer (some ⟨c.q2, 0, none⟩)) := PR2.out.c1
    go_cut [10] from 56 to 66 (fun sv wd => sv = .int .i64 v ∧ (∃ d, Turn c d ∧ PcAt wd d) ∧ Kp (fun z => z = c.q1 ∨ z = c.q2) w wd)
    case first =>
      go_region_with (go_at_call 20; refine (L2.out _ (by exact DC2.out.keep ((Kp.refl _ _).drewN 1))).mono ?_; rintro e w2 ⟨rfl, dc3, k3⟩)
      all_goals
        have DC3 := hide dc3
        have K3 := hide (Kp.drewNl (n := 1) k3)
        clear k3 dc3
        go_wp2_with fail
        go_meet
      all_goals exact ⟨rfl, ⟨⟨c.pr, c.q1, c.q2, c.r, c.x, age', g', l'⟩, ⟨rfl, rfl, rfl⟩, ⟨PR2.out.keep K3.out (fun e => pr_wt PR2.out (by rw [e]; exact DC2.out.wt)), ⟨GrAt.keep GS2.out K3.out hne, DC3.out, AL.out, HP.out.both.kin, HA.out⟩, HP.out.sq⟩⟩, K2.out.trans K3.out.or2⟩
    case rest =>
      obtain ⟨rfl, p3, k3⟩ := hcut
      have P3 := hide p3
      have K3 := hide k3
      clear p3 k3 b2 b3 b4 d1
      go_wp2_with fail
      refine (HN.out _ _).mono ?_
      rintro e w9 ⟨rfl, hw9⟩
      subst w9
      go_wp2_with fail
      go_ret
      exact ⟨by simp, P3.out, K3.out⟩
end Go.Proofs.YthmhjjkmnnmjlaaGreatDoor
namespace Go.Proofs.YthmhjjkmnnmjlaaGreatDoor
open Go.RowKit
open Go.Proofs

set_option maxRecDepth 100000 in
set_option maxHeartbeats 2000000 in
theorem call_step (c : Pc) (ow oa ob oc : Int) (os : ByteArray) (sorts : Int) (w : World) (h : PcAt w c) (hs : sorts = 0 ∨ sorts = 1 ∨ sorts = 2 ∨ sorts = 4 ∨ sorts = 8 ∨ sorts = 15) :
    Calls Tryz.prog 13 #[.pointer (some ⟨c.pr, 0, none⟩), .agg (opv ⟨6, ow, oa, ob, oc, os⟩), .int .i64 sorts] w fun e w' => e = .returned (.bool true) ∧ (∃ d, Turn c d ∧ PcAt w' d) ∧ Kp (fun z => z = c.q1 ∨ z = c.q2) w w' := by
  have HN := hide (fun n wx => num_any n wx)
  obtain ⟨age', g', l', al', ha', L1, L2⟩ := both_step (q1 := c.q1) (q2 := c.q2) h.both.al h.both.kin h.sq h.both.age oa
  replace L1 := hide L1
  replace L2 := hide L2
  have AL := hide al'
  have HA := hide ha'
  have LSO := hide (fun wx (hx : DocAt wx c.q2 c.r c.x c.age c.l) => sort_any c.q2 c.r c.x c.age c.l wx hx)
  generalize stepA c.r c.x c.age c.l oa = v at *
  clear al' ha'
  have HP := hide h
  clear h
  go_enter Tryz.func13, Tryz.ntmps13
  go_upto_region 19 with (refine wpList_box_row rfl 27 _ rfl (opv ⟨6, ow, oa, ob, oc, os⟩) rfl ?_
                          intro w1 hw1
                          have O1 : Hid (w1.heap[w.heap.size]? = some (.cells (opv ⟨6, ow, oa, ob, oc, os⟩) 27 (0, 0))) := by rw [hw1]; exact heap_alloc_new _ _
                          have K1 : Hid (Kp (fun _ => False) w w1) := by rw [hw1]; exact (Kp.refl _ _).alloc _
                          have P1 := hide (HP.out.keep K1.out)
                          have b0 : w1.cell? ⟨w.heap.size, 0, none⟩ = some (.int .i64 6) := cell_of_row _ _ 0 _ _ _ O1.out
                          clear hw1)
  clear b0
  have d9 : w1.cell? ⟨c.pr, 1, none⟩ = some (.pointer (some ⟨c.q2, 0, none⟩)) := P1.out.at_.c1
  go_wp2_with fail
  refine (LSO.out _ P1.out.both.doc).mono ?_
  rintro e w9 ⟨⟨wh, rfl, hwh⟩, hw9⟩
  subst w9
  clear d9
  go_upto_region 20 with fail
  obtain ⟨wq, hwq⟩ : ∃ u, u = w1 := ⟨w1, rfl⟩
  go_cut [112] from 108 to 111 (fun t wc => (t = .bool true ∨ t = .bool false) ∧ wc = wq)
  case first =>
    rcases hs with rfl | rfl | rfl | rfl | rfl | rfl <;> rcases hwh with rfl | rfl | rfl | rfl
    all_goals
      go_wp2_with fail
      go_meet
    all_goals exact ⟨by first | exact Or.inl rfl | exact Or.inr rfl, hwq.symm⟩
  case rest =>
  obtain ⟨ht, hwc⟩ := hcut
  rw [hwq] at hwc
  subst wc
  clear hwq
  rcases ht with rfl | rfl
  · go_wp2_with fail
    go_ret
    exact ⟨rfl, ⟨c, ⟨rfl, rfl, rfl⟩, P1.out⟩, K1.out.orN⟩
  go_upto_region 22 with fail
  have b2 : w1.cell? ⟨w.heap.size, 2, none⟩ = some (.int .i64 oa) := cell_of_row _ _ 2 _ _ _ O1.out
  have b3 : w1.cell? ⟨w.heap.size, 3, none⟩ = some (.int .i64 ob) := cell_of_row _ _ 3 _ _ _ O1.out
  have b4 : w1.cell? ⟨w.heap.size, 4, none⟩ = some (.int .i64 oc) := cell_of_row _ _ 4 _ _ _ O1.out
  have d0 : w1.cell? ⟨c.pr, 0, none⟩ = some (.pointer (some ⟨c.q1, 0, none⟩)) := P1.out.at_.c0
  have d1 : w1.cell? ⟨c.pr, 1, none⟩ = some (.pointer (some ⟨c.q2, 0, none⟩)) := P1.out.at_.c1
  have hq1 := GrAt.lt P1.out.both.gs
  have hq2 := P1.out.both.doc.lt
  have hne := gs_doc_ne P1.out.both.gs P1.out.both.doc
  have hpr := P1.out.at_.lt
  have how := (Array.getElem?_eq_some_iff.1 O1.out).1
  have nO1 : w.heap.size ≠ c.q1 := fun e => by have := GrAt.row P1.out.both.gs; rw [← e, O1.out] at this; have := Option.some.inj this; injection this with _ t _; exact absurd t (by decide)
  go_cut [16] from 113 to 119 (fun sv wc => sv = .int .i64 v ∧ GsAt wc c.q1 (preOf c.r c.x age') c.x.w c.x.h g' ∧ DocAt wc c.q2 c.r c.x c.age c.l ∧ PrAt wc c.pr (.pointer (some ⟨c.q1, 0, none⟩)) (.pointer (some ⟨c.q2, 0, none⟩)) ∧ wc.heap[w.heap.size]? = some (.cells (opv ⟨6, ow, oa, ob, oc, os⟩) 27 (0, 0)) ∧ Kp (fun z => z = c.q1 ∨ z = c.q2) w wc)
  case first =>
    go_region_with (go_at_call 26; refine (L1.out _ (by exact (P1.out.keep ((Kp.refl _ _).drewN 1)).both.gs)).mono ?_; rintro e w2 ⟨rfl, gs2, k2⟩)
    all_goals
      have GS2 := hide gs2
      have K2 := hide (Kp.drewNl (n := 1) k2)
      clear k2 gs2
      go_wp2_with fail
      go_meet
    all_goals exact ⟨rfl, GS2.out, P1.out.both.doc.keepW K2.out (fun e => hne e.symm) (fun z hz => by rw [hz]; exact gs_wt P1.out.both.gs), P1.out.at_.keep K2.out (fun e => pr_wt P1.out.at_ (by rw [e]; exact gs_wt P1.out.both.gs)), K2.out.row O1.out nO1, (K1.out.orN).trans K2.out.or1⟩
  case rest =>
    obtain ⟨rfl, gs2, dc2, pr2, o2, k2⟩ := hcut
    have GS2 := hide gs2
    have DC2 := hide dc2
    have PR2 := hide pr2
    have O2 := hide o2
    have K2 := hide k2
    clear gs2 dc2 pr2 o2 k2 b2 b3 b4 d0 d1
    go_upto_region 23 with fail
    have b2 : wc.cell? ⟨w.heap.size, 2, none⟩ = some (.int .i64 oa) := cell_of_row _ _ 2 _ _ _ O2.out
    have b3 : wc.cell? ⟨w.heap.size, 3, none⟩ = some (.int .i64 ob) := cell_of_row _ _ 3 _ _ _ O2.out
    have b4 : wc.cell? ⟨w.heap.size, 4, none⟩ = some (.int .i64 oc) := cell_of_row _ _ 4 _ _ _ O2.out
    have d1 : wc.cell? ⟨c.pr, 1, none⟩ = some (.pointer (some ⟨c.q2, 0, none⟩)) := PR2.out.c1
    go_cut [17] from 120 to 126 (fun sv wd => sv = .int .i64 v ∧ (∃ d, Turn c d ∧ PcAt wd d) ∧ Kp (fun z => z = c.q1 ∨ z = c.q2) w wd)
    case first =>
      go_region_with (go_at_call 27; refine (L2.out _ (by exact DC2.out.keep ((Kp.refl _ _).drewN 1))).mono ?_; rintro e w2 ⟨rfl, dc3, k3⟩)
      all_goals
        have DC3 := hide dc3
        have K3 := hide (Kp.drewNl (n := 1) k3)
        clear k3 dc3
        go_wp2_with fail
        go_meet
      all_goals exact ⟨rfl, ⟨⟨c.pr, c.q1, c.q2, c.r, c.x, age', g', l'⟩, ⟨rfl, rfl, rfl⟩, ⟨PR2.out.keep K3.out (fun e => pr_wt PR2.out (by rw [e]; exact DC2.out.wt)), ⟨GrAt.keep GS2.out K3.out hne, DC3.out, AL.out, HP.out.both.kin, HA.out⟩, HP.out.sq⟩⟩, K2.out.trans K3.out.or2⟩
    case rest =>
      obtain ⟨rfl, p3, k3⟩ := hcut
      have P3 := hide p3
      have K3 := hide k3
      clear p3 k3 b2 b3 b4 d1
      go_wp2_with fail
      refine (HN.out _ _).mono ?_
      rintro e w9 ⟨rfl, hw9⟩
      subst w9
      go_wp2_with fail
      go_ret
      exact ⟨by simp, P3.out, K3.out⟩
end Go.Proofs.YthmhjjkmnnmjlaaGreatDoor
namespace Go.Proofs.YthmhjjkmnnmjlaaGreatDoor
open Go.RowKit
open Go.Proofs

/-- A call on a pair: true; and the pair is alike behind it. -/
theorem call_any (c : Pc) (o : Op) (sorts : Int) (hs : sorts = 0 ∨ sorts = 1 ∨ sorts = 2 ∨ sorts = 4 ∨ sorts = 8 ∨ sorts = 15) (ha : i64B o.a) (hb : i64B o.b) (w : World) (h : PcAt w c) (ht : Tab w) :
    Calls Tryz.prog 13 #[.pointer (some ⟨c.pr, 0, none⟩), .agg (opv o), .int .i64 sorts] w fun e w' => e = .returned (.bool true) ∧ (∃ d, Turn c d ∧ PcAt w' d) ∧ Kp (fun z => z = c.q1 ∨ z = c.q2) w w' := by
  obtain ⟨k, ow, oa, ob, oc, os⟩ := o
  have use : ∀ (e : Ending) (w' : World), (e = .returned (.bool true) ∧ PcAt w' c ∧ Kp (fun _ => False) w w') → (e = .returned (.bool true) ∧ (∃ d, Turn c d ∧ PcAt w' d) ∧ Kp (fun z => z = c.q1 ∨ z = c.q2) w w') := by
    rintro e w' ⟨he, hp, k⟩
    exact ⟨he, ⟨c, ⟨rfl, rfl, rfl⟩, hp⟩, k.orN⟩
  by_cases h2 : k = 2
  · subst h2
    exact (call_get c ow oa ob oc os sorts w h ha hb).mono use
  · by_cases h3 : k = 3
    · subst h3
      exact call_put c ow oa ob oc os sorts w h
    · by_cases h4 : k = 4
      · subst h4
        exact (call_count c ow oa ob oc os sorts w h).mono use
      · by_cases h5 : k = 5
        · subst h5
          exact (call_save c ow oa ob oc os sorts w h ht).mono use
        · by_cases h6 : k = 6
          · subst h6
            exact call_step c ow oa ob oc os sorts w h hs
          · exact (call_else c k ow oa ob oc os sorts w h h2 h3 h4 h5 h6).mono use
end Go.Proofs.YthmhjjkmnnmjlaaGreatDoor
