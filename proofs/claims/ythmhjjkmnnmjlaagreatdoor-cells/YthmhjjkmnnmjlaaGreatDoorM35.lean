import Derived.Test.YthmhjjkmnnmjlaaGreatDoorM34
import Derived.Deep.CutRange
import Derived.Deep.Slices
import Derived.ChangeArms
import Derived.WideShapes
import Derived.OpenShut
namespace Go.Proofs.YthmhjjkmnnmjlaaGreatDoor
open Go.RowKit
open Go.Proofs

set_option maxRecDepth 100000 in
set_option maxHeartbeats 40000000 in
theorem call_put (c : Pc) (ow oa ob oc : Int) (os : ByteArray) (sorts : Int) (w : World) (h : PcAt w c) :
    Calls Tryz.prog 13 #[.pointer (some ⟨c.pr, 0, none⟩), .agg (opv ⟨3, ow, oa, ob, oc, os⟩), .int .i64 sorts] w fun e w' => e = .returned (.bool true) ∧ (∃ d, Turn c d ∧ PcAt w' d) ∧ Kp (fun z => z = c.q1 ∨ z = c.q2) w w' := by
  have HN := hide (fun n wx => num_any n wx)
  obtain ⟨g', l', al', L1, L2⟩ := both_put (q1 := c.q1) (q2 := c.q2) (age := c.age) h.both.al h.both.kin oa ob oc
  replace L1 := hide L1
  replace L2 := hide L2
  have AL := hide al'
  obtain ⟨age', hage'⟩ : ∃ a, a = c.age := ⟨_, rfl⟩
  have HA : Hid (0 ≤ age' ∧ age' ≤ 999999) := by rw [hage']; exact h.both.age
  generalize putE c.r c.x c.l oa ob oc = v at *
  rw [← hage'] at L1
  have L2' : Hid (∀ (wx : World), DocAt wx c.q2 c.r c.x c.age c.l → Calls Tryz.prog 20 #[.pointer (some ⟨c.q2, 0, none⟩), .int .i64 oa, .int .i64 ob, .int .i64 oc] wx fun e w' => e = .returned (.int .i64 v) ∧ DocAt w' c.q2 c.r c.x age' l' ∧ Kp (· = c.q2) wx w') := by rw [hage']; exact L2.out
  have L1' : Hid (∀ (wx : World), GsAt wx c.q1 (preOf c.r c.x c.age) c.x.w c.x.h c.g → Calls Tryz.prog 19 #[.pointer (some ⟨c.q1, 0, none⟩), .int .i64 oa, .int .i64 ob, .int .i64 oc] wx fun e w' => e = .returned (.int .i64 v) ∧ GsAt w' c.q1 (preOf c.r c.x age') c.x.w c.x.h g' ∧ Kp (· = c.q1) wx w') := by rw [hage'] at L1 ⊢; exact L1.out
  clear L1 L2 al' hage'
  have L1 := L1'
  have L2 := L2'
  clear L1' L2'
  have HP := hide h
  clear h
  go_enter Tryz.func13, Tryz.ntmps13
  go_upto_region 7 with (refine wpList_box_row rfl 27 _ rfl (opv ⟨3, ow, oa, ob, oc, os⟩) rfl ?_
                         intro w1 hw1
                         have O1 : Hid (w1.heap[w.heap.size]? = some (.cells (opv ⟨3, ow, oa, ob, oc, os⟩) 27 (0, 0))) := by rw [hw1]; exact heap_alloc_new _ _
                         have K1 : Hid (Kp (fun _ => False) w w1) := by rw [hw1]; exact (Kp.refl _ _).alloc _
                         have P1 := hide (HP.out.keep K1.out)
                         have b0 : w1.cell? ⟨w.heap.size, 0, none⟩ = some (.int .i64 3) := cell_of_row _ _ 0 _ _ _ O1.out
                         clear hw1)
  clear b0
  have b2 : w1.cell? ⟨w.heap.size, 2, none⟩ = some (.int .i64 oa) := cell_of_row _ _ 2 _ _ _ O1.out
  have b3 : w1.cell? ⟨w.heap.size, 3, none⟩ = some (.int .i64 ob) := cell_of_row _ _ 3 _ _ _ O1.out
  have b4 : w1.cell? ⟨w.heap.size, 4, none⟩ = some (.int .i64 oc) := cell_of_row _ _ 4 _ _ _ O1.out
  have d0 : w1.cell? ⟨c.pr, 0, none⟩ = some (.pointer (some ⟨c.q1, 0, none⟩)) := P1.out.at_.c0
  have d1 : w1.cell? ⟨c.pr, 1, none⟩ = some (.pointer (some ⟨c.q2, 0, none⟩)) := P1.out.at_.c1
  have hq1 := GrAt.lt P1.out.both.gs
  have hq2 := P1.out.both.doc.lt
  have hne := gs_doc_ne P1.out.both.gs P1.out.both.doc
  have hpr := P1.out.at_.lt
  have how := (Array.getElem?_eq_some_iff.1 O1.out).1
  have nO1 : w.heap.size ≠ c.q1 := fun e => by have := GrAt.row P1.out.both.gs; rw [← e, O1.out] at this; have := Option.some.inj this; injection this with _ t _; exact absurd t (by decide)
  go_cut [9] from 45 to 55 (fun sv wc => sv = .int .i64 v ∧ GsAt wc c.q1 (preOf c.r c.x age') c.x.w c.x.h g' ∧ DocAt wc c.q2 c.r c.x c.age c.l ∧ PrAt wc c.pr (.pointer (some ⟨c.q1, 0, none⟩)) (.pointer (some ⟨c.q2, 0, none⟩)) ∧ wc.heap[w.heap.size]? = some (.cells (opv ⟨3, ow, oa, ob, oc, os⟩) 27 (0, 0)) ∧ Kp (fun z => z = c.q1 ∨ z = c.q2) w wc)
  case first =>
    go_region_with (go_at_call 19; refine (L1.out _ (by exact (P1.out.keep ((Kp.refl _ _).drewN 1)).both.gs)).mono ?_; rintro e w2 ⟨rfl, gs2, k2⟩)
    all_goals
      have GS2 := hide gs2
      have K2 := hide (Kp.drewNl (n := 1) k2)
      clear k2 gs2
      go_wp2_with fail
      go_meet
    all_goals exact ⟨rfl, GS2.out, P1.out.both.doc.keepW K2.out (fun e => hne e.symm) (fun z hz => by rw [hz]; exact gs_wt P1.out.both.gs), P1.out.at_.keep K2.out (fun e => pr_wt P1.out.at_ (by rw [e]; exact gs_wt P1.out.both.gs)), K2.out.row O1.out nO1, (K1.out.orN).trans K2.out.or1⟩
  case rest =>
    obtain ⟨rfl, gs2, dc2, pr2, o2, k2⟩ := hcut
    have GS2 := hide gs2
    have DC2 := hide dc2
    have PR2 := hide pr2
    have O2 := hide o2
    have K2 := hide k2
    clear gs2 dc2 pr2 o2 k2 b2 b3 b4 d0 d1
    go_upto_region 8 with fail
    have b2 : wc.cell? ⟨w.heap.size, 2, none⟩ = some (.int .i64 oa) := cell_of_row _ _ 2 _ _ _ O2.out
    have b3 : wc.cell? ⟨w.heap.size, 3, none⟩ = some (.int .i64 ob) := cell_of_row _ _ 3 _ _ _ O2.out
    have b4 : wc.cell? ⟨w.heap.size, 4, none⟩ = some (.int .i64 oc) := cell_of_row _ _ 4 _ _ _ O2.out
    have d1 : wc.cell? ⟨c.pr, 1, none⟩ = some (.pointer (some ⟨c.q2, 0, none⟩)) := PR2.out.c1
    go_cut [10] from 56 to 66 (fun sv wd => sv = .int .i64 v ∧ (∃ d, Turn c d ∧ PcAt wd d) ∧ Kp (fun z => z = c.q1 ∨ z = c.q2) w wd)
    case first =>
      go_region_with (go_at_call 20; refine (L2.out _ (by exact DC2.out.keep ((Kp.refl _ _).drewN 1))).mono ?_; rintro e w2 ⟨rfl, dc3, k3⟩)
      all_goals
        have DC3 := hide dc3
        have K3 := hide (Kp.drewNl (n := 1) k3)
        clear k3 dc3
        go_wp2_with fail
        go_meet
      all_goals exact ⟨rfl, ⟨⟨c.pr, c.q1, c.q2, c.r, c.x, age', g', l'⟩, ⟨rfl, rfl, rfl⟩, ⟨PR2.out.keep K3.out (fun e => pr_wt PR2.out (by rw [e]; exact DC2.out.wt)), ⟨GrAt.keep GS2.out K3.out hne, DC3.out, AL.out, HP.out.both.kin, HA.out⟩, HP.out.sq⟩⟩, K2.out.trans K3.out.or2⟩
    case rest =>
      obtain ⟨rfl, p3, k3⟩ := hcut
      have P3 := hide p3
      have K3 := hide k3
      clear p3 k3 b2 b3 b4 d1
      go_wp2_with fail
      refine (HN.out _ _).mono ?_
      rintro e w9 ⟨rfl, hw9⟩
      subst w9
      go_wp2_with fail
      go_ret
      exact ⟨by simp, P3.out, K3.out⟩
end Go.Proofs.YthmhjjkmnnmjlaaGreatDoor
namespace Go.Proofs.YthmhjjkmnnmjlaaGreatDoor
open Go.RowKit
open Go.Proofs

set_option maxRecDepth 100000 in
set_option maxHeartbeats 2000000 in
theorem call_step (c : Pc) (ow oa ob oc : Int) (os : ByteArray) (sorts : Int) (w : World) (h : PcAt w c) (hs : sorts = 0 ∨ sorts = 1 ∨ sorts = 2 ∨ sorts = 4 ∨ sorts = 8 ∨ sorts = 15) :
    Calls Tryz.prog 13 #[.pointer (some ⟨c.pr, 0, none⟩), .agg (opv ⟨6, ow, oa, ob, oc, os⟩), .int .i64 sorts] w fun e w' => e = .returned (.bool true) ∧ (∃ d, Turn c d ∧ PcAt w' d) ∧ Kp (fun z => z = c.q1 ∨ z = c.q2) w w' := by
  have HN := hide (fun n wx => num_any n wx)
  obtain ⟨age', g', l', al', ha', L1, L2⟩ := both_step (q1 := c.q1) (q2 := c.q2) h.both.al h.both.kin h.sq h.both.age oa
  replace L1 := hide L1
  replace L2 := hide L2
  have AL := hide al'
  have HA := hide ha'
  have LSO := hide (fun wx (hx : DocAt wx c.q2 c.r c.x c.age c.l) => sort_any c.q2 c.r c.x c.age c.l wx hx)
  generalize stepA c.r c.x c.age c.l oa = v at *
  clear al' ha'
  have HP := hide h
  clear h
  go_enter Tryz.func13, Tryz.ntmps13
  go_upto_region 19 with (refine wpList_box_row rfl 27 _ rfl (opv ⟨6, ow, oa, ob, oc, os⟩) rfl ?_
                          intro w1 hw1
                          have O1 : Hid (w1.heap[w.heap.size]? = some (.cells (opv ⟨6, ow, oa, ob, oc, os⟩) 27 (0, 0))) := by rw [hw1]; exact heap_alloc_new _ _
                          have K1 : Hid (Kp (fun _ => False) w w1) := by rw [hw1]; exact (Kp.refl _ _).alloc _
                          have P1 := hide (HP.out.keep K1.out)
                          have b0 : w1.cell? ⟨w.heap.size, 0, none⟩ = some (.int .i64 6) := cell_of_row _ _ 0 _ _ _ O1.out
                          clear hw1)
  clear b0
  have d9 : w1.cell? ⟨c.pr, 1, none⟩ = some (.pointer (some ⟨c.q2, 0, none⟩)) := P1.out.at_.c1
  go_wp2_with fail
  refine (LSO.out _ P1.out.both.doc).mono ?_
  rintro e w9 ⟨⟨wh, rfl, hwh⟩, hw9⟩
  subst w9
  clear d9
  go_upto_region 20 with fail
  obtain ⟨wq, hwq⟩ : ∃ u, u = w1 := ⟨w1, rfl⟩
  go_cut [112] from 108 to 111 (fun t wc => (t = .bool true ∨ t = .bool false) ∧ wc = wq)
  case first =>
    rcases hs with rfl | rfl | rfl | rfl | rfl | rfl <;> rcases hwh with rfl | rfl | rfl | rfl
    all_goals
      go_wp2_with fail
      go_meet
    all_goals exact ⟨by first | exact Or.inl rfl | exact Or.inr rfl, hwq.symm⟩
  case rest =>
  obtain ⟨ht, hwc⟩ := hcut
  rw [hwq] at hwc
  subst wc
  clear hwq
  rcases ht with rfl | rfl
  · go_wp2_with fail
    go_ret
    exact ⟨rfl, ⟨c, ⟨rfl, rfl, rfl⟩, P1.out⟩, K1.out.orN⟩
  go_upto_region 22 with fail
  have b2 : w1.cell? ⟨w.heap.size, 2, none⟩ = some (.int .i64 oa) := cell_of_row _ _ 2 _ _ _ O1.out
  have b3 : w1.cell? ⟨w.heap.size, 3, none⟩ = some (.int .i64 ob) := cell_of_row _ _ 3 _ _ _ O1.out
  have b4 : w1.cell? ⟨w.heap.size, 4, none⟩ = some (.int .i64 oc) := cell_of_row _ _ 4 _ _ _ O1.out
  have d0 : w1.cell? ⟨c.pr, 0, none⟩ = some (.pointer (some ⟨c.q1, 0, none⟩)) := P1.out.at_.c0
  have d1 : w1.cell? ⟨c.pr, 1, none⟩ = some (.pointer (some ⟨c.q2, 0, none⟩)) := P1.out.at_.c1
  have hq1 := GrAt.lt P1.out.both.gs
  have hq2 := P1.out.both.doc.lt
  have hne := gs_doc_ne P1.out.both.gs P1.out.both.doc
  have hpr := P1.out.at_.lt
  have how := (Array.getElem?_eq_some_iff.1 O1.out).1
  have nO1 : w.heap.size ≠ c.q1 := fun e => by have := GrAt.row P1.out.both.gs; rw [← e, O1.out] at this; have := Option.some.inj this; injection this with _ t _; exact absurd t (by decide)
  go_cut [16] from 113 to 119 (fun sv wc => sv = .int .i64 v ∧ GsAt wc c.q1 (preOf c.r c.x age') c.x.w c.x.h g' ∧ DocAt wc c.q2 c.r c.x c.age c.l ∧ PrAt wc c.pr (.pointer (some ⟨c.q1, 0, none⟩)) (.pointer (some ⟨c.q2, 0, none⟩)) ∧ wc.heap[w.heap.size]? = some (.cells (opv ⟨6, ow, oa, ob, oc, os⟩) 27 (0, 0)) ∧ Kp (fun z => z = c.q1 ∨ z = c.q2) w wc)
  case first =>
    go_region_with (go_at_call 26; refine (L1.out _ (by exact (P1.out.keep ((Kp.refl _ _).drewN 1)).both.gs)).mono ?_; rintro e w2 ⟨rfl, gs2, k2⟩)
    all_goals
      have GS2 := hide gs2
      have K2 := hide (Kp.drewNl (n := 1) k2)
      clear k2 gs2
      go_wp2_with fail
      go_meet
    all_goals exact ⟨rfl, GS2.out, P1.out.both.doc.keepW K2.out (fun e => hne e.symm) (fun z hz => by rw [hz]; exact gs_wt P1.out.both.gs), P1.out.at_.keep K2.out (fun e => pr_wt P1.out.at_ (by rw [e]; exact gs_wt P1.out.both.gs)), K2.out.row O1.out nO1, (K1.out.orN).trans K2.out.or1⟩
  case rest =>
    obtain ⟨rfl, gs2, dc2, pr2, o2, k2⟩ := hcut
    have GS2 := hide gs2
    have DC2 := hide dc2
    have PR2 := hide pr2
    have O2 := hide o2
    have K2 := hide k2
    clear gs2 dc2 pr2 o2 k2 b2 b3 b4 d0 d1
    go_upto_region 23 with fail
    have b2 : wc.cell? ⟨w.heap.size, 2, none⟩ = some (.int .i64 oa) := cell_of_row _ _ 2 _ _ _ O2.out
    have b3 : wc.cell? ⟨w.heap.size, 3, none⟩ = some (.int .i64 ob) := cell_of_row _ _ 3 _ _ _ O2.out
    have b4 : wc.cell? ⟨w.heap.size, 4, none⟩ = some (.int .i64 oc) := cell_of_row _ _ 4 _ _ _ O2.out
    have d1 : wc.cell? ⟨c.pr, 1, none⟩ = some (.pointer (some ⟨c.q2, 0, none⟩)) := PR2.out.c1
    go_cut [17] from 120 to 126 (fun sv wd => sv = .int .i64 v ∧ (∃ d, Turn c d ∧ PcAt wd d) ∧ Kp (fun z => z = c.q1 ∨ z = c.q2) w wd)
    case first =>
      go_region_with (go_at_call 27; refine (L2.out _ (by exact DC2.out.keep ((Kp.refl _ _).drewN 1))).mono ?_; rintro e w2 ⟨rfl, dc3, k3⟩)
      all_goals
        have DC3 := hide dc3
        have K3 := hide (Kp.drewNl (n := 1) k3)
        clear k3 dc3
        go_wp2_with fail
        go_meet
      all_goals exact ⟨rfl, ⟨⟨c.pr, c.q1, c.q2, c.r, c.x, age', g', l'⟩, ⟨rfl, rfl, rfl⟩, ⟨PR2.out.keep K3.out (fun e => pr_wt PR2.out (by rw [e]; exact DC2.out.wt)), ⟨GrAt.keep GS2.out K3.out hne, DC3.out, AL.out, HP.out.both.kin, HA.out⟩, HP.out.sq⟩⟩, K2.out.trans K3.out.or2⟩
    case rest =>
      obtain ⟨rfl, p3, k3⟩ := hcut
      have P3 := hide p3
      have K3 := hide k3
      clear p3 k3 b2 b3 b4 d1
      go_wp2_with fail
      refine (HN.out _ _).mono ?_
      rintro e w9 ⟨rfl, hw9⟩
      subst w9
      go_wp2_with fail
      go_ret
      exact ⟨by simp, P3.out, K3.out⟩
end Go.Proofs.YthmhjjkmnnmjlaaGreatDoor
namespace Go.Proofs.YthmhjjkmnnmjlaaGreatDoor
open Go.RowKit
open Go.Proofs

/-- A call on a pair: true; and the pair is alike behind it. -/
theorem call_any (c : Pc) (o : Op) (sorts : Int) (hs : sorts = 0 ∨ sorts = 1 ∨ sorts = 2 ∨ sorts = 4 ∨ sorts = 8 ∨ sorts = 15) (ha : i64B o.a) (hb : i64B o.b) (w : World) (h : PcAt w c) (ht : Tab w) :
    Calls Tryz.prog 13 #[.pointer (some ⟨c.pr, 0, none⟩), .agg (opv o), .int .i64 sorts] w fun e w' => e = .returned (.bool true) ∧ (∃ d, Turn c d ∧ PcAt w' d) ∧ Kp (fun z => z = c.q1 ∨ z = c.q2) w w' := by
  obtain ⟨k, ow, oa, ob, oc, os⟩ := o
  have use : ∀ (e : Ending) (w' : World), (e = .returned (.bool true) ∧ PcAt w' c ∧ Kp (fun _ => False) w w') → (e = .returned (.bool true) ∧ (∃ d, Turn c d ∧ PcAt w' d) ∧ Kp (fun z => z = c.q1 ∨ z = c.q2) w w') := by
    rintro e w' ⟨he, hp, k⟩
    exact ⟨he, ⟨c, ⟨rfl, rfl, rfl⟩, hp⟩, k.orN⟩
  by_cases h2 : k = 2
  · subst h2
    exact (call_get c ow oa ob oc os sorts w h ha hb).mono use
  · by_cases h3 : k = 3
    · subst h3
      exact call_put c ow oa ob oc os sorts w h
    · by_cases h4 : k = 4
      · subst h4
        exact (call_count c ow oa ob oc os sorts w h).mono use
      · by_cases h5 : k = 5
        · subst h5
          exact (call_save c ow oa ob oc os sorts w h ht).mono use
        · by_cases h6 : k = 6
          · subst h6
            exact call_step c ow oa ob oc os sorts w h hs
          · exact (call_else c k ow oa ob oc os sorts w h h2 h3 h4 h5 h6).mono use
end Go.Proofs.YthmhjjkmnnmjlaaGreatDoor
namespace Go.Proofs.YthmhjjkmnnmjlaaGreatDoor
open Go.RowKit
open Go.Proofs

def prs (cs : List Pc) : List Value := cs.map fun c => .pointer (some ⟨c.pr, 0, none⟩)
theorem prs_append (a b : List Pc) : prs (a ++ b) = prs a ++ prs b := List.map_append
theorem prs_set (cs : List Pc) (i : Nat) (c d : Pc) (hc : cs[i]? = some c) (hd : d.pr = c.pr) : prs (cs.set i d) = prs cs := by
  unfold prs
  apply List.ext_getElem?
  intro j
  rw [List.getElem?_map, List.getElem?_map, List.getElem?_set]
  by_cases e : i = j
  · subst e
    have hlt := (List.getElem?_eq_some_iff.1 hc).1
    rw [if_pos rfl, if_pos hlt, hc]
    simp [hd]
  · rw [if_neg e]
/-- The pairs that there are. -/
structure Prs (w0 w : World) (v : Value) (cs : List Pc) : Prop where
  own : w.ownsRow w0.heap.size 28 1 v cs.length (prs cs)
  each : ∀ (i : Nat) (c : Pc), cs[i]? = some c → PcAt w c ∧ w0.heap.size ≤ c.q1 ∧ w0.heap.size ≤ c.q2
  far : ∀ (i j : Nat) (c d : Pc), cs[i]? = some c → cs[j]? = some d → i ≠ j → c.q1 ≠ d.q1 ∧ c.q2 ≠ d.q2
theorem Prs.nil (w0 w : World) : Prs w0 w (.slice none 0 0) [] := ⟨World.ownsRow_nil _ _ _ _, fun i c h => by simp at h, fun i j c d h => by simp at h⟩
theorem Prs.keep {w0 w w' : World} {v : Value} {cs : List Pc} (h : Prs w0 w v cs) (k : Kp (fun _ => False) w w') : Prs w0 w' v cs :=
  ⟨own_keep h.own k (fun _ _ h => h), fun i c hc => ⟨(h.each i c hc).1.keep k, (h.each i c hc).2⟩, h.far⟩
theorem own_type {w : World} {base : Nat} {e : TypeId} {sz : Nat} {v : Value} {n : Nat} {xs : List Value} (h : w.ownsRow base e sz v n xs) {z : Nat} (hz : some z = v.ownBlock) : ∃ cs, w.heap[z]? = some (.cells cs e (0, 0)) := by
  rcases h.2 with ⟨rfl, _⟩ | ⟨g, cap, cur, rfl, hb, hg, r⟩
  · simp [Value.ownBlock] at hz
  · simp [Value.ownBlock] at hz
    subst hz
    exact ⟨_, hg⟩
theorem own_wt {w : World} {base : Nat} {sz : Nat} {v : Value} {n : Nat} {xs : List Value} (h : w.ownsRow base 28 sz v n xs) {z : Nat} (hz : some z = v.ownBlock) : ¬ WT w z := by
  obtain ⟨cs, hc⟩ := own_type h hz
  rintro ⟨ds, h1 | h1⟩
  · rw [hc] at h1
    have := Option.some.inj h1
    injection this with _ t _
    exact absurd t (by decide)
  · rw [hc] at h1
    have := Option.some.inj h1
    injection this with _ t _
    exact absurd t (by decide)
/-- A pair stays where the slice of pairs is written. -/
theorem PcAt.keepP {w w' : World} {c : Pc} {base : Nat} {sz : Nat} {v : Value} {n : Nat} {xs : List Value} (h : PcAt w c) (o : w.ownsRow base 28 sz v n xs) (k : Kp (fun z => some z = v.ownBlock) w w') : PcAt w' c := by
  have nw : ∀ z, WT w z → ¬ some z = v.ownBlock := fun z hw hz => own_wt o hz hw
  have np : ¬ some c.pr = v.ownBlock := by
    intro hz
    obtain ⟨cs, hc⟩ := own_type o hz
    have := h.at_
    unfold PrAt at this
    rw [this] at hc
    have := Option.some.inj hc
    injection this with _ t _
    exact absurd t (by decide)
  have n1 := nw _ (gs_wt h.both.gs)
  have n2 := nw _ h.both.doc.wt
  obtain ⟨g1, g2, u, hv, s1, s2, hc⟩ := h.both.doc.at1
  have nb : ∀ g (L : List Bool), SlB w g L → ¬ some g = v.ownBlock := by
    intro g L hs hz
    obtain ⟨cs, hc⟩ := own_type o hz
    rw [hs.2] at hc
    have := Option.some.inj hc
    injection this with _ t _
    exact absurd t (by decide)
  refine ⟨h.at_.keep k np, ⟨GrAt.keep h.both.gs k n1, ⟨g1, g2, u, hv.keep k n2, s1.keep k (nb _ _ s1), s2.keep k (nb _ _ s2), hc.keep k (fun g hg hz => ?_)⟩, h.both.al, h.both.kin, h.both.age⟩, h.sq⟩
  obtain ⟨cs, hc2⟩ := own_type o hz
  rw [hc2] at hg
  simp at hg
/-- One pair more. -/
theorem Prs.more {w0 w w' : World} {v u : Value} {cs : List Pc} (h : Prs w0 w v cs) (c : Pc) (hc : PcAt w c) (h1 : ∀ (i : Nat) (d : Pc), cs[i]? = some d → d.q1 < c.q1 ∧ d.q2 < c.q2) (h2 : w0.heap.size ≤ c.q1 ∧ w0.heap.size ≤ c.q2)
    (k : Kp (fun z => some z = v.ownBlock) w w') (o : w'.ownsRow w0.heap.size 28 1 u (cs.length + 1) (prs cs ++ [.pointer (some ⟨c.pr, 0, none⟩)])) : Prs w0 w' u (cs ++ [c]) := by
  have at_ : ∀ (i : Nat) (d : Pc), (cs ++ [c])[i]? = some d → (i < cs.length ∧ cs[i]? = some d) ∨ (i = cs.length ∧ d = c) := by
    intro i d hd
    rw [List.getElem?_append] at hd
    split at hd
    · left; exact ⟨by assumption, hd⟩
    · right
      by_cases e : i - cs.length = 0
      · rw [e] at hd
        simp at hd
        exact ⟨by omega, hd.symm⟩
      · rw [List.getElem?_eq_none (by simp; omega)] at hd
        cases hd
  refine ⟨?_, fun i d hd => ?_, fun i j d e hd he hij => ?_⟩
  · rw [prs_append, List.length_append]
    exact o
  · rcases at_ i d hd with ⟨_, hd⟩ | ⟨_, rfl⟩
    · exact ⟨(h.each i d hd).1.keepP h.own k, (h.each i d hd).2⟩
    · exact ⟨hc.keepP h.own k, h2⟩
  · rcases at_ i d hd with ⟨hi, hd2⟩ | ⟨hi, hd2⟩ <;> rcases at_ j e he with ⟨hj, he2⟩ | ⟨hj, he2⟩
    · exact h.far i j d e hd2 he2 hij
    · have := h1 i d hd2
      rw [he2]
      omega
    · have := h1 j e he2
      rw [hd2]
      omega
    · omega
/-- One pair is called upon. -/
theorem Prs.called {w0 w w' : World} {v : Value} {cs : List Pc} (h : Prs w0 w v cs) {i : Nat} {c d : Pc} (hi : cs[i]? = some c) (k : Kp (fun z => z = c.q1 ∨ z = c.q2) w w') (ht : Turn c d) (hd : PcAt w' d) : Prs w0 w' v (cs.set i d) := by
  obtain ⟨t1, t2, t3⟩ := ht
  have hc := (h.each i c hi).1
  have hWT : ∀ z, (z = c.q1 ∨ z = c.q2) → WT w z := hc.wt
  have hlt := (List.getElem?_eq_some_iff.1 hi).1
  have at_ : ∀ (j : Nat) (e : Pc), (cs.set i d)[j]? = some e → (j = i ∧ e = d) ∨ (j ≠ i ∧ cs[j]? = some e) := by
    intro j e he
    rw [List.getElem?_set] at he
    by_cases eq : i = j
    · rw [if_pos eq, if_pos (by omega)] at he
      exact Or.inl ⟨eq.symm, (Option.some.inj he).symm⟩
    · rw [if_neg eq] at he
      exact Or.inr ⟨fun e => eq e.symm, he⟩
  refine ⟨?_, fun j e he => ?_, fun j m e f he hf hjm => ?_⟩
  · rw [List.length_set, prs_set cs i c d hi t1]
    refine ⟨h.own.1, ?_⟩
    rcases h.own.2 with h2 | ⟨g, cap, cur, hv, hb, hg, r⟩
    · exact Or.inl h2
    · refine Or.inr ⟨g, cap, cur, hv, hb, ?_, r⟩
      refine (k.block g (Array.getElem?_eq_some_iff.1 hg).1 (fun hz => ?_)).trans hg
      exact own_wt h.own (z := g) (by rw [hv]; simp [Value.ownBlock]) (hWT g hz)
  · rcases at_ j e he with ⟨_, rfl⟩ | ⟨hj, he⟩
    · have := (h.each i c hi).2
      rw [t2, t3]
      exact ⟨hd, this⟩
    · have he' := h.each j e he
      have fr := h.far j i e c he hi hj
      refine ⟨he'.1.keepS k ?_ ?_ hWT, he'.2⟩
      · rintro (e1 | e1)
        · exact fr.1 e1
        · have := gs_doc_ne he'.1.both.gs hc.both.doc
          exact this e1
      · rintro (e1 | e1)
        · have := gs_doc_ne hc.both.gs he'.1.both.doc
          exact this e1.symm
        · exact fr.2 e1
  · rcases at_ j e he with ⟨hj, he2⟩ | ⟨hj, he2⟩ <;> rcases at_ m f hf with ⟨hm, hf2⟩ | ⟨hm, hf2⟩
    · omega
    · rw [he2, t2, t3]
      exact h.far i m c f hi hf2 (fun e => hm e.symm)
    · rw [hf2, t2, t3]
      exact h.far j i e c he2 hi hj
    · exact h.far j m e f he2 hf2 hjm
theorem Prs.cell {w0 w : World} {v : Value} {cs : List Pc} (h : Prs w0 w v cs) : ∃ a cap, v = .slice a cs.length cap ∧ (cs ≠ [] → ∃ g, a = some ⟨g, 0, none⟩ ∧ ∀ (i : Nat) (c : Pc), cs[i]? = some c → w.cell? ⟨g, i, none⟩ = some (.pointer (some ⟨c.pr, 0, none⟩))) := by
  rcases h.own.2 with ⟨rfl, h2⟩ | ⟨g, cap, cur, rfl, hb, hg, h1, h2, h3, h4⟩
  · exact ⟨none, 0, by rw [h2], fun hn => absurd (List.length_eq_zero_iff.1 h2) hn⟩
  · refine ⟨some ⟨g, 0, none⟩, cap, rfl, fun _ => ⟨g, rfl, fun i c hi => ?_⟩⟩
    have hlt := (List.getElem?_eq_some_iff.1 hi).1
    have e : (prs cs)[i]? = some (.pointer (some ⟨c.pr, 0, none⟩)) := by
      unfold prs
      rw [List.getElem?_map, hi]
      rfl
    rw [cell_of_row w g _ _ _ _ hg, ← e, ← h4, List.getElem?_take_of_lt (by omega)]
    simp
theorem info_op : (Tryz.prog.info? 27).map (·.size) = some 6 := by kernel_rfl
theorem opv_one (o : Op) : (opv o).all (·.oneCell') = true := by simp [opv, Value.oneCell']
def op0 : Op := ⟨0, 0, 0, 0, 0, ByteArray.empty⟩
theorem info_pp : ∃ i, Tryz.prog.info? 28 = some i ∧ i.zero = some (.pointer none) ∧ i.size = 1 ∧ i.bytes = 8 := by
  have h : (Tryz.prog.info? 28).map (fun i => (i.zero, i.size, i.bytes)) = some (some (.pointer none), 1, 8) := by kernel_rfl
  cases e : Tryz.prog.info? 28 with
  | none => rw [e] at h; cases h
  | some i =>
    rw [e] at h
    simp at h
    exact ⟨i, rfl, h.1, h.2.1, h.2.2⟩

set_option maxRecDepth 100000 in
set_option maxHeartbeats 8000000 in
theorem plays_any (v : Value) (ops : List Op) (sorts : Int) (hs : sorts = 0 ∨ sorts = 1 ∨ sorts = 2 ∨ sorts = 4 ∨ sorts = 8 ∨ sorts = 15) (w : World) (h : OpsAt w v ops) (hl : ops.length ≤ maxLen)
    (hb : ∀ (k : Nat) (o : Op), ops[k]? = some o → i64B o.w ∧ i64B o.a ∧ i64B o.b ∧ o.s.size ≤ maxLen) (ht : Tab w) :
    Calls Tryz.prog 9 #[v, .int .i64 sorts] w fun e w' => e = .returned (.bool true) ∧ Kp (fun _ => False) w w' := by
  have LS := hide (fun wx hx => small_any v ops wx hx hl)
  have LL := hide (fun (s : ByteArray) (hs : s.size ≤ maxLen) wx => lload_more s wx hs)
  have LC := hide (fun (c : Pc) (o : Op) (ha : i64B o.a) (hb : i64B o.b) wx (hc : PcAt wx c) (ht : Tab wx) => call_any c o sorts hs ha hb wx hc ht)
  have LP := hide (fun (c n : Int) wx (h0 : 0 < n) (h1 : n ≤ 1048576) (hc : i64B c) => pick_any c n wx h0 h1 hc.1 hc.2)
  obtain ⟨a, cap, ev, f⟩ := h.form
  have HB := hide hb
  have HT := hide ht
  have HO := hide h
  have HFM := hide (fun wx (hx : OpsAt wx v ops) => hx.form)
  obtain ⟨ti, ti1, ti2, ti3, ti4⟩ := info_pp
  have TI1 := hide ti1
  have TI2 := hide ti2
  have TI3 := hide ti3
  have TI4 := hide ti4
  have EV := hide ev
  clear h hb ht f hl hs ti1 ti2 ti3 ti4
  rw [ev]
  go_enter Tryz.func9, Tryz.ntmps9
  go_wp2_with fail
  rw [← ev]
  refine (LS.out _ HO.out).mono ?_
  rintro e w1 ⟨⟨y, rfl, hy⟩, hw1⟩
  subst w1
  rw [ev]
  cases y
  · go_wp2_with fail
    go_ret
    exact ⟨rfl, Kp.refl _ _⟩
  have hlen := hy rfl
  clear hy ev LS
  go_wp2_with fail
  go_loopg [6, 7] ops.length (fun gk lv iv wr => ∃ (k : Nat) (vt : Value) (cs : List Pc), k ≤ ops.length ∧ ops.length ≤ k + gk ∧ vt = lv ∧ iv = .int .i64 k ∧ cs.length ≤ k ∧ Prs w wr vt cs ∧ OpsAt wr v ops ∧ Kp (fun _ => False) w wr)
  case atStart => exact ⟨0, _, [], by omega, by omega, rfl, rfl, by simp, Prs.nil _ _, HO.out, Kp.refl _ _⟩
  case round =>
    obtain ⟨k, vt, cs, m1, m2, rfl, rfl, m3, m4, m5, m6⟩ := hrel
    have M4 := hide m4
    have M5 := hide m5
    have M6 := hide m6
    have sz0 := m6.size
    obtain ⟨av, vcap, evt, fvt⟩ := m4.cell
    subst evt
    clear m4 m5 m6 fvt
    by_cases hk : k < ops.length
    · obtain ⟨o, ho⟩ : ∃ o, ops[k]? = some o := ⟨ops[k], List.getElem?_eq_getElem hk⟩
      have hne : ops ≠ [] := by intro e; rw [e] at hk; simp at hk
      obtain ⟨a', cap', ev', f'⟩ := HFM.out _ M5.out
      have ea : Value.slice a ops.length cap = .slice a' ops.length cap' := EV.out.symm.trans ev'
      injection ea with ea1 _ ea2
      subst ea1
      obtain ⟨b, off, ha, hbb, g⟩ := f' hne
      have LD := hide (g k o ho)
      obtain ⟨ow1, oa1, ob1, os1⟩ := HB.out k o ho
      subst ha
      clear g f' hne ev' ea2
      go_upto_region 9 with (first
        | (refine wpList_load_at rfl 27 _ rfl b (off + k * 6) rfl (opv o) LD.out _ Tryz.underlying27 rfl info_op ?_)
        | (refine wpList_store_row_g rfl 27 _ _ rfl wr.heap.size (opv o) rfl rfl 27 (opv op0) (heap_alloc_new _ _) info_op rfl (opv_one _) ?_
           intro w2 hw2
           have KA : Kp (fun _ => False) wr w2 := by rw [hw2]; exact ((Kp.refl _ _).alloc _).setRowNew (Nat.le_refl _) _
           have R2 : Hid (w2.heap[wr.heap.size]? = some (.cells (opv o) 27 (0, 0))) := by rw [hw2]; exact setRow_heap _ _ _ _ _ _ (heap_alloc_new _ _)
           have P2 := hide (M4.out.keep KA)
           have Q2 := hide (M5.out.keep KA)
           have K2 := hide (M6.out.trans KA)
           have sz2 := KA.size
           clear hw2 KA))
      have d0 : w2.cell? ⟨wr.heap.size, 0, none⟩ = some (.int .i64 o.k) := cell_of_row _ _ 0 _ _ _ R2.out
      have d1 : w2.cell? ⟨wr.heap.size, 1, none⟩ = some (.int .i64 o.w) := cell_of_row _ _ 1 _ _ _ R2.out
      have d5 : w2.cell? ⟨wr.heap.size, 5, none⟩ = some (.string o.s) := cell_of_row _ _ 5 _ _ _ R2.out
      by_cases hk1 : o.k = 1
      · rw [hk1] at d0
        go_wp2_with fail
        refine (LL.out o.s os1 _).mono ?_
        rintro e w3 ⟨⟨p, x1, x2, rfl, hp, hpr, hpp⟩, k3⟩
        have P3 := hide (P2.out.keep k3)
        have Q3 := hide (Q2.out.keep k3)
        have K3 := hide (K2.out.trans k3)
        have sz3 := k3.size
        clear k3 d0 d1 d5
        rcases hpp with ⟨ha, hb⟩ | ⟨q1, q2, pp, ha, hb, h1, h2, hd⟩
        ·
          subst ha hb
          have e0 : w3.cell? ⟨p, 0, none⟩ = some (.pointer none) := hpr.c0
          clear hpr
          go_wp2_with fail
          go_roundg (gk - 1)
          case measure => omega
          case rel => exact ⟨k + 1, _, cs, by omega, by omega, rfl, by go_num, by omega, P3.out, Q3.out, K3.out⟩
        ·
          subst ha hb
          have e0 : w3.cell? ⟨p, 0, none⟩ = some (.pointer (some ⟨q1, 0, none⟩)) := hpr.c0
          have e1 : w3.cell? ⟨p, 1, none⟩ = some (.pointer (some ⟨q2, 0, none⟩)) := hpr.c1
          have PC : Hid (PcAt w3 ⟨p, q1, q2, pp.rule, pp.shape, pp.age, (laidG pp noS).2, liveOf pp⟩) := ⟨hpr, hd.both, hd.sq⟩
          have NEW : Hid (∀ (i : Nat) (d : Pc), cs[i]? = some d → d.q1 < q1 ∧ d.q2 < q2) := fun i d hi => by
            have hh := (P2.out.each i d hi).1
            have g1 := GrAt.lt hh.both.gs
            have g2 := hh.both.doc.lt
            omega
          have OWN := hide P3.out.own
          have sz4 := K3.out.size
          clear hpr hd
          go_wp2_with (refine wpList_append_lies _ rfl _ _ 25 rfl w.heap.size 28 ti (.pointer none) 1 8 Tryz.underlying25 TI1.out TI2.out TI3.out TI4.out rfl (by decide) (.slice av cs.length vcap) cs.length (prs cs) ?_ ?_ ⟨w3.heap.size, 0, none⟩ 1 1 [.pointer (some ⟨p, 0, none⟩)] ?_ ?_ ?_ ?_ ?_ ?_ ?_ ?_ (w3.heap.size + 1) ?_ ?_
                       · rfl
                       · exact (own_of OWN.out fun g hg _ => Below.heap_alloc _ _ _ hg)
                       · rfl
                       · rfl
                       · exact World.news_of_block (heap_alloc_new w3 (.cells #[.pointer (some ⟨p, 0, none⟩)] 28))
                       · intro u hu; simp at hu; subst hu; rfl
                       · decide
                       · (unfold maxLen; omega)
                       · omega
                       · (simp; omega)
                       · simp
                       intro g9 cap9 w9 hown hgrow _ _
                       have O9 := hide hown
                       have K9 : Hid (Kp (fun k => some k = (Value.slice av cs.length vcap).ownBlock) w3 w9) := ⟨hgrow.os, hgrow.tape, hgrow.output, Nat.le_trans (Nat.le_succ _) (Nat.le_trans (by simp) hgrow.size), fun k hk hn => (hgrow.block k (by simp; omega) hn).trans (Below.heap_alloc _ _ _ hk)⟩
                       clear hown hgrow)
          go_roundg (gk - 1)
          case measure => omega
          case rel =>
            refine ⟨k + 1, _, cs ++ [⟨p, q1, q2, pp.rule, pp.shape, pp.age, (laidG pp noS).2, liveOf pp⟩], by omega, by omega, rfl, by go_num, by rw [List.length_append]; simp; omega, ?_, ?_, K3.out.tr K9.out (fun z hz hx => absurd hx (own_far OWN.out hz))⟩
            · exact P3.out.more _ PC.out NEW.out ⟨by show _ ≤ q1; omega, by show _ ≤ q2; omega⟩ K9.out O9.out
            · obtain ⟨a2, cap2, e2, f2⟩ := Q3.out.form
              refine ⟨a2, cap2, e2, fun hn => ?_⟩
              obtain ⟨b2, off2, e3, hb2, g2⟩ := f2 hn
              have hbw : b2 < w.heap.size := by
                obtain ⟨a4, cap4, e4, f4⟩ := HO.out.form
                obtain ⟨b4, off4, e5, hb4, _⟩ := f4 hn
                rw [e4] at e2
                injection e2 with e2 _ _
                rw [e3, e5] at e2
                have := Option.some.inj e2
                injection this with e6 _ _
                omega
              have hs9 := K9.out.size
              refine ⟨b2, off2, e3, by omega, fun i o' hi j u hu => ?_⟩
              rw [World.cell?_of_block (w := w3) (K9.out.block b2 hb2 (own_far OWN.out hbw))]
              exact g2 i o' hi j u hu
      · have b1 : (o.k == 1) = false := by simpa using hk1
        by_cases hc0 : cs.length = 0
        · have b2 : ¬ (0 : Int) < cs.length := by omega
          clear hc0
          go_wp2_with fail
          go_roundg (gk - 1)
          case measure => omega
          case rel => exact ⟨k + 1, _, cs, by omega, by omega, rfl, by go_num, by omega, P2.out, Q2.out, K2.out⟩
        · have hcne : cs ≠ [] := by intro e; rw [e] at hc0; simp at hc0
          obtain ⟨gv, hav, hcell⟩ := (by
            obtain ⟨a9, c9, e9, f9⟩ := P2.out.cell
            injection e9 with e9 _ _
            subst e9
            exact f9 hcne : ∃ g, av = some ⟨g, 0, none⟩ ∧ ∀ (i : Nat) (c : Pc), cs[i]? = some c → w2.cell? ⟨g, i, none⟩ = some (.pointer (some ⟨c.pr, 0, none⟩)))
          have bp := (show 0 ≤ pickP o.w cs.length ∧ pickP o.w cs.length < cs.length from by
            unfold pickP
            split
            · exact ⟨Int.emod_nonneg _ (by omega), Int.emod_lt_of_pos _ (by omega)⟩
            · exact ⟨Int.emod_nonneg _ (by omega), Int.emod_lt_of_pos _ (by omega)⟩)
          have LPk := hide (LP.out o.w cs.length w2 (by omega) (by omega) ow1)
          generalize pickP o.w cs.length = pi at *
          obtain ⟨pi, rfl⟩ := Int.eq_ofNat_of_zero_le bp.1
          obtain ⟨c, hc⟩ : ∃ c, cs[pi]? = some c := ⟨cs[pi]'(by omega), List.getElem?_eq_getElem (by omega)⟩
          have cp := hcell pi c hc
          have HC := hide hc
          have hp1 : (pi : Int) < cs.length := bp.2
          subst hav
          clear hcell hc bp hcne
          go_wp2_with fail
          refine LPk.out.mono ?_
          rintro e w3 ⟨rfl, hw3⟩
          subst w3
          go_wp2_with (refine wpList_load_row rfl 27 _ rfl wr.heap.size rfl 27 (opv o) (0, 0) _ R2.out Tryz.underlying27 rfl info_op ?_)
          refine (LC.out c o oa1 ob1 _ (P2.out.each pi c HC.out).1 (HT.out.keep K2.out)).mono ?_
          rintro e w4 ⟨rfl, ⟨d, td, hd⟩, k4⟩
          have P4 := hide (P2.out.called HC.out k4 td hd)
          have K4 := hide (K2.out.tr k4 (fun z hz hx => by have h9 := (P2.out.each pi c HC.out).2; omega))
          have sz4 := K4.out.size
          clear d0 d1 d5 cp hd td k4
          go_wp2_with fail
          go_roundg (gk - 1)
          case measure => omega
          case rel => exact ⟨k + 1, _, cs.set pi d, by omega, by omega, rfl, by go_num, by rw [List.length_set]; omega, P4.out, HO.out.keep K4.out, K4.out⟩
    · go_wp2_with fail
      go_ret
      exact ⟨rfl, M6.out⟩
end Go.Proofs.YthmhjjkmnnmjlaaGreatDoor
namespace Go.Proofs.YthmhjjkmnnmjlaaGreatDoor
open Go.RowKit
open Go.Proofs
open Go.WideShapes

theorem cells_op : Tryz.prog.cellsOf 27 = 6 := by kernel_rfl
theorem cells_int : Tryz.prog.cellsOf 3 = 1 := by kernel_rfl
theorem cells_str : Tryz.prog.cellsOf 9 = 1 := by kernel_rfl
set_option maxRecDepth 100000 in
/-- One step, as an argument's reading tells it. -/
theorem open_op {H : Type} {enc : TypeId × Value → H} {w : World} {base : Nat} {spare : Nat → Bool} {held : Bool} {n : Nat} {cs : List Value} {x : DataW H × List MemPlace} (h : DataW.trod enc Tryz.prog w base spare held n 27 cs = some x) :
    ∃ o : Op, cs = (opv o).toList ∧ i64B o.w ∧ i64B o.a ∧ i64B o.b ∧ o.s.size ≤ maxLen := by
  obtain ⟨xs, m, _, _, hl, hxl, hf⟩ := DataW.trod_struct Tryz.underlying27 h
  rw [cells_op] at hl
  match cs, hl with
  | [v0, v1, v2, v3, v4, v5], _ =>
    have hxs : xs.length = 6 := hxl
    have e0 : DataW.trod enc Tryz.prog w base spare held m 3 (([v0, v1, v2, v3, v4, v5].drop 0).take (Tryz.prog.cellsOf 3)) = xs[0]? := hf 0 _ rfl
    have e1 : DataW.trod enc Tryz.prog w base spare held m 3 (([v0, v1, v2, v3, v4, v5].drop 1).take (Tryz.prog.cellsOf 3)) = xs[1]? := hf 1 _ rfl
    have e2 : DataW.trod enc Tryz.prog w base spare held m 3 (([v0, v1, v2, v3, v4, v5].drop 2).take (Tryz.prog.cellsOf 3)) = xs[2]? := hf 2 _ rfl
    have e3 : DataW.trod enc Tryz.prog w base spare held m 3 (([v0, v1, v2, v3, v4, v5].drop 3).take (Tryz.prog.cellsOf 3)) = xs[3]? := hf 3 _ rfl
    have e4 : DataW.trod enc Tryz.prog w base spare held m 3 (([v0, v1, v2, v3, v4, v5].drop 4).take (Tryz.prog.cellsOf 3)) = xs[4]? := hf 4 _ rfl
    have e5 : DataW.trod enc Tryz.prog w base spare held m 9 (([v0, v1, v2, v3, v4, v5].drop 5).take (Tryz.prog.cellsOf 9)) = xs[5]? := hf 5 _ rfl
    rw [cells_int, List.getElem?_eq_getElem (by omega)] at e0 e1 e2 e3 e4
    rw [cells_str, List.getElem?_eq_getElem (by omega)] at e5
    obtain ⟨k0, g0, _, _⟩ := DataW.trod_int Tryz.underlying3 e0
    obtain ⟨k1, g1, _, w1⟩ := DataW.trod_int Tryz.underlying3 e1
    obtain ⟨k2, g2, _, w2⟩ := DataW.trod_int Tryz.underlying3 e2
    obtain ⟨k3, g3, _, w3⟩ := DataW.trod_int Tryz.underlying3 e3
    obtain ⟨k4, g4, _, _⟩ := DataW.trod_int Tryz.underlying3 e4
    obtain ⟨s5, g5, _, w5⟩ := DataW.trod_string Tryz.underlying9 e5
    simp at g0 g1 g2 g3 g4 g5
    subst g0 g1 g2 g3 g4 g5
    exact ⟨⟨k0, k1, k2, k3, k4, s5⟩, rfl, bounds_i64 w1, bounds_i64 w2, bounds_i64 w3, w5⟩
set_option maxRecDepth 100000 in
/-- The script, as the argument's reading tells it. -/
theorem open_ops {H : Type} {enc : TypeId × Value → H} {w : World} {b0 : Nat} {r : Reach} {spare : Nat → Bool} {held : Bool} {v : Value} {d : DataW H} {ps : List MemPlace} (hv : Value.okWide Tryz.prog w r b0 22 v) (h : DataW.Trod enc Tryz.prog w 0 spare held 22 v d ps) :
    ∃ ops : List Op, OpsAt w v ops ∧ ops.length ≤ maxLen ∧ ∀ (k : Nat) (o : Op), ops[k]? = some o → i64B o.w ∧ i64B o.a ∧ i64B o.b ∧ o.s.size ≤ maxLen := by
  obtain ⟨a, len, cap, rfl⟩ := okWide_slice Tryz.underlying22 hv
  obtain ⟨fuel, hf⟩ := h
  have hc : (Value.slice a len cap).cells.toList = [.slice a len cap] := by simp [Value.cells]
  rw [hc] at hf
  rcases Deep.open_slice Tryz.underlying22 hf with ⟨e, _⟩ | ⟨a', len', cap', m, n, D, Pl, e, hb, hl, hm, hmm, _, hx⟩
  · simp at e
    obtain ⟨rfl, rfl, rfl⟩ := e
    exact ⟨[], ⟨none, 0, rfl, fun hn => absurd rfl hn⟩, by simp, fun k o hk => by simp at hk⟩
  · simp at e
    obtain ⟨rfl, rfl, rfl⟩ := e
    have hlm : len ≤ m := by rw [hmm]; split <;> omega
    rw [cells_op] at hx
    have inh : Inhabited Op := ⟨⟨0, 0, 0, 0, 0, ByteArray.empty⟩⟩
    obtain ⟨O, hO⟩ := Deep.choose_lt (α := Op) (n := len) (p := fun i o => (∀ (j : Nat) (u : Value), (opv o)[j]? = some u → w.cell? (a'.add (i * 6 + j)) = some u) ∧ i64B o.w ∧ i64B o.a ∧ i64B o.b ∧ o.s.size ≤ maxLen) (fun i hi => by
      obtain ⟨cs, h1, h2⟩ := hx i (by omega)
      obtain ⟨o, rfl, hw⟩ := open_op h2
      obtain ⟨_, _, hcell⟩ := World.cells?_some h1
      refine ⟨o, fun j u hu => ?_, hw⟩
      have hj : j < 6 := by
        rcases Nat.lt_or_ge j 6 with h | h
        · exact h
        · rw [Array.getElem?_eq_none (by simp [opv]; omega)] at hu; cases hu
      have := hcell j hj
      rw [Deep.add_add] at this
      rw [this]
      simpa using hu)
    have hget : ∀ (k : Nat) (o : Op), ((List.range len).map O)[k]? = some o → k < len ∧ o = O k := by
      intro k o hk
      have hlt : k < len := by
        have := (List.getElem?_eq_some_iff.1 hk).1
        simpa using this
      rw [List.getElem?_map, List.getElem?_range hlt] at hk
      simp at hk
      exact ⟨hlt, hk.symm⟩
    refine ⟨(List.range len).map O, ⟨some a', cap, by simp, fun hn => ?_⟩, by simp; omega, fun k o hk => ?_⟩
    · have h0 : 0 < len := by
        rcases Nat.eq_zero_or_pos len with h | h
        · rw [h] at hn; simp at hn
        · exact h
      have c0 := (hO 0 h0).1 0 _ rfl
      obtain ⟨b, off, sp⟩ := a'
      have hsp : sp = none := by simpa [Addr.add] using World.cell?_spot c0
      subst hsp
      have hbl : b < w.heap.size := by simpa [Addr.add] using block_lt_of_cell c0
      refine ⟨b, off, rfl, hbl, fun k o hk j u hu => ?_⟩
      obtain ⟨hk1, rfl⟩ := hget k o hk
      have := (hO k hk1).1 j u hu
      rw [show (⟨b, off, none⟩ : Addr).add (k * 6 + j) = ⟨b, off + k * 6 + j, none⟩ by unfold Addr.add; split <;> simp_all <;> omega] at this
      exact this
    · obtain ⟨hk1, rfl⟩ := hget k o hk
      exact (hO k hk1).2
end Go.Proofs.YthmhjjkmnnmjlaaGreatDoor
