import Derived.Test.YtiimimclbkjcbaaHh
import Derived.Test.YtiimimclbkjcbaaLe
namespace Go.Proofs.Ytiimimclbkjcbaa
open Go.RowKit
open Go.Proofs

theorem bang_src (o : ByteArray) : src (⟨#[33]⟩ ++ o) 0 = 33 := by
  rw [src_append (by decide)]
  rfl

set_option maxRecDepth 100000 in
set_option maxHeartbeats 2000000 in
theorem placed_walk (s o : ByteArray) (hs : s.size ≤ maxLen) (ho : o.size ≤ maxLen) (w : World) :
    Calls Try.prog 4 #[.string s, .string o] w fun e w' => e = .returned (.bool true) ∧ Kp (fun _ => False) w w' := by
  have HS := hide hs
  have FW := hide (fun wx => few_any s wx hs)
  have FO := hide (fun wx => few_any o wx ho)
  unfold maxLen at hs ho
  have hbz : ((⟨#[33]⟩ : ByteArray) ++ o).size = 1 + o.size := by rw [ByteArray.size_append]; rfl
  by_cases h1 : s.size ≤ 1048576
  · rw [decide_eq_true h1] at FW
    by_cases h2 : o.size ≤ 1048576
    · rw [decide_eq_true h2] at FO
      by_cases h6 : o.size < 400
      · have HB := hide (fun wx => Load_none (⟨#[33]⟩ ++ o) wx (by omega) 0 (read_bang (bang_src o)))
        clear hbz
        by_cases h3 : s.size ≤ 400
        · rcases hrd : Pu.read (src s) with ⟨j, _ | p⟩
          · have hjl : j ≤ s.size := by
              have := Pu.read_le (src s) s.size (fun k hk => src_ge (by omega))
              rw [hrd] at this
              exact this
            have HL := hide (fun wx => Load_none s wx h3 j hrd)
            by_cases h4 : j = s.size
            · have b4 : ((j : Int) == (s.size : Int)) = true := by rw [beq_iff_eq]; omega
              clear hrd h4
              go_enter Try.func4, Try.ntmps4
              go_wp2_with fail
              refine (reads_any _).mono ?_
              rintro e w1 ⟨rfl, k1⟩
              go_wp2_with fail
              refine (FW.out _).mono ?_
              rintro e w2 ⟨rfl, hw⟩
              subst w2
              go_wp2_with fail
              refine (FO.out _).mono ?_
              rintro e w2 ⟨rfl, hw⟩
              subst w2
              go_wp2_with fail
              refine (HB.out _).mono ?_
              rintro e w3 ⟨rfl, k3⟩
              have K3 := hide (k1.trans k3)
              clear k1 k3
              go_wp2_with fail
              refine (HL.out _).mono ?_
              rintro e w4 ⟨rfl, k4⟩
              have K4 := hide (K3.out.trans k4)
              clear k4
              go_wp2_with fail
              go_ret
              exact ⟨rfl, K4.out⟩
            · have b4 : ((j : Int) == (s.size : Int)) = false := by rw [beq_eq_false_iff_ne]; omega
              by_cases h5 : 400 < j + 1 + o.size
              · have h5' : (400 : Int) < (j : Int) + 1 + (o.size : Int) := by omega
                clear hrd h4
                go_enter Try.func4, Try.ntmps4
                go_wp2_with fail
                refine (reads_any _).mono ?_
                rintro e w1 ⟨rfl, k1⟩
                go_wp2_with fail
                refine (FW.out _).mono ?_
                rintro e w2 ⟨rfl, hw⟩
                subst w2
                go_wp2_with fail
                refine (FO.out _).mono ?_
                rintro e w2 ⟨rfl, hw⟩
                subst w2
                go_wp2_with fail
                refine (HB.out _).mono ?_
                rintro e w3 ⟨rfl, k3⟩
                have K3 := hide (k1.trans k3)
                clear k1 k3
                go_wp2_with fail
                refine (HL.out _).mono ?_
                rintro e w4 ⟨rfl, k4⟩
                have K4 := hide (K3.out.trans k4)
                clear k4
                go_wp2_with fail
                go_ret
                exact ⟨rfl, K4.out⟩
              · have h5' : ¬ (400 : Int) < (j : Int) + 1 + (o.size : Int) := by omega
                have hsz : (s.extract 0 (j + 1) ++ o).size ≤ 400 := by simp; omega
                have hloc : ∀ k, k ≤ (Pu.read (src s)).1 → src (s.extract 0 (j + 1) ++ o) k = src s k := by
                  intro k hk
                  rw [hrd] at hk
                  have hk' : k ≤ j := hk
                  rw [src_append (by simp; omega)]
                  exact (src_cut (s := s) (n := j + 1) (by omega)).1 k (by omega)
                have hrd2 : Hid (Pu.read (src (s.extract 0 (j + 1) ++ o)) = (j, none)) := (Pu.read_loc _ _ hloc).trans hrd
                have HL2 := hide (fun wx => Load_none (s.extract 0 (j + 1) ++ o) wx hsz j hrd2)
                have hjlt : j < s.size := by omega
                clear hrd hrd2 hloc hsz h4
                go_enter Try.func4, Try.ntmps4
                go_wp2_with fail
                refine (reads_any _).mono ?_
                rintro e w1 ⟨rfl, k1⟩
                go_wp2_with fail
                refine (FW.out _).mono ?_
                rintro e w2 ⟨rfl, hw⟩
                subst w2
                go_wp2_with fail
                refine (FO.out _).mono ?_
                rintro e w2 ⟨rfl, hw⟩
                subst w2
                go_wp2_with fail
                refine (HB.out _).mono ?_
                rintro e w3 ⟨rfl, k3⟩
                have K3 := hide (k1.trans k3)
                clear k1 k3
                go_wp2_with fail
                refine (HL.out _).mono ?_
                rintro e w4 ⟨rfl, k4⟩
                have K4 := hide (K3.out.trans k4)
                clear k4
                go_wp2_with fail
                refine (HL2.out _).mono ?_
                rintro e w5 ⟨rfl, k5⟩
                have K5 := hide (K4.out.trans k5)
                clear k5
                go_wp2_with fail
                go_ret
                exact ⟨ret_bool (by simp), K5.out⟩
          · have HL := hide (fun wx => Load_some s wx h3 j p hrd)
            clear hrd
            go_enter Try.func4, Try.ntmps4
            go_wp2_with fail
            refine (reads_any _).mono ?_
            rintro e w1 ⟨rfl, k1⟩
            go_wp2_with fail
            refine (FW.out _).mono ?_
            rintro e w2 ⟨rfl, hw⟩
            subst w2
            go_wp2_with fail
            refine (FO.out _).mono ?_
            rintro e w2 ⟨rfl, hw⟩
            subst w2
            go_wp2_with fail
            refine (HB.out _).mono ?_
            rintro e w3 ⟨rfl, k3⟩
            have K3 := hide (k1.trans k3)
            clear k1 k3
            go_wp2_with fail
            refine (HL.out _).mono ?_
            rintro e w4 ⟨⟨u4, c4, rfl, hc4⟩, k4⟩
            have K4 := hide (K3.out.trans k4)
            clear k4
            rcases hc4 with rfl | rfl | rfl
            all_goals
              go_wp2_with fail
              go_ret
              exact ⟨rfl, K4.out⟩
        · have HL := hide (fun wx => Load_long s wx (by omega) HS.out)
          go_enter Try.func4, Try.ntmps4
          go_wp2_with fail
          refine (reads_any _).mono ?_
          rintro e w1 ⟨rfl, k1⟩
          go_wp2_with fail
          refine (FW.out _).mono ?_
          rintro e w2 ⟨rfl, hw⟩
          subst w2
          go_wp2_with fail
          refine (FO.out _).mono ?_
          rintro e w2 ⟨rfl, hw⟩
          subst w2
          go_wp2_with fail
          refine (HB.out _).mono ?_
          rintro e w3 ⟨rfl, k3⟩
          have K3 := hide (k1.trans k3)
          clear k1 k3
          go_wp2_with fail
          refine (HL.out _).mono ?_
          rintro e w4 ⟨rfl, hw⟩
          subst w4
          go_wp2_with fail
          go_ret
          exact ⟨rfl, K3.out⟩
      · have HB := hide (fun wx => Load_is (⟨#[33]⟩ ++ o) wx (by unfold maxLen; omega))
        clear hbz
        by_cases h3 : s.size ≤ 400
        · rcases hrd : Pu.read (src s) with ⟨j, _ | p⟩
          · have hjl : j ≤ s.size := by
              have := Pu.read_le (src s) s.size (fun k hk => src_ge (by omega))
              rw [hrd] at this
              exact this
            have HL := hide (fun wx => Load_none s wx h3 j hrd)
            by_cases h4 : j = s.size
            · have b4 : ((j : Int) == (s.size : Int)) = true := by rw [beq_iff_eq]; omega
              clear hrd h4
              go_enter Try.func4, Try.ntmps4
              go_wp2_with fail
              refine (reads_any _).mono ?_
              rintro e w1 ⟨rfl, k1⟩
              go_wp2_with fail
              refine (FW.out _).mono ?_
              rintro e w2 ⟨rfl, hw⟩
              subst w2
              go_wp2_with fail
              refine (FO.out _).mono ?_
              rintro e w2 ⟨rfl, hw⟩
              subst w2
              go_wp2_with fail
              refine (HB.out _).mono ?_
              rintro e w3 ⟨⟨u3, z3, c3, rfl, l3⟩, k3⟩
              have K3 := hide (k1.trans k3)
              clear k1 k3 l3
              go_wp2_with fail
              refine (HL.out _).mono ?_
              rintro e w4 ⟨rfl, k4⟩
              have K4 := hide (K3.out.trans k4)
              clear k4
              go_wp2_with fail
              go_ret
              exact ⟨rfl, K4.out⟩
            · have b4 : ((j : Int) == (s.size : Int)) = false := by rw [beq_eq_false_iff_ne]; omega
              by_cases h5 : 400 < j + 1 + o.size
              · have h5' : (400 : Int) < (j : Int) + 1 + (o.size : Int) := by omega
                clear hrd h4
                go_enter Try.func4, Try.ntmps4
                go_wp2_with fail
                refine (reads_any _).mono ?_
                rintro e w1 ⟨rfl, k1⟩
                go_wp2_with fail
                refine (FW.out _).mono ?_
                rintro e w2 ⟨rfl, hw⟩
                subst w2
                go_wp2_with fail
                refine (FO.out _).mono ?_
                rintro e w2 ⟨rfl, hw⟩
                subst w2
                go_wp2_with fail
                refine (HB.out _).mono ?_
                rintro e w3 ⟨⟨u3, z3, c3, rfl, l3⟩, k3⟩
                have K3 := hide (k1.trans k3)
                clear k1 k3 l3
                go_wp2_with fail
                refine (HL.out _).mono ?_
                rintro e w4 ⟨rfl, k4⟩
                have K4 := hide (K3.out.trans k4)
                clear k4
                go_wp2_with fail
                go_ret
                exact ⟨rfl, K4.out⟩
              · omega
          · have HL := hide (fun wx => Load_some s wx h3 j p hrd)
            clear hrd
            go_enter Try.func4, Try.ntmps4
            go_wp2_with fail
            refine (reads_any _).mono ?_
            rintro e w1 ⟨rfl, k1⟩
            go_wp2_with fail
            refine (FW.out _).mono ?_
            rintro e w2 ⟨rfl, hw⟩
            subst w2
            go_wp2_with fail
            refine (FO.out _).mono ?_
            rintro e w2 ⟨rfl, hw⟩
            subst w2
            go_wp2_with fail
            refine (HB.out _).mono ?_
            rintro e w3 ⟨⟨u3, z3, c3, rfl, l3⟩, k3⟩
            have K3 := hide (k1.trans k3)
            clear k1 k3 l3
            go_wp2_with fail
            refine (HL.out _).mono ?_
            rintro e w4 ⟨⟨u4, c4, rfl, hc4⟩, k4⟩
            have K4 := hide (K3.out.trans k4)
            clear k4
            rcases hc4 with rfl | rfl | rfl
            all_goals
              go_wp2_with fail
              go_ret
              exact ⟨rfl, K4.out⟩
        · have HL := hide (fun wx => Load_long s wx (by omega) HS.out)
          go_enter Try.func4, Try.ntmps4
          go_wp2_with fail
          refine (reads_any _).mono ?_
          rintro e w1 ⟨rfl, k1⟩
          go_wp2_with fail
          refine (FW.out _).mono ?_
          rintro e w2 ⟨rfl, hw⟩
          subst w2
          go_wp2_with fail
          refine (FO.out _).mono ?_
          rintro e w2 ⟨rfl, hw⟩
          subst w2
          go_wp2_with fail
          refine (HB.out _).mono ?_
          rintro e w3 ⟨⟨u3, z3, c3, rfl, l3⟩, k3⟩
          have K3 := hide (k1.trans k3)
          clear k1 k3 l3
          go_wp2_with fail
          refine (HL.out _).mono ?_
          rintro e w4 ⟨rfl, hw⟩
          subst w4
          go_wp2_with fail
          go_ret
          exact ⟨rfl, K3.out⟩
    · rw [decide_eq_false h2] at FO
      go_enter Try.func4, Try.ntmps4
      go_wp2_with fail
      refine (reads_any _).mono ?_
      rintro e w1 ⟨rfl, k1⟩
      go_wp2_with fail
      refine (FW.out _).mono ?_
      rintro e w2 ⟨rfl, hw⟩
      subst w2
      go_wp2_with fail
      refine (FO.out _).mono ?_
      rintro e w2 ⟨rfl, hw⟩
      subst w2
      go_wp2_with fail
      go_ret
      exact ⟨rfl, k1⟩
  · rw [decide_eq_false h1] at FW
    by_cases h2 : o.size ≤ 1048576
    · rw [decide_eq_true h2] at FO
      go_enter Try.func4, Try.ntmps4
      go_wp2_with fail
      refine (reads_any _).mono ?_
      rintro e w1 ⟨rfl, k1⟩
      go_wp2_with fail
      refine (FW.out _).mono ?_
      rintro e w2 ⟨rfl, hw⟩
      subst w2
      go_wp2_with fail
      refine (FO.out _).mono ?_
      rintro e w2 ⟨rfl, hw⟩
      subst w2
      go_wp2_with fail
      go_ret
      exact ⟨rfl, k1⟩
    · rw [decide_eq_false h2] at FO
      go_enter Try.func4, Try.ntmps4
      go_wp2_with fail
      refine (reads_any _).mono ?_
      rintro e w1 ⟨rfl, k1⟩
      go_wp2_with fail
      refine (FW.out _).mono ?_
      rintro e w2 ⟨rfl, hw⟩
      subst w2
      go_wp2_with fail
      refine (FO.out _).mono ?_
      rintro e w2 ⟨rfl, hw⟩
      subst w2
      go_wp2_with fail
      go_ret
      exact ⟨rfl, k1⟩
end Go.Proofs.Ytiimimclbkjcbaa
