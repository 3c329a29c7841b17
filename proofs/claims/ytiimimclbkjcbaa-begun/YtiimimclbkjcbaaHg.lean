import Derived.Test.YtiimimclbkjcbaaHf
namespace Go.Proofs.Ytiimimclbkjcbaa
open Go.RowKit
open Go.Proofs

set_option maxHeartbeats 1000000 in
theorem begun_walk (s : ByteArray) (c : Int) (hm : s.size ≤ maxLen) (c0 : -9223372036854775808 ≤ c) (c1 : c ≤ 9223372036854775807) (w : World) :
    Calls Try.prog 3 #[.string s, .int .i64 c] w fun e w' => e = .returned (.bool true) ∧ Kp (fun _ => False) w w' := by
  have HM := hide hm
  have hm' := hm
  unfold maxLen at hm'
  have HFW := hide (fun wx => few_any s wx hm)
  clear hm
  by_cases h1 : s.size ≤ 1048576
  · rw [decide_eq_true h1] at HFW
    by_cases h2 : s.size = 0
    · have b2 : ((s.size : Int) == 0) = true := by simpa using h2
      go_enter Try.func3, Try.ntmps3
      go_wp2_with fail
      refine (reads_any _).mono ?_
      rintro e w1 ⟨rfl, k1⟩
      go_wp2_with fail
      refine (HFW.out _).mono ?_
      rintro e w2 ⟨rfl, hw⟩
      subst w2
      go_wp2_with fail
      go_ret
      exact ⟨rfl, k1⟩
    · have b2 : ((s.size : Int) == 0) = false := by rw [beq_eq_false_iff_ne]; omega
      by_cases h3 : s.size ≤ 400
      · rcases hrd : Pu.read (src s) with ⟨j, _ | p⟩
        · have HL := hide (fun wx => Load_none s wx h3 j hrd)
          clear hrd
          go_enter Try.func3, Try.ntmps3
          go_wp2_with fail
          refine (reads_any _).mono ?_
          rintro e w1 ⟨rfl, k1⟩
          go_wp2_with fail
          refine (HFW.out _).mono ?_
          rintro e w2 ⟨rfl, hw⟩
          subst w2
          go_wp2_with fail
          refine (HL.out _).mono ?_
          rintro e w3 ⟨rfl, k3⟩
          go_wp2_with fail
          go_ret
          exact ⟨rfl, k1.trans k3⟩
        · have HL := hide (fun wx => Load_some s wx h3 j p hrd)
          have hj := read_size hrd
          have npos : (0 : Int) < s.size := by omega
          have HPK := hide (fun wx => pick_any c s.size wx npos (by omega) c0 c1)
          have hz : 0 ≤ pickP c s.size ∧ pickP c s.size < s.size := by
            unfold pickP
            split
            · exact ⟨Int.emod_nonneg _ (by omega), Int.emod_lt_of_pos _ npos⟩
            · exact ⟨Int.emod_nonneg _ (by omega), Int.emod_lt_of_pos _ npos⟩
          generalize pickP c s.size = z at *
          obtain ⟨n, rfl⟩ := Int.eq_ofNat_of_zero_le hz.1
          have hn : n < s.size := by omega
          have hcut := src_cut (s := s) (n := n) (by omega)
          have hrd2 : Hid (Pu.read (src (s.extract 0 n)) = (n, none)) := Pu.read_trunc (src s) (src (s.extract 0 n)) n hcut.1 hcut.2 (by rw [hrd]; rfl) (by rw [hrd]; show n < j; omega)
          have hsz : (s.extract 0 n).size ≤ 400 := by simp; omega
          have HL2 := hide (fun wx => Load_none (s.extract 0 n) wx hsz n hrd2)
          clear hrd hrd2 hcut hsz hj
          go_enter Try.func3, Try.ntmps3
          go_wp2_with fail
          refine (reads_any _).mono ?_
          rintro e w1 ⟨rfl, k1⟩
          go_wp2_with fail
          refine (HFW.out _).mono ?_
          rintro e w2 ⟨rfl, hw⟩
          subst w2
          go_wp2_with fail
          refine (HL.out _).mono ?_
          rintro e w3 ⟨⟨u, cc, rfl, hcc⟩, k3⟩
          have K3 := hide (k1.trans k3)
          clear k1 k3
          rcases hcc with rfl | rfl | rfl
          all_goals
            go_wp2_with fail
            refine (HPK.out _).mono ?_
            rintro e w4 ⟨rfl, hw⟩
            subst w4
            go_wp2_with fail
            refine (HL2.out _).mono ?_
            rintro e w5 ⟨rfl, k5⟩
            go_wp2_with fail
            go_ret
            exact ⟨ret_bool (by simp), K3.out.trans k5⟩
      · have HL := hide (fun wx => Load_long s wx (by omega) HM.out)
        go_enter Try.func3, Try.ntmps3
        go_wp2_with fail
        refine (reads_any _).mono ?_
        rintro e w1 ⟨rfl, k1⟩
        go_wp2_with fail
        refine (HFW.out _).mono ?_
        rintro e w2 ⟨rfl, hw⟩
        subst w2
        go_wp2_with fail
        refine (HL.out _).mono ?_
        rintro e w3 ⟨rfl, hw⟩
        subst w3
        go_wp2_with fail
        go_ret
        exact ⟨rfl, k1⟩
  · rw [decide_eq_false h1] at HFW
    go_enter Try.func3, Try.ntmps3
    go_wp2_with fail
    refine (reads_any _).mono ?_
    rintro e w1 ⟨rfl, k1⟩
    go_wp2_with fail
    refine (HFW.out _).mono ?_
    rintro e w2 ⟨rfl, hw⟩
    subst w2
    go_wp2_with fail
    go_ret
    exact ⟨rfl, k1⟩
end Go.Proofs.Ytiimimclbkjcbaa
