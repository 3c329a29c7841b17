import Derived.Test.YthmhjjkmnnmjlaaGreatDoorM17
namespace Go.Proofs.YthmhjjkmnnmjlaaGreatDoor
open Go.RowKit
open Go.Proofs

set_option maxRecDepth 100000 in
set_option maxHeartbeats 4000000 in
theorem xhead_s_no (q : Nat) (r : Pu.Rule) (x : Pu.Shape) (age : Int) (g1 g2 : Nat) (v : Value) (w : World) (h : HdAt w q r x age g1 g2 v) (hb : HdB r x age) (hC : r.states = 2) (e1 : x.ws = 0) (e2 : x.wst = false) (e3 : x.hs = 0) (e4 : x.hst = false) :
    Calls Tryz.prog 43 #[.pointer (some ⟨q, 0, none⟩)] w fun e w' => e = .returned (.string (ustr (xheadT r x age))) ∧ Kp (fun _ => False) w w' := by
  have H0 := hide h
  have CL := hide (fun wx (hx : HdAt wx q r x age g1 g2 v) => hx.cells)
  have WB := hide (fun wx (hx : HdAt wx q r x age g1 g2 v) => written_any r.births g1 wx hx.s1)
  have WS := hide (fun wx (hx : HdAt wx q r x age g1 g2 v) => written_any r.survivals g2 wx hx.s2)
  have DW := hide (fun wx => digits_all x.w wx (by have := hb.w; omega) (by have := hb.w; omega))
  have DH := hide (fun wx => digits_all x.h wx (by have := hb.h; omega) (by have := hb.h; omega))
  have DA := hide (fun wx => digits_all age wx (by have := hb.ag; omega) (by have := hb.ag; omega))
  have zB : (ustr (Sv.set r.births)).size ≤ 99 := by rw [ustr_size]; exact Sv.setN_len _ 9
  have zS : (ustr (Sv.set r.survivals)).size ≤ 99 := by rw [ustr_size]; exact Sv.setN_len _ 9
  have zw := itoa_le64 hb.w.1 hb.w.2
  have zh := itoa_le64 hb.h.1 hb.h.2
  have zag := itoa_le hb.ag.1 hb.ag.2
  have bAr := hb.ar
  have bSt := hb.st
  have bK := hb.k
  have z0 : (ustr [b8 r.around]).size = 1 := rfl
  have z1 : (ustr [b8 x.kind]).size = 1 := rfl
  have HE : Hid (xheadT r x age = [b8 r.around] ++ [66] ++ Sv.set r.births ++ [47, 83] ++ Sv.set r.survivals ++ [32] ++ [b8 x.kind] ++ Lib.itoa x.w ++ [44] ++ Lib.itoa x.h ++ [32] ++ Lib.itoa age) := by
    show _ = _
    unfold xheadT Sv.ruleT xbehind
    rw [e2, e4, if_neg (by omega), if_neg (show ¬ 0 < x.ws by omega), if_neg (show ¬ 0 < x.hs by omega)]
    simp
  obtain ⟨c0, c1, c2, c3, c4, c5, c6, c7, c8, c9, c10, c11⟩ := CL.out w h
  clear h hb
  go_enter Tryz.func43, Tryz.ntmps43
  go_wp2_with fail
  refine (WB.out _ H0.out).mono ?_
  rintro e w1 ⟨rfl, k1⟩
  have H1 := hide (H0.out.keep k1)
  have K1 := hide (k1)
  clear k1 H0 c0 c1 c2 c3 c4 c5 c6 c7 c8 c9 c10 c11
  obtain ⟨c0, c1, c2, c3, c4, c5, c6, c7, c8, c9, c10, c11⟩ := CL.out w1 H1.out
  rw [e1] at c7
  rw [e2] at c9
  rw [e3] at c8
  rw [e4] at c10
  rw [hC] at c3
  go_wp2_with fail
  refine (WS.out _ H1.out).mono ?_
  rintro e w2 ⟨rfl, k2⟩
  have H2 := hide (H1.out.keep k2)
  have K2 := hide (K1.out.trans k2)
  clear k2 H1 c0 c1 c2 c3 c4 c5 c6 c7 c8 c9 c10 c11
  obtain ⟨c0, c1, c2, c3, c4, c5, c6, c7, c8, c9, c10, c11⟩ := CL.out w2 H2.out
  rw [e1] at c7
  rw [e2] at c9
  rw [e3] at c8
  rw [e4] at c10
  rw [hC] at c3
  go_wp2_with (refine wpList_convu rfl 112 9 _ rfl _ _ rfl (conv1u _ _ (by omega) (by omega)) ?_
               intro wa hwa
               have ka : Kp (fun _ => False) w2 wa := by rw [hwa]; exact (Kp.refl _ _).alloc _
               have Ha := hide (H2.out.keep ka)
               have Ka := hide (K2.out.trans ka)
               clear hwa ka
               obtain ⟨d0, d1, d2, d3, d4, d5, d6, d7, d8, d9, d10, d11⟩ := CL.out wa Ha.out
               rw [e1] at d7; rw [e2] at d9; rw [e3] at d8; rw [e4] at d10; rw [hC] at d3)
  refine (DW.out _).mono ?_
  rintro e w3 ⟨rfl, k3⟩
  have H3 := hide (Ha.out.keep k3)
  have K3 := hide (Ka.out.trans k3)
  clear k3 Ha c0 c1 c2 c3 c4 c5 c6 c7 c8 c9 c10 c11
  obtain ⟨c0, c1, c2, c3, c4, c5, c6, c7, c8, c9, c10, c11⟩ := CL.out w3 H3.out
  rw [e1] at c7
  rw [e2] at c9
  rw [e3] at c8
  rw [e4] at c10
  rw [hC] at c3
  go_wp2_with (refine wpList_convu rfl 112 9 _ rfl _ _ rfl (conv1u _ _ (by omega) (by omega)) ?_
               intro wk hwk
               have kk : Kp (fun _ => False) w3 wk := by rw [hwk]; exact (Kp.refl _ _).alloc _
               have Hk := hide (H3.out.keep kk)
               have Kk := hide (K3.out.trans kk)
               clear hwk kk
               obtain ⟨d0, d1, d2, d3, d4, d5, d6, d7, d8, d9, d10, d11⟩ := CL.out wk Hk.out
               rw [e1] at d7; rw [e2] at d9; rw [e3] at d8; rw [e4] at d10; rw [hC] at d3)
  refine (DH.out _).mono ?_
  rintro e w4 ⟨rfl, k4⟩
  have H4 := hide (Hk.out.keep k4)
  have K4 := hide (Kk.out.trans k4)
  clear k4 Hk c0 c1 c2 c3 c4 c5 c6 c7 c8 c9 c10 c11
  obtain ⟨c0, c1, c2, c3, c4, c5, c6, c7, c8, c9, c10, c11⟩ := CL.out w4 H4.out
  rw [e1] at c7
  rw [e2] at c9
  rw [e3] at c8
  rw [e4] at c10
  rw [hC] at c3
  go_wp2_with fail
  refine (DA.out _).mono ?_
  rintro e w5 ⟨rfl, k5⟩
  have H5 := hide (H4.out.keep k5)
  have K5 := hide (K4.out.trans k5)
  clear k5 H4 c0 c1 c2 c3 c4 c5 c6 c7 c8 c9 c10 c11
  obtain ⟨c0, c1, c2, c3, c4, c5, c6, c7, c8, c9, c10, c11⟩ := CL.out w5 H5.out
  rw [e1] at c7
  rw [e2] at c9
  rw [e3] at c8
  rw [e4] at c10
  rw [hC] at c3
  go_wp2_with fail
  go_ret
  refine ⟨ret_ustr ?_, K5.out⟩
  rw [HE.out]
  simp only [lit1, lit2, ustr_app, List.append_assoc]

set_option maxRecDepth 100000 in
set_option maxHeartbeats 4000000 in
theorem xhead_s_ws (q : Nat) (r : Pu.Rule) (x : Pu.Shape) (age : Int) (g1 g2 : Nat) (v : Value) (w : World) (h : HdAt w q r x age g1 g2 v) (hb : HdB r x age) (hC : r.states = 2) (e1 : 0 < x.ws) (e2 : x.wst = false) (e3 : x.hs = 0) (e4 : x.hst = false) :
    Calls Tryz.prog 43 #[.pointer (some ⟨q, 0, none⟩)] w fun e w' => e = .returned (.string (ustr (xheadT r x age))) ∧ Kp (fun _ => False) w w' := by
  have H0 := hide h
  have CL := hide (fun wx (hx : HdAt wx q r x age g1 g2 v) => hx.cells)
  have WB := hide (fun wx (hx : HdAt wx q r x age g1 g2 v) => written_any r.births g1 wx hx.s1)
  have WS := hide (fun wx (hx : HdAt wx q r x age g1 g2 v) => written_any r.survivals g2 wx hx.s2)
  have DW := hide (fun wx => digits_all x.w wx (by have := hb.w; omega) (by have := hb.w; omega))
  have DWS := hide (fun wx => digits_all x.ws wx (by have := hb.ws; omega) (by have := hb.ws; omega))
  have DH := hide (fun wx => digits_all x.h wx (by have := hb.h; omega) (by have := hb.h; omega))
  have DA := hide (fun wx => digits_all age wx (by have := hb.ag; omega) (by have := hb.ag; omega))
  have zB : (ustr (Sv.set r.births)).size ≤ 99 := by rw [ustr_size]; exact Sv.setN_len _ 9
  have zS : (ustr (Sv.set r.survivals)).size ≤ 99 := by rw [ustr_size]; exact Sv.setN_len _ 9
  have zw := itoa_le64 hb.w.1 hb.w.2
  have zws := itoa_le64 hb.ws.1 hb.ws.2
  have zh := itoa_le64 hb.h.1 hb.h.2
  have zag := itoa_le hb.ag.1 hb.ag.2
  have bAr := hb.ar
  have bSt := hb.st
  have bK := hb.k
  have z0 : (ustr [b8 r.around]).size = 1 := rfl
  have z1 : (ustr [b8 x.kind]).size = 1 := rfl
  have HE : Hid (xheadT r x age = [b8 r.around] ++ [66] ++ Sv.set r.births ++ [47, 83] ++ Sv.set r.survivals ++ [32] ++ [b8 x.kind] ++ Lib.itoa x.w ++ [43] ++ Lib.itoa x.ws ++ [44] ++ Lib.itoa x.h ++ [32] ++ Lib.itoa age) := by
    show _ = _
    unfold xheadT Sv.ruleT xbehind
    rw [e2, e4, if_neg (by omega), if_pos e1, if_neg (show ¬ 0 < x.hs by omega)]
    simp
  obtain ⟨c0, c1, c2, c3, c4, c5, c6, c7, c8, c9, c10, c11⟩ := CL.out w h
  clear h hb
  go_enter Tryz.func43, Tryz.ntmps43
  go_wp2_with fail
  refine (WB.out _ H0.out).mono ?_
  rintro e w1 ⟨rfl, k1⟩
  have H1 := hide (H0.out.keep k1)
  have K1 := hide (k1)
  clear k1 H0 c0 c1 c2 c3 c4 c5 c6 c7 c8 c9 c10 c11
  obtain ⟨c0, c1, c2, c3, c4, c5, c6, c7, c8, c9, c10, c11⟩ := CL.out w1 H1.out
  rw [e2] at c9
  rw [e3] at c8
  rw [e4] at c10
  rw [hC] at c3
  go_wp2_with fail
  refine (WS.out _ H1.out).mono ?_
  rintro e w2 ⟨rfl, k2⟩
  have H2 := hide (H1.out.keep k2)
  have K2 := hide (K1.out.trans k2)
  clear k2 H1 c0 c1 c2 c3 c4 c5 c6 c7 c8 c9 c10 c11
  obtain ⟨c0, c1, c2, c3, c4, c5, c6, c7, c8, c9, c10, c11⟩ := CL.out w2 H2.out
  rw [e2] at c9
  rw [e3] at c8
  rw [e4] at c10
  rw [hC] at c3
  go_wp2_with (refine wpList_convu rfl 112 9 _ rfl _ _ rfl (conv1u _ _ (by omega) (by omega)) ?_
               intro wa hwa
               have ka : Kp (fun _ => False) w2 wa := by rw [hwa]; exact (Kp.refl _ _).alloc _
               have Ha := hide (H2.out.keep ka)
               have Ka := hide (K2.out.trans ka)
               clear hwa ka
               obtain ⟨d0, d1, d2, d3, d4, d5, d6, d7, d8, d9, d10, d11⟩ := CL.out wa Ha.out
               rw [e2] at d9; rw [e3] at d8; rw [e4] at d10; rw [hC] at d3)
  refine (DW.out _).mono ?_
  rintro e w3 ⟨rfl, k3⟩
  have H3 := hide (Ha.out.keep k3)
  have K3 := hide (Ka.out.trans k3)
  clear k3 Ha c0 c1 c2 c3 c4 c5 c6 c7 c8 c9 c10 c11
  obtain ⟨c0, c1, c2, c3, c4, c5, c6, c7, c8, c9, c10, c11⟩ := CL.out w3 H3.out
  rw [e2] at c9
  rw [e3] at c8
  rw [e4] at c10
  rw [hC] at c3
  go_wp2_with (refine wpList_convu rfl 112 9 _ rfl _ _ rfl (conv1u _ _ (by omega) (by omega)) ?_
               intro wk hwk
               have kk : Kp (fun _ => False) w3 wk := by rw [hwk]; exact (Kp.refl _ _).alloc _
               have Hk := hide (H3.out.keep kk)
               have Kk := hide (K3.out.trans kk)
               clear hwk kk
               obtain ⟨d0, d1, d2, d3, d4, d5, d6, d7, d8, d9, d10, d11⟩ := CL.out wk Hk.out
               rw [e2] at d9; rw [e3] at d8; rw [e4] at d10; rw [hC] at d3)
  refine (DWS.out _).mono ?_
  rintro e w4 ⟨rfl, k4⟩
  have H4 := hide (Hk.out.keep k4)
  have K4 := hide (Kk.out.trans k4)
  clear k4 Hk c0 c1 c2 c3 c4 c5 c6 c7 c8 c9 c10 c11
  obtain ⟨c0, c1, c2, c3, c4, c5, c6, c7, c8, c9, c10, c11⟩ := CL.out w4 H4.out
  rw [e2] at c9
  rw [e3] at c8
  rw [e4] at c10
  rw [hC] at c3
  go_wp2_with fail
  refine (DH.out _).mono ?_
  rintro e w5 ⟨rfl, k5⟩
  have H5 := hide (H4.out.keep k5)
  have K5 := hide (K4.out.trans k5)
  clear k5 H4 c0 c1 c2 c3 c4 c5 c6 c7 c8 c9 c10 c11
  obtain ⟨c0, c1, c2, c3, c4, c5, c6, c7, c8, c9, c10, c11⟩ := CL.out w5 H5.out
  rw [e2] at c9
  rw [e3] at c8
  rw [e4] at c10
  rw [hC] at c3
  go_wp2_with fail
  refine (DA.out _).mono ?_
  rintro e w6 ⟨rfl, k6⟩
  have H6 := hide (H5.out.keep k6)
  have K6 := hide (K5.out.trans k6)
  clear k6 H5 c0 c1 c2 c3 c4 c5 c6 c7 c8 c9 c10 c11
  obtain ⟨c0, c1, c2, c3, c4, c5, c6, c7, c8, c9, c10, c11⟩ := CL.out w6 H6.out
  rw [e2] at c9
  rw [e3] at c8
  rw [e4] at c10
  rw [hC] at c3
  go_wp2_with fail
  go_ret
  refine ⟨ret_ustr ?_, K6.out⟩
  rw [HE.out]
  simp only [lit1, lit2, ustr_app, List.append_assoc]

set_option maxRecDepth 100000 in
set_option maxHeartbeats 4000000 in
theorem xhead_s_wst (q : Nat) (r : Pu.Rule) (x : Pu.Shape) (age : Int) (g1 g2 : Nat) (v : Value) (w : World) (h : HdAt w q r x age g1 g2 v) (hb : HdB r x age) (hC : r.states = 2) (e1 : x.ws = 0) (e2 : x.wst = true) (e3 : x.hs = 0) (e4 : x.hst = false) :
    Calls Tryz.prog 43 #[.pointer (some ⟨q, 0, none⟩)] w fun e w' => e = .returned (.string (ustr (xheadT r x age))) ∧ Kp (fun _ => False) w w' := by
  have H0 := hide h
  have CL := hide (fun wx (hx : HdAt wx q r x age g1 g2 v) => hx.cells)
  have WB := hide (fun wx (hx : HdAt wx q r x age g1 g2 v) => written_any r.births g1 wx hx.s1)
  have WS := hide (fun wx (hx : HdAt wx q r x age g1 g2 v) => written_any r.survivals g2 wx hx.s2)
  have DW := hide (fun wx => digits_all x.w wx (by have := hb.w; omega) (by have := hb.w; omega))
  have DH := hide (fun wx => digits_all x.h wx (by have := hb.h; omega) (by have := hb.h; omega))
  have DA := hide (fun wx => digits_all age wx (by have := hb.ag; omega) (by have := hb.ag; omega))
  have zB : (ustr (Sv.set r.births)).size ≤ 99 := by rw [ustr_size]; exact Sv.setN_len _ 9
  have zS : (ustr (Sv.set r.survivals)).size ≤ 99 := by rw [ustr_size]; exact Sv.setN_len _ 9
  have zw := itoa_le64 hb.w.1 hb.w.2
  have zh := itoa_le64 hb.h.1 hb.h.2
  have zag := itoa_le hb.ag.1 hb.ag.2
  have bAr := hb.ar
  have bSt := hb.st
  have bK := hb.k
  have z0 : (ustr [b8 r.around]).size = 1 := rfl
  have z1 : (ustr [b8 x.kind]).size = 1 := rfl
  have HE : Hid (xheadT r x age = [b8 r.around] ++ [66] ++ Sv.set r.births ++ [47, 83] ++ Sv.set r.survivals ++ [32] ++ [b8 x.kind] ++ Lib.itoa x.w ++ [42] ++ [44] ++ Lib.itoa x.h ++ [32] ++ Lib.itoa age) := by
    show _ = _
    unfold xheadT Sv.ruleT xbehind
    rw [e2, e4, if_neg (by omega), if_neg (show ¬ 0 < x.ws by omega), if_neg (show ¬ 0 < x.hs by omega)]
    simp
  obtain ⟨c0, c1, c2, c3, c4, c5, c6, c7, c8, c9, c10, c11⟩ := CL.out w h
  clear h hb
  go_enter Tryz.func43, Tryz.ntmps43
  go_wp2_with fail
  refine (WB.out _ H0.out).mono ?_
  rintro e w1 ⟨rfl, k1⟩
  have H1 := hide (H0.out.keep k1)
  have K1 := hide (k1)
  clear k1 H0 c0 c1 c2 c3 c4 c5 c6 c7 c8 c9 c10 c11
  obtain ⟨c0, c1, c2, c3, c4, c5, c6, c7, c8, c9, c10, c11⟩ := CL.out w1 H1.out
  rw [e1] at c7
  rw [e2] at c9
  rw [e3] at c8
  rw [e4] at c10
  rw [hC] at c3
  go_wp2_with fail
  refine (WS.out _ H1.out).mono ?_
  rintro e w2 ⟨rfl, k2⟩
  have H2 := hide (H1.out.keep k2)
  have K2 := hide (K1.out.trans k2)
  clear k2 H1 c0 c1 c2 c3 c4 c5 c6 c7 c8 c9 c10 c11
  obtain ⟨c0, c1, c2, c3, c4, c5, c6, c7, c8, c9, c10, c11⟩ := CL.out w2 H2.out
  rw [e1] at c7
  rw [e2] at c9
  rw [e3] at c8
  rw [e4] at c10
  rw [hC] at c3
  go_wp2_with (refine wpList_convu rfl 112 9 _ rfl _ _ rfl (conv1u _ _ (by omega) (by omega)) ?_
               intro wa hwa
               have ka : Kp (fun _ => False) w2 wa := by rw [hwa]; exact (Kp.refl _ _).alloc _
               have Ha := hide (H2.out.keep ka)
               have Ka := hide (K2.out.trans ka)
               clear hwa ka
               obtain ⟨d0, d1, d2, d3, d4, d5, d6, d7, d8, d9, d10, d11⟩ := CL.out wa Ha.out
               rw [e1] at d7; rw [e2] at d9; rw [e3] at d8; rw [e4] at d10; rw [hC] at d3)
  refine (DW.out _).mono ?_
  rintro e w3 ⟨rfl, k3⟩
  have H3 := hide (Ha.out.keep k3)
  have K3 := hide (Ka.out.trans k3)
  clear k3 Ha c0 c1 c2 c3 c4 c5 c6 c7 c8 c9 c10 c11
  obtain ⟨c0, c1, c2, c3, c4, c5, c6, c7, c8, c9, c10, c11⟩ := CL.out w3 H3.out
  rw [e1] at c7
  rw [e2] at c9
  rw [e3] at c8
  rw [e4] at c10
  rw [hC] at c3
  go_wp2_with (refine wpList_convu rfl 112 9 _ rfl _ _ rfl (conv1u _ _ (by omega) (by omega)) ?_
               intro wk hwk
               have kk : Kp (fun _ => False) w3 wk := by rw [hwk]; exact (Kp.refl _ _).alloc _
               have Hk := hide (H3.out.keep kk)
               have Kk := hide (K3.out.trans kk)
               clear hwk kk
               obtain ⟨d0, d1, d2, d3, d4, d5, d6, d7, d8, d9, d10, d11⟩ := CL.out wk Hk.out
               rw [e1] at d7; rw [e2] at d9; rw [e3] at d8; rw [e4] at d10; rw [hC] at d3)
  refine (DH.out _).mono ?_
  rintro e w4 ⟨rfl, k4⟩
  have H4 := hide (Hk.out.keep k4)
  have K4 := hide (Kk.out.trans k4)
  clear k4 Hk c0 c1 c2 c3 c4 c5 c6 c7 c8 c9 c10 c11
  obtain ⟨c0, c1, c2, c3, c4, c5, c6, c7, c8, c9, c10, c11⟩ := CL.out w4 H4.out
  rw [e1] at c7
  rw [e2] at c9
  rw [e3] at c8
  rw [e4] at c10
  rw [hC] at c3
  go_wp2_with fail
  refine (DA.out _).mono ?_
  rintro e w5 ⟨rfl, k5⟩
  have H5 := hide (H4.out.keep k5)
  have K5 := hide (K4.out.trans k5)
  clear k5 H4 c0 c1 c2 c3 c4 c5 c6 c7 c8 c9 c10 c11
  obtain ⟨c0, c1, c2, c3, c4, c5, c6, c7, c8, c9, c10, c11⟩ := CL.out w5 H5.out
  rw [e1] at c7
  rw [e2] at c9
  rw [e3] at c8
  rw [e4] at c10
  rw [hC] at c3
  go_wp2_with fail
  go_ret
  refine ⟨ret_ustr ?_, K5.out⟩
  rw [HE.out]
  simp only [lit1, lit2, ustr_app, List.append_assoc]

set_option maxRecDepth 100000 in
set_option maxHeartbeats 4000000 in
theorem xhead_s_hs (q : Nat) (r : Pu.Rule) (x : Pu.Shape) (age : Int) (g1 g2 : Nat) (v : Value) (w : World) (h : HdAt w q r x age g1 g2 v) (hb : HdB r x age) (hC : r.states = 2) (e1 : x.ws = 0) (e2 : x.wst = false) (e3 : 0 < x.hs) (e4 : x.hst = false) :
    Calls Tryz.prog 43 #[.pointer (some ⟨q, 0, none⟩)] w fun e w' => e = .returned (.string (ustr (xheadT r x age))) ∧ Kp (fun _ => False) w w' := by
  have H0 := hide h
  have CL := hide (fun wx (hx : HdAt wx q r x age g1 g2 v) => hx.cells)
  have WB := hide (fun wx (hx : HdAt wx q r x age g1 g2 v) => written_any r.births g1 wx hx.s1)
  have WS := hide (fun wx (hx : HdAt wx q r x age g1 g2 v) => written_any r.survivals g2 wx hx.s2)
  have DW := hide (fun wx => digits_all x.w wx (by have := hb.w; omega) (by have := hb.w; omega))
  have DH := hide (fun wx => digits_all x.h wx (by have := hb.h; omega) (by have := hb.h; omega))
  have DHS := hide (fun wx => digits_all x.hs wx (by have := hb.hs; omega) (by have := hb.hs; omega))
  have DA := hide (fun wx => digits_all age wx (by have := hb.ag; omega) (by have := hb.ag; omega))
  have zB : (ustr (Sv.set r.births)).size ≤ 99 := by rw [ustr_size]; exact Sv.setN_len _ 9
  have zS : (ustr (Sv.set r.survivals)).size ≤ 99 := by rw [ustr_size]; exact Sv.setN_len _ 9
  have zw := itoa_le64 hb.w.1 hb.w.2
  have zh := itoa_le64 hb.h.1 hb.h.2
  have zhs := itoa_le64 hb.hs.1 hb.hs.2
  have zag := itoa_le hb.ag.1 hb.ag.2
  have bAr := hb.ar
  have bSt := hb.st
  have bK := hb.k
  have z0 : (ustr [b8 r.around]).size = 1 := rfl
  have z1 : (ustr [b8 x.kind]).size = 1 := rfl
  have HE : Hid (xheadT r x age = [b8 r.around] ++ [66] ++ Sv.set r.births ++ [47, 83] ++ Sv.set r.survivals ++ [32] ++ [b8 x.kind] ++ Lib.itoa x.w ++ [44] ++ Lib.itoa x.h ++ [43] ++ Lib.itoa x.hs ++ [32] ++ Lib.itoa age) := by
    show _ = _
    unfold xheadT Sv.ruleT xbehind
    rw [e2, e4, if_neg (by omega), if_neg (show ¬ 0 < x.ws by omega), if_pos e3]
    simp
  obtain ⟨c0, c1, c2, c3, c4, c5, c6, c7, c8, c9, c10, c11⟩ := CL.out w h
  clear h hb
  go_enter Tryz.func43, Tryz.ntmps43
  go_wp2_with fail
  refine (WB.out _ H0.out).mono ?_
  rintro e w1 ⟨rfl, k1⟩
  have H1 := hide (H0.out.keep k1)
  have K1 := hide (k1)
  clear k1 H0 c0 c1 c2 c3 c4 c5 c6 c7 c8 c9 c10 c11
  obtain ⟨c0, c1, c2, c3, c4, c5, c6, c7, c8, c9, c10, c11⟩ := CL.out w1 H1.out
  rw [e1] at c7
  rw [e2] at c9
  rw [e4] at c10
  rw [hC] at c3
  go_wp2_with fail
  refine (WS.out _ H1.out).mono ?_
  rintro e w2 ⟨rfl, k2⟩
  have H2 := hide (H1.out.keep k2)
  have K2 := hide (K1.out.trans k2)
  clear k2 H1 c0 c1 c2 c3 c4 c5 c6 c7 c8 c9 c10 c11
  obtain ⟨c0, c1, c2, c3, c4, c5, c6, c7, c8, c9, c10, c11⟩ := CL.out w2 H2.out
  rw [e1] at c7
  rw [e2] at c9
  rw [e4] at c10
  rw [hC] at c3
  go_wp2_with (refine wpList_convu rfl 112 9 _ rfl _ _ rfl (conv1u _ _ (by omega) (by omega)) ?_
               intro wa hwa
               have ka : Kp (fun _ => False) w2 wa := by rw [hwa]; exact (Kp.refl _ _).alloc _
               have Ha := hide (H2.out.keep ka)
               have Ka := hide (K2.out.trans ka)
               clear hwa ka
               obtain ⟨d0, d1, d2, d3, d4, d5, d6, d7, d8, d9, d10, d11⟩ := CL.out wa Ha.out
               rw [e1] at d7; rw [e2] at d9; rw [e4] at d10; rw [hC] at d3)
  refine (DW.out _).mono ?_
  rintro e w3 ⟨rfl, k3⟩
  have H3 := hide (Ha.out.keep k3)
  have K3 := hide (Ka.out.trans k3)
  clear k3 Ha c0 c1 c2 c3 c4 c5 c6 c7 c8 c9 c10 c11
  obtain ⟨c0, c1, c2, c3, c4, c5, c6, c7, c8, c9, c10, c11⟩ := CL.out w3 H3.out
  rw [e1] at c7
  rw [e2] at c9
  rw [e4] at c10
  rw [hC] at c3
  go_wp2_with (refine wpList_convu rfl 112 9 _ rfl _ _ rfl (conv1u _ _ (by omega) (by omega)) ?_
               intro wk hwk
               have kk : Kp (fun _ => False) w3 wk := by rw [hwk]; exact (Kp.refl _ _).alloc _
               have Hk := hide (H3.out.keep kk)
               have Kk := hide (K3.out.trans kk)
               clear hwk kk
               obtain ⟨d0, d1, d2, d3, d4, d5, d6, d7, d8, d9, d10, d11⟩ := CL.out wk Hk.out
               rw [e1] at d7; rw [e2] at d9; rw [e4] at d10; rw [hC] at d3)
  refine (DH.out _).mono ?_
  rintro e w4 ⟨rfl, k4⟩
  have H4 := hide (Hk.out.keep k4)
  have K4 := hide (Kk.out.trans k4)
  clear k4 Hk c0 c1 c2 c3 c4 c5 c6 c7 c8 c9 c10 c11
  obtain ⟨c0, c1, c2, c3, c4, c5, c6, c7, c8, c9, c10, c11⟩ := CL.out w4 H4.out
  rw [e1] at c7
  rw [e2] at c9
  rw [e4] at c10
  rw [hC] at c3
  go_wp2_with fail
  refine (DHS.out _).mono ?_
  rintro e w5 ⟨rfl, k5⟩
  have H5 := hide (H4.out.keep k5)
  have K5 := hide (K4.out.trans k5)
  clear k5 H4 c0 c1 c2 c3 c4 c5 c6 c7 c8 c9 c10 c11
  obtain ⟨c0, c1, c2, c3, c4, c5, c6, c7, c8, c9, c10, c11⟩ := CL.out w5 H5.out
  rw [e1] at c7
  rw [e2] at c9
  rw [e4] at c10
  rw [hC] at c3
  go_wp2_with fail
  refine (DA.out _).mono ?_
  rintro e w6 ⟨rfl, k6⟩
  have H6 := hide (H5.out.keep k6)
  have K6 := hide (K5.out.trans k6)
  clear k6 H5 c0 c1 c2 c3 c4 c5 c6 c7 c8 c9 c10 c11
  obtain ⟨c0, c1, c2, c3, c4, c5, c6, c7, c8, c9, c10, c11⟩ := CL.out w6 H6.out
  rw [e1] at c7
  rw [e2] at c9
  rw [e4] at c10
  rw [hC] at c3
  go_wp2_with fail
  go_ret
  refine ⟨ret_ustr ?_, K6.out⟩
  rw [HE.out]
  simp only [lit1, lit2, ustr_app, List.append_assoc]

set_option maxRecDepth 100000 in
set_option maxHeartbeats 4000000 in
theorem xhead_s_hst (q : Nat) (r : Pu.Rule) (x : Pu.Shape) (age : Int) (g1 g2 : Nat) (v : Value) (w : World) (h : HdAt w q r x age g1 g2 v) (hb : HdB r x age) (hC : r.states = 2) (e1 : x.ws = 0) (e2 : x.wst = false) (e3 : x.hs = 0) (e4 : x.hst = true) :
    Calls Tryz.prog 43 #[.pointer (some ⟨q, 0, none⟩)] w fun e w' => e = .returned (.string (ustr (xheadT r x age))) ∧ Kp (fun _ => False) w w' := by
  have H0 := hide h
  have CL := hide (fun wx (hx : HdAt wx q r x age g1 g2 v) => hx.cells)
  have WB := hide (fun wx (hx : HdAt wx q r x age g1 g2 v) => written_any r.births g1 wx hx.s1)
  have WS := hide (fun wx (hx : HdAt wx q r x age g1 g2 v) => written_any r.survivals g2 wx hx.s2)
  have DW := hide (fun wx => digits_all x.w wx (by have := hb.w; omega) (by have := hb.w; omega))
  have DH := hide (fun wx => digits_all x.h wx (by have := hb.h; omega) (by have := hb.h; omega))
  have DA := hide (fun wx => digits_all age wx (by have := hb.ag; omega) (by have := hb.ag; omega))
  have zB : (ustr (Sv.set r.births)).size ≤ 99 := by rw [ustr_size]; exact Sv.setN_len _ 9
  have zS : (ustr (Sv.set r.survivals)).size ≤ 99 := by rw [ustr_size]; exact Sv.setN_len _ 9
  have zw := itoa_le64 hb.w.1 hb.w.2
  have zh := itoa_le64 hb.h.1 hb.h.2
  have zag := itoa_le hb.ag.1 hb.ag.2
  have bAr := hb.ar
  have bSt := hb.st
  have bK := hb.k
  have z0 : (ustr [b8 r.around]).size = 1 := rfl
  have z1 : (ustr [b8 x.kind]).size = 1 := rfl
  have HE : Hid (xheadT r x age = [b8 r.around] ++ [66] ++ Sv.set r.births ++ [47, 83] ++ Sv.set r.survivals ++ [32] ++ [b8 x.kind] ++ Lib.itoa x.w ++ [44] ++ Lib.itoa x.h ++ [42] ++ [32] ++ Lib.itoa age) := by
    show _ = _
    unfold xheadT Sv.ruleT xbehind
    rw [e2, e4, if_neg (by omega), if_neg (show ¬ 0 < x.ws by omega), if_neg (show ¬ 0 < x.hs by omega)]
    simp
  obtain ⟨c0, c1, c2, c3, c4, c5, c6, c7, c8, c9, c10, c11⟩ := CL.out w h
  clear h hb
  go_enter Tryz.func43, Tryz.ntmps43
  go_wp2_with fail
  refine (WB.out _ H0.out).mono ?_
  rintro e w1 ⟨rfl, k1⟩
  have H1 := hide (H0.out.keep k1)
  have K1 := hide (k1)
  clear k1 H0 c0 c1 c2 c3 c4 c5 c6 c7 c8 c9 c10 c11
  obtain ⟨c0, c1, c2, c3, c4, c5, c6, c7, c8, c9, c10, c11⟩ := CL.out w1 H1.out
  rw [e1] at c7
  rw [e2] at c9
  rw [e3] at c8
  rw [e4] at c10
  rw [hC] at c3
  go_wp2_with fail
  refine (WS.out _ H1.out).mono ?_
  rintro e w2 ⟨rfl, k2⟩
  have H2 := hide (H1.out.keep k2)
  have K2 := hide (K1.out.trans k2)
  clear k2 H1 c0 c1 c2 c3 c4 c5 c6 c7 c8 c9 c10 c11
  obtain ⟨c0, c1, c2, c3, c4, c5, c6, c7, c8, c9, c10, c11⟩ := CL.out w2 H2.out
  rw [e1] at c7
  rw [e2] at c9
  rw [e3] at c8
  rw [e4] at c10
  rw [hC] at c3
  go_wp2_with (refine wpList_convu rfl 112 9 _ rfl _ _ rfl (conv1u _ _ (by omega) (by omega)) ?_
               intro wa hwa
               have ka : Kp (fun _ => False) w2 wa := by rw [hwa]; exact (Kp.refl _ _).alloc _
               have Ha := hide (H2.out.keep ka)
               have Ka := hide (K2.out.trans ka)
               clear hwa ka
               obtain ⟨d0, d1, d2, d3, d4, d5, d6, d7, d8, d9, d10, d11⟩ := CL.out wa Ha.out
               rw [e1] at d7; rw [e2] at d9; rw [e3] at d8; rw [e4] at d10; rw [hC] at d3)
  refine (DW.out _).mono ?_
  rintro e w3 ⟨rfl, k3⟩
  have H3 := hide (Ha.out.keep k3)
  have K3 := hide (Ka.out.trans k3)
  clear k3 Ha c0 c1 c2 c3 c4 c5 c6 c7 c8 c9 c10 c11
  obtain ⟨c0, c1, c2, c3, c4, c5, c6, c7, c8, c9, c10, c11⟩ := CL.out w3 H3.out
  rw [e1] at c7
  rw [e2] at c9
  rw [e3] at c8
  rw [e4] at c10
  rw [hC] at c3
  go_wp2_with (refine wpList_convu rfl 112 9 _ rfl _ _ rfl (conv1u _ _ (by omega) (by omega)) ?_
               intro wk hwk
               have kk : Kp (fun _ => False) w3 wk := by rw [hwk]; exact (Kp.refl _ _).alloc _
               have Hk := hide (H3.out.keep kk)
               have Kk := hide (K3.out.trans kk)
               clear hwk kk
               obtain ⟨d0, d1, d2, d3, d4, d5, d6, d7, d8, d9, d10, d11⟩ := CL.out wk Hk.out
               rw [e1] at d7; rw [e2] at d9; rw [e3] at d8; rw [e4] at d10; rw [hC] at d3)
  refine (DH.out _).mono ?_
  rintro e w4 ⟨rfl, k4⟩
  have H4 := hide (Hk.out.keep k4)
  have K4 := hide (Kk.out.trans k4)
  clear k4 Hk c0 c1 c2 c3 c4 c5 c6 c7 c8 c9 c10 c11
  obtain ⟨c0, c1, c2, c3, c4, c5, c6, c7, c8, c9, c10, c11⟩ := CL.out w4 H4.out
  rw [e1] at c7
  rw [e2] at c9
  rw [e3] at c8
  rw [e4] at c10
  rw [hC] at c3
  go_wp2_with fail
  refine (DA.out _).mono ?_
  rintro e w5 ⟨rfl, k5⟩
  have H5 := hide (H4.out.keep k5)
  have K5 := hide (K4.out.trans k5)
  clear k5 H4 c0 c1 c2 c3 c4 c5 c6 c7 c8 c9 c10 c11
  obtain ⟨c0, c1, c2, c3, c4, c5, c6, c7, c8, c9, c10, c11⟩ := CL.out w5 H5.out
  rw [e1] at c7
  rw [e2] at c9
  rw [e3] at c8
  rw [e4] at c10
  rw [hC] at c3
  go_wp2_with fail
  go_ret
  refine ⟨ret_ustr ?_, K5.out⟩
  rw [HE.out]
  simp only [lit1, lit2, ustr_app, List.append_assoc]
end Go.Proofs.YthmhjjkmnnmjlaaGreatDoor
