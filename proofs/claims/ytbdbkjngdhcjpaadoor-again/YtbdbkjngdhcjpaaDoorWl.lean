import Derived.Test.YtbdbkjngdhcjpaaDoorM6
namespace Go.Proofs.YtbdbkjngdhcjpaaDoor
open Go.RowKit
open Go.Proofs

theorem take_s {s : ByteArray} {i : Nat} {m : Int} (e : src s i = m) : Pu.take m (src s) i = (i + 1, some ()) := by unfold Pu.take; rw [if_pos e]
theorem take_n {s : ByteArray} {i : Nat} {m : Int} (e : ¬ src s i = m) : Pu.take m (src s) i = (i, none) := by unfold Pu.take; rw [if_neg e]

set_option maxHeartbeats 1000000 in
theorem place_any (b p : Nat) (s : ByteArray) (i : Nat) (r : Pu.Rule) (x : Pu.Shape) (age : Int) (v : Value) (w : World) (h : RdAt w b s i) (hp : PtAt w p r x age 0 0 v) (hbp : b ≠ p)
    (j : Nat) (o : Option (Int × Int)) (hq : Hid (Pu.place (src s) i = (j, o))) :
    Calls Tryd.prog 73 #[.pointer (some ⟨b, 0, none⟩), .pointer (some ⟨p, 0, none⟩)] w fun e w' => e = .returned (.bool o.isSome) ∧ RdAt w' b s j ∧
      (∃ col row, PtAt w' p r x age col row v ∧ ∀ a, o = some a → col = a.1 ∧ row = a.2) ∧ Kp (fun x => x = b ∨ x = p) w w' := by
  have HP := hide hp
  have hq' := hq.out
  unfold Pu.place at hq'
  clear hp hq
  rcases hn : Pu.signed 9999 (src s) i with ⟨j1, _ | x1⟩
  · rw [bnd_none hn] at hq'
    obtain ⟨rfl, rfl⟩ := Prod.mk.inj hq'
    have HN := hide hn
    clear hn hq'
    go_enter Tryd.func73, Tryd.ntmps73
    go_wp2_with fail
    refine (signed_any b s i _ h j1 none HN).mono ?_
    rintro e w1 ⟨⟨y, rfl, hy⟩, r1, k1⟩
    clear hy
    go_wp2_with fail
    go_ret
    exact ⟨rfl, r1, ⟨0, 0, HP.out.keep k1 (by omega), fun a ha => by simp at ha⟩, k1.mono (fun _ hx => Or.inl hx)⟩
  · rw [bnd_some hn] at hq'
    have HQ := hide hq'
    have HN := hide hn
    clear hn hq'
    go_enter Tryd.func73, Tryd.ntmps73
    go_wp2_with fail
    refine (signed_any b s i _ h j1 (some x1) HN).mono ?_
    rintro e w1 ⟨⟨y, rfl, hy⟩, r1, k1⟩
    obtain rfl := hy x1 rfl
    clear hy
    have P1 := hide (HP.out.keep k1 (by omega))
    have K1 := hide (k1.mono (T := fun x => x = b ∨ x = p) (fun _ hx => Or.inl hx))
    have R1 := hide r1
    clear k1 r1
    by_cases e : src s j1 = 44
    · have hq2 := HQ.out
      rw [bnd_some (take_s e)] at hq2
      have E := hide e
      clear e HQ
      go_wp2_with fail
      refine (take_yes R1.out (by omega) E.out).mono ?_
      rintro e w2 ⟨rfl, r2, k2⟩
      have P2 := hide (P1.out.keep k2 (by omega))
      have K2 := hide (K1.out.trans (k2.mono (T := fun x => x = b ∨ x = p) (fun _ hx => Or.inl hx)))
      have R2 := hide r2
      clear k2 r2
      go_wp2_with fail
      rcases hn : Pu.signed 9999 (src s) (j1 + 1) with ⟨j2, _ | x2⟩
      · rw [bnd_none hn] at hq2
        obtain ⟨rfl, rfl⟩ := Prod.mk.inj hq2
        have HN2 := hide hn
        clear hn hq2
        refine (signed_any b s (j1 + 1) _ R2.out j2 none HN2).mono ?_
        rintro e w3 ⟨⟨z, rfl, hz⟩, r3, k3⟩
        clear hz
        go_wp2_with fail
        go_ret
        exact ⟨rfl, r3, ⟨0, 0, P2.out.keep k3 (by omega), fun a ha => by simp at ha⟩, K2.out.trans (k3.mono (fun _ hx => Or.inl hx))⟩
      · rw [bnd_some hn] at hq2
        have HQ2 := hide hq2
        have HN2 := hide hn
        clear hn hq2
        refine (signed_any b s (j1 + 1) _ R2.out j2 (some x2) HN2).mono ?_
        rintro e w3 ⟨⟨z, rfl, hz⟩, r3, k3⟩
        obtain rfl := hz x2 rfl
        clear hz
        have P3 := hide (P2.out.keep k3 (by omega))
        have K3 := hide (K2.out.trans (k3.mono (T := fun x => x = b ∨ x = p) (fun _ hx => Or.inl hx)))
        have R3 := hide r3
        clear k3 r3
        have g1 : w3.cell? ⟨p, 28, none⟩ = some (.int .i64 0) := P3.out.cell 1
        have g2 : w3.cell? ⟨p, 29, none⟩ = some (.int .i64 0) := P3.out.cell 2
        have f1 := P3.out.fro 28
        have f2 := P3.out.fro 29
        have P4 : Hid (PtAt ((w3.setCell ⟨p, 28, none⟩ (.int .i64 y)).setCell ⟨p, 29, none⟩ (.int .i64 z)) p r x age y z v) := (P3.out.set 1 (.int .i64 y) rfl).set 2 (.int .i64 z) rfl
        have R4 : Hid (RdAt ((w3.setCell ⟨p, 28, none⟩ (.int .i64 y)).setCell ⟨p, 29, none⟩ (.int .i64 z)) b s j2) := (R3.out.setOther (p := ⟨p, 28, none⟩) hbp _).setOther (p := ⟨p, 29, none⟩) hbp _
        have K4 : Hid (Kp (fun x => x = b ∨ x = p) w ((w3.setCell ⟨p, 28, none⟩ (.int .i64 y)).setCell ⟨p, 29, none⟩ (.int .i64 z))) := (K3.out.setCell (p := ⟨p, 28, none⟩) (Or.inr rfl) _).setCell (p := ⟨p, 29, none⟩) (Or.inr rfl) _
        go_wp2_with fail
        by_cases e : src s j2 = 32
        · have hq3 := HQ2.out
          rw [bnd_some (take_s e)] at hq3
          obtain ⟨rfl, rfl⟩ := Prod.mk.inj hq3
          have E := hide e
          clear e hq3 HQ2
          refine (take_yes R4.out (by omega) E.out).mono ?_
          rintro e w5 ⟨rfl, r5, k5⟩
          go_wp2_with fail
          go_ret
          refine ⟨rfl, r5, ⟨y, z, P4.out.keep k5 (by omega), ?_⟩, K4.out.trans (k5.mono (fun _ hx => Or.inl hx))⟩
          intro a ha
          obtain rfl := Option.some.inj ha
          exact ⟨rfl, rfl⟩
        · have hq3 := HQ2.out
          rw [bnd_none (take_n e)] at hq3
          obtain ⟨rfl, rfl⟩ := Prod.mk.inj hq3
          have E := hide e
          clear e hq3 HQ2
          refine (take_no R4.out (by omega) E.out).mono ?_
          rintro e w5 ⟨rfl, r5, k5⟩
          go_wp2_with fail
          go_ret
          exact ⟨rfl, r5, ⟨y, z, P4.out.keep k5 (by omega), fun a ha => by simp at ha⟩, K4.out.trans (k5.mono (fun _ hx => Or.inl hx))⟩
    · have hq2 := HQ.out
      rw [bnd_none (take_n e)] at hq2
      obtain ⟨rfl, rfl⟩ := Prod.mk.inj hq2
      have E := hide e
      clear e hq2 HQ
      go_wp2_with fail
      refine (take_no R1.out (by omega) E.out).mono ?_
      rintro e w2 ⟨rfl, r2, k2⟩
      go_wp2_with fail
      go_ret
      exact ⟨rfl, r2, ⟨0, 0, P1.out.keep k2 (by omega), fun a ha => by simp at ha⟩, K1.out.trans (k2.mono (fun _ hx => Or.inl hx))⟩

set_option maxRecDepth 100000 in
set_option maxHeartbeats 1000000 in
theorem head_any (b p : Nat) (s : ByteArray) (i : Nat) (v : Value) (w : World) (h : RdAt w b s i) (hp : PtAt w p zrule ⟨0, 0, 0, 0, 0, false, false⟩ 0 0 0 v) (hbp : b ≠ p)
    (j : Nat) (o : Option (Pu.Rule × Pu.Shape × Int)) (hq : Hid (Pu.head (src s) i = (j, o))) :
    Calls Tryd.prog 72 #[.pointer (some ⟨b, 0, none⟩), .pointer (some ⟨p, 0, none⟩)] w fun e w' => e = .returned (.bool o.isSome) ∧ RdAt w' b s j ∧
      (∃ r x age, PtAt w' p r x age 0 0 v ∧ ∀ a, o = some a → r = a.1 ∧ x = a.2.1 ∧ age = a.2.2) ∧ Kp (fun x => x = b ∨ x = p) w w' := by
  have hb := h.lt
  have hpl := hp.lt
  have HP := hide hp
  have hq' := hq.out
  unfold Pu.head at hq'
  clear hp hq
  rcases hn : Pu.rule (src s) i with ⟨j1, _ | r0⟩
  · rw [bnd_none hn] at hq'
    obtain ⟨rfl, rfl⟩ := Prod.mk.inj hq'
    clear hq'
    have HN := hide hn
    clear hn
    go_enter Tryd.func72, Tryd.ntmps72
    go_wp2_with fail
    refine (rule_any b s i _ h j1 none HN).mono ?_
    rintro e w1 ⟨⟨r, rfl, rok, hr⟩, r1, k1⟩
    have s1 := k1.size
    have P1 := hide (HP.out.keep k1 (by omega))
    have K1 := hide (k1.mono (T := fun x => x = b ∨ x = p) (fun _ hx => Or.inl hx))
    have R1 := hide r1
    have ROK := hide rok
    clear k1 r1 rok
    have A2 : Hid ((World.setRow (w1.alloc (.cells (rulev zrule) 48)) w1.heap.size (rulev r)).heap[w1.heap.size]? = some (.cells (rulev r) 48 (0, 0))) := setRow_heap _ _ _ _ _ _ (heap_alloc_new _ _)
    have R2 : Hid (RdAt (World.setRow (w1.alloc (.cells (rulev zrule) 48)) w1.heap.size (rulev r)) b s j1) := (R1.out.alloc _).setRow (by omega) _
    have K2 : Hid (Kp (fun x => x = b ∨ x = p) w (World.setRow (w1.alloc (.cells (rulev zrule) 48)) w1.heap.size (rulev r))) := (K1.out.alloc _).setRowNew (by omega) _
    have P2 : Hid (PtAt (World.setRow (w1.alloc (.cells (rulev zrule) 48)) w1.heap.size (rulev r)) p zrule ⟨0, 0, 0, 0, 0, false, false⟩ 0 0 0 v) := ⟨(setRow_other _ _ _ _ (by omega)).trans (heap_new_keep P1.out.row), zrule_ok⟩
    clear hr
    go_wp2_with (refine wpList_store_row rfl 48 _ _ rfl w1.heap.size (rulev r) rfl rfl 48 (rulev zrule) (heap_alloc_new _ _) (by rw [info_rule, rulev_size ROK.out]) (by rw [rulev_size ROK.out]; rfl) (rulev_one _) ?_)
    go_ret
    exact ⟨rfl, R2.out, ⟨_, _, _, P2.out, fun a ha => by simp at ha⟩, K2.out⟩
  · rw [bnd_some hn] at hq'
    have HQ := hide hq'
    clear hq'
    have HN := hide hn
    clear hn
    go_enter Tryd.func72, Tryd.ntmps72
    go_wp2_with fail
    refine (rule_any b s i _ h j1 (some r0) HN).mono ?_
    rintro e w1 ⟨⟨r, rfl, rok, hr⟩, r1, k1⟩
    have s1 := k1.size
    have P1 := hide (HP.out.keep k1 (by omega))
    have K1 := hide (k1.mono (T := fun x => x = b ∨ x = p) (fun _ hx => Or.inl hx))
    have R1 := hide r1
    have ROK := hide rok
    clear k1 r1 rok
    have A2 : Hid ((World.setRow (w1.alloc (.cells (rulev zrule) 48)) w1.heap.size (rulev r)).heap[w1.heap.size]? = some (.cells (rulev r) 48 (0, 0))) := setRow_heap _ _ _ _ _ _ (heap_alloc_new _ _)
    have R2 : Hid (RdAt (World.setRow (w1.alloc (.cells (rulev zrule) 48)) w1.heap.size (rulev r)) b s j1) := (R1.out.alloc _).setRow (by omega) _
    have K2 : Hid (Kp (fun x => x = b ∨ x = p) w (World.setRow (w1.alloc (.cells (rulev zrule) 48)) w1.heap.size (rulev r))) := (K1.out.alloc _).setRowNew (by omega) _
    have P2 : Hid (PtAt (World.setRow (w1.alloc (.cells (rulev zrule) 48)) w1.heap.size (rulev r)) p zrule ⟨0, 0, 0, 0, 0, false, false⟩ 0 0 0 v) := ⟨(setRow_other _ _ _ _ (by omega)).trans (heap_new_keep P1.out.row), zrule_ok⟩
    obtain rfl := hr r0 rfl
    clear hr
    go_wp2_with (refine wpList_store_row rfl 48 _ _ rfl w1.heap.size (rulev r) rfl rfl 48 (rulev zrule) (heap_alloc_new _ _) (by rw [info_rule, rulev_size ROK.out]) (by rw [rulev_size ROK.out]; rfl) (rulev_one _) ?_)
    by_cases e : src s j1 = 32
    · have hq2 := HQ.out
      rw [bnd_some (take_s e)] at hq2
      have E := hide e
      clear e HQ
      refine (take_yes R2.out (by omega) E.out).mono ?_
      rintro e w25 ⟨rfl, r25, k25⟩
      have A25 := hide (k25.row A2.out (by omega))
      have P25 := hide (P2.out.keep k25 (by omega))
      have K25 := hide (K2.out.trans (k25.mono (T := fun x => x = b ∨ x = p) (fun _ hx => Or.inl hx)))
      have R25 := hide r25
      clear k25 r25
      go_wp2_with fail
      rcases hsh : Pu.shape (src s) (j1 + 1) with ⟨j2, _ | x0⟩
      · rw [bnd_none hsh] at hq2
        obtain ⟨rfl, rfl⟩ := Prod.mk.inj hq2
        have HS := hide hsh
        clear hsh hq2
        refine (shape_any b s (j1 + 1) _ R25.out j2 none HS).mono ?_
        rintro e w3 ⟨⟨y, rfl, hy⟩, r3, k3⟩
        have hb3 := r3.lt
        have P3 := hide (P25.out.keep k3 (by omega))
        have hp3 := P3.out.lt
        have K3 := hide (K25.out.trans (k3.mono (T := fun x => x = b ∨ x = p) (fun _ hx => Or.inl hx)))
        have R3 := hide r3
        have s3 := K3.out.size
        clear hy k3 r3
        go_wp2_with (refine wpList_store_row rfl 50 _ _ rfl w3.heap.size (shv y) rfl rfl 50 (shv ⟨0, 0, 0, 0, 0, false, false⟩) (heap_alloc_new _ _) info_shape rfl (shv_one _) ?_)
        go_ret
        exact ⟨rfl, (R3.out.alloc _).setRow (by omega) _, ⟨_, _, _, ⟨(setRow_other _ _ _ _ (by omega)).trans (heap_new_keep P3.out.row), zrule_ok⟩, fun a ha => by simp at ha⟩, (K3.out.alloc _).setRowNew (by omega) _⟩
      · rw [bnd_some hsh] at hq2
        have HQ2 := hide hq2
        have HS := hide hsh
        clear hsh hq2
        refine (shape_any b s (j1 + 1) _ R25.out j2 (some x0) HS).mono ?_
        rintro e w3 ⟨⟨y, rfl, hy⟩, r3, k3⟩
        obtain rfl := hy x0 rfl
        have hb3 := r3.lt
        have P3 := hide (P25.out.keep k3 (by omega))
        have hp3 := P3.out.lt
        have K3 := hide (K25.out.trans (k3.mono (T := fun x => x = b ∨ x = p) (fun _ hx => Or.inl hx)))
        have R3 := hide r3
        have s3 := K3.out.size
        have A3 := hide (k3.row A25.out (by omega))
        have l3 : w1.heap.size < w3.heap.size := (Array.getElem?_eq_some_iff.1 A3.out).1
        clear hy k3 r3
        have A4 : Hid ((World.setRow (w3.alloc (.cells (shv ⟨0, 0, 0, 0, 0, false, false⟩) 50)) w3.heap.size (shv y)).heap[w1.heap.size]? = some (.cells (rulev r) 48 (0, 0))) := (setRow_other _ _ _ _ (by omega)).trans (heap_new_keep A3.out)
        have B4 : Hid ((World.setRow (w3.alloc (.cells (shv ⟨0, 0, 0, 0, 0, false, false⟩) 50)) w3.heap.size (shv y)).heap[w3.heap.size]? = some (.cells (shv y) 50 (0, 0))) := setRow_heap _ _ _ _ _ _ (heap_alloc_new _ _)
        have R4 : Hid (RdAt (World.setRow (w3.alloc (.cells (shv ⟨0, 0, 0, 0, 0, false, false⟩) 50)) w3.heap.size (shv y)) b s j2) := (R3.out.alloc _).setRow (by omega) _
        have K4 : Hid (Kp (fun x => x = b ∨ x = p) w (World.setRow (w3.alloc (.cells (shv ⟨0, 0, 0, 0, 0, false, false⟩) 50)) w3.heap.size (shv y))) := (K3.out.alloc _).setRowNew (by omega) _
        have P4 : Hid (PtAt (World.setRow (w3.alloc (.cells (shv ⟨0, 0, 0, 0, 0, false, false⟩) 50)) w3.heap.size (shv y)) p zrule ⟨0, 0, 0, 0, 0, false, false⟩ 0 0 0 v) := ⟨(setRow_other _ _ _ _ (by omega)).trans (heap_new_keep P3.out.row), zrule_ok⟩
        go_wp2_with (refine wpList_store_row rfl 50 _ _ rfl w3.heap.size (shv y) rfl rfl 50 (shv ⟨0, 0, 0, 0, 0, false, false⟩) (heap_alloc_new _ _) info_shape rfl (shv_one _) ?_)
        by_cases e : src s j2 = 32
        · have hq3 := HQ2.out
          rw [bnd_some (take_s e)] at hq3
          have E := hide e
          clear e HQ2
          refine (take_yes R4.out (by omega) E.out).mono ?_
          rintro e w5 ⟨rfl, r5, k5⟩
          have A5 := hide (k5.row A4.out (by omega))
          have B5 := hide (k5.row B4.out (by omega))
          have P5 := hide (P4.out.keep k5 (by omega))
          have K5 := hide (K4.out.trans (k5.mono (T := fun x => x = b ∨ x = p) (fun _ hx => Or.inl hx)))
          have R5 := hide r5
          clear k5 r5
          go_wp2_with fail
          rcases hag : Pu.number 0 999999 (src s) (j2 + 1) with ⟨j3, _ | g0⟩
          · rw [bnd_none hag] at hq3
            obtain ⟨rfl, rfl⟩ := Prod.mk.inj hq3
            have HG := hide hag
            clear hag hq3
            refine (number_any b s (j2 + 1) 0 999999 _ R5.out (by omega) (by omega) (by omega) (by omega) j3 none HG).mono ?_
            rintro e w6 ⟨⟨z, rfl, hz⟩, r6, k6⟩
            clear hz
            go_wp2_with fail
            go_ret
            exact ⟨rfl, r6, ⟨_, _, _, P5.out.keep k6 (by omega), fun a ha => by simp at ha⟩, K5.out.trans (k6.mono (fun _ hx => Or.inl hx))⟩
          · rw [bnd_some hag] at hq3
            have HQ3 := hide hq3
            have HG := hide hag
            clear hag hq3
            refine (number_any b s (j2 + 1) 0 999999 _ R5.out (by omega) (by omega) (by omega) (by omega) j3 (some g0) HG).mono ?_
            rintro e w6 ⟨⟨z, rfl, hz⟩, r6, k6⟩
            obtain rfl := hz g0 rfl
            have A6 := hide (k6.row A5.out (by omega))
            have B6 := hide (k6.row B5.out (by omega))
            have P6 := hide (P5.out.keep k6 (by omega))
            have K6 := hide (K5.out.trans (k6.mono (T := fun x => x = b ∨ x = p) (fun _ hx => Or.inl hx)))
            have R6 := hide r6
            clear k6 r6 hz
            go_wp2_with (first
              | (refine wpList_load_row rfl 48 _ rfl w1.heap.size rfl 48 (rulev r) (0, 0) _ A6.out Tryd.underlying48 rfl (by rw [info_rule, rulev_size ROK.out]) ?_)
              | (refine wpList_load_row rfl 50 _ rfl w3.heap.size rfl 50 (shv y) (0, 0) _ B7.out Tryd.underlying50 rfl info_shape ?_)
              | (refine wpList_store_at_g rfl 48 _ _ rfl p 0 (rulev r) rfl rfl 91 _ P6.out.row (by rw [info_rule, rulev_size ROK.out]) (by rw [ptv_size P6.out.ok, rulev_size ROK.out]; omega) (rulev_one _) ?_
                 intro w7 hw7
                 have P7 : Hid (PtAt w7 p r ⟨0, 0, 0, 0, 0, false, false⟩ 0 0 0 v) := by rw [hw7]; exact P6.out.putRule ROK.out
                 have B7 : Hid (w7.heap[w3.heap.size]? = some (.cells (shv y) 50 (0, 0))) := by rw [hw7]; exact (putCells_other _ _ _ _ _ (by omega)).trans B6.out
                 have R7 : Hid (RdAt w7 b s j3) := by rw [hw7]; exact R6.out.put hbp _ _
                 have K7 : Hid (Kp (fun x => x = b ∨ x = p) w w7) := by rw [hw7]; exact putCells_kp _ _ _ K6.out (Or.inr rfl)
                 clear hw7)
              | (refine wpList_store_at_g rfl 50 _ _ rfl p 20 (shv y) rfl rfl 91 _ P7.out.row info_shape (by rw [ptv_size P7.out.ok, shv_size]; omega) (shv_one _) ?_
                 intro w8 hw8
                 have P8 : Hid (PtAt w8 p r y 0 0 0 v) := by rw [hw8]; exact P7.out.putShape
                 have R8 : Hid (RdAt w8 b s j3) := by rw [hw8]; exact R7.out.put hbp _ _
                 have K8 : Hid (Kp (fun x => x = b ∨ x = p) w w8) := by rw [hw8]; exact putCells_kp _ _ _ K7.out (Or.inr rfl)
                 have g8 : w8.cell? ⟨p, 27, none⟩ = some (.int .i64 0) := P8.out.cell 0
                 have f8 := P8.out.fro 27
                 clear hw8))
            have P9 : Hid (PtAt (w8.setCell ⟨p, 27, none⟩ (.int .i64 z)) p r y z 0 0 v) := P8.out.set 0 (.int .i64 z) rfl
            have R9 : Hid (RdAt (w8.setCell ⟨p, 27, none⟩ (.int .i64 z)) b s j3) := R8.out.setOther (p := ⟨p, 27, none⟩) hbp _
            have K9 : Hid (Kp (fun x => x = b ∨ x = p) w (w8.setCell ⟨p, 27, none⟩ (.int .i64 z))) := K8.out.setCell (p := ⟨p, 27, none⟩) (Or.inr rfl) _
            by_cases e : src s j3 = 32
            · have hq4 := HQ3.out
              rw [bnd_some (take_s e)] at hq4
              obtain ⟨rfl, rfl⟩ := Prod.mk.inj hq4
              have E := hide e
              clear e hq4 HQ3
              refine (take_yes R9.out (by omega) E.out).mono ?_
              rintro e w10 ⟨rfl, r10, k10⟩
              go_wp2_with fail
              go_ret
              refine ⟨rfl, r10, ⟨_, _, _, P9.out.keep k10 (by omega), ?_⟩, K9.out.trans (k10.mono (fun _ hx => Or.inl hx))⟩
              intro a ha
              obtain rfl := Option.some.inj ha
              exact ⟨rfl, rfl, rfl⟩
            · have hq4 := HQ3.out
              rw [bnd_none (take_n e)] at hq4
              obtain ⟨rfl, rfl⟩ := Prod.mk.inj hq4
              have E := hide e
              clear e hq4 HQ3
              refine (take_no R9.out (by omega) E.out).mono ?_
              rintro e w10 ⟨rfl, r10, k10⟩
              go_wp2_with fail
              go_ret
              exact ⟨rfl, r10, ⟨_, _, _, P9.out.keep k10 (by omega), fun a ha => by simp at ha⟩, K9.out.trans (k10.mono (fun _ hx => Or.inl hx))⟩
        · have hq3 := HQ2.out
          rw [bnd_none (take_n e)] at hq3
          obtain ⟨rfl, rfl⟩ := Prod.mk.inj hq3
          have E := hide e
          clear e hq3 HQ2
          refine (take_no R4.out (by omega) E.out).mono ?_
          rintro e w5 ⟨rfl, r5, k5⟩
          go_wp2_with fail
          go_ret
          exact ⟨rfl, r5, ⟨_, _, _, P4.out.keep k5 (by omega), fun a ha => by simp at ha⟩, K4.out.trans (k5.mono (fun _ hx => Or.inl hx))⟩
    · have hq2 := HQ.out
      rw [bnd_none (take_n e)] at hq2
      obtain ⟨rfl, rfl⟩ := Prod.mk.inj hq2
      have E := hide e
      clear e hq2 HQ
      refine (take_no R2.out (by omega) E.out).mono ?_
      rintro e w3 ⟨rfl, r3, k3⟩
      go_wp2_with fail
      go_ret
      exact ⟨rfl, r3, ⟨_, _, _, P2.out.keep k3 (by omega), fun a ha => by simp at ha⟩, K2.out.trans (k3.mono (fun _ hx => Or.inl hx))⟩
end Go.Proofs.YtbdbkjngdhcjpaaDoor
