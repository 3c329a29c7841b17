import Derived.Test.YtbdbkjngdhcjpaaDoorWf
namespace Go.Proofs.YtbdbkjngdhcjpaaDoor
open Go.RowKit
open Go.Proofs

theorem Kp.tr {S T : Nat → Prop} {a b c : World} (h : Kp S a b) (k : Kp T b c) (hT : ∀ x, x < a.heap.size → T x → S x) : Kp S a c :=
  ⟨k.os.trans h.os, k.tape.trans h.tape, k.output.trans h.output, Nat.le_trans h.size k.size, fun i hi hn => (k.block i (Nat.lt_of_lt_of_le hi h.size) (fun ht => hn (hT i hi ht))).trans (h.block i hi hn)⟩

set_option maxHeartbeats 1000000 in
theorem height_any (b p : Nat) (s : ByteArray) (i : Nat) (k xw ws : Int) (wst : Bool) (w : World) (h : RdAt w b s i) (hp : ShAt w p ⟨k, xw, 0, ws, 0, wst, false⟩) (hbp : b ≠ p) (h0 : 0 ≤ k) (h1 : k ≤ 255) (w0 : 0 ≤ xw) (w1 : xw ≤ 12)
    (j : Nat) (o : Option (Int × Int × Bool)) (hq : Hid (Pu.height k xw ws wst (src s) i = (j, o))) :
    Calls Tryd.prog 110 #[.pointer (some ⟨b, 0, none⟩), .pointer (some ⟨p, 0, none⟩)] w fun e w' => e = .returned (.bool o.isSome) ∧ RdAt w' b s j ∧
      (∃ x, ShAt w' p x ∧ ∀ a, o = some a → x = ⟨k, xw, a.1, ws, a.2.1, wst, a.2.2⟩ ∧ 0 ≤ a.1 ∧ a.1 ≤ 12) ∧ Kp (fun x => x = b ∨ x = p) w w' := by
  have hlo : 0 ≤ Pu.rowLow k xw ws ∧ Pu.rowLow k xw ws ≤ 12 := by
    have := leastSide_bd k
    unfold Pu.rowLow; split
    · omega
    · split <;> omega
  have hhi : 0 ≤ Pu.rowHigh k xw ∧ Pu.rowHigh k xw ≤ 12 := by unfold Pu.rowHigh; split <;> omega
  have HP := hide hp
  have H := hide h
  have h' := hide hq.out
  clear hp hq h
  have HRB := hide (fun wx => rowBounds_any ⟨k, xw, 0, ws, 0, wst, false⟩ wx h0 h1)
  rcases hn : Pu.number (Pu.rowLow k xw ws) (Pu.rowHigh k xw) (src s) i with ⟨j1, _ | rows⟩
  · have hq' : j = j1 ∧ o = none := by
      have := h'.out
      unfold Pu.height at this
      rw [bnd_none hn] at this
      exact ⟨(Prod.mk.inj this).1.symm, (Prod.mk.inj this).2.symm⟩
    obtain ⟨rfl, rfl⟩ := hq'
    have HN := hide hn
    clear hn h'
    go_enter Tryd.func110, Tryd.ntmps110
    go_wp2_with (refine wpList_load_row rfl 50 _ rfl p rfl 50 (shv ⟨k, xw, 0, ws, 0, wst, false⟩) (0, 0) _ HP.out Tryd.underlying50 rfl info_shape ?_)
    refine (HRB.out _).mono ?_
    rintro e w1 ⟨rfl, k1⟩
    go_wp2_with fail
    refine (number_any b s i (Pu.rowLow k xw ws) (Pu.rowHigh k xw) _ (H.out.keep k1 (fun hx => hx)) (by omega) (by omega) (by omega) (by omega) j none HN).mono ?_
    rintro e w2 ⟨⟨x, rfl, hx⟩, r2, k2⟩
    clear hx
    go_wp2_with fail
    go_ret
    exact ⟨rfl, r2, ⟨_, (HP.out.keep k1 (fun hx => hx)).keep k2 (by omega), fun a ha => by simp at ha⟩, (k1.mono (fun _ hx => hx.elim)).trans (k2.mono (fun _ hx => Or.inl hx))⟩
  · have hcb := number_bd hn
    have hq' := h'.out
    unfold Pu.height at hq'
    rw [bnd_some hn] at hq'
    have HQ := hide hq'
    have HN := hide hn
    clear hn h' hq'
    go_enter Tryd.func110, Tryd.ntmps110
    go_wp2_with (refine wpList_load_row rfl 50 _ rfl p rfl 50 (shv ⟨k, xw, 0, ws, 0, wst, false⟩) (0, 0) _ HP.out Tryd.underlying50 rfl info_shape ?_)
    refine (HRB.out _).mono ?_
    rintro e w1 ⟨rfl, k1⟩
    go_wp2_with fail
    refine (number_any b s i (Pu.rowLow k xw ws) (Pu.rowHigh k xw) _ (H.out.keep k1 (fun hx => hx)) (by omega) (by omega) (by omega) (by omega) j1 (some rows) HN).mono ?_
    rintro e w2 ⟨⟨x, rfl, hx⟩, r2, k2⟩
    obtain rfl := hx rows rfl
    clear hx
    have P2 : Hid (ShAt w2 p ⟨k, xw, 0, ws, 0, wst, false⟩) := (HP.out.keep k1 (fun hx => hx)).keep k2 (by omega)
    have d0 : w2.cell? ⟨p, 0, none⟩ = some (.int .u8 k) := P2.out.cell 0
    have d1 : w2.cell? ⟨p, 1, none⟩ = some (.int .i64 xw) := P2.out.cell 1
    have d2 : w2.cell? ⟨p, 2, none⟩ = some (.int .i64 0) := P2.out.cell 2
    have d3 : w2.cell? ⟨p, 3, none⟩ = some (.int .i64 ws) := P2.out.cell 3
    have d5 : w2.cell? ⟨p, 5, none⟩ = some (.bool wst) := P2.out.cell 5
    have f2 := P2.out.fro 2
    have P3 : Hid (ShAt (w2.setCell ⟨p, 2, none⟩ (.int .i64 x)) p ⟨k, xw, x, ws, 0, wst, false⟩) := P2.out.set 2 _ rfl
    have R3 : Hid (RdAt (w2.setCell ⟨p, 2, none⟩ (.int .i64 x)) b s j1) := r2.setOther hbp _
    have K3 : Hid (Kp (fun x => x = b ∨ x = p) w (w2.setCell ⟨p, 2, none⟩ (.int .i64 x))) := ((k1.mono (T := fun x => x = b ∨ x = p) (fun _ hx => hx.elim)).trans (k2.mono (T := fun x => x = b ∨ x = p) (fun _ hx => Or.inl hx))).setCell (p := ⟨p, 2, none⟩) (Or.inr rfl) _
    by_cases q1 : k = 75 ∧ wst = false
    · obtain ⟨rfl, rfl⟩ := q1
      by_cases e : src s j1 = 42
      · have hq2 := HQ.out
        rw [if_pos ⟨rfl, rfl⟩, bnd_some (show Pu.take 42 (src s) j1 = (j1 + 1, some ()) by unfold Pu.take; rw [if_pos e])] at hq2
        obtain ⟨rfl, rfl⟩ := Prod.mk.inj hq2
        have E := hide e
        clear hq2 e HQ
        go_wp2_with fail
        refine (take_yes R3.out (by omega) E.out).mono ?_
        rintro e w4 ⟨rfl, r4, k4⟩
        have P4 : Hid (ShAt w4 p ⟨75, xw, x, ws, 0, false, false⟩) := P3.out.keep k4 (by omega)
        have g5 : w4.cell? ⟨p, 6, none⟩ = some (.bool false) := P4.out.cell 6
        have f5 := P4.out.fro 6
        go_wp2_with fail
        go_ret
        refine ⟨rfl, r4.setOther hbp _, ⟨_, P4.out.set 6 (.bool true) (y := ⟨75, xw, x, ws, 0, false, true⟩) rfl, ?_⟩, (K3.out.trans (k4.mono (fun _ hx => Or.inl hx))).setCell (p := ⟨p, 6, none⟩) (Or.inr rfl) _⟩
        intro a ha
        obtain rfl := Option.some.inj ha
        exact ⟨rfl, by omega, by omega⟩
      · have hq2 := HQ.out
        rw [if_pos ⟨rfl, rfl⟩, bnd_none (show Pu.take 42 (src s) j1 = (j1, none) by unfold Pu.take; rw [if_neg e])] at hq2
        obtain ⟨rfl, rfl⟩ := Prod.mk.inj hq2
        have E := hide e
        clear hq2 e HQ
        go_wp2_with fail
        refine (take_no R3.out (by omega) E.out).mono ?_
        rintro e w4 ⟨rfl, r4, k4⟩
        have P4 : Hid (ShAt w4 p ⟨75, xw, x, ws, 0, false, false⟩) := P3.out.keep k4 (by omega)
        have g5 : w4.cell? ⟨p, 6, none⟩ = some (.bool false) := P4.out.cell 6
        have f5 := P4.out.fro 6
        go_wp2_with fail
        go_ret
        exact ⟨rfl, r4.setOther hbp _, ⟨_, P4.out.set 6 (.bool false) (y := ⟨75, xw, x, ws, 0, false, false⟩) rfl, fun a ha => by simp at ha⟩, (K3.out.trans (k4.mono (fun _ hx => Or.inl hx))).setCell (p := ⟨p, 6, none⟩) (Or.inr rfl) _⟩
    · by_cases q2 : k ≠ 84 ∨ xw = 0 ∨ ws ≠ 0
      · have hq2 := HQ.out
        rw [if_neg q1, if_pos q2] at hq2
        obtain ⟨rfl, rfl⟩ := Prod.mk.inj hq2
        have hfin : ∀ e : Ending, e = .returned (.bool true) → e = .returned (.bool true) ∧ RdAt (w2.setCell ⟨p, 2, none⟩ (.int .i64 x)) b s j1 ∧ (∃ x', ShAt (w2.setCell ⟨p, 2, none⟩ (.int .i64 x)) p x' ∧ ∀ a, some (x, (0 : Int), false) = some a → x' = ⟨k, xw, a.1, ws, a.2.1, wst, a.2.2⟩ ∧ 0 ≤ a.1 ∧ a.1 ≤ 12) ∧ Kp (fun x => x = b ∨ x = p) w (w2.setCell ⟨p, 2, none⟩ (.int .i64 x)) := by
          intro e he
          refine ⟨he, R3.out, ⟨_, P3.out, ?_⟩, K3.out⟩
          intro a ha
          obtain rfl := Option.some.inj ha
          exact ⟨rfl, by omega, by omega⟩
        have HF := hide hfin
        clear hq2 HQ hfin
        by_cases z1 : k = 75
        · subst z1
          have z2 : wst = true := by
            cases wst with
            | true => rfl
            | false => exact absurd ⟨rfl, rfl⟩ q1
          subst z2
          clear q1 q2
          go_wp2_with fail
          go_ret
          exact HF.out _ rfl
        · have b1 : (k == 75) = false := by simpa using z1
          by_cases z2 : k = 84
          · subst z2
            clear q1 z1
            by_cases z3 : xw = 0
            · subst z3
              clear q2
              go_wp2_with fail
              go_ret
              exact HF.out _ rfl
            · have b2 : (xw == 0) = false := by simpa using z3
              have b3 : (ws != 0) = true := by
                have : ws ≠ 0 := by omega
                simpa using this
              clear q2 z3
              go_wp2_with fail
              go_ret
              exact HF.out _ rfl
          · have b2 : (k != 84) = true := by simpa using z2
            clear q1 q2 z1 z2
            go_wp2_with fail
            go_ret
            exact HF.out _ rfl
      · have z1 : k = 84 := by omega
        have z2 : ¬ xw = 0 := by omega
        have z3 : ws = 0 := by omega
        subst z1
        subst z3
        have b2 : (xw == 0) = false := by simpa using z2
        rcases hsft : Pu.shift x (src s) j1 with ⟨j2, _ | sft⟩
        · have hq2 := HQ.out
          rw [if_neg q1, if_neg q2, bnd_none hsft] at hq2
          obtain ⟨rfl, rfl⟩ := Prod.mk.inj hq2
          have E := hide hsft
          clear hq2 hsft HQ q1 q2 z2
          go_wp2_with fail
          refine (shift_any b s j1 x _ R3.out (by omega) (by omega) j2 none E).mono ?_
          rintro e w4 ⟨⟨y, rfl, hy⟩, r4, k4⟩
          clear hy
          have P4 : Hid (ShAt w4 p ⟨84, xw, x, 0, 0, wst, false⟩) := P3.out.keep k4 (by omega)
          have g5 : w4.cell? ⟨p, 4, none⟩ = some (.int .i64 0) := P4.out.cell 4
          have f5 := P4.out.fro 4
          go_wp2_with fail
          go_ret
          exact ⟨rfl, r4.setOther hbp _, ⟨_, P4.out.set 4 (.int .i64 y) (y := ⟨84, xw, x, 0, y, wst, false⟩) rfl, fun a ha => by simp at ha⟩, (K3.out.trans (k4.mono (fun _ hx => Or.inl hx))).setCell (p := ⟨p, 4, none⟩) (Or.inr rfl) _⟩
        · have hq2 := HQ.out
          rw [if_neg q1, if_neg q2, bnd_some hsft] at hq2
          obtain ⟨rfl, rfl⟩ := Prod.mk.inj hq2
          have E := hide hsft
          clear hq2 hsft HQ q1 q2 z2
          go_wp2_with fail
          refine (shift_any b s j1 x _ R3.out (by omega) (by omega) j2 (some sft) E).mono ?_
          rintro e w4 ⟨⟨y, rfl, hy⟩, r4, k4⟩
          obtain rfl := hy sft rfl
          clear hy
          have P4 : Hid (ShAt w4 p ⟨84, xw, x, 0, 0, wst, false⟩) := P3.out.keep k4 (by omega)
          have g5 : w4.cell? ⟨p, 4, none⟩ = some (.int .i64 0) := P4.out.cell 4
          have f5 := P4.out.fro 4
          go_wp2_with fail
          go_ret
          refine ⟨rfl, r4.setOther hbp _, ⟨_, P4.out.set 4 (.int .i64 y) (y := ⟨84, xw, x, 0, y, wst, false⟩) rfl, ?_⟩, (K3.out.trans (k4.mono (fun _ hx => Or.inl hx))).setCell (p := ⟨p, 4, none⟩) (Or.inr rfl) _⟩
          intro a ha
          obtain rfl := Option.some.inj ha
          exact ⟨rfl, by omega, by omega⟩
end Go.Proofs.YtbdbkjngdhcjpaaDoor
