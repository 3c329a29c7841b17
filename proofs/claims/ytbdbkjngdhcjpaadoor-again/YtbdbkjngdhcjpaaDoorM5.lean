import Derived.Test.YtbdbkjngdhcjpaaDoorM4
import Derived.Deep.LoopGhost
import Derived.Test.YtbdbkjngdhcjpaaDoorM3
namespace Go.Proofs.YtbdbkjngdhcjpaaDoor
open Go.RowKit
open Go.Proofs

theorem slotP_bd (gw gh l t x y : Int) (w0 : 0 ≤ gw) (w1 : gw ≤ 12) (h0 : 0 ≤ gh) (h1 : gh ≤ 12) : -1 ≤ slotP gw gh l t x y ∧ slotP gw gh l t x y < 768 := by
  have sw := spanP_bd w0 w1
  have sh := spanP_bd h0 h1
  have m1 := Int.emod_nonneg y (show spanP gh ≠ 0 by omega)
  have m3 := Int.emod_nonneg x (show spanP gw ≠ 0 by omega)
  have p1 : 0 ≤ y % spanP gh * spanP gw := Int.mul_nonneg m1 (by omega)
  unfold slotP
  split
  · omega
  · split <;> omega

/-- What a grid tells of a cell. -/
def getP (gw gh l t : Int) (S : List Int) (x y : Int) : Int := if slotP gw gh l t x y < 0 then 0 else S.getD (slotP gw gh l t x y).toNat 0

set_option maxHeartbeats 400000 in
theorem gget_any (q : Nat) (pre : Array Value) (gw gh l t : Int) (S : List Int) (x y : Int) (w : World) (h : GrAt w q pre gw gh l t S) (w0 : 0 ≤ gw) (w1 : gw ≤ 12) (h0 : 0 ≤ gh) (h1 : gh ≤ 12)
    (l0 : -50000000 ≤ l) (l1 : l ≤ 50000000) (t0 : -50000000 ≤ t) (t1 : t ≤ 50000000) :
    Calls Tryd.prog 30 #[.pointer (some ⟨q, 28, none⟩), .int .i64 x, .int .i64 y] w fun e w' => e = .returned (.int .i64 (getP gw gh l t S x y)) ∧ w' = w := by
  have hb := slotP_bd gw gh l t x y w0 w1 h0 h1
  have HS := hide (fun wx hx => slot_any q pre gw gh l t S x y wx hx w0 w1 h0 h1 l0 l1 t0 t1)
  unfold getP
  generalize slotP gw gh l t x y = z at *
  by_cases hz : z < 0
  · rw [if_pos hz]
    go_enter Tryd.func30, Tryd.ntmps30
    go_wp2_with fail
    refine (HS.out _ h).mono ?_
    rintro e w1 ⟨rfl, hw⟩
    subst w1
    go_wp2_with fail
    go_ret
    exact ⟨rfl, rfl⟩
  · rw [if_neg hz]
    obtain ⟨k, rfl⟩ := Int.eq_ofNat_of_zero_le (show 0 ≤ z by omega)
    have hk : k < 768 := by omega
    have hc := h.cell k hk
    have hl := h.len
    have HL := hide hl
    clear hl
    go_enter Tryd.func30, Tryd.ntmps30
    go_wp2_with fail
    refine (HS.out _ h).mono ?_
    rintro e w1 ⟨rfl, hw⟩
    subst w1
    go_wp2_with fail
    go_ret
    refine ⟨ret_int ?_, rfl⟩
    simp [List.getD, HL.out, hk]
end Go.Proofs.YtbdbkjngdhcjpaaDoor
namespace Go.Proofs.YtbdbkjngdhcjpaaDoor
open Go.RowKit
open Go.Proofs

theorem Kp.tr {S T : Nat → Prop} {a b c : World} (h : Kp S a b) (k : Kp T b c) (hT : ∀ x, x < a.heap.size → T x → S x) : Kp S a c :=
  ⟨k.os.trans h.os, k.tape.trans h.tape, k.output.trans h.output, Nat.le_trans h.size k.size, fun i hi hn => (k.block i (Nat.lt_of_lt_of_le hi h.size) (fun ht => hn (hT i hi ht))).trans (h.block i hi hn)⟩

set_option maxHeartbeats 1000000 in
theorem height_any (b p : Nat) (s : ByteArray) (i : Nat) (k xw ws : Int) (wst : Bool) (w : World) (h : RdAt w b s i) (hp : ShAt w p ⟨k, xw, 0, ws, 0, wst, false⟩) (hbp : b ≠ p) (h0 : 0 ≤ k) (h1 : k ≤ 255) (w0 : 0 ≤ xw) (w1 : xw ≤ 12)
    (j : Nat) (o : Option (Int × Int × Bool)) (hq : Hid (Pu.height k xw ws wst (src s) i = (j, o))) :
    Calls Tryd.prog 110 #[.pointer (some ⟨b, 0, none⟩), .pointer (some ⟨p, 0, none⟩)] w fun e w' => e = .returned (.bool o.isSome) ∧ RdAt w' b s j ∧
      (∃ x, ShAt w' p x ∧ ∀ a, o = some a → x = ⟨k, xw, a.1, ws, a.2.1, wst, a.2.2⟩ ∧ 0 ≤ a.1 ∧ a.1 ≤ 12) ∧ Kp (fun x => x = b ∨ x = p) w w' := by
  have hlo : 0 ≤ Pu.rowLow k xw ws ∧ Pu.rowLow k xw ws ≤ 12 := by
    have := leastSide_bd k
    unfold Pu.rowLow; split
    · omega
    · split <;> omega
  have hhi : 0 ≤ Pu.rowHigh k xw ∧ Pu.rowHigh k xw ≤ 12 := by unfold Pu.rowHigh; split <;> omega
  have HP := hide hp
  have H := hide h
  have h' := hide hq.out
  clear hp hq h
  have HRB := hide (fun wx => rowBounds_any ⟨k, xw, 0, ws, 0, wst, false⟩ wx h0 h1)
  rcases hn : Pu.number (Pu.rowLow k xw ws) (Pu.rowHigh k xw) (src s) i with ⟨j1, _ | rows⟩
  · have hq' : j = j1 ∧ o = none := by
      have := h'.out
      unfold Pu.height at this
      rw [bnd_none hn] at this
      exact ⟨(Prod.mk.inj this).1.symm, (Prod.mk.inj this).2.symm⟩
    obtain ⟨rfl, rfl⟩ := hq'
    have HN := hide hn
    clear hn h'
    go_enter Tryd.func110, Tryd.ntmps110
    go_wp2_with (refine wpList_load_row rfl 50 _ rfl p rfl 50 (shv ⟨k, xw, 0, ws, 0, wst, false⟩) (0, 0) _ HP.out Tryd.underlying50 rfl info_shape ?_)
    refine (HRB.out _).mono ?_
    rintro e w1 ⟨rfl, k1⟩
    go_wp2_with fail
    refine (number_any b s i (Pu.rowLow k xw ws) (Pu.rowHigh k xw) _ (H.out.keep k1 (fun hx => hx)) (by omega) (by omega) (by omega) (by omega) j none HN).mono ?_
    rintro e w2 ⟨⟨x, rfl, hx⟩, r2, k2⟩
    clear hx
    go_wp2_with fail
    go_ret
    exact ⟨rfl, r2, ⟨_, (HP.out.keep k1 (fun hx => hx)).keep k2 (by omega), fun a ha => by simp at ha⟩, (k1.mono (fun _ hx => hx.elim)).trans (k2.mono (fun _ hx => Or.inl hx))⟩
  · have hcb := number_bd hn
    have hq' := h'.out
    unfold Pu.height at hq'
    rw [bnd_some hn] at hq'
    have HQ := hide hq'
    have HN := hide hn
    clear hn h' hq'
    go_enter Tryd.func110, Tryd.ntmps110
    go_wp2_with (refine wpList_load_row rfl 50 _ rfl p rfl 50 (shv ⟨k, xw, 0, ws, 0, wst, false⟩) (0, 0) _ HP.out Tryd.underlying50 rfl info_shape ?_)
    refine (HRB.out _).mono ?_
    rintro e w1 ⟨rfl, k1⟩
    go_wp2_with fail
    refine (number_any b s i (Pu.rowLow k xw ws) (Pu.rowHigh k xw) _ (H.out.keep k1 (fun hx => hx)) (by omega) (by omega) (by omega) (by omega) j1 (some rows) HN).mono ?_
    rintro e w2 ⟨⟨x, rfl, hx⟩, r2, k2⟩
    obtain rfl := hx rows rfl
    clear hx
    have P2 : Hid (ShAt w2 p ⟨k, xw, 0, ws, 0, wst, false⟩) := (HP.out.keep k1 (fun hx => hx)).keep k2 (by omega)
    have d0 : w2.cell? ⟨p, 0, none⟩ = some (.int .u8 k) := P2.out.cell 0
    have d1 : w2.cell? ⟨p, 1, none⟩ = some (.int .i64 xw) := P2.out.cell 1
    have d2 : w2.cell? ⟨p, 2, none⟩ = some (.int .i64 0) := P2.out.cell 2
    have d3 : w2.cell? ⟨p, 3, none⟩ = some (.int .i64 ws) := P2.out.cell 3
    have d5 : w2.cell? ⟨p, 5, none⟩ = some (.bool wst) := P2.out.cell 5
    have f2 := P2.out.fro 2
    have P3 : Hid (ShAt (w2.setCell ⟨p, 2, none⟩ (.int .i64 x)) p ⟨k, xw, x, ws, 0, wst, false⟩) := P2.out.set 2 _ rfl
    have R3 : Hid (RdAt (w2.setCell ⟨p, 2, none⟩ (.int .i64 x)) b s j1) := r2.setOther hbp _
    have K3 : Hid (Kp (fun x => x = b ∨ x = p) w (w2.setCell ⟨p, 2, none⟩ (.int .i64 x))) := ((k1.mono (T := fun x => x = b ∨ x = p) (fun _ hx => hx.elim)).trans (k2.mono (T := fun x => x = b ∨ x = p) (fun _ hx => Or.inl hx))).setCell (p := ⟨p, 2, none⟩) (Or.inr rfl) _
    by_cases q1 : k = 75 ∧ wst = false
    · obtain ⟨rfl, rfl⟩ := q1
      by_cases e : src s j1 = 42
      · have hq2 := HQ.out
        rw [if_pos ⟨rfl, rfl⟩, bnd_some (show Pu.take 42 (src s) j1 = (j1 + 1, some ()) by unfold Pu.take; rw [if_pos e])] at hq2
        obtain ⟨rfl, rfl⟩ := Prod.mk.inj hq2
        have E := hide e
        clear hq2 e HQ
        go_wp2_with fail
        refine (take_yes R3.out (by omega) E.out).mono ?_
        rintro e w4 ⟨rfl, r4, k4⟩
        have P4 : Hid (ShAt w4 p ⟨75, xw, x, ws, 0, false, false⟩) := P3.out.keep k4 (by omega)
        have g5 : w4.cell? ⟨p, 6, none⟩ = some (.bool false) := P4.out.cell 6
        have f5 := P4.out.fro 6
        go_wp2_with fail
        go_ret
        refine ⟨rfl, r4.setOther hbp _, ⟨_, P4.out.set 6 (.bool true) (y := ⟨75, xw, x, ws, 0, false, true⟩) rfl, ?_⟩, (K3.out.trans (k4.mono (fun _ hx => Or.inl hx))).setCell (p := ⟨p, 6, none⟩) (Or.inr rfl) _⟩
        intro a ha
        obtain rfl := Option.some.inj ha
        exact ⟨rfl, by omega, by omega⟩
      · have hq2 := HQ.out
        rw [if_pos ⟨rfl, rfl⟩, bnd_none (show Pu.take 42 (src s) j1 = (j1, none) by unfold Pu.take; rw [if_neg e])] at hq2
        obtain ⟨rfl, rfl⟩ := Prod.mk.inj hq2
        have E := hide e
        clear hq2 e HQ
        go_wp2_with fail
        refine (take_no R3.out (by omega) E.out).mono ?_
        rintro e w4 ⟨rfl, r4, k4⟩
        have P4 : Hid (ShAt w4 p ⟨75, xw, x, ws, 0, false, false⟩) := P3.out.keep k4 (by omega)
        have g5 : w4.cell? ⟨p, 6, none⟩ = some (.bool false) := P4.out.cell 6
        have f5 := P4.out.fro 6
        go_wp2_with fail
        go_ret
        exact ⟨rfl, r4.setOther hbp _, ⟨_, P4.out.set 6 (.bool false) (y := ⟨75, xw, x, ws, 0, false, false⟩) rfl, fun a ha => by simp at ha⟩, (K3.out.trans (k4.mono (fun _ hx => Or.inl hx))).setCell (p := ⟨p, 6, none⟩) (Or.inr rfl) _⟩
    · by_cases q2 : k ≠ 84 ∨ xw = 0 ∨ ws ≠ 0
      · have hq2 := HQ.out
        rw [if_neg q1, if_pos q2] at hq2
        obtain ⟨rfl, rfl⟩ := Prod.mk.inj hq2
        have hfin : ∀ e : Ending, e = .returned (.bool true) → e = .returned (.bool true) ∧ RdAt (w2.setCell ⟨p, 2, none⟩ (.int .i64 x)) b s j1 ∧ (∃ x', ShAt (w2.setCell ⟨p, 2, none⟩ (.int .i64 x)) p x' ∧ ∀ a, some (x, (0 : Int), false) = some a → x' = ⟨k, xw, a.1, ws, a.2.1, wst, a.2.2⟩ ∧ 0 ≤ a.1 ∧ a.1 ≤ 12) ∧ Kp (fun x => x = b ∨ x = p) w (w2.setCell ⟨p, 2, none⟩ (.int .i64 x)) := by
          intro e he
          refine ⟨he, R3.out, ⟨_, P3.out, ?_⟩, K3.out⟩
          intro a ha
          obtain rfl := Option.some.inj ha
          exact ⟨rfl, by omega, by omega⟩
        have HF := hide hfin
        clear hq2 HQ hfin
        by_cases z1 : k = 75
        · subst z1
          have z2 : wst = true := by
            cases wst with
            | true => rfl
            | false => exact absurd ⟨rfl, rfl⟩ q1
          subst z2
          clear q1 q2
          go_wp2_with fail
          go_ret
          exact HF.out _ rfl
        · have b1 : (k == 75) = false := by simpa using z1
          by_cases z2 : k = 84
          · subst z2
            clear q1 z1
            by_cases z3 : xw = 0
            · subst z3
              clear q2
              go_wp2_with fail
              go_ret
              exact HF.out _ rfl
            · have b2 : (xw == 0) = false := by simpa using z3
              have b3 : (ws != 0) = true := by
                have : ws ≠ 0 := by omega
                simpa using this
              clear q2 z3
              go_wp2_with fail
              go_ret
              exact HF.out _ rfl
          · have b2 : (k != 84) = true := by simpa using z2
            clear q1 q2 z1 z2
            go_wp2_with fail
            go_ret
            exact HF.out _ rfl
      · have z1 : k = 84 := by omega
        have z2 : ¬ xw = 0 := by omega
        have z3 : ws = 0 := by omega
        subst z1
        subst z3
        have b2 : (xw == 0) = false := by simpa using z2
        rcases hsft : Pu.shift x (src s) j1 with ⟨j2, _ | sft⟩
        · have hq2 := HQ.out
          rw [if_neg q1, if_neg q2, bnd_none hsft] at hq2
          obtain ⟨rfl, rfl⟩ := Prod.mk.inj hq2
          have E := hide hsft
          clear hq2 hsft HQ q1 q2 z2
          go_wp2_with fail
          refine (shift_any b s j1 x _ R3.out (by omega) (by omega) j2 none E).mono ?_
          rintro e w4 ⟨⟨y, rfl, hy⟩, r4, k4⟩
          clear hy
          have P4 : Hid (ShAt w4 p ⟨84, xw, x, 0, 0, wst, false⟩) := P3.out.keep k4 (by omega)
          have g5 : w4.cell? ⟨p, 4, none⟩ = some (.int .i64 0) := P4.out.cell 4
          have f5 := P4.out.fro 4
          go_wp2_with fail
          go_ret
          exact ⟨rfl, r4.setOther hbp _, ⟨_, P4.out.set 4 (.int .i64 y) (y := ⟨84, xw, x, 0, y, wst, false⟩) rfl, fun a ha => by simp at ha⟩, (K3.out.trans (k4.mono (fun _ hx => Or.inl hx))).setCell (p := ⟨p, 4, none⟩) (Or.inr rfl) _⟩
        · have hq2 := HQ.out
          rw [if_neg q1, if_neg q2, bnd_some hsft] at hq2
          obtain ⟨rfl, rfl⟩ := Prod.mk.inj hq2
          have E := hide hsft
          clear hq2 hsft HQ q1 q2 z2
          go_wp2_with fail
          refine (shift_any b s j1 x _ R3.out (by omega) (by omega) j2 (some sft) E).mono ?_
          rintro e w4 ⟨⟨y, rfl, hy⟩, r4, k4⟩
          obtain rfl := hy sft rfl
          clear hy
          have P4 : Hid (ShAt w4 p ⟨84, xw, x, 0, 0, wst, false⟩) := P3.out.keep k4 (by omega)
          have g5 : w4.cell? ⟨p, 4, none⟩ = some (.int .i64 0) := P4.out.cell 4
          have f5 := P4.out.fro 4
          go_wp2_with fail
          go_ret
          refine ⟨rfl, r4.setOther hbp _, ⟨_, P4.out.set 4 (.int .i64 y) (y := ⟨84, xw, x, 0, y, wst, false⟩) rfl, ?_⟩, (K3.out.trans (k4.mono (fun _ hx => Or.inl hx))).setCell (p := ⟨p, 4, none⟩) (Or.inr rfl) _⟩
          intro a ha
          obtain rfl := Option.some.inj ha
          exact ⟨rfl, by omega, by omega⟩
end Go.Proofs.YtbdbkjngdhcjpaaDoor
namespace Go.Proofs.YtbdbkjngdhcjpaaDoor
open Go.RowKit
open Go.Proofs

/-- What a call that reads a shape hands back. -/
def ShRet (e : Ending) (o : Option Pu.Shape) : Prop := ∃ x : Pu.Shape, e = .returned (.tuple #[.agg (shv x), .bool o.isSome]) ∧ ∀ a, o = some a → x = a
theorem lets_shape : lets ⟨#[80, 84, 75, 67, 83]⟩ = [80, 84, 75, 67, 83] := by decide
theorem shv_size (x : Pu.Shape) : (shv x).size = 7 := rfl

set_option maxHeartbeats 1000000 in
theorem shape_any (b : Nat) (s : ByteArray) (i : Nat) (w : World) (h : RdAt w b s i) (j : Nat) (o : Option Pu.Shape) (hq : Hid (Pu.shape (src s) i = (j, o))) :
    Calls Tryd.prog 94 #[.pointer (some ⟨b, 0, none⟩)] w fun e w' => ShRet e o ∧ RdAt w' b s j ∧ Kp (· = b) w w' := by
  have hb := h.lt
  have H := hide ((h.alloc (.cells (shv ⟨0, 0, 0, 0, 0, false, false⟩) 50)).alloc (.cells (shv ⟨0, 0, 0, 0, 0, false, false⟩) 50))
  clear h
  rcases hl : Pu.letter [80, 84, 75, 67, 83] (src s) i with ⟨j1, _ | k⟩
  · have hq' := hq.out
    unfold Pu.shape at hq'
    rw [bnd_none hl] at hq'
    obtain ⟨rfl, rfl⟩ := Prod.mk.inj hq'
    rw [← lets_shape] at hl
    have HL := hide hl
    clear hq hq' hl
    go_enter Tryd.func94, Tryd.ntmps94
    go_wp2_with fail
    refine (letter_any b s i ⟨#[80, 84, 75, 67, 83]⟩ _ H.out (by decide) j1 none HL).mono ?_
    rintro e w1 ⟨⟨x, rfl, hx⟩, r1, k1⟩
    clear hx
    have A0 := hide (k1.row (heap_alloc2_old w (.cells (shv ⟨0, 0, 0, 0, 0, false, false⟩) 50) (.cells (shv ⟨0, 0, 0, 0, 0, false, false⟩) 50)) (by omega))
    have A1 := hide (k1.row (heap_alloc2_new w (.cells (shv ⟨0, 0, 0, 0, 0, false, false⟩) 50) (.cells (shv ⟨0, 0, 0, 0, 0, false, false⟩) 50)) (by omega))
    have K1 := hide ((((Kp.refl (· = b) w).alloc _).alloc _).trans k1)
    have R1 := hide r1
    clear k1 r1
    go_wp2_with (first
      | (refine wpList_load_row rfl 50 _ rfl (w.heap.size + 1) rfl 50 (shv ⟨0, 0, 0, 0, 0, false, false⟩) (0, 0) _ A1.out Tryd.underlying50 rfl info_shape ?_)
      | (refine wpList_store_row rfl 50 _ _ rfl w.heap.size (shv ⟨0, 0, 0, 0, 0, false, false⟩) rfl rfl 50 (shv ⟨0, 0, 0, 0, 0, false, false⟩) A0.out info_shape rfl (shv_one _) ?_))
    exact bodyPost_ret (v := .tuple #[.agg (shv ⟨0, 0, 0, 0, 0, false, false⟩), .bool false]) (results_row_tmp Tryd.results94 _ _ w.heap.size 50 _ (0, 0) _ rfl (setRow_heap _ _ _ _ _ _ A0.out) Tryd.underlying50 rfl info_shape) rfl
      ⟨⟨_, rfl, fun a ha => by simp at ha⟩, R1.out.setRow (by omega) _, K1.out.setRowNew (Nat.le_refl _) _⟩
  · have hkm : k ∈ [(80 : Int), 84, 75, 67, 83] := by
      unfold Pu.letter at hl
      split at hl
      · rename_i hm
        have := Option.some.inj (Prod.mk.inj hl).2
        rwa [this] at hm
      · simp at hl
    have hkb : 0 ≤ k ∧ k ≤ 255 := by simp at hkm; omega
    have hq' := hq.out
    unfold Pu.shape at hq'
    rw [bnd_some hl] at hq'
    have HQ := hide hq'
    rw [← lets_shape] at hl
    have HL := hide hl
    clear hq hq' hl hkm
    go_enter Tryd.func94, Tryd.ntmps94
    go_wp2_with fail
    refine (letter_any b s i ⟨#[80, 84, 75, 67, 83]⟩ _ H.out (by decide) j1 (some k) HL).mono ?_
    rintro e w1 ⟨⟨x, rfl, hx⟩, r1, k1⟩
    obtain rfl := hx k rfl
    clear hx
    have A0 := hide (k1.row (heap_alloc2_old w (.cells (shv ⟨0, 0, 0, 0, 0, false, false⟩) 50) (.cells (shv ⟨0, 0, 0, 0, 0, false, false⟩) 50)) (by omega))
    have A1 : Hid (ShAt w1 (w.heap.size + 1) ⟨0, 0, 0, 0, 0, false, false⟩) := (k1.row (heap_alloc2_new w (.cells (shv ⟨0, 0, 0, 0, 0, false, false⟩) 50) (.cells (shv ⟨0, 0, 0, 0, 0, false, false⟩) 50)) (by omega))
    have K1 := hide ((((Kp.refl (· = b) w).alloc _).alloc _).trans k1)
    have R1 := hide r1
    clear k1 r1
    have z0 : w1.cell? ⟨w.heap.size + 1, 0, none⟩ = some (.int .u8 0) := A1.out.cell 0
    have z1 := A1.out.fro 0
    have P2 : Hid (ShAt (w1.setCell ⟨w.heap.size + 1, 0, none⟩ (.int .u8 x)) (w.heap.size + 1) ⟨x, 0, 0, 0, 0, false, false⟩) := A1.out.set 0 _ rfl
    have R2 : Hid (RdAt (w1.setCell ⟨w.heap.size + 1, 0, none⟩ (.int .u8 x)) b s j1) := R1.out.setOther (by simp only; omega) _
    have K2 : Hid (Kp (· = b) w (w1.setCell ⟨w.heap.size + 1, 0, none⟩ (.int .u8 x))) := K1.out.setNew (by simp only; omega) _
    have B2 := hide ((heap_setCell_other w1 ⟨w.heap.size + 1, 0, none⟩ w.heap.size (.int .u8 x) (by simp only; omega)).trans A0.out)
    go_wp2_with fail
    rcases hw : Pu.width x (src s) j1 with ⟨j2, _ | a⟩
    · have hq2 := HQ.out
      rw [bnd_none hw] at hq2
      obtain ⟨rfl, rfl⟩ := Prod.mk.inj hq2
      have HW := hide hw
      clear hw hq2 HQ
      refine (width_any b (w.heap.size + 1) s j1 x _ R2.out P2.out (by omega) hkb.1 hkb.2 j2 none HW).mono ?_
      rintro e w3 ⟨rfl, r3, ⟨y, p3, hy⟩, k3⟩
      clear hy
      have A3 := hide (k3.row B2.out (by omega))
      have P3 := hide p3
      have R3 := hide r3
      have K3 := hide (K2.out.tr k3 (by intro x hx; omega))
      clear p3 r3 k3
      go_wp2_with (first
        | (refine wpList_load_row rfl 50 _ rfl (w.heap.size + 1) rfl 50 (shv y) (0, 0) _ P3.out Tryd.underlying50 rfl info_shape ?_)
        | (refine wpList_store_row rfl 50 _ _ rfl w.heap.size (shv y) rfl rfl 50 (shv ⟨0, 0, 0, 0, 0, false, false⟩) A3.out info_shape rfl (shv_one _) ?_))
      exact bodyPost_ret (v := .tuple #[.agg (shv y), .bool false]) (results_row_tmp Tryd.results94 _ _ w.heap.size 50 _ (0, 0) _ rfl (setRow_heap _ _ _ _ _ _ A3.out) Tryd.underlying50 rfl info_shape) rfl
        ⟨⟨_, rfl, fun a ha => by simp at ha⟩, R3.out.setRow (by omega) _, K3.out.setRowNew (Nat.le_refl _) _⟩
    · have hq2 := HQ.out
      rw [bnd_some hw] at hq2
      have HQ2 := hide hq2
      have HW := hide hw
      clear hw hq2 HQ
      refine (width_any b (w.heap.size + 1) s j1 x _ R2.out P2.out (by omega) hkb.1 hkb.2 j2 (some a) HW).mono ?_
      rintro e w3 ⟨rfl, r3, ⟨y, p3, hy⟩, k3⟩
      obtain ⟨rfl, ha0, ha1⟩ := hy a rfl
      clear hy
      have A3 := hide (k3.row B2.out (by omega))
      have P3 := hide p3
      have R3 := hide r3
      have K3 := hide (K2.out.tr k3 (by intro x hx; omega))
      clear p3 r3 k3
      by_cases e : src s j2 = 44
      · have hq3 := HQ2.out
        rw [bnd_some (show Pu.take 44 (src s) j2 = (j2 + 1, some ()) by unfold Pu.take; rw [if_pos e])] at hq3
        have E := hide e
        have HQ3 := hide hq3
        clear e hq3 HQ2
        go_wp2_with fail
        refine (take_yes R3.out (by omega) E.out).mono ?_
        rintro e w4 ⟨rfl, r4, k4⟩
        have A4 := hide (k4.row A3.out (by omega))
        have P4 := hide (P3.out.keep k4 (by omega))
        have R4 := hide r4
        have K4 := hide (K3.out.trans k4)
        clear r4 k4
        go_wp2_with fail
        rcases hh : Pu.height x a.1 a.2.1 a.2.2 (src s) (j2 + 1) with ⟨j3, o3⟩
        have HH := hide hh
        have HO : Hid (j = j3 ∧ o.isSome = o3.isSome ∧ ∀ c, o = some c → ∃ d, o3 = some d ∧ c = ⟨x, a.1, d.1, a.2.1, d.2.1, a.2.2, d.2.2⟩) := by
          have hq4 := HQ3.out
          cases o3 with
          | none =>
            rw [bnd_none hh] at hq4
            obtain ⟨rfl, rfl⟩ := Prod.mk.inj hq4
            exact ⟨rfl, rfl, fun c hc => by simp at hc⟩
          | some d =>
            rw [bnd_some hh] at hq4
            obtain ⟨rfl, rfl⟩ := Prod.mk.inj hq4
            exact ⟨rfl, rfl, fun c hc => ⟨d, rfl, (Option.some.inj hc).symm⟩⟩
        clear HQ3
        refine (height_any b (w.heap.size + 1) s (j2 + 1) x a.1 a.2.1 a.2.2 _ R4.out P4.out (by omega) hkb.1 hkb.2 ha0 ha1 j3 o3 HH).mono ?_
        rintro e w5 ⟨rfl, r5, ⟨y, p5, hy⟩, k5⟩
        have A5 := hide (k5.row A4.out (by omega))
        have P5 := hide p5
        have R5 := hide r5
        have K5 := hide (K4.out.tr k5 (by intro x hx; omega))
        have HY := hide hy
        clear p5 r5 k5 hy hh HH
        go_wp2_with (first
          | (refine wpList_load_row rfl 50 _ rfl (w.heap.size + 1) rfl 50 (shv y) (0, 0) _ P5.out Tryd.underlying50 rfl info_shape ?_)
          | (refine wpList_store_row rfl 50 _ _ rfl w.heap.size (shv y) rfl rfl 50 (shv ⟨0, 0, 0, 0, 0, false, false⟩) A5.out info_shape rfl (shv_one _) ?_))
        obtain ⟨rfl, ho1, ho2⟩ := HO.out
        refine bodyPost_ret (v := .tuple #[.agg (shv y), .bool o3.isSome]) (results_row_tmp Tryd.results94 _ _ w.heap.size 50 _ (0, 0) _ rfl (setRow_heap _ _ _ _ _ _ A5.out) Tryd.underlying50 rfl info_shape) rfl
          ⟨⟨y, by rw [ho1], ?_⟩, R5.out.setRow (by omega) _, K5.out.setRowNew (Nat.le_refl _) _⟩
        intro c hc
        obtain ⟨d, hd, rfl⟩ := ho2 c hc
        exact (HY.out d hd).1
      · have hq3 := HQ2.out
        rw [bnd_none (show Pu.take 44 (src s) j2 = (j2, none) by unfold Pu.take; rw [if_neg e])] at hq3
        obtain ⟨rfl, rfl⟩ := Prod.mk.inj hq3
        have E := hide e
        clear e hq3 HQ2
        go_wp2_with fail
        refine (take_no R3.out (by omega) E.out).mono ?_
        rintro e w4 ⟨rfl, r4, k4⟩
        have A4 := hide (k4.row A3.out (by omega))
        have P4 := hide (P3.out.keep k4 (by omega))
        have R4 := hide r4
        have K4 := hide (K3.out.trans k4)
        clear r4 k4
        go_wp2_with (first
          | (refine wpList_load_row rfl 50 _ rfl (w.heap.size + 1) rfl 50 (shv ⟨x, a.1, 0, a.2.1, 0, a.2.2, false⟩) (0, 0) _ P4.out Tryd.underlying50 rfl info_shape ?_)
          | (refine wpList_store_row rfl 50 _ _ rfl w.heap.size (shv ⟨x, a.1, 0, a.2.1, 0, a.2.2, false⟩) rfl rfl 50 (shv ⟨0, 0, 0, 0, 0, false, false⟩) A4.out info_shape rfl (shv_one _) ?_))
        exact bodyPost_ret (v := .tuple #[.agg (shv ⟨x, a.1, 0, a.2.1, 0, a.2.2, false⟩), .bool false]) (results_row_tmp Tryd.results94 _ _ w.heap.size 50 _ (0, 0) _ rfl (setRow_heap _ _ _ _ _ _ A4.out) Tryd.underlying50 rfl info_shape) rfl
          ⟨⟨_, rfl, fun a ha => by simp at ha⟩, R4.out.setRow (by omega) _, K4.out.setRowNew (Nat.le_refl _) _⟩
end Go.Proofs.YtbdbkjngdhcjpaaDoor
