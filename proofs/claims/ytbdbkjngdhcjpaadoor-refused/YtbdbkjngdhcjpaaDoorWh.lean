import Derived.Test.YtbdbkjngdhcjpaaDoorM3
namespace Go.Proofs.YtbdbkjngdhcjpaaDoor
open Go.RowKit
open Go.Proofs

/-- What a call that reads a shape hands back. -/
def ShRet (e : Ending) (o : Option Pu.Shape) : Prop := ∃ x : Pu.Shape, e = .returned (.tuple #[.agg (shv x), .bool o.isSome]) ∧ ∀ a, o = some a → x = a
theorem lets_shape : lets ⟨#[80, 84, 75, 67, 83]⟩ = [80, 84, 75, 67, 83] := by decide
theorem shv_size (x : Pu.Shape) : (shv x).size = 7 := rfl

set_option maxHeartbeats 1000000 in
theorem shape_any (b : Nat) (s : ByteArray) (i : Nat) (w : World) (h : RdAt w b s i) (j : Nat) (o : Option Pu.Shape) (hq : Hid (Pu.shape (src s) i = (j, o))) :
    Calls Tryd.prog 94 #[.pointer (some ⟨b, 0, none⟩)] w fun e w' => ShRet e o ∧ RdAt w' b s j ∧ Kp (· = b) w w' := by
  have hb := h.lt
  have H := hide ((h.alloc (.cells (shv ⟨0, 0, 0, 0, 0, false, false⟩) 50)).alloc (.cells (shv ⟨0, 0, 0, 0, 0, false, false⟩) 50))
  clear h
  rcases hl : Pu.letter [80, 84, 75, 67, 83] (src s) i with ⟨j1, _ | k⟩
  · have hq' := hq.out
    unfold Pu.shape at hq'
    rw [bnd_none hl] at hq'
    obtain ⟨rfl, rfl⟩ := Prod.mk.inj hq'
    rw [← lets_shape] at hl
    have HL := hide hl
    clear hq hq' hl
    go_enter Tryd.func94, Tryd.ntmps94
    go_wp2_with fail
    refine (letter_any b s i ⟨#[80, 84, 75, 67, 83]⟩ _ H.out (by decide) j1 none HL).mono ?_
    rintro e w1 ⟨⟨x, rfl, hx⟩, r1, k1⟩
    clear hx
    have A0 := hide (k1.row (heap_alloc2_old w (.cells (shv ⟨0, 0, 0, 0, 0, false, false⟩) 50) (.cells (shv ⟨0, 0, 0, 0, 0, false, false⟩) 50)) (by omega))
    have A1 := hide (k1.row (heap_alloc2_new w (.cells (shv ⟨0, 0, 0, 0, 0, false, false⟩) 50) (.cells (shv ⟨0, 0, 0, 0, 0, false, false⟩) 50)) (by omega))
    have K1 := hide ((((Kp.refl (· = b) w).alloc _).alloc _).trans k1)
    have R1 := hide r1
    clear k1 r1
    go_wp2_with (first
      | (refine wpList_load_row rfl 50 _ rfl (w.heap.size + 1) rfl 50 (shv ⟨0, 0, 0, 0, 0, false, false⟩) (0, 0) _ A1.out Tryd.underlying50 rfl info_shape ?_)
      | (refine wpList_store_row rfl 50 _ _ rfl w.heap.size (shv ⟨0, 0, 0, 0, 0, false, false⟩) rfl rfl 50 (shv ⟨0, 0, 0, 0, 0, false, false⟩) A0.out info_shape rfl (shv_one _) ?_))
    exact bodyPost_ret (v := .tuple #[.agg (shv ⟨0, 0, 0, 0, 0, false, false⟩), .bool false]) (results_row_tmp Tryd.results94 _ _ w.heap.size 50 _ (0, 0) _ rfl (setRow_heap _ _ _ _ _ _ A0.out) Tryd.underlying50 rfl info_shape) rfl
      ⟨⟨_, rfl, fun a ha => by simp at ha⟩, R1.out.setRow (by omega) _, K1.out.setRowNew (Nat.le_refl _) _⟩
  · have hkm : k ∈ [(80 : Int), 84, 75, 67, 83] := by
      unfold Pu.letter at hl
      split at hl
      · rename_i hm
        have := Option.some.inj (Prod.mk.inj hl).2
        rwa [this] at hm
      · simp at hl
    have hkb : 0 ≤ k ∧ k ≤ 255 := by simp at hkm; omega
    have hq' := hq.out
    unfold Pu.shape at hq'
    rw [bnd_some hl] at hq'
    have HQ := hide hq'
    rw [← lets_shape] at hl
    have HL := hide hl
    clear hq hq' hl hkm
    go_enter Tryd.func94, Tryd.ntmps94
    go_wp2_with fail
    refine (letter_any b s i ⟨#[80, 84, 75, 67, 83]⟩ _ H.out (by decide) j1 (some k) HL).mono ?_
    rintro e w1 ⟨⟨x, rfl, hx⟩, r1, k1⟩
    obtain rfl := hx k rfl
    clear hx
    have A0 := hide (k1.row (heap_alloc2_old w (.cells (shv ⟨0, 0, 0, 0, 0, false, false⟩) 50) (.cells (shv ⟨0, 0, 0, 0, 0, false, false⟩) 50)) (by omega))
    have A1 : Hid (ShAt w1 (w.heap.size + 1) ⟨0, 0, 0, 0, 0, false, false⟩) := (k1.row (heap_alloc2_new w (.cells (shv ⟨0, 0, 0, 0, 0, false, false⟩) 50) (.cells (shv ⟨0, 0, 0, 0, 0, false, false⟩) 50)) (by omega))
    have K1 := hide ((((Kp.refl (· = b) w).alloc _).alloc _).trans k1)
    have R1 := hide r1
    clear k1 r1
    have z0 : w1.cell? ⟨w.heap.size + 1, 0, none⟩ = some (.int .u8 0) := A1.out.cell 0
    have z1 := A1.out.fro 0
    have P2 : Hid (ShAt (w1.setCell ⟨w.heap.size + 1, 0, none⟩ (.int .u8 x)) (w.heap.size + 1) ⟨x, 0, 0, 0, 0, false, false⟩) := A1.out.set 0 _ rfl
    have R2 : Hid (RdAt (w1.setCell ⟨w.heap.size + 1, 0, none⟩ (.int .u8 x)) b s j1) := R1.out.setOther (by simp only; omega) _
    have K2 : Hid (Kp (· = b) w (w1.setCell ⟨w.heap.size + 1, 0, none⟩ (.int .u8 x))) := K1.out.setNew (by simp only; omega) _
    have B2 := hide ((heap_setCell_other w1 ⟨w.heap.size + 1, 0, none⟩ w.heap.size (.int .u8 x) (by simp only; omega)).trans A0.out)
    go_wp2_with fail
    rcases hw : Pu.width x (src s) j1 with ⟨j2, _ | a⟩
    · have hq2 := HQ.out
      rw [bnd_none hw] at hq2
      obtain ⟨rfl, rfl⟩ := Prod.mk.inj hq2
      have HW := hide hw
      clear hw hq2 HQ
      refine (width_any b (w.heap.size + 1) s j1 x _ R2.out P2.out (by omega) hkb.1 hkb.2 j2 none HW).mono ?_
      rintro e w3 ⟨rfl, r3, ⟨y, p3, hy⟩, k3⟩
      clear hy
      have A3 := hide (k3.row B2.out (by omega))
      have P3 := hide p3
      have R3 := hide r3
      have K3 := hide (K2.out.tr k3 (by intro x hx; omega))
      clear p3 r3 k3
      go_wp2_with (first
        | (refine wpList_load_row rfl 50 _ rfl (w.heap.size + 1) rfl 50 (shv y) (0, 0) _ P3.out Tryd.underlying50 rfl info_shape ?_)
        | (refine wpList_store_row rfl 50 _ _ rfl w.heap.size (shv y) rfl rfl 50 (shv ⟨0, 0, 0, 0, 0, false, false⟩) A3.out info_shape rfl (shv_one _) ?_))
      exact bodyPost_ret (v := .tuple #[.agg (shv y), .bool false]) (results_row_tmp Tryd.results94 _ _ w.heap.size 50 _ (0, 0) _ rfl (setRow_heap _ _ _ _ _ _ A3.out) Tryd.underlying50 rfl info_shape) rfl
        ⟨⟨_, rfl, fun a ha => by simp at ha⟩, R3.out.setRow (by omega) _, K3.out.setRowNew (Nat.le_refl _) _⟩
    · have hq2 := HQ.out
      rw [bnd_some hw] at hq2
      have HQ2 := hide hq2
      have HW := hide hw
      clear hw hq2 HQ
      refine (width_any b (w.heap.size + 1) s j1 x _ R2.out P2.out (by omega) hkb.1 hkb.2 j2 (some a) HW).mono ?_
      rintro e w3 ⟨rfl, r3, ⟨y, p3, hy⟩, k3⟩
      obtain ⟨rfl, ha0, ha1⟩ := hy a rfl
      clear hy
      have A3 := hide (k3.row B2.out (by omega))
      have P3 := hide p3
      have R3 := hide r3
      have K3 := hide (K2.out.tr k3 (by intro x hx; omega))
      clear p3 r3 k3
      by_cases e : src s j2 = 44
      · have hq3 := HQ2.out
        rw [bnd_some (show Pu.take 44 (src s) j2 = (j2 + 1, some ()) by unfold Pu.take; rw [if_pos e])] at hq3
        have E := hide e
        have HQ3 := hide hq3
        clear e hq3 HQ2
        go_wp2_with fail
        refine (take_yes R3.out (by omega) E.out).mono ?_
        rintro e w4 ⟨rfl, r4, k4⟩
        have A4 := hide (k4.row A3.out (by omega))
        have P4 := hide (P3.out.keep k4 (by omega))
        have R4 := hide r4
        have K4 := hide (K3.out.trans k4)
        clear r4 k4
        go_wp2_with fail
        rcases hh : Pu.height x a.1 a.2.1 a.2.2 (src s) (j2 + 1) with ⟨j3, o3⟩
        have HH := hide hh
        have HO : Hid (j = j3 ∧ o.isSome = o3.isSome ∧ ∀ c, o = some c → ∃ d, o3 = some d ∧ c = ⟨x, a.1, d.1, a.2.1, d.2.1, a.2.2, d.2.2⟩) := by
          have hq4 := HQ3.out
          cases o3 with
          | none =>
            rw [bnd_none hh] at hq4
            obtain ⟨rfl, rfl⟩ := Prod.mk.inj hq4
            exact ⟨rfl, rfl, fun c hc => by simp at hc⟩
          | some d =>
            rw [bnd_some hh] at hq4
            obtain ⟨rfl, rfl⟩ := Prod.mk.inj hq4
            exact ⟨rfl, rfl, fun c hc => ⟨d, rfl, (Option.some.inj hc).symm⟩⟩
        clear HQ3
        refine (height_any b (w.heap.size + 1) s (j2 + 1) x a.1 a.2.1 a.2.2 _ R4.out P4.out (by omega) hkb.1 hkb.2 ha0 ha1 j3 o3 HH).mono ?_
        rintro e w5 ⟨rfl, r5, ⟨y, p5, hy⟩, k5⟩
        have A5 := hide (k5.row A4.out (by omega))
        have P5 := hide p5
        have R5 := hide r5
        have K5 := hide (K4.out.tr k5 (by intro x hx; omega))
        have HY := hide hy
        clear p5 r5 k5 hy hh HH
        go_wp2_with (first
          | (refine wpList_load_row rfl 50 _ rfl (w.heap.size + 1) rfl 50 (shv y) (0, 0) _ P5.out Tryd.underlying50 rfl info_shape ?_)
          | (refine wpList_store_row rfl 50 _ _ rfl w.heap.size (shv y) rfl rfl 50 (shv ⟨0, 0, 0, 0, 0, false, false⟩) A5.out info_shape rfl (shv_one _) ?_))
        obtain ⟨rfl, ho1, ho2⟩ := HO.out
        refine bodyPost_ret (v := .tuple #[.agg (shv y), .bool o3.isSome]) (results_row_tmp Tryd.results94 _ _ w.heap.size 50 _ (0, 0) _ rfl (setRow_heap _ _ _ _ _ _ A5.out) Tryd.underlying50 rfl info_shape) rfl
          ⟨⟨y, by rw [ho1], ?_⟩, R5.out.setRow (by omega) _, K5.out.setRowNew (Nat.le_refl _) _⟩
        intro c hc
        obtain ⟨d, hd, rfl⟩ := ho2 c hc
        exact (HY.out d hd).1
      · have hq3 := HQ2.out
        rw [bnd_none (show Pu.take 44 (src s) j2 = (j2, none) by unfold Pu.take; rw [if_neg e])] at hq3
        obtain ⟨rfl, rfl⟩ := Prod.mk.inj hq3
        have E := hide e
        clear e hq3 HQ2
        go_wp2_with fail
        refine (take_no R3.out (by omega) E.out).mono ?_
        rintro e w4 ⟨rfl, r4, k4⟩
        have A4 := hide (k4.row A3.out (by omega))
        have P4 := hide (P3.out.keep k4 (by omega))
        have R4 := hide r4
        have K4 := hide (K3.out.trans k4)
        clear r4 k4
        go_wp2_with (first
          | (refine wpList_load_row rfl 50 _ rfl (w.heap.size + 1) rfl 50 (shv ⟨x, a.1, 0, a.2.1, 0, a.2.2, false⟩) (0, 0) _ P4.out Tryd.underlying50 rfl info_shape ?_)
          | (refine wpList_store_row rfl 50 _ _ rfl w.heap.size (shv ⟨x, a.1, 0, a.2.1, 0, a.2.2, false⟩) rfl rfl 50 (shv ⟨0, 0, 0, 0, 0, false, false⟩) A4.out info_shape rfl (shv_one _) ?_))
        exact bodyPost_ret (v := .tuple #[.agg (shv ⟨x, a.1, 0, a.2.1, 0, a.2.2, false⟩), .bool false]) (results_row_tmp Tryd.results94 _ _ w.heap.size 50 _ (0, 0) _ rfl (setRow_heap _ _ _ _ _ _ A4.out) Tryd.underlying50 rfl info_shape) rfl
          ⟨⟨_, rfl, fun a ha => by simp at ha⟩, R4.out.setRow (by omega) _, K4.out.setRowNew (Nat.le_refl _) _⟩
end Go.Proofs.YtbdbkjngdhcjpaaDoor
