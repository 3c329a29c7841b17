import Derived.Test.YtbdbkjngdhcjpaaDoorM12
import Derived.Test.YtbdbkjngdhcjpaaDoorM13
namespace Go.Proofs.YtbdbkjngdhcjpaaDoor
open Go.RowKit
open Go.Proofs

/-- What laying a run does to a grid: the first k of its cells. -/
def runG (x : Pu.Shape) (g : Gs) (a b u : Int) : Nat → Bool × Gs
  | 0 => (true, g)
  | k + 1 => if (runG x g a b u k).1 = false then runG x g a b u k else if hasB x (a + k) b = false then runG x g a b u k else if nearB x (a + k) b = false then (false, (runG x g a b u k).2) else putG x.w x.h (runG x g a b u k).2 (a + k) b u
theorem runG_stop (x : Pu.Shape) (g : Gs) (a b u : Int) {k : Nat} (h : (runG x g a b u k).1 = false) : ∀ m : Nat, k ≤ m → runG x g a b u m = runG x g a b u k := by
  intro m hm
  induction m with
  | zero => have : k = 0 := by omega
            subst this; rfl
  | succ m ih =>
    by_cases e : k = m + 1
    · rw [e]
    · have := ih (by omega)
      show (if (runG x g a b u m).1 = false then runG x g a b u m else _) = _
      rw [if_pos (by rw [this]; exact h), this]
theorem runG_ok {c : Int} {x : Pu.Shape} (hx : Pu.ShapeOk x) {g : Gs} (ho : GsOk c x.w x.h g) (a b u : Int) (hu : 0 ≤ u ∧ u < c) : ∀ k, GsOk c x.w x.h (runG x g a b u k).2 := by
  intro k
  induction k with
  | zero => exact ho
  | succ k ih =>
    unfold runG
    split
    · exact ih
    · split
      · exact ih
      · split
        · exact ih
        · rename_i h1 h2 h3
          have hs := spot_of hx (by simpa using h2) (by simpa using h3)
          by_cases hf : u = 0 ∨ Fits x.w x.h (runG x g a b u k).2 (a + k) b
          · exact (put_spec (side_of hx) ih hs hu hf).2.1
          · rw [put_fail (side_of hx) hf]
            exact ih
set_option maxRecDepth 100000 in
set_option maxHeartbeats 400000 in
/-- A live cell is put into the world's own grid, whatever the shape. -/
theorem settle_exact (q : Nat) (r : Pu.Rule) (x : Pu.Shape) (age c : Int) (g : Gs) (a b u : Int) (w : World) (h : GsAt w q (preOf r x age) x.w x.h g) (hr : RuleOk r) (hx : Pu.ShapeOk x) (ho : GsOk c x.w x.h g) (hh : hasB x a b = true) :
    Calls Tryd.prog 58 #[.pointer (some ⟨q, 0, none⟩), .pointer (some ⟨q, 28, none⟩), .int .i64 a, .int .i64 b, .int .i64 u] w fun e w' => e = .returned (.bool (if nearB x a b = false then (false, g) else putG x.w x.h g a b u).1) ∧ GsAt w' q (preOf r x age) x.w x.h (if nearB x a b = false then (false, g) else putG x.w x.h g a b u).2 ∧ Kp (· = q) w w' := by
  have H : Hid (GsAt w q (preOf r x age) x.w x.h g) := h
  have ld := hide (fun j v => GrAt.shape h hr j v)
  cases hnear : nearB x a b with
  | false =>
    have HNr := hide (fun wx => by have := near_any x a b wx; rw [hnear] at this; exact this)
    rw [if_pos rfl]
    clear hnear hh h hx ho
    go_enter Tryd.func58, Tryd.ntmps58
    go_wp2_with (refine wpList_load_at rfl 50 _ rfl q 20 rfl (shv x) ld.out _ Tryd.underlying50 rfl info_shape ?_)
    refine (HNr.out _).mono ?_
    rintro e w2 ⟨rfl, k2⟩
    have A2 : Hid (GsAt w2 q (preOf r x age) x.w x.h g) := GrAt.keep H.out k2 (fun hx => hx)
    have K2 := hide (k2.mono (T := (· = q)) (fun _ hx => hx.elim))
    clear k2
    go_wp2_with fail
    go_ret
    exact ⟨rfl, A2.out, K2.out⟩
  | true =>
    have HNr := hide (fun wx => by have := near_any x a b wx; rw [hnear] at this; exact this)
    have nb := near_bd hx hh hnear
    have lb := ho.lb
    have tb := ho.tb
    rw [if_neg (by simp)]
    have HP := hide (fun (wx : World) (hg : GsAt wx q (preOf r x age) x.w x.h g) => put_exact q (preOf r x age) x.w x.h g a b u wx hg hx.w0 hx.w12 hx.h0 hx.h12 (by omega) (by omega) (by omega) (by omega) (by omega) (by omega))
    clear hnear hh h hx ho
    generalize putG x.w x.h g a b u = R at *
    obtain ⟨y, g2⟩ := R
    simp only at HP ⊢
    go_enter Tryd.func58, Tryd.ntmps58
    go_wp2_with (refine wpList_load_at rfl 50 _ rfl q 20 rfl (shv x) ld.out _ Tryd.underlying50 rfl info_shape ?_)
    refine (HNr.out _).mono ?_
    rintro e w2 ⟨rfl, k2⟩
    have A2 : Hid (GsAt w2 q (preOf r x age) x.w x.h g) := GrAt.keep H.out k2 (fun hx => hx)
    have K2 := hide (k2.mono (T := (· = q)) (fun _ hx => hx.elim))
    clear k2
    go_wp2_with fail
    refine (HP.out _ A2.out).mono ?_
    rintro e w3 ⟨rfl, g8, k3⟩
    have A3 := hide g8
    have K3 := hide (K2.out.trans k3)
    clear g8 k3
    go_wp2_with fail
    go_ret
    exact ⟨rfl, A3.out, K3.out⟩
/-- What laying a run does. -/
def layRunG (x : Pu.Shape) (g : Gs) (a b : Int) (rn : Pu.Run) : Bool × Gs := if rn.state = 0 then (true, g) else runG x g a b rn.state rn.count.toNat

set_option maxRecDepth 100000 in
set_option maxHeartbeats 400000 in
theorem layRun_exact (q : Nat) (r : Pu.Rule) (x : Pu.Shape) (age c : Int) (g : Gs) (a b : Int) (rn : Pu.Run) (w : World) (h : GsAt w q (preOf r x age) x.w x.h g) (hr : RuleOk r) (hx : Pu.ShapeOk x) (ho : GsOk c x.w x.h g) (hn : 1 ≤ rn.count ∧ rn.count ≤ 99) (hu : 0 ≤ rn.state ∧ rn.state < c)
    (ha : -1000000 ≤ a ∧ a ≤ 1000000) (_hb : -1000000 ≤ b ∧ b ≤ 1000000) :
    Calls Tryd.prog 75 #[.pointer (some ⟨q, 0, none⟩), .int .i64 a, .int .i64 b, .agg (runv rn)] w fun e w' => e = .returned (.bool (layRunG x g a b rn).1) ∧ GsAt w' q (preOf r x age) x.w x.h (layRunG x g a b rn).2 ∧ Kp (· = q) w w' := by
  have hq := GrAt.lt h
  have w0 := hx.w0
  have w12 := hx.w12
  have h0 := hx.h0
  have h12 := hx.h12
  obtain ⟨n, st, dn⟩ := rn
  unfold layRunG
  simp only [runv] at *
  have H : Hid (GsAt w q (preOf r x age) x.w x.h g) := h
  have HR := hide hr
  have HX := hide hx
  by_cases hs : st = 0
  · rw [if_pos hs]
    subst hs
    clear h hr hx
    go_enter Tryd.func75, Tryd.ntmps75
    go_wp2_with fail
    go_ret
    exact ⟨rfl, GrAt.alloc H.out _, (Kp.refl _ _).alloc _⟩
  · rw [if_neg hs]
    have bs : (st == 0) = false := by simpa using hs
    have HOK := hide (fun k => runG_ok hx ho a b st hu k)
    have HSTOP := hide (fun (k : Nat) (h : (runG x g a b st k).1 = false) (m : Nat) (hm : k ≤ m) => runG_stop x g a b st h m hm)
    have HSU : Hid (∀ k : Nat, runG x g a b st (k + 1) = if (runG x g a b st k).1 = false then runG x g a b st k else if hasB x (a + k) b = false then runG x g a b st k else if nearB x (a + k) b = false then (false, (runG x g a b st k).2) else putG x.w x.h (runG x g a b st k).2 (a + k) b st) := fun _ => rfl
    have HZ : Hid (runG x g a b st 0 = (true, g)) := rfl
    generalize runG x g a b st = RG at *
    clear hs h hr hx ho
    go_enter Tryd.func75, Tryd.ntmps75
    go_wp2_with fail
    go_loopg [9] n.toNat (fun gk v wr => ∃ k : Nat, (k : Int) ≤ n ∧ n ≤ k + gk ∧ v = .int .i64 k ∧ GsAt wr q (preOf r x age) x.w x.h (RG k).2 ∧ (RG k).1 = true ∧
      wr.heap[w.heap.size]? = some (.cells #[.int .i64 n, .int .i64 st, .bool dn] 115 (0, 0)) ∧ Kp (· = q) w wr)
    case atStart => exact ⟨0, by omega, by omega, rfl, by rw [HZ.out]; exact GrAt.alloc H.out _, by rw [HZ.out], heap_alloc_new _ _, (Kp.refl _ _).alloc _⟩
    case round =>
      obtain ⟨k, g1, g2, rfl, g3, g5, g6, g7⟩ := hrel
      have d0 : wr.cell? ⟨w.heap.size, 0, none⟩ = some (.int .i64 n) := cell_of_row _ _ 0 _ _ _ g6
      have d1 : wr.cell? ⟨w.heap.size, 1, none⟩ = some (.int .i64 st) := cell_of_row _ _ 1 _ _ _ g6
      have G3 := hide g3
      have G5 := hide g5
      have G6 := hide g6
      have G7 := hide g7
      have ld := hide (fun j v => GrAt.shape g3 HR.out j v)
      have hS := HSU.out k
      rw [if_neg (by rw [g5]; simp)] at hS
      clear g3 g5 g6 g7
      by_cases hlt : (k : Int) < n
      · cases hhas : hasB x (a + k) b with
        | false =>
          have HH := hide (fun wx => by have := has_any x (a + k) b wx; rw [hhas] at this; exact this)
          rw [if_pos hhas] at hS
          have HS := hide hS
          clear hhas hS
          go_wp2_with (refine wpList_load_at rfl 50 _ rfl q 20 rfl (shv x) ld.out _ Tryd.underlying50 rfl info_shape ?_)
          refine (HH.out _).mono ?_
          rintro e w1 ⟨rfl, k1⟩
          go_wp2_with fail
          go_roundg (gk - 1)
          case measure => omega
          case rel => exact ⟨k + 1, by omega, by omega, by go_num, by rw [HS.out]; exact GrAt.keep G3.out k1 (fun hx => hx), by rw [HS.out]; exact G5.out, k1.row G6.out (fun hx => hx), G7.out.trans (k1.mono (fun _ hx => hx.elim))⟩
        | true =>
          have HH := hide (fun wx => by have := has_any x (a + k) b wx; rw [hhas] at this; exact this)
          rw [if_neg (by rw [hhas]; simp)] at hS
          go_wp2_with (refine wpList_load_at rfl 50 _ rfl q 20 rfl (shv x) ld.out _ Tryd.underlying50 rfl info_shape ?_)
          refine (HH.out _).mono ?_
          rintro e w1 ⟨rfl, k1⟩
          have A1 : Hid (GsAt w1 q (preOf r x age) x.w x.h (RG k).2) := GrAt.keep G3.out k1 (fun hx => hx)
          have B1 := hide (k1.row G6.out (fun hx => hx))
          have K1 := hide (G7.out.trans (k1.mono (T := (· = q)) (fun _ hx => hx.elim)))
          clear k1
          have d2 : w1.cell? ⟨w.heap.size, 1, none⟩ = some (.int .i64 st) := cell_of_row _ _ 1 _ _ _ B1.out
          have okk := HOK.out k
          have HP := hide (fun (wx : World) (hx : GsAt wx q (preOf r x age) x.w x.h (RG k).2) => settle_exact q r x age c (RG k).2 (a + k) b st wx hx HR.out HX.out okk hhas)
          rw [← hS] at HP
          have HW := hide (wrap_is (z := a + k) (by omega))
          clear okk hhas hS
          go_wp2_with fail
          go_region_with (go_at_call 58; rw [HW.out]; refine (HP.out _ (by exact ⟨A1.out.row, A1.out.psz, A1.out.len⟩)).mono ?_; rintro e w3 ⟨rfl, g8, k3⟩)
          have A3 := hide g8
          have B3 := hide (k3.row (w := w1.drew) B1.out (by omega))
          have K3 := hide (K1.out.trans (Kp.drewNl (n := 1) k3))
          clear g8 k3
          cases hy : (RG (k + 1)).1
          · have HE : Hid (RG n.toNat = RG (k + 1)) := HSTOP.out (k + 1) hy n.toNat (by omega)
            have HY := hide hy
            go_wp2_with fail
            go_ret
            exact ⟨(show Ending.returned (.bool false) = _ by rw [HE.out, HY.out]), by rw [HE.out]; exact A3.out, K3.out⟩
          · have HY := hide hy
            go_wp2_with fail
            go_roundg (gk - 1)
            case measure => omega
            case rel => exact ⟨k + 1, by omega, by omega, by go_num, A3.out, HY.out, B3.out, K3.out⟩
      · have ek : k = n.toNat := by omega
        have HE : Hid (RG n.toNat = RG k) := by show _ = _; rw [ek]
        clear ek hS
        go_wp2_with fail
        go_ret
        exact ⟨(show Ending.returned (.bool true) = _ by rw [HE.out, G5.out]), by rw [HE.out]; exact G3.out, G7.out⟩

/-- What laying a body does to a grid: the runs from (a, b) on. -/
def layG (x : Pu.Shape) (col : Int) : List Pu.Run → Int → Int → Gs → Bool × Gs
  | [], _, _, g => (true, g)
  | rn :: rs, a, b, g => if rn.down = true then layG x col rs col (b + rn.count) g else if (layRunG x g a b rn).1 = false then (false, (layRunG x g a b rn).2) else layG x col rs (a + rn.count) b (layRunG x g a b rn).2
theorem layRunG_ok {c : Int} {x : Pu.Shape} (hx : Pu.ShapeOk x) {g : Gs} (ho : GsOk c x.w x.h g) (a b : Int) (rn : Pu.Run) (hu : 0 ≤ rn.state ∧ rn.state < c) : GsOk c x.w x.h (layRunG x g a b rn).2 := by
  unfold layRunG
  split
  · exact ho
  · exact runG_ok hx ho a b rn.state hu _

set_option maxRecDepth 100000 in
set_option maxHeartbeats 400000 in
theorem lay_exact (q g cap : Nat) (r : Pu.Rule) (x : Pu.Shape) (age col row c : Int) (g0 : Gs) (acc : List Pu.Run) (w : World) (h : GsAt w q (preOf r x age) x.w x.h g0) (hr : RuleOk r) (hx : Pu.ShapeOk x) (ho : GsOk c x.w x.h g0)
    (ha : RunsAt w g cap acc) (hgq : g ≠ q) (hlen : acc.length ≤ 401) (hok : ∀ rn, rn ∈ acc → (1 ≤ rn.count ∧ rn.count ≤ 99) ∧ (0 ≤ rn.state ∧ rn.state < c)) (hc : -9999 ≤ col ∧ col ≤ 9999) (hw : -9999 ≤ row ∧ row ≤ 9999) :
    Calls Tryd.prog 48 #[.pointer (some ⟨q, 0, none⟩), .agg (ptv r x age col row (.slice (some ⟨g, 0, none⟩) acc.length cap))] w fun e w' => e = .returned (.bool (layG x col acc col row g0).1) ∧ GsAt w' q (preOf r x age) x.w x.h (layG x col acc col row g0).2 ∧ Kp (· = q) w w' := by
  have hq := GrAt.lt h
  have hgl : g < w.heap.size := by
    obtain ⟨cur, hr1, _⟩ := ha.row
    exact (Array.getElem?_eq_some_iff.1 hr1).1
  have H : Hid (GsAt w q (preOf r x age) x.w x.h g0) := h
  have HR := hide hr
  have HX := hide hx
  have HA := hide ha
  have HOK := hide hok
  have HO := hide ho
  obtain ⟨R, hR⟩ : ∃ R, layG x col acc col row g0 = R := ⟨_, rfl⟩
  rw [hR]
  have HRR := hide hR
  clear h hr hx ha hok hR ho
  go_enter Tryd.func48, Tryd.ntmps48
  go_wp2_with (refine wpList_box_row rfl 91 _ rfl (ptv r x age col row (.slice (some ⟨g, 0, none⟩) acc.length cap)) rfl ?_
               intro w1 hw1
               have P1 : Hid (PtAt w1 w.heap.size r x age col row (.slice (some ⟨g, 0, none⟩) acc.length cap)) := ⟨by rw [hw1]; exact heap_alloc_new _ _, HR.out⟩
               have G1 : Hid (GsAt w1 q (preOf r x age) x.w x.h g0) := by rw [hw1]; exact GrAt.alloc H.out _
               have K1 : Hid (Kp (· = q) w w1) := by rw [hw1]; exact (Kp.refl _ _).alloc _
               have A1 : Hid (RunsAt w1 g cap acc) := by rw [hw1]; exact HA.out.keep ((Kp.refl (fun _ => False) w).alloc _) (fun hx => hx)
               have c1 : w1.cell? ⟨w.heap.size, 28, none⟩ = some (.int .i64 col) := P1.out.cell 1
               have c2 : w1.cell? ⟨w.heap.size, 29, none⟩ = some (.int .i64 row) := P1.out.cell 2
               clear hw1)
  go_loopg [5, 6, 7] acc.length (fun gk a b i wr => ∃ (k : Nat) (a' b' : Int) (g' : Gs), k ≤ acc.length ∧ acc.length ≤ k + gk ∧ a = .int .i64 a' ∧ b = .int .i64 b' ∧ i = .int .i64 k ∧ (-(9999 + 99 * k) ≤ a' ∧ a' ≤ 9999 + 99 * k) ∧ (-(9999 + 99 * k) ≤ b' ∧ b' ≤ 9999 + 99 * k) ∧
    GsAt wr q (preOf r x age) x.w x.h g' ∧ GsOk c x.w x.h g' ∧ layG x col (acc.drop k) a' b' g' = R ∧ PtAt wr w.heap.size r x age col row (.slice (some ⟨g, 0, none⟩) acc.length cap) ∧ RunsAt wr g cap acc ∧ Kp (· = q) w wr)
  case atStart => exact ⟨0, col, row, g0, by omega, by omega, rfl, rfl, rfl, by omega, by omega, G1.out, HO.out, HRR.out, P1.out, A1.out, K1.out⟩
  case round =>
    obtain ⟨k, a', b', g', g1, g2, rfl, rfl, rfl, g3, g4, g5, gok, geq, g6, g7, g8⟩ := hrel
    clear c1 c2
    have c1 : wr.cell? ⟨w.heap.size, 28, none⟩ = some (.int .i64 col) := g6.cell 1
    have c3 : wr.cell? ⟨w.heap.size, 30, none⟩ = some (.slice (some ⟨g, 0, none⟩) acc.length cap) := g6.cell 3
    have G5 := hide g5
    have GOK := hide gok
    have G6 := hide g6
    have G7 := hide g7
    have G8 := hide g8
    clear g5 g6 g7 g8 gok
    by_cases hlt : k < acc.length
    · have rk := HOK.out acc[k] (List.getElem_mem hlt)
      have ldr := hide (fun j v => G7.out.cell k hlt j v)
      rw [List.drop_eq_getElem_cons hlt] at geq
      have GEQ := hide geq
      clear geq
      generalize acc[k] = rn at *
      obtain ⟨rc, rs, rd⟩ := rn
      have HU : Hid (layG x col (⟨rc, rs, rd⟩ :: acc.drop (k + 1)) a' b' g' = if rd = true then layG x col (acc.drop (k + 1)) col (b' + rc) g' else if (layRunG x g' a' b' ⟨rc, rs, rd⟩).1 = false then (false, (layRunG x g' a' b' ⟨rc, rs, rd⟩).2) else layG x col (acc.drop (k + 1)) (a' + rc) b' (layRunG x g' a' b' ⟨rc, rs, rd⟩).2) := rfl
      simp only at rk
      cases rd
      · have HU2 := hide (HU.out.symm.trans GEQ.out)
        rw [if_neg (by simp)] at HU2
        have LRN := hide (fun (wx : World) (hx : GsAt wx q (preOf r x age) x.w x.h g') => layRun_exact q r x age c g' a' b' ⟨rc, rs, false⟩ wx hx HR.out HX.out GOK.out rk.1 rk.2 (by omega) (by omega))
        have GOK2 := hide (layRunG_ok HX.out GOK.out a' b' ⟨rc, rs, false⟩ rk.2)
        generalize layRunG x g' a' b' ⟨rc, rs, false⟩ = L at *
        clear HU GEQ
        go_wp2_with (first
          | (refine wpList_load_at rfl 115 _ rfl g (k * 3) rfl (runv ⟨rc, rs, false⟩) ldr.out _ Tryd.underlying115 rfl info_run ?_)
          | (refine wpList_store_row_g rfl 115 _ _ rfl wr.heap.size (runv ⟨rc, rs, false⟩) rfl rfl 115 (runv ⟨0, 0, false⟩) (heap_alloc_new _ _) info_run rfl (runv_one _) ?_
             intro w2 hw2
             have KK : Kp (fun _ => False) wr w2 := by rw [hw2]; exact ((Kp.refl _ _).alloc _).setRowNew (Nat.le_refl _) _
             have E2 : Hid (w2.heap[wr.heap.size]? = some (.cells (runv ⟨rc, rs, false⟩) 115 (0, 0))) := by rw [hw2]; exact setRow_heap _ _ _ _ _ _ (heap_alloc_new _ _)
             have P2 := hide (G6.out.keep KK (fun hx => hx))
             have A2 := hide (G7.out.keep KK (fun hx => hx))
             have K2 := hide (G8.out.trans (KK.mono (T := (· = q)) (fun _ hx => hx.elim)))
             have W2 : Hid (GsAt w2 q (preOf r x age) x.w x.h g') := GrAt.keep G5.out KK (fun hx => hx)
             have e0 : w2.cell? ⟨wr.heap.size, 0, none⟩ = some (.int .i64 rc) := cell_of_row _ _ 0 _ _ _ E2.out
             have e1 : w2.cell? ⟨wr.heap.size, 1, none⟩ = some (.int .i64 rs) := cell_of_row _ _ 1 _ _ _ E2.out
             have e2 : w2.cell? ⟨wr.heap.size, 2, none⟩ = some (.bool false) := cell_of_row _ _ 2 _ _ _ E2.out
             have c4 : w2.cell? ⟨w.heap.size, 28, none⟩ = some (.int .i64 col) := P2.out.cell 1
             clear hw2 KK))
        have hqw : q < w2.heap.size := GrAt.lt W2.out
        refine (LRN.out _ W2.out).mono ?_
        rintro e w3 ⟨rfl, w3w, k3⟩
        have P3 := hide (P2.out.keep k3 (by omega))
        have A3 := hide (A2.out.keep k3 hgq)
        have K3 := hide (K2.out.trans k3)
        have W3 := hide w3w
        have e0' : w3.cell? ⟨wr.heap.size, 0, none⟩ = some (.int .i64 rc) := cell_of_row _ _ 0 _ _ _ (k3.row E2.out (by have := hq; have := G8.out.size; omega))
        clear k3 w3w e0 e1 e2
        cases hy : L.1
        · have HE : Hid (R = (false, L.2)) := by
            show _ = _
            rw [← HU2.out, if_pos hy]
          clear HU2
          go_wp2_with fail
          go_ret
          exact ⟨by rw [HE.out]; rfl, by rw [HE.out]; exact W3.out, K3.out⟩
        · have HE : Hid (layG x col (acc.drop (k + 1)) (a' + rc) b' L.2 = R) := by
            show _ = _
            rw [← HU2.out, if_neg (by rw [hy]; simp)]
          clear HU2
          go_wp2_with fail
          go_roundg (gk - 1)
          case measure => omega
          case rel => exact ⟨k + 1, a' + rc, b', L.2, by omega, by omega, by go_num, rfl, by go_num, by omega, by omega, W3.out, GOK2.out, HE.out, P3.out, A3.out, K3.out⟩
      · have HU2 := hide (HU.out.symm.trans GEQ.out)
        rw [if_pos rfl] at HU2
        clear HU GEQ
        go_wp2_with (first
          | (refine wpList_load_at rfl 115 _ rfl g (k * 3) rfl (runv ⟨rc, rs, true⟩) ldr.out _ Tryd.underlying115 rfl info_run ?_)
          | (refine wpList_store_row_g rfl 115 _ _ rfl wr.heap.size (runv ⟨rc, rs, true⟩) rfl rfl 115 (runv ⟨0, 0, false⟩) (heap_alloc_new _ _) info_run rfl (runv_one _) ?_
             intro w2 hw2
             have KK : Kp (fun _ => False) wr w2 := by rw [hw2]; exact ((Kp.refl _ _).alloc _).setRowNew (Nat.le_refl _) _
             have E2 : Hid (w2.heap[wr.heap.size]? = some (.cells (runv ⟨rc, rs, true⟩) 115 (0, 0))) := by rw [hw2]; exact setRow_heap _ _ _ _ _ _ (heap_alloc_new _ _)
             have P2 := hide (G6.out.keep KK (fun hx => hx))
             have A2 := hide (G7.out.keep KK (fun hx => hx))
             have K2 := hide (G8.out.trans (KK.mono (T := (· = q)) (fun _ hx => hx.elim)))
             have W2 : Hid (GsAt w2 q (preOf r x age) x.w x.h g') := GrAt.keep G5.out KK (fun hx => hx)
             have e0 : w2.cell? ⟨wr.heap.size, 0, none⟩ = some (.int .i64 rc) := cell_of_row _ _ 0 _ _ _ E2.out
             have e2 : w2.cell? ⟨wr.heap.size, 2, none⟩ = some (.bool true) := cell_of_row _ _ 2 _ _ _ E2.out
             have c4 : w2.cell? ⟨w.heap.size, 28, none⟩ = some (.int .i64 col) := P2.out.cell 1
             clear hw2 KK))
        go_roundg (gk - 1)
        case measure => omega
        case rel => exact ⟨k + 1, col, b' + rc, g', by omega, by omega, rfl, by go_num, by go_num, by omega, by omega, W2.out, GOK.out, HU2.out, P2.out, A2.out, K2.out⟩
    · have ek : k = acc.length := by omega
      subst ek
      rw [List.drop_length] at geq
      have HE : Hid (R = (true, g')) := geq.symm
      clear geq
      go_wp2_with fail
      go_ret
      exact ⟨by rw [HE.out]; rfl, by rw [HE.out]; exact G5.out, G8.out⟩
end Go.Proofs.YtbdbkjngdhcjpaaDoor
