import Derived.Test.YtbdbkjngdhcjpaaDoorM8
import Derived.Test.YtbdbkjngdhcjpaaDoorM9
namespace Go.Proofs.YtbdbkjngdhcjpaaDoor
open Go.RowKit
open Go.Proofs

theorem GrAt.setOther {w : World} {q : Nat} {pre : Array Value} {gw gh l t : Int} {S : List Int} (h : GrAt w q pre gw gh l t S) {p : Addr} (hp : q ≠ p.block) (u : Value) : GrAt (w.setCell p u) q pre gw gh l t S := h.other (Below.heap_setCell _ _ _ _ hp)

set_option maxRecDepth 100000 in
set_option maxHeartbeats 1000000 in
theorem reach_any (q : Nat) (pre : Array Value) (gw gh l t : Int) (S : List Int) (M x y : Int) (w : World) (h : GrAt w q pre gw gh l t S) (w0 : 0 ≤ gw) (w1 : gw ≤ 12) (h0 : 0 ≤ gh) (h1 : gh ≤ 12)
    (l0 : -M ≤ l) (l1 : l + 64 ≤ M) (t0 : -M ≤ t) (t1 : t + 64 ≤ M) (hM : M ≤ 50000000) (hM0 : 0 ≤ M) (hx : -M ≤ x ∧ x ≤ M) (hy : -M ≤ y ∧ y ≤ M) :
    Calls Tryd.prog 54 #[.pointer (some ⟨q, 28, none⟩), .int .i64 x, .int .i64 y] w fun e w' => (∃ v, e = .returned v) ∧ (∃ l' t', GrAt w' q pre gw gh l' t' S ∧ (-M ≤ l' ∧ l' ≤ M) ∧ (-M ≤ t' ∧ t' ≤ M)) ∧ Kp (· = q) w w' := by
  have hq := h.lt
  have H := hide h
  go_enter Tryd.func54, Tryd.ntmps54
  go_wp2_with fail
  refine (live_any q pre gw gh l t S M _ h w0 w1 h0 h1 l0 l1 t0 t1 hM hM0).mono ?_
  rintro e w1 ⟨⟨b, L, T, R, B, rfl, e1, e2, e3, e4⟩, k1⟩
  have G1 := hide (H.out.keep k1 (fun hx => hx))
  have hq1 := G1.out.lt
  have s1 := k1.size
  have K1 := hide (k1.mono (T := (· = q)) (fun _ hx => hx.elim))
  clear k1 h
  go_wp2_with (refine wpList_store_row_g rfl 81 _ _ rfl w1.heap.size (bxv b L T R B) rfl rfl 81 (bxv false 0 0 0 0) (heap_alloc_new _ _) info_box rfl (bxv_one _ _ _ _ _) ?_
               intro w2 hw2
               have G2 : Hid (GrAt w2 q pre gw gh l t S) := by rw [hw2]; exact (G1.out.alloc _).other (setRow_other _ _ _ _ (by omega))
               have B2 : Hid (BxW w2 w1.heap.size M) := by rw [hw2]; exact ⟨b, L, T, R, B, setRow_heap _ _ _ _ _ _ (heap_alloc_new _ _), e1, e2, e3, e4⟩
               have K2 : Hid (Kp (· = q) w w2) := by rw [hw2]; exact (K1.out.alloc _).setRowNew (by omega) _
               clear hw2)
  refine (add_any w1.heap.size M x y _ B2.out hx hy).mono ?_
  rintro e w3 ⟨⟨vv, rfl⟩, b3, k3⟩
  clear e1 e2 e3 e4
  obtain ⟨b', L', T', R', B', hr, e1, e2, e3, e4⟩ := b3
  have G3 := hide (G2.out.keep k3 (by omega))
  have K3 := hide (K2.out.tr k3 (by intro z hz1 hz2; omega))
  clear k3
  have c0 : w3.cell? ⟨q, 28, none⟩ = some (.int .i64 gw) := G3.out.fld 0 (by omega)
  have c1 : w3.cell? ⟨q, 29, none⟩ = some (.int .i64 gh) := G3.out.fld 1 (by omega)
  have c2 : w3.cell? ⟨q, 30, none⟩ = some (.int .i64 l) := G3.out.fld 2 (by omega)
  have c3 : w3.cell? ⟨q, 31, none⟩ = some (.int .i64 t) := G3.out.fld 3 (by omega)
  have f2 := G3.out.fro 30
  have f3 := G3.out.fro 31
  have d1 : w3.cell? ⟨w1.heap.size, 1, none⟩ = some (.int .i64 L') := cell_of_row _ _ 1 _ _ _ hr
  have d2 : w3.cell? ⟨w1.heap.size, 2, none⟩ = some (.int .i64 T') := cell_of_row _ _ 2 _ _ _ hr
  have d3 : w3.cell? ⟨w1.heap.size, 3, none⟩ = some (.int .i64 R') := cell_of_row _ _ 3 _ _ _ hr
  have d4 : w3.cell? ⟨w1.heap.size, 4, none⟩ = some (.int .i64 B') := cell_of_row _ _ 4 _ _ _ hr
  have hne : w1.heap.size ≠ q := by omega
  clear hr
  by_cases z1 : gw = 0 ∧ R' - L' < 64
  · obtain ⟨rfl, z1⟩ := z1
    by_cases z2 : gh = 0 ∧ B' - T' < 64
    · obtain ⟨rfl, z2⟩ := z2
      go_wp2_with fail
      go_end0
      exact ⟨⟨_, rfl⟩, ⟨L', T', (G3.out.left L').top T', e1, e2⟩, (K3.out.setCell (p := ⟨q, 30, none⟩) rfl _).setCell (p := ⟨q, 31, none⟩) rfl _⟩
    · by_cases z3 : gh = 0
      · subst z3
        have z4 : ¬ B' - T' < 64 := by omega
        clear z2
        go_wp2_with fail
        go_end0
        exact ⟨⟨_, rfl⟩, ⟨L', t, G3.out.left L', e1, by omega⟩, K3.out.setCell (p := ⟨q, 30, none⟩) rfl _⟩
      · have b3 : (gh == 0) = false := by simpa using z3
        clear z2 z3
        go_wp2_with fail
        go_end0
        exact ⟨⟨_, rfl⟩, ⟨L', t, G3.out.left L', e1, by omega⟩, K3.out.setCell (p := ⟨q, 30, none⟩) rfl _⟩
  · have z1' : (gw == 0) = false ∨ (gw = 0 ∧ ¬ R' - L' < 64) := by
      by_cases z : gw = 0
      · right; exact ⟨z, by omega⟩
      · left; simpa using z
    clear z1
    by_cases z2 : gh = 0 ∧ B' - T' < 64
    · obtain ⟨rfl, z2⟩ := z2
      rcases z1' with z1 | ⟨rfl, z1⟩
      all_goals
        go_wp2_with fail
        go_end0
        exact ⟨⟨_, rfl⟩, ⟨l, T', G3.out.top T', by omega, e2⟩, K3.out.setCell (p := ⟨q, 31, none⟩) rfl _⟩
    · by_cases z3 : gh = 0
      · subst z3
        have z4 : ¬ B' - T' < 64 := by omega
        clear z2
        rcases z1' with z1 | ⟨rfl, z1⟩
        all_goals
          go_wp2_with fail
          go_end0
          exact ⟨⟨_, rfl⟩, ⟨l, t, G3.out, by omega, by omega⟩, K3.out⟩
      · have b3 : (gh == 0) = false := by simpa using z3
        clear z2 z3
        rcases z1' with z1 | ⟨rfl, z1⟩
        all_goals
          go_wp2_with fail
          go_end0
          exact ⟨⟨_, rfl⟩, ⟨l, t, G3.out, by omega, by omega⟩, K3.out⟩

set_option maxRecDepth 100000 in
set_option maxHeartbeats 1000000 in
theorem put_in (q : Nat) (pre : Array Value) (gw gh l t : Int) (S : List Int) (x y u : Int) (w : World) (h : GrAt w q pre gw gh l t S) (w0 : 0 ≤ gw) (w1 : gw ≤ 12) (h0 : 0 ≤ gh) (h1 : gh ≤ 12)
    (l0 : -50000000 ≤ l) (l1 : l ≤ 50000000) (t0 : -50000000 ≤ t) (t1 : t ≤ 50000000) (hz : 0 ≤ slotP gw gh l t x y) :
    Calls Tryd.prog 34 #[.pointer (some ⟨q, 28, none⟩), .int .i64 x, .int .i64 y, .int .i64 u] w fun e w' => e = .returned (.bool true) ∧ GrAt w' q pre gw gh l t (S.set (slotP gw gh l t x y).toNat u) ∧ Kp (· = q) w w' := by
  have hb := slotP_bd gw gh l t x y w0 w1 h0 h1
  have HS := hide (fun wx hx => slot_any q pre gw gh l t S x y wx hx w0 w1 h0 h1 l0 l1 t0 t1)
  generalize slotP gw gh l t x y = z at *
  obtain ⟨k, rfl⟩ := Int.eq_ofNat_of_zero_le hz
  have hk : k < 768 := by omega
  have hc := h.cell k hk
  have hf := h.fro (32 + k)
  rw [Int.toNat_natCast]
  have H := hide h
  go_enter Tryd.func34, Tryd.ntmps34
  go_wp2_with fail
  refine (HS.out _ h).mono ?_
  rintro e w1 ⟨rfl, hw⟩
  subst w1
  go_wp2_with fail
  go_ret
  exact ⟨rfl, H.out.put k hk u, (Kp.refl (· = q) w).setCell (p := ⟨q, 32 + k, none⟩) rfl _⟩

set_option maxRecDepth 100000 in
set_option maxHeartbeats 1000000 in
theorem put_any (q : Nat) (pre : Array Value) (gw gh l t : Int) (S : List Int) (M x y u : Int) (w : World) (h : GrAt w q pre gw gh l t S) (w0 : 0 ≤ gw) (w1 : gw ≤ 12) (h0 : 0 ≤ gh) (h1 : gh ≤ 12)
    (l0 : -M ≤ l) (l1 : l + 64 ≤ M) (t0 : -M ≤ t) (t1 : t + 64 ≤ M) (hM : M ≤ 50000000) (hM0 : 0 ≤ M) (hx : -M ≤ x ∧ x ≤ M) (hy : -M ≤ y ∧ y ≤ M) :
    Calls Tryd.prog 34 #[.pointer (some ⟨q, 28, none⟩), .int .i64 x, .int .i64 y, .int .i64 u] w fun e w' => (∃ b : Bool, e = .returned (.bool b)) ∧ (∃ l' t' S', GrAt w' q pre gw gh l' t' S' ∧ (-M ≤ l' ∧ l' ≤ M) ∧ (-M ≤ t' ∧ t' ≤ M)) ∧ Kp (· = q) w w' := by
  by_cases hz : 0 ≤ slotP gw gh l t x y
  · refine (put_in q pre gw gh l t S x y u w h w0 w1 h0 h1 (by omega) (by omega) (by omega) (by omega) hz).mono ?_
    rintro e w1 ⟨rfl, g1, k1⟩
    exact ⟨⟨true, rfl⟩, ⟨l, t, _, g1, by omega, by omega⟩, k1⟩
  · have hb := slotP_bd gw gh l t x y w0 w1 h0 h1
    have HS := hide (fun wx hx => slot_any q pre gw gh l t S x y wx hx w0 w1 h0 h1 (by omega) (by omega) (by omega) (by omega))
    generalize slotP gw gh l t x y = z at *
    have H := hide h
    by_cases hu : u = 0
    · subst hu
      go_enter Tryd.func34, Tryd.ntmps34
      go_wp2_with fail
      refine (HS.out _ h).mono ?_
      rintro e w1 ⟨rfl, hw⟩
      subst w1
      go_wp2_with fail
      go_ret
      exact ⟨⟨true, rfl⟩, ⟨l, t, S, H.out, by omega, by omega⟩, Kp.refl _ _⟩
    · have bu : (u == 0) = false := by simpa using hu
      go_enter Tryd.func34, Tryd.ntmps34
      go_wp2_with fail
      refine (HS.out _ h).mono ?_
      rintro e w1 ⟨rfl, hw⟩
      subst w1
      clear hu
      go_wp2_with fail
      refine (reach_any q pre gw gh l t S M x y _ h w0 w1 h0 h1 l0 l1 t0 t1 hM hM0 hx hy).mono ?_
      rintro e w2 ⟨⟨vv, rfl⟩, ⟨l', t', g2, hl', ht'⟩, k2⟩
      have hb2 := slotP_bd gw gh l' t' x y w0 w1 h0 h1
      have HS2 := hide (fun wx hx => slot_any q pre gw gh l' t' S x y wx hx w0 w1 h0 h1 (by omega) (by omega) (by omega) (by omega))
      generalize slotP gw gh l' t' x y = z2 at *
      have G2 := hide g2
      have K2 := hide k2
      clear k2 HS H h
      go_wp2_with fail
      refine (HS2.out _ g2).mono ?_
      rintro e w3 ⟨rfl, hw⟩
      subst w3
      by_cases hz2 : z2 < 0
      · go_wp2_with fail
        go_ret
        exact ⟨⟨false, rfl⟩, ⟨l', t', S, G2.out, hl', ht'⟩, K2.out⟩
      · obtain ⟨k, rfl⟩ := Int.eq_ofNat_of_zero_le (show 0 ≤ z2 by omega)
        have hk : k < 768 := by omega
        have hc := g2.cell k hk
        have hf := g2.fro (32 + k)
        clear HS2
        go_wp2_with fail
        go_ret
        exact ⟨⟨true, rfl⟩, ⟨l', t', _, G2.out.put k hk u, hl', ht'⟩, K2.out.setCell (p := ⟨q, 32 + k, none⟩) rfl _⟩
end Go.Proofs.YtbdbkjngdhcjpaaDoor
namespace Go.Proofs.YtbdbkjngdhcjpaaDoor
open Go.RowKit
open Go.Proofs

/-- A grid's window and its cells. -/
structure Gs where
  l : Int
  t : Int
  S : List Int
def reachG (gw gh : Int) (g : Gs) (x y : Int) : Gs :=
  ⟨if gw = 0 ∧ (addB (liveP gw gh g.l g.t g.S) x y).R - (addB (liveP gw gh g.l g.t g.S) x y).L < 64 then (addB (liveP gw gh g.l g.t g.S) x y).L else g.l,
   if gh = 0 ∧ (addB (liveP gw gh g.l g.t g.S) x y).B - (addB (liveP gw gh g.l g.t g.S) x y).T < 64 then (addB (liveP gw gh g.l g.t g.S) x y).T else g.t, g.S⟩
def setG (gw gh : Int) (g : Gs) (x y u : Int) : Gs := ⟨g.l, g.t, g.S.set (slotP gw gh g.l g.t x y).toNat u⟩
/-- What Put does to a grid. -/
def putG (gw gh : Int) (g : Gs) (x y u : Int) : Bool × Gs :=
  if 0 ≤ slotP gw gh g.l g.t x y then (true, setG gw gh g x y u)
  else if u = 0 then (true, g)
  else if 0 ≤ slotP gw gh (reachG gw gh g x y).l (reachG gw gh g x y).t x y then (true, setG gw gh (reachG gw gh g x y) x y u)
  else (false, reachG gw gh g x y)
def GsAt (w : World) (q : Nat) (pre : Array Value) (gw gh : Int) (g : Gs) : Prop := GrAt w q pre gw gh g.l g.t g.S
theorem live_bd (gw gh l t : Int) (S : List Int) (w0 : 0 ≤ gw) (w1 : gw ≤ 12) (h0 : 0 ≤ gh) (h1 : gh ≤ 12) : (liveP gw gh l t S).e = true ∨ ((l ≤ (liveP gw gh l t S).L ∧ (liveP gw gh l t S).L ≤ (liveP gw gh l t S).R ∧ (liveP gw gh l t S).R < l + 64) ∧ (t ≤ (liveP gw gh l t S).T ∧ (liveP gw gh l t S).T ≤ (liveP gw gh l t S).B ∧ (liveP gw gh l t S).B < t + 64)) := by
  have b1 := spanP_bd w0 w1
  have b2 := spanP_bd h0 h1
  have := liveAll_bd (getP gw gh l t S) l t (spanP gw).toNat (spanP gh).toNat (spanP gh).toNat (Nat.le_refl _)
  unfold liveP
  rcases this with h1 | h1
  · exact Or.inl h1
  · right
    omega
theorem add_bd (b : Bx) (x y lo hi : Int) (hb : b.e = true ∨ ((lo ≤ b.L ∧ b.R ≤ hi) ∧ (lo ≤ b.T ∧ b.B ≤ hi))) (hb2 : b.e = true ∨ ((b.L ≤ hi ∧ lo ≤ b.R) ∧ (b.T ≤ hi ∧ lo ≤ b.B))) (hx : lo ≤ x ∧ x ≤ hi) (hy : lo ≤ y ∧ y ≤ hi) :
    (lo ≤ (addB b x y).L ∧ (addB b x y).L ≤ hi) ∧ (lo ≤ (addB b x y).R ∧ (addB b x y).R ≤ hi) ∧ (lo ≤ (addB b x y).T ∧ (addB b x y).T ≤ hi) ∧ (lo ≤ (addB b x y).B ∧ (addB b x y).B ≤ hi) := by
  unfold addB
  by_cases h : b.e = true
  · rw [if_pos h]
    exact ⟨hx, hx, hy, hy⟩
  · rw [if_neg h]
    have h1 := hb.resolve_left h
    have h2 := hb2.resolve_left h
    simp only
    refine ⟨⟨?_, ?_⟩, ⟨?_, ?_⟩, ⟨?_, ?_⟩, ?_, ?_⟩ <;> split <;> omega

theorem gs_fin {w : World} {q : Nat} {pre : Array Value} {gw gh a b a' b' : Int} {S : List Int} (h1 : a = a') (h2 : b = b') (h : GrAt w q pre gw gh a' b' S) : GsAt w q pre gw gh ⟨a, b, S⟩ := by
  subst h1 h2
  exact h

set_option maxRecDepth 100000 in
set_option maxHeartbeats 1000000 in
theorem reach_exact (q : Nat) (pre : Array Value) (gw gh : Int) (g : Gs) (x y : Int) (w : World) (h : GsAt w q pre gw gh g) (w0 : 0 ≤ gw) (w1 : gw ≤ 12) (h0 : 0 ≤ gh) (h1 : gh ≤ 12)
    (l0 : -40000000 ≤ g.l) (l1 : g.l ≤ 40000000) (t0 : -40000000 ≤ g.t) (t1 : g.t ≤ 40000000) (hx : -40000000 ≤ x ∧ x ≤ 40000000) (hy : -40000000 ≤ y ∧ y ≤ 40000000) :
    Calls Tryd.prog 54 #[.pointer (some ⟨q, 28, none⟩), .int .i64 x, .int .i64 y] w fun e w' => (∃ v, e = .returned v) ∧ GsAt w' q pre gw gh (reachG gw gh g x y) ∧ Kp (· = q) w w' := by
  obtain ⟨l, t, S⟩ := g
  have hlb := live_bd gw gh l t S w0 w1 h0 h1
  have LV := hide (fun (wx : World) (hx : GrAt wx q pre gw gh l t S) => live_exact q pre gw gh l t S wx hx w0 w1 h0 h1 l0 l1 t0 t1)
  unfold reachG
  simp only at l0 l1 t0 t1 ⊢
  generalize liveP gw gh l t S = b at *
  have hab := add_bd b x y (-40000100) (40000100) (by rcases hlb with h | h; exact Or.inl h; right; omega) (by rcases hlb with h | h; exact Or.inl h; right; omega) (by omega) (by omega)
  have AD := hide (fun (p : Nat) (wx : World) (hb : BxA wx p b) => add_exact p b x y wx hb)
  generalize addB b x y = c at *
  obtain ⟨ce, L', T', R', B'⟩ := c
  simp only at hab ⊢
  obtain ⟨e1, e3, e2, e4⟩ := hab
  obtain ⟨l2, hl2⟩ : ∃ l2, l2 = if gw = 0 ∧ R' - L' < 64 then L' else l := ⟨_, rfl⟩
  obtain ⟨t2, ht2⟩ : ∃ t2, t2 = if gh = 0 ∧ B' - T' < 64 then T' else t := ⟨_, rfl⟩
  rw [← hl2, ← ht2]
  have HL2 := hide hl2
  have HT2 := hide ht2
  clear hl2 ht2
  have hq := GrAt.lt h
  have H : Hid (GrAt w q pre gw gh l t S) := h
  clear h hlb
  go_enter Tryd.func54, Tryd.ntmps54
  go_wp2_with fail
  refine (LV.out _ H.out).mono ?_
  rintro e w1 ⟨rfl, k1⟩
  have G1 := hide (H.out.keep k1 (fun hx => hx))
  have hq1 := G1.out.lt
  have s1 := k1.size
  have K1 := hide (k1.mono (T := (· = q)) (fun _ hx => hx.elim))
  clear k1
  go_wp2_with (refine wpList_store_row_g rfl 81 _ _ rfl w1.heap.size (bxV b) rfl rfl 81 (bxv false 0 0 0 0) (heap_alloc_new _ _) info_box rfl (bxv_one _ _ _ _ _) ?_
               intro w2 hw2
               have G2 : Hid (GrAt w2 q pre gw gh l t S) := by rw [hw2]; exact (G1.out.alloc _).other (setRow_other _ _ _ _ (by omega))
               have B2 : Hid (BxA w2 w1.heap.size b) := by rw [hw2]; exact setRow_heap _ _ _ _ _ _ (heap_alloc_new _ _)
               have K2 : Hid (Kp (· = q) w w2) := by rw [hw2]; exact (K1.out.alloc _).setRowNew (by omega) _
               clear hw2)
  refine (AD.out w1.heap.size _ B2.out).mono ?_
  rintro e w3 ⟨⟨vv, rfl⟩, b3, k3⟩
  have hr : w3.heap[w1.heap.size]? = some (.cells (bxv ce L' T' R' B') 81 (0, 0)) := b3
  have G3 := hide (G2.out.keep k3 (by omega))
  have K3 := hide (K2.out.tr k3 (by intro z hz1 hz2; omega))
  clear k3 b3
  have c0 : w3.cell? ⟨q, 28, none⟩ = some (.int .i64 gw) := G3.out.fld 0 (by omega)
  have c1 : w3.cell? ⟨q, 29, none⟩ = some (.int .i64 gh) := G3.out.fld 1 (by omega)
  have c2 : w3.cell? ⟨q, 30, none⟩ = some (.int .i64 l) := G3.out.fld 2 (by omega)
  have c3 : w3.cell? ⟨q, 31, none⟩ = some (.int .i64 t) := G3.out.fld 3 (by omega)
  have f2 := G3.out.fro 30
  have f3 := G3.out.fro 31
  have d1 : w3.cell? ⟨w1.heap.size, 1, none⟩ = some (.int .i64 L') := cell_of_row _ _ 1 _ _ _ hr
  have d2 : w3.cell? ⟨w1.heap.size, 2, none⟩ = some (.int .i64 T') := cell_of_row _ _ 2 _ _ _ hr
  have d3 : w3.cell? ⟨w1.heap.size, 3, none⟩ = some (.int .i64 R') := cell_of_row _ _ 3 _ _ _ hr
  have d4 : w3.cell? ⟨w1.heap.size, 4, none⟩ = some (.int .i64 B') := cell_of_row _ _ 4 _ _ _ hr
  have hne : w1.heap.size ≠ q := by omega
  clear hr
  by_cases z1 : gw = 0 ∧ R' - L' < 64
  · have E1 : Hid (l2 = L') := HL2.out.trans (if_pos z1)
    obtain ⟨rfl, z1⟩ := z1
    by_cases z2 : gh = 0 ∧ B' - T' < 64
    · have E2 : Hid (t2 = T') := HT2.out.trans (if_pos z2)
      obtain ⟨rfl, z2⟩ := z2
      go_wp2_with fail
      go_end0
      exact ⟨⟨_, rfl⟩, gs_fin E1.out E2.out ((G3.out.left L').top T'), (K3.out.setCell (p := ⟨q, 30, none⟩) rfl _).setCell (p := ⟨q, 31, none⟩) rfl _⟩
    · have E2 : Hid (t2 = t) := HT2.out.trans (if_neg z2)
      by_cases z3 : gh = 0
      · subst z3
        have z4 : ¬ B' - T' < 64 := by omega
        clear z2
        go_wp2_with fail
        go_end0
        exact ⟨⟨_, rfl⟩, gs_fin E1.out E2.out (G3.out.left L'), K3.out.setCell (p := ⟨q, 30, none⟩) rfl _⟩
      · have b3 : (gh == 0) = false := by simpa using z3
        clear z2 z3
        go_wp2_with fail
        go_end0
        exact ⟨⟨_, rfl⟩, gs_fin E1.out E2.out (G3.out.left L'), K3.out.setCell (p := ⟨q, 30, none⟩) rfl _⟩
  · have E1 : Hid (l2 = l) := HL2.out.trans (if_neg z1)
    have z1' : (gw == 0) = false ∨ (gw = 0 ∧ ¬ R' - L' < 64) := by
      by_cases z : gw = 0
      · right; exact ⟨z, by omega⟩
      · left; simpa using z
    clear z1
    by_cases z2 : gh = 0 ∧ B' - T' < 64
    · have E2 : Hid (t2 = T') := HT2.out.trans (if_pos z2)
      obtain ⟨rfl, z2⟩ := z2
      rcases z1' with z1 | ⟨rfl, z1⟩
      all_goals
        go_wp2_with fail
        go_end0
        exact ⟨⟨_, rfl⟩, gs_fin E1.out E2.out (G3.out.top T'), K3.out.setCell (p := ⟨q, 31, none⟩) rfl _⟩
    · have E2 : Hid (t2 = t) := HT2.out.trans (if_neg z2)
      by_cases z3 : gh = 0
      · subst z3
        have z4 : ¬ B' - T' < 64 := by omega
        clear z2
        rcases z1' with z1 | ⟨rfl, z1⟩
        all_goals
          go_wp2_with fail
          go_end0
          exact ⟨⟨_, rfl⟩, gs_fin E1.out E2.out G3.out, K3.out⟩
      · have b3 : (gh == 0) = false := by simpa using z3
        clear z2 z3
        rcases z1' with z1 | ⟨rfl, z1⟩
        all_goals
          go_wp2_with fail
          go_end0
          exact ⟨⟨_, rfl⟩, gs_fin E1.out E2.out G3.out, K3.out⟩
theorem reach_bd (gw gh : Int) (g : Gs) (x y : Int) (w0 : 0 ≤ gw) (w1 : gw ≤ 12) (h0 : 0 ≤ gh) (h1 : gh ≤ 12)
    (l0 : -40000000 ≤ g.l) (l1 : g.l ≤ 40000000) (t0 : -40000000 ≤ g.t) (t1 : g.t ≤ 40000000) (hx : -40000000 ≤ x ∧ x ≤ 40000000) (hy : -40000000 ≤ y ∧ y ≤ 40000000) : (-40000100 ≤ (reachG gw gh g x y).l ∧ (reachG gw gh g x y).l ≤ 40000100) ∧ (-40000100 ≤ (reachG gw gh g x y).t ∧ (reachG gw gh g x y).t ≤ 40000100) := by
  have hlb := live_bd gw gh g.l g.t g.S w0 w1 h0 h1
  have hab := add_bd (liveP gw gh g.l g.t g.S) x y (-40000100) (40000100) (by rcases hlb with h | h; exact Or.inl h; right; omega) (by rcases hlb with h | h; exact Or.inl h; right; omega) (by omega) (by omega)
  unfold reachG
  simp only
  constructor <;> split <;> omega

set_option maxRecDepth 100000 in
set_option maxHeartbeats 1000000 in
theorem put_exact (q : Nat) (pre : Array Value) (gw gh : Int) (g : Gs) (x y u : Int) (w : World) (h : GsAt w q pre gw gh g) (w0 : 0 ≤ gw) (w1 : gw ≤ 12) (h0 : 0 ≤ gh) (h1 : gh ≤ 12)
    (l0 : -40000000 ≤ g.l) (l1 : g.l ≤ 40000000) (t0 : -40000000 ≤ g.t) (t1 : g.t ≤ 40000000) (hx : -40000000 ≤ x ∧ x ≤ 40000000) (hy : -40000000 ≤ y ∧ y ≤ 40000000) :
    Calls Tryd.prog 34 #[.pointer (some ⟨q, 28, none⟩), .int .i64 x, .int .i64 y, .int .i64 u] w fun e w' => e = .returned (.bool (putG gw gh g x y u).1) ∧ GsAt w' q pre gw gh (putG gw gh g x y u).2 ∧ Kp (· = q) w w' := by
  unfold putG
  by_cases hz : 0 ≤ slotP gw gh g.l g.t x y
  · rw [if_pos hz]
    exact put_in q pre gw gh g.l g.t g.S x y u w h w0 w1 h0 h1 (by omega) (by omega) (by omega) (by omega) hz
  · rw [if_neg hz]
    have hb := slotP_bd gw gh g.l g.t x y w0 w1 h0 h1
    have HS := hide (fun wx hx => slot_any q pre gw gh g.l g.t g.S x y wx hx w0 w1 h0 h1 (by omega) (by omega) (by omega) (by omega))
    generalize slotP gw gh g.l g.t x y = z at *
    have H : Hid (GrAt w q pre gw gh g.l g.t g.S) := h
    by_cases hu : u = 0
    · rw [if_pos hu]
      subst hu
      clear h
      go_enter Tryd.func34, Tryd.ntmps34
      go_wp2_with fail
      refine (HS.out _ H.out).mono ?_
      rintro e w1 ⟨rfl, hw⟩
      subst w1
      go_wp2_with fail
      go_ret
      exact ⟨rfl, H.out, Kp.refl _ _⟩
    · rw [if_neg hu]
      have bu : (u == 0) = false := by simpa using hu
      have RE := hide (reach_exact q pre gw gh g x y w h w0 w1 h0 h1 l0 l1 t0 t1 hx hy)
      have rb := reach_bd gw gh g x y w0 w1 h0 h1 l0 l1 t0 t1 hx hy
      generalize reachG gw gh g x y = g2 at *
      have hb2 := slotP_bd gw gh g2.l g2.t x y w0 w1 h0 h1
      have HS2 := hide (fun wx hx => slot_any q pre gw gh g2.l g2.t g2.S x y wx hx w0 w1 h0 h1 (by omega) (by omega) (by omega) (by omega))
      unfold setG
      generalize slotP gw gh g2.l g2.t x y = z2 at *
      obtain ⟨R, hR⟩ : ∃ R : Bool × Gs, R = if 0 ≤ z2 then (true, ⟨g2.l, g2.t, g2.S.set z2.toNat u⟩) else (false, g2) := ⟨_, rfl⟩
      rw [← hR]
      have HR := hide hR
      clear h hR
      go_enter Tryd.func34, Tryd.ntmps34
      go_wp2_with fail
      refine (HS.out _ H.out).mono ?_
      rintro e w1 ⟨rfl, hw⟩
      subst w1
      clear hu
      go_wp2_with fail
      refine RE.out.mono ?_
      rintro e w2 ⟨⟨vv, rfl⟩, g2', k2⟩
      have G2 : Hid (GrAt w2 q pre gw gh g2.l g2.t g2.S) := g2'
      have K2 := hide k2
      clear k2 HS H g2' RE
      go_wp2_with fail
      refine (HS2.out _ G2.out).mono ?_
      rintro e w3 ⟨rfl, hw⟩
      subst w3
      by_cases hz2 : z2 < 0
      · have E : Hid (R = (false, g2)) := HR.out.trans (if_neg (by omega))
        clear HR
        go_wp2_with fail
        go_ret
        exact ⟨by rw [E.out]; rfl, by rw [E.out]; exact G2.out, K2.out⟩
      · have E : Hid (R = (true, ⟨g2.l, g2.t, g2.S.set z2.toNat u⟩)) := HR.out.trans (if_pos (by omega))
        clear HR
        obtain ⟨k, rfl⟩ := Int.eq_ofNat_of_zero_le (show 0 ≤ z2 by omega)
        have hk : k < 768 := by omega
        have hc := G2.out.cell k hk
        have hf := G2.out.fro (32 + k)
        clear HS2
        go_wp2_with fail
        go_ret
        exact ⟨by rw [E.out]; rfl, by rw [E.out]; exact G2.out.put k hk u, K2.out.setCell (p := ⟨q, 32 + k, none⟩) rfl _⟩
end Go.Proofs.YtbdbkjngdhcjpaaDoor
