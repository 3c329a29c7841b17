import Derived.Test.YtiimimclbkjcbaaM15
import Derived.Test.YtiimimclbkjcbaaM4
import Derived.Deep.LoopGhost
namespace Go.Proofs.Ytiimimclbkjcbaa
open Go.RowKit
open Go.Proofs

/-- The same, standing. -/
structure Std (xU xW : Pu.Shape) : Prop where
  uw : xU.h = 12
  ww : xW.h = 0
  hh : xW.w = xU.w
  h0 : 1 ≤ xU.w ∧ xU.w ≤ 12
  kk : xW.kind = xU.kind
  kd : xU.kind = 80 ∨ xU.kind = 84
  us : xU.ws = 0 ∧ xU.hs = 0 ∧ xU.wst = false ∧ xU.hst = false
  wsn : xW.ws = 0 ∧ xW.hs = 0 ∧ xW.wst = false ∧ xW.hst = false
section
variable {xU xW : Pu.Shape}
theorem Std.okU (h : Std xU xW) : Pu.ShapeOk xU := by
  have h0 := h.h0
  have us := h.us
  have uw := h.uw
  refine ⟨?_, by omega, by omega, by omega, by omega, by omega, by omega, by omega, fun e => by omega⟩
  rcases h.kd with e | e <;> rw [e] <;> simp
theorem Std.okW (h : Std xU xW) : Pu.ShapeOk xW := by
  have h0 := h.h0
  have us := h.wsn
  have uw := h.ww
  have hh := h.hh
  refine ⟨?_, by omega, by omega, by omega, by omega, by omega, by omega, by omega, fun _ => by rw [h.kk]; exact h.kd⟩
  rw [h.kk]
  rcases h.kd with e | e <;> rw [e] <;> simp
theorem Std.two (h : Std xU xW) : Two xU := by
  have h0 := h.h0
  have uw := h.uw
  exact ⟨by omega, by omega, by omega, by omega⟩
/-- The two tell the same cells, and what is alive lies in the middle. -/
structure Rs (r : Pu.Rule) (xU xW : Pu.Shape) (k : Int) (gU gW : Gs) : Prop where
  same : ∀ X Y, getG xW.w xW.h gW X Y = getG xU.w xU.h gU X Y
  col : ∀ X Y, getG xU.w xU.h gU X Y ≠ 0 → (4 - k ≤ Y ∧ Y ≤ 7 + k) ∧ (0 ≤ X ∧ X < xU.w)
  okU : GsOk r.states xU.w xU.h gU
  okW : GsOk r.states xW.w xW.h gW
variable {r : Pu.Rule} {k : Int} {gU gW : Gs}
theorem Rs.dead (h : Rs r xU xW k gU gW) {X Y : Int} (hX : Y < 4 - k ∨ 7 + k < Y) : getG xU.w xU.h gU X Y = 0 := by
  by_cases z : getG xU.w xU.h gU X Y = 0
  · exact z
  · have := (h.col X Y z).1
    omega
theorem nbU2 (hl : Std xU xW) (hk : xU.kind = 84) (g : Gs) (X Y : Int) : nbG xU g X Y = getG xU.w xU.h g (X % xU.w) (Y % 12) := by
  have f := fold_flat hk hl.us X Y
  have h0 := hl.h0
  unfold nbG
  rw [if_neg (fun hb : beyond xU X Y => by have := hb.1; omega), if_pos (show foldsB xU from Or.inl hk), f.1, f.2]
  unfold splitR
  rw [if_neg (by omega), if_neg (by rw [hl.uw]; omega), hl.uw]
theorem nbW2 (hl : Std xU xW) (hk : xU.kind = 84) (g : Gs) (X Y : Int) : nbG xW g X Y = getG xW.w xW.h g (X % xU.w) Y := by
  have hk' : xW.kind = 84 := hl.kk.trans hk
  have f := fold_flat hk' hl.wsn X Y
  have h0 := hl.h0
  unfold nbG
  rw [if_neg (fun hb : beyond xW X Y => by have := hb.1; omega), if_pos (show foldsB xW from Or.inl hk'), f.1, f.2]
  unfold splitR
  rw [if_neg (by rw [hl.hh]; omega), if_pos hl.ww, hl.hh]
/-- Both know the same neighbours. -/
theorem nb_std (hl : Std xU xW) (h : Rs r xU xW k gU gW) (hk : k ≤ 3) {X Y : Int} (hX : -1 ≤ Y ∧ Y ≤ 12) : nbG xW gW X Y = nbG xU gU X Y := by
  have h0 := hl.h0
  rcases hl.kd with e | e
  · rw [nb_plane (hl.kk.trans e), nb_plane e]
    have hU : hasB xU X Y = true ↔ (0 ≤ X ∧ X < xU.w) ∧ (0 ≤ Y ∧ Y < 12) := by
      rw [has_iff hl.two, hl.uw]
    have hW : hasB xW X Y = true ↔ 0 ≤ X ∧ X < xU.w := by
      unfold hasB onSideB
      rw [Bool.and_eq_true, decide_eq_true_iff, decide_eq_true_iff, hl.ww, hl.hh]
      omega
    by_cases c : hasB xU X Y = true
    · rw [if_pos c, if_pos (hW.2 (hU.1 c).1), h.same]
    · rw [if_neg c]
      by_cases d : hasB xW X Y = true
      · rw [if_pos d, h.same]
        refine h.dead ?_
        have := hW.1 d
        have : ¬ (0 ≤ Y ∧ Y < 12) := fun hh => c (hU.2 ⟨by omega, hh⟩)
        omega
      · rw [if_neg d]
  · rw [nbU2 hl e, nbW2 hl e, h.same]
    by_cases c : 0 ≤ Y ∧ Y < 12
    · rw [Int.emod_eq_of_lt c.1 c.2]
    · rw [h.dead (Y := Y) (by omega), h.dead (Y := Y % 12) (by omega)]
theorem val_std (hl : Std xU xW) (h : Rs r xU xW k gU gW) (hk : k ≤ 3) {X Y : Int} (hX : 0 ≤ Y ∧ Y < 12) : valN r xW gW X Y = valN r xU gU X Y := by
  unfold valN
  rw [h.same]
  congr 1
  refine ones9_congr 9 (fun a b ha hb => ?_)
  unfold onesW
  simp only
  rw [nb_std hl h hk (by omega)]
/-- Where nothing is alive around, nothing is born. -/
theorem val_gone (hl : Std xU xW) (h : Rs r xU xW k gU gW) (hk : k ≤ 3) (hb : r.births.getD 0 false = false) {X Y : Int} (hX : 0 ≤ Y ∧ Y < 12) (hd : ∀ X' Y', Y - 1 ≤ Y' → Y' ≤ Y + 1 → getG xU.w xU.h gU X' Y' = 0) : valN r xU gU X Y = 0 := by
  have hn : ∀ X' Y', Y - 1 ≤ Y' → Y' ≤ Y + 1 → nbG xU gU X' Y' = 0 := by
    intro X' Y' h1 h2
    rcases hl.kd with e | e
    · rw [nb_plane e]
      split
      · exact hd X' Y' h1 h2
      · rfl
    · rw [nbU2 hl e]
      by_cases c : 0 ≤ Y' ∧ Y' < 12
      · rw [Int.emod_eq_of_lt c.1 c.2]
        exact hd _ Y' h1 h2
      · exact h.dead (by omega)
  unfold valN
  rw [hd X Y (by omega) (by omega), ones9_none 9 (fun a b ha _ => by
    unfold onesW
    simp only
    rw [hn _ _ (by omega) (by omega)]
    simp)]
  unfold nextR
  rw [if_pos rfl, hb]
  simp
theorem area_U2 (hl : Std xU xW) (g : Gs) (X Y : Int) : InA xU g X Y ↔ (0 ≤ X ∧ X < xU.w) ∧ (0 ≤ Y ∧ Y < 12) := by
  have h0 := hl.h0
  have uw := hl.uw
  have e : areaG xU g = ⟨false, 0, 0, xU.w - 1, xU.h - 1⟩ := by
    unfold areaG areaP
    split
    · rfl
    · rw [if_neg (by omega), if_neg (by omega), if_neg (by omega), if_neg (by omega)]
  unfold InA
  rw [e]
  simp only
  omega
/-- The endless one's area. -/
theorem area_W2 (hl : Std xU xW) (h : Rs r xU xW k gU gW) : (∀ X Y, InA xW gW X Y → (3 - k ≤ Y ∧ Y ≤ 8 + k) ∧ (0 ≤ X ∧ X < xU.w)) ∧ (∀ X Y, 0 ≤ X ∧ X < xU.w → ¬ InA xW gW X Y → ∀ X' Y', Y - 1 ≤ Y' → Y' ≤ Y + 1 → getG xU.w xU.h gU X' Y' = 0) := by
  have h0 := hl.h0
  have ed := edges_live (gw := xW.w) (gh := xW.h) (l := gW.l) (t := gW.t) gW.S (PX := fun _ => True) (PY := fun Y => 4 - k ≤ Y ∧ Y ≤ 7 + k) (fun X Y hg => by
    have : getG xW.w xW.h gW X Y ≠ 0 := hg
    rw [h.same] at this
    exact ⟨trivial, (h.col X Y this).1⟩)
  have hol : ∀ X Y, getG xU.w xU.h gU X Y ≠ 0 → Hold (liveP xW.w xW.h gW.l gW.t gW.S) X Y := fun X Y hg => by
    rw [← h.same] at hg
    exact hold_live gW.S hg
  unfold InA areaG areaP
  generalize liveP xW.w xW.h gW.l gW.t gW.S = b at *
  have ww := hl.ww
  have hh := hl.hh
  by_cases e : b.e = true
  · simp only [if_pos e]
    refine ⟨fun X Y hA => by omega, fun X Y hY hn X' Y' h1 h2 => ?_⟩
    by_cases z : getG xU.w xU.h gU X' Y' = 0
    · exact z
    · have := (hol X' Y' z).1
      rw [e] at this
      cases this
  · obtain ⟨_, _, e1, e2⟩ := ed.resolve_left e
    simp only [if_neg e, if_pos ww, if_neg (show ¬ xW.w = 0 by omega)]
    refine ⟨fun X Y hA => by omega, fun X Y hY hn X' Y' h1 h2 => ?_⟩
    by_cases z : getG xU.w xU.h gU X' Y' = 0
    · exact z
    · have := (hol X' Y' z).2.2
      omega
/-- One generation on. -/
theorem next_std (h2 : 2 ≤ r.states) (hb : r.births.getD 0 false = false) (hl : Std xU xW) (h : Rs r xU xW k gU gW) (h0 : 0 ≤ k) (hk : k ≤ 3) : (nextG r xU gU).1 = true ∧ (nextG r xW gW).1 = true ∧ Rs r xU xW (k + 1) (nextG r xU gU).2 (nextG r xW gW).2 := by
  obtain ⟨aw1, aw2⟩ := area_W2 hl h
  have hh := hl.h0
  have rU : Roomy r xU gU := ⟨fun X Y _ _ => near_two hl.two X Y, fun e => by omega, fun e => by have := hl.uw; omega⟩
  have rW : Roomy r xW gW := by
    refine ⟨fun X Y hA _ => ?_, fun e => (by have := hl.hh; omega), fun _ X Y X' Y' hA _ hA' _ => ?_⟩
    · have := aw1 X Y hA
      unfold nearB nearOnB
      rw [Bool.and_eq_true, decide_eq_true_iff, decide_eq_true_iff]
      have := hl.hh
      omega
    · have := aw1 X Y hA
      have := aw1 X' Y' hA'
      omega
  obtain ⟨u1, u2, u3⟩ := next_spec h2 hl.okU h.okU rU
  obtain ⟨w1, w2, w3⟩ := next_spec h2 hl.okW h.okW rW
  have key : ∀ X Y, getG xW.w xW.h (nextG r xW gW).2 X Y = getG xU.w xU.h (nextG r xU gU).2 X Y ∧ (getG xU.w xU.h (nextG r xU gU).2 X Y ≠ 0 → InA xW gW X Y) := by
    intro X Y
    rw [u3, w3]
    by_cases c : InA xW gW X Y
    · have := aw1 X Y c
      have cU : InA xU gU X Y := (area_U2 hl gU X Y).2 (by omega)
      rw [if_pos c, if_pos cU]
      exact ⟨val_std hl h hk (by omega), fun _ => c⟩
    · rw [if_neg c]
      by_cases cU : InA xU gU X Y
      · have hU := (area_U2 hl gU X Y).1 cU
        rw [if_pos cU, val_gone hl h hk hb hU.2 (aw2 X Y hU.1 c)]
        exact ⟨rfl, fun hz => absurd rfl hz⟩
      · rw [if_neg cU]
        exact ⟨rfl, fun hz => absurd rfl hz⟩
  refine ⟨u1, w1, ⟨fun X Y => (key X Y).1, fun X Y hz => ?_, u2, w2⟩⟩
  have := aw1 X Y ((key X Y).2 hz)
  omega
theorem step_std (h2 : 2 ≤ r.states) (hb : r.births.getD 0 false = false) (hl : Std xU xW) (h : Rs r xU xW 0 gU gW) : ∀ n : Nat, n ≤ 4 → (stepG r xU gU n).1 = true ∧ (stepG r xW gW n).1 = true ∧ Rs r xU xW n (stepG r xU gU n).2 (stepG r xW gW n).2 := by
  intro n
  induction n with
  | zero => intro _; exact ⟨rfl, rfl, h⟩
  | succ n ih =>
    intro hn
    obtain ⟨i1, i2, i3⟩ := ih (by omega)
    obtain ⟨n1, n2, n3⟩ := next_std h2 hb hl i3 (by omega) (by omega)
    unfold stepG
    rw [if_neg (by rw [i1]; simp), if_neg (by rw [i2]; simp)]
    exact ⟨n1, n2, n3⟩
end
end Go.Proofs.Ytiimimclbkjcbaa
namespace Go.Proofs.Ytiimimclbkjcbaa
open Go.RowKit
open Go.Proofs

/-- How many are not 0. -/
def countP (S : List Int) : Nat := (S.filter (fun v => v != 0)).length
theorem countP_snoc (S : List Int) (k : Nat) (h : k < S.length) : countP (S.take (k + 1)) = countP (S.take k) + if S[k] = 0 then 0 else 1 := by
  unfold countP
  rw [List.take_succ_eq_append_getElem h, List.filter_append, List.length_append]
  by_cases e : S[k] = 0 <;> simp [e]
theorem countP_le (S : List Int) : countP S ≤ S.length := List.length_filter_le _ _

set_option maxHeartbeats 400000 in
set_option maxRecDepth 100000 in
theorem gcount_any (q : Nat) (pre : Array Value) (gw gh l t : Int) (S : List Int) (w : World) (h : GrAt w q pre gw gh l t S) :
    Calls Try.prog 35 #[.pointer (some ⟨q, 28, none⟩)] w fun e w' => e = .returned (.int .i64 (countP S)) ∧ w' = w := by
  have HL := hide h.len
  have H := hide h
  clear h
  go_enter Try.func35, Try.ntmps35
  go_wp2
  go_loop [3, 4] (fun n i => ∃ k : Nat, k ≤ 768 ∧ i = .int .i64 k ∧ n = .int .i64 (countP (S.take k))) (fun _ i => 768 - (intOf i).toNat)
  case atStart => exact ⟨0, by omega, rfl, rfl⟩
  case round =>
    obtain ⟨k, hk, rfl, rfl⟩ := hrel
    have hcl := countP_le (S.take k)
    have hcl2 : (S.take k).length ≤ k := List.length_take_le _ _
    by_cases hlt : k < 768
    · have hc := H.out.cell k hlt
      have HS := hide (countP_snoc S k (by rw [HL.out]; exact hlt))
      by_cases e : S[k]'(by rw [HL.out]; exact hlt) = 0
      · rw [e] at hc
        go_wp2
        go_round
        case rel => exact ⟨k + 1, by omega, by go_num, by rw [HS.out, if_pos e]; rfl⟩
        case measure => simp [intOf]; omega
      · have be : (S[k]'(by rw [HL.out]; exact hlt) != 0) = true := by simpa using e
        have E := hide e
        clear e
        go_wp2
        go_round
        case rel => exact ⟨k + 1, by omega, by go_num, by rw [HS.out, if_neg E.out]; go_num⟩
        case measure => simp [intOf]; omega
    · go_wp2
      go_ret
      exact ⟨ret_int (by rw [List.take_of_length_le (by rw [HL.out]; omega)]), rfl⟩
end Go.Proofs.Ytiimimclbkjcbaa
