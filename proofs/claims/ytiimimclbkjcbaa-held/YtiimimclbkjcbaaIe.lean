import Derived.Test.YtiimimclbkjcbaaIz
import Derived.Test.YtiimimclbkjcbaaIb
namespace Go.Proofs.Ytiimimclbkjcbaa
open Go.RowKit
open Go.Proofs

theorem fits_of {f : Pu.Src} : ∀ {L : List Int} {i : Nat}, (∀ k (h : k < L.length), f (i + k) = L[k]) → Pu.Fits f i L := by
  intro L
  induction L with
  | nil => intro i _; trivial
  | cons a L ih =>
    intro i h
    refine ⟨h 0 (by simp), ih fun k hk => ?_⟩
    have := h (k + 1) (by simpa using hk)
    rw [show i + 1 + k = i + (k + 1) by omega]
    simpa using this
theorem fits_bstr {L : List Int} (h : ∀ x, x ∈ L → 0 ≤ x ∧ x < 256) : Pu.Fits (src (bstr L)) 0 (L ++ [-1]) := by
  apply fits_of
  intro k hk
  rw [Nat.zero_add]
  have hz := bstr_size L
  by_cases hl : k < L.length
  · rw [src_lt (by omega), List.getElem_append_left hl]
    have hx := h L[k] (List.getElem_mem hl)
    have e : ((bstr L)[k]'(by omega)) = UInt8.ofNat (L[k]).toNat := by
      show ((bstr L).data[k]'_) = _
      simp [bstr]
    rw [e, UInt8.toNat_ofNat']
    omega
  · rw [src_ge (by omega)]
    have e : k = L.length := by simp at hk; omega
    subst e
    simp
theorem num_bytes {n : Int} (h : 0 ≤ n ∧ n < 100) : ∀ x, x ∈ Pu.numL n → 0 ≤ x ∧ x < 256 := by
  intro x hx
  unfold Pu.numL Pu.dec at hx
  split at hx
  · simp at hx; omega
  · simp at hx; omega
theorem side_bytes {n s : Int} {b : Bool} (h : 0 ≤ n ∧ n < 100) (hs : 0 ≤ s ∧ s < 100) : ∀ x, x ∈ Pu.sideL n s b → 0 ≤ x ∧ x < 256 := by
  intro x hx
  unfold Pu.sideL at hx
  rw [List.mem_append, List.mem_append] at hx
  rcases hx with (hx | hx) | hx
  · exact num_bytes h x hx
  · split at hx
    · rcases List.mem_cons.1 hx with rfl | hx
      · omega
      · exact num_bytes hs x hx
    · simp at hx
  · split at hx
    · simp at hx; omega
    · simp at hx
theorem bits_bytes (b : Nat) : ∀ x, x ∈ (Pu.bitL b).map (· + 48) → 0 ≤ x ∧ x < 256 := by
  intro x hx
  rw [List.mem_map] at hx
  obtain ⟨d, hd, rfl⟩ := hx
  have := (Pu.bitL_bd b).1 d hd
  omega
theorem text_bytes {p : Pu.Plan} (h : Pu.PlanOk p) : ∀ x, x ∈ Pu.textL p → 0 ≤ x ∧ x < 256 := by
  intro x hx
  have hn := pnear_bd h
  have hk := kind_bd h
  have hc := h.c
  have hw := h.w
  have hh := h.h
  have ht := h.torus
  unfold Pu.textL Pu.ruleL Pu.shapeL at hx
  simp only [List.mem_append, List.mem_singleton, or_assoc] at hx
  rcases hx with rfl | rfl | hx | rfl | rfl | hx | hx | rfl | rfl | hx | rfl | hx | hx
  · exact hn
  · omega
  · exact bits_bytes _ x hx
  · omega
  · omega
  · exact bits_bytes _ x hx
  · split at hx
    · simp at hx; omega
    · simp at hx
  · omega
  · exact hk
  · exact side_bytes (by omega) (by omega) x hx
  · omega
  · exact side_bytes (by omega) (by omega) x hx
  · simp at hx; omega
theorem two_plan {p : Pu.Plan} (h : Pu.PlanOk p) : Two (Pu.shapeOf p) := by
  have hw := h.w
  have hh := h.h
  exact ⟨by show 0 < p.w; omega, hw.2, by show 0 < p.h; omega, hh.2⟩
/-- The world of a plan's text. -/
theorem Load_text (p : Pu.Plan) (hp : Pu.PlanOk p) (w : World) :
    Calls Try.prog 14 #[.string (bstr (Pu.textL p))] w fun e w' => (∃ q, e = .returned (.tuple #[.pointer (some ⟨q, 0, none⟩), .int .i64 0, .int .i64 0]) ∧ w.heap.size ≤ q ∧ RuleOk (Pu.ruleOf p) ∧ GrAt w' q (preOf (Pu.ruleOf p) (Pu.shapeOf p) 0) p.w p.h 0 0 noS) ∧ Kp (fun _ => False) w w' :=
  Load_plain (bstr (Pu.textL p)) w (by rw [bstr_size]; have := Pu.textL_len p; omega) _ (Pu.partsOf p) (Pu.read_plan hp _ (fits_bstr (text_bytes hp))) (two_plan hp) rfl
end Go.Proofs.Ytiimimclbkjcbaa
