import Derived.Test.YtbdbkjngdhcjpaaDoorM5
import Derived.Test.YtbdbkjngdhcjpaaDoorGj
namespace Go.Proofs.YtbdbkjngdhcjpaaDoor
open Go.RowKit
open Go.Proofs

theorem zero_grid : (Tryd.prog.info? 53).map (·.zero) = some (some (.agg (gnew 0 0 noS))) := by kernel_rfl
theorem built_grid (gw gh : Int) : Tryd.prog.built 53 [(0, .int .i64 gw), (1, .int .i64 gh)] = some (gnew gw gh noS) := by kernel_rfl

theorem new_any (gw gh : Int) (w : World) : Calls Tryd.prog 47 #[.int .i64 gw, .int .i64 gh] w fun e w' => e = .returned (.agg (gnew gw gh noS)) ∧ Kp (fun _ => False) w w' :=
  new_core noS noS_len zero_grid gw gh (built_grid gw gh) w
end Go.Proofs.YtbdbkjngdhcjpaaDoor
namespace Go.Proofs.YtbdbkjngdhcjpaaDoor
open Go.RowKit
open Go.Proofs

theorem built_world9 (a c age : Int) (x : Pu.Shape) (b0 b1 b2 b3 b4 b5 b6 b7 b8 s0 s1 s2 s3 s4 s5 s6 s7 s8 : Bool) :
    Tryd.prog.built 55 [(0, .agg (rulev ⟨a, [b0, b1, b2, b3, b4, b5, b6, b7, b8], [s0, s1, s2, s3, s4, s5, s6, s7, s8], c⟩)), (1, .agg (shv x)), (2, .int .i64 age)] =
      some (grv (preOf ⟨a, [b0, b1, b2, b3, b4, b5, b6, b7, b8], [s0, s1, s2, s3, s4, s5, s6, s7, s8], c⟩ x age) 0 0 0 0 noS) := by kernel_rfl
theorem built_world (r : Pu.Rule) (hr : RuleOk r) (x : Pu.Shape) (age : Int) : Tryd.prog.built 55 [(0, .agg (rulev r)), (1, .agg (shv x)), (2, .int .i64 age)] = some (grv (preOf r x age) 0 0 0 0 noS) := by
  obtain ⟨a, l, m, c⟩ := r
  obtain ⟨b0, b1, b2, b3, b4, b5, b6, b7, b8, e1⟩ := nine l hr.1
  obtain ⟨s0, s1, s2, s3, s4, s5, s6, s7, s8, e2⟩ := nine m hr.2
  subst e1
  subst e2
  exact built_world9 a c age x b0 b1 b2 b3 b4 b5 b6 b7 b8 s0 s1 s2 s3 s4 s5 s6 s7 s8
end Go.Proofs.YtbdbkjngdhcjpaaDoor
namespace Go.Proofs.YtbdbkjngdhcjpaaDoor
open Go.RowKit
open Go.Proofs

theorem load_ok (s : ByteArray) (w : World) (hs : s.size ≤ 400) (j : Nat) (p : Pu.Parts) (hq : Hid (Pu.read (src s) = (j, some p))) :
    Calls Tryd.prog 27 #[.string s] w fun e w' => (∃ u c, e = .returned (.tuple #[u, .int .i64 0, .int .i64 c]) ∧ (c = 0 ∨ c = 3 ∨ c = 4)) ∧ Kp (fun _ => False) w w' :=
  load_some noS noS_len built_world new_any s w hs j p hq

/-- Load of a text that is too long. -/
theorem Load_long (s : ByteArray) (w : World) (hs : 400 < s.size) (hm : s.size ≤ maxLen) :
    Calls Tryd.prog 12 #[.string s] w fun e w' => e = .returned (.tuple #[.pointer none, .int .i64 0, .int .i64 1]) ∧ w' = w := by
  unfold maxLen at hm
  go_enter Tryd.func12, Tryd.ntmps12
  go_wp2_with fail
  go_ret3
  exact ⟨rfl, rfl⟩

/-- Load of what is no text: the place is where the reader stands. -/
theorem Load_none (s : ByteArray) (w : World) (hs : s.size ≤ 400) (j : Nat) (hq : Hid (Pu.read (src s) = (j, none))) :
    Calls Tryd.prog 12 #[.string s] w fun e w' => e = .returned (.tuple #[.pointer none, .int .i64 j, .int .i64 2]) ∧ Kp (fun _ => False) w w' := by
  go_enter Tryd.func12, Tryd.ntmps12
  go_wp2_with fail
  refine (load_none s _ hs j hq).mono ?_
  rintro e w1 ⟨rfl, k1⟩
  go_wp2_with fail
  go_ret3
  exact ⟨rfl, k1⟩

/-- Load of a text: it is not ErrText and not ErrLong. -/
theorem Load_some (s : ByteArray) (w : World) (hs : s.size ≤ 400) (j : Nat) (p : Pu.Parts) (hq : Hid (Pu.read (src s) = (j, some p))) :
    Calls Tryd.prog 12 #[.string s] w fun e w' => (∃ u c, e = .returned (.tuple #[u, .int .i64 0, .int .i64 c]) ∧ (c = 0 ∨ c = 3 ∨ c = 4)) ∧ Kp (fun _ => False) w w' := by
  go_enter Tryd.func12, Tryd.ntmps12
  go_wp2_with fail
  refine (load_ok s _ hs j p hq).mono ?_
  rintro e w1 ⟨⟨u, c, rfl, hc⟩, k1⟩
  have HC := hide hc
  clear hc
  go_wp2_with fail
  go_ret3
  exact ⟨⟨u, c, rfl, HC.out⟩, k1⟩
end Go.Proofs.YtbdbkjngdhcjpaaDoor
namespace Go.Proofs.YtbdbkjngdhcjpaaDoor
open Go.RowKit
open Go.Proofs

theorem GrAt.rule {w : World} {q : Nat} {r : Pu.Rule} {x : Pu.Shape} {age : Int} {gw gh l t : Int} {S : List Int} (h : GrAt w q (preOf r x age) gw gh l t S) (hr : RuleOk r) (j : Nat) (v : Value) (hv : (rulev r)[j]? = some v) : w.cell? ⟨q, 0 + j, none⟩ = some v := by
  have hj : j < 20 := by
    rcases Nat.lt_or_ge j 20 with h7 | h7
    · exact h7
    · rw [Array.getElem?_eq_none (by rw [rulev_size hr]; omega)] at hv; simp at hv
  rw [cell_of_row w q _ _ _ _ h.row, grv_get h.psz, if_pos (by omega), Nat.zero_add]
  unfold preOf
  rw [Array.getElem?_append, if_pos (by rw [Array.size_append, rulev_size hr]; omega), Array.getElem?_append, if_pos (by rw [rulev_size hr]; omega)]
  exact hv
theorem rulev_around {r : Pu.Rule} : (rulev r)[0]? = some (.int .u8 r.around) := by
  unfold rulev
  simp [Array.getElem?_append]
theorem bv_getD (l : List Bool) (hl : l.length = 9) (m : Nat) (hm : m < 9) : (bv l)[m]? = some (.bool (l.getD m false)) := by
  rw [bv_get l m (by omega)]
  simp [List.getD, show m < l.length by omega]
theorem rule_at {r : Pu.Rule} (hr : RuleOk r) (m : Nat) (hm : m < 9) : (rulev r)[1 + m]? = some (.bool (r.births.getD m false)) ∧ (rulev r)[10 + m]? = some (.bool (r.survivals.getD m false)) := by
  have z1 : (#[Value.int .u8 r.around] : Array Value).size = 1 := rfl
  have z2 : (#[Value.int .u8 r.around] ++ bv r.births).size = 10 := by rw [Array.size_append, z1, bv_size, hr.1]
  have z3 : (#[Value.int .u8 r.around] ++ bv r.births ++ bv r.survivals).size = 19 := by rw [Array.size_append, z2, bv_size, hr.2]
  unfold rulev
  constructor
  · rw [Array.getElem?_append, if_pos (by omega), Array.getElem?_append, if_pos (by omega), Array.getElem?_append, if_neg (by omega), z1, show 1 + m - 1 = m by omega]
    exact bv_getD _ hr.1 m hm
  · rw [Array.getElem?_append, if_pos (by omega), Array.getElem?_append, if_neg (by omega), z2, show 10 + m - 10 = m by omega]
    exact bv_getD _ hr.2 m hm
theorem app_set (A : Array Value) (h : A.size = 27) (u v : Value) : (A ++ #[u]).setIfInBounds 27 v = A ++ #[v] := by
  apply Array.ext_getElem?
  intro m
  rw [Array.getElem?_setIfInBounds, Array.size_append, h, Array.getElem?_append, Array.getElem?_append, h]
  by_cases e : 27 = m
  · subst e
    simp
  · rw [if_neg e]
    by_cases l : m < 27
    · rw [if_pos l, if_pos l]
    · rw [if_neg l, if_neg l, Array.getElem?_eq_none (by simp; omega), Array.getElem?_eq_none (by simp; omega)]
theorem preOf_age {r : Pu.Rule} (h : RuleOk r) (x : Pu.Shape) (a b : Int) : (preOf r x a).setIfInBounds 27 (.int .i64 b) = preOf r x b :=
  app_set (rulev r ++ shv x) (by rw [Array.size_append, rulev_size h]; rfl) _ _
theorem GrAt.age {w : World} {q : Nat} {r : Pu.Rule} {x : Pu.Shape} {a gw gh l t : Int} {S : List Int} (h : GrAt w q (preOf r x a) gw gh l t S) (hr : RuleOk r) : w.cell? ⟨q, 27, none⟩ = some (.int .i64 a) := by
  rw [cell_of_row w q _ _ _ _ h.row, grv_get h.psz, if_pos (by omega)]
  unfold preOf
  have z1 : (rulev r ++ shv x).size = 27 := by rw [Array.size_append, rulev_size hr]; rfl
  rw [Array.getElem?_append, if_neg (by omega), z1]
  rfl
theorem GrAt.setAge {w : World} {q : Nat} {r : Pu.Rule} {x : Pu.Shape} {a gw gh l t : Int} {S : List Int} (h : GrAt w q (preOf r x a) gw gh l t S) (hr : RuleOk r) (b : Int) : GrAt (w.setCell ⟨q, 27, none⟩ (.int .i64 b)) q (preOf r x b) gw gh l t S := by
  refine ⟨?_, preOf_size hr x b, h.len⟩
  rw [heap_setCell_same w q _ _ _ _ h.row, ← preOf_age hr x a b]
  congr 2
  apply Array.ext_getElem?
  intro m
  have p1 : (preOf r x a).size = 28 := h.psz
  have p2 : ((preOf r x a).setIfInBounds 27 (.int .i64 b)).size = 28 := by rw [Array.size_setIfInBounds]; exact p1
  rw [Array.getElem?_setIfInBounds, grv_get p1, grv_get p2, grv_size p1 _ _ _ _ _ h.len, Array.getElem?_setIfInBounds, p1]
  by_cases e : 27 = m
  · subst e; simp
  · rw [if_neg e, if_neg e]
end Go.Proofs.YtbdbkjngdhcjpaaDoor
