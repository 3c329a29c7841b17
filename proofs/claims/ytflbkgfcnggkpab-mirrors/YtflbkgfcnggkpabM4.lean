import Derived.Test.YtflbkgfcnggkpabJc
import Derived.Test.YtflbkgfcnggkpabGg
namespace Go.Proofs.Ytflbkgfcnggkpab
open Go.RowKit
open Go.Proofs
section
variable {P : Program} {md : Region.Mode} {ops : Array Oper} {Q : Exit → Act → World → Prop} {fuel : Nat} {listed : Array Bool} {a : Act} {w : World} {i : Nat} {o : Oper} {rs : List Nat}
theorem ready_alloc_row (hi : ops[i]? = some o) (hgd : o.guard = none) (ty : TypeId) (ho : o.op = .alloc ty) (z : Array Value) (hz : (P.info? ty).map (·.zero) = some (some (.agg z)))
    (h : wpAny P md ops Q fuel (listed.setIfInBounds i true) (a.put o.dst (.pointer (some ⟨w.heap.size, 0, none⟩))) (w.alloc (.cells z ty))) (hs : AllReady P md ops Q fuel listed a w rs) : AllReady P md ops Q fuel listed a w (i :: rs) :=
  AllReady.cons hi (fun K hK => by
    rw [if_pos (by simp [Region.wanted, hgd])]
    cases hq : P.info? ty with
    | none => simp [hq] at hz
    | some t =>
      have ht : t.zero = some (.agg z) := by simpa [hq] using hz
      unfold Oper.wp execOp
      simp [ho, Instr.alloc, zeroValue, typeInfo, hq, ht, newVar, newRow, Value.cells]
      exact hK _ _ h) hs
end
theorem ready_new {md : Region.Mode} {ops : Array Oper} {Q : Exit → Act → World → Prop} {fuel : Nat} {listed : Array Bool} {a : Act} {w : World} {i : Nat} {o : Oper} {rs : List Nat} (hi : ops[i]? = some o) (hgd : o.guard = none) (x y : Tmp) (ho : o.op = .call { callee := .value (.func 34), args := #[.tmp x, .tmp y], argTypes := #[3, 3] }) (u v : Value) (hu : a.eval (.tmp x) = u) (hv : a.eval (.tmp y) = v)
    (R : Value → World → Prop) (hc : Calls Try.prog 34 #[u, v] w fun e w' => ∃ r, e = .returned r ∧ R r w')
    (h : ∀ r w', R r w' → wpAny Try.prog md ops Q fuel (listed.setIfInBounds i true) (a.put o.dst r) w') (hs : AllReady Try.prog md ops Q fuel listed a w rs) : AllReady Try.prog md ops Q fuel listed a w (i :: rs) :=
  AllReady.cons hi (fun K hK => by
    rw [if_pos (by simp [Region.wanted, hgd])]
    unfold Oper.wp execOp
    rw [ho]
    go_simp
    have hu' : a.tmps[x]?.getD undef = u := by simpa [Act.eval] using hu
    have hv' : a.tmps[y]?.getD undef = v := by simpa [Act.eval] using hv
    rw [hu', hv']
    refine hc.mono ?_
    rintro e w' ⟨r, rfl, hr⟩
    exact hK _ _ (h r w' hr)) hs
end Go.Proofs.Ytflbkgfcnggkpab
namespace Go.Proofs.Ytflbkgfcnggkpab
open Go.RowKit
open Go.Proofs

theorem zero_grid : (Try.prog.info? 56).map (·.zero) = some (some (.agg (gnew 0 0 noS))) := by kernel_rfl
theorem built_grid (gw gh : Int) : Try.prog.built 56 [(0, .int .i64 gw), (1, .int .i64 gh)] = some (gnew gw gh noS) := by kernel_rfl

theorem new_any (gw gh : Int) (w : World) : Calls Try.prog 34 #[.int .i64 gw, .int .i64 gh] w fun e w' => e = .returned (.agg (gnew gw gh noS)) ∧ Kp (fun _ => False) w w' :=
  new_core noS noS_len zero_grid gw gh (built_grid gw gh) w
end Go.Proofs.Ytflbkgfcnggkpab
