import Derived.Test.YtbdbkjngdhcjpaaDoorM7
import Derived.Test.YtbdbkjngdhcjpaaDoorInv
namespace Go.Proofs.YtbdbkjngdhcjpaaDoor
open Go.RowKit
open Go.Proofs

section
variable {P : Program} {md : Region.Mode} {ops : Array Oper} {Q : Exit → Act → World → Prop} {fuel : Nat} {listed : Array Bool} {a : Act} {w : World} {i : Nat} {o : Oper} {rs : List Nat}
/-- A whole row that is read, as one step of a region that draws. -/
theorem ready_load_row (hi : ops[i]? = some o) (hgd : o.guard = none) (ty : TypeId) (x : Operand) (ho : o.op = .load ty x)
    (g : Nat) (hx : a.eval x = .pointer (some ⟨g, 0, none⟩)) (t : TypeId) (cs : Array Value) (fr : Nat × Nat) (d : TypeDesc) (hg : w.heap[g]? = some (.cells cs t fr))
    (hu : P.underlying ty = some d) (hd : (match d with | .struct _ | .array _ _ => true | _ => false) = true) (hsz : (P.info? ty).map (·.size) = some cs.size)
    (h : wpAny P md ops Q fuel (listed.setIfInBounds i true) (a.put o.dst (.agg cs)) w) (hs : AllReady P md ops Q fuel listed a w rs) : AllReady P md ops Q fuel listed a w (i :: rs) :=
  AllReady.cons hi (fun K hK => by
    rw [if_pos (by simp [Region.wanted, hgd])]
    exact wp_load_row ty x ho g hx t cs fr d hg hu hd hsz (hK _ _ h)) hs
/-- A whole row that is written, as one step of a region that draws. -/
theorem ready_store_row (hi : ops[i]? = some o) (hgd : o.guard = none) (ty : TypeId) (x y : Operand) (ho : o.op = .store ty x y)
    (g : Nat) (cells : Array Value) (hx : a.eval x = .pointer (some ⟨g, 0, none⟩)) (hy : a.eval y = .agg cells)
    (t : TypeId) (old : Array Value) (hg : w.heap[g]? = some (.cells old t (0, 0))) (hsz : (P.info? ty).map (·.size) = some cells.size)
    (hold : old.size = cells.size) (h1 : cells.all (·.oneCell') = true)
    (h : wpAny P md ops Q fuel (listed.setIfInBounds i true) (a.put o.dst undef) (w.setRow g cells)) (hs : AllReady P md ops Q fuel listed a w rs) : AllReady P md ops Q fuel listed a w (i :: rs) :=
  AllReady.cons hi (fun K hK => by
    rw [if_pos (by simp [Region.wanted, hgd])]
    exact wp_store_row ty x y ho g cells hx hy t old hg hsz hold h1 (hK _ _ h)) hs
theorem ready_load_int (hi : ops[i]? = some o) (hgd : o.guard = none) (ty : TypeId) (x : Operand) (ho : o.op = .load ty x)
    (ad : Addr) (hx : a.eval x = .pointer (some ad)) (v : Value) (hc : w.cell? ad = some v) {k : IntKind} (hu : P.underlying ty = some (.int k))
    (h : wpAny P md ops Q fuel (listed.setIfInBounds i true) (a.put o.dst v) w) (hs : AllReady P md ops Q fuel listed a w rs) : AllReady P md ops Q fuel listed a w (i :: rs) :=
  AllReady.cons hi (fun K hK => by
    rw [if_pos (by simp [Region.wanted, hgd])]
    have hagg : (isAgg ty).run P w = .ok false w := by
      unfold isAgg
      rw [Sem.run_bind, run_underlying hu w]
      rfl
    have hl : (loadVar ty ad).run P w = .ok v w := by
      simp [loadVar, Sem.run_bind, hagg, hc]
    unfold Oper.wp execOp
    simp only [ho, hx, Instr.loadAt, Instr.sureAddr, Sem.run_bind, Sem.run_pure, Result.andThen_ok, hl]
    exact hK _ _ h) hs
theorem ready_assign (hi : ops[i]? = some o) (hgd : o.guard = none) (x : Operand) (ho : o.op = .assign x)
    (h : wpAny P md ops Q fuel (listed.setIfInBounds i true) (a.put o.dst (a.eval x)) w) (hs : AllReady P md ops Q fuel listed a w rs) : AllReady P md ops Q fuel listed a w (i :: rs) :=
  AllReady.cons hi (fun K hK => by
    rw [if_pos (by simp [Region.wanted, hgd])]
    unfold Oper.wp execOp
    simp only [ho]
    exact hK _ _ h) hs
end
theorem info_parts : (Tryd.prog.info? 91).map (·.size) = some 31 := by kernel_rfl
theorem build_reader (w : World) (s : ByteArray) : (Instr.build 111 #[(0, .string s)]).run Tryd.prog w = .ok (.agg #[.string s, .int .i64 0]) w := by kernel_rfl
abbrev zsh : Pu.Shape := ⟨0, 0, 0, 0, 0, false, false⟩

theorem results_row3 {P : Program} {fn : Func} {p u v : Tmp} {ty : TypeId} (h : fn.results = #[.cell p ty, .tmp u, .tmp v]) (tmps : Array Value) (w : World) (g : Nat) (t : TypeId) (cs : Array Value) (fr : Nat × Nat) (d : TypeDesc)
    (hp : tmps.getD p undef = .pointer (some ⟨g, 0, none⟩)) (hg : w.heap[g]? = some (.cells cs t fr))
    (hu : P.underlying ty = some d) (hd : (match d with | .struct _ | .array _ _ => true | _ => false) = true) (hi : (P.info? ty).map (·.size) = some cs.size) :
    (results fn tmps).run P w = .ok (.tuple #[.agg cs, tmps.getD u undef, tmps.getD v undef]) w := by
  have hp' : tmps[p]?.getD undef = .pointer (some ⟨g, 0, none⟩) := by simpa using hp
  simp [results, h, hp', asAddr, run_loadVar_row w g t ty cs fr d hg hu hd hi]
theorem own_base {w : World} {base base' : Nat} {e : TypeId} {sz : Nat} {v : Value} {n : Nat} {xs : List Value} (h : w.ownsRow base e sz v n xs) (hb : base' ≤ base) : w.ownsRow base' e sz v n xs := by
  refine ⟨h.1, ?_⟩
  rcases h.2 with h2 | ⟨g, cap, cur, hv, hg, r⟩
  · exact Or.inl h2
  · exact Or.inr ⟨g, cap, cur, hv, Nat.le_trans hb hg, r⟩
theorem own_one {w : World} {base : Nat} {e : TypeId} {sz : Nat} {v : Value} {n : Nat} {xs : List Value} (h : w.ownsRow base e sz v n xs) : v.oneCell' = true := by
  rcases h.2 with ⟨rfl, _⟩ | ⟨g, cap, cur, rfl, _⟩ <;> rfl
theorem own_setRow {w : World} {base : Nat} {e : TypeId} {sz : Nat} {v : Value} {n : Nat} {xs : List Value} (h : w.ownsRow base e sz v n xs) {g : Nat} (hg : g < base) (cs : Array Value) : (w.setRow g cs).ownsRow base e sz v n xs :=
  own_of h fun k _ hk => setRow_other _ _ _ _ (by omega)

theorem ptv_one {r : Pu.Rule} (_ : RuleOk r) (x : Pu.Shape) (age col row : Int) {v : Value} (hv : v.oneCell' = true) : (ptv r x age col row v).all (·.oneCell') = true := by
  unfold ptv
  rw [Array.all_append, Array.all_append, rulev_one, shv_one, Bool.true_and, Bool.true_and, Array.all_eq_true_iff_forall_mem]
  intro u hu
  simp at hu
  rcases hu with rfl | rfl | rfl | rfl
  · rfl
  · rfl
  · rfl
  · exact hv

set_option maxRecDepth 100000 in
set_option maxHeartbeats 1000000 in
theorem read_any (s : ByteArray) (w : World) (hs : s.size ≤ 400) (j : Nat) (o : Option Pu.Parts) (hq : Hid (Pu.read (src s) = (j, o))) :
    Calls Tryd.prog 45 #[.string s] w fun e w' => (∃ r x age col row v acc, e = .returned (.tuple #[.agg (ptv r x age col row v), .int .i64 j, .bool o.isSome]) ∧ RuleOk r ∧ w'.ownsRow w.heap.size 115 3 v acc.length (runsv acc) ∧
      ∀ a, o = some a → a = ⟨r, x, age, col, row, acc⟩) ∧ Kp (fun _ => False) w w' := by
  have bur := build_reader
  have A0 : Hid ((((w.alloc (.cells (ptv zrule zsh 0 0 0 (.slice none 0 0)) 91)).alloc (.cells #[.string s, .int .i64 0] 111)).alloc (.cells (ptv zrule zsh 0 0 0 (.slice none 0 0)) 91)).heap[w.heap.size]? = some (.cells (ptv zrule zsh 0 0 0 (.slice none 0 0)) 91 (0, 0))) := heap_new_keep (heap_alloc2_old _ _ _)
  have H0 : Hid (RdAt (((w.alloc (.cells (ptv zrule zsh 0 0 0 (.slice none 0 0)) 91)).alloc (.cells #[.string s, .int .i64 0] 111)).alloc (.cells (ptv zrule zsh 0 0 0 (.slice none 0 0)) 91)) (w.heap.size + 1) s 0) := ⟨heap_new_keep (heap_alloc2_new _ _ _), Nat.zero_le _, hs⟩
  have P0 : Hid (PtAt (((w.alloc (.cells (ptv zrule zsh 0 0 0 (.slice none 0 0)) 91)).alloc (.cells #[.string s, .int .i64 0] 111)).alloc (.cells (ptv zrule zsh 0 0 0 (.slice none 0 0)) 91)) (w.heap.size + 1 + 1) zrule zsh 0 0 0 (.slice none 0 0)) := ⟨by have h3 := heap_alloc2_new (w.alloc (.cells (ptv zrule zsh 0 0 0 (.slice none 0 0)) 91)) (.cells #[.string s, .int .i64 0] 111) (.cells (ptv zrule zsh 0 0 0 (.slice none 0 0)) 91); rw [show (w.alloc (.cells (ptv zrule zsh 0 0 0 (.slice none 0 0)) 91)).heap.size = w.heap.size + 1 from by simp] at h3; exact h3, zrule_ok⟩
  have K0 : Hid (Kp (fun _ => False) w (((w.alloc (.cells (ptv zrule zsh 0 0 0 (.slice none 0 0)) 91)).alloc (.cells #[.string s, .int .i64 0] 111)).alloc (.cells (ptv zrule zsh 0 0 0 (.slice none 0 0)) 91))) := (((Kp.refl _ _).alloc _).alloc _).alloc _
  have hq' := hq.out
  rcases hh : Pu.head (src s) 0 with ⟨j1, _ | a1⟩
  · rw [Pu.read_n1 hh] at hq'
    obtain ⟨rfl, rfl⟩ := Prod.mk.inj hq'
    have HH := hide hh
    clear hh hq hq'
    go_enter Tryd.func45, Tryd.ntmps45
    go_wp2_with fail
    refine (head_any (w.heap.size + 1) (w.heap.size + 1 + 1) s 0 (.slice none 0 0) _ H0.out P0.out (by omega) j1 none HH).mono ?_
    rintro e w1 ⟨rfl, r1, ⟨r, x, age, p1, hr⟩, k1⟩
    clear hr
    have R1 := hide r1
    have P1 := hide p1
    have A1 := hide (k1.row A0.out (by omega))
    have K1 := hide (K0.out.tr k1 (by intro z hz; omega))
    clear r1 p1 k1
    go_wp2_with fail
    have P1V : Hid (Value.oneCell' (.slice none 0 0) = true) := rfl
    refine wp_region_any (by kernel_rfl) ?_
    refine wpAny_take (i := 1) (v := .pointer (some ⟨w.heap.size + 1, 1, none⟩)) rfl (by kernel_rfl) (by kernel_rfl) (by kernel_rfl) (fun _ _ _ h => h) (Or.inl ⟨by rfl, by intro w; go_simp⟩) ?_
    refine wpAny_take (i := 3) (v := .bool false) rfl (by kernel_rfl) (by kernel_rfl) (by kernel_rfl) (fun _ _ _ h => h) (Or.inl ⟨by rfl, by intro w; go_simp⟩) ?_
    try go_simp
    refine wpAny_ready (rs := [0, 2]) (by kernel_rfl) (by simp) ?_
    refine ready_load_row rfl rfl 91 _ rfl (w.heap.size + 1 + 1) rfl 91 (ptv r x age 0 0 (.slice none 0 0)) (0, 0) _ P1.out.row Tryd.underlying91 rfl (by rw [info_parts, ptv_size P1.out.ok]) ?_ ?_
    · try go_simp
      refine wpAny_ready (rs := [2, 4]) (by kernel_rfl) (by simp) ?_
      refine ready_load_int rfl rfl 3 _ rfl ⟨w.heap.size + 1, 1, none⟩ rfl _ (R1.out.c1) Tryd.underlying3 ?_ ?_
      · try go_simp
        refine wpAny_ready (rs := [4]) (by kernel_rfl) (by simp) ?_
        refine ready_store_row rfl rfl 91 _ _ rfl w.heap.size (ptv r x age 0 0 (.slice none 0 0)) rfl rfl 91 (ptv zrule zsh 0 0 0 (.slice none 0 0)) A1.out (by rw [info_parts, ptv_size P1.out.ok]) ((ptv_size zrule_ok _ _ _ _ _).trans (ptv_size P1.out.ok _ _ _ _ _).symm) (ptv_one P1.out.ok _ _ _ _ P1V.out) ?_ AllReady.nil
        try go_simp
        refine wpAny_ready (rs := [5]) (by kernel_rfl) (by simp) ?_
        refine ready_assign rfl rfl _ rfl ?_ AllReady.nil
        try go_simp
        refine wpAny_ready (rs := [6]) (by kernel_rfl) (by simp) ?_
        refine ready_assign rfl rfl _ rfl ?_ AllReady.nil
        try go_simp
        refine wpAny_done (by kernel_rfl) ?_ _
        go_wp2
        exact bodyPost_ret (v := .tuple #[.agg (ptv r x age 0 0 (.slice none 0 0)), .int .i64 (j1 : Nat), .bool false]) (results_row3 Tryd.results45 _ _ w.heap.size 91 (ptv r x age 0 0 (.slice none 0 0)) (0, 0) _ rfl (setRow_heap _ _ _ _ _ _ A1.out) Tryd.underlying91 rfl (by rw [info_parts, ptv_size P1.out.ok])) rfl
          ⟨⟨r, x, age, 0, 0, .slice none 0 0, [], rfl, P1.out.ok, World.ownsRow_nil _ _ _ _, fun a ha => by simp at ha⟩, (K1.out.drewN 1).setRowNew (Nat.le_refl _) _⟩
      · refine ready_store_row rfl rfl 91 _ _ rfl w.heap.size (ptv r x age 0 0 (.slice none 0 0)) rfl rfl 91 (ptv zrule zsh 0 0 0 (.slice none 0 0)) A1.out (by rw [info_parts, ptv_size P1.out.ok]) ((ptv_size zrule_ok _ _ _ _ _).trans (ptv_size P1.out.ok _ _ _ _ _).symm) (ptv_one P1.out.ok _ _ _ _ P1V.out) ?_ AllReady.nil
        try go_simp
        refine wpAny_ready (rs := [2]) (by kernel_rfl) (by simp) ?_
        refine ready_load_int rfl rfl 3 _ rfl ⟨w.heap.size + 1, 1, none⟩ rfl _ ((cell_setRow_other _ _ _ _ (by simp only; omega)).trans R1.out.c1) Tryd.underlying3 ?_ AllReady.nil
        try go_simp
        refine wpAny_ready (rs := [5]) (by kernel_rfl) (by simp) ?_
        refine ready_assign rfl rfl _ rfl ?_ AllReady.nil
        try go_simp
        refine wpAny_ready (rs := [6]) (by kernel_rfl) (by simp) ?_
        refine ready_assign rfl rfl _ rfl ?_ AllReady.nil
        try go_simp
        refine wpAny_done (by kernel_rfl) ?_ _
        go_wp2
        exact bodyPost_ret (v := .tuple #[.agg (ptv r x age 0 0 (.slice none 0 0)), .int .i64 (j1 : Nat), .bool false]) (results_row3 Tryd.results45 _ _ w.heap.size 91 (ptv r x age 0 0 (.slice none 0 0)) (0, 0) _ rfl (setRow_heap _ _ _ _ _ _ A1.out) Tryd.underlying91 rfl (by rw [info_parts, ptv_size P1.out.ok])) rfl
          ⟨⟨r, x, age, 0, 0, .slice none 0 0, [], rfl, P1.out.ok, World.ownsRow_nil _ _ _ _, fun a ha => by simp at ha⟩, (K1.out.drewN 1).setRowNew (Nat.le_refl _) _⟩
    · refine ready_load_int rfl rfl 3 _ rfl ⟨w.heap.size + 1, 1, none⟩ rfl _ (R1.out.c1) Tryd.underlying3 ?_ AllReady.nil
      try go_simp
      refine wpAny_ready (rs := [0]) (by kernel_rfl) (by simp) ?_
      refine ready_load_row rfl rfl 91 _ rfl (w.heap.size + 1 + 1) rfl 91 (ptv r x age 0 0 (.slice none 0 0)) (0, 0) _ P1.out.row Tryd.underlying91 rfl (by rw [info_parts, ptv_size P1.out.ok]) ?_ AllReady.nil
      try go_simp
      refine wpAny_ready (rs := [4]) (by kernel_rfl) (by simp) ?_
      refine ready_store_row rfl rfl 91 _ _ rfl w.heap.size (ptv r x age 0 0 (.slice none 0 0)) rfl rfl 91 (ptv zrule zsh 0 0 0 (.slice none 0 0)) A1.out (by rw [info_parts, ptv_size P1.out.ok]) ((ptv_size zrule_ok _ _ _ _ _).trans (ptv_size P1.out.ok _ _ _ _ _).symm) (ptv_one P1.out.ok _ _ _ _ P1V.out) ?_ AllReady.nil
      try go_simp
      refine wpAny_ready (rs := [5]) (by kernel_rfl) (by simp) ?_
      refine ready_assign rfl rfl _ rfl ?_ AllReady.nil
      try go_simp
      refine wpAny_ready (rs := [6]) (by kernel_rfl) (by simp) ?_
      refine ready_assign rfl rfl _ rfl ?_ AllReady.nil
      try go_simp
      refine wpAny_done (by kernel_rfl) ?_ _
      go_wp2
      exact bodyPost_ret (v := .tuple #[.agg (ptv r x age 0 0 (.slice none 0 0)), .int .i64 (j1 : Nat), .bool false]) (results_row3 Tryd.results45 _ _ w.heap.size 91 (ptv r x age 0 0 (.slice none 0 0)) (0, 0) _ rfl (setRow_heap _ _ _ _ _ _ A1.out) Tryd.underlying91 rfl (by rw [info_parts, ptv_size P1.out.ok])) rfl
        ⟨⟨r, x, age, 0, 0, .slice none 0 0, [], rfl, P1.out.ok, World.ownsRow_nil _ _ _ _, fun a ha => by simp at ha⟩, (K1.out.drewN 1).setRowNew (Nat.le_refl _) _⟩
  · have hst := (Pu.head_inv hh).1
    have HQ := hide hq'
    have HH := hide hh
    clear hh hq hq'
    go_enter Tryd.func45, Tryd.ntmps45
    go_wp2_with fail
    refine (head_any (w.heap.size + 1) (w.heap.size + 1 + 1) s 0 (.slice none 0 0) _ H0.out P0.out (by omega) j1 (some a1) HH).mono ?_
    rintro e w1 ⟨rfl, r1, ⟨r, x, age, p1, hr⟩, k1⟩
    obtain ⟨hr1, hr2, hr3⟩ := hr a1 rfl
    have HE : Hid (a1 = (r, x, age)) := by rw [hr1, hr2, hr3]; rfl
    have hsr : 2 ≤ r.states ∧ r.states ≤ 9 := by rw [hr1]; exact hst
    clear hr hr1 hr2 hr3 hst
    have R1 := hide r1
    have P1 := hide p1
    have A1 := hide (k1.row A0.out (by omega))
    have K1 := hide (K0.out.tr k1 (by intro z hz; omega))
    clear r1 p1 k1
    go_wp2_with fail
    rcases hp : Pu.place (src s) j1 with ⟨j2, _ | a2⟩
    · have hq2 := HQ.out
      rw [Pu.read_n2 HH.out hp] at hq2
      obtain ⟨rfl, rfl⟩ := Prod.mk.inj hq2
      have HPL := hide hp
      clear hp hq2 HQ
      refine (place_any (w.heap.size + 1) (w.heap.size + 1 + 1) s j1 r x age (.slice none 0 0) _ R1.out P1.out (by omega) j2 none HPL).mono ?_
      rintro e w2 ⟨rfl, r2, ⟨col, row, p2, hr⟩, k2⟩
      clear hr
      have R2 := hide r2
      have P2 := hide p2
      have A2 := hide (k2.row A1.out (by omega))
      have K2 := hide (K1.out.tr k2 (by intro z hz; omega))
      clear r2 p2 k2
      have P2V : Hid (Value.oneCell' (.slice none 0 0) = true) := rfl
      go_wp2_with fail
      refine wp_region_any (by kernel_rfl) ?_
      refine wpAny_take (i := 1) (v := .pointer (some ⟨w.heap.size + 1, 1, none⟩)) rfl (by kernel_rfl) (by kernel_rfl) (by kernel_rfl) (fun _ _ _ h => h) (Or.inl ⟨by rfl, by intro w; go_simp⟩) ?_
      refine wpAny_take (i := 3) (v := .bool false) rfl (by kernel_rfl) (by kernel_rfl) (by kernel_rfl) (fun _ _ _ h => h) (Or.inl ⟨by rfl, by intro w; go_simp⟩) ?_
      try go_simp
      refine wpAny_ready (rs := [0, 2]) (by kernel_rfl) (by simp) ?_
      refine ready_load_row rfl rfl 91 _ rfl (w.heap.size + 1 + 1) rfl 91 (ptv r x age col row (.slice none 0 0)) (0, 0) _ P2.out.row Tryd.underlying91 rfl (by rw [info_parts, ptv_size P2.out.ok]) ?_ ?_
      · try go_simp
        refine wpAny_ready (rs := [2, 4]) (by kernel_rfl) (by simp) ?_
        refine ready_load_int rfl rfl 3 _ rfl ⟨w.heap.size + 1, 1, none⟩ rfl _ (R2.out.c1) Tryd.underlying3 ?_ ?_
        · try go_simp
          refine wpAny_ready (rs := [4]) (by kernel_rfl) (by simp) ?_
          refine ready_store_row rfl rfl 91 _ _ rfl w.heap.size (ptv r x age col row (.slice none 0 0)) rfl rfl 91 (ptv zrule zsh 0 0 0 (.slice none 0 0)) A2.out (by rw [info_parts, ptv_size P2.out.ok]) ((ptv_size zrule_ok _ _ _ _ _).trans (ptv_size P2.out.ok _ _ _ _ _).symm) (ptv_one P2.out.ok _ _ _ _ P2V.out) ?_ AllReady.nil
          try go_simp
          refine wpAny_ready (rs := [5]) (by kernel_rfl) (by simp) ?_
          refine ready_assign rfl rfl _ rfl ?_ AllReady.nil
          try go_simp
          refine wpAny_ready (rs := [6]) (by kernel_rfl) (by simp) ?_
          refine ready_assign rfl rfl _ rfl ?_ AllReady.nil
          try go_simp
          refine wpAny_done (by kernel_rfl) ?_ _
          go_wp2
          exact bodyPost_ret (v := .tuple #[.agg (ptv r x age col row (.slice none 0 0)), .int .i64 (j2 : Nat), .bool false]) (results_row3 Tryd.results45 _ _ w.heap.size 91 (ptv r x age col row (.slice none 0 0)) (0, 0) _ rfl (setRow_heap _ _ _ _ _ _ A2.out) Tryd.underlying91 rfl (by rw [info_parts, ptv_size P2.out.ok])) rfl
            ⟨⟨r, x, age, col, row, .slice none 0 0, [], rfl, P2.out.ok, World.ownsRow_nil _ _ _ _, fun a ha => by simp at ha⟩, (K2.out.drewN 1).setRowNew (Nat.le_refl _) _⟩
        · refine ready_store_row rfl rfl 91 _ _ rfl w.heap.size (ptv r x age col row (.slice none 0 0)) rfl rfl 91 (ptv zrule zsh 0 0 0 (.slice none 0 0)) A2.out (by rw [info_parts, ptv_size P2.out.ok]) ((ptv_size zrule_ok _ _ _ _ _).trans (ptv_size P2.out.ok _ _ _ _ _).symm) (ptv_one P2.out.ok _ _ _ _ P2V.out) ?_ AllReady.nil
          try go_simp
          refine wpAny_ready (rs := [2]) (by kernel_rfl) (by simp) ?_
          refine ready_load_int rfl rfl 3 _ rfl ⟨w.heap.size + 1, 1, none⟩ rfl _ ((cell_setRow_other _ _ _ _ (by simp only; omega)).trans R2.out.c1) Tryd.underlying3 ?_ AllReady.nil
          try go_simp
          refine wpAny_ready (rs := [5]) (by kernel_rfl) (by simp) ?_
          refine ready_assign rfl rfl _ rfl ?_ AllReady.nil
          try go_simp
          refine wpAny_ready (rs := [6]) (by kernel_rfl) (by simp) ?_
          refine ready_assign rfl rfl _ rfl ?_ AllReady.nil
          try go_simp
          refine wpAny_done (by kernel_rfl) ?_ _
          go_wp2
          exact bodyPost_ret (v := .tuple #[.agg (ptv r x age col row (.slice none 0 0)), .int .i64 (j2 : Nat), .bool false]) (results_row3 Tryd.results45 _ _ w.heap.size 91 (ptv r x age col row (.slice none 0 0)) (0, 0) _ rfl (setRow_heap _ _ _ _ _ _ A2.out) Tryd.underlying91 rfl (by rw [info_parts, ptv_size P2.out.ok])) rfl
            ⟨⟨r, x, age, col, row, .slice none 0 0, [], rfl, P2.out.ok, World.ownsRow_nil _ _ _ _, fun a ha => by simp at ha⟩, (K2.out.drewN 1).setRowNew (Nat.le_refl _) _⟩
      · refine ready_load_int rfl rfl 3 _ rfl ⟨w.heap.size + 1, 1, none⟩ rfl _ (R2.out.c1) Tryd.underlying3 ?_ AllReady.nil
        try go_simp
        refine wpAny_ready (rs := [0]) (by kernel_rfl) (by simp) ?_
        refine ready_load_row rfl rfl 91 _ rfl (w.heap.size + 1 + 1) rfl 91 (ptv r x age col row (.slice none 0 0)) (0, 0) _ P2.out.row Tryd.underlying91 rfl (by rw [info_parts, ptv_size P2.out.ok]) ?_ AllReady.nil
        try go_simp
        refine wpAny_ready (rs := [4]) (by kernel_rfl) (by simp) ?_
        refine ready_store_row rfl rfl 91 _ _ rfl w.heap.size (ptv r x age col row (.slice none 0 0)) rfl rfl 91 (ptv zrule zsh 0 0 0 (.slice none 0 0)) A2.out (by rw [info_parts, ptv_size P2.out.ok]) ((ptv_size zrule_ok _ _ _ _ _).trans (ptv_size P2.out.ok _ _ _ _ _).symm) (ptv_one P2.out.ok _ _ _ _ P2V.out) ?_ AllReady.nil
        try go_simp
        refine wpAny_ready (rs := [5]) (by kernel_rfl) (by simp) ?_
        refine ready_assign rfl rfl _ rfl ?_ AllReady.nil
        try go_simp
        refine wpAny_ready (rs := [6]) (by kernel_rfl) (by simp) ?_
        refine ready_assign rfl rfl _ rfl ?_ AllReady.nil
        try go_simp
        refine wpAny_done (by kernel_rfl) ?_ _
        go_wp2
        exact bodyPost_ret (v := .tuple #[.agg (ptv r x age col row (.slice none 0 0)), .int .i64 (j2 : Nat), .bool false]) (results_row3 Tryd.results45 _ _ w.heap.size 91 (ptv r x age col row (.slice none 0 0)) (0, 0) _ rfl (setRow_heap _ _ _ _ _ _ A2.out) Tryd.underlying91 rfl (by rw [info_parts, ptv_size P2.out.ok])) rfl
          ⟨⟨r, x, age, col, row, .slice none 0 0, [], rfl, P2.out.ok, World.ownsRow_nil _ _ _ _, fun a ha => by simp at ha⟩, (K2.out.drewN 1).setRowNew (Nat.le_refl _) _⟩
    · have HPL := hide hp
      clear hp
      refine (place_any (w.heap.size + 1) (w.heap.size + 1 + 1) s j1 r x age (.slice none 0 0) _ R1.out P1.out (by omega) j2 (some a2) HPL).mono ?_
      rintro e w2 ⟨rfl, r2, ⟨col, row, p2, hr⟩, k2⟩
      obtain ⟨hr1, hr2⟩ := hr a2 rfl
      have HE2 : Hid (a2 = (col, row)) := by rw [hr1, hr2]; rfl
      clear hr hr1 hr2
      have R2 := hide r2
      have P2 := hide p2
      have A2 := hide (k2.row A1.out (by omega))
      have K2 := hide (K1.out.tr k2 (by intro z hz; omega))
      have l2 : w.heap.size < w2.heap.size := (Array.getElem?_eq_some_iff.1 A2.out).1
      clear r2 p2 k2
      go_wp2_with fail
      rcases hbd : Pu.body r.states 401 [] (src s) j2 with ⟨j3, o3⟩
      have HB := hide hbd
      refine (body_any (w.heap.size + 1) (w.heap.size + 1 + 1) s j2 r x age col row _ R2.out P2.out (by omega) (by omega) (by omega) j3 o3 HB).mono ?_
      rintro e w3 ⟨rfl, r3, ⟨v, acc, p3, o3w, hacc⟩, k3⟩
      have R3 := hide r3
      have P3 := hide p3
      have A3 := hide (k3.row A2.out (by omega))
      have K3 := hide (K2.out.tr k3 (by intro z hz; omega))
      have O3 := hide o3w
      have HO : Hid (j = j3 ∧ o = o3.map fun rs => ⟨r, x, age, col, row, rs⟩) := by
        have e1 := HE.out
        have e2 := HE2.out
        subst e1
        subst e2
        have hq3 := (Pu.read_some HH.out HPL.out hbd).symm.trans HQ.out
        exact ⟨(Prod.mk.inj hq3).1.symm, (Prod.mk.inj hq3).2.symm⟩
      have HY : Hid (∀ a, o = some a → a = ⟨r, x, age, col, row, acc⟩) := by
        intro a ha
        rw [HO.out.2] at ha
        cases o3 with
        | none => simp at ha
        | some rs => rw [← hacc rs rfl]; exact (Option.some.inj ha).symm
      have HS : Hid (o.isSome = o3.isSome) := by rw [HO.out.2]; cases o3 <;> rfl
      have P3V := hide (own_one o3w)
      obtain rfl := HO.out.1
      clear r3 p3 k3 o3w hacc hbd HQ HO HB
      go_wp2_with fail
      refine wp_region_any (by kernel_rfl) ?_
      refine wpAny_take (i := 1) (v := .pointer (some ⟨w.heap.size + 1, 1, none⟩)) rfl (by kernel_rfl) (by kernel_rfl) (by kernel_rfl) (fun _ _ _ h => h) (Or.inl ⟨by rfl, by intro w; go_simp⟩) ?_
      refine wpAny_take (i := 3) (v := .bool o3.isSome) rfl (by kernel_rfl) (by kernel_rfl) (by kernel_rfl) (fun _ _ _ h => h) (Or.inl ⟨by rfl, by intro w; go_simp⟩) ?_
      try go_simp
      refine wpAny_ready (rs := [0, 2]) (by kernel_rfl) (by simp) ?_
      refine ready_load_row rfl rfl 91 _ rfl (w.heap.size + 1 + 1) rfl 91 (ptv r x age col row v) (0, 0) _ P3.out.row Tryd.underlying91 rfl (by rw [info_parts, ptv_size P3.out.ok]) ?_ ?_
      · try go_simp
        refine wpAny_ready (rs := [2, 4]) (by kernel_rfl) (by simp) ?_
        refine ready_load_int rfl rfl 3 _ rfl ⟨w.heap.size + 1, 1, none⟩ rfl _ (R3.out.c1) Tryd.underlying3 ?_ ?_
        · try go_simp
          refine wpAny_ready (rs := [4]) (by kernel_rfl) (by simp) ?_
          refine ready_store_row rfl rfl 91 _ _ rfl w.heap.size (ptv r x age col row v) rfl rfl 91 (ptv zrule zsh 0 0 0 (.slice none 0 0)) A3.out (by rw [info_parts, ptv_size P3.out.ok]) ((ptv_size zrule_ok _ _ _ _ _).trans (ptv_size P3.out.ok _ _ _ _ _).symm) (ptv_one P3.out.ok _ _ _ _ P3V.out) ?_ AllReady.nil
          try go_simp
          refine wpAny_ready (rs := [5]) (by kernel_rfl) (by simp) ?_
          refine ready_assign rfl rfl _ rfl ?_ AllReady.nil
          try go_simp
          refine wpAny_ready (rs := [6]) (by kernel_rfl) (by simp) ?_
          refine ready_assign rfl rfl _ rfl ?_ AllReady.nil
          try go_simp
          refine wpAny_done (by kernel_rfl) ?_ _
          go_wp2
          exact bodyPost_ret (v := .tuple #[.agg (ptv r x age col row v), .int .i64 (j : Nat), .bool o3.isSome]) (results_row3 Tryd.results45 _ _ w.heap.size 91 (ptv r x age col row v) (0, 0) _ rfl (setRow_heap _ _ _ _ _ _ A3.out) Tryd.underlying91 rfl (by rw [info_parts, ptv_size P3.out.ok])) rfl
            ⟨⟨r, x, age, col, row, v, acc, by rw [HS.out], P3.out.ok, own_base (own_setRow (w := w3.drewN 1) O3.out (by omega) _) (by omega), HY.out⟩, (K3.out.drewN 1).setRowNew (Nat.le_refl _) _⟩
        · refine ready_store_row rfl rfl 91 _ _ rfl w.heap.size (ptv r x age col row v) rfl rfl 91 (ptv zrule zsh 0 0 0 (.slice none 0 0)) A3.out (by rw [info_parts, ptv_size P3.out.ok]) ((ptv_size zrule_ok _ _ _ _ _).trans (ptv_size P3.out.ok _ _ _ _ _).symm) (ptv_one P3.out.ok _ _ _ _ P3V.out) ?_ AllReady.nil
          try go_simp
          refine wpAny_ready (rs := [2]) (by kernel_rfl) (by simp) ?_
          refine ready_load_int rfl rfl 3 _ rfl ⟨w.heap.size + 1, 1, none⟩ rfl _ ((cell_setRow_other _ _ _ _ (by simp only; omega)).trans R3.out.c1) Tryd.underlying3 ?_ AllReady.nil
          try go_simp
          refine wpAny_ready (rs := [5]) (by kernel_rfl) (by simp) ?_
          refine ready_assign rfl rfl _ rfl ?_ AllReady.nil
          try go_simp
          refine wpAny_ready (rs := [6]) (by kernel_rfl) (by simp) ?_
          refine ready_assign rfl rfl _ rfl ?_ AllReady.nil
          try go_simp
          refine wpAny_done (by kernel_rfl) ?_ _
          go_wp2
          exact bodyPost_ret (v := .tuple #[.agg (ptv r x age col row v), .int .i64 (j : Nat), .bool o3.isSome]) (results_row3 Tryd.results45 _ _ w.heap.size 91 (ptv r x age col row v) (0, 0) _ rfl (setRow_heap _ _ _ _ _ _ A3.out) Tryd.underlying91 rfl (by rw [info_parts, ptv_size P3.out.ok])) rfl
            ⟨⟨r, x, age, col, row, v, acc, by rw [HS.out], P3.out.ok, own_base (own_setRow (w := w3.drewN 1) O3.out (by omega) _) (by omega), HY.out⟩, (K3.out.drewN 1).setRowNew (Nat.le_refl _) _⟩
      · refine ready_load_int rfl rfl 3 _ rfl ⟨w.heap.size + 1, 1, none⟩ rfl _ (R3.out.c1) Tryd.underlying3 ?_ AllReady.nil
        try go_simp
        refine wpAny_ready (rs := [0]) (by kernel_rfl) (by simp) ?_
        refine ready_load_row rfl rfl 91 _ rfl (w.heap.size + 1 + 1) rfl 91 (ptv r x age col row v) (0, 0) _ P3.out.row Tryd.underlying91 rfl (by rw [info_parts, ptv_size P3.out.ok]) ?_ AllReady.nil
        try go_simp
        refine wpAny_ready (rs := [4]) (by kernel_rfl) (by simp) ?_
        refine ready_store_row rfl rfl 91 _ _ rfl w.heap.size (ptv r x age col row v) rfl rfl 91 (ptv zrule zsh 0 0 0 (.slice none 0 0)) A3.out (by rw [info_parts, ptv_size P3.out.ok]) ((ptv_size zrule_ok _ _ _ _ _).trans (ptv_size P3.out.ok _ _ _ _ _).symm) (ptv_one P3.out.ok _ _ _ _ P3V.out) ?_ AllReady.nil
        try go_simp
        refine wpAny_ready (rs := [5]) (by kernel_rfl) (by simp) ?_
        refine ready_assign rfl rfl _ rfl ?_ AllReady.nil
        try go_simp
        refine wpAny_ready (rs := [6]) (by kernel_rfl) (by simp) ?_
        refine ready_assign rfl rfl _ rfl ?_ AllReady.nil
        try go_simp
        refine wpAny_done (by kernel_rfl) ?_ _
        go_wp2
        exact bodyPost_ret (v := .tuple #[.agg (ptv r x age col row v), .int .i64 (j : Nat), .bool o3.isSome]) (results_row3 Tryd.results45 _ _ w.heap.size 91 (ptv r x age col row v) (0, 0) _ rfl (setRow_heap _ _ _ _ _ _ A3.out) Tryd.underlying91 rfl (by rw [info_parts, ptv_size P3.out.ok])) rfl
          ⟨⟨r, x, age, col, row, v, acc, by rw [HS.out], P3.out.ok, own_base (own_setRow (w := w3.drewN 1) O3.out (by omega) _) (by omega), HY.out⟩, (K3.out.drewN 1).setRowNew (Nat.le_refl _) _⟩
end Go.Proofs.YtbdbkjngdhcjpaaDoor
