import Derived.Test.YthmhjjkmnnmjlaaGreatDoorM17
import Derived.Test.YthmhjjkmnnmjlaaGreatDoorM21
namespace Go.Proofs.YthmhjjkmnnmjlaaGreatDoor
open Go.RowKit
open Go.Proofs

theorem HdAt.c12 {w : World} {q : Nat} {r : Pu.Rule} {x : Pu.Shape} {age : Int} {g1 g2 : Nat} {v : Value} (h : HdAt w q r x age g1 g2 v) : w.cell? ⟨q, 12, none⟩ = some v := by rw [h.va.cell]; rfl
theorem dropC_take {l : List Cl} {k : Nat} {c : Cl} (h : l[k]? = some c) (X Y : Int) : dropC X Y (l.take (k + 1)) = dropC X Y (l.take k) ++ (if c.1 = X ∧ c.2.1 = Y then [] else [c]) := by
  rw [List.take_add_one, h]
  unfold dropC
  rw [List.filter_append]
  congr 1
  show List.filter _ [c] = _
  by_cases e : c.1 = X ∧ c.2.1 = Y
  · rw [if_pos e]
    simp [e.1, e.2]
  · rw [if_neg e, List.filter_cons, if_pos]
    · rfl
    · rw [Bool.not_eq_true', Bool.and_eq_false_iff]
      by_cases e1 : c.1 = X
      · right
        rw [beq_eq_false_iff_ne]
        exact fun e2 => e ⟨e1, e2⟩
      · left
        rw [beq_eq_false_iff_ne]
        exact e1
theorem dropC_len (X Y : Int) (l : List Cl) : (dropC X Y l).length ≤ l.length := List.length_filter_le _ _
theorem putC_bd {X Y s : Int} {l : List Cl} (h : ClBd l) (hX : -100000 ≤ X ∧ X ≤ 100000) (hY : -100000 ≤ Y ∧ Y ≤ 100000) : ClBd (putC X Y s l) := by
  intro c hc
  unfold putC at hc
  rcases List.mem_append.1 hc with hc | hc
  · exact h c (mem_dropC.1 hc).1
  · split at hc
    · simp at hc
      subst hc
      exact ⟨hX, hY⟩
    · simp at hc
/-- What Put in place leaves. -/
def PutIn (w : World) (q : Nat) (r : Pu.Rule) (x : Pu.Shape) (age : Int) (g1 g2 : Nat) (l' : List Cl) (e : Ending) (w' : World) : Prop :=
  if roomB x.w x.h l' = true then e = .returned (.int .i64 0) ∧ (∃ v', HdAt w' q r x age g1 g2 v' ∧ ClAt w' v' l') ∧ Kp (· = q) w w' else e = .returned (.int .i64 4) ∧ Kp (fun _ => False) w w'
theorem HdAt.setLive {w : World} {q : Nat} {r : Pu.Rule} {x : Pu.Shape} {age : Int} {g1 g2 : Nat} {v : Value} (h : HdAt w q r x age g1 g2 v) (v' : Value) : HdAt (w.setCell ⟨q, 12, none⟩ v') q r x age g1 g2 v' := by
  have k : Kp (· = q) w (w.setCell ⟨q, 12, none⟩ v') := (Kp.refl (· = q) w).setCell (p := ⟨q, 12, none⟩) rfl v'
  have n1 : g1 ≠ q := by
    intro e
    have a := h.va
    have b := h.s1.2
    unfold VAt at a
    rw [e, a] at b
    have := Option.some.inj b
    injection this with _ t _
    exact absurd t (by decide)
  have n2 : g2 ≠ q := by
    intro e
    have a := h.va
    have b := h.s2.2
    unfold VAt at a
    rw [e, a] at b
    have := Option.some.inj b
    injection this with _ t _
    exact absurd t (by decide)
  exact ⟨h.va.put 12 _ _ rfl, h.s1.keep k n1, h.s2.keep k n2⟩
theorem HdAt.keepOwn {w w' : World} {q : Nat} {r : Pu.Rule} {x : Pu.Shape} {age : Int} {g1 g2 : Nat} {v vt : Value} {base : Nat} {e : TypeId} {sz n : Nat} {xs : List Value} (h : HdAt w q r x age g1 g2 v) (k : Kp (fun z => some z = vt.ownBlock) w w') (o : w.ownsRow base e sz vt n xs) (hq : q < base) (h1 : g1 < base) (h2 : g2 < base) : HdAt w' q r x age g1 g2 v :=
  ⟨h.va.keep k (own_far o hq), h.s1.keep k (own_far o h1), h.s2.keep k (own_far o h2)⟩
theorem ClAt.keepOwn {w w' : World} {v vt : Value} {l : List Cl} {base : Nat} {e : TypeId} {sz n : Nat} {xs : List Value} (h : ClAt w v l) (k : Kp (fun z => some z = vt.ownBlock) w w') (o : w.ownsRow base e sz vt n xs) (hb : ∀ z, some z = v.ownBlock → z < base) : ClAt w' v l := by
  refine ⟨h.1, ?_⟩
  rcases h.2 with h2 | ⟨g, cap, cur, hv, hbb, hg, r⟩
  · exact Or.inl h2
  · refine Or.inr ⟨g, cap, cur, hv, hbb, ?_, r⟩
    have hgb : g < base := hb g (by rw [hv]; simp [Value.ownBlock])
    exact (k.block g (Array.getElem?_eq_some_iff.1 hg).1 (own_far o hgb)).trans hg
theorem ClAt.low {w : World} {v : Value} {l : List Cl} (h : ClAt w v l) : ∀ z, some z = v.ownBlock → z < w.heap.size := by
  intro z hz
  rcases h.2 with ⟨rfl, _⟩ | ⟨g, cap, cur, rfl, hbb, hg, r⟩
  · simp [Value.ownBlock] at hz
  · simp [Value.ownBlock] at hz
    subst hz
    exact (Array.getElem?_eq_some_iff.1 hg).1
theorem SlB.lt {w : World} {g : Nat} {l : List Bool} (h : SlB w g l) : g < w.heap.size := (Array.getElem?_eq_some_iff.1 h.2).1
theorem info_cell3 : (Tryz.prog.info? 80).map (·.size) = some 3 := by
  obtain ⟨i, h1, _, h3, _⟩ := info_cell1
  rw [h1]
  simp [h3]
theorem ClAt.other {w : World} {q : Nat} {a : Array Value} {v : Value} {l : List Cl} (h : ClAt w v l) (hv : VAt w q a) (u : Value) : ClAt (w.setCell ⟨q, 12, none⟩ u) v l := by
  have k : Kp (· = q) w (w.setCell ⟨q, 12, none⟩ u) := (Kp.refl (· = q) w).setCell (p := ⟨q, 12, none⟩) rfl u
  refine h.keep k (fun g hg e => ?_)
  subst e
  unfold VAt at hv
  rw [hv] at hg
  simp at hg

set_option maxRecDepth 100000 in
set_option maxHeartbeats 4000000 in
theorem xput_in_n (q : Nat) (r : Pu.Rule) (x : Pu.Shape) (age : Int) (g1 g2 : Nat) (v : Value) (l : List Cl) (X Y s : Int) (w : World) (h : HdAt w q r x age g1 g2 v) (hc : ClAt w v l) (hl : l.length ≤ 1000) (hbd : ClBd l) (hin : (onSideB X x.w && onSideB Y x.h) = true)
    (hX : -9999 ≤ X ∧ X ≤ 9999) (hY : -9999 ≤ Y ∧ Y ≤ 9999) (bw : (x.w == 0) = false) (bh : (x.h == 0) = false) (hs0 : 0 ≤ s) (hs1 : s < r.states) :
    Calls Tryz.prog 20 #[.pointer (some ⟨q, 0, none⟩), .int .i64 X, .int .i64 Y, .int .i64 s] w fun e w' => PutIn w q r x age g1 g2 (putC X Y s l) e w' := by
  have H0 := hide h
  have HC := hide hc
  have hql := h.va.lt
  have hg1 := h.s1.lt
  have hg2 := h.s2.lt
  have H4L := hide hc.low
  have HH := hide (fun wx (hx : HdAt wx q r x age g1 g2 v) => xhas_any q _ x.w x.h X Y wx hx.va rfl rfl)
  rw [hin] at HH
  have CL := hide (fun wx (hx : HdAt wx q r x age g1 g2 v) => (⟨hx.cells, hx.c12⟩ : HdC wx q r x age g1 g2 ∧ wx.cell? ⟨q, 12, none⟩ = some v))
  obtain ⟨ti, ti1, ti2, ti3, ti4⟩ := info_cell1
  have TI1 := hide ti1
  have TI2 := hide ti2
  have TI3 := hide ti3
  have TI4 := hide ti4
  obtain ⟨ad, cap, ev, _⟩ := hc.form
  have HF : Hid (∀ wx, ClAt wx v l → l ≠ [] → ∃ g, ad = some ⟨g, 0, none⟩ ∧ ∀ k c, l[k]? = some c → wx.cell? ⟨g, k * 3, none⟩ = some (.int .i64 c.1) ∧ wx.cell? ⟨g, k * 3 + 1, none⟩ = some (.int .i64 c.2.1) ∧ wx.cell? ⟨g, k * 3 + 2, none⟩ = some (.int .i64 c.2.2)) := by
    intro wx hx
    obtain ⟨a', cap', e', f⟩ := hx.form
    rw [ev] at e'
    injection e' with e1 e2 e3
    subst e1
    exact f
  have HRM := hide (fun vx (l' : List Cl) wx (hx : HdAt wx q r x age g1 g2 v) (hc' : ClAt wx vx l') h1 h2 => xroom_any q _ x.w x.h vx l' wx hx.va rfl rfl hc' h1 h2)
  have HDT := hide (fun k c (hk : l[k]? = some c) => dropC_take hk X Y)
  have HDL := hide (fun k => Nat.le_trans (dropC_len X Y (l.take k)) (by rw [List.length_take]; omega : (l.take k).length ≤ 1000))
  have HBD := hide (putC_bd (s := s) hbd (X := X) (Y := Y) (by omega) (by omega))
  obtain ⟨c0, c1, c2, c3, c4, c5, c6, c7, c8, c9, c10, c11⟩ := h.cells
  clear h hc ti1 ti2 ti3 ti4 hbd hin c0 c1 c2 c4 c7 c8 c9 c10 c11
  go_enter Tryz.func20, Tryz.ntmps20
  go_wp2_with fail
  refine (HH.out w H0.out).mono ?_
  rintro e w1 ⟨rfl, nn, hw1⟩
  have K1 : Hid (Kp (fun _ => False) w w1) := by rw [hw1]; exact (Kp.refl _ _).drewN nn
  have H1 := hide (H0.out.keep K1.out)
  have C1 := hide (HC.out.keep K1.out (fun _ _ h => h))
  clear hw1 c3 c5 c6 H0 HC HH
  obtain ⟨⟨_, _, _, c3, _, c5, c6, _, _, _, _, _⟩, c12⟩ := CL.out w1 H1.out
  go_wp2_with fail
  go_loopg [10, 11] l.length (fun gk lv iv wr => ∃ (k : Nat) (vt : Value), k ≤ l.length ∧ l.length ≤ k + gk ∧ vt = lv ∧ iv = .int .i64 k ∧ HdAt wr q r x age g1 g2 v ∧ ClAt wr v l ∧ wr.ownsRow w.heap.size 80 3 vt (dropC X Y (l.take k)).length (cellsv (dropC X Y (l.take k))) ∧ Kp (fun _ => False) w wr)
  case atStart => exact ⟨0, _, by omega, by omega, rfl, rfl, H1.out, C1.out, World.ownsRow_nil _ _ _ _, K1.out⟩
  case round =>
    obtain ⟨k, vt, m1, m2, rfl, rfl, m3, m4, m5, m6⟩ := hrel
    clear c3 c5 c6 c12 H1 C1 K1
    obtain ⟨⟨_, _, _, c3, _, c5, c6, _, _, _, _, _⟩, c12⟩ := CL.out wr m3
    have M3 := hide m3
    have M4 := hide m4
    have M5 := hide m5
    have M6 := hide m6
    have sz := m6.size
    clear m3 m4 m5 m6
    by_cases hk : k < l.length
    · obtain ⟨c, hkc⟩ : ∃ c, l[k]? = some c := ⟨l[k], List.getElem?_eq_getElem hk⟩
      have hne : l ≠ [] := by intro e; rw [e] at hk; simp at hk
      obtain ⟨g, had, hcc⟩ := HF.out wr M4.out hne
      obtain ⟨d0, d1, d2⟩ := hcc k c hkc
      have HT := hide (HDT.out k c hkc)
      have HLk := hide (HDL.out k)
      obtain ⟨cx, cy, cs⟩ := c
      simp only at d0 d1 d2
      clear hcc hkc hne
      have LD : Hid (∀ j u, (cellv (cx, cy, cs))[j]? = some u → wr.cell? ⟨g, k * 3 + j, none⟩ = some u) := by
        intro j u hj
        match j with
        | 0 => rw [Nat.add_zero, d0]; simpa [cellv] using hj
        | 1 => rw [d1]; simpa [cellv] using hj
        | 2 => rw [d2]; simpa [cellv] using hj
        | j + 3 => simp [cellv] at hj
      subst had
      subst ev
      by_cases e1 : cx = X
      · by_cases e2 : cy = Y
        · have HT2 : Hid (dropC X Y (l.take (k + 1)) = dropC X Y (l.take k)) := by
            have := HT.out
            rw [if_pos ⟨e1, e2⟩, List.append_nil] at this
            exact this
          have b1 : (cx != X) = false := by simpa using e1
          have b2 : (cy != Y) = false := by simpa using e2
          clear e1 e2
          go_wp2_with fail
          go_roundg (gk - 1)
          case measure => omega
          case rel => exact ⟨k + 1, _, by omega, by omega, rfl, by go_num, M3.out, M4.out, by rw [HT2.out]; exact M5.out, M6.out⟩
        · have b1 : (cx != X) = false := by simpa using e1
          have b2 : (cy != Y) = true := by simpa using e2
          have hcond : ¬ (cx = X ∧ cy = Y) := fun h => e2 h.2
          have HCD := hide hcond
          clear e1 e2 hcond
          have HT2 : Hid (dropC X Y (l.take (k + 1)) = dropC X Y (l.take k) ++ [(cx, cy, cs)]) := by
            have := HT.out
            rw [if_neg HCD.out] at this
            exact this
          obtain ⟨L, hL⟩ : ∃ L, dropC X Y (l.take k) = L := ⟨_, rfl⟩
          rw [hL] at M5 HT2 HLk
          obtain ⟨ll, hll⟩ : ∃ n, L.length = n := ⟨_, rfl⟩
          rw [hll] at M5 HLk
          have HLn := HLk.out
          have HLL := hide hll
          have HLD := hide hL
          clear hll hL HT
          go_wp2_with (refine wpList_append_lies _ rfl _ _ 54 rfl w.heap.size 80 ti (.agg (cellv (0, 0, 0))) 3 24 Tryz.underlying54 TI1.out TI2.out TI3.out TI4.out rfl (by decide) vt ll (cellsv L) ?_ ?_ ⟨wr.heap.size, 0, none⟩ 1 1 (cellv (cx, cy, cs)).toList ?_ ?_ ?_ ?_ ?_ ?_ ?_ ?_ (wr.heap.size + 1) ?_ ?_
                       · rfl
                       · exact (own_of M5.out fun g hg _ => Below.heap_alloc _ _ _ hg)
                       · rfl
                       · rfl
                       · exact World.news_of_block (heap_alloc_new wr (.cells (cellv (cx, cy, cs)) 80))
                       · exact (fun u hu => (Array.all_eq_true_iff_forall_mem.1 (cellv_one _)) u (by simpa using hu))
                       · decide
                       · (unfold maxLen; omega)
                       · omega
                       · (simp; omega)
                       · simp
                       intro g9 cap9 w9 hown hgrow _ _
                       have O9 := hide hown
                       have K9 : Hid (Kp (fun k => some k = vt.ownBlock) wr w9) := ⟨hgrow.os, hgrow.tape, hgrow.output, Nat.le_trans (Nat.le_succ _) (Nat.le_trans (by simp) hgrow.size), fun k hk hn => (hgrow.block k (by simp; omega) hn).trans (Below.heap_alloc _ _ _ hk)⟩
                       clear hown hgrow)
          go_roundg (gk - 1)
          case measure => omega
          case rel =>
            refine ⟨k + 1, _, by omega, by omega, rfl, by go_num, M3.out.keepOwn K9.out M5.out hql hg1 hg2, ?_, ?_, M6.out.tr K9.out (fun z hz hx => absurd hx (own_far M5.out hz))⟩
            · exact M4.out.keepOwn K9.out M5.out H4L.out
            · rw [HT2.out, cellsv_append, cellsv_one, List.length_append (bs := [_]), HLL.out]
              exact O9.out
      · have b1 : (cx != X) = true := by simpa using e1
        have hcond : ¬ (cx = X ∧ cy = Y) := fun h => e1 h.1
        have HCD := hide hcond
        clear e1 hcond
        have HT2 : Hid (dropC X Y (l.take (k + 1)) = dropC X Y (l.take k) ++ [(cx, cy, cs)]) := by
          have := HT.out
          rw [if_neg HCD.out] at this
          exact this
        obtain ⟨L, hL⟩ : ∃ L, dropC X Y (l.take k) = L := ⟨_, rfl⟩
        rw [hL] at M5 HT2 HLk
        obtain ⟨ll, hll⟩ : ∃ n, L.length = n := ⟨_, rfl⟩
        rw [hll] at M5 HLk
        have HLn := HLk.out
        have HLL := hide hll
        have HLD := hide hL
        clear hll hL HT
        go_wp2_with (refine wpList_append_lies _ rfl _ _ 54 rfl w.heap.size 80 ti (.agg (cellv (0, 0, 0))) 3 24 Tryz.underlying54 TI1.out TI2.out TI3.out TI4.out rfl (by decide) vt ll (cellsv L) ?_ ?_ ⟨wr.heap.size, 0, none⟩ 1 1 (cellv (cx, cy, cs)).toList ?_ ?_ ?_ ?_ ?_ ?_ ?_ ?_ (wr.heap.size + 1) ?_ ?_
                     · rfl
                     · exact (own_of M5.out fun g hg _ => Below.heap_alloc _ _ _ hg)
                     · rfl
                     · rfl
                     · exact World.news_of_block (heap_alloc_new wr (.cells (cellv (cx, cy, cs)) 80))
                     · exact (fun u hu => (Array.all_eq_true_iff_forall_mem.1 (cellv_one _)) u (by simpa using hu))
                     · decide
                     · (unfold maxLen; omega)
                     · omega
                     · (simp; omega)
                     · simp
                     intro g9 cap9 w9 hown hgrow _ _
                     have O9 := hide hown
                     have K9 : Hid (Kp (fun k => some k = vt.ownBlock) wr w9) := ⟨hgrow.os, hgrow.tape, hgrow.output, Nat.le_trans (Nat.le_succ _) (Nat.le_trans (by simp) hgrow.size), fun k hk hn => (hgrow.block k (by simp; omega) hn).trans (Below.heap_alloc _ _ _ hk)⟩
                     clear hown hgrow)
        go_roundg (gk - 1)
        case measure => omega
        case rel =>
          refine ⟨k + 1, _, by omega, by omega, rfl, by go_num, M3.out.keepOwn K9.out M5.out hql hg1 hg2, ?_, ?_, M6.out.tr K9.out (fun z hz hx => absurd hx (own_far M5.out hz))⟩
          · exact M4.out.keepOwn K9.out M5.out H4L.out
          · rw [HT2.out, cellsv_append, cellsv_one, List.length_append (bs := [_]), HLL.out]
            exact O9.out
    · have ek : k = l.length := by omega
      have HTk : Hid (dropC X Y (l.take k) = dropC X Y l) := by show _ = _; rw [ek, List.take_length]
      have HLk := hide (HDL.out k)
      rw [HTk.out] at M5 HLk
      clear HTk
      obtain ⟨rb, hrb⟩ : ∃ rb, roomB x.w x.h (putC X Y s l) = rb := ⟨_, rfl⟩
      have HRB := hide hrb
      clear hrb
      subst ev
      by_cases hs : 0 < s
      · have HP : Hid (putC X Y s l = dropC X Y l ++ [(X, Y, s)]) := by show _ = _; unfold putC; rw [if_pos hs]
        obtain ⟨L, hL⟩ : ∃ L, dropC X Y l = L := ⟨_, rfl⟩
        rw [hL] at M5 HP HLk
        obtain ⟨ll, hll⟩ : ∃ n, L.length = n := ⟨_, rfl⟩
        rw [hll] at M5 HLk
        have HLn := HLk.out
        have HLL := hide hll
        clear hll hL
        go_wp2_with (refine wpList_append_lies _ rfl _ _ 54 rfl w.heap.size 80 ti (.agg (cellv (0, 0, 0))) 3 24 Tryz.underlying54 TI1.out TI2.out TI3.out TI4.out rfl (by decide) vt ll (cellsv L) ?_ ?_ ⟨wr.heap.size, 0, none⟩ 1 1 (cellv (X, Y, s)).toList ?_ ?_ ?_ ?_ ?_ ?_ ?_ ?_ (wr.heap.size + 1) ?_ ?_
                     · rfl
                     · exact (own_of M5.out fun g hg _ => Below.heap_alloc _ _ _ hg)
                     · rfl
                     · rfl
                     · exact World.news_of_block (heap_alloc_new wr (.cells (cellv (X, Y, s)) 80))
                     · exact (fun u hu => (Array.all_eq_true_iff_forall_mem.1 (cellv_one _)) u (by simpa using hu))
                     · decide
                     · (unfold maxLen; omega)
                     · omega
                     · (simp; omega)
                     · simp
                     intro g9 cap9 w9 hown hgrow _ _
                     have O9 := hide hown
                     have K9 : Hid (Kp (fun k => some k = vt.ownBlock) wr w9) := ⟨hgrow.os, hgrow.tape, hgrow.output, Nat.le_trans (Nat.le_succ _) (Nat.le_trans (by simp) hgrow.size), fun k hk hn => (hgrow.block k (by simp; omega) hn).trans (Below.heap_alloc _ _ _ hk)⟩
                     have HD9 := hide (M3.out.keepOwn K9.out M5.out hql hg1 hg2)
                     obtain ⟨⟨_, _, _, e3, _, e5, e6, _, _, _, _, _⟩, e12⟩ := CL.out w9 HD9.out
                     have f12 := HD9.out.va.fro 12
                     clear hown hgrow)
        have HC9 : Hid (ClAt w9 (.slice (some ⟨g9, 0, none⟩) (ll + 1) cap9) (putC X Y s l)) := by
          have o9 := O9.out
          rw [HP.out]
          unfold Hid
          apply ClAt.of_own (base := w.heap.size)
          rw [cellsv_append, cellsv_one, List.length_append (bs := [_]), HLL.out]
          exact o9
        have HL9 : Hid ((putC X Y s l).length ≤ 1000000) := by
          show _ ≤ _
          rw [HP.out, List.length_append, HLL.out]
          simp
          omega
        have K10 := hide (M6.out.tr K9.out (fun z hz hx => absurd hx (own_far M5.out hz)))
        refine (HRM.out _ _ w9 HD9.out HC9.out HL9.out HBD.out).mono ?_
        rw [HRB.out]
        rintro e w10 ⟨rfl, hw10⟩
        subst w10
        cases rb
        · go_wp2_with fail
          go_ret
          unfold PutIn
          rw [if_neg (by rw [HRB.out]; simp)]
          exact ⟨rfl, K10.out⟩
        · go_wp2_with fail
          go_ret
          unfold PutIn
          rw [if_pos HRB.out]
          exact ⟨rfl, ⟨_, HD9.out.setLive _, HC9.out.other HD9.out.va _⟩, (K10.out.mono (T := (· = q)) (fun _ h => absurd h id)).setCell (p := ⟨q, 12, none⟩) rfl _⟩
      · have HP : Hid (putC X Y s l = dropC X Y l) := by show _ = _; unfold putC; rw [if_neg hs, List.append_nil]
        have HC9 : Hid (ClAt wr vt (putC X Y s l)) := by
          rw [HP.out]
          exact ClAt.of_own M5.out
        have HL9 : Hid ((putC X Y s l).length ≤ 1000000) := by
          show _ ≤ _
          have := HLk.out
          rw [HP.out]
          omega
        have f12 := M3.out.va.fro 12
        obtain ⟨ad2, cap2, evt, _⟩ := HC9.out.form
        subst evt
        go_wp2_with fail
        refine (HRM.out _ _ wr M3.out HC9.out HL9.out HBD.out).mono ?_
        rw [HRB.out]
        rintro e w10 ⟨rfl, hw10⟩
        subst w10
        cases rb
        · go_wp2_with fail
          go_ret
          unfold PutIn
          rw [if_neg (by rw [HRB.out]; simp)]
          exact ⟨rfl, M6.out⟩
        · go_wp2_with fail
          go_ret
          unfold PutIn
          rw [if_pos HRB.out]
          exact ⟨rfl, ⟨_, M3.out.setLive _, HC9.out.other M3.out.va _⟩, (M6.out.mono (T := (· = q)) (fun _ h => absurd h id)).setCell (p := ⟨q, 12, none⟩) rfl _⟩

set_option maxRecDepth 100000 in
set_option maxHeartbeats 4000000 in
theorem xput_in_w (q : Nat) (r : Pu.Rule) (x : Pu.Shape) (age : Int) (g1 g2 : Nat) (v : Value) (l : List Cl) (X Y s : Int) (w : World) (h : HdAt w q r x age g1 g2 v) (hc : ClAt w v l) (hl : l.length ≤ 1000) (hbd : ClBd l) (hin : (onSideB X x.w && onSideB Y x.h) = true)
    (hX : -9999 ≤ X ∧ X ≤ 9999) (hY : -9999 ≤ Y ∧ Y ≤ 9999) (bw : (x.w == 0) = true) (bh : (x.h == 0) = false) (hs0 : 0 ≤ s) (hs1 : s < r.states) :
    Calls Tryz.prog 20 #[.pointer (some ⟨q, 0, none⟩), .int .i64 X, .int .i64 Y, .int .i64 s] w fun e w' => PutIn w q r x age g1 g2 (putC X Y s l) e w' := by
  have H0 := hide h
  have HC := hide hc
  have hql := h.va.lt
  have hg1 := h.s1.lt
  have hg2 := h.s2.lt
  have H4L := hide hc.low
  have HH := hide (fun wx (hx : HdAt wx q r x age g1 g2 v) => xhas_any q _ x.w x.h X Y wx hx.va rfl rfl)
  rw [hin] at HH
  have CL := hide (fun wx (hx : HdAt wx q r x age g1 g2 v) => (⟨hx.cells, hx.c12⟩ : HdC wx q r x age g1 g2 ∧ wx.cell? ⟨q, 12, none⟩ = some v))
  obtain ⟨ti, ti1, ti2, ti3, ti4⟩ := info_cell1
  have TI1 := hide ti1
  have TI2 := hide ti2
  have TI3 := hide ti3
  have TI4 := hide ti4
  obtain ⟨ad, cap, ev, _⟩ := hc.form
  have HF : Hid (∀ wx, ClAt wx v l → l ≠ [] → ∃ g, ad = some ⟨g, 0, none⟩ ∧ ∀ k c, l[k]? = some c → wx.cell? ⟨g, k * 3, none⟩ = some (.int .i64 c.1) ∧ wx.cell? ⟨g, k * 3 + 1, none⟩ = some (.int .i64 c.2.1) ∧ wx.cell? ⟨g, k * 3 + 2, none⟩ = some (.int .i64 c.2.2)) := by
    intro wx hx
    obtain ⟨a', cap', e', f⟩ := hx.form
    rw [ev] at e'
    injection e' with e1 e2 e3
    subst e1
    exact f
  have HRM := hide (fun vx (l' : List Cl) wx (hx : HdAt wx q r x age g1 g2 v) (hc' : ClAt wx vx l') h1 h2 => xroom_any q _ x.w x.h vx l' wx hx.va rfl rfl hc' h1 h2)
  have HDT := hide (fun k c (hk : l[k]? = some c) => dropC_take hk X Y)
  have HDL := hide (fun k => Nat.le_trans (dropC_len X Y (l.take k)) (by rw [List.length_take]; omega : (l.take k).length ≤ 1000))
  have HBD := hide (putC_bd (s := s) hbd (X := X) (Y := Y) (by omega) (by omega))
  obtain ⟨c0, c1, c2, c3, c4, c5, c6, c7, c8, c9, c10, c11⟩ := h.cells
  clear h hc ti1 ti2 ti3 ti4 hbd hin c0 c1 c2 c4 c7 c8 c9 c10 c11
  go_enter Tryz.func20, Tryz.ntmps20
  go_wp2_with fail
  refine (HH.out w H0.out).mono ?_
  rintro e w1 ⟨rfl, nn, hw1⟩
  have K1 : Hid (Kp (fun _ => False) w w1) := by rw [hw1]; exact (Kp.refl _ _).drewN nn
  have H1 := hide (H0.out.keep K1.out)
  have C1 := hide (HC.out.keep K1.out (fun _ _ h => h))
  clear hw1 c3 c5 c6 H0 HC HH
  obtain ⟨⟨_, _, _, c3, _, c5, c6, _, _, _, _, _⟩, c12⟩ := CL.out w1 H1.out
  go_wp2_with fail
  go_loopg [10, 11] l.length (fun gk lv iv wr => ∃ (k : Nat) (vt : Value), k ≤ l.length ∧ l.length ≤ k + gk ∧ vt = lv ∧ iv = .int .i64 k ∧ HdAt wr q r x age g1 g2 v ∧ ClAt wr v l ∧ wr.ownsRow w.heap.size 80 3 vt (dropC X Y (l.take k)).length (cellsv (dropC X Y (l.take k))) ∧ Kp (fun _ => False) w wr)
  case atStart => exact ⟨0, _, by omega, by omega, rfl, rfl, H1.out, C1.out, World.ownsRow_nil _ _ _ _, K1.out⟩
  case round =>
    obtain ⟨k, vt, m1, m2, rfl, rfl, m3, m4, m5, m6⟩ := hrel
    clear c3 c5 c6 c12 H1 C1 K1
    obtain ⟨⟨_, _, _, c3, _, c5, c6, _, _, _, _, _⟩, c12⟩ := CL.out wr m3
    have M3 := hide m3
    have M4 := hide m4
    have M5 := hide m5
    have M6 := hide m6
    have sz := m6.size
    clear m3 m4 m5 m6
    by_cases hk : k < l.length
    · obtain ⟨c, hkc⟩ : ∃ c, l[k]? = some c := ⟨l[k], List.getElem?_eq_getElem hk⟩
      have hne : l ≠ [] := by intro e; rw [e] at hk; simp at hk
      obtain ⟨g, had, hcc⟩ := HF.out wr M4.out hne
      obtain ⟨d0, d1, d2⟩ := hcc k c hkc
      have HT := hide (HDT.out k c hkc)
      have HLk := hide (HDL.out k)
      obtain ⟨cx, cy, cs⟩ := c
      simp only at d0 d1 d2
      clear hcc hkc hne
      have LD : Hid (∀ j u, (cellv (cx, cy, cs))[j]? = some u → wr.cell? ⟨g, k * 3 + j, none⟩ = some u) := by
        intro j u hj
        match j with
        | 0 => rw [Nat.add_zero, d0]; simpa [cellv] using hj
        | 1 => rw [d1]; simpa [cellv] using hj
        | 2 => rw [d2]; simpa [cellv] using hj
        | j + 3 => simp [cellv] at hj
      subst had
      subst ev
      by_cases e1 : cx = X
      · by_cases e2 : cy = Y
        · have HT2 : Hid (dropC X Y (l.take (k + 1)) = dropC X Y (l.take k)) := by
            have := HT.out
            rw [if_pos ⟨e1, e2⟩, List.append_nil] at this
            exact this
          have b1 : (cx != X) = false := by simpa using e1
          have b2 : (cy != Y) = false := by simpa using e2
          clear e1 e2
          go_wp2_with fail
          go_roundg (gk - 1)
          case measure => omega
          case rel => exact ⟨k + 1, _, by omega, by omega, rfl, by go_num, M3.out, M4.out, by rw [HT2.out]; exact M5.out, M6.out⟩
        · have b1 : (cx != X) = false := by simpa using e1
          have b2 : (cy != Y) = true := by simpa using e2
          have hcond : ¬ (cx = X ∧ cy = Y) := fun h => e2 h.2
          have HCD := hide hcond
          clear e1 e2 hcond
          have HT2 : Hid (dropC X Y (l.take (k + 1)) = dropC X Y (l.take k) ++ [(cx, cy, cs)]) := by
            have := HT.out
            rw [if_neg HCD.out] at this
            exact this
          obtain ⟨L, hL⟩ : ∃ L, dropC X Y (l.take k) = L := ⟨_, rfl⟩
          rw [hL] at M5 HT2 HLk
          obtain ⟨ll, hll⟩ : ∃ n, L.length = n := ⟨_, rfl⟩
          rw [hll] at M5 HLk
          have HLn := HLk.out
          have HLL := hide hll
          have HLD := hide hL
          clear hll hL HT
          go_wp2_with (refine wpList_append_lies _ rfl _ _ 54 rfl w.heap.size 80 ti (.agg (cellv (0, 0, 0))) 3 24 Tryz.underlying54 TI1.out TI2.out TI3.out TI4.out rfl (by decide) vt ll (cellsv L) ?_ ?_ ⟨wr.heap.size, 0, none⟩ 1 1 (cellv (cx, cy, cs)).toList ?_ ?_ ?_ ?_ ?_ ?_ ?_ ?_ (wr.heap.size + 1) ?_ ?_
                       · rfl
                       · exact (own_of M5.out fun g hg _ => Below.heap_alloc _ _ _ hg)
                       · rfl
                       · rfl
                       · exact World.news_of_block (heap_alloc_new wr (.cells (cellv (cx, cy, cs)) 80))
                       · exact (fun u hu => (Array.all_eq_true_iff_forall_mem.1 (cellv_one _)) u (by simpa using hu))
                       · decide
                       · (unfold maxLen; omega)
                       · omega
                       · (simp; omega)
                       · simp
                       intro g9 cap9 w9 hown hgrow _ _
                       have O9 := hide hown
                       have K9 : Hid (Kp (fun k => some k = vt.ownBlock) wr w9) := ⟨hgrow.os, hgrow.tape, hgrow.output, Nat.le_trans (Nat.le_succ _) (Nat.le_trans (by simp) hgrow.size), fun k hk hn => (hgrow.block k (by simp; omega) hn).trans (Below.heap_alloc _ _ _ hk)⟩
                       clear hown hgrow)
          go_roundg (gk - 1)
          case measure => omega
          case rel =>
            refine ⟨k + 1, _, by omega, by omega, rfl, by go_num, M3.out.keepOwn K9.out M5.out hql hg1 hg2, ?_, ?_, M6.out.tr K9.out (fun z hz hx => absurd hx (own_far M5.out hz))⟩
            · exact M4.out.keepOwn K9.out M5.out H4L.out
            · rw [HT2.out, cellsv_append, cellsv_one, List.length_append (bs := [_]), HLL.out]
              exact O9.out
      · have b1 : (cx != X) = true := by simpa using e1
        have hcond : ¬ (cx = X ∧ cy = Y) := fun h => e1 h.1
        have HCD := hide hcond
        clear e1 hcond
        have HT2 : Hid (dropC X Y (l.take (k + 1)) = dropC X Y (l.take k) ++ [(cx, cy, cs)]) := by
          have := HT.out
          rw [if_neg HCD.out] at this
          exact this
        obtain ⟨L, hL⟩ : ∃ L, dropC X Y (l.take k) = L := ⟨_, rfl⟩
        rw [hL] at M5 HT2 HLk
        obtain ⟨ll, hll⟩ : ∃ n, L.length = n := ⟨_, rfl⟩
        rw [hll] at M5 HLk
        have HLn := HLk.out
        have HLL := hide hll
        have HLD := hide hL
        clear hll hL HT
        go_wp2_with (refine wpList_append_lies _ rfl _ _ 54 rfl w.heap.size 80 ti (.agg (cellv (0, 0, 0))) 3 24 Tryz.underlying54 TI1.out TI2.out TI3.out TI4.out rfl (by decide) vt ll (cellsv L) ?_ ?_ ⟨wr.heap.size, 0, none⟩ 1 1 (cellv (cx, cy, cs)).toList ?_ ?_ ?_ ?_ ?_ ?_ ?_ ?_ (wr.heap.size + 1) ?_ ?_
                     · rfl
                     · exact (own_of M5.out fun g hg _ => Below.heap_alloc _ _ _ hg)
                     · rfl
                     · rfl
                     · exact World.news_of_block (heap_alloc_new wr (.cells (cellv (cx, cy, cs)) 80))
                     · exact (fun u hu => (Array.all_eq_true_iff_forall_mem.1 (cellv_one _)) u (by simpa using hu))
                     · decide
                     · (unfold maxLen; omega)
                     · omega
                     · (simp; omega)
                     · simp
                     intro g9 cap9 w9 hown hgrow _ _
                     have O9 := hide hown
                     have K9 : Hid (Kp (fun k => some k = vt.ownBlock) wr w9) := ⟨hgrow.os, hgrow.tape, hgrow.output, Nat.le_trans (Nat.le_succ _) (Nat.le_trans (by simp) hgrow.size), fun k hk hn => (hgrow.block k (by simp; omega) hn).trans (Below.heap_alloc _ _ _ hk)⟩
                     clear hown hgrow)
        go_roundg (gk - 1)
        case measure => omega
        case rel =>
          refine ⟨k + 1, _, by omega, by omega, rfl, by go_num, M3.out.keepOwn K9.out M5.out hql hg1 hg2, ?_, ?_, M6.out.tr K9.out (fun z hz hx => absurd hx (own_far M5.out hz))⟩
          · exact M4.out.keepOwn K9.out M5.out H4L.out
          · rw [HT2.out, cellsv_append, cellsv_one, List.length_append (bs := [_]), HLL.out]
            exact O9.out
    · have ek : k = l.length := by omega
      have HTk : Hid (dropC X Y (l.take k) = dropC X Y l) := by show _ = _; rw [ek, List.take_length]
      have HLk := hide (HDL.out k)
      rw [HTk.out] at M5 HLk
      clear HTk
      obtain ⟨rb, hrb⟩ : ∃ rb, roomB x.w x.h (putC X Y s l) = rb := ⟨_, rfl⟩
      have HRB := hide hrb
      clear hrb
      subst ev
      by_cases hs : 0 < s
      · have HP : Hid (putC X Y s l = dropC X Y l ++ [(X, Y, s)]) := by show _ = _; unfold putC; rw [if_pos hs]
        obtain ⟨L, hL⟩ : ∃ L, dropC X Y l = L := ⟨_, rfl⟩
        rw [hL] at M5 HP HLk
        obtain ⟨ll, hll⟩ : ∃ n, L.length = n := ⟨_, rfl⟩
        rw [hll] at M5 HLk
        have HLn := HLk.out
        have HLL := hide hll
        clear hll hL
        go_wp2_with (refine wpList_append_lies _ rfl _ _ 54 rfl w.heap.size 80 ti (.agg (cellv (0, 0, 0))) 3 24 Tryz.underlying54 TI1.out TI2.out TI3.out TI4.out rfl (by decide) vt ll (cellsv L) ?_ ?_ ⟨wr.heap.size, 0, none⟩ 1 1 (cellv (X, Y, s)).toList ?_ ?_ ?_ ?_ ?_ ?_ ?_ ?_ (wr.heap.size + 1) ?_ ?_
                     · rfl
                     · exact (own_of M5.out fun g hg _ => Below.heap_alloc _ _ _ hg)
                     · rfl
                     · rfl
                     · exact World.news_of_block (heap_alloc_new wr (.cells (cellv (X, Y, s)) 80))
                     · exact (fun u hu => (Array.all_eq_true_iff_forall_mem.1 (cellv_one _)) u (by simpa using hu))
                     · decide
                     · (unfold maxLen; omega)
                     · omega
                     · (simp; omega)
                     · simp
                     intro g9 cap9 w9 hown hgrow _ _
                     have O9 := hide hown
                     have K9 : Hid (Kp (fun k => some k = vt.ownBlock) wr w9) := ⟨hgrow.os, hgrow.tape, hgrow.output, Nat.le_trans (Nat.le_succ _) (Nat.le_trans (by simp) hgrow.size), fun k hk hn => (hgrow.block k (by simp; omega) hn).trans (Below.heap_alloc _ _ _ hk)⟩
                     have HD9 := hide (M3.out.keepOwn K9.out M5.out hql hg1 hg2)
                     obtain ⟨⟨_, _, _, e3, _, e5, e6, _, _, _, _, _⟩, e12⟩ := CL.out w9 HD9.out
                     have f12 := HD9.out.va.fro 12
                     clear hown hgrow)
        have HC9 : Hid (ClAt w9 (.slice (some ⟨g9, 0, none⟩) (ll + 1) cap9) (putC X Y s l)) := by
          have o9 := O9.out
          rw [HP.out]
          unfold Hid
          apply ClAt.of_own (base := w.heap.size)
          rw [cellsv_append, cellsv_one, List.length_append (bs := [_]), HLL.out]
          exact o9
        have HL9 : Hid ((putC X Y s l).length ≤ 1000000) := by
          show _ ≤ _
          rw [HP.out, List.length_append, HLL.out]
          simp
          omega
        have K10 := hide (M6.out.tr K9.out (fun z hz hx => absurd hx (own_far M5.out hz)))
        refine (HRM.out _ _ w9 HD9.out HC9.out HL9.out HBD.out).mono ?_
        rw [HRB.out]
        rintro e w10 ⟨rfl, hw10⟩
        subst w10
        cases rb
        · go_wp2_with fail
          go_ret
          unfold PutIn
          rw [if_neg (by rw [HRB.out]; simp)]
          exact ⟨rfl, K10.out⟩
        · go_wp2_with fail
          go_ret
          unfold PutIn
          rw [if_pos HRB.out]
          exact ⟨rfl, ⟨_, HD9.out.setLive _, HC9.out.other HD9.out.va _⟩, (K10.out.mono (T := (· = q)) (fun _ h => absurd h id)).setCell (p := ⟨q, 12, none⟩) rfl _⟩
      · have HP : Hid (putC X Y s l = dropC X Y l) := by show _ = _; unfold putC; rw [if_neg hs, List.append_nil]
        have HC9 : Hid (ClAt wr vt (putC X Y s l)) := by
          rw [HP.out]
          exact ClAt.of_own M5.out
        have HL9 : Hid ((putC X Y s l).length ≤ 1000000) := by
          show _ ≤ _
          have := HLk.out
          rw [HP.out]
          omega
        have f12 := M3.out.va.fro 12
        obtain ⟨ad2, cap2, evt, _⟩ := HC9.out.form
        subst evt
        go_wp2_with fail
        refine (HRM.out _ _ wr M3.out HC9.out HL9.out HBD.out).mono ?_
        rw [HRB.out]
        rintro e w10 ⟨rfl, hw10⟩
        subst w10
        cases rb
        · go_wp2_with fail
          go_ret
          unfold PutIn
          rw [if_neg (by rw [HRB.out]; simp)]
          exact ⟨rfl, M6.out⟩
        · go_wp2_with fail
          go_ret
          unfold PutIn
          rw [if_pos HRB.out]
          exact ⟨rfl, ⟨_, M3.out.setLive _, HC9.out.other M3.out.va _⟩, (M6.out.mono (T := (· = q)) (fun _ h => absurd h id)).setCell (p := ⟨q, 12, none⟩) rfl _⟩

set_option maxRecDepth 100000 in
set_option maxHeartbeats 4000000 in
theorem xput_in_h (q : Nat) (r : Pu.Rule) (x : Pu.Shape) (age : Int) (g1 g2 : Nat) (v : Value) (l : List Cl) (X Y s : Int) (w : World) (h : HdAt w q r x age g1 g2 v) (hc : ClAt w v l) (hl : l.length ≤ 1000) (hbd : ClBd l) (hin : (onSideB X x.w && onSideB Y x.h) = true)
    (hX : -9999 ≤ X ∧ X ≤ 9999) (hY : -9999 ≤ Y ∧ Y ≤ 9999) (bw : (x.w == 0) = false) (bh : (x.h == 0) = true) (hs0 : 0 ≤ s) (hs1 : s < r.states) :
    Calls Tryz.prog 20 #[.pointer (some ⟨q, 0, none⟩), .int .i64 X, .int .i64 Y, .int .i64 s] w fun e w' => PutIn w q r x age g1 g2 (putC X Y s l) e w' := by
  have H0 := hide h
  have HC := hide hc
  have hql := h.va.lt
  have hg1 := h.s1.lt
  have hg2 := h.s2.lt
  have H4L := hide hc.low
  have HH := hide (fun wx (hx : HdAt wx q r x age g1 g2 v) => xhas_any q _ x.w x.h X Y wx hx.va rfl rfl)
  rw [hin] at HH
  have CL := hide (fun wx (hx : HdAt wx q r x age g1 g2 v) => (⟨hx.cells, hx.c12⟩ : HdC wx q r x age g1 g2 ∧ wx.cell? ⟨q, 12, none⟩ = some v))
  obtain ⟨ti, ti1, ti2, ti3, ti4⟩ := info_cell1
  have TI1 := hide ti1
  have TI2 := hide ti2
  have TI3 := hide ti3
  have TI4 := hide ti4
  obtain ⟨ad, cap, ev, _⟩ := hc.form
  have HF : Hid (∀ wx, ClAt wx v l → l ≠ [] → ∃ g, ad = some ⟨g, 0, none⟩ ∧ ∀ k c, l[k]? = some c → wx.cell? ⟨g, k * 3, none⟩ = some (.int .i64 c.1) ∧ wx.cell? ⟨g, k * 3 + 1, none⟩ = some (.int .i64 c.2.1) ∧ wx.cell? ⟨g, k * 3 + 2, none⟩ = some (.int .i64 c.2.2)) := by
    intro wx hx
    obtain ⟨a', cap', e', f⟩ := hx.form
    rw [ev] at e'
    injection e' with e1 e2 e3
    subst e1
    exact f
  have HRM := hide (fun vx (l' : List Cl) wx (hx : HdAt wx q r x age g1 g2 v) (hc' : ClAt wx vx l') h1 h2 => xroom_any q _ x.w x.h vx l' wx hx.va rfl rfl hc' h1 h2)
  have HDT := hide (fun k c (hk : l[k]? = some c) => dropC_take hk X Y)
  have HDL := hide (fun k => Nat.le_trans (dropC_len X Y (l.take k)) (by rw [List.length_take]; omega : (l.take k).length ≤ 1000))
  have HBD := hide (putC_bd (s := s) hbd (X := X) (Y := Y) (by omega) (by omega))
  obtain ⟨c0, c1, c2, c3, c4, c5, c6, c7, c8, c9, c10, c11⟩ := h.cells
  clear h hc ti1 ti2 ti3 ti4 hbd hin c0 c1 c2 c4 c7 c8 c9 c10 c11
  go_enter Tryz.func20, Tryz.ntmps20
  go_wp2_with fail
  refine (HH.out w H0.out).mono ?_
  rintro e w1 ⟨rfl, nn, hw1⟩
  have K1 : Hid (Kp (fun _ => False) w w1) := by rw [hw1]; exact (Kp.refl _ _).drewN nn
  have H1 := hide (H0.out.keep K1.out)
  have C1 := hide (HC.out.keep K1.out (fun _ _ h => h))
  clear hw1 c3 c5 c6 H0 HC HH
  obtain ⟨⟨_, _, _, c3, _, c5, c6, _, _, _, _, _⟩, c12⟩ := CL.out w1 H1.out
  go_wp2_with fail
  go_loopg [10, 11] l.length (fun gk lv iv wr => ∃ (k : Nat) (vt : Value), k ≤ l.length ∧ l.length ≤ k + gk ∧ vt = lv ∧ iv = .int .i64 k ∧ HdAt wr q r x age g1 g2 v ∧ ClAt wr v l ∧ wr.ownsRow w.heap.size 80 3 vt (dropC X Y (l.take k)).length (cellsv (dropC X Y (l.take k))) ∧ Kp (fun _ => False) w wr)
  case atStart => exact ⟨0, _, by omega, by omega, rfl, rfl, H1.out, C1.out, World.ownsRow_nil _ _ _ _, K1.out⟩
  case round =>
    obtain ⟨k, vt, m1, m2, rfl, rfl, m3, m4, m5, m6⟩ := hrel
    clear c3 c5 c6 c12 H1 C1 K1
    obtain ⟨⟨_, _, _, c3, _, c5, c6, _, _, _, _, _⟩, c12⟩ := CL.out wr m3
    have M3 := hide m3
    have M4 := hide m4
    have M5 := hide m5
    have M6 := hide m6
    have sz := m6.size
    clear m3 m4 m5 m6
    by_cases hk : k < l.length
    · obtain ⟨c, hkc⟩ : ∃ c, l[k]? = some c := ⟨l[k], List.getElem?_eq_getElem hk⟩
      have hne : l ≠ [] := by intro e; rw [e] at hk; simp at hk
      obtain ⟨g, had, hcc⟩ := HF.out wr M4.out hne
      obtain ⟨d0, d1, d2⟩ := hcc k c hkc
      have HT := hide (HDT.out k c hkc)
      have HLk := hide (HDL.out k)
      obtain ⟨cx, cy, cs⟩ := c
      simp only at d0 d1 d2
      clear hcc hkc hne
      have LD : Hid (∀ j u, (cellv (cx, cy, cs))[j]? = some u → wr.cell? ⟨g, k * 3 + j, none⟩ = some u) := by
        intro j u hj
        match j with
        | 0 => rw [Nat.add_zero, d0]; simpa [cellv] using hj
        | 1 => rw [d1]; simpa [cellv] using hj
        | 2 => rw [d2]; simpa [cellv] using hj
        | j + 3 => simp [cellv] at hj
      subst had
      subst ev
      by_cases e1 : cx = X
      · by_cases e2 : cy = Y
        · have HT2 : Hid (dropC X Y (l.take (k + 1)) = dropC X Y (l.take k)) := by
            have := HT.out
            rw [if_pos ⟨e1, e2⟩, List.append_nil] at this
            exact this
          have b1 : (cx != X) = false := by simpa using e1
          have b2 : (cy != Y) = false := by simpa using e2
          clear e1 e2
          go_wp2_with fail
          go_roundg (gk - 1)
          case measure => omega
          case rel => exact ⟨k + 1, _, by omega, by omega, rfl, by go_num, M3.out, M4.out, by rw [HT2.out]; exact M5.out, M6.out⟩
        · have b1 : (cx != X) = false := by simpa using e1
          have b2 : (cy != Y) = true := by simpa using e2
          have hcond : ¬ (cx = X ∧ cy = Y) := fun h => e2 h.2
          have HCD := hide hcond
          clear e1 e2 hcond
          have HT2 : Hid (dropC X Y (l.take (k + 1)) = dropC X Y (l.take k) ++ [(cx, cy, cs)]) := by
            have := HT.out
            rw [if_neg HCD.out] at this
            exact this
          obtain ⟨L, hL⟩ : ∃ L, dropC X Y (l.take k) = L := ⟨_, rfl⟩
          rw [hL] at M5 HT2 HLk
          obtain ⟨ll, hll⟩ : ∃ n, L.length = n := ⟨_, rfl⟩
          rw [hll] at M5 HLk
          have HLn := HLk.out
          have HLL := hide hll
          have HLD := hide hL
          clear hll hL HT
          go_wp2_with (refine wpList_append_lies _ rfl _ _ 54 rfl w.heap.size 80 ti (.agg (cellv (0, 0, 0))) 3 24 Tryz.underlying54 TI1.out TI2.out TI3.out TI4.out rfl (by decide) vt ll (cellsv L) ?_ ?_ ⟨wr.heap.size, 0, none⟩ 1 1 (cellv (cx, cy, cs)).toList ?_ ?_ ?_ ?_ ?_ ?_ ?_ ?_ (wr.heap.size + 1) ?_ ?_
                       · rfl
                       · exact (own_of M5.out fun g hg _ => Below.heap_alloc _ _ _ hg)
                       · rfl
                       · rfl
                       · exact World.news_of_block (heap_alloc_new wr (.cells (cellv (cx, cy, cs)) 80))
                       · exact (fun u hu => (Array.all_eq_true_iff_forall_mem.1 (cellv_one _)) u (by simpa using hu))
                       · decide
                       · (unfold maxLen; omega)
                       · omega
                       · (simp; omega)
                       · simp
                       intro g9 cap9 w9 hown hgrow _ _
                       have O9 := hide hown
                       have K9 : Hid (Kp (fun k => some k = vt.ownBlock) wr w9) := ⟨hgrow.os, hgrow.tape, hgrow.output, Nat.le_trans (Nat.le_succ _) (Nat.le_trans (by simp) hgrow.size), fun k hk hn => (hgrow.block k (by simp; omega) hn).trans (Below.heap_alloc _ _ _ hk)⟩
                       clear hown hgrow)
          go_roundg (gk - 1)
          case measure => omega
          case rel =>
            refine ⟨k + 1, _, by omega, by omega, rfl, by go_num, M3.out.keepOwn K9.out M5.out hql hg1 hg2, ?_, ?_, M6.out.tr K9.out (fun z hz hx => absurd hx (own_far M5.out hz))⟩
            · exact M4.out.keepOwn K9.out M5.out H4L.out
            · rw [HT2.out, cellsv_append, cellsv_one, List.length_append (bs := [_]), HLL.out]
              exact O9.out
      · have b1 : (cx != X) = true := by simpa using e1
        have hcond : ¬ (cx = X ∧ cy = Y) := fun h => e1 h.1
        have HCD := hide hcond
        clear e1 hcond
        have HT2 : Hid (dropC X Y (l.take (k + 1)) = dropC X Y (l.take k) ++ [(cx, cy, cs)]) := by
          have := HT.out
          rw [if_neg HCD.out] at this
          exact this
        obtain ⟨L, hL⟩ : ∃ L, dropC X Y (l.take k) = L := ⟨_, rfl⟩
        rw [hL] at M5 HT2 HLk
        obtain ⟨ll, hll⟩ : ∃ n, L.length = n := ⟨_, rfl⟩
        rw [hll] at M5 HLk
        have HLn := HLk.out
        have HLL := hide hll
        have HLD := hide hL
        clear hll hL HT
        go_wp2_with (refine wpList_append_lies _ rfl _ _ 54 rfl w.heap.size 80 ti (.agg (cellv (0, 0, 0))) 3 24 Tryz.underlying54 TI1.out TI2.out TI3.out TI4.out rfl (by decide) vt ll (cellsv L) ?_ ?_ ⟨wr.heap.size, 0, none⟩ 1 1 (cellv (cx, cy, cs)).toList ?_ ?_ ?_ ?_ ?_ ?_ ?_ ?_ (wr.heap.size + 1) ?_ ?_
                     · rfl
                     · exact (own_of M5.out fun g hg _ => Below.heap_alloc _ _ _ hg)
                     · rfl
                     · rfl
                     · exact World.news_of_block (heap_alloc_new wr (.cells (cellv (cx, cy, cs)) 80))
                     · exact (fun u hu => (Array.all_eq_true_iff_forall_mem.1 (cellv_one _)) u (by simpa using hu))
                     · decide
                     · (unfold maxLen; omega)
                     · omega
                     · (simp; omega)
                     · simp
                     intro g9 cap9 w9 hown hgrow _ _
                     have O9 := hide hown
                     have K9 : Hid (Kp (fun k => some k = vt.ownBlock) wr w9) := ⟨hgrow.os, hgrow.tape, hgrow.output, Nat.le_trans (Nat.le_succ _) (Nat.le_trans (by simp) hgrow.size), fun k hk hn => (hgrow.block k (by simp; omega) hn).trans (Below.heap_alloc _ _ _ hk)⟩
                     clear hown hgrow)
        go_roundg (gk - 1)
        case measure => omega
        case rel =>
          refine ⟨k + 1, _, by omega, by omega, rfl, by go_num, M3.out.keepOwn K9.out M5.out hql hg1 hg2, ?_, ?_, M6.out.tr K9.out (fun z hz hx => absurd hx (own_far M5.out hz))⟩
          · exact M4.out.keepOwn K9.out M5.out H4L.out
          · rw [HT2.out, cellsv_append, cellsv_one, List.length_append (bs := [_]), HLL.out]
            exact O9.out
    · have ek : k = l.length := by omega
      have HTk : Hid (dropC X Y (l.take k) = dropC X Y l) := by show _ = _; rw [ek, List.take_length]
      have HLk := hide (HDL.out k)
      rw [HTk.out] at M5 HLk
      clear HTk
      obtain ⟨rb, hrb⟩ : ∃ rb, roomB x.w x.h (putC X Y s l) = rb := ⟨_, rfl⟩
      have HRB := hide hrb
      clear hrb
      subst ev
      by_cases hs : 0 < s
      · have HP : Hid (putC X Y s l = dropC X Y l ++ [(X, Y, s)]) := by show _ = _; unfold putC; rw [if_pos hs]
        obtain ⟨L, hL⟩ : ∃ L, dropC X Y l = L := ⟨_, rfl⟩
        rw [hL] at M5 HP HLk
        obtain ⟨ll, hll⟩ : ∃ n, L.length = n := ⟨_, rfl⟩
        rw [hll] at M5 HLk
        have HLn := HLk.out
        have HLL := hide hll
        clear hll hL
        go_wp2_with (refine wpList_append_lies _ rfl _ _ 54 rfl w.heap.size 80 ti (.agg (cellv (0, 0, 0))) 3 24 Tryz.underlying54 TI1.out TI2.out TI3.out TI4.out rfl (by decide) vt ll (cellsv L) ?_ ?_ ⟨wr.heap.size, 0, none⟩ 1 1 (cellv (X, Y, s)).toList ?_ ?_ ?_ ?_ ?_ ?_ ?_ ?_ (wr.heap.size + 1) ?_ ?_
                     · rfl
                     · exact (own_of M5.out fun g hg _ => Below.heap_alloc _ _ _ hg)
                     · rfl
                     · rfl
                     · exact World.news_of_block (heap_alloc_new wr (.cells (cellv (X, Y, s)) 80))
                     · exact (fun u hu => (Array.all_eq_true_iff_forall_mem.1 (cellv_one _)) u (by simpa using hu))
                     · decide
                     · (unfold maxLen; omega)
                     · omega
                     · (simp; omega)
                     · simp
                     intro g9 cap9 w9 hown hgrow _ _
                     have O9 := hide hown
                     have K9 : Hid (Kp (fun k => some k = vt.ownBlock) wr w9) := ⟨hgrow.os, hgrow.tape, hgrow.output, Nat.le_trans (Nat.le_succ _) (Nat.le_trans (by simp) hgrow.size), fun k hk hn => (hgrow.block k (by simp; omega) hn).trans (Below.heap_alloc _ _ _ hk)⟩
                     have HD9 := hide (M3.out.keepOwn K9.out M5.out hql hg1 hg2)
                     obtain ⟨⟨_, _, _, e3, _, e5, e6, _, _, _, _, _⟩, e12⟩ := CL.out w9 HD9.out
                     have f12 := HD9.out.va.fro 12
                     clear hown hgrow)
        have HC9 : Hid (ClAt w9 (.slice (some ⟨g9, 0, none⟩) (ll + 1) cap9) (putC X Y s l)) := by
          have o9 := O9.out
          rw [HP.out]
          unfold Hid
          apply ClAt.of_own (base := w.heap.size)
          rw [cellsv_append, cellsv_one, List.length_append (bs := [_]), HLL.out]
          exact o9
        have HL9 : Hid ((putC X Y s l).length ≤ 1000000) := by
          show _ ≤ _
          rw [HP.out, List.length_append, HLL.out]
          simp
          omega
        have K10 := hide (M6.out.tr K9.out (fun z hz hx => absurd hx (own_far M5.out hz)))
        refine (HRM.out _ _ w9 HD9.out HC9.out HL9.out HBD.out).mono ?_
        rw [HRB.out]
        rintro e w10 ⟨rfl, hw10⟩
        subst w10
        cases rb
        · go_wp2_with fail
          go_ret
          unfold PutIn
          rw [if_neg (by rw [HRB.out]; simp)]
          exact ⟨rfl, K10.out⟩
        · go_wp2_with fail
          go_ret
          unfold PutIn
          rw [if_pos HRB.out]
          exact ⟨rfl, ⟨_, HD9.out.setLive _, HC9.out.other HD9.out.va _⟩, (K10.out.mono (T := (· = q)) (fun _ h => absurd h id)).setCell (p := ⟨q, 12, none⟩) rfl _⟩
      · have HP : Hid (putC X Y s l = dropC X Y l) := by show _ = _; unfold putC; rw [if_neg hs, List.append_nil]
        have HC9 : Hid (ClAt wr vt (putC X Y s l)) := by
          rw [HP.out]
          exact ClAt.of_own M5.out
        have HL9 : Hid ((putC X Y s l).length ≤ 1000000) := by
          show _ ≤ _
          have := HLk.out
          rw [HP.out]
          omega
        have f12 := M3.out.va.fro 12
        obtain ⟨ad2, cap2, evt, _⟩ := HC9.out.form
        subst evt
        go_wp2_with fail
        refine (HRM.out _ _ wr M3.out HC9.out HL9.out HBD.out).mono ?_
        rw [HRB.out]
        rintro e w10 ⟨rfl, hw10⟩
        subst w10
        cases rb
        · go_wp2_with fail
          go_ret
          unfold PutIn
          rw [if_neg (by rw [HRB.out]; simp)]
          exact ⟨rfl, M6.out⟩
        · go_wp2_with fail
          go_ret
          unfold PutIn
          rw [if_pos HRB.out]
          exact ⟨rfl, ⟨_, M3.out.setLive _, HC9.out.other M3.out.va _⟩, (M6.out.mono (T := (· = q)) (fun _ h => absurd h id)).setCell (p := ⟨q, 12, none⟩) rfl _⟩
end Go.Proofs.YthmhjjkmnnmjlaaGreatDoor
