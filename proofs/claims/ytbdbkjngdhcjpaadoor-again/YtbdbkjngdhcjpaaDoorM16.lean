import Derived.Test.YtbdbkjngdhcjpaaDoorM15
import Derived.Test.YtbdbkjngdhcjpaaDoorM3
namespace Go.Proofs.YtbdbkjngdhcjpaaDoor
open Go.RowKit
open Go.Proofs

theorem xone_yes {b : Nat} {s : ByteArray} {i : Nat} {m : Int} {w : World} (h : RxAt w b s i) (hm : 0 ≤ m) (e : src s i = m) :
    Calls Tryd.prog 62 #[.pointer (some ⟨b, 0, none⟩), .int .u8 m] w fun e w' => e = .returned (.bool true) ∧ RxAt w' b s (i + 1) ∧ Kp (· = b) w w' := by
  have := xone_any b s i m w h hm
  unfold upIf at this
  rw [decide_eq_true e, if_pos e] at this
  exact this
theorem xone_no {b : Nat} {s : ByteArray} {i : Nat} {m : Int} {w : World} (h : RxAt w b s i) (hm : 0 ≤ m) (e : ¬ src s i = m) :
    Calls Tryd.prog 62 #[.pointer (some ⟨b, 0, none⟩), .int .u8 m] w fun e w' => e = .returned (.bool false) ∧ RxAt w' b s i ∧ Kp (· = b) w w' := by
  have := xone_any b s i m w h hm
  unfold upIf at this
  rw [decide_eq_false e, if_neg e] at this
  exact this

set_option maxHeartbeats 400000 in
theorem xof_any (b : Nat) (s : ByteArray) (i : Nat) (L : ByteArray) (w : World) (h : RxAt w b s i) (hL : L.size ≤ 100) (j : Nat) (o : Option Int) (hq : Hid (Pu.letter (lets L) (src s) i = (j, o))) :
    Calls Tryd.prog 82 #[.pointer (some ⟨b, 0, none⟩), .string L] w fun e w' => LetRet e o ∧ RxAt w' b s j ∧ Kp (· = b) w w' := by
  have H0 := hide h
  clear h
  go_enter Tryd.func82, Tryd.ntmps82
  go_wp2
  go_loopg [6] L.size (fun gk v wr => ∃ k : Nat, k ≤ L.size ∧ L.size ≤ k + gk ∧ v = .int .i64 k ∧ RxAt wr b s i ∧ Kp (· = b) w wr ∧ ∀ q, (hq : q < L.size) → q < k → src s i ≠ (L[q].toNat : Int))
  case atStart => exact ⟨0, Nat.zero_le _, by omega, rfl, H0.out, Kp.refl _ _, fun q _ h => absurd h (Nat.not_lt_zero _)⟩
  case round =>
    obtain ⟨k, g1, g2, rfl, g4, g5, g6⟩ := hrel
    have G4 := hide g4
    have G5 := hide g5
    have G6 := hide g6
    clear g4 g5 g6
    by_cases hlt : k < L.size
    · have hb : (L[k].toNat : Int) < 256 := by have := L[k].toNat_lt; omega
      by_cases e : src s i = (L[k].toNat : Int)
      · have hq' : j = i + 1 ∧ o = some (L[k].toNat : Int) := by
          have := hq.out
          unfold Pu.letter at this
          rw [if_pos (by rw [e]; exact mem_lets hlt), e] at this
          exact ⟨(Prod.mk.inj this).1.symm, (Prod.mk.inj this).2.symm⟩
        obtain ⟨rfl, rfl⟩ := hq'
        have E := hide e
        clear e hq
        go_wp2_with fail
        refine (xone_yes G4.out (by omega) E.out).mono ?_
        rintro e w1 ⟨rfl, r1, k1⟩
        go_wp2_with fail
        go_ret2
        exact ⟨⟨_, rfl, fun a ha => Option.some.inj ha⟩, r1, G5.out.trans k1⟩
      · have E := hide e
        have HN : Hid (∀ q, (hq : q < L.size) → q < k + 1 → src s i ≠ (L[q].toNat : Int)) := by
          intro q hq2 hk
          by_cases eq : q = k
          · subst eq; exact e
          · exact G6.out q hq2 (by omega)
        clear e
        go_wp2_with fail
        refine (xone_no G4.out (by omega) E.out).mono ?_
        rintro e w1 ⟨rfl, r1, k1⟩
        go_wp2_with fail
        go_roundg (gk - 1)
        case measure => omega
        case rel => exact ⟨k + 1, by omega, by omega, by go_num, r1, G5.out.trans k1, HN.out⟩
    · have hq' : j = i ∧ o = none := by
        have := hq.out
        unfold Pu.letter at this
        rw [if_neg (fun hc => by obtain ⟨q, hq2, hx⟩ := lets_mem hc; exact G6.out q hq2 (by omega) hx)] at this
        exact ⟨(Prod.mk.inj this).1.symm, (Prod.mk.inj this).2.symm⟩
      obtain ⟨rfl, rfl⟩ := hq'
      clear hq
      go_wp2_with fail
      go_ret2
      exact ⟨⟨_, rfl, fun a ha => by simp at ha⟩, G4.out, G5.out⟩

set_option maxHeartbeats 400000 in
theorem xplace_any (b : Nat) (s : ByteArray) (i : Nat) (w : World) (h : RxAt w b s i) (j : Nat) (o : Option Int) (hq : Hid (Pu.signed 9999 (src s) i = (j, o))) :
    Calls Tryd.prog 63 #[.pointer (some ⟨b, 0, none⟩)] w fun e w' => NumRet e o ∧ RxAt w' b s j ∧ Kp (· = b) w w' := by
  by_cases e : src s i = 45
  · rcases hn : Pu.number 1 9999 (src s) (i + 1) with ⟨j2, o2⟩
    have hq' : j = j2 ∧ o = o2.map (fun v => -v) := by
      have := hq.out
      simp only [Pu.signed, Pu.bnd, opt_yes e, if_true, hn] at this
      cases o2 with
      | none => exact ⟨(Prod.mk.inj this).1.symm, (Prod.mk.inj this).2.symm⟩
      | some v => exact ⟨(Prod.mk.inj this).1.symm, (Prod.mk.inj this).2.symm⟩
    obtain ⟨rfl, rfl⟩ := hq'
    have HN := hide hn
    have E := hide e
    clear e hq hn
    go_enter Tryd.func63, Tryd.ntmps63
    go_wp2_with fail
    refine (xone_yes h (by omega) E.out).mono ?_
    rintro e w1 ⟨rfl, r1, k1⟩
    go_wp2_with fail
    refine (xnumber_any b s (i + 1) 1 9999 _ r1 (by omega) (by omega) (by omega) (by omega) j o2 HN).mono ?_
    rintro e w2 ⟨⟨x, rfl, hx⟩, r2, k2⟩
    have HX := hide hx
    clear hx
    go_wp2_with fail
    go_ret2
    refine ⟨⟨wrap64 (-x), ?_, ?_⟩, r2, k1.trans k2⟩
    · cases o2 <;> rfl
    · intro a ha
      cases o2 with
      | none => simp at ha
      | some v =>
        have e1 := HX.out v rfl
        have e2 := number_bd HN.out
        have e3 : -v = a := Option.some.inj ha
        rw [neg_bd (by omega)]
        omega
  · have hq' : Hid (Pu.number 0 9999 (src s) i = (j, o)) := by
      have := hq.out
      simp only [Pu.signed, Pu.bnd, opt_no e] at this
      exact this
    have E := hide e
    clear e hq
    go_enter Tryd.func63, Tryd.ntmps63
    go_wp2_with fail
    refine (xone_no h (by omega) E.out).mono ?_
    rintro e w1 ⟨rfl, r1, k1⟩
    go_wp2_with fail
    refine (xnumber_any b s i 0 9999 _ r1 (by omega) (by omega) (by omega) (by omega) j o hq').mono ?_
    rintro e w2 ⟨⟨x, rfl, hx⟩, r2, k2⟩
    have HX := hide hx
    clear hx
    go_wp2_with fail
    go_ret2
    exact ⟨⟨x, rfl, HX.out⟩, r2, k1.trans k2⟩
end Go.Proofs.YtbdbkjngdhcjpaaDoor
namespace Go.Proofs.YtbdbkjngdhcjpaaDoor
open Go.RowKit
open Go.Proofs

theorem RxAt.of_row {w w' : World} {b : Nat} {s : ByteArray} {i : Nat} (h : RxAt w b s i) (e : w'.heap[b]? = w.heap[b]?) : RxAt w' b s i := ⟨e.trans h.row, h.le, h.few⟩
theorem RxAt.alloc {w : World} {b : Nat} {s : ByteArray} {i : Nat} (h : RxAt w b s i) (o : Obj) : RxAt (w.alloc o) b s i := h.of_row (Below.heap_alloc _ _ _ h.lt)
theorem RxAt.setOther {w : World} {b : Nat} {s : ByteArray} {i : Nat} (h : RxAt w b s i) {p : Addr} (hp : b ≠ p.block) (u : Value) : RxAt (w.setCell p u) b s i := h.of_row (Below.heap_setCell _ _ _ _ hp)

theorem row_setb {w : World} {g : Nat} {l : List Bool} {q : Nat} (h : w.heap[g]? = some (.cells (bv l) 4 (0, 0))) : (w.setCell ⟨g, q, none⟩ (.bool true)).heap[g]? = some (.cells (bv (l.set q true)) 4 (0, 0)) := by
  rw [heap_setCell_same w g q _ _ _ h, bv_set]
theorem make9 : ∀ w : World, (Instr.makeSlice 57 (.int .i64 9) (.int .i64 9)).run Tryd.prog w = .ok (.slice (some ⟨w.heap.size, 0, none⟩) 9 9) (w.alloc (.cells (bv Pu.noSet) 4)) := by
  intro w
  kernel_rfl

set_option maxRecDepth 100000 in
set_option maxHeartbeats 4000000 in
theorem digits_any (b : Nat) (s : ByteArray) (i : Nat) (most : Int) (w : World) (h : RxAt w b s i) (m0 : 0 ≤ most) (m8 : most ≤ 8) (j : Nat) (o : List Bool) (hq : Hid (Pu.set most (src s) i = (j, some o))) :
    Calls Tryd.prog 83 #[.pointer (some ⟨b, 0, none⟩), .int .i64 most] w fun e w' => (∃ g, e = .returned (.slice (some ⟨g, 0, none⟩) 9 9) ∧ w.heap.size ≤ g ∧ o.length = 9 ∧ w'.heap[g]? = some (.cells (bv o) 4 (0, 0))) ∧ RxAt w' b s j ∧ Kp (· = b) w w' := by
  have H0 := hide h
  have hle := h.le
  have hs := h.few
  have hb := h.lt
  clear h
  have hmk := make9
  go_enter Tryd.func83, Tryd.ntmps83
  go_wp2
  clear hmk
  go_loopg [6] (s.size - i) (fun gk v wr => ∃ (k : Nat) (least : Int) (l : List Bool), i + k ≤ s.size ∧ s.size ≤ i + k + gk ∧ v = .int .i64 (least - 1) ∧ 0 ≤ least ∧ least ≤ 9 ∧ l.length = 9 ∧ RxAt wr b s (i + k) ∧ Kp (· = b) w wr ∧
    wr.heap[w.heap.size]? = some (.cells (bv l) 4 (0, 0)) ∧ SetRel s most i k least l)
  case atStart =>
    exact ⟨0, 0, Pu.noSet, hle, by omega, rfl, by omega, by omega, rfl, H0.out.alloc _, (Kp.refl _ _).alloc _, heap_alloc_new _ _, rfl⟩
  case round =>
    obtain ⟨k, least, l, g1, g2, rfl, g4, g5, g6, g7, g8, g10, g11⟩ := hrel
    have G6 := hide g6
    have c0 := g7.c0
    have c1 := g7.c1
    have f1 := g7.f1
    have G7 := hide g7
    have G8 := hide g8
    have G10 := hide g10
    have G11 := hide g11
    clear g6 g7 g8 g10 g11
    have GD : Hid (∀ n, RxAt (wr.drewN n) b s (i + k)) := fun n => G7.out.drewN n
    have hdb := Pu.digit_bd (src s) (i + k)
    have DONE := hide (fun (hst : Pu.digit (src s) (i + k) < 0 ∨ Pu.digit (src s) (i + k) < least ∨ most < Pu.digit (src s) (i + k) ∨ 9 ≤ Pu.digit (src s) (i + k)) => G11.out.done hq.out (by unfold Pu.setStep; rw [if_pos hst]))
    have NEXT := hide (fun (q : Nat) (hk : i + k < s.size) (hqq : Pu.digit (src s) (i + k) = q) (q1 : least ≤ (q : Int)) (q2 : (q : Int) ≤ most) (q3 : q < 9) => G11.out.next (by omega) hqq q1 q2 q3)
    obtain ⟨p, hp⟩ : ∃ p, i + k = p := ⟨_, rfl⟩
    have HP := hide hp
    rw [hp] at c1 GD DONE NEXT g1 g2 hdb
    clear hp G7 G11 hq
    by_cases hlt : p < s.size
    · have hb1 : (s[p].toNat : Int) < 256 := by have := s[p].toNat_lt; omega
      have hb0 : 0 ≤ (s[p].toNat : Int) := by omega
      have hdg := digit_of hlt
      by_cases d0 : 48 ≤ (s[p].toNat : Int) ∧ (s[p].toNat : Int) ≤ 57
      · rw [if_pos d0] at hdg
        have LD := hide (fun wx => isDigit_any (s[p].toNat : Int) wx)
        rw [decide_eq_true d0] at LD
        rw [hdg] at DONE NEXT hdb
        clear hdg
        obtain ⟨d, hd⟩ : ∃ d, (s[p].toNat : Int) - 48 = d := ⟨_, rfl⟩
        rw [hd] at DONE NEXT hdb
        have HD := hide hd
        have dl : 0 ≤ d := by omega
        have dh : d ≤ 9 := by omega
        clear hd
        by_cases hst : d ≤ least - 1 ∨ most < d
        · obtain ⟨hj, ho⟩ := DONE.out (by omega)
          have hj' := hj.symm
          have ho' := ho.symm
          clear hj ho
          subst hj' ho'
          clear DONE NEXT
          have cs : d ≤ least - 1 ∨ (¬ d ≤ least - 1 ∧ most < d) := by omega
          clear hst
          rcases cs with h1 | ⟨h1, h2⟩
          all_goals
            go_wp2_with fail
            go_quiet ((go_at_call 86; exact Calls.quiet_of_same (LD.out _)))
            go_wp2_with fail
            go_quiet (fail)
            rw [HD.out]
            go_wp2_with fail
            go_ret
            exact ⟨⟨_, rfl, Nat.le_refl _, G6.out, G10.out⟩, GD.out _, G8.out.drewN _⟩
        · obtain ⟨q, hqq⟩ := Int.eq_ofNat_of_zero_le dl
          subst hqq
          have q1 : ¬ (q : Int) ≤ least - 1 := by omega
          have q2 : ¬ most < (q : Int) := by omega
          have q3 : q < 9 := by omega
          have HN := hide (NEXT.out q hlt rfl (by omega) (by omega) q3)
          clear hst DONE NEXT
          have hcell : wr.cell? ⟨w.heap.size, q, none⟩ = some (.bool (l[q]'(by rw [G6.out]; exact q3))) := by
            rw [cell_of_row _ _ _ _ _ _ G10.out, bv_get l q (by rw [G6.out]; exact q3)]
          have hfro : wr.frozen? ⟨w.heap.size, q, none⟩ = false := frozen_of_row _ _ _ _ _ G10.out
          go_wp2_with fail
          go_quiet ((go_at_call 86; exact Calls.quiet_of_same (LD.out _)))
          go_wp2_with fail
          go_quiet (fail)
          rw [HD.out]
          go_wp2_with fail
          go_roundg (gk - 1)
          case measure => omega
          case rel =>
            refine ⟨k + 1, (q : Int) + 1, l.set q true, by have := HP.out; omega, by have := HP.out; omega, val_i (by omega), by omega, by omega, by simpa using G6.out, ?_, ?_, ?_, HN.out⟩
            · exact ((GD.out _).setOther (p := ⟨w.heap.size, q, none⟩) (by simp only; omega) _).up2 hlt (by omega) (by have := HP.out; omega)
            · exact ((G8.out.drewN _).setNew (p := ⟨w.heap.size, q, none⟩) (by simp only; omega) _).setCell rfl _
            · exact (heap_setCell_other _ _ _ _ (by simp only; omega)).trans (row_setb (w := wr.drewN _) G10.out)
      · rw [if_neg d0] at hdg
        obtain ⟨hj, ho⟩ := DONE.out (by omega)
        have hj' := hj.symm
        have ho' := ho.symm
        clear hj ho
        subst hj' ho'
        have LD := hide (fun wx => isDigit_any (s[p].toNat : Int) wx)
        rw [decide_eq_false d0] at LD
        clear hdg d0 DONE NEXT
        go_wp2_with fail
        go_quiet ((go_at_call 86; exact Calls.quiet_of_same (LD.out _)))
        go_wp2_with fail
        go_ret
        exact ⟨⟨_, rfl, Nat.le_refl _, G6.out, G10.out⟩, GD.out _, G8.out.drewN _⟩
    · have hdg : Pu.digit (src s) p = -1 := Pu.digit_end (src_ge hlt)
      obtain ⟨hj, ho⟩ := DONE.out (by omega)
      have hj' := hj.symm
      have ho' := ho.symm
      clear hj ho
      subst hj' ho'
      clear hdg DONE NEXT
      go_wp2_with fail
      go_quiet (fail)
      go_wp2_with fail
      go_ret
      exact ⟨⟨_, rfl, Nat.le_refl _, G6.out, G10.out⟩, GD.out _, G8.out.drewN _⟩
end Go.Proofs.YtbdbkjngdhcjpaaDoor
