import Derived.Test.YtiimimclbkjcbaaWb
namespace Go.Proofs.Ytiimimclbkjcbaa
open Go.RowKit
open Go.Proofs

theorem take_yes {b : Nat} {s : ByteArray} {i : Nat} {m : Int} {w : World} (h : RdAt w b s i) (hm : 0 ≤ m) (e : src s i = m) :
    Calls Try.prog 70 #[.pointer (some ⟨b, 0, none⟩), .int .u8 m] w fun e w' => e = .returned (.bool true) ∧ RdAt w' b s (i + 1) ∧ Kp (· = b) w w' :=
  take_any b s i m w h hm (i + 1) (some ()) (by unfold Hid Pu.take; rw [if_pos e])
theorem take_no {b : Nat} {s : ByteArray} {i : Nat} {m : Int} {w : World} (h : RdAt w b s i) (hm : 0 ≤ m) (e : ¬ src s i = m) :
    Calls Try.prog 70 #[.pointer (some ⟨b, 0, none⟩), .int .u8 m] w fun e w' => e = .returned (.bool false) ∧ RdAt w' b s i ∧ Kp (· = b) w w' :=
  take_any b s i m w h hm i none (by unfold Hid Pu.take; rw [if_neg e])
theorem opt_yes {s : ByteArray} {i : Nat} {m : Int} (e : src s i = m) : Pu.opt m (src s) i = (i + 1, some true) := by unfold Pu.opt; rw [if_pos e]
theorem opt_no {s : ByteArray} {i : Nat} {m : Int} (e : ¬ src s i = m) : Pu.opt m (src s) i = (i, some false) := by unfold Pu.opt; rw [if_neg e]

set_option maxHeartbeats 400000 in
theorem states_any (b : Nat) (s : ByteArray) (i : Nat) (w : World) (h : RdAt w b s i) (j : Nat) (o : Option Int) (hq : Hid (Pu.states (src s) i = (j, o))) :
    Calls Try.prog 80 #[.pointer (some ⟨b, 0, none⟩)] w fun e w' => NumRet e o ∧ RdAt w' b s j ∧ Kp (· = b) w w' := by
  by_cases e : src s i = 47
  · have hq' : Hid (Pu.number 3 9 (src s) (i + 1) = (j, o)) := by
      have := hq.out
      simp only [Pu.states, Pu.bnd, opt_yes e] at this
      exact this
    have E := hide e
    clear e hq
    go_enter Try.func80, Try.ntmps80
    go_wp2_with fail
    refine (take_yes h (by omega) E.out).mono ?_
    rintro e w1 ⟨rfl, r1, k1⟩
    go_wp2_with fail
    refine (number_any b s (i + 1) 3 9 _ r1 (by omega) (by omega) (by omega) (by omega) j o hq').mono ?_
    rintro e w2 ⟨⟨x, rfl, hx⟩, r2, k2⟩
    have HX := hide hx
    clear hx
    go_wp2_with fail
    go_ret2
    exact ⟨⟨x, rfl, HX.out⟩, r2, k1.trans k2⟩
  · have hq' : j = i ∧ o = some 2 := by
      have := hq.out
      simp only [Pu.states, Pu.bnd, opt_no e] at this
      exact ⟨(Prod.mk.inj this).1.symm, (Prod.mk.inj this).2.symm⟩
    obtain ⟨rfl, rfl⟩ := hq'
    have E := hide e
    clear e hq
    go_enter Try.func80, Try.ntmps80
    go_wp2_with fail
    refine (take_no h (by omega) E.out).mono ?_
    rintro e w1 ⟨rfl, r1, k1⟩
    go_wp2_with fail
    go_ret2
    exact ⟨⟨2, rfl, fun a ha => Option.some.inj ha⟩, r1, k1⟩

set_option maxHeartbeats 400000 in
theorem shift_any (b : Nat) (s : ByteArray) (i : Nat) (side : Int) (w : World) (h : RdAt w b s i) (s0 : 0 ≤ side) (s1 : side ≤ 12) (j : Nat) (o : Option Int) (hq : Hid (Pu.shift side (src s) i = (j, o))) :
    Calls Try.prog 89 #[.pointer (some ⟨b, 0, none⟩), .int .i64 side] w fun e w' => NumRet e o ∧ RdAt w' b s j ∧ Kp (· = b) w w' := by
  by_cases hs : side < 2
  · have hq' : j = i ∧ o = some 0 := by
      have := hq.out
      simp only [Pu.shift, if_pos hs] at this
      exact ⟨(Prod.mk.inj this).1.symm, (Prod.mk.inj this).2.symm⟩
    obtain ⟨rfl, rfl⟩ := hq'
    clear hq
    go_enter Try.func89, Try.ntmps89
    go_wp2_with fail
    go_ret2
    exact ⟨⟨0, rfl, fun a ha => Option.some.inj ha⟩, h, Kp.refl _ _⟩
  · by_cases e : src s i = 43
    · have hq' : Hid (Pu.number 1 (side - 1) (src s) (i + 1) = (j, o)) := by
        have := hq.out
        simp only [Pu.shift, if_neg hs, Pu.bnd, opt_yes e] at this
        exact this
      have E := hide e
      clear e hq
      go_enter Try.func89, Try.ntmps89
      go_wp2_with fail
      refine (take_yes h (by omega) E.out).mono ?_
      rintro e w1 ⟨rfl, r1, k1⟩
      go_wp2_with fail
      refine (number_any b s (i + 1) 1 (side - 1) _ r1 (by omega) (by omega) (by omega) (by omega) j o hq').mono ?_
      rintro e w2 ⟨⟨x, rfl, hx⟩, r2, k2⟩
      have HX := hide hx
      clear hx
      go_wp2_with fail
      go_ret2
      exact ⟨⟨x, rfl, HX.out⟩, r2, k1.trans k2⟩
    · have hq' : j = i ∧ o = some 0 := by
        have := hq.out
        simp only [Pu.shift, if_neg hs, Pu.bnd, opt_no e] at this
        exact ⟨(Prod.mk.inj this).1.symm, (Prod.mk.inj this).2.symm⟩
      obtain ⟨rfl, rfl⟩ := hq'
      have E := hide e
      clear e hq
      go_enter Try.func89, Try.ntmps89
      go_wp2_with fail
      refine (take_no h (by omega) E.out).mono ?_
      rintro e w1 ⟨rfl, r1, k1⟩
      go_wp2_with fail
      go_ret2
      exact ⟨⟨0, rfl, fun a ha => Option.some.inj ha⟩, r1, k1⟩

/-- What a number that is read lies between. -/
theorem number_bd {lo hi : Int} {f : Pu.Src} {i j : Nat} {a : Int} (h : Pu.number lo hi f i = (j, some a)) : lo ≤ a ∧ a ≤ hi := by
  unfold Pu.number Pu.bnd at h
  rcases e : Pu.many (Pu.numStep lo hi) 401 (false, 0) f i with ⟨j2, _ | v⟩
  · simp [e] at h
  · simp only [e] at h
    by_cases c : v.1 = true ∧ lo ≤ v.2 ∧ v.2 ≤ hi
    · rw [if_pos c] at h
      have := Option.some.inj (Prod.mk.inj h).2
      omega
    · rw [if_neg c] at h
      simp at h

theorem neg_bd {x : Int} (h : -10000000 ≤ x ∧ x ≤ 10000000) : wrap64 (-x) = -x := by unfold wrap64; omega

set_option maxHeartbeats 400000 in
theorem signed_any (b : Nat) (s : ByteArray) (i : Nat) (w : World) (h : RdAt w b s i) (j : Nat) (o : Option Int) (hq : Hid (Pu.signed 9999 (src s) i = (j, o))) :
    Calls Try.prog 73 #[.pointer (some ⟨b, 0, none⟩), .int .i64 9999] w fun e w' => NumRet e o ∧ RdAt w' b s j ∧ Kp (· = b) w w' := by
  by_cases e : src s i = 45
  · rcases hn : Pu.number 1 9999 (src s) (i + 1) with ⟨j2, o2⟩
    have hq' : j = j2 ∧ o = o2.map (fun v => -v) := by
      have := hq.out
      simp only [Pu.signed, Pu.bnd, opt_yes e, if_true, hn] at this
      cases o2 with
      | none => exact ⟨(Prod.mk.inj this).1.symm, (Prod.mk.inj this).2.symm⟩
      | some v => exact ⟨(Prod.mk.inj this).1.symm, (Prod.mk.inj this).2.symm⟩
    obtain ⟨rfl, rfl⟩ := hq'
    have HN := hide hn
    have E := hide e
    clear e hq hn
    go_enter Try.func73, Try.ntmps73
    go_wp2_with fail
    refine (take_yes h (by omega) E.out).mono ?_
    rintro e w1 ⟨rfl, r1, k1⟩
    go_wp2_with fail
    refine (number_any b s (i + 1) 1 9999 _ r1 (by omega) (by omega) (by omega) (by omega) j o2 HN).mono ?_
    rintro e w2 ⟨⟨x, rfl, hx⟩, r2, k2⟩
    have HX := hide hx
    clear hx
    go_wp2_with fail
    go_ret2
    refine ⟨⟨wrap64 (-x), ?_, ?_⟩, r2, k1.trans k2⟩
    · cases o2 <;> rfl
    · intro a ha
      cases o2 with
      | none => simp at ha
      | some v =>
        have e1 := HX.out v rfl
        have e2 := number_bd HN.out
        have e3 : -v = a := Option.some.inj ha
        rw [neg_bd (by omega)]
        omega
  · have hq' : Hid (Pu.number 0 9999 (src s) i = (j, o)) := by
      have := hq.out
      simp only [Pu.signed, Pu.bnd, opt_no e] at this
      exact this
    have E := hide e
    clear e hq
    go_enter Try.func73, Try.ntmps73
    go_wp2_with fail
    refine (take_no h (by omega) E.out).mono ?_
    rintro e w1 ⟨rfl, r1, k1⟩
    go_wp2_with fail
    refine (number_any b s i 0 9999 _ r1 (by omega) (by omega) (by omega) (by omega) j o hq').mono ?_
    rintro e w2 ⟨⟨x, rfl, hx⟩, r2, k2⟩
    have HX := hide hx
    clear hx
    go_wp2_with fail
    go_ret2
    exact ⟨⟨x, rfl, HX.out⟩, r2, k1.trans k2⟩
end Go.Proofs.Ytiimimclbkjcbaa
