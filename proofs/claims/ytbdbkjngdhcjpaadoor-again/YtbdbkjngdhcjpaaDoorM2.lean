import Derived.Test.YtbdbkjngdhcjpaaDoorM1
namespace Go.Proofs.YtbdbkjngdhcjpaaDoor
open Go.RowKit
open Go.Proofs

theorem take_yes {b : Nat} {s : ByteArray} {i : Nat} {m : Int} {w : World} (h : RdAt w b s i) (hm : 0 ≤ m) (e : src s i = m) :
    Calls Tryd.prog 93 #[.pointer (some ⟨b, 0, none⟩), .int .u8 m] w fun e w' => e = .returned (.bool true) ∧ RdAt w' b s (i + 1) ∧ Kp (· = b) w w' :=
  take_any b s i m w h hm (i + 1) (some ()) (by unfold Hid Pu.take; rw [if_pos e])
theorem take_no {b : Nat} {s : ByteArray} {i : Nat} {m : Int} {w : World} (h : RdAt w b s i) (hm : 0 ≤ m) (e : ¬ src s i = m) :
    Calls Tryd.prog 93 #[.pointer (some ⟨b, 0, none⟩), .int .u8 m] w fun e w' => e = .returned (.bool false) ∧ RdAt w' b s i ∧ Kp (· = b) w w' :=
  take_any b s i m w h hm i none (by unfold Hid Pu.take; rw [if_neg e])
theorem opt_yes {s : ByteArray} {i : Nat} {m : Int} (e : src s i = m) : Pu.opt m (src s) i = (i + 1, some true) := by unfold Pu.opt; rw [if_pos e]
theorem opt_no {s : ByteArray} {i : Nat} {m : Int} (e : ¬ src s i = m) : Pu.opt m (src s) i = (i, some false) := by unfold Pu.opt; rw [if_neg e]

set_option maxHeartbeats 400000 in
theorem states_any (b : Nat) (s : ByteArray) (i : Nat) (w : World) (h : RdAt w b s i) (j : Nat) (o : Option Int) (hq : Hid (Pu.states (src s) i = (j, o))) :
    Calls Tryd.prog 107 #[.pointer (some ⟨b, 0, none⟩)] w fun e w' => NumRet e o ∧ RdAt w' b s j ∧ Kp (· = b) w w' := by
  by_cases e : src s i = 47
  · have hq' : Hid (Pu.number 3 9 (src s) (i + 1) = (j, o)) := by
      have := hq.out
      simp only [Pu.states, Pu.bnd, opt_yes e] at this
      exact this
    have E := hide e
    clear e hq
    go_enter Tryd.func107, Tryd.ntmps107
    go_wp2_with fail
    refine (take_yes h (by omega) E.out).mono ?_
    rintro e w1 ⟨rfl, r1, k1⟩
    go_wp2_with fail
    refine (number_any b s (i + 1) 3 9 _ r1 (by omega) (by omega) (by omega) (by omega) j o hq').mono ?_
    rintro e w2 ⟨⟨x, rfl, hx⟩, r2, k2⟩
    have HX := hide hx
    clear hx
    go_wp2_with fail
    go_ret2
    exact ⟨⟨x, rfl, HX.out⟩, r2, k1.trans k2⟩
  · have hq' : j = i ∧ o = some 2 := by
      have := hq.out
      simp only [Pu.states, Pu.bnd, opt_no e] at this
      exact ⟨(Prod.mk.inj this).1.symm, (Prod.mk.inj this).2.symm⟩
    obtain ⟨rfl, rfl⟩ := hq'
    have E := hide e
    clear e hq
    go_enter Tryd.func107, Tryd.ntmps107
    go_wp2_with fail
    refine (take_no h (by omega) E.out).mono ?_
    rintro e w1 ⟨rfl, r1, k1⟩
    go_wp2_with fail
    go_ret2
    exact ⟨⟨2, rfl, fun a ha => Option.some.inj ha⟩, r1, k1⟩

set_option maxHeartbeats 400000 in
theorem shift_any (b : Nat) (s : ByteArray) (i : Nat) (side : Int) (w : World) (h : RdAt w b s i) (s0 : 0 ≤ side) (s1 : side ≤ 12) (j : Nat) (o : Option Int) (hq : Hid (Pu.shift side (src s) i = (j, o))) :
    Calls Tryd.prog 121 #[.pointer (some ⟨b, 0, none⟩), .int .i64 side] w fun e w' => NumRet e o ∧ RdAt w' b s j ∧ Kp (· = b) w w' := by
  by_cases hs : side < 2
  · have hq' : j = i ∧ o = some 0 := by
      have := hq.out
      simp only [Pu.shift, if_pos hs] at this
      exact ⟨(Prod.mk.inj this).1.symm, (Prod.mk.inj this).2.symm⟩
    obtain ⟨rfl, rfl⟩ := hq'
    clear hq
    go_enter Tryd.func121, Tryd.ntmps121
    go_wp2_with fail
    go_ret2
    exact ⟨⟨0, rfl, fun a ha => Option.some.inj ha⟩, h, Kp.refl _ _⟩
  · by_cases e : src s i = 43
    · have hq' : Hid (Pu.number 1 (side - 1) (src s) (i + 1) = (j, o)) := by
        have := hq.out
        simp only [Pu.shift, if_neg hs, Pu.bnd, opt_yes e] at this
        exact this
      have E := hide e
      clear e hq
      go_enter Tryd.func121, Tryd.ntmps121
      go_wp2_with fail
      refine (take_yes h (by omega) E.out).mono ?_
      rintro e w1 ⟨rfl, r1, k1⟩
      go_wp2_with fail
      refine (number_any b s (i + 1) 1 (side - 1) _ r1 (by omega) (by omega) (by omega) (by omega) j o hq').mono ?_
      rintro e w2 ⟨⟨x, rfl, hx⟩, r2, k2⟩
      have HX := hide hx
      clear hx
      go_wp2_with fail
      go_ret2
      exact ⟨⟨x, rfl, HX.out⟩, r2, k1.trans k2⟩
    · have hq' : j = i ∧ o = some 0 := by
        have := hq.out
        simp only [Pu.shift, if_neg hs, Pu.bnd, opt_no e] at this
        exact ⟨(Prod.mk.inj this).1.symm, (Prod.mk.inj this).2.symm⟩
      obtain ⟨rfl, rfl⟩ := hq'
      have E := hide e
      clear e hq
      go_enter Tryd.func121, Tryd.ntmps121
      go_wp2_with fail
      refine (take_no h (by omega) E.out).mono ?_
      rintro e w1 ⟨rfl, r1, k1⟩
      go_wp2_with fail
      go_ret2
      exact ⟨⟨0, rfl, fun a ha => Option.some.inj ha⟩, r1, k1⟩

/-- What a number that is read lies between. -/
theorem number_bd {lo hi : Int} {f : Pu.Src} {i j : Nat} {a : Int} (h : Pu.number lo hi f i = (j, some a)) : lo ≤ a ∧ a ≤ hi := by
  unfold Pu.number Pu.bnd at h
  rcases e : Pu.many (Pu.numStep lo hi) 401 (false, 0) f i with ⟨j2, _ | v⟩
  · simp [e] at h
  · simp only [e] at h
    by_cases c : v.1 = true ∧ lo ≤ v.2 ∧ v.2 ≤ hi
    · rw [if_pos c] at h
      have := Option.some.inj (Prod.mk.inj h).2
      omega
    · rw [if_neg c] at h
      simp at h

theorem neg_bd {x : Int} (h : -10000000 ≤ x ∧ x ≤ 10000000) : wrap64 (-x) = -x := by unfold wrap64; omega

set_option maxHeartbeats 400000 in
theorem signed_any (b : Nat) (s : ByteArray) (i : Nat) (w : World) (h : RdAt w b s i) (j : Nat) (o : Option Int) (hq : Hid (Pu.signed 9999 (src s) i = (j, o))) :
    Calls Tryd.prog 96 #[.pointer (some ⟨b, 0, none⟩), .int .i64 9999] w fun e w' => NumRet e o ∧ RdAt w' b s j ∧ Kp (· = b) w w' := by
  by_cases e : src s i = 45
  · rcases hn : Pu.number 1 9999 (src s) (i + 1) with ⟨j2, o2⟩
    have hq' : j = j2 ∧ o = o2.map (fun v => -v) := by
      have := hq.out
      simp only [Pu.signed, Pu.bnd, opt_yes e, if_true, hn] at this
      cases o2 with
      | none => exact ⟨(Prod.mk.inj this).1.symm, (Prod.mk.inj this).2.symm⟩
      | some v => exact ⟨(Prod.mk.inj this).1.symm, (Prod.mk.inj this).2.symm⟩
    obtain ⟨rfl, rfl⟩ := hq'
    have HN := hide hn
    have E := hide e
    clear e hq hn
    go_enter Tryd.func96, Tryd.ntmps96
    go_wp2_with fail
    refine (take_yes h (by omega) E.out).mono ?_
    rintro e w1 ⟨rfl, r1, k1⟩
    go_wp2_with fail
    refine (number_any b s (i + 1) 1 9999 _ r1 (by omega) (by omega) (by omega) (by omega) j o2 HN).mono ?_
    rintro e w2 ⟨⟨x, rfl, hx⟩, r2, k2⟩
    have HX := hide hx
    clear hx
    go_wp2_with fail
    go_ret2
    refine ⟨⟨wrap64 (-x), ?_, ?_⟩, r2, k1.trans k2⟩
    · cases o2 <;> rfl
    · intro a ha
      cases o2 with
      | none => simp at ha
      | some v =>
        have e1 := HX.out v rfl
        have e2 := number_bd HN.out
        have e3 : -v = a := Option.some.inj ha
        rw [neg_bd (by omega)]
        omega
  · have hq' : Hid (Pu.number 0 9999 (src s) i = (j, o)) := by
      have := hq.out
      simp only [Pu.signed, Pu.bnd, opt_no e] at this
      exact this
    have E := hide e
    clear e hq
    go_enter Tryd.func96, Tryd.ntmps96
    go_wp2_with fail
    refine (take_no h (by omega) E.out).mono ?_
    rintro e w1 ⟨rfl, r1, k1⟩
    go_wp2_with fail
    refine (number_any b s i 0 9999 _ r1 (by omega) (by omega) (by omega) (by omega) j o hq').mono ?_
    rintro e w2 ⟨⟨x, rfl, hx⟩, r2, k2⟩
    have HX := hide hx
    clear hx
    go_wp2_with fail
    go_ret2
    exact ⟨⟨x, rfl, HX.out⟩, r2, k1.trans k2⟩
end Go.Proofs.YtbdbkjngdhcjpaaDoor
namespace Go.Proofs.YtbdbkjngdhcjpaaDoor
open Go.RowKit
open Go.Proofs

set_option maxHeartbeats 400000 in
theorem neighbours_any (a : Int) (w : World) (_h0 : 0 ≤ a) (_h1 : a ≤ 255) : Calls Tryd.prog 105 #[.int .u8 a] w fun e w' => e = .returned (.int .i64 (Pu.neighbours a)) ∧ w' = w := by
  unfold Pu.neighbours
  by_cases h1 : a = 77
  · subst h1
    go_enter Tryd.func105, Tryd.ntmps105
    go_wp2
    go_ret
    exact ⟨rfl, rfl⟩
  · rw [if_neg h1]
    have b1 : (a == 77) = false := by simpa using h1
    clear h1
    by_cases h2 : a = 86
    · subst h2
      go_enter Tryd.func105, Tryd.ntmps105
      go_wp2
      go_ret
      exact ⟨rfl, rfl⟩
    · rw [if_neg h2]
      have b2 : (a == 86) = false := by simpa using h2
      clear h2
      by_cases h3 : a = 72
      · subst h3
        go_enter Tryd.func105, Tryd.ntmps105
        go_wp2
        go_ret
        exact ⟨rfl, rfl⟩
      · rw [if_neg h3]
        have b3 : (a == 72) = false := by simpa using h3
        clear h3
        go_enter Tryd.func105, Tryd.ntmps105
        go_wp2
        go_ret
        exact ⟨rfl, rfl⟩

set_option maxHeartbeats 400000 in
theorem leastSide_any (a : Int) (w : World) (_h0 : 0 ≤ a) (_h1 : a ≤ 255) : Calls Tryd.prog 120 #[.int .u8 a] w fun e w' => e = .returned (.int .i64 (Pu.leastSide a)) ∧ w' = w := by
  unfold Pu.leastSide
  by_cases h1 : a = 80
  · subst h1
    go_enter Tryd.func120, Tryd.ntmps120
    go_wp2
    go_ret
    exact ⟨rfl, rfl⟩
  · have b1 : (a == 80) = false := by simpa using h1
    by_cases h2 : a = 84
    · subst h2
      go_enter Tryd.func120, Tryd.ntmps120
      go_wp2
      go_ret
      exact ⟨rfl, rfl⟩
    · rw [if_neg (by omega)]
      have b2 : (a == 84) = false := by simpa using h2
      clear h1 h2
      go_enter Tryd.func120, Tryd.ntmps120
      go_wp2
      go_ret
      exact ⟨rfl, rfl⟩

set_option maxHeartbeats 400000 in
theorem stateLetter_any (a : Int) (w : World) (h0 : 0 ≤ a) (h1 : a ≤ 8) : Calls Tryd.prog 91 #[.int .i64 a] w fun e w' => e = .returned (.int .u8 (Pu.stateLetter a)) ∧ w' = w := by
  unfold Pu.stateLetter
  by_cases h2 : a = 0
  · subst h2
    go_enter Tryd.func91, Tryd.ntmps91
    go_wp2
    go_ret
    exact ⟨rfl, rfl⟩
  · rw [if_neg (by omega)]
    have h3 : 1 ≤ a := by omega
    clear h2
    go_enter Tryd.func91, Tryd.ntmps91
    go_wp2
    go_ret
    exact ⟨ret_int (by omega), rfl⟩

/-- The bytes of a text of letters. -/
def lets (L : ByteArray) : List Int := L.data.toList.map fun c => (c.toNat : Int)
theorem mem_lets {L : ByteArray} {k : Nat} (h : k < L.size) : (L[k].toNat : Int) ∈ lets L := by
  unfold lets
  rw [List.mem_map]
  exact ⟨L[k], List.getElem_mem (l := L.data.toList) (by simpa using h), rfl⟩
theorem lets_mem {L : ByteArray} {x : Int} (h : x ∈ lets L) : ∃ k, ∃ h : k < L.size, x = (L[k].toNat : Int) := by
  unfold lets at h
  rw [List.mem_map] at h
  obtain ⟨c, hc, rfl⟩ := h
  obtain ⟨k, hk, rfl⟩ := List.getElem_of_mem hc
  exact ⟨k, by simpa using hk, rfl⟩

/-- What a call that reads a letter hands back. -/
def LetRet (e : Ending) (o : Option Int) : Prop := ∃ x : Int, e = .returned (.tuple #[.int .u8 x, .bool o.isSome]) ∧ ∀ a, o = some a → x = a

set_option maxHeartbeats 400000 in
theorem letter_any (b : Nat) (s : ByteArray) (i : Nat) (L : ByteArray) (w : World) (h : RdAt w b s i) (hL : L.size ≤ 100) (j : Nat) (o : Option Int) (hq : Hid (Pu.letter (lets L) (src s) i = (j, o))) :
    Calls Tryd.prog 104 #[.pointer (some ⟨b, 0, none⟩), .string L] w fun e w' => LetRet e o ∧ RdAt w' b s j ∧ Kp (· = b) w w' := by
  have H0 := hide h
  clear h
  go_enter Tryd.func104, Tryd.ntmps104
  go_wp2
  go_loopg [6] L.size (fun gk v wr => ∃ k : Nat, k ≤ L.size ∧ L.size ≤ k + gk ∧ v = .int .i64 k ∧ RdAt wr b s i ∧ Kp (· = b) w wr ∧ ∀ q, (hq : q < L.size) → q < k → src s i ≠ (L[q].toNat : Int))
  case atStart => exact ⟨0, Nat.zero_le _, by omega, rfl, H0.out, Kp.refl _ _, fun q _ h => absurd h (Nat.not_lt_zero _)⟩
  case round =>
    obtain ⟨k, g1, g2, rfl, g4, g5, g6⟩ := hrel
    have G4 := hide g4
    have G5 := hide g5
    have G6 := hide g6
    clear g4 g5 g6
    by_cases hlt : k < L.size
    · have hb : (L[k].toNat : Int) < 256 := by have := L[k].toNat_lt; omega
      by_cases e : src s i = (L[k].toNat : Int)
      · have hq' : j = i + 1 ∧ o = some (L[k].toNat : Int) := by
          have := hq.out
          unfold Pu.letter at this
          rw [if_pos (by rw [e]; exact mem_lets hlt), e] at this
          exact ⟨(Prod.mk.inj this).1.symm, (Prod.mk.inj this).2.symm⟩
        obtain ⟨rfl, rfl⟩ := hq'
        have E := hide e
        clear e hq
        go_wp2_with fail
        refine (take_yes G4.out (by omega) E.out).mono ?_
        rintro e w1 ⟨rfl, r1, k1⟩
        go_wp2_with fail
        go_ret2
        exact ⟨⟨_, rfl, fun a ha => Option.some.inj ha⟩, r1, G5.out.trans k1⟩
      · have E := hide e
        have HN : Hid (∀ q, (hq : q < L.size) → q < k + 1 → src s i ≠ (L[q].toNat : Int)) := by
          intro q hq2 hk
          by_cases eq : q = k
          · subst eq; exact e
          · exact G6.out q hq2 (by omega)
        clear e
        go_wp2_with fail
        refine (take_no G4.out (by omega) E.out).mono ?_
        rintro e w1 ⟨rfl, r1, k1⟩
        go_wp2_with fail
        go_roundg (gk - 1)
        case measure => omega
        case rel => exact ⟨k + 1, by omega, by omega, by go_num, r1, G5.out.trans k1, HN.out⟩
    · have hq' : j = i ∧ o = none := by
        have := hq.out
        unfold Pu.letter at this
        rw [if_neg (fun hc => by obtain ⟨q, hq2, hx⟩ := lets_mem hc; exact G6.out q hq2 (by omega) hx)] at this
        exact ⟨(Prod.mk.inj this).1.symm, (Prod.mk.inj this).2.symm⟩
      obtain ⟨rfl, rfl⟩ := hq'
      clear hq
      go_wp2_with fail
      go_ret2
      exact ⟨⟨_, rfl, fun a ha => by simp at ha⟩, G4.out, G5.out⟩

theorem stateLetter_val {k : Nat} (h : k < 9) : (if Pu.stateLetter k = 46 then (0 : Int) else Pu.stateLetter k - 64) = k := by
  unfold Pu.stateLetter
  by_cases h0 : k = 0
  · subst h0; rfl
  · rw [if_neg (by omega), if_neg (by omega)]; omega
theorem mem_letters {c : Int} {k : Nat} (h : (k : Int) < c) : Pu.stateLetter k ∈ Pu.letters c := by
  unfold Pu.letters
  rw [List.mem_map]
  exact ⟨k, List.mem_range.2 (by omega), rfl⟩
theorem letters_mem {c x : Int} (h : x ∈ Pu.letters c) : ∃ k : Nat, (k : Int) < c ∧ x = Pu.stateLetter k := by
  unfold Pu.letters at h
  rw [List.mem_map] at h
  obtain ⟨k, hk, rfl⟩ := h
  exact ⟨k, by have := List.mem_range.1 hk; omega, rfl⟩
theorem stateLetter_bd (a : Int) (h0 : 0 ≤ a) (h1 : a ≤ 8) : 0 ≤ Pu.stateLetter a ∧ Pu.stateLetter a < 256 := by unfold Pu.stateLetter; split <;> omega

set_option maxHeartbeats 400000 in
theorem state_any (b : Nat) (s : ByteArray) (i : Nat) (c : Int) (w : World) (h : RdAt w b s i) (c0 : 0 ≤ c) (c9 : c ≤ 9) (j : Nat) (o : Option Int) (hq : Hid (Pu.state c (src s) i = (j, o))) :
    Calls Tryd.prog 113 #[.pointer (some ⟨b, 0, none⟩), .int .i64 c] w fun e w' => NumRet e o ∧ RdAt w' b s j ∧ Kp (· = b) w w' := by
  have H0 := hide h
  clear h
  go_enter Tryd.func113, Tryd.ntmps113
  go_wp2
  go_loopg [6] c.toNat (fun gk v wr => ∃ k : Nat, (k : Int) ≤ c ∧ c ≤ k + gk ∧ v = .int .i64 k ∧ RdAt wr b s i ∧ Kp (· = b) w wr ∧ ∀ q : Nat, q < k → src s i ≠ Pu.stateLetter q)
  case atStart => exact ⟨0, by omega, by omega, rfl, H0.out, Kp.refl _ _, fun q h => absurd h (Nat.not_lt_zero _)⟩
  case round =>
    obtain ⟨k, g1, g2, rfl, g4, g5, g6⟩ := hrel
    have G4 := hide g4
    have G5 := hide g5
    have G6 := hide g6
    clear g4 g5 g6
    by_cases hlt : (k : Int) < c
    · have hb := stateLetter_bd k (by omega) (by omega)
      by_cases e : src s i = Pu.stateLetter k
      · have hq' : j = i + 1 ∧ o = some (k : Int) := by
          have := hq.out
          unfold Pu.state Pu.bnd Pu.letter at this
          rw [if_pos (by rw [e]; exact mem_letters hlt), e] at this
          simp only [Pu.ret, stateLetter_val (show k < 9 by omega)] at this
          exact ⟨(Prod.mk.inj this).1.symm, (Prod.mk.inj this).2.symm⟩
        obtain ⟨rfl, rfl⟩ := hq'
        have E := hide e
        clear e hq
        go_wp2_with fail
        refine (stateLetter_any k _ (by omega) (by omega)).mono ?_
        rintro e w1 ⟨rfl, rfl⟩
        go_wp2_with fail
        refine (take_yes G4.out (by omega) E.out).mono ?_
        rintro e w1 ⟨rfl, r1, k1⟩
        go_wp2_with fail
        go_ret2
        exact ⟨⟨_, rfl, fun a ha => Option.some.inj ha⟩, r1, G5.out.trans k1⟩
      · have E := hide e
        have HN : Hid (∀ q : Nat, q < k + 1 → src s i ≠ Pu.stateLetter q) := by
          intro q hk
          by_cases eq : q = k
          · subst eq; exact e
          · exact G6.out q (by omega)
        clear e
        go_wp2_with fail
        refine (stateLetter_any k _ (by omega) (by omega)).mono ?_
        rintro e w1 ⟨rfl, rfl⟩
        go_wp2_with fail
        refine (take_no G4.out (by omega) E.out).mono ?_
        rintro e w1 ⟨rfl, r1, k1⟩
        go_wp2_with fail
        go_roundg (gk - 1)
        case measure => omega
        case rel => exact ⟨k + 1, by omega, by omega, by go_num, r1, G5.out.trans k1, HN.out⟩
    · have hq' : j = i ∧ o = none := by
        have := hq.out
        unfold Pu.state Pu.bnd Pu.letter at this
        rw [if_neg (fun hc => by obtain ⟨q, hq2, hx⟩ := letters_mem hc; exact G6.out q (by omega) hx)] at this
        exact ⟨(Prod.mk.inj this).1.symm, (Prod.mk.inj this).2.symm⟩
      obtain ⟨rfl, rfl⟩ := hq'
      clear hq
      go_wp2_with fail
      go_ret2
      exact ⟨⟨_, rfl, fun a ha => by simp at ha⟩, G4.out, G5.out⟩
end Go.Proofs.YtbdbkjngdhcjpaaDoor
