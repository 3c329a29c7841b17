import Derived.Test.YtbdbkjngdhcjpaaDoorProg
import Derived.Test.YtbdbkjngdhcjpaaDoorPure
import Derived.WalkKit
import Derived.WalkSpells
import Derived.Deep.QuietTactic
import Derived.BigQuiet
import Derived.Laws.Rows
namespace Go.Proofs.YtbdbkjngdhcjpaaDoor
open Go.RowKit
open Go.Proofs

theorem hide {p : Prop} (h : p) : Hid p := h

/-- A text as numbers. -/
def src (s : ByteArray) (i : Nat) : Int := if h : i < s.size then (s[i].toNat : Int) else -1
theorem src_lt {s : ByteArray} {i : Nat} (h : i < s.size) : src s i = (s[i].toNat : Int) := by unfold src; rw [dif_pos h]
theorem src_ge {s : ByteArray} {i : Nat} (h : ¬ i < s.size) : src s i = -1 := by unfold src; rw [dif_neg h]

/-- The reader at block b: its text and how far it is. -/
structure RdAt (w : World) (b : Nat) (s : ByteArray) (i : Nat) : Prop where
  row : w.heap[b]? = some (.cells #[.string s, .int .i64 i] 111 (0, 0))
  le : i ≤ s.size
  few : s.size ≤ 400
theorem RdAt.c0 {w : World} {b : Nat} {s : ByteArray} {i : Nat} (h : RdAt w b s i) : w.cell? ⟨b, 0, none⟩ = some (.string s) := by
  rw [cell_of_row w b 0 _ _ _ h.row]; rfl
theorem RdAt.c1 {w : World} {b : Nat} {s : ByteArray} {i : Nat} (h : RdAt w b s i) : w.cell? ⟨b, 1, none⟩ = some (.int .i64 i) := by
  rw [cell_of_row w b 1 _ _ _ h.row]; rfl
theorem RdAt.f1 {w : World} {b : Nat} {s : ByteArray} {i : Nat} (h : RdAt w b s i) : w.frozen? ⟨b, 1, none⟩ = false := frozen_of_row w b 1 _ _ h.row
theorem RdAt.lt {w : World} {b : Nat} {s : ByteArray} {i : Nat} (h : RdAt w b s i) : b < w.heap.size := block_lt_of_cell h.c0
theorem RdAt.set {w : World} {b : Nat} {s : ByteArray} {i : Nat} (h : RdAt w b s i) (j : Nat) (hj : j ≤ s.size) : RdAt (w.setCell ⟨b, 1, none⟩ (.int .i64 j)) b s j := by
  refine ⟨?_, hj, h.few⟩
  rw [heap_setCell_same w b 1 _ _ _ h.row]
  rfl
theorem RdAt.up {w : World} {b : Nat} {s : ByteArray} {i : Nat} (h : RdAt w b s i) (hj : i < s.size) : RdAt (w.setCell ⟨b, 1, none⟩ (.int .i64 ((i : Int) + 1))) b s (i + 1) := h.set (i + 1) hj
theorem RdAt.up2 {w : World} {b : Nat} {s : ByteArray} {i : Nat} (h : RdAt w b s i) (hj : i < s.size) {z : Int} (hz : z = (i : Int) + 1) {k : Nat} (hk : k = i + 1) : RdAt (w.setCell ⟨b, 1, none⟩ (.int .i64 z)) b s k := by
  subst hz; subst hk; exact h.up hj
theorem RdAt.drewN {w : World} {b : Nat} {s : ByteArray} {i : Nat} (h : RdAt w b s i) (n : Nat) : RdAt (w.drewN n) b s i := ⟨h.row, h.le, h.few⟩

/-- Nothing old is turned but in the blocks of S. -/
structure Kp (S : Nat → Prop) (w w' : World) : Prop where
  os : w'.os = w.os
  tape : w'.tape = w.tape
  output : w'.output = w.output
  size : w.heap.size ≤ w'.heap.size
  block : ∀ k, k < w.heap.size → ¬ S k → w'.heap[k]? = w.heap[k]?
theorem Kp.refl (S : Nat → Prop) (w : World) : Kp S w w := ⟨rfl, rfl, rfl, Nat.le_refl _, fun _ _ _ => rfl⟩
theorem Kp.trans {S : Nat → Prop} {a b c : World} (h : Kp S a b) (k : Kp S b c) : Kp S a c :=
  ⟨k.os.trans h.os, k.tape.trans h.tape, k.output.trans h.output, Nat.le_trans h.size k.size, fun i hi hn => (k.block i (Nat.lt_of_lt_of_le hi h.size) hn).trans (h.block i hi hn)⟩
theorem Kp.mono {S T : Nat → Prop} {a b : World} (h : Kp S a b) (hs : ∀ k, S k → T k) : Kp T a b :=
  ⟨h.os, h.tape, h.output, h.size, fun i hi hn => h.block i hi fun x => hn (hs i x)⟩
theorem Kp.drewN {S : Nat → Prop} {a w : World} (h : Kp S a w) (n : Nat) : Kp S a (w.drewN n) := ⟨h.os, h.tape, h.output, h.size, h.block⟩
theorem Kp.setCell {S : Nat → Prop} {a w : World} (h : Kp S a w) {p : Addr} (hp : S p.block) (u : Value) : Kp S a (w.setCell p u) :=
  h.trans ⟨rfl, rfl, rfl, by simp [World.setCell], fun k _ hn => Below.heap_setCell _ _ _ _ (fun e => hn (by rw [e]; exact hp))⟩

theorem ret_bool {a b : Bool} (h : a = b) : Ending.returned (.bool a) = .returned (.bool b) := by rw [h]
theorem ret_int {k : IntKind} {a b : Int} (h : a = b) : Ending.returned (.int k a) = .returned (.int k b) := by rw [h]

set_option maxHeartbeats 400000 in
theorem sees_any (b : Nat) (s : ByteArray) (i : Nat) (m : Int) (w : World) (h : RdAt w b s i) (hm : 0 ≤ m) :
    Calls Tryd.prog 108 #[.pointer (some ⟨b, 0, none⟩), .int .u8 m] w fun e w' => e = .returned (.bool (decide (src s i = m))) ∧ ∃ n, w' = w.drewN n := by
  have c0 := h.c0
  have c1 := h.c1
  have hs := h.few
  clear h
  by_cases hi : i < s.size
  · rw [src_lt hi]
    go_enter Tryd.func108, Tryd.ntmps108
    go_wp2
    go_quiet (fail)
    go_wp2
    go_ret
    exact ⟨ret_bool (by rw [Bool.eq_iff_iff]; simp), _, rfl⟩
  · rw [src_ge hi]
    go_enter Tryd.func108, Tryd.ntmps108
    go_wp2
    go_quiet (fail)
    go_wp2
    go_ret
    exact ⟨ret_bool (by symm; simp; omega), _, rfl⟩

set_option maxHeartbeats 400000 in
theorem take_any (b : Nat) (s : ByteArray) (i : Nat) (m : Int) (w : World) (h : RdAt w b s i) (hm : 0 ≤ m) (j : Nat) (o : Option Unit) (hq : Hid (Pu.take m (src s) i = (j, o))) :
    Calls Tryd.prog 93 #[.pointer (some ⟨b, 0, none⟩), .int .u8 m] w fun e w' => e = .returned (.bool o.isSome) ∧ RdAt w' b s j ∧ Kp (· = b) w w' := by
  have hq' := hq.out
  clear hq
  unfold Pu.take at hq'
  have c1 := h.c1
  have hs := h.few
  have f1 := h.f1
  by_cases hi : src s i = m
  · rw [if_pos hi] at hq'
    obtain ⟨rfl, rfl⟩ := Prod.mk.inj hq'
    clear hq'
    have hlt : i < s.size := by
      by_cases hlt : i < s.size
      · exact hlt
      · rw [src_ge hlt] at hi; omega
    have hd : decide (src s i = m) = true := by simpa using hi
    have HR : Hid (RdAt w b s i) := h
    have hc := sees_any b s i m w h hm
    rw [hd] at hc
    clear h hi hd
    go_enter Tryd.func93, Tryd.ntmps93
    go_wp2_with fail
    refine hc.mono ?_
    clear hc
    rintro e w' ⟨rfl, n, rfl⟩
    go_wp2_with fail
    go_ret
    refine ⟨rfl, ?_, ?_⟩
    · exact (HR.out.drewN n).up hlt
    · exact ((Kp.refl (· = b) w).drewN n).setCell (p := ⟨b, 1, none⟩) rfl _
  · rw [if_neg hi] at hq'
    obtain ⟨rfl, rfl⟩ := Prod.mk.inj hq'
    clear hq'
    have hd : decide (src s i = m) = false := by simpa using hi
    have HR : Hid (RdAt w b s i) := h
    have hc := sees_any b s i m w h hm
    rw [hd] at hc
    clear h hi hd
    go_enter Tryd.func93, Tryd.ntmps93
    go_wp2_with fail
    refine hc.mono ?_
    clear hc
    rintro e w' ⟨rfl, n, rfl⟩
    go_wp2_with fail
    go_ret
    exact ⟨rfl, HR.out.drewN n, (Kp.refl _ _).drewN _⟩

set_option maxRecDepth 100000 in
set_option maxHeartbeats 400000 in
theorem digit_any (b : Nat) (s : ByteArray) (i : Nat) (w : World) (h : RdAt w b s i) :
    Calls Tryd.prog 111 #[.pointer (some ⟨b, 0, none⟩)] w fun e w' => e = .returned (.int .i64 (Pu.digit (src s) i)) ∧ ∃ n, w' = w.drewN n := by
  have c0 := h.c0
  have c1 := h.c1
  have hs := h.few
  clear h
  by_cases hi : i < s.size
  · have hb : (s[i].toNat : Int) < 256 := by have := s[i].toNat_lt; omega
    have h0 : 0 ≤ (s[i].toNat : Int) := by omega
    have hd : Pu.digit (src s) i = if 48 ≤ (s[i].toNat : Int) ∧ (s[i].toNat : Int) ≤ 57 then (s[i].toNat : Int) - 48 else -1 := by unfold Pu.digit; rw [src_lt hi]
    by_cases h1 : 48 ≤ (s[i].toNat : Int) ∧ (s[i].toNat : Int) ≤ 57
    · rw [if_pos h1] at hd
      rw [hd]
      obtain ⟨h2, h3⟩ := h1
      clear hd
      go_enter Tryd.func111, Tryd.ntmps111
      go_wp2
      go_quiet (fail)
      go_wp2
      go_quiet (fail)
      go_wp2
      go_ret
      exact ⟨ret_int (by omega), _, rfl⟩
    · rw [if_neg h1] at hd
      rw [hd]
      clear hd
      by_cases h2 : (s[i].toNat : Int) < 48
      · clear h1
        go_enter Tryd.func111, Tryd.ntmps111
        go_wp2
        go_quiet (fail)
        go_wp2
        go_quiet (fail)
        go_wp2
        go_ret
        exact ⟨rfl, _, rfl⟩
      · have h3 : 57 < (s[i].toNat : Int) := by omega
        clear h1
        go_enter Tryd.func111, Tryd.ntmps111
        go_wp2
        go_quiet (fail)
        go_wp2
        go_quiet (fail)
        go_wp2
        go_ret
        exact ⟨rfl, _, rfl⟩
  · have hd : Pu.digit (src s) i = -1 := Pu.digit_end (src_ge hi)
    rw [hd]
    clear hd
    go_enter Tryd.func111, Tryd.ntmps111
    go_wp2
    go_quiet (fail)
    go_wp2
    go_ret
    exact ⟨rfl, _, rfl⟩
end Go.Proofs.YtbdbkjngdhcjpaaDoor
