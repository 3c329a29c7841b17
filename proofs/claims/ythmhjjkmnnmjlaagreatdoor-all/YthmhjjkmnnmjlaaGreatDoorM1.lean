import Derived.Test.YthmhjjkmnnmjlaaGreatDoorProg
import Derived.Test.YthmhjjkmnnmjlaaGreatDoorPure
import Derived.WalkKit
import Derived.WalkSpells
import Derived.Deep.QuietTactic
import Derived.BigQuiet
import Derived.Laws.Rows
import Derived.Deep.LoopGhost
namespace Go.Proofs.YthmhjjkmnnmjlaaGreatDoor
open Go.RowKit
open Go.Proofs

theorem hide {p : Prop} (h : p) : Hid p := h

/-- A text as numbers. -/
def src (s : ByteArray) (i : Nat) : Int := if h : i < s.size then (s[i].toNat : Int) else -1
theorem src_lt {s : ByteArray} {i : Nat} (h : i < s.size) : src s i = (s[i].toNat : Int) := by unfold src; rw [dif_pos h]
theorem src_ge {s : ByteArray} {i : Nat} (h : ¬ i < s.size) : src s i = -1 := by unfold src; rw [dif_neg h]

/-- The reader at block b: its text and how far it is. -/
structure RdAt (w : World) (b : Nat) (s : ByteArray) (i : Nat) : Prop where
  row : w.heap[b]? = some (.cells #[.string s, .int .i64 i] 115 (0, 0))
  le : i ≤ s.size
  few : s.size ≤ 400
theorem RdAt.c0 {w : World} {b : Nat} {s : ByteArray} {i : Nat} (h : RdAt w b s i) : w.cell? ⟨b, 0, none⟩ = some (.string s) := by
  rw [cell_of_row w b 0 _ _ _ h.row]; rfl
theorem RdAt.c1 {w : World} {b : Nat} {s : ByteArray} {i : Nat} (h : RdAt w b s i) : w.cell? ⟨b, 1, none⟩ = some (.int .i64 i) := by
  rw [cell_of_row w b 1 _ _ _ h.row]; rfl
theorem RdAt.f1 {w : World} {b : Nat} {s : ByteArray} {i : Nat} (h : RdAt w b s i) : w.frozen? ⟨b, 1, none⟩ = false := frozen_of_row w b 1 _ _ h.row
theorem RdAt.lt {w : World} {b : Nat} {s : ByteArray} {i : Nat} (h : RdAt w b s i) : b < w.heap.size := block_lt_of_cell h.c0
theorem RdAt.set {w : World} {b : Nat} {s : ByteArray} {i : Nat} (h : RdAt w b s i) (j : Nat) (hj : j ≤ s.size) : RdAt (w.setCell ⟨b, 1, none⟩ (.int .i64 j)) b s j := by
  refine ⟨?_, hj, h.few⟩
  rw [heap_setCell_same w b 1 _ _ _ h.row]
  rfl
theorem RdAt.up {w : World} {b : Nat} {s : ByteArray} {i : Nat} (h : RdAt w b s i) (hj : i < s.size) : RdAt (w.setCell ⟨b, 1, none⟩ (.int .i64 ((i : Int) + 1))) b s (i + 1) := h.set (i + 1) hj
theorem RdAt.up2 {w : World} {b : Nat} {s : ByteArray} {i : Nat} (h : RdAt w b s i) (hj : i < s.size) {z : Int} (hz : z = (i : Int) + 1) {k : Nat} (hk : k = i + 1) : RdAt (w.setCell ⟨b, 1, none⟩ (.int .i64 z)) b s k := by
  subst hz; subst hk; exact h.up hj
theorem RdAt.drewN {w : World} {b : Nat} {s : ByteArray} {i : Nat} (h : RdAt w b s i) (n : Nat) : RdAt (w.drewN n) b s i := ⟨h.row, h.le, h.few⟩

/-- Nothing old is turned but in the blocks of S. -/
structure Kp (S : Nat → Prop) (w w' : World) : Prop where
  os : w'.os = w.os
  tape : w'.tape = w.tape
  output : w'.output = w.output
  size : w.heap.size ≤ w'.heap.size
  block : ∀ k, k < w.heap.size → ¬ S k → w'.heap[k]? = w.heap[k]?
theorem Kp.refl (S : Nat → Prop) (w : World) : Kp S w w := ⟨rfl, rfl, rfl, Nat.le_refl _, fun _ _ _ => rfl⟩
theorem Kp.trans {S : Nat → Prop} {a b c : World} (h : Kp S a b) (k : Kp S b c) : Kp S a c :=
  ⟨k.os.trans h.os, k.tape.trans h.tape, k.output.trans h.output, Nat.le_trans h.size k.size, fun i hi hn => (k.block i (Nat.lt_of_lt_of_le hi h.size) hn).trans (h.block i hi hn)⟩
theorem Kp.mono {S T : Nat → Prop} {a b : World} (h : Kp S a b) (hs : ∀ k, S k → T k) : Kp T a b :=
  ⟨h.os, h.tape, h.output, h.size, fun i hi hn => h.block i hi fun x => hn (hs i x)⟩
theorem Kp.drewN {S : Nat → Prop} {a w : World} (h : Kp S a w) (n : Nat) : Kp S a (w.drewN n) := ⟨h.os, h.tape, h.output, h.size, h.block⟩
theorem Kp.setCell {S : Nat → Prop} {a w : World} (h : Kp S a w) {p : Addr} (hp : S p.block) (u : Value) : Kp S a (w.setCell p u) :=
  h.trans ⟨rfl, rfl, rfl, by simp [World.setCell], fun k _ hn => Below.heap_setCell _ _ _ _ (fun e => hn (by rw [e]; exact hp))⟩

theorem ret_bool {a b : Bool} (h : a = b) : Ending.returned (.bool a) = .returned (.bool b) := by rw [h]
theorem ret_int {k : IntKind} {a b : Int} (h : a = b) : Ending.returned (.int k a) = .returned (.int k b) := by rw [h]

set_option maxHeartbeats 400000 in
theorem sees_any (b : Nat) (s : ByteArray) (i : Nat) (m : Int) (w : World) (h : RdAt w b s i) (hm : 0 ≤ m) :
    Calls Tryz.prog 121 #[.pointer (some ⟨b, 0, none⟩), .int .u8 m] w fun e w' => e = .returned (.bool (decide (src s i = m))) ∧ ∃ n, w' = w.drewN n := by
  have c0 := h.c0
  have c1 := h.c1
  have hs := h.few
  clear h
  by_cases hi : i < s.size
  · rw [src_lt hi]
    go_enter Tryz.func121, Tryz.ntmps121
    go_wp2
    go_quiet (fail)
    go_wp2
    go_ret
    exact ⟨ret_bool (by rw [Bool.eq_iff_iff]; simp), _, rfl⟩
  · rw [src_ge hi]
    go_enter Tryz.func121, Tryz.ntmps121
    go_wp2
    go_quiet (fail)
    go_wp2
    go_ret
    exact ⟨ret_bool (by symm; simp; omega), _, rfl⟩

set_option maxHeartbeats 400000 in
theorem take_any (b : Nat) (s : ByteArray) (i : Nat) (m : Int) (w : World) (h : RdAt w b s i) (hm : 0 ≤ m) (j : Nat) (o : Option Unit) (hq : Hid (Pu.take m (src s) i = (j, o))) :
    Calls Tryz.prog 107 #[.pointer (some ⟨b, 0, none⟩), .int .u8 m] w fun e w' => e = .returned (.bool o.isSome) ∧ RdAt w' b s j ∧ Kp (· = b) w w' := by
  have hq' := hq.out
  clear hq
  unfold Pu.take at hq'
  have c1 := h.c1
  have hs := h.few
  have f1 := h.f1
  by_cases hi : src s i = m
  · rw [if_pos hi] at hq'
    obtain ⟨rfl, rfl⟩ := Prod.mk.inj hq'
    clear hq'
    have hlt : i < s.size := by
      by_cases hlt : i < s.size
      · exact hlt
      · rw [src_ge hlt] at hi; omega
    have hd : decide (src s i = m) = true := by simpa using hi
    have HR : Hid (RdAt w b s i) := h
    have hc := sees_any b s i m w h hm
    rw [hd] at hc
    clear h hi hd
    go_enter Tryz.func107, Tryz.ntmps107
    go_wp2_with fail
    refine hc.mono ?_
    clear hc
    rintro e w' ⟨rfl, n, rfl⟩
    go_wp2_with fail
    go_ret
    refine ⟨rfl, ?_, ?_⟩
    · exact (HR.out.drewN n).up hlt
    · exact ((Kp.refl (· = b) w).drewN n).setCell (p := ⟨b, 1, none⟩) rfl _
  · rw [if_neg hi] at hq'
    obtain ⟨rfl, rfl⟩ := Prod.mk.inj hq'
    clear hq'
    have hd : decide (src s i = m) = false := by simpa using hi
    have HR : Hid (RdAt w b s i) := h
    have hc := sees_any b s i m w h hm
    rw [hd] at hc
    clear h hi hd
    go_enter Tryz.func107, Tryz.ntmps107
    go_wp2_with fail
    refine hc.mono ?_
    clear hc
    rintro e w' ⟨rfl, n, rfl⟩
    go_wp2_with fail
    go_ret
    exact ⟨rfl, HR.out.drewN n, (Kp.refl _ _).drewN _⟩

set_option maxRecDepth 100000 in
set_option maxHeartbeats 400000 in
theorem digit_any (b : Nat) (s : ByteArray) (i : Nat) (w : World) (h : RdAt w b s i) :
    Calls Tryz.prog 124 #[.pointer (some ⟨b, 0, none⟩)] w fun e w' => e = .returned (.int .i64 (Pu.digit (src s) i)) ∧ ∃ n, w' = w.drewN n := by
  have c0 := h.c0
  have c1 := h.c1
  have hs := h.few
  clear h
  by_cases hi : i < s.size
  · have hb : (s[i].toNat : Int) < 256 := by have := s[i].toNat_lt; omega
    have h0 : 0 ≤ (s[i].toNat : Int) := by omega
    have hd : Pu.digit (src s) i = if 48 ≤ (s[i].toNat : Int) ∧ (s[i].toNat : Int) ≤ 57 then (s[i].toNat : Int) - 48 else -1 := by unfold Pu.digit; rw [src_lt hi]
    by_cases h1 : 48 ≤ (s[i].toNat : Int) ∧ (s[i].toNat : Int) ≤ 57
    · rw [if_pos h1] at hd
      rw [hd]
      obtain ⟨h2, h3⟩ := h1
      clear hd
      go_enter Tryz.func124, Tryz.ntmps124
      go_wp2
      go_quiet (fail)
      go_wp2
      go_quiet (fail)
      go_wp2
      go_ret
      exact ⟨ret_int (by omega), _, rfl⟩
    · rw [if_neg h1] at hd
      rw [hd]
      clear hd
      by_cases h2 : (s[i].toNat : Int) < 48
      · clear h1
        go_enter Tryz.func124, Tryz.ntmps124
        go_wp2
        go_quiet (fail)
        go_wp2
        go_quiet (fail)
        go_wp2
        go_ret
        exact ⟨rfl, _, rfl⟩
      · have h3 : 57 < (s[i].toNat : Int) := by omega
        clear h1
        go_enter Tryz.func124, Tryz.ntmps124
        go_wp2
        go_quiet (fail)
        go_wp2
        go_quiet (fail)
        go_wp2
        go_ret
        exact ⟨rfl, _, rfl⟩
  · have hd : Pu.digit (src s) i = -1 := Pu.digit_end (src_ge hi)
    rw [hd]
    clear hd
    go_enter Tryz.func124, Tryz.ntmps124
    go_wp2
    go_quiet (fail)
    go_wp2
    go_ret
    exact ⟨rfl, _, rfl⟩
end Go.Proofs.YthmhjjkmnnmjlaaGreatDoor
namespace Go.Proofs.YthmhjjkmnnmjlaaGreatDoor
open Go.RowKit
open Go.Proofs

set_option maxHeartbeats 400000 in
theorem begins_any (v lo hi : Int) (w : World) (h0 : 0 ≤ v) (h1 : v ≤ 9999999) (h2 : 0 ≤ lo) (h3 : lo ≤ 999999) (h4 : 0 ≤ hi) (h5 : hi ≤ 999999) :
    Calls Tryz.prog 125 #[.int .i64 v, .int .i64 lo, .int .i64 hi] w fun e w' => e = .returned (.bool (Pu.begins v lo hi)) ∧ w' = w := by
  by_cases hv : v = 0
  · subst hv
    go_enter Tryz.func125, Tryz.ntmps125
    go_wp2
    go_ret
    exact ⟨ret_bool (by unfold Pu.begins; rw [if_pos rfl, Bool.eq_iff_iff]; simp), rfl⟩
  · have hb : (v == 0) = false := by simpa using hv
    have HE : Hid (Pu.begins v lo hi = Pu.bgS lo hi v v) := by unfold Hid Pu.begins; rw [if_neg hv]
    rw [HE.out]
    clear HE
    go_enter Tryz.func125, Tryz.ntmps125
    go_wp2
    go_loop [7, 8] (fun l a => ∃ x y : Int, l = .int .i64 x ∧ a = .int .i64 y ∧ 1 ≤ y ∧ y ≤ 9999999 ∧ 0 ≤ x ∧ x ≤ 10000000 ∧ Pu.bgS lo hi y x = Pu.bgS lo hi v v) (fun _ a => (hi + 1 - intOf a).toNat)
    case atStart => exact ⟨v, v, rfl, rfl, by omega, by omega, by omega, by omega, rfl⟩
    case round =>
      obtain ⟨x, y, rfl, rfl, g1, g2, g3, g4, g5⟩ := hrel
      have G : Hid (Pu.bgS lo hi y x = Pu.bgS lo hi v v) := g5
      have E : Hid (Pu.bgS lo hi y x = if y ≤ hi then (if lo ≤ x then true else Pu.bgS lo hi (y * 10) (x * 10 + 9)) else false) := Pu.bgS_eq lo hi y x g1
      clear g5
      by_cases k1 : y ≤ hi
      · by_cases k2 : lo ≤ x
        · go_wp2
          go_ret
          refine ⟨ret_bool ?_, rfl⟩
          rw [← G.out, E.out, if_pos k1, if_pos k2]
        · go_wp2
          go_round
          case rel => exact ⟨x * 10 + 9, y * 10, rfl, rfl, by omega, by omega, by omega, by omega, by rw [← G.out, E.out, if_pos k1, if_neg k2]⟩
          case measure => simp [intOf]; omega
      · go_wp2
        go_ret
        refine ⟨ret_bool ?_, rfl⟩
        rw [← G.out, E.out, if_neg (by omega)]

theorem many_stop {σ : Type} {step : σ → Int → Option σ} {f : Pu.Src} {n i : Nat} {v : σ} (h : step v (Pu.digit f i) = none) : Pu.many step n v f i = (i, some v) := by
  cases n with
  | zero => rfl
  | succ n => unfold Pu.many; rw [h]
theorem many_go {σ : Type} {step : σ → Int → Option σ} {f : Pu.Src} {n i : Nat} {v v' : σ} (h : step v (Pu.digit f i) = some v') : Pu.many step (n + 1) v f i = Pu.many step n v' f (i + 1) := by
  conv => lhs; unfold Pu.many
  rw [h]

/-- What number has done behind k digits. -/
def NumRel (s : ByteArray) (lo hi : Int) (i k : Nat) (x : Int) : Prop :=
  Pu.many (Pu.numStep lo hi) 401 (false, 0) (src s) i = Pu.many (Pu.numStep lo hi) (401 - k) (decide (0 < k), x) (src s) (i + k)
theorem NumRel.done {s : ByteArray} {lo hi : Int} {i k : Nat} {x : Int} (h : NumRel s lo hi i k x) {j : Nat} {o : Option Int} (hq : Pu.number lo hi (src s) i = (j, o))
    (hst : Pu.numStep lo hi (decide (0 < k), x) (Pu.digit (src s) (i + k)) = none) : j = i + k ∧ o = if 0 < k ∧ lo ≤ x ∧ x ≤ hi then some x else none := by
  unfold NumRel at h
  rw [many_stop hst] at h
  unfold Pu.number Pu.bnd at hq
  rw [h] at hq
  simp at hq
  exact ⟨hq.1.symm, hq.2.symm⟩
theorem NumRel.next {s : ByteArray} {lo hi : Int} {i k : Nat} {x : Int} (h : NumRel s lo hi i k x) (hk : k < 401) (h1 : 0 ≤ Pu.digit (src s) (i + k)) (h2 : ¬ (x = 0 ∧ 0 < k))
    (h3 : Pu.begins (x * 10 + Pu.digit (src s) (i + k)) lo hi = true) : NumRel s lo hi i (k + 1) (x * 10 + Pu.digit (src s) (i + k)) := by
  unfold NumRel at h ⊢
  rw [h]
  have e : 401 - k = (401 - (k + 1)) + 1 := by omega
  rw [e, many_go (v' := (true, x * 10 + Pu.digit (src s) (i + k)))]
  · simp; rfl
  · unfold Pu.numStep
    rw [if_neg]
    simp only [h3]
    simp
    refine ⟨h1, fun hx => ?_⟩
    omega
theorem num_stop1 {lo hi d x : Int} {k : Nat} (h : d < 0) : Pu.numStep lo hi (decide (0 < k), x) d = none := by unfold Pu.numStep; rw [if_pos (Or.inl h)]
theorem num_stop2 {lo hi d x : Int} {k : Nat} (h : x = 0) (h2 : 0 < k) : Pu.numStep lo hi (decide (0 < k), x) d = none := by unfold Pu.numStep; rw [if_pos (Or.inr (Or.inl ⟨h, by simpa using h2⟩))]
theorem num_stop3 {lo hi d x : Int} {k : Nat} (h : Pu.begins (x * 10 + d) lo hi = false) : Pu.numStep lo hi (decide (0 < k), x) d = none := by unfold Pu.numStep; rw [if_pos (Or.inr (Or.inr h))]

/-- What a call that reads a number hands back. -/
def NumRet (e : Ending) (o : Option Int) : Prop := ∃ x : Int, e = .returned (.tuple #[.int .i64 x, .bool o.isSome]) ∧ ∀ a, o = some a → x = a

set_option maxRecDepth 100000 in
set_option maxHeartbeats 1000000 in
theorem number_any (b : Nat) (s : ByteArray) (i : Nat) (lo hi : Int) (w : World) (h : RdAt w b s i) (h2 : 0 ≤ lo) (h3 : lo ≤ 999999) (h4 : 0 ≤ hi) (h5 : hi ≤ 999999) (j : Nat) (o : Option Int) (hq : Hid (Pu.number lo hi (src s) i = (j, o))) :
    Calls Tryz.prog 109 #[.pointer (some ⟨b, 0, none⟩), .int .i64 lo, .int .i64 hi] w fun e w' => NumRet e o ∧ RdAt w' b s j ∧ Kp (· = b) w w' := by
  have H0 : Hid (RdAt w b s i) := h
  have hs := h.few
  have hle := h.le
  have c1 := h.c1
  clear h
  go_enter Tryz.func109, Tryz.ntmps109
  go_wp2
  clear c1
  go_loopg [9] (s.size - i) (fun gk v wr => ∃ (k : Nat) (x : Int), i + k ≤ s.size ∧ s.size ≤ i + k + gk ∧ v = .int .i64 x ∧ 0 ≤ x ∧ x ≤ hi ∧ RdAt wr b s (i + k) ∧ Kp (· = b) w wr ∧ NumRel s lo hi i k x)
  case atStart => exact ⟨0, 0, hle, by omega, rfl, by omega, h4, H0.out, Kp.refl _ _, rfl⟩
  case round =>
    obtain ⟨k, x, g1, g1', rfl, g2, g3, g4, g5, g6⟩ := hrel
    have c0 := g4.c0
    have c1 := g4.c1
    have f1 := g4.f1
    have e1 : ((i + k : Nat) : Int) = (i : Int) + k := by omega
    rw [e1] at c1
    clear e1
    have G4 : Hid (RdAt wr b s (i + k)) := g4
    have G5 : Hid (Kp (· = b) w wr) := g5
    have G6 : Hid (NumRel s lo hi i k x) := g6
    clear g4 g5 g6
    have hdb := Pu.digit_bd (src s) (i + k)
    have hfin : ∀ a : World, RdAt a b s (i + k) → Kp (· = b) w a → Pu.numStep lo hi (decide (0 < k), x) (Pu.digit (src s) (i + k)) = none → ∀ e : Ending, (∃ y : Bool, e = .returned (.tuple #[.int .i64 x, .bool y]) ∧ y = decide (0 < k ∧ lo ≤ x ∧ x ≤ hi)) → NumRet e o ∧ RdAt a b s j ∧ Kp (· = b) w a := by
      rintro a ha hka hst e ⟨y, rfl, rfl⟩
      obtain ⟨rfl, rfl⟩ := G6.out.done hq.out hst
      refine ⟨⟨x, ?_, ?_⟩, ha, hka⟩
      · by_cases hc : 0 < k ∧ lo ≤ x ∧ x ≤ hi
        · rw [if_pos hc, decide_eq_true hc]; rfl
        · rw [if_neg hc, decide_eq_false hc]; rfl
      · intro a ha
        by_cases hc : 0 < k ∧ lo ≤ x ∧ x ≤ hi
        · rw [if_pos hc] at ha; exact Option.some.inj ha
        · rw [if_neg hc] at ha; simp at ha
    have HF := hide hfin
    clear hfin
    have GD : Hid (∀ n, RdAt (wr.drewN n) b s (i + k)) := fun n => G4.out.drewN n
    by_cases hlt : i + k < s.size
    · by_cases d0 : Pu.digit (src s) (i + k) < 0
      · have ST : Hid (Pu.numStep lo hi (decide (0 < k), x) (Pu.digit (src s) (i + k)) = none) := num_stop1 d0
        by_cases x0 : x = 0
        · subst x0
          go_wp2_with fail
          go_quiet (fail)
          go_wp2_with fail
          refine (digit_any b s (i + k) _ (GD.out _)).mono ?_
          rintro e w' ⟨rfl, n, rfl⟩
          generalize Pu.digit (src s) (i + k) = d at *
          go_wp2_with fail
          all_goals
            go_ret2
            refine HF.out _ (GD.out _) (G5.out.drewN _) ST.out _ ⟨_, rfl, ?_⟩
            symm
            first | (apply decide_eq_true; omega) | (apply decide_eq_false; omega)
        · have x1 : (x == 0) = false := by simpa using x0
          go_wp2_with fail
          go_quiet (fail)
          go_wp2_with fail
          refine (digit_any b s (i + k) _ (GD.out _)).mono ?_
          rintro e w' ⟨rfl, n, rfl⟩
          generalize Pu.digit (src s) (i + k) = d at *
          go_wp2_with fail
          all_goals
            go_ret2
            refine HF.out _ (GD.out _) (G5.out.drewN _) ST.out _ ⟨_, rfl, ?_⟩
            symm
            first | (apply decide_eq_true; omega) | (apply decide_eq_false; omega)
      · by_cases d1 : x = 0 ∧ 0 < k
        · have ST : Hid (Pu.numStep lo hi (decide (0 < k), x) (Pu.digit (src s) (i + k)) = none) := num_stop2 d1.1 d1.2
          obtain ⟨x0, k0⟩ := d1
          subst x0
          go_wp2_with fail
          go_quiet (fail)
          go_wp2_with fail
          refine (digit_any b s (i + k) _ (GD.out _)).mono ?_
          rintro e w' ⟨rfl, n, rfl⟩
          generalize Pu.digit (src s) (i + k) = d at *
          go_wp2_with fail
          all_goals
            go_ret2
            refine HF.out _ (GD.out _) (G5.out.drewN _) ST.out _ ⟨_, rfl, ?_⟩
            symm
            first | (apply decide_eq_true; omega) | (apply decide_eq_false; omega)
        · have d3 : 0 ≤ Pu.digit (src s) (i + k) := by omega
          cases d2 : Pu.begins (x * 10 + Pu.digit (src s) (i + k)) lo hi with
          | false =>
            have ST : Hid (Pu.numStep lo hi (decide (0 < k), x) (Pu.digit (src s) (i + k)) = none) := num_stop3 d2
            have D2 := hide d2
            clear d2
            go_wp2_with fail
            go_quiet (fail)
            go_wp2_with fail
            refine (digit_any b s (i + k) _ (GD.out _)).mono ?_
            rintro e w' ⟨rfl, n, rfl⟩
            generalize Pu.digit (src s) (i + k) = d at *
            by_cases x0 : x = 0
            · subst x0
              have k0 : k = 0 := by omega
              subst k0
              rw [show (0 : Int) * 10 + d = d from by omega] at D2
              go_wp2_with fail
              refine (begins_any d lo hi _ (by omega) (by omega) h2 h3 h4 h5).mono ?_
              rw [D2.out]
              rintro e w' ⟨rfl, rfl⟩
              go_wp2_with fail
              all_goals
                go_ret2
                refine HF.out _ (GD.out _) (G5.out.drewN _) ST.out _ ⟨_, rfl, ?_⟩
                symm
                first | (apply decide_eq_true; omega) | (apply decide_eq_false; omega)
            · go_wp2_with fail
              refine (begins_any (x * 10 + d) lo hi _ (by omega) (by omega) h2 h3 h4 h5).mono ?_
              rw [D2.out]
              rintro e w' ⟨rfl, rfl⟩
              go_wp2_with fail
              all_goals
                go_ret2
                refine HF.out _ (GD.out _) (G5.out.drewN _) ST.out _ ⟨_, rfl, ?_⟩
                symm
                first | (apply decide_eq_true; omega) | (apply decide_eq_false; omega)
          | true =>
            have HB : Hid (x * 10 + Pu.digit (src s) (i + k) ≤ hi) := Pu.begins_le d2 (by omega) h4
            have HN : Hid (NumRel s lo hi i (k + 1) (x * 10 + Pu.digit (src s) (i + k))) := G6.out.next (by omega) d3 d1 d2
            have D2 := hide d2
            clear d2
            go_wp2_with fail
            go_quiet (fail)
            go_wp2_with fail
            refine (digit_any b s (i + k) _ (GD.out _)).mono ?_
            rintro e w' ⟨rfl, n, rfl⟩
            generalize Pu.digit (src s) (i + k) = d at *
            by_cases x0 : x = 0
            · subst x0
              have k0 : k = 0 := by omega
              subst k0
              rw [show (0 : Int) * 10 + d = d from by omega] at D2 HB HN
              go_wp2_with fail
              refine (begins_any d lo hi _ (by omega) (by omega) h2 h3 h4 h5).mono ?_
              rw [D2.out]
              rintro e w' ⟨rfl, rfl⟩
              go_wp2_with fail
              go_roundg (gk - 1)
              case measure => omega
              case rel => exact ⟨1, d, by omega, by omega, rfl, by omega, HB.out, (GD.out _).up2 hlt (by omega) (by omega), (G5.out.drewN _).setCell rfl _, HN.out⟩
            · go_wp2_with fail
              refine (begins_any (x * 10 + d) lo hi _ (by omega) (by omega) h2 h3 h4 h5).mono ?_
              rw [D2.out]
              rintro e w' ⟨rfl, rfl⟩
              go_wp2_with fail
              all_goals
                go_roundg (gk - 1)
                case measure => omega
                case rel => exact ⟨k + 1, x * 10 + d, by omega, by omega, rfl, by omega, HB.out, (GD.out _).up2 hlt (by omega) (by omega), (G5.out.drewN _).setCell rfl _, HN.out⟩
    · have ST : Hid (Pu.numStep lo hi (decide (0 < k), x) (Pu.digit (src s) (i + k)) = none) := num_stop1 (by rw [Pu.digit_end (src_ge hlt)]; omega)
      go_wp2_with fail
      go_quiet (fail)
      go_wp2_with fail
      all_goals
        go_ret2
        refine HF.out _ (GD.out _) (G5.out.drewN _) ST.out _ ⟨_, rfl, ?_⟩
        symm
        first | (apply decide_eq_true; omega) | (apply decide_eq_false; omega)
end Go.Proofs.YthmhjjkmnnmjlaaGreatDoor
namespace Go.Proofs.YthmhjjkmnnmjlaaGreatDoor
open Go.RowKit
open Go.Proofs

theorem take_yes {b : Nat} {s : ByteArray} {i : Nat} {m : Int} {w : World} (h : RdAt w b s i) (hm : 0 ≤ m) (e : src s i = m) :
    Calls Tryz.prog 107 #[.pointer (some ⟨b, 0, none⟩), .int .u8 m] w fun e w' => e = .returned (.bool true) ∧ RdAt w' b s (i + 1) ∧ Kp (· = b) w w' :=
  take_any b s i m w h hm (i + 1) (some ()) (by unfold Hid Pu.take; rw [if_pos e])
theorem take_no {b : Nat} {s : ByteArray} {i : Nat} {m : Int} {w : World} (h : RdAt w b s i) (hm : 0 ≤ m) (e : ¬ src s i = m) :
    Calls Tryz.prog 107 #[.pointer (some ⟨b, 0, none⟩), .int .u8 m] w fun e w' => e = .returned (.bool false) ∧ RdAt w' b s i ∧ Kp (· = b) w w' :=
  take_any b s i m w h hm i none (by unfold Hid Pu.take; rw [if_neg e])
theorem opt_yes {s : ByteArray} {i : Nat} {m : Int} (e : src s i = m) : Pu.opt m (src s) i = (i + 1, some true) := by unfold Pu.opt; rw [if_pos e]
theorem opt_no {s : ByteArray} {i : Nat} {m : Int} (e : ¬ src s i = m) : Pu.opt m (src s) i = (i, some false) := by unfold Pu.opt; rw [if_neg e]

set_option maxHeartbeats 400000 in
theorem states_any (b : Nat) (s : ByteArray) (i : Nat) (w : World) (h : RdAt w b s i) (j : Nat) (o : Option Int) (hq : Hid (Pu.states (src s) i = (j, o))) :
    Calls Tryz.prog 120 #[.pointer (some ⟨b, 0, none⟩)] w fun e w' => NumRet e o ∧ RdAt w' b s j ∧ Kp (· = b) w w' := by
  by_cases e : src s i = 47
  · have hq' : Hid (Pu.number 3 9 (src s) (i + 1) = (j, o)) := by
      have := hq.out
      simp only [Pu.states, Pu.bnd, opt_yes e] at this
      exact this
    have E := hide e
    clear e hq
    go_enter Tryz.func120, Tryz.ntmps120
    go_wp2_with fail
    refine (take_yes h (by omega) E.out).mono ?_
    rintro e w1 ⟨rfl, r1, k1⟩
    go_wp2_with fail
    refine (number_any b s (i + 1) 3 9 _ r1 (by omega) (by omega) (by omega) (by omega) j o hq').mono ?_
    rintro e w2 ⟨⟨x, rfl, hx⟩, r2, k2⟩
    have HX := hide hx
    clear hx
    go_wp2_with fail
    go_ret2
    exact ⟨⟨x, rfl, HX.out⟩, r2, k1.trans k2⟩
  · have hq' : j = i ∧ o = some 2 := by
      have := hq.out
      simp only [Pu.states, Pu.bnd, opt_no e] at this
      exact ⟨(Prod.mk.inj this).1.symm, (Prod.mk.inj this).2.symm⟩
    obtain ⟨rfl, rfl⟩ := hq'
    have E := hide e
    clear e hq
    go_enter Tryz.func120, Tryz.ntmps120
    go_wp2_with fail
    refine (take_no h (by omega) E.out).mono ?_
    rintro e w1 ⟨rfl, r1, k1⟩
    go_wp2_with fail
    go_ret2
    exact ⟨⟨2, rfl, fun a ha => Option.some.inj ha⟩, r1, k1⟩

set_option maxHeartbeats 400000 in
theorem shift_any (b : Nat) (s : ByteArray) (i : Nat) (side : Int) (w : World) (h : RdAt w b s i) (s0 : 0 ≤ side) (s1 : side ≤ 12) (j : Nat) (o : Option Int) (hq : Hid (Pu.shift side (src s) i = (j, o))) :
    Calls Tryz.prog 133 #[.pointer (some ⟨b, 0, none⟩), .int .i64 side] w fun e w' => NumRet e o ∧ RdAt w' b s j ∧ Kp (· = b) w w' := by
  by_cases hs : side < 2
  · have hq' : j = i ∧ o = some 0 := by
      have := hq.out
      simp only [Pu.shift, if_pos hs] at this
      exact ⟨(Prod.mk.inj this).1.symm, (Prod.mk.inj this).2.symm⟩
    obtain ⟨rfl, rfl⟩ := hq'
    clear hq
    go_enter Tryz.func133, Tryz.ntmps133
    go_wp2_with fail
    go_ret2
    exact ⟨⟨0, rfl, fun a ha => Option.some.inj ha⟩, h, Kp.refl _ _⟩
  · by_cases e : src s i = 43
    · have hq' : Hid (Pu.number 1 (side - 1) (src s) (i + 1) = (j, o)) := by
        have := hq.out
        simp only [Pu.shift, if_neg hs, Pu.bnd, opt_yes e] at this
        exact this
      have E := hide e
      clear e hq
      go_enter Tryz.func133, Tryz.ntmps133
      go_wp2_with fail
      refine (take_yes h (by omega) E.out).mono ?_
      rintro e w1 ⟨rfl, r1, k1⟩
      go_wp2_with fail
      refine (number_any b s (i + 1) 1 (side - 1) _ r1 (by omega) (by omega) (by omega) (by omega) j o hq').mono ?_
      rintro e w2 ⟨⟨x, rfl, hx⟩, r2, k2⟩
      have HX := hide hx
      clear hx
      go_wp2_with fail
      go_ret2
      exact ⟨⟨x, rfl, HX.out⟩, r2, k1.trans k2⟩
    · have hq' : j = i ∧ o = some 0 := by
        have := hq.out
        simp only [Pu.shift, if_neg hs, Pu.bnd, opt_no e] at this
        exact ⟨(Prod.mk.inj this).1.symm, (Prod.mk.inj this).2.symm⟩
      obtain ⟨rfl, rfl⟩ := hq'
      have E := hide e
      clear e hq
      go_enter Tryz.func133, Tryz.ntmps133
      go_wp2_with fail
      refine (take_no h (by omega) E.out).mono ?_
      rintro e w1 ⟨rfl, r1, k1⟩
      go_wp2_with fail
      go_ret2
      exact ⟨⟨0, rfl, fun a ha => Option.some.inj ha⟩, r1, k1⟩

/-- What a number that is read lies between. -/
theorem number_bd {lo hi : Int} {f : Pu.Src} {i j : Nat} {a : Int} (h : Pu.number lo hi f i = (j, some a)) : lo ≤ a ∧ a ≤ hi := by
  unfold Pu.number Pu.bnd at h
  rcases e : Pu.many (Pu.numStep lo hi) 401 (false, 0) f i with ⟨j2, _ | v⟩
  · simp [e] at h
  · simp only [e] at h
    by_cases c : v.1 = true ∧ lo ≤ v.2 ∧ v.2 ≤ hi
    · rw [if_pos c] at h
      have := Option.some.inj (Prod.mk.inj h).2
      omega
    · rw [if_neg c] at h
      simp at h

theorem neg_bd {x : Int} (h : -10000000 ≤ x ∧ x ≤ 10000000) : wrap64 (-x) = -x := by unfold wrap64; omega

set_option maxHeartbeats 400000 in
theorem signed_any (b : Nat) (s : ByteArray) (i : Nat) (w : World) (h : RdAt w b s i) (j : Nat) (o : Option Int) (hq : Hid (Pu.signed 9999 (src s) i = (j, o))) :
    Calls Tryz.prog 110 #[.pointer (some ⟨b, 0, none⟩), .int .i64 9999] w fun e w' => NumRet e o ∧ RdAt w' b s j ∧ Kp (· = b) w w' := by
  by_cases e : src s i = 45
  · rcases hn : Pu.number 1 9999 (src s) (i + 1) with ⟨j2, o2⟩
    have hq' : j = j2 ∧ o = o2.map (fun v => -v) := by
      have := hq.out
      simp only [Pu.signed, Pu.bnd, opt_yes e, if_true, hn] at this
      cases o2 with
      | none => exact ⟨(Prod.mk.inj this).1.symm, (Prod.mk.inj this).2.symm⟩
      | some v => exact ⟨(Prod.mk.inj this).1.symm, (Prod.mk.inj this).2.symm⟩
    obtain ⟨rfl, rfl⟩ := hq'
    have HN := hide hn
    have E := hide e
    clear e hq hn
    go_enter Tryz.func110, Tryz.ntmps110
    go_wp2_with fail
    refine (take_yes h (by omega) E.out).mono ?_
    rintro e w1 ⟨rfl, r1, k1⟩
    go_wp2_with fail
    refine (number_any b s (i + 1) 1 9999 _ r1 (by omega) (by omega) (by omega) (by omega) j o2 HN).mono ?_
    rintro e w2 ⟨⟨x, rfl, hx⟩, r2, k2⟩
    have HX := hide hx
    clear hx
    go_wp2_with fail
    go_ret2
    refine ⟨⟨wrap64 (-x), ?_, ?_⟩, r2, k1.trans k2⟩
    · cases o2 <;> rfl
    · intro a ha
      cases o2 with
      | none => simp at ha
      | some v =>
        have e1 := HX.out v rfl
        have e2 := number_bd HN.out
        have e3 : -v = a := Option.some.inj ha
        rw [neg_bd (by omega)]
        omega
  · have hq' : Hid (Pu.number 0 9999 (src s) i = (j, o)) := by
      have := hq.out
      simp only [Pu.signed, Pu.bnd, opt_no e] at this
      exact this
    have E := hide e
    clear e hq
    go_enter Tryz.func110, Tryz.ntmps110
    go_wp2_with fail
    refine (take_no h (by omega) E.out).mono ?_
    rintro e w1 ⟨rfl, r1, k1⟩
    go_wp2_with fail
    refine (number_any b s i 0 9999 _ r1 (by omega) (by omega) (by omega) (by omega) j o hq').mono ?_
    rintro e w2 ⟨⟨x, rfl, hx⟩, r2, k2⟩
    have HX := hide hx
    clear hx
    go_wp2_with fail
    go_ret2
    exact ⟨⟨x, rfl, HX.out⟩, r2, k1.trans k2⟩
end Go.Proofs.YthmhjjkmnnmjlaaGreatDoor
namespace Go.Proofs.YthmhjjkmnnmjlaaGreatDoor
open Go.RowKit
open Go.Proofs

set_option maxHeartbeats 400000 in
theorem neighbours_any (a : Int) (w : World) (_h0 : 0 ≤ a) (_h1 : a ≤ 255) : Calls Tryz.prog 118 #[.int .u8 a] w fun e w' => e = .returned (.int .i64 (Pu.neighbours a)) ∧ w' = w := by
  unfold Pu.neighbours
  by_cases h1 : a = 77
  · subst h1
    go_enter Tryz.func118, Tryz.ntmps118
    go_wp2
    go_ret
    exact ⟨rfl, rfl⟩
  · rw [if_neg h1]
    have b1 : (a == 77) = false := by simpa using h1
    clear h1
    by_cases h2 : a = 86
    · subst h2
      go_enter Tryz.func118, Tryz.ntmps118
      go_wp2
      go_ret
      exact ⟨rfl, rfl⟩
    · rw [if_neg h2]
      have b2 : (a == 86) = false := by simpa using h2
      clear h2
      by_cases h3 : a = 72
      · subst h3
        go_enter Tryz.func118, Tryz.ntmps118
        go_wp2
        go_ret
        exact ⟨rfl, rfl⟩
      · rw [if_neg h3]
        have b3 : (a == 72) = false := by simpa using h3
        clear h3
        go_enter Tryz.func118, Tryz.ntmps118
        go_wp2
        go_ret
        exact ⟨rfl, rfl⟩

set_option maxHeartbeats 400000 in
theorem leastSide_any (a : Int) (w : World) (_h0 : 0 ≤ a) (_h1 : a ≤ 255) : Calls Tryz.prog 132 #[.int .u8 a] w fun e w' => e = .returned (.int .i64 (Pu.leastSide a)) ∧ w' = w := by
  unfold Pu.leastSide
  by_cases h1 : a = 80
  · subst h1
    go_enter Tryz.func132, Tryz.ntmps132
    go_wp2
    go_ret
    exact ⟨rfl, rfl⟩
  · have b1 : (a == 80) = false := by simpa using h1
    by_cases h2 : a = 84
    · subst h2
      go_enter Tryz.func132, Tryz.ntmps132
      go_wp2
      go_ret
      exact ⟨rfl, rfl⟩
    · rw [if_neg (by omega)]
      have b2 : (a == 84) = false := by simpa using h2
      clear h1 h2
      go_enter Tryz.func132, Tryz.ntmps132
      go_wp2
      go_ret
      exact ⟨rfl, rfl⟩

set_option maxHeartbeats 400000 in
theorem stateLetter_any (a : Int) (w : World) (h0 : 0 ≤ a) (h1 : a ≤ 8) : Calls Tryz.prog 114 #[.int .i64 a] w fun e w' => e = .returned (.int .u8 (Pu.stateLetter a)) ∧ w' = w := by
  unfold Pu.stateLetter
  by_cases h2 : a = 0
  · subst h2
    go_enter Tryz.func114, Tryz.ntmps114
    go_wp2
    go_ret
    exact ⟨rfl, rfl⟩
  · rw [if_neg (by omega)]
    have h3 : 1 ≤ a := by omega
    clear h2
    go_enter Tryz.func114, Tryz.ntmps114
    go_wp2
    go_ret
    exact ⟨ret_int (by omega), rfl⟩

/-- The bytes of a text of letters. -/
def lets (L : ByteArray) : List Int := L.data.toList.map fun c => (c.toNat : Int)
theorem mem_lets {L : ByteArray} {k : Nat} (h : k < L.size) : (L[k].toNat : Int) ∈ lets L := by
  unfold lets
  rw [List.mem_map]
  exact ⟨L[k], List.getElem_mem (l := L.data.toList) (by simpa using h), rfl⟩
theorem lets_mem {L : ByteArray} {x : Int} (h : x ∈ lets L) : ∃ k, ∃ h : k < L.size, x = (L[k].toNat : Int) := by
  unfold lets at h
  rw [List.mem_map] at h
  obtain ⟨c, hc, rfl⟩ := h
  obtain ⟨k, hk, rfl⟩ := List.getElem_of_mem hc
  exact ⟨k, by simpa using hk, rfl⟩

/-- What a call that reads a letter hands back. -/
def LetRet (e : Ending) (o : Option Int) : Prop := ∃ x : Int, e = .returned (.tuple #[.int .u8 x, .bool o.isSome]) ∧ ∀ a, o = some a → x = a

set_option maxHeartbeats 400000 in
theorem letter_any (b : Nat) (s : ByteArray) (i : Nat) (L : ByteArray) (w : World) (h : RdAt w b s i) (hL : L.size ≤ 100) (j : Nat) (o : Option Int) (hq : Hid (Pu.letter (lets L) (src s) i = (j, o))) :
    Calls Tryz.prog 117 #[.pointer (some ⟨b, 0, none⟩), .string L] w fun e w' => LetRet e o ∧ RdAt w' b s j ∧ Kp (· = b) w w' := by
  have H0 := hide h
  clear h
  go_enter Tryz.func117, Tryz.ntmps117
  go_wp2
  go_loopg [6] L.size (fun gk v wr => ∃ k : Nat, k ≤ L.size ∧ L.size ≤ k + gk ∧ v = .int .i64 k ∧ RdAt wr b s i ∧ Kp (· = b) w wr ∧ ∀ q, (hq : q < L.size) → q < k → src s i ≠ (L[q].toNat : Int))
  case atStart => exact ⟨0, Nat.zero_le _, by omega, rfl, H0.out, Kp.refl _ _, fun q _ h => absurd h (Nat.not_lt_zero _)⟩
  case round =>
    obtain ⟨k, g1, g2, rfl, g4, g5, g6⟩ := hrel
    have G4 := hide g4
    have G5 := hide g5
    have G6 := hide g6
    clear g4 g5 g6
    by_cases hlt : k < L.size
    · have hb : (L[k].toNat : Int) < 256 := by have := L[k].toNat_lt; omega
      by_cases e : src s i = (L[k].toNat : Int)
      · have hq' : j = i + 1 ∧ o = some (L[k].toNat : Int) := by
          have := hq.out
          unfold Pu.letter at this
          rw [if_pos (by rw [e]; exact mem_lets hlt), e] at this
          exact ⟨(Prod.mk.inj this).1.symm, (Prod.mk.inj this).2.symm⟩
        obtain ⟨rfl, rfl⟩ := hq'
        have E := hide e
        clear e hq
        go_wp2_with fail
        refine (take_yes G4.out (by omega) E.out).mono ?_
        rintro e w1 ⟨rfl, r1, k1⟩
        go_wp2_with fail
        go_ret2
        exact ⟨⟨_, rfl, fun a ha => Option.some.inj ha⟩, r1, G5.out.trans k1⟩
      · have E := hide e
        have HN : Hid (∀ q, (hq : q < L.size) → q < k + 1 → src s i ≠ (L[q].toNat : Int)) := by
          intro q hq2 hk
          by_cases eq : q = k
          · subst eq; exact e
          · exact G6.out q hq2 (by omega)
        clear e
        go_wp2_with fail
        refine (take_no G4.out (by omega) E.out).mono ?_
        rintro e w1 ⟨rfl, r1, k1⟩
        go_wp2_with fail
        go_roundg (gk - 1)
        case measure => omega
        case rel => exact ⟨k + 1, by omega, by omega, by go_num, r1, G5.out.trans k1, HN.out⟩
    · have hq' : j = i ∧ o = none := by
        have := hq.out
        unfold Pu.letter at this
        rw [if_neg (fun hc => by obtain ⟨q, hq2, hx⟩ := lets_mem hc; exact G6.out q hq2 (by omega) hx)] at this
        exact ⟨(Prod.mk.inj this).1.symm, (Prod.mk.inj this).2.symm⟩
      obtain ⟨rfl, rfl⟩ := hq'
      clear hq
      go_wp2_with fail
      go_ret2
      exact ⟨⟨_, rfl, fun a ha => by simp at ha⟩, G4.out, G5.out⟩

theorem stateLetter_val {k : Nat} (h : k < 9) : (if Pu.stateLetter k = 46 then (0 : Int) else Pu.stateLetter k - 64) = k := by
  unfold Pu.stateLetter
  by_cases h0 : k = 0
  · subst h0; rfl
  · rw [if_neg (by omega), if_neg (by omega)]; omega
theorem mem_letters {c : Int} {k : Nat} (h : (k : Int) < c) : Pu.stateLetter k ∈ Pu.letters c := by
  unfold Pu.letters
  rw [List.mem_map]
  exact ⟨k, List.mem_range.2 (by omega), rfl⟩
theorem letters_mem {c x : Int} (h : x ∈ Pu.letters c) : ∃ k : Nat, (k : Int) < c ∧ x = Pu.stateLetter k := by
  unfold Pu.letters at h
  rw [List.mem_map] at h
  obtain ⟨k, hk, rfl⟩ := h
  exact ⟨k, by have := List.mem_range.1 hk; omega, rfl⟩
theorem stateLetter_bd (a : Int) (h0 : 0 ≤ a) (h1 : a ≤ 8) : 0 ≤ Pu.stateLetter a ∧ Pu.stateLetter a < 256 := by unfold Pu.stateLetter; split <;> omega

set_option maxHeartbeats 400000 in
theorem state_any (b : Nat) (s : ByteArray) (i : Nat) (c : Int) (w : World) (h : RdAt w b s i) (c0 : 0 ≤ c) (c9 : c ≤ 9) (j : Nat) (o : Option Int) (hq : Hid (Pu.state c (src s) i = (j, o))) :
    Calls Tryz.prog 126 #[.pointer (some ⟨b, 0, none⟩), .int .i64 c] w fun e w' => NumRet e o ∧ RdAt w' b s j ∧ Kp (· = b) w w' := by
  have H0 := hide h
  clear h
  go_enter Tryz.func126, Tryz.ntmps126
  go_wp2
  go_loopg [6] c.toNat (fun gk v wr => ∃ k : Nat, (k : Int) ≤ c ∧ c ≤ k + gk ∧ v = .int .i64 k ∧ RdAt wr b s i ∧ Kp (· = b) w wr ∧ ∀ q : Nat, q < k → src s i ≠ Pu.stateLetter q)
  case atStart => exact ⟨0, by omega, by omega, rfl, H0.out, Kp.refl _ _, fun q h => absurd h (Nat.not_lt_zero _)⟩
  case round =>
    obtain ⟨k, g1, g2, rfl, g4, g5, g6⟩ := hrel
    have G4 := hide g4
    have G5 := hide g5
    have G6 := hide g6
    clear g4 g5 g6
    by_cases hlt : (k : Int) < c
    · have hb := stateLetter_bd k (by omega) (by omega)
      by_cases e : src s i = Pu.stateLetter k
      · have hq' : j = i + 1 ∧ o = some (k : Int) := by
          have := hq.out
          unfold Pu.state Pu.bnd Pu.letter at this
          rw [if_pos (by rw [e]; exact mem_letters hlt), e] at this
          simp only [Pu.ret, stateLetter_val (show k < 9 by omega)] at this
          exact ⟨(Prod.mk.inj this).1.symm, (Prod.mk.inj this).2.symm⟩
        obtain ⟨rfl, rfl⟩ := hq'
        have E := hide e
        clear e hq
        go_wp2_with fail
        refine (stateLetter_any k _ (by omega) (by omega)).mono ?_
        rintro e w1 ⟨rfl, rfl⟩
        go_wp2_with fail
        refine (take_yes G4.out (by omega) E.out).mono ?_
        rintro e w1 ⟨rfl, r1, k1⟩
        go_wp2_with fail
        go_ret2
        exact ⟨⟨_, rfl, fun a ha => Option.some.inj ha⟩, r1, G5.out.trans k1⟩
      · have E := hide e
        have HN : Hid (∀ q : Nat, q < k + 1 → src s i ≠ Pu.stateLetter q) := by
          intro q hk
          by_cases eq : q = k
          · subst eq; exact e
          · exact G6.out q (by omega)
        clear e
        go_wp2_with fail
        refine (stateLetter_any k _ (by omega) (by omega)).mono ?_
        rintro e w1 ⟨rfl, rfl⟩
        go_wp2_with fail
        refine (take_no G4.out (by omega) E.out).mono ?_
        rintro e w1 ⟨rfl, r1, k1⟩
        go_wp2_with fail
        go_roundg (gk - 1)
        case measure => omega
        case rel => exact ⟨k + 1, by omega, by omega, by go_num, r1, G5.out.trans k1, HN.out⟩
    · have hq' : j = i ∧ o = none := by
        have := hq.out
        unfold Pu.state Pu.bnd Pu.letter at this
        rw [if_neg (fun hc => by obtain ⟨q, hq2, hx⟩ := letters_mem hc; exact G6.out q (by omega) hx)] at this
        exact ⟨(Prod.mk.inj this).1.symm, (Prod.mk.inj this).2.symm⟩
      obtain ⟨rfl, rfl⟩ := hq'
      clear hq
      go_wp2_with fail
      go_ret2
      exact ⟨⟨_, rfl, fun a ha => by simp at ha⟩, G4.out, G5.out⟩
end Go.Proofs.YthmhjjkmnnmjlaaGreatDoor
