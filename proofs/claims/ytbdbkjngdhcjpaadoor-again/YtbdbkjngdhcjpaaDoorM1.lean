import Derived.Test.YtbdbkjngdhcjpaaDoorProg
import Derived.Test.YtbdbkjngdhcjpaaDoorPure
import Derived.WalkKit
import Derived.WalkSpells
import Derived.Deep.QuietTactic
import Derived.BigQuiet
import Derived.Laws.Rows
import Derived.Deep.LoopGhost
namespace Go.Proofs.YtbdbkjngdhcjpaaDoor
open Go.RowKit
open Go.Proofs

theorem hide {p : Prop} (h : p) : Hid p := h

/-- A text as numbers. -/
def src (s : ByteArray) (i : Nat) : Int := if h : i < s.size then (s[i].toNat : Int) else -1
theorem src_lt {s : ByteArray} {i : Nat} (h : i < s.size) : src s i = (s[i].toNat : Int) := by unfold src; rw [dif_pos h]
theorem src_ge {s : ByteArray} {i : Nat} (h : ¬ i < s.size) : src s i = -1 := by unfold src; rw [dif_neg h]

/-- The reader at block b: its text and how far it is. -/
structure RdAt (w : World) (b : Nat) (s : ByteArray) (i : Nat) : Prop where
  row : w.heap[b]? = some (.cells #[.string s, .int .i64 i] 111 (0, 0))
  le : i ≤ s.size
  few : s.size ≤ 400
theorem RdAt.c0 {w : World} {b : Nat} {s : ByteArray} {i : Nat} (h : RdAt w b s i) : w.cell? ⟨b, 0, none⟩ = some (.string s) := by
  rw [cell_of_row w b 0 _ _ _ h.row]; rfl
theorem RdAt.c1 {w : World} {b : Nat} {s : ByteArray} {i : Nat} (h : RdAt w b s i) : w.cell? ⟨b, 1, none⟩ = some (.int .i64 i) := by
  rw [cell_of_row w b 1 _ _ _ h.row]; rfl
theorem RdAt.f1 {w : World} {b : Nat} {s : ByteArray} {i : Nat} (h : RdAt w b s i) : w.frozen? ⟨b, 1, none⟩ = false := frozen_of_row w b 1 _ _ h.row
theorem RdAt.lt {w : World} {b : Nat} {s : ByteArray} {i : Nat} (h : RdAt w b s i) : b < w.heap.size := block_lt_of_cell h.c0
theorem RdAt.set {w : World} {b : Nat} {s : ByteArray} {i : Nat} (h : RdAt w b s i) (j : Nat) (hj : j ≤ s.size) : RdAt (w.setCell ⟨b, 1, none⟩ (.int .i64 j)) b s j := by
  refine ⟨?_, hj, h.few⟩
  rw [heap_setCell_same w b 1 _ _ _ h.row]
  rfl
theorem RdAt.up {w : World} {b : Nat} {s : ByteArray} {i : Nat} (h : RdAt w b s i) (hj : i < s.size) : RdAt (w.setCell ⟨b, 1, none⟩ (.int .i64 ((i : Int) + 1))) b s (i + 1) := h.set (i + 1) hj
theorem RdAt.up2 {w : World} {b : Nat} {s : ByteArray} {i : Nat} (h : RdAt w b s i) (hj : i < s.size) {z : Int} (hz : z = (i : Int) + 1) {k : Nat} (hk : k = i + 1) : RdAt (w.setCell ⟨b, 1, none⟩ (.int .i64 z)) b s k := by
  subst hz; subst hk; exact h.up hj
theorem RdAt.drewN {w : World} {b : Nat} {s : ByteArray} {i : Nat} (h : RdAt w b s i) (n : Nat) : RdAt (w.drewN n) b s i := ⟨h.row, h.le, h.few⟩

/-- Nothing old is turned but in the blocks of S. -/
structure Kp (S : Nat → Prop) (w w' : World) : Prop where
  os : w'.os = w.os
  tape : w'.tape = w.tape
  output : w'.output = w.output
  size : w.heap.size ≤ w'.heap.size
  block : ∀ k, k < w.heap.size → ¬ S k → w'.heap[k]? = w.heap[k]?
theorem Kp.refl (S : Nat → Prop) (w : World) : Kp S w w := ⟨rfl, rfl, rfl, Nat.le_refl _, fun _ _ _ => rfl⟩
theorem Kp.trans {S : Nat → Prop} {a b c : World} (h : Kp S a b) (k : Kp S b c) : Kp S a c :=
  ⟨k.os.trans h.os, k.tape.trans h.tape, k.output.trans h.output, Nat.le_trans h.size k.size, fun i hi hn => (k.block i (Nat.lt_of_lt_of_le hi h.size) hn).trans (h.block i hi hn)⟩
theorem Kp.mono {S T : Nat → Prop} {a b : World} (h : Kp S a b) (hs : ∀ k, S k → T k) : Kp T a b :=
  ⟨h.os, h.tape, h.output, h.size, fun i hi hn => h.block i hi fun x => hn (hs i x)⟩
theorem Kp.drewN {S : Nat → Prop} {a w : World} (h : Kp S a w) (n : Nat) : Kp S a (w.drewN n) := ⟨h.os, h.tape, h.output, h.size, h.block⟩
theorem Kp.setCell {S : Nat → Prop} {a w : World} (h : Kp S a w) {p : Addr} (hp : S p.block) (u : Value) : Kp S a (w.setCell p u) :=
  h.trans ⟨rfl, rfl, rfl, by simp [World.setCell], fun k _ hn => Below.heap_setCell _ _ _ _ (fun e => hn (by rw [e]; exact hp))⟩

theorem ret_bool {a b : Bool} (h : a = b) : Ending.returned (.bool a) = .returned (.bool b) := by rw [h]
theorem ret_int {k : IntKind} {a b : Int} (h : a = b) : Ending.returned (.int k a) = .returned (.int k b) := by rw [h]

set_option maxHeartbeats 400000 in
theorem sees_any (b : Nat) (s : ByteArray) (i : Nat) (m : Int) (w : World) (h : RdAt w b s i) (hm : 0 ≤ m) :
    Calls Tryd.prog 108 #[.pointer (some ⟨b, 0, none⟩), .int .u8 m] w fun e w' => e = .returned (.bool (decide (src s i = m))) ∧ ∃ n, w' = w.drewN n := by
  have c0 := h.c0
  have c1 := h.c1
  have hs := h.few
  clear h
  by_cases hi : i < s.size
  · rw [src_lt hi]
    go_enter Tryd.func108, Tryd.ntmps108
    go_wp2
    go_quiet (fail)
    go_wp2
    go_ret
    exact ⟨ret_bool (by rw [Bool.eq_iff_iff]; simp), _, rfl⟩
  · rw [src_ge hi]
    go_enter Tryd.func108, Tryd.ntmps108
    go_wp2
    go_quiet (fail)
    go_wp2
    go_ret
    exact ⟨ret_bool (by symm; simp; omega), _, rfl⟩

set_option maxHeartbeats 400000 in
theorem take_any (b : Nat) (s : ByteArray) (i : Nat) (m : Int) (w : World) (h : RdAt w b s i) (hm : 0 ≤ m) (j : Nat) (o : Option Unit) (hq : Hid (Pu.take m (src s) i = (j, o))) :
    Calls Tryd.prog 93 #[.pointer (some ⟨b, 0, none⟩), .int .u8 m] w fun e w' => e = .returned (.bool o.isSome) ∧ RdAt w' b s j ∧ Kp (· = b) w w' := by
  have hq' := hq.out
  clear hq
  unfold Pu.take at hq'
  have c1 := h.c1
  have hs := h.few
  have f1 := h.f1
  by_cases hi : src s i = m
  · rw [if_pos hi] at hq'
    obtain ⟨rfl, rfl⟩ := Prod.mk.inj hq'
    clear hq'
    have hlt : i < s.size := by
      by_cases hlt : i < s.size
      · exact hlt
      · rw [src_ge hlt] at hi; omega
    have hd : decide (src s i = m) = true := by simpa using hi
    have HR : Hid (RdAt w b s i) := h
    have hc := sees_any b s i m w h hm
    rw [hd] at hc
    clear h hi hd
    go_enter Tryd.func93, Tryd.ntmps93
    go_wp2_with fail
    refine hc.mono ?_
    clear hc
    rintro e w' ⟨rfl, n, rfl⟩
    go_wp2_with fail
    go_ret
    refine ⟨rfl, ?_, ?_⟩
    · exact (HR.out.drewN n).up hlt
    · exact ((Kp.refl (· = b) w).drewN n).setCell (p := ⟨b, 1, none⟩) rfl _
  · rw [if_neg hi] at hq'
    obtain ⟨rfl, rfl⟩ := Prod.mk.inj hq'
    clear hq'
    have hd : decide (src s i = m) = false := by simpa using hi
    have HR : Hid (RdAt w b s i) := h
    have hc := sees_any b s i m w h hm
    rw [hd] at hc
    clear h hi hd
    go_enter Tryd.func93, Tryd.ntmps93
    go_wp2_with fail
    refine hc.mono ?_
    clear hc
    rintro e w' ⟨rfl, n, rfl⟩
    go_wp2_with fail
    go_ret
    exact ⟨rfl, HR.out.drewN n, (Kp.refl _ _).drewN _⟩

set_option maxRecDepth 100000 in
set_option maxHeartbeats 400000 in
theorem digit_any (b : Nat) (s : ByteArray) (i : Nat) (w : World) (h : RdAt w b s i) :
    Calls Tryd.prog 111 #[.pointer (some ⟨b, 0, none⟩)] w fun e w' => e = .returned (.int .i64 (Pu.digit (src s) i)) ∧ ∃ n, w' = w.drewN n := by
  have c0 := h.c0
  have c1 := h.c1
  have hs := h.few
  clear h
  by_cases hi : i < s.size
  · have hb : (s[i].toNat : Int) < 256 := by have := s[i].toNat_lt; omega
    have h0 : 0 ≤ (s[i].toNat : Int) := by omega
    have hd : Pu.digit (src s) i = if 48 ≤ (s[i].toNat : Int) ∧ (s[i].toNat : Int) ≤ 57 then (s[i].toNat : Int) - 48 else -1 := by unfold Pu.digit; rw [src_lt hi]
    by_cases h1 : 48 ≤ (s[i].toNat : Int) ∧ (s[i].toNat : Int) ≤ 57
    · rw [if_pos h1] at hd
      rw [hd]
      obtain ⟨h2, h3⟩ := h1
      clear hd
      go_enter Tryd.func111, Tryd.ntmps111
      go_wp2
      go_quiet (fail)
      go_wp2
      go_quiet (fail)
      go_wp2
      go_ret
      exact ⟨ret_int (by omega), _, rfl⟩
    · rw [if_neg h1] at hd
      rw [hd]
      clear hd
      by_cases h2 : (s[i].toNat : Int) < 48
      · clear h1
        go_enter Tryd.func111, Tryd.ntmps111
        go_wp2
        go_quiet (fail)
        go_wp2
        go_quiet (fail)
        go_wp2
        go_ret
        exact ⟨rfl, _, rfl⟩
      · have h3 : 57 < (s[i].toNat : Int) := by omega
        clear h1
        go_enter Tryd.func111, Tryd.ntmps111
        go_wp2
        go_quiet (fail)
        go_wp2
        go_quiet (fail)
        go_wp2
        go_ret
        exact ⟨rfl, _, rfl⟩
  · have hd : Pu.digit (src s) i = -1 := Pu.digit_end (src_ge hi)
    rw [hd]
    clear hd
    go_enter Tryd.func111, Tryd.ntmps111
    go_wp2
    go_quiet (fail)
    go_wp2
    go_ret
    exact ⟨rfl, _, rfl⟩
end Go.Proofs.YtbdbkjngdhcjpaaDoor
namespace Go.Proofs.YtbdbkjngdhcjpaaDoor
open Go.RowKit
open Go.Proofs

set_option maxHeartbeats 400000 in
theorem begins_any (v lo hi : Int) (w : World) (h0 : 0 ≤ v) (h1 : v ≤ 9999999) (h2 : 0 ≤ lo) (h3 : lo ≤ 999999) (h4 : 0 ≤ hi) (h5 : hi ≤ 999999) :
    Calls Tryd.prog 112 #[.int .i64 v, .int .i64 lo, .int .i64 hi] w fun e w' => e = .returned (.bool (Pu.begins v lo hi)) ∧ w' = w := by
  by_cases hv : v = 0
  · subst hv
    go_enter Tryd.func112, Tryd.ntmps112
    go_wp2
    go_ret
    exact ⟨ret_bool (by unfold Pu.begins; rw [if_pos rfl, Bool.eq_iff_iff]; simp), rfl⟩
  · have hb : (v == 0) = false := by simpa using hv
    have HE : Hid (Pu.begins v lo hi = Pu.bgS lo hi v v) := by unfold Hid Pu.begins; rw [if_neg hv]
    rw [HE.out]
    clear HE
    go_enter Tryd.func112, Tryd.ntmps112
    go_wp2
    go_loop [7, 8] (fun l a => ∃ x y : Int, l = .int .i64 x ∧ a = .int .i64 y ∧ 1 ≤ y ∧ y ≤ 9999999 ∧ 0 ≤ x ∧ x ≤ 10000000 ∧ Pu.bgS lo hi y x = Pu.bgS lo hi v v) (fun _ a => (hi + 1 - intOf a).toNat)
    case atStart => exact ⟨v, v, rfl, rfl, by omega, by omega, by omega, by omega, rfl⟩
    case round =>
      obtain ⟨x, y, rfl, rfl, g1, g2, g3, g4, g5⟩ := hrel
      have G : Hid (Pu.bgS lo hi y x = Pu.bgS lo hi v v) := g5
      have E : Hid (Pu.bgS lo hi y x = if y ≤ hi then (if lo ≤ x then true else Pu.bgS lo hi (y * 10) (x * 10 + 9)) else false) := Pu.bgS_eq lo hi y x g1
      clear g5
      by_cases k1 : y ≤ hi
      · by_cases k2 : lo ≤ x
        · go_wp2
          go_ret
          refine ⟨ret_bool ?_, rfl⟩
          rw [← G.out, E.out, if_pos k1, if_pos k2]
        · go_wp2
          go_round
          case rel => exact ⟨x * 10 + 9, y * 10, rfl, rfl, by omega, by omega, by omega, by omega, by rw [← G.out, E.out, if_pos k1, if_neg k2]⟩
          case measure => simp [intOf]; omega
      · go_wp2
        go_ret
        refine ⟨ret_bool ?_, rfl⟩
        rw [← G.out, E.out, if_neg (by omega)]

theorem many_stop {σ : Type} {step : σ → Int → Option σ} {f : Pu.Src} {n i : Nat} {v : σ} (h : step v (Pu.digit f i) = none) : Pu.many step n v f i = (i, some v) := by
  cases n with
  | zero => rfl
  | succ n => unfold Pu.many; rw [h]
theorem many_go {σ : Type} {step : σ → Int → Option σ} {f : Pu.Src} {n i : Nat} {v v' : σ} (h : step v (Pu.digit f i) = some v') : Pu.many step (n + 1) v f i = Pu.many step n v' f (i + 1) := by
  conv => lhs; unfold Pu.many
  rw [h]

/-- What number has done behind k digits. -/
def NumRel (s : ByteArray) (lo hi : Int) (i k : Nat) (x : Int) : Prop :=
  Pu.many (Pu.numStep lo hi) 401 (false, 0) (src s) i = Pu.many (Pu.numStep lo hi) (401 - k) (decide (0 < k), x) (src s) (i + k)
theorem NumRel.done {s : ByteArray} {lo hi : Int} {i k : Nat} {x : Int} (h : NumRel s lo hi i k x) {j : Nat} {o : Option Int} (hq : Pu.number lo hi (src s) i = (j, o))
    (hst : Pu.numStep lo hi (decide (0 < k), x) (Pu.digit (src s) (i + k)) = none) : j = i + k ∧ o = if 0 < k ∧ lo ≤ x ∧ x ≤ hi then some x else none := by
  unfold NumRel at h
  rw [many_stop hst] at h
  unfold Pu.number Pu.bnd at hq
  rw [h] at hq
  simp at hq
  exact ⟨hq.1.symm, hq.2.symm⟩
theorem NumRel.next {s : ByteArray} {lo hi : Int} {i k : Nat} {x : Int} (h : NumRel s lo hi i k x) (hk : k < 401) (h1 : 0 ≤ Pu.digit (src s) (i + k)) (h2 : ¬ (x = 0 ∧ 0 < k))
    (h3 : Pu.begins (x * 10 + Pu.digit (src s) (i + k)) lo hi = true) : NumRel s lo hi i (k + 1) (x * 10 + Pu.digit (src s) (i + k)) := by
  unfold NumRel at h ⊢
  rw [h]
  have e : 401 - k = (401 - (k + 1)) + 1 := by omega
  rw [e, many_go (v' := (true, x * 10 + Pu.digit (src s) (i + k)))]
  · simp; rfl
  · unfold Pu.numStep
    rw [if_neg]
    simp only [h3]
    simp
    refine ⟨h1, fun hx => ?_⟩
    omega
theorem num_stop1 {lo hi d x : Int} {k : Nat} (h : d < 0) : Pu.numStep lo hi (decide (0 < k), x) d = none := by unfold Pu.numStep; rw [if_pos (Or.inl h)]
theorem num_stop2 {lo hi d x : Int} {k : Nat} (h : x = 0) (h2 : 0 < k) : Pu.numStep lo hi (decide (0 < k), x) d = none := by unfold Pu.numStep; rw [if_pos (Or.inr (Or.inl ⟨h, by simpa using h2⟩))]
theorem num_stop3 {lo hi d x : Int} {k : Nat} (h : Pu.begins (x * 10 + d) lo hi = false) : Pu.numStep lo hi (decide (0 < k), x) d = none := by unfold Pu.numStep; rw [if_pos (Or.inr (Or.inr h))]

/-- What a call that reads a number hands back. -/
def NumRet (e : Ending) (o : Option Int) : Prop := ∃ x : Int, e = .returned (.tuple #[.int .i64 x, .bool o.isSome]) ∧ ∀ a, o = some a → x = a

set_option maxRecDepth 100000 in
set_option maxHeartbeats 1000000 in
theorem number_any (b : Nat) (s : ByteArray) (i : Nat) (lo hi : Int) (w : World) (h : RdAt w b s i) (h2 : 0 ≤ lo) (h3 : lo ≤ 999999) (h4 : 0 ≤ hi) (h5 : hi ≤ 999999) (j : Nat) (o : Option Int) (hq : Hid (Pu.number lo hi (src s) i = (j, o))) :
    Calls Tryd.prog 95 #[.pointer (some ⟨b, 0, none⟩), .int .i64 lo, .int .i64 hi] w fun e w' => NumRet e o ∧ RdAt w' b s j ∧ Kp (· = b) w w' := by
  have H0 : Hid (RdAt w b s i) := h
  have hs := h.few
  have hle := h.le
  have c1 := h.c1
  clear h
  go_enter Tryd.func95, Tryd.ntmps95
  go_wp2
  clear c1
  go_loopg [9] (s.size - i) (fun gk v wr => ∃ (k : Nat) (x : Int), i + k ≤ s.size ∧ s.size ≤ i + k + gk ∧ v = .int .i64 x ∧ 0 ≤ x ∧ x ≤ hi ∧ RdAt wr b s (i + k) ∧ Kp (· = b) w wr ∧ NumRel s lo hi i k x)
  case atStart => exact ⟨0, 0, hle, by omega, rfl, by omega, h4, H0.out, Kp.refl _ _, rfl⟩
  case round =>
    obtain ⟨k, x, g1, g1', rfl, g2, g3, g4, g5, g6⟩ := hrel
    have c0 := g4.c0
    have c1 := g4.c1
    have f1 := g4.f1
    have e1 : ((i + k : Nat) : Int) = (i : Int) + k := by omega
    rw [e1] at c1
    clear e1
    have G4 : Hid (RdAt wr b s (i + k)) := g4
    have G5 : Hid (Kp (· = b) w wr) := g5
    have G6 : Hid (NumRel s lo hi i k x) := g6
    clear g4 g5 g6
    have hdb := Pu.digit_bd (src s) (i + k)
    have hfin : ∀ a : World, RdAt a b s (i + k) → Kp (· = b) w a → Pu.numStep lo hi (decide (0 < k), x) (Pu.digit (src s) (i + k)) = none → ∀ e : Ending, (∃ y : Bool, e = .returned (.tuple #[.int .i64 x, .bool y]) ∧ y = decide (0 < k ∧ lo ≤ x ∧ x ≤ hi)) → NumRet e o ∧ RdAt a b s j ∧ Kp (· = b) w a := by
      rintro a ha hka hst e ⟨y, rfl, rfl⟩
      obtain ⟨rfl, rfl⟩ := G6.out.done hq.out hst
      refine ⟨⟨x, ?_, ?_⟩, ha, hka⟩
      · by_cases hc : 0 < k ∧ lo ≤ x ∧ x ≤ hi
        · rw [if_pos hc, decide_eq_true hc]; rfl
        · rw [if_neg hc, decide_eq_false hc]; rfl
      · intro a ha
        by_cases hc : 0 < k ∧ lo ≤ x ∧ x ≤ hi
        · rw [if_pos hc] at ha; exact Option.some.inj ha
        · rw [if_neg hc] at ha; simp at ha
    have HF := hide hfin
    clear hfin
    have GD : Hid (∀ n, RdAt (wr.drewN n) b s (i + k)) := fun n => G4.out.drewN n
    by_cases hlt : i + k < s.size
    · by_cases d0 : Pu.digit (src s) (i + k) < 0
      · have ST : Hid (Pu.numStep lo hi (decide (0 < k), x) (Pu.digit (src s) (i + k)) = none) := num_stop1 d0
        by_cases x0 : x = 0
        · subst x0
          go_wp2_with fail
          go_quiet (fail)
          go_wp2_with fail
          refine (digit_any b s (i + k) _ (GD.out _)).mono ?_
          rintro e w' ⟨rfl, n, rfl⟩
          generalize Pu.digit (src s) (i + k) = d at *
          go_wp2_with fail
          all_goals
            go_ret2
            refine HF.out _ (GD.out _) (G5.out.drewN _) ST.out _ ⟨_, rfl, ?_⟩
            symm
            first | (apply decide_eq_true; omega) | (apply decide_eq_false; omega)
        · have x1 : (x == 0) = false := by simpa using x0
          go_wp2_with fail
          go_quiet (fail)
          go_wp2_with fail
          refine (digit_any b s (i + k) _ (GD.out _)).mono ?_
          rintro e w' ⟨rfl, n, rfl⟩
          generalize Pu.digit (src s) (i + k) = d at *
          go_wp2_with fail
          all_goals
            go_ret2
            refine HF.out _ (GD.out _) (G5.out.drewN _) ST.out _ ⟨_, rfl, ?_⟩
            symm
            first | (apply decide_eq_true; omega) | (apply decide_eq_false; omega)
      · by_cases d1 : x = 0 ∧ 0 < k
        · have ST : Hid (Pu.numStep lo hi (decide (0 < k), x) (Pu.digit (src s) (i + k)) = none) := num_stop2 d1.1 d1.2
          obtain ⟨x0, k0⟩ := d1
          subst x0
          go_wp2_with fail
          go_quiet (fail)
          go_wp2_with fail
          refine (digit_any b s (i + k) _ (GD.out _)).mono ?_
          rintro e w' ⟨rfl, n, rfl⟩
          generalize Pu.digit (src s) (i + k) = d at *
          go_wp2_with fail
          all_goals
            go_ret2
            refine HF.out _ (GD.out _) (G5.out.drewN _) ST.out _ ⟨_, rfl, ?_⟩
            symm
            first | (apply decide_eq_true; omega) | (apply decide_eq_false; omega)
        · have d3 : 0 ≤ Pu.digit (src s) (i + k) := by omega
          cases d2 : Pu.begins (x * 10 + Pu.digit (src s) (i + k)) lo hi with
          | false =>
            have ST : Hid (Pu.numStep lo hi (decide (0 < k), x) (Pu.digit (src s) (i + k)) = none) := num_stop3 d2
            have D2 := hide d2
            clear d2
            go_wp2_with fail
            go_quiet (fail)
            go_wp2_with fail
            refine (digit_any b s (i + k) _ (GD.out _)).mono ?_
            rintro e w' ⟨rfl, n, rfl⟩
            generalize Pu.digit (src s) (i + k) = d at *
            by_cases x0 : x = 0
            · subst x0
              have k0 : k = 0 := by omega
              subst k0
              rw [show (0 : Int) * 10 + d = d from by omega] at D2
              go_wp2_with fail
              refine (begins_any d lo hi _ (by omega) (by omega) h2 h3 h4 h5).mono ?_
              rw [D2.out]
              rintro e w' ⟨rfl, rfl⟩
              go_wp2_with fail
              all_goals
                go_ret2
                refine HF.out _ (GD.out _) (G5.out.drewN _) ST.out _ ⟨_, rfl, ?_⟩
                symm
                first | (apply decide_eq_true; omega) | (apply decide_eq_false; omega)
            · go_wp2_with fail
              refine (begins_any (x * 10 + d) lo hi _ (by omega) (by omega) h2 h3 h4 h5).mono ?_
              rw [D2.out]
              rintro e w' ⟨rfl, rfl⟩
              go_wp2_with fail
              all_goals
                go_ret2
                refine HF.out _ (GD.out _) (G5.out.drewN _) ST.out _ ⟨_, rfl, ?_⟩
                symm
                first | (apply decide_eq_true; omega) | (apply decide_eq_false; omega)
          | true =>
            have HB : Hid (x * 10 + Pu.digit (src s) (i + k) ≤ hi) := Pu.begins_le d2 (by omega) h4
            have HN : Hid (NumRel s lo hi i (k + 1) (x * 10 + Pu.digit (src s) (i + k))) := G6.out.next (by omega) d3 d1 d2
            have D2 := hide d2
            clear d2
            go_wp2_with fail
            go_quiet (fail)
            go_wp2_with fail
            refine (digit_any b s (i + k) _ (GD.out _)).mono ?_
            rintro e w' ⟨rfl, n, rfl⟩
            generalize Pu.digit (src s) (i + k) = d at *
            by_cases x0 : x = 0
            · subst x0
              have k0 : k = 0 := by omega
              subst k0
              rw [show (0 : Int) * 10 + d = d from by omega] at D2 HB HN
              go_wp2_with fail
              refine (begins_any d lo hi _ (by omega) (by omega) h2 h3 h4 h5).mono ?_
              rw [D2.out]
              rintro e w' ⟨rfl, rfl⟩
              go_wp2_with fail
              go_roundg (gk - 1)
              case measure => omega
              case rel => exact ⟨1, d, by omega, by omega, rfl, by omega, HB.out, (GD.out _).up2 hlt (by omega) (by omega), (G5.out.drewN _).setCell rfl _, HN.out⟩
            · go_wp2_with fail
              refine (begins_any (x * 10 + d) lo hi _ (by omega) (by omega) h2 h3 h4 h5).mono ?_
              rw [D2.out]
              rintro e w' ⟨rfl, rfl⟩
              go_wp2_with fail
              all_goals
                go_roundg (gk - 1)
                case measure => omega
                case rel => exact ⟨k + 1, x * 10 + d, by omega, by omega, rfl, by omega, HB.out, (GD.out _).up2 hlt (by omega) (by omega), (G5.out.drewN _).setCell rfl _, HN.out⟩
    · have ST : Hid (Pu.numStep lo hi (decide (0 < k), x) (Pu.digit (src s) (i + k)) = none) := num_stop1 (by rw [Pu.digit_end (src_ge hlt)]; omega)
      go_wp2_with fail
      go_quiet (fail)
      go_wp2_with fail
      all_goals
        go_ret2
        refine HF.out _ (GD.out _) (G5.out.drewN _) ST.out _ ⟨_, rfl, ?_⟩
        symm
        first | (apply decide_eq_true; omega) | (apply decide_eq_false; omega)
end Go.Proofs.YtbdbkjngdhcjpaaDoor
