import Derived.Test.YthmhjjkmnnmjlaaGreatDoorM23
import Derived.Test.YthmhjjkmnnmjlaaGreatDoorM31
import Derived.Test.YthmhjjkmnnmjlaaGreatDoorM33
import Derived.Deep.RegionWith
import Derived.Deep.CutRange
import Derived.Test.YthmhjjkmnnmjlaaGreatDoorM1
import Derived.Below
import Derived.Test.YthmhjjkmnnmjlaaGreatDoorM2
import Derived.Test.YthmhjjkmnnmjlaaGreatDoorM27
namespace Go.Proofs.YthmhjjkmnnmjlaaGreatDoor
open Go.Proofs

theorem square_inv {f : Pu.Src} {i j : Nat} {x : Pu.Shape} (h : Pu.shape f i = (j, some x)) : x.kind = 83 → x.h = x.w := by
  obtain ⟨_, k, hk, h⟩ := Pu.bnd_inv h
  obtain ⟨_, a, ha, h⟩ := Pu.bnd_inv h
  obtain ⟨_, _, _, h⟩ := Pu.bnd_inv h
  obtain ⟨_, b, hb, h⟩ := Pu.bnd_inv h
  rw [← Pu.ret_inv h]
  intro e
  simp only at e ⊢
  obtain ⟨_, w, hw, h2⟩ := Pu.bnd_inv hb
  have hn := Pu.number_inv hw
  unfold Pu.rowLow Pu.rowHigh at hn
  rw [if_pos e, if_pos e] at hn
  rw [if_neg (by omega), if_pos (Or.inl (by omega))] at h2
  rw [← Pu.ret_inv h2]
  simp only
  omega
theorem read_square {f : Pu.Src} {j : Nat} {p : Pu.Parts} (h : Pu.read f = (j, some p)) : p.shape.kind = 83 → p.shape.h = p.shape.w := by
  unfold Pu.read at h
  rcases e : Pu.pre f 0 with ⟨i, _ | a⟩
  · simp [e] at h
  · simp only [e] at h
    obtain ⟨_, x, hx, h2⟩ := Pu.bnd_inv e
    obtain ⟨_, y, hy, h3⟩ := Pu.bnd_inv h2
    have h4 := Pu.ret_inv h3
    rcases e2 : Pu.body a.1.1.states 401 [] f i with ⟨k, _ | rs⟩
    · simp [e2] at h
    · simp only [e2] at h
      have h5 := Option.some.inj (Prod.mk.inj h).2
      subst h4
      rw [← h5]
      obtain ⟨_, r, hr, h6⟩ := Pu.bnd_inv hx
      obtain ⟨_, _, _, h6⟩ := Pu.bnd_inv h6
      obtain ⟨_, s, hs, h6⟩ := Pu.bnd_inv h6
      obtain ⟨_, _, _, h6⟩ := Pu.bnd_inv h6
      obtain ⟨_, ag, _, h6⟩ := Pu.bnd_inv h6
      obtain ⟨_, _, _, h6⟩ := Pu.bnd_inv h6
      have h7 := Pu.ret_inv h6
      rw [← h7]
      exact square_inv hs
end Go.Proofs.YthmhjjkmnnmjlaaGreatDoor
namespace Go.Proofs.YthmhjjkmnnmjlaaGreatDoor
open Go.RowKit
open Go.Proofs

/-- A block that holds a world, the program's or the document's. -/
def WT (w : World) (z : Nat) : Prop := ∃ cs, w.heap[z]? = some (.cells cs 70 (0, 0)) ∨ w.heap[z]? = some (.cells cs 56 (0, 0))
theorem DocAt.keepW {S : Nat → Prop} {w w' : World} {b : Nat} {r : Pu.Rule} {x : Pu.Shape} {age : Int} {l : List Cl} (h : DocAt w b r x age l) (k : Kp S w w') (hb : ¬ S b) (hS : ∀ z, S z → WT w z) : DocAt w' b r x age l := by
  obtain ⟨g1, g2, v, hv, s1, s2, hc⟩ := h.at1
  have nb : ∀ g (L : List Bool), SlB w g L → ¬ S g := by
    intro g L hs hg
    obtain ⟨cs, h1 | h1⟩ := hS g hg
    · rw [hs.2] at h1
      have := Option.some.inj h1
      injection this with _ t _
      exact absurd t (by decide)
    · rw [hs.2] at h1
      have := Option.some.inj h1
      injection this with _ t _
      exact absurd t (by decide)
  refine ⟨g1, g2, v, hv.keep k hb, s1.keep k (nb _ _ s1), s2.keep k (nb _ _ s2), hc.keep k (fun g hg hs => ?_)⟩
  obtain ⟨cs, h1 | h1⟩ := hS g hs
  · rw [h1] at hg
    simp at hg
  · rw [h1] at hg
    simp at hg
theorem DocAt.wt {w : World} {b : Nat} {r : Pu.Rule} {x : Pu.Shape} {age : Int} {l : List Cl} (h : DocAt w b r x age l) : WT w b := by
  obtain ⟨g1, g2, v, hv, _⟩ := h.at1
  exact ⟨_, Or.inr hv⟩
theorem DocAt.lt {w : World} {b : Nat} {r : Pu.Rule} {x : Pu.Shape} {age : Int} {l : List Cl} (h : DocAt w b r x age l) : b < w.heap.size := by
  obtain ⟨g1, g2, v, hv, _⟩ := h.at1
  exact hv.lt
theorem gs_wt {w : World} {q : Nat} {r : Pu.Rule} {x : Pu.Shape} {age : Int} {g : Gs} (h : GsAt w q (preOf r x age) x.w x.h g) : WT w q := ⟨_, Or.inl (GrAt.row h)⟩
theorem gs_doc_ne {w : World} {q b : Nat} {r r' : Pu.Rule} {x x' : Pu.Shape} {age age' : Int} {g : Gs} {l : List Cl} (h : GsAt w q (preOf r x age) x.w x.h g) (d : DocAt w b r' x' age' l) : q ≠ b := by
  intro e
  subst e
  obtain ⟨g1, g2, v, hv, _⟩ := d.at1
  have h1 := GrAt.row h
  unfold VAt at hv
  rw [hv] at h1
  have := Option.some.inj h1
  injection this with _ t _
  exact absurd t (by decide)
/-- A pair of the law's, as it is thought of. -/
structure Pc where
  pr : Nat
  q1 : Nat
  q2 : Nat
  r : Pu.Rule
  x : Pu.Shape
  age : Int
  g : Gs
  l : List Cl
structure PcAt (w : World) (c : Pc) : Prop where
  at_ : PrAt w c.pr (.pointer (some ⟨c.q1, 0, none⟩)) (.pointer (some ⟨c.q2, 0, none⟩))
  both : Both w c.q1 c.q2 c.r c.x c.age c.g c.l
  sq : c.x.kind = 83 → c.x.h = c.x.w
def Turn (c d : Pc) : Prop := d.pr = c.pr ∧ d.q1 = c.q1 ∧ d.q2 = c.q2
def qq (c : Pc) : Nat → Prop := fun z => z = c.q1 ∨ z = c.q2
theorem PcAt.wt {w : World} {c : Pc} (h : PcAt w c) : ∀ z, qq c z → WT w z := by
  rintro z (rfl | rfl)
  · exact gs_wt h.both.gs
  · exact h.both.doc.wt
theorem pr_wt {w : World} {p : Nat} {a b : Value} (h : PrAt w p a b) : ¬ WT w p := by
  rintro ⟨cs, h1 | h1⟩
  · unfold PrAt at h
    rw [h] at h1
    have := Option.some.inj h1
    injection this with _ t _
    exact absurd t (by decide)
  · unfold PrAt at h
    rw [h] at h1
    have := Option.some.inj h1
    injection this with _ t _
    exact absurd t (by decide)
/-- A pair that is not called upon stays. -/
theorem PcAt.keepS {S : Nat → Prop} {w w' : World} {c : Pc} (h : PcAt w c) (k : Kp S w w') (h1 : ¬ S c.q1) (h2 : ¬ S c.q2) (hS : ∀ z, S z → WT w z) : PcAt w' c :=
  ⟨h.at_.keep k (fun hs => pr_wt h.at_ (hS _ hs)), ⟨GrAt.keep h.both.gs k h1, h.both.doc.keepW k h2 hS, h.both.al, h.both.kin, h.both.age⟩, h.sq⟩
theorem PcAt.keep {w w' : World} {c : Pc} (h : PcAt w c) (k : Kp (fun _ => False) w w') : PcAt w' c := ⟨h.at_.keep k (fun h => h), h.both.keep k, h.sq⟩
/-- Both answer a Step the same, and are alike behind it. -/
def stepA (r : Pu.Rule) (x : Pu.Shape) (age : Int) (l : List Cl) (n : Int) : Int := if n < 0 ∨ 100 < n ∨ 999999 < age + n then 7 else if (stepL r x l n.toNat).1 = true then 0 else 4
theorem both_step {q1 q2 : Nat} {r : Pu.Rule} {x : Pu.Shape} {age : Int} {g : Gs} {l : List Cl} (al : Alike r x g l) (kin : Kin r x) (sq : x.kind = 83 → x.h = x.w) (hage : 0 ≤ age ∧ age ≤ 999999) (n : Int) :
    ∃ age' g' l', Alike r x g' l' ∧ (0 ≤ age' ∧ age' ≤ 999999) ∧
    (∀ w, GsAt w q1 (preOf r x age) x.w x.h g → Calls Tryz.prog 26 #[.pointer (some ⟨q1, 0, none⟩), .int .i64 n] w fun e w' => e = .returned (.int .i64 (stepA r x age l n)) ∧ GsAt w' q1 (preOf r x age') x.w x.h g' ∧ Kp (· = q1) w w') ∧
    (∀ w, DocAt w q2 r x age l → Calls Tryz.prog 27 #[.pointer (some ⟨q2, 0, none⟩), .int .i64 n] w fun e w' => e = .returned (.int .i64 (stepA r x age l n)) ∧ DocAt w' q2 r x age' l' ∧ Kp (· = q2) w w') := by
  unfold stepA
  by_cases hb : n < 0 ∨ 100 < n ∨ 999999 < age + n
  · rw [if_pos hb]
    refine ⟨age, g, l, al, hage, fun w h => (wstep_no q1 r x age g n w h kin.rule hage hb).mono ?_, fun w h => (xstep_no q2 r x age l n w h hage hb).mono ?_⟩
    · rintro e w' ⟨rfl, rfl⟩
      exact ⟨rfl, h, Kp.refl _ _⟩
    · rintro e w' ⟨rfl, rfl⟩
      exact ⟨rfl, h, Kp.refl _ _⟩
  · rw [if_neg hb]
    obtain ⟨k, rfl⟩ := Int.eq_ofNat_of_zero_le (show 0 ≤ n by omega)
    rw [Int.toNat_natCast]
    obtain ⟨s1, s2⟩ := step_alike kin.st.1 kin.shape sq al k
    have P := fun w (h : GsAt w q1 (preOf r x age) x.w x.h g) => wstep_exact q1 r x age g k w h kin.rule kin.shape (fun _ => kin.fo) kin.ar kin.st.1 kin.st.2 al.gs (by omega) hage.1 (by omega)
    have D := fun w (h : DocAt w q2 r x age l) => xstep_core q2 r x age g l k w h al sq kin (by omega) hage.1 (by omega)
    rw [s1] at P s2
    by_cases c : (stepL r x l k).1 = true
    · simp only [if_pos c] at P D ⊢
      exact ⟨age + k, _, _, s2 c, by omega, P, D⟩
    · simp only [if_neg c] at P D ⊢
      exact ⟨age, g, l, al, hage, P, D⟩
set_option maxHeartbeats 1000000 in
theorem sort_any (q : Nat) (r : Pu.Rule) (x : Pu.Shape) (age : Int) (l : List Cl) (w : World) (h : DocAt w q r x age l) :
    Calls Tryz.prog 25 #[.pointer (some ⟨q, 0, none⟩)] w fun e w' => (∃ n : Int, e = .returned (.int .i64 n) ∧ (n = 1 ∨ n = 2 ∨ n = 4 ∨ n = 8)) ∧ w' = w := by
  have c4 := h.c4
  have c5 := h.c5
  have c6 := h.c6
  clear h
  by_cases z1 : x.w = 0
  · rw [z1] at c5
    clear z1
    go_enter Tryz.func25, Tryz.ntmps25
    go_wp2_with fail
    go_ret
    exact ⟨⟨8, rfl, by omega⟩, rfl⟩
  · have b1 : (x.w == 0) = false := by simpa using z1
    by_cases z2 : x.h = 0
    · rw [z2] at c6
      clear z2
      go_enter Tryz.func25, Tryz.ntmps25
      go_wp2_with fail
      go_ret
      exact ⟨⟨8, rfl, by omega⟩, rfl⟩
    · have b2 : (x.h == 0) = false := by simpa using z2
      by_cases k1 : x.kind = 80
      · rw [k1] at c4
        clear k1
        go_enter Tryz.func25, Tryz.ntmps25
        go_wp2_with fail
        go_ret
        exact ⟨⟨1, rfl, by omega⟩, rfl⟩
      · have b3 : (x.kind == 80) = false := by simpa using k1
        by_cases k2 : x.kind = 83
        · rw [k2] at c4
          clear k2 b3 k1
          go_enter Tryz.func25, Tryz.ntmps25
          go_wp2_with fail
          go_ret
          exact ⟨⟨4, rfl, by omega⟩, rfl⟩
        · have b4 : (x.kind == 83) = false := by simpa using k2
          go_enter Tryz.func25, Tryz.ntmps25
          go_wp2_with fail
          go_ret
          exact ⟨⟨2, rfl, by omega⟩, rfl⟩
end Go.Proofs.YthmhjjkmnnmjlaaGreatDoor
namespace Go.Proofs.YthmhjjkmnnmjlaaGreatDoor
open Go.RowKit
open Go.Proofs

/-- One step of a script. -/
structure Op where
  k : Int
  w : Int
  a : Int
  b : Int
  c : Int
  s : ByteArray
def opv (o : Op) : Array Value := #[.int .i64 o.k, .int .i64 o.w, .int .i64 o.a, .int .i64 o.b, .int .i64 o.c, .string o.s]
def i64B (n : Int) : Prop := -9223372036854775808 ≤ n ∧ n ≤ 9223372036854775807
theorem PrAt.lt {w : World} {p : Nat} {a b : Value} (h : PrAt w p a b) : p < w.heap.size := (Array.getElem?_eq_some_iff.1 h).1
theorem Kp.or1 {w w' : World} {a b : Nat} (h : Kp (· = a) w w') : Kp (fun z => z = a ∨ z = b) w w' := h.mono (fun _ e => Or.inl e)
theorem Kp.or2 {w w' : World} {a b : Nat} (h : Kp (· = b) w w') : Kp (fun z => z = a ∨ z = b) w w' := h.mono (fun _ e => Or.inr e)
theorem Kp.orN {w w' : World} {a b : Nat} (h : Kp (fun _ => False) w w') : Kp (fun z => z = a ∨ z = b) w w' := h.mono (fun _ e => e.elim)

set_option maxRecDepth 100000 in
set_option maxHeartbeats 2000000 in
theorem call_else (c : Pc) (ok ow oa ob oc : Int) (os : ByteArray) (sorts : Int) (w : World) (h : PcAt w c) (h2 : ok ≠ 2) (h3 : ok ≠ 3) (h4 : ok ≠ 4) (h5 : ok ≠ 5) (h6 : ok ≠ 6) :
    Calls Tryz.prog 13 #[.pointer (some ⟨c.pr, 0, none⟩), .agg (opv ⟨ok, ow, oa, ob, oc, os⟩), .int .i64 sorts] w fun e w' => e = .returned (.bool true) ∧ PcAt w' c ∧ Kp (fun _ => False) w w' := by
  have n2 : (ok == 2) = false := by simpa using h2
  have n3 : (ok == 3) = false := by simpa using h3
  have n4 : (ok == 4) = false := by simpa using h4
  have n5 : (ok == 5) = false := by simpa using h5
  have n6 : (ok == 6) = false := by simpa using h6
  have HP := hide h
  clear h h2 h3 h4 h5 h6
  go_enter Tryz.func13, Tryz.ntmps13
  go_wp2_with (refine wpList_box_row rfl 27 _ rfl (opv ⟨ok, ow, oa, ob, oc, os⟩) rfl ?_
               intro w1 hw1
               have O1 : Hid (w1.heap[w.heap.size]? = some (.cells (opv ⟨ok, ow, oa, ob, oc, os⟩) 27 (0, 0))) := by rw [hw1]; exact heap_alloc_new _ _
               have K1 : Hid (Kp (fun _ => False) w w1) := by rw [hw1]; exact (Kp.refl _ _).alloc _
               have P1 := hide (HP.out.keep K1.out)
               have b0 : w1.cell? ⟨w.heap.size, 0, none⟩ = some (.int .i64 ok) := cell_of_row _ _ 0 _ _ _ O1.out
               clear hw1)
  go_ret
  exact ⟨rfl, P1.out, K1.out⟩
end Go.Proofs.YthmhjjkmnnmjlaaGreatDoor
namespace Go.Proofs.YthmhjjkmnnmjlaaGreatDoor
open Go.RowKit
open Go.Proofs
theorem Kp.below {w w' : World} (h : Kp (fun _ => False) w w') : Below w.heap.size w w' := ⟨h.os, h.tape, h.output, h.size, fun k hk => h.block k hk (fun x => x)⟩
end Go.Proofs.YthmhjjkmnnmjlaaGreatDoor
namespace Go.Proofs.YthmhjjkmnnmjlaaGreatDoor
open Go.RowKit
open Go.Proofs

def pickP (c n : Int) : Int := if c < 0 then (-(c + 1)) % n else c % n
set_option maxHeartbeats 400000 in
theorem pick_any (c n : Int) (w : World) (h0 : 0 < n) (h1 : n ≤ 1048576) (c0 : -9223372036854775808 ≤ c) (c1 : c ≤ 9223372036854775807) : Calls Tryz.prog 12 #[.int .i64 c, .int .i64 n] w fun e w' => e = .returned (.int .i64 (pickP c n)) ∧ w' = w := by
  unfold pickP
  by_cases hc : c < 0
  · rw [if_pos hc]
    have b1 := Int.emod_nonneg (-(c + 1)) (show n ≠ 0 by omega)
    have b2 := Int.emod_lt_of_pos (-(c + 1)) h0
    have e : -((c + 1).tmod n) = (-(c + 1)) % n := by rw [← Int.neg_tmod, Int.tmod_eq_emod_of_nonneg (by omega)]
    have E := hide e
    clear e b1 b2
    go_enter Tryz.func12, Tryz.ntmps12
    go_wp2
    go_ret
    exact ⟨ret_int E.out, rfl⟩
  · rw [if_neg hc]
    have b1 := Int.emod_nonneg c (show n ≠ 0 by omega)
    have b2 := Int.emod_lt_of_pos c h0
    go_enter Tryz.func12, Tryz.ntmps12
    go_wp2
    go_ret
    exact ⟨rfl, rfl⟩
end Go.Proofs.YthmhjjkmnnmjlaaGreatDoor
namespace Go.Proofs.YthmhjjkmnnmjlaaGreatDoor
open Go.RowKit
open Go.Proofs

/-- The two worlds of a pair, that came of a text's parts. -/
structure Dup (w : World) (q1 q2 : Nat) (p : Pu.Parts) : Prop where
  ok : Pu.PartsOk p
  one : OneB p.shape
  ar : p.rule.around = 77 ∨ p.rule.around = 86 ∨ p.rule.around = 72
  rule : RuleOk p.rule
  e : xloadE p = 0
  gs : GsAt w q1 (preOf p.rule p.shape p.age) p.shape.w p.shape.h (laidG p noS).2
  doc : DocAt w q2 p.rule p.shape p.age (liveOf p)
  kind : KindB p.shape
  sq : p.shape.kind = 83 → p.shape.h = p.shape.w
def Pairs (w0 w : World) (a b : Value) : Prop :=
  (a = .pointer none ∧ b = .pointer none) ∨
  ∃ (q1 q2 : Nat) (p : Pu.Parts), a = .pointer (some ⟨q1, 0, none⟩) ∧ b = .pointer (some ⟨q2, 0, none⟩) ∧ w0.heap.size ≤ q1 ∧ w0.heap.size ≤ q2 ∧ Dup w q1 q2 p
theorem Pairs.no {w0 w : World} {a b : Value} (ha : a = .pointer none) (hb : b = .pointer none) : Pairs w0 w a b := Or.inl ⟨ha, hb⟩
theorem Pairs.both {w0 w : World} {a b : Value} (q1 q2 : Nat) (p : Pu.Parts) (ha : a = .pointer (some ⟨q1, 0, none⟩)) (hb : b = .pointer (some ⟨q2, 0, none⟩)) (h1 : w0.heap.size ≤ q1) (h2 : w0.heap.size ≤ q2) (h : Dup w q1 q2 p) : Pairs w0 w a b :=
  Or.inr ⟨q1, q2, p, ha, hb, h1, h2, h⟩

set_option maxRecDepth 100000 in
set_option maxHeartbeats 2000000 in
theorem lload_more (s : ByteArray) (w : World) (hs : s.size ≤ maxLen) :
    Calls Tryz.prog 11 #[.string s] w fun e w' => (∃ p a b, e = .returned (.tuple #[.pointer (some ⟨p, 0, none⟩), .bool true]) ∧ w.heap.size ≤ p ∧ PrAt w' p a b ∧ Pairs w w' a b) ∧ Kp (fun _ => False) w w' := by
  have HN := hide (fun n wx => num_any n wx)
  by_cases h4 : 400 < s.size
  · have L1 := hide (fun wx => Load_long s wx h4 hs)
    have L2 := hide (fun wx => xload_long s wx h4 hs)
    go_enter Tryz.func11, Tryz.ntmps11
    go_wp2_with fail
    refine (L1.out _).mono ?_
    rintro e w1 ⟨rfl, hw1⟩
    subst w1
    go_wp2_with fail
    refine (L2.out _).mono ?_
    rintro e w1 ⟨rfl, hw1⟩
    subst w1
    go_wp2_with fail
    refine (HN.out _ _).mono ?_
    rintro e w1 ⟨rfl, hw1⟩
    have P1 : Hid (PrAt w1 w.heap.size (.pointer none) (.pointer none)) := by rw [hw1]; exact heap_alloc_new _ _
    have K1 : Hid (Kp (fun _ => False) w w1) := by rw [hw1]; exact (Kp.refl _ _).alloc _
    clear hw1
    go_wp2_with fail
    go_ret2
    exact ⟨⟨_, _, _, rfl, Nat.le_refl _, P1.out, Pairs.no rfl rfl⟩, K1.out⟩
  · have hs4 : s.size ≤ 400 := by omega
    clear h4
    obtain ⟨R, hR⟩ : ∃ R, Pu.read (src s) = R := ⟨_, rfl⟩
    obtain ⟨j, o⟩ := R
    have L2 := hide (fun wx => xload_any s wx hs4 j o hR)
    cases o with
    | none =>
      have L1 := hide (fun wx => Load_none s wx hs4 j hR)
      clear hR
      go_enter Tryz.func11, Tryz.ntmps11
      go_wp2_with fail
      refine (L1.out _).mono ?_
      rintro e w1 ⟨rfl, k1⟩
      have K1 := hide k1
      clear k1
      go_wp2_with fail
      refine (L2.out _).mono ?_
      rintro e w2 ⟨k2, rfl⟩
      have K2 := hide (K1.out.trans k2)
      clear k2
      go_wp2_with fail
      refine (HN.out _ _).mono ?_
      rintro e w3 ⟨rfl, hw3⟩
      have P3 : Hid (PrAt w3 w2.heap.size (.pointer none) (.pointer none)) := by rw [hw3]; exact heap_alloc_new _ _
      have K3 : Hid (Kp (fun _ => False) w w3) := by rw [hw3]; exact K2.out.alloc _
      have s2 := K2.out.size
      clear hw3
      go_wp2_with fail
      go_ret2
      exact ⟨⟨_, _, _, rfl, s2, P3.out, Pairs.no rfl rfl⟩, K3.out⟩
    | some p =>
      have hp := Pu.read_inv hR
      have ho := read_one hR
      have hE := loadE_same hp noS noS_len noS_zero
      have L1 := hide (fun wx => Load_gen s wx hs4 j p hR)
      rw [hE] at L1
      have HE := hide hE
      have HP := hide hp
      have HO := hide ho
      have HKD := hide (read_kind hR)
      have HSQ := hide (read_square hR)
      clear hR hp ho hE
      by_cases e0 : xloadE p = 0
      · have E0 := hide e0
        rw [e0] at L1
        clear e0
        go_enter Tryz.func11, Tryz.ntmps11
        go_wp2_with fail
        refine (L1.out _).mono ?_
        rintro e w1 ⟨⟨u, rfl, l1⟩, k1⟩
        obtain ⟨q1, rfl, hq1, hr1, hg1⟩ := l1.good (by rw [HE.out, E0.out])
        have K1 := hide k1
        have HR1 := hide hr1
        have HG1 := hide hg1
        clear k1 l1 hr1 hg1
        go_wp2_with fail
        refine (L2.out _).mono ?_
        rintro e w2 ⟨k2, ⟨u2, he, _, hgood⟩⟩
        obtain ⟨q2, hu2, hq2, hd2⟩ := hgood E0.out
        subst hu2
        rw [E0.out] at he
        subst he
        have HG2 : Hid (GsAt w2 q1 (preOf p.rule p.shape p.age) p.shape.w p.shape.h (laidG p noS).2) := GrAt.keep HG1.out k2 (fun h => h)
        have HD2 := hide hd2
        have K2 := hide (K1.out.trans k2)
        have s1 := K1.out.size
        clear k2 hgood hd2 HG1
        go_wp2_with fail
        refine (HN.out _ _).mono ?_
        rintro e w3 ⟨rfl, hw3⟩
        have P3 : Hid (PrAt w3 w2.heap.size (.pointer (some ⟨q1, 0, none⟩)) (.pointer (some ⟨q2, 0, none⟩))) := by rw [hw3]; exact heap_alloc_new _ _
        have k3 : Kp (fun _ => False) w2 w3 := by rw [hw3]; exact (Kp.refl _ _).alloc _
        have K3 := hide (K2.out.trans k3)
        have T3 : Hid (Dup w3 q1 q2 p) := ⟨HP.out, HO.out.1, HO.out.2, HR1.out, E0.out, GrAt.keep HG2.out k3 (fun h => h), HD2.out.keep k3, HKD.out, HSQ.out⟩
        have s2 := K2.out.size
        clear hw3 k3
        go_wp2_with fail
        go_ret2
        exact ⟨⟨_, _, _, rfl, s2, P3.out, Pairs.both q1 q2 p rfl rfl hq1 (by omega) T3.out⟩, K3.out⟩
      · have E0 := hide e0
        obtain ⟨ee, hee⟩ : ∃ ee, xloadE p = ee := ⟨_, rfl⟩
        have HEE := hide hee
        rw [hee] at L1
        clear e0 hee
        go_enter Tryz.func11, Tryz.ntmps11
        go_wp2_with fail
        refine (L1.out _).mono ?_
        rintro e w1 ⟨⟨u, rfl, l1⟩, k1⟩
        obtain rfl := l1.bad (by rw [HE.out]; exact E0.out)
        have K1 := hide k1
        clear k1 l1
        go_wp2_with fail
        refine (L2.out _).mono ?_
        rintro e w2 ⟨k2, ⟨u2, he, hbad, _⟩⟩
        obtain rfl := hbad E0.out
        rw [HEE.out] at he
        subst he
        have K2 := hide (K1.out.trans k2)
        clear k2 hbad
        go_wp2_with fail
        refine (HN.out _ _).mono ?_
        rintro e w3 ⟨rfl, hw3⟩
        have P3 : Hid (PrAt w3 w2.heap.size (.pointer none) (.pointer none)) := by rw [hw3]; exact heap_alloc_new _ _
        have K3 : Hid (Kp (fun _ => False) w w3) := by rw [hw3]; exact K2.out.alloc _
        have s2 := K2.out.size
        clear hw3
        go_wp2_with fail
        go_ret2
        exact ⟨⟨_, _, _, rfl, s2, P3.out, Pairs.no rfl rfl⟩, K3.out⟩

theorem Dup.both {w : World} {q1 q2 : Nat} {p : Pu.Parts} (h : Dup w q1 q2 p) : Both w q1 q2 p.rule p.shape p.age (laidG p noS).2 (liveOf p) :=
  ⟨h.gs, h.doc, alike_load h.ok noS noS_len noS_zero h.e, ⟨h.rule, h.ok.states, h.ar, h.ok.shape, h.kind, h.one⟩, h.ok.age⟩
end Go.Proofs.YthmhjjkmnnmjlaaGreatDoor
namespace Go.Proofs.YthmhjjkmnnmjlaaGreatDoor
open Go.RowKit
open Go.Proofs

/-- The script, as it lies there. -/
structure OpsAt (w : World) (v : Value) (ops : List Op) : Prop where
  form : ∃ a cap, v = .slice a ops.length cap ∧ (ops ≠ [] → ∃ b off, a = some ⟨b, off, none⟩ ∧ b < w.heap.size ∧ ∀ k o, ops[k]? = some o → ∀ j u, (opv o)[j]? = some u → w.cell? ⟨b, off + k * 6 + j, none⟩ = some u)
theorem OpsAt.keep {w w' : World} {v : Value} {ops : List Op} (h : OpsAt w v ops) (k : Kp (fun _ => False) w w') : OpsAt w' v ops := by
  obtain ⟨a, cap, e, f⟩ := h.form
  refine ⟨a, cap, e, fun hne => ?_⟩
  obtain ⟨b, off, e2, hb, g⟩ := f hne
  have hs := k.size
  refine ⟨b, off, e2, by omega, fun i o hi j u hu => ?_⟩
  rw [World.cell?_of_block (w := w) (k.block b hb (fun h => h))]
  exact g i o hi j u hu
set_option maxRecDepth 100000 in
set_option maxHeartbeats 1000000 in
theorem small_any (v : Value) (ops : List Op) (w : World) (h : OpsAt w v ops) (hl : ops.length ≤ maxLen) :
    Calls Tryz.prog 10 #[v] w fun e w' => (∃ y : Bool, e = .returned (.bool y) ∧ (y = true → ops.length ≤ 1048576)) ∧ w' = w := by
  obtain ⟨a, cap, rfl, f⟩ := h.form
  have HF := hide f
  unfold maxLen at hl
  clear h f
  by_cases h0 : 1048576 < ops.length
  · go_enter Tryz.func10, Tryz.ntmps10
    go_wp2_with fail
    go_ret
    exact ⟨⟨false, rfl, fun h => by cases h⟩, rfl⟩
  · go_enter Tryz.func10, Tryz.ntmps10
    go_wp2_with fail
    go_loopg [3, 4] ops.length (fun gk nv iv wr => ∃ (k : Nat) (m : Int), k ≤ ops.length ∧ ops.length ≤ k + gk ∧ nv = .int .i64 m ∧ iv = .int .i64 k ∧ wr = w)
    case atStart => exact ⟨0, ops.length, by omega, by omega, rfl, rfl, rfl⟩
    case round =>
      obtain ⟨k, m, m1, m2, rfl, rfl, hw⟩ := hrel
      subst wr
      by_cases hk : k < ops.length
      · obtain ⟨o, ho⟩ : ∃ o, ops[k]? = some o := ⟨ops[k], List.getElem?_eq_getElem hk⟩
        have hne : ops ≠ [] := by intro e; rw [e] at hk; simp at hk
        obtain ⟨b, off, ha, hb, g⟩ := HF.out hne
        have c5 : w.cell? ⟨b, off + k * 6 + 5, none⟩ = some (.string o.s) := g k o ho 5 _ rfl
        generalize o.s = os at *
        subst ha
        clear g ho hne
        by_cases hbig : 1048576 < wrap64 (m + os.size)
        · go_wp2_with fail
          go_ret
          exact ⟨⟨false, rfl, fun h => by cases h⟩, rfl⟩
        · go_wp2_with fail
          go_roundg (gk - 1)
          case measure => omega
          case rel => exact ⟨k + 1, _, by omega, by omega, rfl, by go_num, rfl⟩
      · go_wp2_with fail
        go_ret
        exact ⟨⟨true, rfl, fun _ => by omega⟩, rfl⟩
end Go.Proofs.YthmhjjkmnnmjlaaGreatDoor
namespace Go.Proofs.YthmhjjkmnnmjlaaGreatDoor
open Go.RowKit
open Go.Proofs

set_option maxRecDepth 100000 in
set_option maxHeartbeats 2000000 in
theorem call_get (c : Pc) (ow oa ob oc : Int) (os : ByteArray) (sorts : Int) (w : World) (h : PcAt w c) (ha : i64B oa) (hb : i64B ob) :
    Calls Tryz.prog 13 #[.pointer (some ⟨c.pr, 0, none⟩), .agg (opv ⟨2, ow, oa, ob, oc, os⟩), .int .i64 sorts] w fun e w' => e = .returned (.bool true) ∧ PcAt w' c ∧ Kp (fun _ => False) w w' := by
  have HG := both_get (q1 := c.q1) (q2 := c.q2) (age := c.age) h.both.al h.both.kin oa ob ha hb
  obtain ⟨L1, L2⟩ := HG
  replace L1 := hide L1
  replace L2 := hide L2
  generalize atL c.l (getX c.x oa ob) (getY c.x oa ob) = v at *
  have HP := hide h
  clear h
  go_enter Tryz.func13, Tryz.ntmps13
  go_upto_region 3 with (refine wpList_box_row rfl 27 _ rfl (opv ⟨2, ow, oa, ob, oc, os⟩) rfl ?_
                         intro w1 hw1
                         have O1 : Hid (w1.heap[w.heap.size]? = some (.cells (opv ⟨2, ow, oa, ob, oc, os⟩) 27 (0, 0))) := by rw [hw1]; exact heap_alloc_new _ _
                         have K1 : Hid (Kp (fun _ => False) w w1) := by rw [hw1]; exact (Kp.refl _ _).alloc _
                         have P1 := hide (HP.out.keep K1.out)
                         have b0 : w1.cell? ⟨w.heap.size, 0, none⟩ = some (.int .i64 2) := cell_of_row _ _ 0 _ _ _ O1.out
                         clear hw1)
  clear b0
  have b2 : w1.cell? ⟨w.heap.size, 2, none⟩ = some (.int .i64 oa) := cell_of_row _ _ 2 _ _ _ O1.out
  have b3 : w1.cell? ⟨w.heap.size, 3, none⟩ = some (.int .i64 ob) := cell_of_row _ _ 3 _ _ _ O1.out
  have b4 : w1.cell? ⟨w.heap.size, 4, none⟩ = some (.int .i64 oc) := cell_of_row _ _ 4 _ _ _ O1.out
  have d0 : w1.cell? ⟨c.pr, 0, none⟩ = some (.pointer (some ⟨c.q1, 0, none⟩)) := P1.out.at_.c0
  have d1 : w1.cell? ⟨c.pr, 1, none⟩ = some (.pointer (some ⟨c.q2, 0, none⟩)) := P1.out.at_.c1
  go_cut [7] from 22 to 30 (fun sv wc => sv = .int .i64 v ∧ PcAt wc c ∧ wc.heap[w.heap.size]? = some (.cells (opv ⟨2, ow, oa, ob, oc, os⟩) 27 (0, 0)) ∧ Kp (fun _ => False) w wc)
  case first =>
    go_region_with (go_at_call 17; refine (L1.out _ (by exact (P1.out.keep ((Kp.refl _ _).drewN 1)).both)).mono ?_; rintro e w2 ⟨rfl, k2⟩)
    all_goals
      have K2 := hide (Kp.drewNl (n := 1) k2)
      clear k2
      go_wp2_with fail
      go_meet
    all_goals exact ⟨rfl, P1.out.keep K2.out, K2.out.row O1.out (fun h => h), K1.out.trans K2.out⟩
  case rest =>
    obtain ⟨rfl, p2, o2, k2⟩ := hcut
    have P2 := hide p2
    have O2 := hide o2
    have K2 := hide k2
    clear p2 o2 k2 b2 b3 b4 d0 d1
    go_upto_region 4 with fail
    have b2 : wc.cell? ⟨w.heap.size, 2, none⟩ = some (.int .i64 oa) := cell_of_row _ _ 2 _ _ _ O2.out
    have b3 : wc.cell? ⟨w.heap.size, 3, none⟩ = some (.int .i64 ob) := cell_of_row _ _ 3 _ _ _ O2.out
    have b4 : wc.cell? ⟨w.heap.size, 4, none⟩ = some (.int .i64 oc) := cell_of_row _ _ 4 _ _ _ O2.out
    have d0 : wc.cell? ⟨c.pr, 0, none⟩ = some (.pointer (some ⟨c.q1, 0, none⟩)) := P2.out.at_.c0
    have d1 : wc.cell? ⟨c.pr, 1, none⟩ = some (.pointer (some ⟨c.q2, 0, none⟩)) := P2.out.at_.c1
    obtain ⟨wk, hwk⟩ : ∃ u, u = wc := ⟨wc, rfl⟩
    go_cut [8] from 31 to 39 (fun sv wd => sv = .int .i64 v ∧ PcAt wd c ∧ Kp (fun _ => False) w wd)
    case first =>
      go_region_with (go_at_call 18; refine (L2.out _ (by exact (P2.out.keep ((Kp.refl _ _).drewN 1)).both)).mono ?_; rintro e w2 ⟨rfl, k2⟩)
      all_goals
        have K3 := hide (Kp.drewNl (n := 1) k2)
        clear k2
        go_wp2_with fail
        go_meet
      all_goals exact ⟨rfl, P2.out.keep K3.out, K2.out.trans K3.out⟩
    case rest =>
      obtain ⟨rfl, p3, k3⟩ := hcut
      have P3 := hide p3
      have K3 := hide k3
      clear p3 k3 b2 b3 b4 d0 d1
      go_wp2_with fail
      go_ret
      exact ⟨by simp, P3.out, K3.out⟩

set_option maxRecDepth 100000 in
set_option maxHeartbeats 2000000 in
theorem call_count (c : Pc) (ow oa ob oc : Int) (os : ByteArray) (sorts : Int) (w : World) (h : PcAt w c) :
    Calls Tryz.prog 13 #[.pointer (some ⟨c.pr, 0, none⟩), .agg (opv ⟨4, ow, oa, ob, oc, os⟩), .int .i64 sorts] w fun e w' => e = .returned (.bool true) ∧ PcAt w' c ∧ Kp (fun _ => False) w w' := by
  have L1 := hide (fun wx (hx : Both wx c.q1 c.q2 c.r c.x c.age c.g c.l) => (both_count wx hx).1)
  have L2 := hide (fun wx (hx : Both wx c.q1 c.q2 c.r c.x c.age c.g c.l) => (both_count wx hx).2)
  have HP := hide h
  clear h
  go_enter Tryz.func13, Tryz.ntmps13
  go_upto_region 11 with (refine wpList_box_row rfl 27 _ rfl (opv ⟨4, ow, oa, ob, oc, os⟩) rfl ?_
                          intro w1 hw1
                          have O1 : Hid (w1.heap[w.heap.size]? = some (.cells (opv ⟨4, ow, oa, ob, oc, os⟩) 27 (0, 0))) := by rw [hw1]; exact heap_alloc_new _ _
                          have K1 : Hid (Kp (fun _ => False) w w1) := by rw [hw1]; exact (Kp.refl _ _).alloc _
                          have P1 := hide (HP.out.keep K1.out)
                          have b0 : w1.cell? ⟨w.heap.size, 0, none⟩ = some (.int .i64 4) := cell_of_row _ _ 0 _ _ _ O1.out
                          clear hw1)
  clear b0
  have b2 : w1.cell? ⟨w.heap.size, 2, none⟩ = some (.int .i64 oa) := cell_of_row _ _ 2 _ _ _ O1.out
  have b3 : w1.cell? ⟨w.heap.size, 3, none⟩ = some (.int .i64 ob) := cell_of_row _ _ 3 _ _ _ O1.out
  have b4 : w1.cell? ⟨w.heap.size, 4, none⟩ = some (.int .i64 oc) := cell_of_row _ _ 4 _ _ _ O1.out
  have d0 : w1.cell? ⟨c.pr, 0, none⟩ = some (.pointer (some ⟨c.q1, 0, none⟩)) := P1.out.at_.c0
  have d1 : w1.cell? ⟨c.pr, 1, none⟩ = some (.pointer (some ⟨c.q2, 0, none⟩)) := P1.out.at_.c1
  go_wp2_with fail
  refine (L1.out _ P1.out.both).mono ?_
  rintro e w2 ⟨rfl, hw2⟩
  subst w2
  go_wp2_with fail
  refine (L2.out _ P1.out.both).mono ?_
  rintro e w2 ⟨rfl, hw2⟩
  subst w2
  go_wp2_with fail
  go_ret
  exact ⟨by simp, P1.out, K1.out⟩

set_option maxRecDepth 100000 in
set_option maxHeartbeats 2000000 in
theorem call_save (c : Pc) (ow oa ob oc : Int) (os : ByteArray) (sorts : Int) (w : World) (h : PcAt w c) (ht : Tab w) :
    Calls Tryz.prog 13 #[.pointer (some ⟨c.pr, 0, none⟩), .agg (opv ⟨5, ow, oa, ob, oc, os⟩), .int .i64 sorts] w fun e w' => e = .returned (.bool true) ∧ PcAt w' c ∧ Kp (fun _ => False) w w' := by
  obtain ⟨L1, L2⟩ := both_save (q1 := c.q1) (q2 := c.q2) h.both.al h.both.kin h.both.age
  replace L1 := hide L1
  replace L2 := hide L2
  have HT := hide ht
  clear ht
  have HP := hide h
  clear h
  go_enter Tryz.func13, Tryz.ntmps13
  go_upto_region 15 with (refine wpList_box_row rfl 27 _ rfl (opv ⟨5, ow, oa, ob, oc, os⟩) rfl ?_
                          intro w1 hw1
                          have O1 : Hid (w1.heap[w.heap.size]? = some (.cells (opv ⟨5, ow, oa, ob, oc, os⟩) 27 (0, 0))) := by rw [hw1]; exact heap_alloc_new _ _
                          have K1 : Hid (Kp (fun _ => False) w w1) := by rw [hw1]; exact (Kp.refl _ _).alloc _
                          have P1 := hide (HP.out.keep K1.out)
                          have b0 : w1.cell? ⟨w.heap.size, 0, none⟩ = some (.int .i64 5) := cell_of_row _ _ 0 _ _ _ O1.out
                          clear hw1)
  clear b0
  have b2 : w1.cell? ⟨w.heap.size, 2, none⟩ = some (.int .i64 oa) := cell_of_row _ _ 2 _ _ _ O1.out
  have b3 : w1.cell? ⟨w.heap.size, 3, none⟩ = some (.int .i64 ob) := cell_of_row _ _ 3 _ _ _ O1.out
  have b4 : w1.cell? ⟨w.heap.size, 4, none⟩ = some (.int .i64 oc) := cell_of_row _ _ 4 _ _ _ O1.out
  have d0 : w1.cell? ⟨c.pr, 0, none⟩ = some (.pointer (some ⟨c.q1, 0, none⟩)) := P1.out.at_.c0
  have d1 : w1.cell? ⟨c.pr, 1, none⟩ = some (.pointer (some ⟨c.q2, 0, none⟩)) := P1.out.at_.c1
  go_wp2_with fail
  refine (L1.out _ P1.out.both (HT.out.keep K1.out)).mono ?_
  rintro e w2 ⟨rfl, k2⟩
  have P2 := hide (P1.out.keep k2)
  have K2 := hide (K1.out.trans k2)
  clear k2 b2 b3 b4 d0 d1
  have d1 : w2.cell? ⟨c.pr, 1, none⟩ = some (.pointer (some ⟨c.q2, 0, none⟩)) := P2.out.at_.c1
  go_wp2_with fail
  refine (L2.out _ P2.out.both).mono ?_
  rintro e w3 ⟨rfl, k3⟩
  have P3 := hide (P2.out.keep k3)
  have K3 := hide (K2.out.trans k3)
  clear k3 d1
  go_wp2_with fail
  go_ret
  exact ⟨by simp, P3.out, K3.out⟩
end Go.Proofs.YthmhjjkmnnmjlaaGreatDoor
