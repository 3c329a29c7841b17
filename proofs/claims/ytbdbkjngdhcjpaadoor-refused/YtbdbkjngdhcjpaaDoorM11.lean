import Derived.Test.YtbdbkjngdhcjpaaDoorTc
import Derived.Test.YtbdbkjngdhcjpaaDoorZc
import Derived.Test.YtbdbkjngdhcjpaaDoorJf
import Derived.Test.YtbdbkjngdhcjpaaDoorM10
import Derived.Test.YtbdbkjngdhcjpaaDoorSa
import Derived.Test.YtbdbkjngdhcjpaaDoorM1
import Derived.Lib.ItoaNum
namespace Go.Proofs.YtbdbkjngdhcjpaaDoor
open Go.RowKit
open Go.Proofs

/-- A world of the program's, as it is thought of. -/
structure Md where
  r : Pu.Rule
  x : Pu.Shape
  age : Int
  g : Gs
def MdAt (w : World) (q : Nat) (m : Md) : Prop := GsAt w q (preOf m.r m.x m.age) m.x.w m.x.h m.g
structure MdOk (m : Md) : Prop where
  kin : Kin m.r m.x
  ok : GsOk m.r.states m.x.w m.x.h m.g
  age : 0 ≤ m.age ∧ m.age ≤ 999999
theorem MdAt.keep {S : Nat → Prop} {w w' : World} {q : Nat} {m : Md} (h : MdAt w q m) (k : Kp S w w') (hn : ¬ S q) : MdAt w' q m := GrAt.keep h k hn
theorem MdAt.lt {w : World} {q : Nat} {m : Md} (h : MdAt w q m) : q < w.heap.size := GrAt.lt h
theorem layG_ok {c : Int} {x : Pu.Shape} (hx : Pu.ShapeOk x) (col : Int) : ∀ (rs : List Pu.Run) (a b : Int) (g : Gs), (∀ r, r ∈ rs → Pu.RunOk c r) → GsOk c x.w x.h g → GsOk c x.w x.h (layG x col rs a b g).2 := by
  intro rs
  induction rs with
  | nil => intro a b g _ h; exact h
  | cons rn rs ih =>
    intro a b g hr h
    have h1 := hr rn List.mem_cons_self
    have h2 : ∀ r, r ∈ rs → Pu.RunOk c r := fun r hm => hr r (List.mem_cons_of_mem _ hm)
    have h3 := layRunG_ok hx h a b rn ⟨h1.2.2.1, h1.2.2.2⟩
    unfold layG
    split
    · exact ih _ _ _ h2 h
    · split
      · exact h3
      · exact ih _ _ _ h2 h3
theorem laidG_ok {p : Pu.Parts} (hp : Pu.PartsOk p) : GsOk p.rule.states p.shape.w p.shape.h (laidG p noS).2 :=
  layG_ok hp.shape _ _ _ _ _ hp.runs (empty_ok (by have := hp.states; omega) hp.shape)
/-- What Load makes of a text: its answer, and the world. -/
def loadM (s : ByteArray) : Int × Option Md :=
  if 400 < s.size then (1, none)
  else match Pu.read (src s) with
    | (_, none) => (2, none)
    | (_, some p) => if loadE p noS = 0 then (0, some ⟨p.rule, p.shape, p.age, (laidG p noS).2⟩) else (loadE p noS, none)
structure LoadMd (w w' : World) (s : ByteArray) (u : Value) : Prop where
  good : ∀ m, (loadM s).2 = some m → (loadM s).1 = 0 ∧ ∃ q, u = .pointer (some ⟨q, 0, none⟩) ∧ w.heap.size ≤ q ∧ MdAt w' q m ∧ MdOk m
  bad : (loadM s).2 = none → (loadM s).1 ≠ 0 ∧ u = .pointer none
theorem Load_md (s : ByteArray) (hm : s.size ≤ maxLen) (w : World) :
    Calls Tryd.prog 12 #[.string s] w fun e w' => (∃ u z, e = .returned (.tuple #[u, .int .i64 z, .int .i64 (loadM s).1]) ∧ LoadMd w w' s u) ∧ Kp (fun _ => False) w w' := by
  by_cases h4 : 400 < s.size
  · have e : loadM s = (1, none) := by unfold loadM; rw [if_pos h4]
    refine (Load_long s w h4 hm).mono ?_
    rintro e' w' ⟨rfl, rfl⟩
    exact ⟨⟨_, _, by rw [e], ⟨fun m hm => (by rw [e] at hm; cases hm), fun _ => ⟨by rw [e]; simp, rfl⟩⟩⟩, Kp.refl _ _⟩
  · rcases hR : Pu.read (src s) with ⟨j, _ | p⟩
    · have e : loadM s = (2, none) := by unfold loadM; rw [if_neg h4, hR]
      refine (Load_none s w (by omega) j hR).mono ?_
      rintro e' w' ⟨rfl, k⟩
      exact ⟨⟨_, _, by rw [e], ⟨fun m hm => (by rw [e] at hm; cases hm), fun _ => ⟨by rw [e]; simp, rfl⟩⟩⟩, k⟩
    · have hp := Pu.read_inv hR
      obtain ⟨one, ar⟩ := read_one hR
      have kd := read_kind hR
      have e : loadM s = if loadE p noS = 0 then (0, some ⟨p.rule, p.shape, p.age, (laidG p noS).2⟩) else (loadE p noS, none) := by unfold loadM; rw [if_neg h4, hR]
      refine (Load_gen s w (by omega) j p hR).mono ?_
      rintro e' w' ⟨⟨u, rfl, ⟨lb, lg⟩⟩, k⟩
      by_cases h0 : loadE p noS = 0
      · rw [if_pos h0] at e
        obtain ⟨q, hu, hq, rk, gs⟩ := lg h0
        refine ⟨⟨_, _, by rw [e, h0], ⟨fun m hm => ?_, fun hn => (by rw [e] at hn; cases hn)⟩⟩, k⟩
        rw [e] at hm
        simp only [Option.some.injEq] at hm
        subst hm
        exact ⟨by rw [e], q, hu, hq, gs, ⟨⟨rk, hp.states, ar, hp.shape, kd, one⟩, laidG_ok hp, hp.age⟩⟩
      · rw [if_neg h0] at e
        exact ⟨⟨_, _, by rw [e], ⟨fun m hm => (by rw [e] at hm; cases hm), fun _ => ⟨by rw [e]; exact h0, lb h0⟩⟩⟩, k⟩
/-- Put: what is refused changes nothing. -/
theorem put_md (q : Nat) (m : Md) (hm : MdOk m) (X Y s : Int) (w : World) (h : MdAt w q m) :
    Calls Tryd.prog 16 #[.pointer (some ⟨q, 0, none⟩), .int .i64 X, .int .i64 Y, .int .i64 s] w fun e w' => (∃ c g, e = .returned (.int .i64 c) ∧ MdAt w' q { m with g := g } ∧ MdOk { m with g := g } ∧ (c ≠ 0 → g = m.g)) ∧ Kp (· = q) w w' := by
  have kin := hm.kin
  by_cases h1 : hasB m.x X Y = true
  · by_cases h2 : nearB m.x X Y = true
    · by_cases h3 : 0 ≤ s ∧ s < m.r.states
      · refine (wput_in q m.r m.x m.age m.g X Y s w h kin.rule kin.shape hm.ok.lb hm.ok.tb h1 h2 h3).mono ?_
        rintro e w' ⟨rfl, g1, k1⟩
        have sp := spot_of kin.shape h1 h2
        by_cases hf : s = 0 ∨ Fits m.x.w m.x.h m.g X Y
        · obtain ⟨p1, p2, _⟩ := put_spec (side_of kin.shape) hm.ok sp h3 hf
          rw [p1, if_pos rfl]
          exact ⟨⟨_, (putG m.x.w m.x.h m.g X Y s).2, rfl, g1, ⟨kin, p2, hm.age⟩, fun h => absurd rfl h⟩, k1⟩
        · have pf := put_fail (side_of kin.shape) hf (g := m.g)
          rw [pf] at g1 ⊢
          exact ⟨⟨_, m.g, rfl, g1, hm, fun _ => rfl⟩, k1⟩
      · refine (wput_nostate q m.r m.x m.age m.g X Y s w h kin.rule h1 h2 h3).mono ?_
        rintro e w' ⟨rfl, g1, k1⟩
        exact ⟨⟨_, m.g, rfl, g1, hm, fun _ => rfl⟩, k1⟩
    · refine (wput_nonear q m.r m.x m.age m.g X Y s w h kin.rule h1 (by simpa using h2)).mono ?_
      rintro e w' ⟨rfl, g1, k1⟩
      exact ⟨⟨_, m.g, rfl, g1, hm, fun _ => rfl⟩, k1⟩
  · refine (wput_nohas q m.r m.x m.age m.g X Y s w h kin.rule (by simpa using h1)).mono ?_
    rintro e w' ⟨rfl, g1, k1⟩
    exact ⟨⟨_, m.g, rfl, g1, hm, fun _ => rfl⟩, k1⟩
/-- What Step makes of a world: its answer, and the world behind it. -/
def stepM (m : Md) (n : Int) : Int × Md :=
  if n < 0 ∨ 100 < n ∨ 999999 < m.age + n then (7, m)
  else if (stepG m.r m.x m.g n.toNat).1 = true then (0, { m with age := m.age + n, g := (stepG m.r m.x m.g n.toNat).2 }) else (4, m)
theorem stepM_bad {m : Md} {n : Int} (h : (stepM m n).1 ≠ 0) : (stepM m n).2 = m := by
  unfold stepM at *
  split
  · rfl
  · rename_i h1
    rw [if_neg h1] at h
    split
    · rename_i h2
      rw [if_pos h2] at h
      exact absurd rfl h
    · rfl
theorem stepM_ok {m : Md} (h : MdOk m) (n : Int) : MdOk (stepM m n).2 := by
  unfold stepM
  have ha := h.age
  split
  · exact h
  · split
    · exact ⟨h.kin, stepG_ok h.kin.st.1 h.kin.shape h.ok _, by show 0 ≤ m.age + n ∧ m.age + n ≤ 999999; omega⟩
    · exact h
theorem step_md (q : Nat) (m : Md) (hm : MdOk m) (n : Int) (w : World) (h : MdAt w q m) :
    Calls Tryd.prog 17 #[.pointer (some ⟨q, 0, none⟩), .int .i64 n] w fun e w' => (e = .returned (.int .i64 (stepM m n).1) ∧ MdAt w' q (stepM m n).2) ∧ Kp (· = q) w w' := by
  have kin := hm.kin
  have ha := hm.age
  unfold stepM
  by_cases hb : n < 0 ∨ 100 < n ∨ 999999 < m.age + n
  · rw [if_pos hb]
    refine (wstep_no q m.r m.x m.age m.g n w h kin.rule hm.age hb).mono ?_
    rintro e w' ⟨rfl, rfl⟩
    exact ⟨⟨rfl, h⟩, Kp.refl _ _⟩
  · rw [if_neg hb]
    obtain ⟨k, rfl⟩ := Int.eq_ofNat_of_zero_le (show 0 ≤ n by omega)
    rw [Int.toNat_natCast]
    refine (wstep_exact q m.r m.x m.age m.g k w h kin.rule kin.shape (fun _ => kin.fo) kin.ar kin.st.1 kin.st.2 hm.ok (by omega) ha.1 (by omega)).mono ?_
    rintro e w' ⟨rfl, g1, k1⟩
    by_cases c : (stepG m.r m.x m.g k).1 = true
    · rw [if_pos c, if_pos c] at g1
      rw [if_pos c, if_pos c]
      exact ⟨⟨rfl, g1⟩, k1⟩
    · rw [if_neg c, if_neg c] at g1
      rw [if_neg c, if_neg c]
      exact ⟨⟨rfl, g1⟩, k1⟩
/-- So many generations and then so many more. -/
theorem stepG_add (r : Pu.Rule) (x : Pu.Shape) (g : Gs) (a : Nat) (h : (stepG r x g a).1 = true) : ∀ b : Nat, stepG r x g (a + b) = stepG r x (stepG r x g a).2 b := by
  intro b
  induction b with
  | zero =>
    show stepG r x g a = (true, (stepG r x g a).2)
    rw [← h]
  | succ b ih =>
    show (if (stepG r x g (a + b)).1 = false then stepG r x g (a + b) else nextG r x (stepG r x g (a + b)).2) = (if (stepG r x (stepG r x g a).2 b).1 = false then stepG r x (stepG r x g a).2 b else nextG r x (stepG r x (stepG r x g a).2 b).2)
    rw [ih]
end Go.Proofs.YtbdbkjngdhcjpaaDoor
namespace Go.Proofs.YtbdbkjngdhcjpaaDoor
open Go.RowKit
open Go.Proofs

/-- A text of these bytes. -/
def ustr (L : List UInt8) : ByteArray := ⟨L.toArray⟩
theorem ustr_app (L M : List UInt8) : ustr L ++ ustr M = ustr (L ++ M) := by
  apply ByteArray.ext
  simp [ustr, ByteArray.data_append]
theorem ustr_size (L : List UInt8) : (ustr L).size = L.length := by simp [ustr, ByteArray.size]
theorem ustr_inj {L M : List UInt8} (h : ustr L = ustr M) : L = M := by
  have h2 : L.toArray = M.toArray := congrArg ByteArray.data h
  simpa using h2
def b8 (n : Int) : UInt8 := UInt8.ofNat n.toNat
theorem dec_len : ∀ u : Nat, (Lib.decDigits u).length ≤ u + 1 := by
  intro u
  induction u using Nat.strongRecOn with
  | _ u ih =>
    rw [Lib.decDigits]
    by_cases h : u < 10
    · rw [dif_pos h]; simp
    · rw [dif_neg h, List.length_append]
      have := ih (u / 10) (by omega)
      simp
      omega
theorem itoa_len (n : Int) : (Lib.itoa n).length ≤ n.natAbs + 2 := by
  unfold Lib.itoa
  split
  · have := dec_len n.natAbs
    simp
    omega
  · have := dec_len n.toNat
    omega
namespace Sv
/-- The sign of a state. -/
def letter (s : Int) : Int := Pu.stateLetter s
/-- A run. -/
def run (k m : Int) : List UInt8 := if k = 0 then [] else if k = 1 then [b8 m] else Lib.itoa k ++ [b8 m]
theorem run_len (k m : Int) : (run k m).length ≤ k.natAbs + 3 := by
  unfold run
  split
  · simp
  · split
    · simp
    · have := itoa_len k
      simp
      omega
structure Rw where
  text : List UInt8
  state : Int
  count : Int
def rowStep (r : Rw) (here : Int) : Rw := if here = r.state then ⟨r.text, r.state, r.count + 1⟩ else ⟨r.text ++ run r.count (letter r.state), here, 1⟩
def rowN (G : Int → Int) (l : Int) : Nat → Rw
  | 0 => ⟨[], 0, 0⟩
  | n + 1 => rowStep (rowN G l n) (G (l + n))
def rowEnd (r : Rw) : List UInt8 := if r.state = 0 then r.text else r.text ++ run r.count (letter r.state)
def row (G : Int → Int) (l : Int) (n : Nat) : List UInt8 := rowEnd (rowN G l n)
theorem rowN_len (G : Int → Int) (l : Int) : ∀ n : Nat, 0 ≤ (rowN G l n).count ∧ (rowN G l n).count ≤ n ∧ ((rowN G l n).text.length : Int) + (rowN G l n).count ≤ 5 * n := by
  intro n
  induction n with
  | zero => simp [rowN]
  | succ n ih =>
    unfold rowN rowStep
    split
    · simp only
      omega
    · have := run_len (rowN G l n).count (letter (rowN G l n).state)
      simp only [List.length_append]
      omega
theorem row_len (G : Int → Int) (l : Int) (n : Nat) : (row G l n).length ≤ 5 * n + 3 := by
  have h := rowN_len G l n
  unfold row rowEnd
  split
  · omega
  · have := run_len (rowN G l n).count (letter (rowN G l n).state)
    rw [List.length_append]
    omega
structure Bd where
  text : List UInt8
  breaks : Int
def bodyStep (b : Bd) (row : List UInt8) : Bd := if row = [] then ⟨b.text, b.breaks + 1⟩ else ⟨b.text ++ (run b.breaks 36 ++ row), 1⟩
def bodyN (G : Int → Int → Int) (l t : Int) (n : Nat) : Nat → Bd
  | 0 => ⟨[], 0⟩
  | k + 1 => bodyStep (bodyN G l t n k) (row (fun x => G x (t + k)) l n)
def body (G : Int → Int → Int) (l t : Int) (n k : Nat) : List UInt8 := (bodyN G l t n k).text
theorem bodyN_len (G : Int → Int → Int) (l t : Int) (n : Nat) (hn : n ≤ 64) : ∀ k : Nat, 0 ≤ (bodyN G l t n k).breaks ∧ (bodyN G l t n k).breaks ≤ k ∧ ((bodyN G l t n k).text.length : Int) + (bodyN G l t n k).breaks ≤ 400 * k := by
  intro k
  induction k with
  | zero => simp [bodyN]
  | succ k ih =>
    unfold bodyN bodyStep
    split
    · simp only
      omega
    · have h1 := run_len (bodyN G l t n k).breaks 36
      have h2 := row_len (fun x => G x (t + k)) l n
      simp only [List.length_append]
      omega
/-- The digits of a set. -/
def setN (f : List Bool) : Nat → List UInt8
  | 0 => []
  | n + 1 => if f.getD n false = true then setN f n ++ Lib.itoa n else setN f n
theorem setN_len (f : List Bool) : ∀ n : Nat, (setN f n).length ≤ n * (n + 2) := by
  intro n
  induction n with
  | zero => simp [setN]
  | succ n ih =>
    have e : (n + 1) * (n + 1 + 2) = n * (n + 2) + n + (n + 2) + 1 := by
      rw [Nat.add_mul, Nat.one_mul, show n + 1 + 2 = n + 2 + 1 by omega, Nat.mul_add n (n + 2) 1, Nat.mul_one]
      omega
    unfold setN
    split
    · have := itoa_len n
      rw [List.length_append]
      omega
    · omega
def set (f : List Bool) : List UInt8 := setN f 9
def behind (s : Int) (st : Bool) : List UInt8 := if st = true then [42] else if s = 0 then [] else [43] ++ Lib.itoa s
theorem behind_len (s : Int) (st : Bool) : (behind s st).length ≤ s.natAbs + 3 := by
  unfold behind
  split
  · simp
  · split
    · simp
    · have := itoa_len s
      simp
      omega
def ruleT (r : Pu.Rule) : List UInt8 := [b8 r.around] ++ [66] ++ set r.births ++ [47, 83] ++ set r.survivals ++ (if 2 < r.states then [47] ++ Lib.itoa r.states else [])
def shapeT (x : Pu.Shape) : List UInt8 := [b8 x.kind] ++ (Lib.itoa x.w ++ behind x.ws x.wst) ++ [44] ++ (Lib.itoa x.h ++ behind x.hs x.hst)
def headT (r : Pu.Rule) (x : Pu.Shape) (age : Int) : List UInt8 := ruleT r ++ [32] ++ shapeT x ++ [32] ++ Lib.itoa age
def placeT (L T : Int) : List UInt8 := Lib.itoa L ++ [44] ++ Lib.itoa T
/-- What a world is saved as. -/
def writeT (r : Pu.Rule) (x : Pu.Shape) (age : Int) (G : Int → Int → Int) (b : Bx) : List UInt8 :=
  if b.e = true then headT r x age ++ [32, 48, 44, 48, 32, 33]
  else headT r x age ++ [32] ++ placeT b.L b.T ++ [32] ++ body G b.L b.T (b.R - b.L + 1).toNat (b.B - b.T + 1).toNat ++ [33]
end Sv
end Go.Proofs.YtbdbkjngdhcjpaaDoor
