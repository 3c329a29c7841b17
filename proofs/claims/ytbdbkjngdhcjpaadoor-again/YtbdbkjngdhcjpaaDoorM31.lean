import Derived.Test.YtbdbkjngdhcjpaaDoorM21
import Derived.Test.YtbdbkjngdhcjpaaDoorIk
import Derived.Test.YtbdbkjngdhcjpaaDoorTc
import Derived.Test.YtbdbkjngdhcjpaaDoorM26
import Derived.Test.YtbdbkjngdhcjpaaDoorM30
import Derived.Test.YtbdbkjngdhcjpaaDoorSf
namespace Go.Proofs.YtbdbkjngdhcjpaaDoor
open Go.Proofs

structure KindB (x : Pu.Shape) : Prop where
  ws : 0 < x.ws → x.kind = 84
  hs : 0 < x.hs → x.kind = 84
  wst : x.wst = true → x.kind = 75
  hst : x.hst = true → x.kind = 75
  ws0 : 0 < x.ws → x.h ≠ 0
  hs0 : 0 < x.hs → x.w ≠ 0
theorem kind_inv {f : Pu.Src} {i j : Nat} {x : Pu.Shape} (h : Pu.shape f i = (j, some x)) : KindB x := by
  obtain ⟨_, k, hk, h⟩ := Pu.bnd_inv h
  obtain ⟨_, a, ha, h⟩ := Pu.bnd_inv h
  obtain ⟨_, _, _, h⟩ := Pu.bnd_inv h
  obtain ⟨_, b, hb, h⟩ := Pu.bnd_inv h
  rw [← Pu.ret_inv h]
  have hA : (k ≠ 84 → a.2.1 = 0) ∧ (k ≠ 75 → a.2.2 = false) := by
    obtain ⟨_, w, hw, h2⟩ := Pu.bnd_inv ha
    split at h2
    · obtain ⟨_, st, _, h3⟩ := Pu.bnd_inv h2
      rw [← Pu.ret_inv h3]
      exact ⟨fun _ => rfl, fun e => absurd ‹_› e⟩
    · split at h2
      · obtain ⟨_, st, hst, h3⟩ := Pu.bnd_inv h2
        rw [← Pu.ret_inv h3]
        exact ⟨fun e => absurd ‹_› e, fun _ => rfl⟩
      · rw [← Pu.ret_inv h2]
        exact ⟨fun _ => rfl, fun _ => rfl⟩
  have hB : (k ≠ 84 ∨ a.2.1 ≠ 0 → b.2.1 = 0) ∧ (k ≠ 75 ∨ a.2.2 = true → b.2.2 = false) := by
    obtain ⟨_, w, hw, h2⟩ := Pu.bnd_inv hb
    split at h2
    · rename_i e
      obtain ⟨_, _, _, h3⟩ := Pu.bnd_inv h2
      rw [← Pu.ret_inv h3]
      refine ⟨fun _ => rfl, fun e2 => ?_⟩
      rcases e2 with e2 | e2
      · exact absurd e.1 e2
      · rw [e.2] at e2
        cases e2
    · split at h2
      · rw [← Pu.ret_inv h2]
        exact ⟨fun _ => rfl, fun _ => rfl⟩
      · rename_i e
        obtain ⟨_, st, hst, h3⟩ := Pu.bnd_inv h2
        rw [← Pu.ret_inv h3]
        refine ⟨fun e2 => ?_, fun _ => rfl⟩
        exfalso
        apply e
        rcases e2 with e2 | e2
        · exact Or.inl e2
        · exact Or.inr (Or.inr e2)
  obtain ⟨a1, a2⟩ := hA
  obtain ⟨b1, b2⟩ := hB
  have hC : (k = 84 → a.2.1 ≠ 0 → b.1 ≠ 0) ∧ (k = 84 → a.1 = 0 → b.2.1 = 0) := by
    obtain ⟨_, w, hw, h2⟩ := Pu.bnd_inv hb
    have hw := Pu.number_inv hw
    have lo : k = 84 → a.2.1 ≠ 0 → Pu.rowLow k a.1 a.2.1 = 1 := by
      intro e1 e2
      unfold Pu.rowLow
      rw [if_neg (by omega), if_pos (Or.inr e2)]
    split at h2
    · rename_i e
      obtain ⟨_, _, _, h3⟩ := Pu.bnd_inv h2
      rw [← Pu.ret_inv h3]
      exact ⟨fun e1 => by omega, fun _ _ => rfl⟩
    · split at h2
      · rw [← Pu.ret_inv h2]
        exact ⟨fun e1 e2 => by have := lo e1 e2; simp only; omega, fun _ _ => rfl⟩
      · rename_i e
        obtain ⟨_, st, hst, h3⟩ := Pu.bnd_inv h2
        rw [← Pu.ret_inv h3]
        exact ⟨fun e1 e2 => by have := lo e1 e2; simp only; omega, fun e1 e2 => absurd (Or.inr (Or.inl e2)) e⟩
  obtain ⟨d1, d2⟩ := hC
  refine ⟨fun h => ?_, fun h => ?_, fun h => ?_, fun h => ?_, fun h => ?_, fun h => ?_⟩
  · by_cases e : k = 84
    · exact e
    · have := a1 e
      simp only at h
      omega
  · by_cases e : k = 84
    · exact e
    · have := b1 (Or.inl e)
      simp only at h
      omega
  · by_cases e : k = 75
    · exact e
    · have := a2 e
      simp only at h
      rw [this] at h
      cases h
  · by_cases e : k = 75
    · exact e
    · have := b2 (Or.inl e)
      simp only at h
      rw [this] at h
      cases h
  · have e : k = 84 := by
      by_cases e : k = 84
      · exact e
      · have := a1 e
        simp only at h
        omega
    exact d1 e (by simp only at h; omega)
  · have e : k = 84 := by
      by_cases e : k = 84
      · exact e
      · have := b1 (Or.inl e)
        simp only at h
        omega
    intro e2
    have := d2 e e2
    simp only at h
    omega
theorem read_kind {f : Pu.Src} {j : Nat} {p : Pu.Parts} (h : Pu.read f = (j, some p)) : KindB p.shape := by
  unfold Pu.read at h
  rcases e : Pu.pre f 0 with ⟨i, _ | a⟩
  · simp [e] at h
  · simp only [e] at h
    obtain ⟨_, x, hx, h2⟩ := Pu.bnd_inv e
    obtain ⟨_, y, hy, h3⟩ := Pu.bnd_inv h2
    have h4 := Pu.ret_inv h3
    rcases e2 : Pu.body a.1.1.states 401 [] f i with ⟨k, _ | rs⟩
    · simp [e2] at h
    · simp only [e2] at h
      have h5 := Option.some.inj (Prod.mk.inj h).2
      subst h4
      rw [← h5]
      obtain ⟨_, r, hr, h6⟩ := Pu.bnd_inv hx
      obtain ⟨_, _, _, h6⟩ := Pu.bnd_inv h6
      obtain ⟨_, s, hs, h6⟩ := Pu.bnd_inv h6
      obtain ⟨_, _, _, h6⟩ := Pu.bnd_inv h6
      obtain ⟨_, ag, _, h6⟩ := Pu.bnd_inv h6
      obtain ⟨_, _, _, h6⟩ := Pu.bnd_inv h6
      have h7 := Pu.ret_inv h6
      rw [← h7]
      exact kind_inv hs
end Go.Proofs.YtbdbkjngdhcjpaaDoor
namespace Go.Proofs.YtbdbkjngdhcjpaaDoor
open Go.RowKit
open Go.Proofs

theorem foldok_of {x : Pu.Shape} (hx : Pu.ShapeOk x) (hk : KindB x) : FoldOk x := by
  have o := hx.open_
  have ws := hx.ws
  have hs := hx.hs
  have w0 := hx.w0
  have h0 := hx.h0
  refine ⟨⟨hx.w0, hx.w12⟩, ⟨hx.h0, hx.h12⟩, by omega, by omega, fun h => ?_, fun h => ?_⟩
  · unfold turnW at h
    have k : x.kind = 75 ∨ x.kind = 67 := by
      rcases Bool.or_eq_true_iff.1 h with h | h
      · exact Or.inl (hk.wst h)
      · exact Or.inr (by simpa using h)
    by_cases e : x.w = 0
    · have := o (Or.inl e)
      omega
    · omega
  · unfold turnH at h
    have k : x.kind = 75 ∨ x.kind = 67 := by
      rcases Bool.or_eq_true_iff.1 h with h | h
      · exact Or.inl (hk.hst h)
      · exact Or.inr (by simpa using h)
    by_cases e : x.h = 0
    · have := o (Or.inr e)
      omega
    · omega
/-- What stays of a world, whatever is called on it: rule and shape. -/
structure Kin (r : Pu.Rule) (x : Pu.Shape) : Prop where
  rule : RuleOk r
  st : 2 ≤ r.states ∧ r.states ≤ 9
  ar : r.around = 77 ∨ r.around = 86 ∨ r.around = 72
  shape : Pu.ShapeOk x
  kind : KindB x
  one : OneB x
theorem Kin.fo {r : Pu.Rule} {x : Pu.Shape} (h : Kin r x) : FoldOk x := foldok_of h.shape h.kind
end Go.Proofs.YtbdbkjngdhcjpaaDoor
namespace Go.Proofs.YtbdbkjngdhcjpaaDoor
open Go.RowKit
open Go.Proofs

/-- A world of the program's, as it is thought of. -/
structure Md where
  r : Pu.Rule
  x : Pu.Shape
  age : Int
  g : Gs
def MdAt (w : World) (q : Nat) (m : Md) : Prop := GsAt w q (preOf m.r m.x m.age) m.x.w m.x.h m.g
structure MdOk (m : Md) : Prop where
  kin : Kin m.r m.x
  ok : GsOk m.r.states m.x.w m.x.h m.g
  age : 0 ≤ m.age ∧ m.age ≤ 999999
theorem MdAt.keep {S : Nat → Prop} {w w' : World} {q : Nat} {m : Md} (h : MdAt w q m) (k : Kp S w w') (hn : ¬ S q) : MdAt w' q m := GrAt.keep h k hn
theorem MdAt.lt {w : World} {q : Nat} {m : Md} (h : MdAt w q m) : q < w.heap.size := GrAt.lt h
theorem layG_ok {c : Int} {x : Pu.Shape} (hx : Pu.ShapeOk x) (col : Int) : ∀ (rs : List Pu.Run) (a b : Int) (g : Gs), (∀ r, r ∈ rs → Pu.RunOk c r) → GsOk c x.w x.h g → GsOk c x.w x.h (layG x col rs a b g).2 := by
  intro rs
  induction rs with
  | nil => intro a b g _ h; exact h
  | cons rn rs ih =>
    intro a b g hr h
    have h1 := hr rn List.mem_cons_self
    have h2 : ∀ r, r ∈ rs → Pu.RunOk c r := fun r hm => hr r (List.mem_cons_of_mem _ hm)
    have h3 := layRunG_ok hx h a b rn ⟨h1.2.2.1, h1.2.2.2⟩
    unfold layG
    split
    · exact ih _ _ _ h2 h
    · split
      · exact h3
      · exact ih _ _ _ h2 h3
theorem laidG_ok {p : Pu.Parts} (hp : Pu.PartsOk p) : GsOk p.rule.states p.shape.w p.shape.h (laidG p noS).2 :=
  layG_ok hp.shape _ _ _ _ _ hp.runs (empty_ok (by have := hp.states; omega) hp.shape)
/-- What Load makes of a text: its answer, and the world. -/
def loadM (s : ByteArray) : Int × Option Md :=
  if 400 < s.size then (1, none)
  else match Pu.read (src s) with
    | (_, none) => (2, none)
    | (_, some p) => if loadE p noS = 0 then (0, some ⟨p.rule, p.shape, p.age, (laidG p noS).2⟩) else (loadE p noS, none)
structure LoadMd (w w' : World) (s : ByteArray) (u : Value) : Prop where
  good : ∀ m, (loadM s).2 = some m → (loadM s).1 = 0 ∧ ∃ q, u = .pointer (some ⟨q, 0, none⟩) ∧ w.heap.size ≤ q ∧ MdAt w' q m ∧ MdOk m
  bad : (loadM s).2 = none → (loadM s).1 ≠ 0 ∧ u = .pointer none
theorem Load_md (s : ByteArray) (hm : s.size ≤ maxLen) (w : World) :
    Calls Tryd.prog 12 #[.string s] w fun e w' => (∃ u z, e = .returned (.tuple #[u, .int .i64 z, .int .i64 (loadM s).1]) ∧ LoadMd w w' s u) ∧ Kp (fun _ => False) w w' := by
  by_cases h4 : 400 < s.size
  · have e : loadM s = (1, none) := by unfold loadM; rw [if_pos h4]
    refine (Load_long s w h4 hm).mono ?_
    rintro e' w' ⟨rfl, rfl⟩
    exact ⟨⟨_, _, by rw [e], ⟨fun m hm => (by rw [e] at hm; cases hm), fun _ => ⟨by rw [e]; simp, rfl⟩⟩⟩, Kp.refl _ _⟩
  · rcases hR : Pu.read (src s) with ⟨j, _ | p⟩
    · have e : loadM s = (2, none) := by unfold loadM; rw [if_neg h4, hR]
      refine (Load_none s w (by omega) j hR).mono ?_
      rintro e' w' ⟨rfl, k⟩
      exact ⟨⟨_, _, by rw [e], ⟨fun m hm => (by rw [e] at hm; cases hm), fun _ => ⟨by rw [e]; simp, rfl⟩⟩⟩, k⟩
    · have hp := Pu.read_inv hR
      obtain ⟨one, ar⟩ := read_one hR
      have kd := read_kind hR
      have e : loadM s = if loadE p noS = 0 then (0, some ⟨p.rule, p.shape, p.age, (laidG p noS).2⟩) else (loadE p noS, none) := by unfold loadM; rw [if_neg h4, hR]
      refine (Load_gen s w (by omega) j p hR).mono ?_
      rintro e' w' ⟨⟨u, rfl, ⟨lb, lg⟩⟩, k⟩
      by_cases h0 : loadE p noS = 0
      · rw [if_pos h0] at e
        obtain ⟨q, hu, hq, rk, gs⟩ := lg h0
        refine ⟨⟨_, _, by rw [e, h0], ⟨fun m hm => ?_, fun hn => (by rw [e] at hn; cases hn)⟩⟩, k⟩
        rw [e] at hm
        simp only [Option.some.injEq] at hm
        subst hm
        exact ⟨by rw [e], q, hu, hq, gs, ⟨⟨rk, hp.states, ar, hp.shape, kd, one⟩, laidG_ok hp, hp.age⟩⟩
      · rw [if_neg h0] at e
        exact ⟨⟨_, _, by rw [e], ⟨fun m hm => (by rw [e] at hm; cases hm), fun _ => ⟨by rw [e]; exact h0, lb h0⟩⟩⟩, k⟩
/-- Put: what is refused changes nothing. -/
theorem put_md (q : Nat) (m : Md) (hm : MdOk m) (X Y s : Int) (w : World) (h : MdAt w q m) :
    Calls Tryd.prog 16 #[.pointer (some ⟨q, 0, none⟩), .int .i64 X, .int .i64 Y, .int .i64 s] w fun e w' => (∃ c g, e = .returned (.int .i64 c) ∧ MdAt w' q { m with g := g } ∧ MdOk { m with g := g } ∧ (c ≠ 0 → g = m.g)) ∧ Kp (· = q) w w' := by
  have kin := hm.kin
  by_cases h1 : hasB m.x X Y = true
  · by_cases h2 : nearB m.x X Y = true
    · by_cases h3 : 0 ≤ s ∧ s < m.r.states
      · refine (wput_in q m.r m.x m.age m.g X Y s w h kin.rule kin.shape hm.ok.lb hm.ok.tb h1 h2 h3).mono ?_
        rintro e w' ⟨rfl, g1, k1⟩
        have sp := spot_of kin.shape h1 h2
        by_cases hf : s = 0 ∨ Fits m.x.w m.x.h m.g X Y
        · obtain ⟨p1, p2, _⟩ := put_spec (side_of kin.shape) hm.ok sp h3 hf
          rw [p1, if_pos rfl]
          exact ⟨⟨_, (putG m.x.w m.x.h m.g X Y s).2, rfl, g1, ⟨kin, p2, hm.age⟩, fun h => absurd rfl h⟩, k1⟩
        · have pf := put_fail (side_of kin.shape) hf (g := m.g)
          rw [pf] at g1 ⊢
          exact ⟨⟨_, m.g, rfl, g1, hm, fun _ => rfl⟩, k1⟩
      · refine (wput_nostate q m.r m.x m.age m.g X Y s w h kin.rule h1 h2 h3).mono ?_
        rintro e w' ⟨rfl, g1, k1⟩
        exact ⟨⟨_, m.g, rfl, g1, hm, fun _ => rfl⟩, k1⟩
    · refine (wput_nonear q m.r m.x m.age m.g X Y s w h kin.rule h1 (by simpa using h2)).mono ?_
      rintro e w' ⟨rfl, g1, k1⟩
      exact ⟨⟨_, m.g, rfl, g1, hm, fun _ => rfl⟩, k1⟩
  · refine (wput_nohas q m.r m.x m.age m.g X Y s w h kin.rule (by simpa using h1)).mono ?_
    rintro e w' ⟨rfl, g1, k1⟩
    exact ⟨⟨_, m.g, rfl, g1, hm, fun _ => rfl⟩, k1⟩
/-- What Step makes of a world: its answer, and the world behind it. -/
def stepM (m : Md) (n : Int) : Int × Md :=
  if n < 0 ∨ 100 < n ∨ 999999 < m.age + n then (7, m)
  else if (stepG m.r m.x m.g n.toNat).1 = true then (0, { m with age := m.age + n, g := (stepG m.r m.x m.g n.toNat).2 }) else (4, m)
theorem stepM_bad {m : Md} {n : Int} (h : (stepM m n).1 ≠ 0) : (stepM m n).2 = m := by
  unfold stepM at *
  split
  · rfl
  · rename_i h1
    rw [if_neg h1] at h
    split
    · rename_i h2
      rw [if_pos h2] at h
      exact absurd rfl h
    · rfl
theorem stepM_ok {m : Md} (h : MdOk m) (n : Int) : MdOk (stepM m n).2 := by
  unfold stepM
  have ha := h.age
  split
  · exact h
  · split
    · exact ⟨h.kin, stepG_ok h.kin.st.1 h.kin.shape h.ok _, by show 0 ≤ m.age + n ∧ m.age + n ≤ 999999; omega⟩
    · exact h
theorem step_md (q : Nat) (m : Md) (hm : MdOk m) (n : Int) (w : World) (h : MdAt w q m) :
    Calls Tryd.prog 17 #[.pointer (some ⟨q, 0, none⟩), .int .i64 n] w fun e w' => (e = .returned (.int .i64 (stepM m n).1) ∧ MdAt w' q (stepM m n).2) ∧ Kp (· = q) w w' := by
  have kin := hm.kin
  have ha := hm.age
  unfold stepM
  by_cases hb : n < 0 ∨ 100 < n ∨ 999999 < m.age + n
  · rw [if_pos hb]
    refine (wstep_no q m.r m.x m.age m.g n w h kin.rule hm.age hb).mono ?_
    rintro e w' ⟨rfl, rfl⟩
    exact ⟨⟨rfl, h⟩, Kp.refl _ _⟩
  · rw [if_neg hb]
    obtain ⟨k, rfl⟩ := Int.eq_ofNat_of_zero_le (show 0 ≤ n by omega)
    rw [Int.toNat_natCast]
    refine (wstep_exact q m.r m.x m.age m.g k w h kin.rule kin.shape (fun _ => kin.fo) kin.ar kin.st.1 kin.st.2 hm.ok (by omega) ha.1 (by omega)).mono ?_
    rintro e w' ⟨rfl, g1, k1⟩
    by_cases c : (stepG m.r m.x m.g k).1 = true
    · rw [if_pos c, if_pos c] at g1
      rw [if_pos c, if_pos c]
      exact ⟨⟨rfl, g1⟩, k1⟩
    · rw [if_neg c, if_neg c] at g1
      rw [if_neg c, if_neg c]
      exact ⟨⟨rfl, g1⟩, k1⟩
/-- So many generations and then so many more. -/
theorem stepG_add (r : Pu.Rule) (x : Pu.Shape) (g : Gs) (a : Nat) (h : (stepG r x g a).1 = true) : ∀ b : Nat, stepG r x g (a + b) = stepG r x (stepG r x g a).2 b := by
  intro b
  induction b with
  | zero =>
    show stepG r x g a = (true, (stepG r x g a).2)
    rw [← h]
  | succ b ih =>
    show (if (stepG r x g (a + b)).1 = false then stepG r x g (a + b) else nextG r x (stepG r x g (a + b)).2) = (if (stepG r x (stepG r x g a).2 b).1 = false then stepG r x (stepG r x g a).2 b else nextG r x (stepG r x (stepG r x g a).2 b).2)
    rw [ih]
end Go.Proofs.YtbdbkjngdhcjpaaDoor
namespace Go.Proofs.YtbdbkjngdhcjpaaDoor
open Go.RowKit
open Go.Proofs

/-- What a world is saved as. -/
def saveM (m : Md) : ByteArray := saveT m.r m.x m.age m.g.l m.g.t m.g.S
theorem save_md (q : Nat) (m : Md) (hm : MdOk m) (w : World) (h : MdAt w q m) (ht : Tab w) :
    Calls Tryd.prog 8 #[.pointer (some ⟨q, 0, none⟩)] w fun e w' => e = .returned (.string (saveM m)) ∧ Kp (fun _ => False) w w' := by
  have hx := hm.kin.shape
  have kd := hx.kind
  have ws := hx.ws
  have hs := hx.hs
  have w0 := hx.w0
  have w12 := hx.w12
  have h0 := hx.h0
  have h12 := hx.h12
  have lb := hm.ok.lb
  have tb := hm.ok.tb
  have ar := hm.kin.ar
  have age := hm.age
  have hkd : 0 ≤ m.x.kind ∧ m.x.kind < 256 := by
    simp at kd
    omega
  exact save_any q m.r m.x m.age m.g.l m.g.t m.g.S w h ht hm.kin.rule (by omega) hm.kin.st hkd ⟨w0, w12⟩ ⟨h0, h12⟩ (by omega) (by omega) (by omega) (by omega) (by omega) (by omega) (by omega)
end Go.Proofs.YtbdbkjngdhcjpaaDoor
