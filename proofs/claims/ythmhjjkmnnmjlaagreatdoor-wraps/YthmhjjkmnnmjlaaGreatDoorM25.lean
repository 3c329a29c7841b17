import Derived.Test.YthmhjjkmnnmjlaaGreatDoorXqa
import Derived.Test.YthmhjjkmnnmjlaaGreatDoorXqb
import Derived.Test.YthmhjjkmnnmjlaaGreatDoorM21
import Derived.Test.YthmhjjkmnnmjlaaGreatDoorM14
namespace Go.Proofs.YthmhjjkmnnmjlaaGreatDoor
open Go.RowKit
open Go.Proofs

theorem xhead_any (q : Nat) (r : Pu.Rule) (x : Pu.Shape) (age : Int) (g1 g2 : Nat) (v : Value) (w : World) (h : HdAt w q r x age g1 g2 v) (hb : HdB r x age) (ho : OneB x) :
    Calls Tryz.prog 43 #[.pointer (some ⟨q, 0, none⟩)] w fun e w' => e = .returned (.string (ustr (xheadT r x age))) ∧ Kp (fun _ => False) w w' := by
  have b1 := hb.ws
  have b2 := hb.hs
  have b3 := hb.st
  by_cases hC : 2 < r.states
  · by_cases e1 : 0 < x.ws
    · obtain ⟨o1, o2, o3⟩ := ho.ws e1
      exact xhead_b_ws q r x age g1 g2 v w h hb hC e1 o1 o2 o3
    · by_cases e2 : x.wst = true
      · obtain ⟨o1, o2, o3⟩ := ho.wst e2
        exact xhead_b_wst q r x age g1 g2 v w h hb hC o1 e2 o2 o3
      · by_cases e3 : 0 < x.hs
        · obtain ⟨o1, o2, o3⟩ := ho.hs e3
          exact xhead_b_hs q r x age g1 g2 v w h hb hC o1 o2 e3 o3
        · by_cases e4 : x.hst = true
          · obtain ⟨o1, o2, o3⟩ := ho.hst e4
            exact xhead_b_hst q r x age g1 g2 v w h hb hC o1 o2 o3 e4
          · exact xhead_b_no q r x age g1 g2 v w h hb hC (by omega) (by simpa using e2) (by omega) (by simpa using e4)
  · have hC' : r.states = 2 := by omega
    by_cases e1 : 0 < x.ws
    · obtain ⟨o1, o2, o3⟩ := ho.ws e1
      exact xhead_s_ws q r x age g1 g2 v w h hb hC' e1 o1 o2 o3
    · by_cases e2 : x.wst = true
      · obtain ⟨o1, o2, o3⟩ := ho.wst e2
        exact xhead_s_wst q r x age g1 g2 v w h hb hC' o1 e2 o2 o3
      · by_cases e3 : 0 < x.hs
        · obtain ⟨o1, o2, o3⟩ := ho.hs e3
          exact xhead_s_hs q r x age g1 g2 v w h hb hC' o1 o2 e3 o3
        · by_cases e4 : x.hst = true
          · obtain ⟨o1, o2, o3⟩ := ho.hst e4
            exact xhead_s_hst q r x age g1 g2 v w h hb hC' o1 o2 o3 e4
          · exact xhead_s_no q r x age g1 g2 v w h hb hC' (by omega) (by simpa using e2) (by omega) (by simpa using e4)
end Go.Proofs.YthmhjjkmnnmjlaaGreatDoor
namespace Go.Proofs.YthmhjjkmnnmjlaaGreatDoor
open Go.RowKit
open Go.Proofs

/-- How many of these a list opens with. -/
def lead (a : UInt8) : List UInt8 → Nat
  | [] => 0
  | b :: L => if b = a then lead a L + 1 else 0
theorem lead_le (a : UInt8) : ∀ L : List UInt8, lead a L ≤ L.length := by
  intro L
  induction L with
  | nil => simp [lead]
  | cons b L ih =>
    unfold lead
    split
    · simp; omega
    · simp
/-- A text of single signs, in runs: at most n of them. -/
def rleN : Nat → List UInt8 → List UInt8
  | 0, _ => []
  | _ + 1, [] => []
  | n + 1, a :: L => (if 1 < lead a L + 1 then Lib.itoa ((lead a L + 1 : Nat) : Int) else []) ++ [a] ++ rleN n (L.drop (lead a L))
theorem rleN_more : ∀ (n m : Nat) (L : List UInt8), L.length ≤ n → L.length ≤ m → rleN n L = rleN m L := by
  intro n
  induction n with
  | zero =>
    intro m L h _
    have : L = [] := List.length_eq_zero_iff.1 (by omega)
    subst this
    cases m <;> rfl
  | succ n ih =>
    intro m L h1 h2
    cases L with
    | nil => cases m <;> rfl
    | cons a L =>
      cases m with
      | zero => simp at h2
      | succ m =>
        unfold rleN
        rw [ih m (L.drop (lead a L)) (by simp at h1 ⊢; omega) (by simp at h2 ⊢; omega)]
/-- A text of single signs, in runs. -/
def rle (L : List UInt8) : List UInt8 := rleN L.length L
theorem rle_nil : rle [] = [] := rfl
theorem rle_cons (a : UInt8) (L : List UInt8) : rle (a :: L) = (if 1 < lead a L + 1 then Lib.itoa ((lead a L + 1 : Nat) : Int) else []) ++ [a] ++ rle (L.drop (lead a L)) := by
  unfold rle
  rw [rleN_more (L.drop (lead a L)).length L.length _ (Nat.le_refl _) (by simp)]
  rfl
abbrev Rs := List (Nat × UInt8)
def unr : Rs → List UInt8
  | [] => []
  | p :: l => List.replicate p.1 p.2 ++ unr l
def wr : Rs → List UInt8
  | [] => []
  | p :: l => (if 1 < p.1 then Lib.itoa (p.1 : Int) else []) ++ [p.2] ++ wr l
theorem unr_app (l m : Rs) : unr (l ++ m) = unr l ++ unr m := by
  induction l with
  | nil => rfl
  | cons p l ih => simp [unr, ih]
theorem wr_app (l m : Rs) : wr (l ++ m) = wr l ++ wr m := by
  induction l with
  | nil => rfl
  | cons p l ih => simp [wr, ih]
structure Pr (l : Rs) : Prop where
  pos : ∀ p, p ∈ l → 1 ≤ p.1
  ne : ∀ (i : Nat) (p q : Nat × UInt8), l[i]? = some p → l[i + 1]? = some q → p.2 ≠ q.2
theorem Pr.nil : Pr [] := ⟨by simp, by simp⟩
theorem Pr.one {k : Nat} {m : UInt8} (h : 1 ≤ k) : Pr [(k, m)] := ⟨by simp [h], by intro i p q h1 h2; simp at h2⟩
theorem Pr.tail {p : Nat × UInt8} {l : Rs} (h : Pr (p :: l)) : Pr l :=
  ⟨fun q hq => h.pos q (List.mem_cons_of_mem _ hq), fun i a b h1 h2 => h.ne (i + 1) a b (by simpa using h1) (by simpa using h2)⟩
theorem Pr.app {l m : Rs} (h : Pr l) (h2 : Pr m) (h3 : ∀ p q, l.getLast? = some p → m[0]? = some q → p.2 ≠ q.2) : Pr (l ++ m) := by
  refine ⟨fun p hp => ?_, fun i p q a b => ?_⟩
  · rcases List.mem_append.1 hp with hp | hp
    · exact h.pos p hp
    · exact h2.pos p hp
  · rcases Nat.lt_or_ge (i + 1) l.length with c | c
    · rw [List.getElem?_append_left (by omega)] at a b
      exact h.ne i p q a b
    · rw [List.getElem?_append_right (by omega)] at b
      rcases Nat.lt_or_ge i l.length with d | d
      · rw [List.getElem?_append_left (by omega)] at a
        have e : i + 1 - l.length = 0 := by omega
        rw [e] at b
        refine h3 p q ?_ b
        rw [List.getLast?_eq_getElem?, show l.length - 1 = i by omega]
        exact a
      · rw [List.getElem?_append_right (by omega)] at a
        rw [show i + 1 - l.length = i - l.length + 1 by omega] at b
        exact h2.ne _ p q a b
theorem lead_rep (a : UInt8) (L : List UInt8) (h : ∀ b, L[0]? = some b → b ≠ a) : ∀ k : Nat, lead a (List.replicate k a ++ L) = k := by
  intro k
  induction k with
  | zero =>
    cases L with
    | nil => rfl
    | cons b L =>
      have := h b (by simp)
      simp [lead, this]
  | succ k ih =>
    rw [List.replicate_succ, List.cons_append, lead, if_pos rfl, ih]
theorem unr_head : ∀ {l : Rs}, (∀ p, p ∈ l → 1 ≤ p.1) → ∀ b, (unr l)[0]? = some b → ∃ p, l[0]? = some p ∧ p.2 = b := by
  intro l h b hb
  cases l with
  | nil => simp [unr] at hb
  | cons p l =>
    refine ⟨p, rfl, ?_⟩
    have h1 := h p (by simp)
    unfold unr at hb
    rw [List.getElem?_append_left (by simp; omega), List.getElem?_replicate, if_pos (by omega)] at hb
    simpa using hb
/-- Runs are written as they are. -/
theorem rle_unr : ∀ l : Rs, Pr l → rle (unr l) = wr l := by
  intro l
  induction l with
  | nil => intro _; unfold unr wr; rw [rle_nil]
  | cons p l ih =>
    intro h
    have h1 := h.pos p (by simp)
    have ht := ih h.tail
    obtain ⟨k, a⟩ := p
    obtain ⟨k, rfl⟩ : ∃ j, k = j + 1 := ⟨k - 1, by simp at h1; omega⟩
    have hL : ∀ b, (unr l)[0]? = some b → b ≠ a := by
      intro b hb
      obtain ⟨q, hq, rfl⟩ := unr_head h.tail.pos b hb
      exact fun e => h.ne 0 (k + 1, a) q rfl (by simpa using hq) e.symm
    unfold unr wr
    rw [List.replicate_succ, List.cons_append, rle_cons, lead_rep a _ hL k, List.drop_left' (by simp), ht]
/-- A run, as the program writes it. -/
theorem run_wr {k : Nat} (h : 1 ≤ k) (m : Int) : Sv.run (k : Int) m = wr [(k, b8 m)] := by
  unfold Sv.run wr wr
  rw [if_neg (by omega)]
  by_cases e : k = 1
  · subst e; simp
  · rw [if_neg (by omega), if_pos (show 1 < (k, b8 m).1 by simp; omega)]
    simp
/-- A row, as the document writes it: what stands, and the dots behind. -/
def xrowN (G : Int → Int) (l : Int) : Nat → List UInt8 × List UInt8
  | 0 => ([], [])
  | n + 1 => if G (l + n) = 0 then ((xrowN G l n).1, (xrowN G l n).2 ++ [46]) else ((xrowN G l n).1 ++ (xrowN G l n).2 ++ [b8 (64 + G (l + n))], [])
def xrow (G : Int → Int) (l : Int) (n : Nat) : List UInt8 := (xrowN G l n).1
theorem xrowN_len (G : Int → Int) (l : Int) : ∀ n : Nat, (xrowN G l n).1.length + (xrowN G l n).2.length = n := by
  intro n
  induction n with
  | zero => rfl
  | succ n ih =>
    unfold xrowN
    split
    · simp; omega
    · simp; omega
theorem b8_inj {a b : Int} (a0 : 0 ≤ a) (a1 : a < 256) (b0 : 0 ≤ b) (b1 : b < 256) (h : b8 a = b8 b) : a = b := by
  have := congrArg UInt8.toNat h
  unfold b8 at this
  simp at this
  omega
theorem letter_zero : b8 (Sv.letter 0) = 46 := rfl
theorem letter_pos {s : Int} (h0 : 1 ≤ s) (h1 : s ≤ 8) : Sv.letter s = 64 + s := by
  unfold Sv.letter Pu.stateLetter
  rw [if_neg (by omega)]
theorem letter_inj {s t : Int} (h0 : 0 ≤ s) (h1 : s ≤ 8) (g0 : 0 ≤ t) (g1 : t ≤ 8) (h : b8 (Sv.letter s) = b8 (Sv.letter t)) : s = t := by
  have e : ∀ u : Int, 0 ≤ u → u ≤ 8 → Sv.letter u = if u = 0 then 46 else 64 + u := by
    intro u u0 u1
    unfold Sv.letter Pu.stateLetter
    split <;> split <;> omega
  have h2 := b8_inj (by rw [e s h0 h1]; split <;> omega) (by rw [e s h0 h1]; split <;> omega) (by rw [e t g0 g1]; split <;> omega) (by rw [e t g0 g1]; split <;> omega) h
  rw [e s h0 h1, e t g0 g1] at h2
  split at h2 <;> split at h2 <;> omega
theorem letter_dollar {s : Int} (h0 : 0 ≤ s) (h1 : s ≤ 8) : b8 (Sv.letter s) ≠ 36 := by
  have e : ∀ k : Fin 9, b8 (Sv.letter (k.val : Int)) ≠ 36 := by decide
  have := e ⟨s.toNat, by omega⟩
  simpa [show ((s.toNat : Nat) : Int) = s by omega] using this
/-- A row amid: runs, and one that is open. -/
structure RwOk (r : Sv.Rw) (s d : List UInt8) (rs : Rs) : Prop where
  st : 0 ≤ r.state ∧ r.state ≤ 8
  cn : ∃ k : Nat, r.count = k ∧ (k = 0 → rs = [] ∧ r.state = 0) ∧ (r.state = 0 → unr rs = s ∧ d = List.replicate k 46) ∧ (r.state ≠ 0 → d = [] ∧ s = unr rs ++ List.replicate k (b8 (Sv.letter r.state)))
  pr : Pr rs
  text : r.text = wr rs
  last : ∀ p, rs.getLast? = some p → p.2 ≠ b8 (Sv.letter r.state)
  signs : ∀ p, p ∈ rs → ∃ t : Int, 0 ≤ t ∧ t ≤ 8 ∧ p.2 = b8 (Sv.letter t)
theorem RwOk.close {r : Sv.Rw} {s d : List UInt8} {rs : Rs} (h : RwOk r s d rs) : ∃ rs', Pr rs' ∧ r.text ++ Sv.run r.count (Sv.letter r.state) = wr rs' ∧ (r.count ≠ 0 → rs'.getLast?.map (·.2) = some (b8 (Sv.letter r.state))) ∧ (r.count = 0 → rs' = []) ∧ unr rs' = s ++ d ∧ ∀ p, p ∈ rs' → ∃ t : Int, 0 ≤ t ∧ t ≤ 8 ∧ p.2 = b8 (Sv.letter t) := by
  obtain ⟨k, e, k0, kz, kn⟩ := h.cn
  by_cases hk : k = 0
  · obtain ⟨g1, g2⟩ := k0 hk
    obtain ⟨z1, z2⟩ := kz g2
    refine ⟨rs, h.pr, ?_, fun hc => absurd (by rw [e, hk]; rfl) hc, fun _ => g1, ?_, h.signs⟩
    · rw [e, hk, h.text]
      simp [Sv.run]
    · rw [z1, z2, hk]
      simp
  · refine ⟨rs ++ [(k, b8 (Sv.letter r.state))], h.pr.app (Pr.one (by omega)) ?_, ?_, ?_, fun hc => absurd hc (by omega), ?_, ?_⟩
    · intro p q hp hq
      have := h.last p hp
      simp at hq
      rw [← hq]
      exact this
    · rw [h.text, e, run_wr (by omega), wr_app]
    · intro _
      simp
    · rw [unr_app]
      by_cases z : r.state = 0
      · obtain ⟨z1, z2⟩ := kz z
        rw [z1, z2, z, letter_zero]
        simp [unr]
      · obtain ⟨z1, z2⟩ := kn z
        rw [z1, z2]
        simp [unr]
    · intro p hp
      rcases List.mem_append.1 hp with hp | hp
      · exact h.signs p hp
      · simp at hp
        exact ⟨r.state, h.st.1, h.st.2, by rw [hp]⟩
theorem row_ok (G : Int → Int) (l : Int) (hG : ∀ x, 0 ≤ G x ∧ G x ≤ 8) : ∀ n : Nat, ∃ rs, RwOk (Sv.rowN G l n) (xrowN G l n).1 (xrowN G l n).2 rs := by
  intro n
  induction n with
  | zero =>
    exact ⟨[], ⟨⟨Int.le_refl 0, show (0 : Int) ≤ 8 by omega⟩, ⟨0, rfl, fun _ => ⟨rfl, rfl⟩, fun _ => ⟨rfl, rfl⟩, fun h => absurd rfl h⟩, Pr.nil, rfl, by simp, by simp⟩⟩
  | succ n ih =>
    obtain ⟨rs, h⟩ := ih
    have hg := hG (l + n)
    unfold Sv.rowN xrowN Sv.rowStep
    generalize G (l + n) = here at *
    generalize Sv.rowN G l n = r at *
    generalize (xrowN G l n).1 = s at *
    generalize (xrowN G l n).2 = d at *
    by_cases e : here = r.state
    · rw [if_pos e]
      obtain ⟨k, ek, k0, kz, kn⟩ := h.cn
      refine ⟨rs, ⟨h.st, ⟨k + 1, by simp only; omega, fun hk => by omega, fun z => ?_, fun z => ?_⟩, h.pr, h.text, h.last, h.signs⟩⟩
      · simp only at z
        obtain ⟨z1, z2⟩ := kz z
        rw [if_pos (by omega)]
        exact ⟨z1, by simp only; rw [z2, List.replicate_succ']⟩
      · simp only at z
        obtain ⟨z1, z2⟩ := kn z
        rw [if_neg (by omega)]
        refine ⟨rfl, ?_⟩
        simp only
        rw [z1, z2, List.replicate_succ', e, letter_pos (by have := h.st; omega) h.st.2]
        simp
    · rw [if_neg e]
      obtain ⟨rs', p1, p2, p3, p4, p5, p6⟩ := h.close
      refine ⟨rs', ⟨hg, ⟨1, rfl, fun hk => by omega, fun z => ?_, fun z => ?_⟩, p1, p2, ?_, p6⟩⟩
      · simp only at z
        rw [if_pos z]
        obtain ⟨k, ek, k0, kz, kn⟩ := h.cn
        obtain ⟨z1, z2⟩ := kn (by omega)
        refine ⟨by rw [p5, z1]; simp, by rw [z1]; rfl⟩
      · simp only at z
        rw [if_neg z]
        refine ⟨rfl, ?_⟩
        simp only
        rw [p5, letter_pos (by omega) hg.2]
        rfl
      · intro p hp he
        by_cases c : r.count = 0
        · rw [p4 c] at hp
          simp at hp
        · have hl := p3 c
          rw [hp] at hl
          simp only [Option.map_some] at hl
          rw [he] at hl
          have := letter_inj hg.1 hg.2 h.st.1 h.st.2 (Option.some.inj hl)
          exact e this
/-- A row, as the program writes it, and the document's single signs. -/
theorem row_runs (G : Int → Int) (l : Int) (hG : ∀ x, 0 ≤ G x ∧ G x ≤ 8) (n : Nat) : ∃ rs, Pr rs ∧ Sv.row G l n = wr rs ∧ unr rs = xrow G l n ∧ ∀ p, p ∈ rs → p.2 ≠ 36 := by
  obtain ⟨rs, h⟩ := row_ok G l hG n
  unfold Sv.row Sv.rowEnd xrow
  have sg : ∀ rs' : Rs, (∀ p, p ∈ rs' → ∃ t : Int, 0 ≤ t ∧ t ≤ 8 ∧ p.2 = b8 (Sv.letter t)) → ∀ p, p ∈ rs' → p.2 ≠ 36 := by
    intro rs' hs p hp
    obtain ⟨t, t0, t1, t2⟩ := hs p hp
    rw [t2]
    exact letter_dollar t0 t1
  by_cases z : (Sv.rowN G l n).state = 0
  · rw [if_pos z]
    obtain ⟨k, ek, k0, kz, kn⟩ := h.cn
    exact ⟨rs, h.pr, h.text, (kz z).1, sg rs h.signs⟩
  · rw [if_neg z]
    obtain ⟨rs', p1, p2, p3, p4, p5, p6⟩ := h.close
    obtain ⟨k, ek, k0, kz, kn⟩ := h.cn
    exact ⟨rs', p1, p2, by rw [p5, (kn z).1]; simp, sg rs' p6⟩
theorem wr_nil {l : Rs} (h : wr l = []) : l = [] := by
  cases l with
  | nil => rfl
  | cons p l => simp [wr] at h
theorem unr_nil {l : Rs} (hp : Pr l) (h : unr l = []) : l = [] := by
  cases l with
  | nil => rfl
  | cons p l =>
    have := hp.pos p (by simp)
    simp [unr] at h
    omega
/-- The rows, as the document joins them. -/
def xrows (G : Int → Int → Int) (l t : Int) (n : Nat) : Nat → List UInt8
  | 0 => []
  | k + 1 => (if 0 < k then xrows G l t n k ++ [36] else xrows G l t n k) ++ xrow (fun x => G x (t + k)) l n
theorem xrows_len (G : Int → Int → Int) (l t : Int) (n : Nat) : ∀ k : Nat, (xrows G l t n k).length ≤ k * (n + 1) := by
  intro k
  induction k with
  | zero => simp [xrows]
  | succ k ih =>
    have h := xrowN_len (fun x => G x (t + k)) l n
    unfold xrows xrow
    rw [Nat.succ_mul]
    split
    · simp; omega
    · simp; omega
structure BdyOk (b : Sv.Bd) (D : List UInt8) (rs : Rs) : Prop where
  pr : Pr rs
  text : b.text = wr rs
  br : ∃ j : Nat, b.breaks = ((j + 1 : Nat) : Int) ∧ D = unr rs ++ List.replicate j 36
  last : ∀ p, p ∈ rs.getLast? → p.2 ≠ 36
theorem body_ok (G : Int → Int → Int) (l t : Int) (hG : ∀ x y, 0 ≤ G x y ∧ G x y ≤ 8) (n : Nat) : ∀ k : Nat, ∃ rs, BdyOk (Sv.bodyN G l t n (k + 1)) (xrows G l t n (k + 1)) rs := by
  intro k
  induction k with
  | zero =>
    obtain ⟨rs, h1, h2, h3, h4⟩ := row_runs (fun x => G x (t + (0 : Nat))) l (fun x => hG x _) n
    refine ⟨rs, ?_⟩
    have ea : Sv.bodyN G l t n 1 = if Sv.row (fun x => G x (t + (0 : Nat))) l n = [] then ⟨[], 0 + 1⟩ else ⟨[] ++ (Sv.run 0 36 ++ Sv.row (fun x => G x (t + (0 : Nat))) l n), 1⟩ := rfl
    have eb : xrows G l t n 1 = [] ++ xrow (fun x => G x (t + (0 : Nat))) l n := rfl
    rw [show 0 + 1 = 1 from rfl, ea, eb, h2, ← h3]
    split
    · rename_i e
      rw [wr_nil e]
      exact ⟨Pr.nil, rfl, ⟨0, rfl, rfl⟩, by simp⟩
    · refine ⟨h1, by simp [Sv.run], ⟨0, rfl, by simp⟩, fun p hp => h4 p (List.mem_of_getLast? hp)⟩
  | succ k ih =>
    obtain ⟨rs0, b⟩ := ih
    obtain ⟨rs, h1, h2, h3, h4⟩ := row_runs (fun x => G x (t + ((k + 1 : Nat) : Int))) l (fun x => hG x _) n
    unfold Sv.bodyN xrows
    rw [if_pos (by omega), h2, ← h3]
    generalize Sv.bodyN G l t n (k + 1) = b0 at *
    generalize xrows G l t n (k + 1) = D at *
    unfold Sv.bodyStep
    obtain ⟨j, e1, e2⟩ := b.br
    split
    · rename_i e
      rw [wr_nil e]
      refine ⟨rs0, ⟨b.pr, b.text, ⟨j + 1, ?_, ?_⟩, b.last⟩⟩
      · simp only; omega
      · rw [e2, List.replicate_succ']
        simp [unr]
    · rename_i e
      refine ⟨rs0 ++ ([(j + 1, 36)] ++ rs), ⟨?_, ?_, ⟨0, rfl, ?_⟩, ?_⟩⟩
      · refine b.pr.app ((Pr.one (by omega)).app h1 ?_) ?_
        · intro p q hp hq
          simp at hp
          rw [← hp]
          exact fun hc => h4 q (List.mem_of_getElem? hq) hc.symm
        · intro p q hp hq
          simp at hq
          rw [← hq]
          exact b.last p hp
      · simp only
        rw [b.text, e1, run_wr (by omega), wr_app, wr_app]
        rfl
      · rw [e2, unr_app, unr_app]
        simp [unr, List.replicate_succ']
      · intro p hp
        have hne : rs ≠ [] := fun hc => e (by rw [hc]; rfl)
        obtain ⟨z, hz⟩ : ∃ z, rs.getLast? = some z := by
          cases e4 : rs.getLast? with
          | none => exact absurd (List.getLast?_eq_none_iff.1 e4) hne
          | some z => exact ⟨z, rfl⟩
        rw [← List.append_assoc, List.getLast?_append, hz] at hp
        simp at hp
        subst hp
        exact h4 z (List.mem_of_getLast? hz)
/-- Where something stands in the last row, the program writes the document's text in runs. -/
theorem body_runs (G : Int → Int → Int) (l t : Int) (hG : ∀ x y, 0 ≤ G x y ∧ G x y ≤ 8) (n k : Nat) (hl : xrow (fun x => G x (t + k)) l n ≠ []) : rle (xrows G l t n (k + 1)) = Sv.body G l t n (k + 1) := by
  obtain ⟨rs0, h1, h2, h3, h4⟩ := row_runs (fun x => G x (t + k)) l (fun x => hG x _) n
  have hne : Sv.row (fun x => G x (t + k)) l n ≠ [] := by
    rw [h2]
    intro hc
    rw [wr_nil hc] at h3
    exact hl h3.symm
  obtain ⟨rs, b⟩ := body_ok G l t hG n k
  obtain ⟨j, e1, e2⟩ := b.br
  have hb : (Sv.bodyN G l t n (k + 1)).breaks = 1 := by
    unfold Sv.bodyN Sv.bodyStep
    rw [if_neg hne]
  have ej : j = 0 := by omega
  subst ej
  have e3 : xrows G l t n (k + 1) = unr rs := by rw [e2]; simp
  unfold Sv.body
  rw [b.text, e3, rle_unr rs b.pr]
/-- Something stands in a row that has a live cell. -/
theorem xrow_ne (G : Int → Int) (l : Int) (n : Nat) (j : Nat) (hj : j < n) (h : G (l + j) ≠ 0) : xrow G l n ≠ [] := by
  unfold xrow
  induction n with
  | zero => omega
  | succ n ih =>
    unfold xrowN
    by_cases e : j = n
    · subst e
      rw [if_neg h]
      simp
    · have := ih (by omega)
      split
      · exact this
      · simp
end Go.Proofs.YthmhjjkmnnmjlaaGreatDoor
