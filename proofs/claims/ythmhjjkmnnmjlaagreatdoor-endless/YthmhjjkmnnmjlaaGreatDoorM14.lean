import Derived.Test.YthmhjjkmnnmjlaaGreatDoorM13
import Derived.Test.YthmhjjkmnnmjlaaGreatDoorM1
import Derived.Lib.ItoaNum
import Derived.Test.YthmhjjkmnnmjlaaGreatDoorShelf
import Derived.Laws.IdiomStrings
namespace Go.Proofs.YthmhjjkmnnmjlaaGreatDoor
open Go.RowKit
open Go.Proofs

/-- A text of these bytes. -/
def ustr (L : List UInt8) : ByteArray := ⟨L.toArray⟩
theorem ustr_app (L M : List UInt8) : ustr L ++ ustr M = ustr (L ++ M) := by
  apply ByteArray.ext
  simp [ustr, ByteArray.data_append]
theorem ustr_size (L : List UInt8) : (ustr L).size = L.length := by simp [ustr, ByteArray.size]
theorem ustr_inj {L M : List UInt8} (h : ustr L = ustr M) : L = M := by
  have h2 : L.toArray = M.toArray := congrArg ByteArray.data h
  simpa using h2
def b8 (n : Int) : UInt8 := UInt8.ofNat n.toNat
theorem dec_len : ∀ u : Nat, (Lib.decDigits u).length ≤ u + 1 := by
  intro u
  induction u using Nat.strongRecOn with
  | _ u ih =>
    rw [Lib.decDigits]
    by_cases h : u < 10
    · rw [dif_pos h]; simp
    · rw [dif_neg h, List.length_append]
      have := ih (u / 10) (by omega)
      simp
      omega
theorem itoa_len (n : Int) : (Lib.itoa n).length ≤ n.natAbs + 2 := by
  unfold Lib.itoa
  split
  · have := dec_len n.natAbs
    simp
    omega
  · have := dec_len n.toNat
    omega
namespace Sv
/-- The sign of a state. -/
def letter (s : Int) : Int := Pu.stateLetter s
/-- A run. -/
def run (k m : Int) : List UInt8 := if k = 0 then [] else if k = 1 then [b8 m] else Lib.itoa k ++ [b8 m]
theorem run_len (k m : Int) : (run k m).length ≤ k.natAbs + 3 := by
  unfold run
  split
  · simp
  · split
    · simp
    · have := itoa_len k
      simp
      omega
structure Rw where
  text : List UInt8
  state : Int
  count : Int
def rowStep (r : Rw) (here : Int) : Rw := if here = r.state then ⟨r.text, r.state, r.count + 1⟩ else ⟨r.text ++ run r.count (letter r.state), here, 1⟩
def rowN (G : Int → Int) (l : Int) : Nat → Rw
  | 0 => ⟨[], 0, 0⟩
  | n + 1 => rowStep (rowN G l n) (G (l + n))
def rowEnd (r : Rw) : List UInt8 := if r.state = 0 then r.text else r.text ++ run r.count (letter r.state)
def row (G : Int → Int) (l : Int) (n : Nat) : List UInt8 := rowEnd (rowN G l n)
theorem rowN_len (G : Int → Int) (l : Int) : ∀ n : Nat, 0 ≤ (rowN G l n).count ∧ (rowN G l n).count ≤ n ∧ ((rowN G l n).text.length : Int) + (rowN G l n).count ≤ 5 * n := by
  intro n
  induction n with
  | zero => simp [rowN]
  | succ n ih =>
    unfold rowN rowStep
    split
    · simp only
      omega
    · have := run_len (rowN G l n).count (letter (rowN G l n).state)
      simp only [List.length_append]
      omega
theorem row_len (G : Int → Int) (l : Int) (n : Nat) : (row G l n).length ≤ 5 * n + 3 := by
  have h := rowN_len G l n
  unfold row rowEnd
  split
  · omega
  · have := run_len (rowN G l n).count (letter (rowN G l n).state)
    rw [List.length_append]
    omega
structure Bd where
  text : List UInt8
  breaks : Int
def bodyStep (b : Bd) (row : List UInt8) : Bd := if row = [] then ⟨b.text, b.breaks + 1⟩ else ⟨b.text ++ (run b.breaks 36 ++ row), 1⟩
def bodyN (G : Int → Int → Int) (l t : Int) (n : Nat) : Nat → Bd
  | 0 => ⟨[], 0⟩
  | k + 1 => bodyStep (bodyN G l t n k) (row (fun x => G x (t + k)) l n)
def body (G : Int → Int → Int) (l t : Int) (n k : Nat) : List UInt8 := (bodyN G l t n k).text
theorem bodyN_len (G : Int → Int → Int) (l t : Int) (n : Nat) (hn : n ≤ 64) : ∀ k : Nat, 0 ≤ (bodyN G l t n k).breaks ∧ (bodyN G l t n k).breaks ≤ k ∧ ((bodyN G l t n k).text.length : Int) + (bodyN G l t n k).breaks ≤ 400 * k := by
  intro k
  induction k with
  | zero => simp [bodyN]
  | succ k ih =>
    unfold bodyN bodyStep
    split
    · simp only
      omega
    · have h1 := run_len (bodyN G l t n k).breaks 36
      have h2 := row_len (fun x => G x (t + k)) l n
      simp only [List.length_append]
      omega
/-- The digits of a set. -/
def setN (f : List Bool) : Nat → List UInt8
  | 0 => []
  | n + 1 => if f.getD n false = true then setN f n ++ Lib.itoa n else setN f n
theorem setN_len (f : List Bool) : ∀ n : Nat, (setN f n).length ≤ n * (n + 2) := by
  intro n
  induction n with
  | zero => simp [setN]
  | succ n ih =>
    have e : (n + 1) * (n + 1 + 2) = n * (n + 2) + n + (n + 2) + 1 := by
      rw [Nat.add_mul, Nat.one_mul, show n + 1 + 2 = n + 2 + 1 by omega, Nat.mul_add n (n + 2) 1, Nat.mul_one]
      omega
    unfold setN
    split
    · have := itoa_len n
      rw [List.length_append]
      omega
    · omega
def set (f : List Bool) : List UInt8 := setN f 9
def behind (s : Int) (st : Bool) : List UInt8 := if st = true then [42] else if s = 0 then [] else [43] ++ Lib.itoa s
theorem behind_len (s : Int) (st : Bool) : (behind s st).length ≤ s.natAbs + 3 := by
  unfold behind
  split
  · simp
  · split
    · simp
    · have := itoa_len s
      simp
      omega
def ruleT (r : Pu.Rule) : List UInt8 := [b8 r.around] ++ [66] ++ set r.births ++ [47, 83] ++ set r.survivals ++ (if 2 < r.states then [47] ++ Lib.itoa r.states else [])
def shapeT (x : Pu.Shape) : List UInt8 := [b8 x.kind] ++ (Lib.itoa x.w ++ behind x.ws x.wst) ++ [44] ++ (Lib.itoa x.h ++ behind x.hs x.hst)
def headT (r : Pu.Rule) (x : Pu.Shape) (age : Int) : List UInt8 := ruleT r ++ [32] ++ shapeT x ++ [32] ++ Lib.itoa age
def placeT (L T : Int) : List UInt8 := Lib.itoa L ++ [44] ++ Lib.itoa T
/-- What a world is saved as. -/
def writeT (r : Pu.Rule) (x : Pu.Shape) (age : Int) (G : Int → Int → Int) (b : Bx) : List UInt8 :=
  if b.e = true then headT r x age ++ [32, 48, 44, 48, 32, 33]
  else headT r x age ++ [32] ++ placeT b.L b.T ++ [32] ++ body G b.L b.T (b.R - b.L + 1).toNat (b.B - b.T + 1).toNat ++ [33]
end Sv
end Go.Proofs.YthmhjjkmnnmjlaaGreatDoor
namespace Go.Proofs.YthmhjjkmnnmjlaaGreatDoor
open Go.RowKit
open Go.Proofs

/-- The table that strconv.Itoa looks into. -/
def Tab (w : World) : Prop := Lib.TabIs Tryz.prog w "internal/strconv.uint64pow10" .u64 Lib.pow10Tab
theorem Tab.keep {w w' : World} (h : Tab w) (k : Kp (fun _ => False) w w') : Tab w' := by
  unfold Tab Lib.TabIs World.var? at *
  cases hg : Tryz.prog.globalNamed "internal/strconv.uint64pow10" with
  | none => rw [hg] at h; cases h
  | some g =>
    rw [hg] at h
    simp only [Option.bind_some] at h ⊢
    have hlt : g < w.heap.size := by
      rcases Nat.lt_or_ge g w.heap.size with h' | h'
      · exact h'
      · rw [Array.getElem?_eq_none h'] at h; cases h
    rw [k.block g hlt (fun x => x)]
    exact h
theorem Kp.grown (w : World) (k : Nat) (os : Array Obj) : Kp (fun _ => False) w (Sort.grow (w.drewN k) os) := by
  refine ⟨rfl, rfl, rfl, ?_, fun i hi _ => ?_⟩
  · show w.heap.size ≤ (w.heap ++ os).size
    rw [Array.size_append]
    omega
  · show (w.heap ++ os)[i]? = w.heap[i]?
    rw [Array.getElem?_append, if_pos hi]
theorem itoa_any (n : Int) (w : World) (ht : Tab w) (h0 : -9223372036854775808 ≤ n) (h1 : n ≤ 9223372036854775807) :
    Calls Tryz.prog 70 #[.int .i64 n] w fun e w' => e = .returned (.string (ustr (Lib.itoa n))) ∧ Kp (fun _ => False) w w' :=
  (Tryz.strconv_Itoa n h0 h1 w ht).mono (by
    rintro e w' ⟨rfl, k, os, rfl⟩
    exact ⟨rfl, Kp.grown w k os⟩)
theorem wpList_convu {P : Program} {ops : Array Oper} {rest : List Oper} {o : Oper} {a : Act} {w : World} {Q : Exit → Act → World → Prop} (hgd : o.guard = none) (s d : TypeId) (x : Operand) (ho : o.op = .convert s d x) (v r : Value) (hv : a.eval x = v)
    (hr : (convert s d v).run P w = .ok r w) (h : ∀ w', w' = w → wpList P ops Q rest (a.put o.dst r) w') : wpList P ops Q (o :: rest) a w := by
  refine wpList_plain hgd fun _ hK => ?_
  unfold Oper.wp execOp
  simp [ho, hv, hr]
  exact hK _ _ (h w rfl)
/-- 'string' of a slice of one byte that was just laid. -/
theorem conv1u (w : World) (n : Int) (h0 : 0 ≤ n) (h1 : n < 256) : (convert 112 9 (.slice (some ⟨w.heap.size, 0, none⟩) 1 1)).run Tryz.prog (w.alloc (.cells #[.int .u8 n] 5)) = .ok (.string (ustr [b8 n])) (w.alloc (.cells #[.int .u8 n] 5)) := by
  have hc := run_convert_bytes_back (P := Tryz.prog) (w.alloc (.cells #[.int .u8 n] 5)) 112 9 5 ⟨w.heap.size, 0, none⟩ 1 [UInt8.ofNat n.toNat] Tryz.underlying112 Tryz.underlying5 Tryz.underlying9 (fun j hj => by
    have hj0 : j = 0 := by simp at hj; omega
    subst hj0
    show World.cell? _ ⟨w.heap.size, 0, none⟩ = _
    rw [cell_of_row _ w.heap.size 0 _ _ _ (heap_alloc_new w (.cells #[.int .u8 n] 5))]
    have e : ((UInt8.ofNat n.toNat).toNat : Int) = n := by
      rw [UInt8.toNat_ofNat']
      omega
    simp only [List.getElem_cons_zero]
    rw [e]
    rfl)
  exact hc
theorem val_int2 {k : IntKind} {a b : Int} (h : a = b) : Value.int k a = Value.int k b := by rw [h]
theorem ret_ustr {a b : ByteArray} (h : a = b) : Ending.returned (.string a) = .returned (.string b) := by rw [h]

set_option maxRecDepth 100000 in
set_option maxHeartbeats 400000 in
theorem runText_any (k m : Int) (w : World) (ht : Tab w) (hk : 0 ≤ k ∧ k ≤ 100000) (hm : 0 ≤ m ∧ m < 256) :
    Calls Tryz.prog 100 #[.int .i64 k, .int .u8 m] w fun e w' => e = .returned (.string (ustr (Sv.run k m))) ∧ Kp (fun _ => False) w w' := by
  have z1 := itoa_len k
  rw [← ustr_size] at z1
  have L1 := hide (fun (wx : World) (hx : Tab wx) => itoa_any k wx hx (by omega) (by omega))
  have HT := hide ht
  clear ht
  unfold Sv.run
  by_cases h0 : k = 0
  · rw [if_pos h0]
    subst h0
    go_enter Tryz.func100, Tryz.ntmps100
    go_wp2_with fail
    go_ret
    exact ⟨rfl, Kp.refl _ _⟩
  · rw [if_neg h0]
    have b0 : (k == 0) = false := by simpa using h0
    by_cases h1 : k = 1
    · rw [if_pos h1]
      subst h1
      go_enter Tryz.func100, Tryz.ntmps100
      go_wp2_with (refine wpList_convu rfl 112 9 _ rfl _ _ rfl (conv1u _ _ hm.1 hm.2) ?_
                   intro wz hwz
                   have KZ : Hid (Kp (fun _ => False) w wz) := by rw [hwz]; exact (Kp.refl _ _).alloc _
                   clear hwz)
      go_ret
      exact ⟨rfl, KZ.out⟩
    · rw [if_neg h1, ← ustr_app]
      have b1 : (k == 1) = false := by simpa using h1
      have z2 : (ustr [b8 m]).size = 1 := rfl
      clear h0 h1
      generalize ustr (Lib.itoa k) = A at *
      go_enter Tryz.func100, Tryz.ntmps100
      go_wp2_with (refine wpList_convu rfl 112 9 _ rfl _ _ rfl (conv1u _ _ hm.1 hm.2) ?_
                   intro wz hwz
                   have KZ : Hid (Kp (fun _ => False) w wz) := by rw [hwz]; exact (Kp.refl _ _).alloc _
                   clear hwz)
      refine (L1.out _ (HT.out.keep KZ.out)).mono ?_
      rintro e w2 ⟨rfl, k2⟩
      have K2 := hide (KZ.out.trans k2)
      clear k2
      go_wp2_with fail
      go_ret
      exact ⟨rfl, K2.out⟩

theorem stateLetter_all (a : Int) (w : World) : Calls Tryz.prog 114 #[.int .i64 a] w fun e w' => e = .returned (.int .u8 (Sv.letter a)) ∧ w' = w := by
  unfold Sv.letter Pu.stateLetter
  by_cases h1 : a ≤ 0
  · rw [if_pos (Or.inl h1)]
    go_enter Tryz.func114, Tryz.ntmps114
    go_wp2
    go_ret
    exact ⟨rfl, rfl⟩
  · by_cases h2 : 9 ≤ a
    · rw [if_pos (Or.inr h2)]
      go_enter Tryz.func114, Tryz.ntmps114
      go_wp2
      go_ret
      exact ⟨rfl, rfl⟩
    · have := stateLetter_any a w (by omega) (by omega)
      unfold Pu.stateLetter at this
      exact this
theorem letter_bd (s : Int) : 0 ≤ Sv.letter s ∧ Sv.letter s < 256 := by
  unfold Sv.letter Pu.stateLetter
  split <;> omega

set_option maxRecDepth 100000 in
set_option maxHeartbeats 1000000 in
theorem rowText_any (q : Nat) (pre : Array Value) (gw gh l t : Int) (S : List Int) (b : Bx) (y : Int) (n : Nat) (w : World) (h : GrAt w q pre gw gh l t S) (ht : Tab w) (w0 : 0 ≤ gw) (w1 : gw ≤ 12) (h0 : 0 ≤ gh) (h1 : gh ≤ 12)
    (l0 : -40000000 ≤ l) (l1 : l ≤ 40000000) (t0 : -40000000 ≤ t) (t1 : t ≤ 40000000) (hb : -50000000 ≤ b.L ∧ b.L ≤ 50000000) (hn : b.R = b.L + n - 1) (hn64 : n ≤ 64) :
    Calls Tryz.prog 99 #[.pointer (some ⟨q, 28, none⟩), .agg (bxV b), .int .i64 y] w fun e w' => e = .returned (.string (ustr (Sv.row (fun x => getP gw gh l t S x y) b.L n))) ∧ Kp (fun _ => False) w w' := by
  have LG := hide (fun (wx : World) (hx : GrAt wx q pre gw gh l t S) (x : Int) => gget_any q pre gw gh l t S x y wx hx w0 w1 h0 h1 (by omega) (by omega) (by omega) (by omega))
  have HLEN := hide (fun k => Sv.rowN_len (fun x => getP gw gh l t S x y) b.L k)
  obtain ⟨G, hG⟩ : ∃ G : Int → Int, G = fun x => getP gw gh l t S x y := ⟨_, rfl⟩
  have HG : Hid (∀ x, getP gw gh l t S x y = G x) := fun x => by rw [hG]
  rw [← hG] at HLEN ⊢
  clear hG
  simp only [HG.out] at LG
  have HST : Hid (∀ k : Nat, Sv.rowN G b.L (k + 1) = Sv.rowStep (Sv.rowN G b.L k) (G (b.L + k))) := fun _ => rfl
  have HEND : Hid (Sv.row G b.L n = Sv.rowEnd (Sv.rowN G b.L n)) := rfl
  have HZ : Hid (Sv.rowN G b.L 0 = ⟨[], 0, 0⟩) := rfl
  rw [HEND.out]
  generalize Sv.rowN G b.L = RN at *
  have G0 := hide h
  have HT := hide ht
  clear h ht HEND
  obtain ⟨eb, bL, bT, bR, bB⟩ := b
  simp only [bxV, bxv] at *
  have HN := hide hn
  clear hn
  go_enter Tryz.func99, Tryz.ntmps99
  go_wp2_with fail
  go_loopg [7, 8, 9, 10] n (fun gk tv sv cv xv wr => ∃ k : Nat, k ≤ n ∧ n ≤ k + gk ∧ tv = .string (ustr (RN k).text) ∧ sv = .int .i64 (RN k).state ∧ cv = .int .i64 (RN k).count ∧ xv = .int .i64 (bL + k) ∧ BxA wr w.heap.size ⟨eb, bL, bT, bR, bB⟩ ∧ Kp (fun _ => False) w wr)
  case atStart => exact ⟨0, by omega, by omega, by rw [HZ.out]; rfl, by rw [HZ.out], by rw [HZ.out], val_int2 (by omega), heap_alloc_new _ _, (Kp.refl _ _).alloc _⟩
  case round =>
    obtain ⟨k, g1, g2, rfl, rfl, rfl, rfl, b3, k3⟩ := hrel
    have B3 := hide b3
    have K3 := hide k3
    have hL := HLEN.out k
    have hS := HST.out k
    have cR : wr.cell? ⟨w.heap.size, 3, none⟩ = some (.int .i64 bR) := by rw [cell_of_row _ _ 3 _ _ _ b3]; rfl
    have z1 := ustr_size (RN k).text
    clear b3 k3
    obtain ⟨rk, hrk⟩ : ∃ rk, RN k = rk := ⟨_, rfl⟩
    obtain ⟨tx, st, ct⟩ := rk
    have HRK := hide hrk
    rw [hrk] at hL hS z1 ⊢
    clear hrk
    simp only at hL z1 ⊢
    by_cases hk : k < n
    · have hkk : bL + k ≤ bR := by have := HN.out; omega
      have LGk := hide (fun (wx : World) (hx : GrAt wx q pre gw gh l t S) => LG.out wx hx (bL + k))
      generalize G (bL + k) = gx at *
      by_cases e : gx = st
      · have HS : Hid (RN (k + 1) = ⟨tx, st, ct + 1⟩) := by
          show _ = _
          rw [hS]
          unfold Sv.rowStep
          rw [if_pos e]
        subst e
        clear hS
        go_wp2_with fail
        refine (LGk.out _ (G0.out.keep K3.out (fun hx => hx))).mono ?_
        rintro e w4 ⟨rfl, hw4⟩
        subst w4
        go_wp2_with fail
        go_roundg (gk - 1)
        case measure => omega
        case rel => exact ⟨k + 1, by omega, by omega, by rw [HS.out], by rw [HS.out], by rw [HS.out], val_int2 (by omega), B3.out, K3.out⟩
      · have HS : Hid (RN (k + 1) = ⟨tx ++ Sv.run ct (Sv.letter st), gx, 1⟩) := by
          show _ = _
          rw [hS]
          unfold Sv.rowStep
          rw [if_neg e]
        have HS2 : Hid (ustr (RN (k + 1)).text = ustr (tx ++ Sv.run ct (Sv.letter st))) := by show _ = _; rw [HS.out]
        have be : (gx != st) = true := by simpa using e
        have LL := hide (fun wx => stateLetter_all st wx)
        have LR := hide (fun (wx : World) (hx : Tab wx) => runText_any ct (Sv.letter st) wx hx (by omega) (letter_bd st))
        have z2 := Sv.run_len ct (Sv.letter st)
        rw [← ustr_size] at z2
        clear hS e
        go_wp2_with fail
        refine (LGk.out _ (G0.out.keep K3.out (fun hx => hx))).mono ?_
        rintro e w4 ⟨rfl, hw4⟩
        subst w4
        go_wp2_with fail
        refine (LL.out _).mono ?_
        rintro e w5 ⟨rfl, hw5⟩
        subst w5
        go_wp2_with fail
        refine (LR.out _ (HT.out.keep K3.out)).mono ?_
        rintro e w6 ⟨rfl, k6⟩
        have B6 := hide (BxA.keep B3.out k6 (fun hx => hx))
        have K6 := hide (K3.out.trans k6)
        clear k6
        rw [← ustr_app] at HS2
        generalize ustr (Sv.run ct (Sv.letter st)) = A at *
        go_wp2_with fail
        go_roundg (gk - 1)
        case measure => omega
        case rel => exact ⟨k + 1, by omega, by omega, by rw [HS2.out], by rw [HS.out], by rw [HS.out], val_int2 (by omega), B6.out, K6.out⟩
    · have ek : k = n := by omega
      have hkk : ¬ bL + k ≤ bR := by have := HN.out; omega
      have HE : Hid (RN n = ⟨tx, st, ct⟩) := by rw [← ek]; exact HRK.out
      by_cases e : st = 0
      · have HQ : Hid (Sv.rowEnd (RN n) = tx) := by
          show _ = _
          rw [HE.out]
          unfold Sv.rowEnd
          rw [if_pos e]
        subst e
        clear ek
        go_wp2_with fail
        go_ret
        exact ⟨(show Ending.returned (.string (ustr tx)) = _ by rw [HQ.out]), K3.out⟩
      · have HQ : Hid (ustr (Sv.rowEnd (RN n)) = ustr tx ++ ustr (Sv.run ct (Sv.letter st))) := by
          show _ = _
          rw [HE.out, ustr_app]
          unfold Sv.rowEnd
          rw [if_neg e]
        have be : (st != 0) = true := by simpa using e
        have LL := hide (fun wx => stateLetter_all st wx)
        have LR := hide (fun (wx : World) (hx : Tab wx) => runText_any ct (Sv.letter st) wx hx (by omega) (letter_bd st))
        have z2 := Sv.run_len ct (Sv.letter st)
        rw [← ustr_size] at z2
        clear e ek
        go_wp2_with fail
        refine (LL.out _).mono ?_
        rintro e w5 ⟨rfl, hw5⟩
        subst w5
        go_wp2_with fail
        refine (LR.out _ (HT.out.keep K3.out)).mono ?_
        rintro e w6 ⟨rfl, k6⟩
        have K6 := hide (K3.out.trans k6)
        clear k6
        generalize ustr (Sv.run ct (Sv.letter st)) = A at *
        go_wp2_with fail
        go_ret
        exact ⟨(show Ending.returned (.string (ustr tx ++ A)) = _ by rw [HQ.out]), K6.out⟩
end Go.Proofs.YthmhjjkmnnmjlaaGreatDoor
