import Derived.Test.YtbdbkjngdhcjpaaDoorM17
import Derived.Test.YtbdbkjngdhcjpaaDoorM7
import Derived.Deep.CutRange
namespace Go.Proofs.YtbdbkjngdhcjpaaDoor
open Go.RowKit
open Go.Proofs

/-- A live cell of the document's. -/
abbrev Cl := Int × Int × Int
def cellv (c : Cl) : Array Value := #[.int .i64 c.1, .int .i64 c.2.1, .int .i64 c.2.2]
theorem cellv_one (c : Cl) : (cellv c).all (·.oneCell') = true := by
  simp [cellv, Value.oneCell']
def cellsv : List Cl → List Value
  | [] => []
  | c :: l => (cellv c).toList ++ cellsv l
theorem cellsv_append (a b : List Cl) : cellsv (a ++ b) = cellsv a ++ cellsv b := by
  induction a with
  | nil => rfl
  | cons r a ih => simp [cellsv, ih]
theorem cellsv_one (r : Cl) : cellsv [r] = (cellv r).toList := by simp [cellsv]
def oneC (W H x y s : Int) : List Cl := if (decide (s ≠ 0) && (onSideB x W && onSideB y H)) = true then [(x, y, s)] else []
def rowC (W H y s : Int) (n : Nat) (x : Int) : List Cl := (List.range n).flatMap fun k : Nat => oneC W H (x + k) y s
theorem rowC_succ (W H y s : Int) (n : Nat) (x : Int) : rowC W H y s (n + 1) x = rowC W H y s n x ++ oneC W H (x + n) y s := by
  unfold rowC
  rw [List.range_succ, List.flatMap_append]
  simp
theorem oneC_len (W H x y s : Int) : (oneC W H x y s).length ≤ 1 := by
  unfold oneC
  split <;> simp
theorem rowC_len (W H y s : Int) (n : Nat) (x : Int) : (rowC W H y s n x).length ≤ n := by
  induction n with
  | zero => simp [rowC]
  | succ n ih =>
    rw [rowC_succ, List.length_append]
    have := oneC_len W H (x + n) y s
    omega
/-- Where the body stands, and the cells that live till there. -/
structure Bd where
  x : Int
  y : Int
  live : List Cl
def bst (W H left : Int) (p : Bd) (r : Pu.Run) : Bd := if r.down = true then ⟨left, p.y + r.count, p.live⟩ else ⟨p.x + r.count, p.y, p.live ++ rowC W H p.y r.state r.count.toNat p.x⟩
def bsts (W H left top : Int) (l : List Pu.Run) : Bd := l.foldl (bst W H left) ⟨left, top, []⟩
theorem bsts_snoc (W H left top : Int) (l : List Pu.Run) (r : Pu.Run) : bsts W H left top (l ++ [r]) = bst W H left (bsts W H left top l) r := by simp [bsts, List.foldl_append]

def signs : ByteArray := ⟨#[46, 36, 65, 66, 67, 68, 69, 70, 71, 72]⟩
theorem signs_mem {C : Int} (h2 : 2 ≤ C) (h9 : C ≤ 9) (m : Int) : m ∈ lets (signs.extract 0 (1 + C).toNat) ↔ (m = 36 ∨ m ∈ Pu.letters C) := by
  have hc : C = 2 ∨ C = 3 ∨ C = 4 ∨ C = 5 ∨ C = 6 ∨ C = 7 ∨ C = 8 ∨ C = 9 := by omega
  rcases hc with rfl | rfl | rfl | rfl | rfl | rfl | rfl | rfl
  · rw [show lets (signs.extract 0 (1 + (2 : Int)).toNat) = [46, 36, 65] by decide, show Pu.letters 2 = [46, 65] by decide]; simp only [List.mem_cons, List.not_mem_nil, or_false]; omega
  · rw [show lets (signs.extract 0 (1 + (3 : Int)).toNat) = [46, 36, 65, 66] by decide, show Pu.letters 3 = [46, 65, 66] by decide]; simp only [List.mem_cons, List.not_mem_nil, or_false]; omega
  · rw [show lets (signs.extract 0 (1 + (4 : Int)).toNat) = [46, 36, 65, 66, 67] by decide, show Pu.letters 4 = [46, 65, 66, 67] by decide]; simp only [List.mem_cons, List.not_mem_nil, or_false]; omega
  · rw [show lets (signs.extract 0 (1 + (5 : Int)).toNat) = [46, 36, 65, 66, 67, 68] by decide, show Pu.letters 5 = [46, 65, 66, 67, 68] by decide]; simp only [List.mem_cons, List.not_mem_nil, or_false]; omega
  · rw [show lets (signs.extract 0 (1 + (6 : Int)).toNat) = [46, 36, 65, 66, 67, 68, 69] by decide, show Pu.letters 6 = [46, 65, 66, 67, 68, 69] by decide]; simp only [List.mem_cons, List.not_mem_nil, or_false]; omega
  · rw [show lets (signs.extract 0 (1 + (7 : Int)).toNat) = [46, 36, 65, 66, 67, 68, 69, 70] by decide, show Pu.letters 7 = [46, 65, 66, 67, 68, 69, 70] by decide]; simp only [List.mem_cons, List.not_mem_nil, or_false]; omega
  · rw [show lets (signs.extract 0 (1 + (8 : Int)).toNat) = [46, 36, 65, 66, 67, 68, 69, 70, 71] by decide, show Pu.letters 8 = [46, 65, 66, 67, 68, 69, 70, 71] by decide]; simp only [List.mem_cons, List.not_mem_nil, or_false]; omega
  · rw [show lets (signs.extract 0 (1 + (9 : Int)).toNat) = [46, 36, 65, 66, 67, 68, 69, 70, 71, 72] by decide, show Pu.letters 9 = [46, 65, 66, 67, 68, 69, 70, 71, 72] by decide]; simp only [List.mem_cons, List.not_mem_nil, or_false]; omega
theorem letters_sign {C m : Int} (h : m ∈ Pu.letters C) : m = 46 ∨ (65 ≤ m ∧ m ≤ 72) := by
  unfold Pu.letters at h
  rw [List.mem_map] at h
  obtain ⟨k, _, rfl⟩ := h
  unfold Pu.stateLetter
  split <;> omega
theorem count_bd {f : Pu.Src} {i j : Nat} {n : Int} (h : Pu.count f i = (j, some n)) : 1 ≤ n ∧ n ≤ 99 := by
  unfold Pu.count at h
  split at h
  · have := number_bd h
    omega
  · have := Option.some.inj (Prod.mk.inj h).2
    omega
theorem run_none {C : Int} {f : Pu.Src} {k k1 : Nat} (h : Pu.count f k = (k1, none)) : Pu.run C f k = (k1, none) := by unfold Pu.run; rw [bnd_none h]
theorem run_stop {C : Int} (h2 : 2 ≤ C) (h9 : C ≤ 9) {f : Pu.Src} {k k1 k2 : Nat} {n : Int} (h : Pu.count f k = (k1, some n)) (hl : Pu.letter (lets (signs.extract 0 (1 + C).toNat)) f k1 = (k2, none)) : k2 = k1 ∧ Pu.run C f k = (k1, none) := by
  unfold Pu.letter at hl
  split at hl
  · cases (Prod.mk.inj hl).2
  · rename_i e
    rw [signs_mem h2 h9] at e
    refine ⟨(Prod.mk.inj hl).1.symm, ?_⟩
    unfold Pu.run
    rw [bnd_some h]
    rw [bnd_some (show Pu.opt 36 f k1 = (k1, some false) by unfold Pu.opt; rw [if_neg (fun h => e (Or.inl h))])]
    simp only [Bool.false_eq_true, if_false]
    unfold Pu.state
    rw [bnd_none (bnd_none (show Pu.letter (Pu.letters C) f k1 = (k1, none) by unfold Pu.letter; rw [if_neg (fun h => e (Or.inr h))]))]
theorem run_some {C : Int} (h2 : 2 ≤ C) (h9 : C ≤ 9) {f : Pu.Src} {k k1 k2 : Nat} {n m : Int} (h : Pu.count f k = (k1, some n)) (hl : Pu.letter (lets (signs.extract 0 (1 + C).toNat)) f k1 = (k2, some m)) :
    (m = 36 ∧ Pu.run C f k = (k2, some ⟨n, 0, true⟩)) ∨ (¬ m = 36 ∧ (m = 46 ∨ (65 ≤ m ∧ m ≤ 72)) ∧ Pu.run C f k = (k2, some ⟨n, if m = 46 then 0 else m - 64, false⟩)) := by
  unfold Pu.letter at hl
  split at hl
  · rename_i e
    rw [signs_mem h2 h9] at e
    obtain ⟨e1, e2⟩ := Prod.mk.inj hl
    have e2 := Option.some.inj e2
    subst e1 e2
    by_cases e3 : f k1 = 36
    · left
      refine ⟨e3, ?_⟩
      unfold Pu.run
      rw [bnd_some h, bnd_some (show Pu.opt 36 f k1 = (k1 + 1, some true) by unfold Pu.opt; rw [if_pos e3])]
      rfl
    · right
      have e4 : f k1 ∈ Pu.letters C := by
        rcases e with e | e
        · exact absurd e e3
        · exact e
      refine ⟨e3, letters_sign e4, ?_⟩
      unfold Pu.run
      rw [bnd_some h, bnd_some (show Pu.opt 36 f k1 = (k1, some false) by unfold Pu.opt; rw [if_neg e3])]
      simp only [Bool.false_eq_true, if_false]
      unfold Pu.state
      rw [bnd_some (a := if f k1 = 46 then 0 else f k1 - 64) (j := k1 + 1) (by rw [bnd_some (show Pu.letter (Pu.letters C) f k1 = (k1 + 1, some (f k1)) by unfold Pu.letter; rw [if_pos e4])]; rfl)]
      rfl
  · cases (Prod.mk.inj hl).2
theorem BodyRel.quit {s : ByteArray} {c : Int} {i k k' : Nat} {acc : List Pu.Run} (h : BodyRel s c i k acc) (hl : acc.length < 401) (h2 : ¬ src s k = 33) (hr : Pu.run c (src s) k = (k', none)) : Pu.body c 401 [] (src s) i = (k', none) := by
  by_cases h1 : k < s.size
  · exact h.fail hl h1 h2 hr
  · rw [h.over h1]
    rw [Pu.run_end (src_ge h1)] at hr
    rw [(Prod.mk.inj hr).1]
theorem run_lt {s : ByteArray} {c : Int} {k k' : Nat} {r : Pu.Run} (hr : Pu.run c (src s) k = (k', some r)) : k < s.size := by
  by_cases h1 : k < s.size
  · exact h1
  · rw [Pu.run_end (src_ge h1)] at hr
    cases (Prod.mk.inj hr).2
theorem info_cell1 : ∃ i, Tryd.prog.info? 87 = some i ∧ i.zero = some (.agg (cellv (0, 0, 0))) ∧ i.size = 3 ∧ i.bytes = 24 := by
  have h : (Tryd.prog.info? 87).map (fun i => (i.zero, i.size, i.bytes)) = some (some (.agg (cellv (0, 0, 0))), 3, 24) := by kernel_rfl
  cases hq : Tryd.prog.info? 87 with
  | none => simp [hq] at h
  | some i => simp [hq] at h; exact ⟨i, rfl, h.1, h.2.1, h.2.2⟩
/-- The document's world, of which the last field is its live cells. -/
def vl (a0 a1 a2 : Value) (C : Int) (a4 : Value) (W H : Int) (a7 a8 a9 a10 a11 v : Value) : Array Value := #[a0, a1, a2, .int .i64 C, a4, .int .i64 W, .int .i64 H, a7, a8, a9, a10, a11, v]

set_option maxRecDepth 100000 in
set_option maxHeartbeats 4000000 in
theorem xbody_any (b q : Nat) (hbq : b ≠ q) (s : ByteArray) (i : Nat) (C W H left top : Int) (a0 a1 a2 a4 a7 a8 a9 a10 a11 : Value) (w : World) (h : RxAt w b s i) (hv : VAt w q (vl a0 a1 a2 C a4 W H a7 a8 a9 a10 a11 (.slice none 0 0)))
    (c2 : 2 ≤ C) (c9 : C ≤ 9) (l0 : -9999 ≤ left) (l1 : left ≤ 9999) (t0 : -9999 ≤ top) (t1 : top ≤ 9999) (j : Nat) (o : Option (List Pu.Run)) (hq : Hid (Pu.body C 401 [] (src s) i = (j, o))) :
    Calls Tryd.prog 64 #[.pointer (some ⟨b, 0, none⟩), .pointer (some ⟨q, 0, none⟩), .int .i64 left, .int .i64 top] w fun e w' => e = .returned (.bool o.isSome) ∧ RxAt w' b s j ∧ Kp (bq b q) w w' ∧
      ∀ l, o = some l → ∃ v, VAt w' q (vl a0 a1 a2 C a4 W H a7 a8 a9 a10 a11 v) ∧ w'.ownsRow w.heap.size 87 3 v (bsts W H left top l).live.length (cellsv (bsts W H left top l).live) := by
  have HR := hide h
  have HV := hide hv
  have hb := h.lt
  have hql := hv.lt
  have hle := h.le
  have hs := h.few
  obtain ⟨ti, ti1, ti2, ti3, ti4⟩ := info_cell1
  have TI1 := hide ti1
  have TI2 := hide ti2
  have TI3 := hide ti3
  have TI4 := hide ti4
  clear h hv ti1 ti2 ti3 ti4
  go_enter Tryd.func64, Tryd.ntmps64
  go_wp2
  go_loopg [9, 10] (s.size - i) (fun gk ux uy wr => ∃ (k : Nat) (acc : List Pu.Run) (v : Value), acc.length ≤ k ∧ s.size ≤ k + gk ∧ RxAt wr b s k ∧ VAt wr q (vl a0 a1 a2 C a4 W H a7 a8 a9 a10 a11 v) ∧ ux = .int .i64 (bsts W H left top acc).x ∧ uy = .int .i64 (bsts W H left top acc).y ∧
    wr.ownsRow w.heap.size 87 3 v (bsts W H left top acc).live.length (cellsv (bsts W H left top acc).live) ∧ Kp (bq b q) w wr ∧ BodyRel s C i k acc ∧
    -9999 ≤ (bsts W H left top acc).x ∧ (bsts W H left top acc).x ≤ 9999 + 99 * acc.length ∧ -9999 ≤ (bsts W H left top acc).y ∧ (bsts W H left top acc).y ≤ 9999 + 99 * acc.length ∧ (bsts W H left top acc).live.length ≤ 99 * acc.length)
  case atStart => exact ⟨i, [], _, Nat.zero_le _, by omega, HR.out, HV.out, rfl, rfl, World.ownsRow_nil _ _ _ _, Kp.refl _ _, ⟨by simp, rfl⟩, l0, by simpa [bsts] using l1, t0, by simpa [bsts] using t1, by simp [bsts]⟩
  case round =>
    obtain ⟨k, acc, v, g1, g2, g3, g4, rfl, rfl, g5, g6, g7, x0, x1, y0, y1, n1⟩ := hrel
    have hk := g3.le
    have R3 := hide g3
    have V3 := hide g4
    have O3 := hide g5
    have K3 := hide g6
    have G7 := hide g7
    clear g3 g4 g5 g6 g7
    by_cases e : src s k = 33
    · have hq' := hq.out
      rw [G7.out.stop (by omega) e] at hq'
      obtain ⟨rfl, hq2⟩ := Prod.mk.inj hq'
      have E := hide e
      have HQ := hide hq2
      clear e hq hq' hq2
      go_wp2_with fail
      refine (xone_yes R3.out (by omega) E.out).mono ?_
      rintro e w2 ⟨rfl, r2, k2⟩
      have d0 := r2.c0
      have d1 := r2.c1
      have e1 : ((k + 1 : Nat) : Int) = (k : Int) + 1 := by omega
      rw [e1] at d1
      clear e1
      have HF : Hid (∀ (n : Nat) (y : Bool), y = decide (k + 1 = s.size) → ∀ e : Ending, e = .returned (.bool y) → e = .returned (.bool o.isSome) ∧ RxAt (w2.drewN n) b s (k + 1) ∧ Kp (bq b q) w (w2.drewN n) ∧
          ∀ l, o = some l → ∃ v, VAt (w2.drewN n) q (vl a0 a1 a2 C a4 W H a7 a8 a9 a10 a11 v) ∧ (w2.drewN n).ownsRow w.heap.size 87 3 v (bsts W H left top l).live.length (cellsv (bsts W H left top l).live)) := by
        rintro n y rfl e rfl
        have hsz := r2.le
        refine ⟨?_, r2.drewN n, (K3.out.trans k2.tobq).drewN n, ?_⟩
        · by_cases hz : k + 1 = s.size
          · rw [decide_eq_true hz, ← HQ.out, if_pos (src_ge (by omega))]; rfl
          · rw [decide_eq_false hz, ← HQ.out, if_neg (by rw [src_lt (show k + 1 < s.size by omega)]; omega)]; rfl
        · intro l hl
          rw [← HQ.out] at hl
          split at hl
          · obtain rfl := Option.some.inj hl
            exact ⟨v, (V3.out.keep (T := (· = b)) k2 (fun e => hbq e.symm) : VAt w2 q _), own_keep (w' := w2) O3.out k2 (by intro g hg; omega)⟩
          · cases hl
      go_wp2_with fail
      go_quiet (fail)
      go_wp2_with fail
      go_ret
      exact HF.out _ _ (by rw [Bool.eq_iff_iff]; simp; omega) _ rfl
    · have E := hide e
      clear e
      go_wp2_with fail
      refine (xone_no R3.out (by omega) E.out).mono ?_
      rintro e w2 ⟨rfl, r2, k2⟩
      have R2 := hide r2
      have V2 := hide (V3.out.keep k2 (fun e => hbq e.symm))
      have O2 := hide (own_keep (w' := w2) O3.out k2 (by intro g hg; omega))
      have K2 := hide (K3.out.trans (k2.tobq (q := q)))
      clear r2 k2 R3 V3 O3 K3
      go_upto_region 7 with fail
      go_cut [56] from 22 to 116 (fun c wc => ∃ n, c = .bool (decide (0 ≤ Pu.digit (src s) k)) ∧ wc = w2.drewN n)
      case first =>
        have c0 := R2.out.c0
        have c1 := R2.out.c1
        by_cases hlt : k < s.size
        · have hb1 : (s[k].toNat : Int) < 256 := by have := s[k].toNat_lt; omega
          have hb0 : 0 ≤ (s[k].toNat : Int) := by omega
          have LD := hide (fun wx => isDigit_any (s[k].toNat : Int) wx)
          have hdd : decide (0 ≤ Pu.digit (src s) k) = decide (48 ≤ (s[k].toNat : Int) ∧ (s[k].toNat : Int) ≤ 57) := by
            rw [digit_of hlt]
            split
            · rename_i h; rw [decide_eq_true h]; apply decide_eq_true; omega
            · rename_i h; rw [decide_eq_false h]; apply decide_eq_false; omega
          rw [Bool.decide_and] at hdd
          have HDD := hide hdd
          clear hdd
          go_wp2_with fail
          go_quiet ((go_at_call 86; exact Calls.quiet_of_same (LD.out _)))
          go_wp2_with fail
          go_meet
          case rel => exact ⟨_, congrArg Value.bool HDD.out.symm, rfl⟩
        · have hdd : decide (0 ≤ Pu.digit (src s) k) = false := by
            apply decide_eq_false
            rw [Pu.digit_end (src_ge hlt)]
            omega
          have HDD := hide hdd
          clear hdd
          go_wp2_with fail
          go_quiet (fail)
          go_wp2_with fail
          go_meet
          case rel => exact ⟨_, congrArg Value.bool HDD.out.symm, rfl⟩
      case rest =>
      obtain ⟨nd, rfl, hwc⟩ := hcut
      subst hwc
      have R4 : Hid (RxAt (w2.drewN nd) b s k) := R2.out.drewN nd
      have V4 : Hid (VAt (w2.drewN nd) q (vl a0 a1 a2 C a4 W H a7 a8 a9 a10 a11 v)) := V2.out
      have O4 : Hid ((w2.drewN nd).ownsRow w.heap.size 87 3 v (bsts W H left top acc).live.length (cellsv (bsts W H left top acc).live)) := O2.out
      have K4 : Hid (Kp (bq b q) w (w2.drewN nd)) := K2.out.drewN nd
      clear R2 V2 O2 K2
      go_upto_if 56 with fail
      go_cut [12, 13, 14] from 22 to 116 (fun c _ _ wd => ∃ (n : Int) (k1 : Nat), c = .int .i64 n ∧ Pu.count (src s) k = (k1, some n) ∧ RxAt wd b s k1 ∧ VAt wd q (vl a0 a1 a2 C a4 W H a7 a8 a9 a10 a11 v) ∧ wd.ownsRow w.heap.size 87 3 v (bsts W H left top acc).live.length (cellsv (bsts W H left top acc).live) ∧ Kp (bq b q) w wd)
      case first =>
        by_cases hd : 0 ≤ Pu.digit (src s) k
        · rw [decide_eq_true hd]
          rcases hn : Pu.number 2 99 (src s) k with ⟨k1, on⟩
          have HN := hide hn
          have HC : Hid (Pu.count (src s) k = (k1, on)) := by unfold Hid Pu.count; rw [if_pos hd, hn]
          clear hd hn
          go_wp2_with fail
          refine (xnumber_any b s k 2 99 _ R4.out (by omega) (by omega) (by omega) (by omega) k1 on HN).mono ?_
          rintro e w5 ⟨⟨x, rfl, hx⟩, r5, k5⟩
          have R5 := hide r5
          have V5 := hide (V4.out.keep k5 (fun e => hbq e.symm))
          have O5 := hide (own_keep (w' := w5) O4.out k5 (by intro g hg; omega))
          have K5 := hide (K4.out.trans (k5.tobq (q := q)))
          have HX := hide hx
          clear r5 k5 hx
          cases on with
          | none =>
            have hq' := hq.out
            rw [G7.out.quit (by omega) E.out (run_none HC.out)] at hq'
            obtain ⟨rfl, rfl⟩ := Prod.mk.inj hq'
            clear hq hq'
            go_wp2_with fail
            go_ret
            exact ⟨rfl, R5.out, K5.out, fun l hl => by cases hl⟩
          | some n =>
            obtain rfl := HX.out n rfl
            go_wp2_with fail
            go_meet
            case rel => exact ⟨_, k1, rfl, HC.out, R5.out, V5.out, O5.out, K5.out⟩
        · rw [decide_eq_false hd]
          have HC : Hid (Pu.count (src s) k = (k, some 1)) := by unfold Hid Pu.count; rw [if_neg hd]
          clear hd
          go_wp2_with fail
          go_meet
          case rel => exact ⟨1, k, rfl, HC.out, R4.out, V4.out, O4.out, K4.out⟩
      case rest =>
      obtain ⟨n, k1, rfl, hc, r5, v5, o5, k5⟩ := hcut
      have hnb := count_bd hc
      have HC := hide hc
      have R5 := hide r5
      have V5 := hide v5
      have O5 := hide o5
      have K5 := hide k5
      have cc : wc.cell? ⟨q, 3, none⟩ = some (.int .i64 C) := V5.out.cell 3
      clear hc r5 v5 o5 k5 R4 V4 O4 K4
      rcases hl : Pu.letter (lets (signs.extract 0 (1 + C).toNat)) (src s) k1 with ⟨k2, ol⟩
      have HL := hide hl
      clear hl
      have sz : (signs.extract 0 (1 + C).toNat).size ≤ 100 := by simp [signs]; omega
      have LO := hide (fun (wx : World) (hx : RxAt wx b s k1) => xof_any b s k1 (signs.extract 0 (1 + C).toNat) wx hx sz k2 ol HL)
      unfold signs at LO
      clear sz
      go_wp2_with fail
      refine (LO.out _ R5.out).mono ?_
      clear LO
      rintro e w6 ⟨⟨m, rfl, hm⟩, r6, k6⟩
      have R6 := hide r6
      have V6 := hide (V5.out.keep k6 (fun e => hbq e.symm))
      have O6 := hide (own_keep (w' := w6) O5.out k6 (by intro g hg; omega))
      have K6 := hide (K5.out.trans (k6.tobq (q := q)))
      have HM := hide hm
      clear r6 k6 hm R5 V5 O5 K5 cc
      cases ol with
      | none =>
        have hq' := hq.out
        obtain ⟨e1, e2⟩ := run_stop c2 c9 HC.out HL.out
        rw [G7.out.quit (by omega) E.out e2] at hq'
        obtain ⟨rfl, rfl⟩ := Prod.mk.inj hq'
        subst e1
        clear hq hq'
        go_wp2_with fail
        go_ret
        exact ⟨rfl, R6.out, K6.out, fun l hl => by cases hl⟩
      | some m' =>
        obtain rfl := HM.out m' rfl
        clear HM
        have lk1 : k ≤ k1 := by
          have := Pu.good_count.mono (src s) k
          rw [HC.out] at this
          exact this
        rcases run_some c2 c9 HC.out HL.out with ⟨em, hrun⟩ | ⟨em, emb, hrun⟩
        · have kpos := run_pos hrun
          have klt := run_lt hrun
          have HB := hide (G7.out.next (by omega) klt E.out hrun)
          have bm : (m == 36) = true := by simpa using em
          have BS : Hid (bsts W H left top (acc ++ [⟨n, 0, true⟩]) = ⟨left, (bsts W H left top acc).y + n, (bsts W H left top acc).live⟩) := by
            unfold Hid
            rw [bsts_snoc]
            rfl
          clear hrun G7 hq em
          go_wp2_with fail
          go_roundg (gk - 1)
          case measure => omega
          case rel =>
            refine ⟨k2, acc ++ [⟨n, 0, true⟩], v, by simp; omega, by omega, R6.out, V6.out, ?_⟩
            rw [BS.out]
            refine ⟨rfl, rfl, O6.out, K6.out, HB.out, l0, ?_, ?_, ?_, ?_⟩
            · simp; omega
            · simp; omega
            · simp; omega
            · simp; omega
        · have kpos := run_pos hrun
          have klt := run_lt hrun
          have HB := hide (G7.out.next (by omega) klt E.out hrun)
          have bm : (m == 36) = false := by simpa using em
          obtain ⟨st, hst⟩ : ∃ st, (if m = 46 then 0 else m - 64) = st := ⟨_, rfl⟩
          rw [hst] at HB
          obtain ⟨N, rfl⟩ := Int.eq_ofNat_of_zero_le (show 0 ≤ n by omega)
          have BS : Hid (bsts W H left top (acc ++ [⟨N, st, false⟩]) = ⟨(bsts W H left top acc).x + N, (bsts W H left top acc).y, (bsts W H left top acc).live ++ rowC W H (bsts W H left top acc).y st N (bsts W H left top acc).x⟩) := by
            unfold Hid
            rw [bsts_snoc]
            rfl
          have HST := hide hst
          clear hrun G7 hq em hst
          generalize (bsts W H left top acc).x = X at *
          generalize (bsts W H left top acc).y = Y at *
          generalize (bsts W H left top acc).live = L at *
          obtain ⟨gO, hgO⟩ : ∃ g, g = gk := ⟨gk, rfl⟩
          have HGO := hide hgO
          clear hgO
          go_wp2_with fail
          go_loopg [9, 18, 19] N (fun gm ux ui _ wi => ∃ (t : Nat) (vt : Value), t ≤ N ∧ N ≤ t + gm ∧ ux = .int .i64 (X + t) ∧ ui = .int .i64 t ∧ RxAt wi b s k2 ∧ VAt wi q (vl a0 a1 a2 C a4 W H a7 a8 a9 a10 a11 vt) ∧
            wi.ownsRow w.heap.size 87 3 vt (L ++ rowC W H Y st t X).length (cellsv (L ++ rowC W H Y st t X)) ∧ Kp (bq b q) w wi)
          case atStart => exact ⟨0, v, Nat.zero_le _, by omega, by simp, rfl, R6.out, V6.out, by simpa [rowC] using O6.out, K6.out⟩
          case round =>
            obtain ⟨t, vt, h1, h2, rfl, rfl, r7, v7, o7, k7⟩ := hrel
            have R7 := hide r7
            have V7 := hide v7
            have O7 := hide o7
            have K7 := hide k7
            clear r7 v7 o7 k7 R6 V6 O6 K6
            by_cases hlt : t < N
            · have SU := hide (rowC_succ W H Y st t X)
              have lb : (L ++ rowC W H Y st t X).length ≤ 39699 + 99 := by
                have := rowC_len W H Y st t X
                rw [List.length_append]
                omega
              by_cases hon : (decide (st ≠ 0) && (onSideB (X + t) W && onSideB Y H)) = true
              · have hon' := hon
                rw [Bool.and_eq_true, decide_eq_true_eq] at hon'
                have OC : Hid (oneC W H (X + t) Y st = [(X + t, Y, st)]) := by
                  unfold Hid oneC
                  rw [if_pos hon]
                have em2 : ¬ m = 46 := by
                  intro h
                  have := HST.out
                  rw [if_pos h] at this
                  exact hon'.1 this.symm
                have hm2 : (m - 65) % 256 + 1 = st := by
                  have := HST.out
                  rw [if_neg em2] at this
                  omega
                have HM2 := hide hm2
                have bm2 : (m != 46) = true := by simpa using em2
                have HON := hide hon'.2
                clear hon hon' em2 hm2
                go_wp2_with fail
                refine (xhas_any q _ W H (X + t) Y _ V7.out rfl rfl).mono ?_
                rintro e w8 ⟨rfl, nn, hw8⟩
                subst hw8
                rw [HON.out]
                have c12 : (wr.drewN nn).cell? ⟨q, 12, none⟩ = some vt := V7.out.cell 12
                have R8 : Hid (RxAt (wr.drewN nn) b s k2) := R7.out.drewN nn
                have V8 : Hid (VAt (wr.drewN nn) q (vl a0 a1 a2 C a4 W H a7 a8 a9 a10 a11 vt)) := V7.out
                have O8 : Hid ((wr.drewN nn).ownsRow w.heap.size 87 3 vt (L ++ rowC W H Y st t X).length (cellsv (L ++ rowC W H Y st t X))) := O7.out
                have K8 : Hid (Kp (bq b q) w (wr.drewN nn)) := K7.out.drewN nn
                clear R7 V7 O7 K7
                generalize wr.drewN nn = w8 at *
                obtain ⟨ll, hll⟩ : ∃ n, (L ++ rowC W H Y st t X).length = n := ⟨_, rfl⟩
                rw [hll] at O8 lb
                have HLL := hide hll
                clear hll
                have s8 := K8.out.size
                have l8 : q < w8.heap.size := V8.out.lt
                go_wp2_with (refine wpList_append_lies _ rfl _ _ 58 rfl w.heap.size 87 ti (.agg (cellv (0, 0, 0))) 3 24 Tryd.underlying58 TI1.out TI2.out TI3.out TI4.out rfl (by decide) vt ll (cellsv (L ++ rowC W H Y st t X)) ?_ ?_ ⟨w8.heap.size, 0, none⟩ 1 1 (cellv (X + t, Y, (m - 65) % 256 + 1)).toList ?_ ?_ ?_ ?_ ?_ ?_ ?_ ?_ (w8.heap.size + 1) ?_ ?_
                             · rfl
                             · exact (own_of O8.out fun g hg _ => Below.heap_alloc _ _ _ hg)
                             · rfl
                             · rfl
                             · exact World.news_of_block (heap_alloc_new w8 (.cells (cellv (X + t, Y, (m - 65) % 256 + 1)) 87))
                             · exact (fun u hu => (Array.all_eq_true_iff_forall_mem.1 (cellv_one _)) u (by simpa using hu))
                             · decide
                             · (unfold maxLen; omega)
                             · omega
                             · (simp; omega)
                             · simp
                             intro g9 cap9 w9 hown hgrow _ _
                             have O9 := hide hown
                             have q1 : w9.cell? ⟨q, 12, none⟩ = some vt := (hgrow.cell_far ⟨q, 12, none⟩ (by simp; omega) (own_far O8.out hql)).trans ((World.cell?_of_block (Below.heap_alloc _ _ _ (by simp; omega))).trans (V8.out.cell 12))
                             have q2 : w9.frozen? ⟨q, 12, none⟩ = false := (hgrow.frozen_far ⟨q, 12, none⟩ (by simp; omega) (own_far O8.out hql)).trans ((World.frozen?_of_block (Below.heap_alloc _ _ _ (by simp; omega))).trans (V8.out.fro 12))
                             have K9 : Hid (Kp (fun k => some k = vt.ownBlock) w8 w9) := ⟨hgrow.os, hgrow.tape, hgrow.output, Nat.le_trans (Nat.le_succ _) (Nat.le_trans (by simp) hgrow.size), fun k hk hn => (hgrow.block k (by simp; omega) hn).trans (Below.heap_alloc _ _ _ hk)⟩
                             clear hown hgrow)
                go_roundg (gk - 1)
                case measure => omega
                case rel =>
                  refine ⟨t + 1, .slice (some ⟨g9, 0, none⟩) (ll + 1) cap9, by omega, by omega, val_i (by omega), val_i (by omega), ?_, ?_, ?_, ?_⟩
                  · exact (R8.out.keep K9.out (fun hx => own_far O8.out hb hx)).setOther hbq _
                  · exact (V8.out.keep K9.out (fun hx => own_far O8.out hql hx)).put 12 _ _ rfl
                  · rw [SU.out, OC.out, ← List.append_assoc, cellsv_append, cellsv_one, List.length_append (bs := [_]), HLL.out]
                    have o9 := O9.out
                    rw [HM2.out] at o9
                    exact own_of o9 fun g hg hbase => heap_setCell_other _ _ _ _ (by simp only; omega)
                  · exact (K8.out.tr K9.out (fun z hz hx => absurd hx (own_far O8.out hz))).putq 12 _
              · have OC : Hid (oneC W H (X + t) Y st = []) := by
                  unfold Hid oneC
                  rw [if_neg hon]
                have FI : Hid (∀ n, ∃ (t' : Nat) (vt' : Value), t' ≤ N ∧ N ≤ t' + (gk - 1) ∧ Value.int .i64 (X + t + 1) = .int .i64 (X + t') ∧ Value.int .i64 ((t : Int) + 1) = .int .i64 t' ∧ RxAt (wr.drewN n) b s k2 ∧ VAt (wr.drewN n) q (vl a0 a1 a2 C a4 W H a7 a8 a9 a10 a11 vt') ∧
                    (wr.drewN n).ownsRow w.heap.size 87 3 vt' (L ++ rowC W H Y st t' X).length (cellsv (L ++ rowC W H Y st t' X)) ∧ Kp (bq b q) w (wr.drewN n)) := by
                  intro n
                  refine ⟨t + 1, vt, by omega, by omega, val_i (by omega), val_i (by omega), R7.out.drewN n, V7.out, ?_, K7.out.drewN n⟩
                  rw [SU.out, OC.out, List.append_nil]
                  exact O7.out
                by_cases em2 : m = 46
                · have bm2 : (m != 46) = false := by simpa using em2
                  clear hon em2
                  go_wp2_with fail
                  refine (xhas_any q _ W H (X + t) Y _ V7.out rfl rfl).mono ?_
                  rintro e w8 ⟨rfl, nn, hw8⟩
                  subst hw8
                  go_wp2_with fail
                  go_roundg (gk - 1)
                  case measure => omega
                  case rel => exact FI.out nn
                · have bm2 : (m != 46) = true := by simpa using em2
                  have HON : Hid ((onSideB (X + t) W && onSideB Y H) = false) := by
                    have h1 := HST.out
                    rw [if_neg em2] at h1
                    cases hz : (onSideB (X + t) W && onSideB Y H) with
                    | false => rfl
                    | true =>
                      exact absurd (by rw [hz, Bool.and_true]; apply decide_eq_true; omega) hon
                  clear hon em2
                  go_wp2_with fail
                  refine (xhas_any q _ W H (X + t) Y _ V7.out rfl rfl).mono ?_
                  rintro e w8 ⟨rfl, nn, hw8⟩
                  subst hw8
                  rw [HON.out]
                  go_wp2_with fail
                  go_roundg (gk - 1)
                  case measure => omega
                  case rel => exact FI.out nn
            · have et : t = N := by omega
              subst et
              go_wp2_with fail
              go_roundg (gO - 1)
              case measure => have := HGO.out; omega
              case rel =>
                have hgo := HGO.out
                have lb := rowC_len W H Y st t X
                refine ⟨k2, acc ++ [⟨t, st, false⟩], vt, by simp; omega, by omega, R7.out, V7.out, ?_⟩
                rw [BS.out]
                refine ⟨rfl, rfl, O7.out, K7.out, HB.out, ?_, ?_, ?_, ?_, ?_⟩
                · simp; omega
                · simp; omega
                · simp; omega
                · simp; omega
                · simp; omega
end Go.Proofs.YtbdbkjngdhcjpaaDoor
