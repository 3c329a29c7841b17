import Derived.Test.YtbdbkjngdhcjpaaDoorM20
import Derived.Test.YtbdbkjngdhcjpaaDoorSf
import Derived.Test.YtbdbkjngdhcjpaaDoorM10
import Derived.Test.YtbdbkjngdhcjpaaDoorM13
namespace Go.Proofs.YtbdbkjngdhcjpaaDoor
open Go.RowKit
open Go.Proofs

theorem b8_digit (d : Nat) : b8 (48 + (d : Int)) = UInt8.ofNat (48 + d) := by
  unfold b8
  congr 1

set_option maxRecDepth 100000 in
set_option maxHeartbeats 400000 in
theorem digits_nat : ∀ u : Nat, u ≤ 100000000 → ∀ w : World, Calls Tryd.prog 25 #[.int .i64 (u : Int)] w fun e w' => e = .returned (.string (ustr (Lib.decDigits u))) ∧ Kp (fun _ => False) w w' := by
  intro u
  induction u using Nat.strongRecOn with
  | _ u ih =>
    intro hu w
    rw [Lib.decDigits]
    by_cases h : u < 10
    · rw [dif_pos h]
      have hm : (u : Int).tmod 10 = u := by rw [Int.tmod_eq_emod_of_nonneg (by omega)]; omega
      go_enter Tryd.func25, Tryd.ntmps25
      go_wp2_with (refine wpList_convu rfl 85 9 _ rfl _ _ rfl (conv1u _ _ (by omega) (by omega)) ?_
                   intro wz hwz
                   have KZ : Hid (Kp (fun _ => False) w wz) := by rw [hwz]; exact (Kp.refl _ _).alloc _
                   clear hwz)
      go_ret
      exact ⟨ret_ustr (by rw [b8_digit]), KZ.out⟩
    · rw [dif_neg h, ← ustr_app]
      have hm : (u : Int).tmod 10 = ((u % 10 : Nat) : Int) := by rw [Int.tmod_eq_emod_of_nonneg (by omega)]; omega
      have hd : (u : Int).tdiv 10 = ((u / 10 : Nat) : Int) := by rw [Int.tdiv_eq_ediv_of_nonneg (by omega)]; omega
      have hlt : u % 10 < 10 := Nat.mod_lt _ (by omega)
      have IH := hide (fun wx => ih (u / 10) (by omega) (by omega) wx)
      have EB := hide (b8_digit (u % 10))
      have z1 := dec_len (u / 10)
      rw [← ustr_size] at z1
      have z2 : (ustr [b8 (48 + ((u % 10 : Nat) : Int))]).size = 1 := rfl
      clear ih
      generalize ustr (Lib.decDigits (u / 10)) = A at *
      generalize u % 10 = m at *
      go_enter Tryd.func25, Tryd.ntmps25
      go_wp2_with (refine wpList_convu rfl 85 9 _ rfl _ _ rfl (conv1u _ _ (by omega) (by omega)) ?_
                   intro wz hwz
                   have KZ : Hid (Kp (fun _ => False) w wz) := by rw [hwz]; exact (Kp.refl _ _).alloc _
                   clear hwz)
      refine (IH.out _).mono ?_
      rintro e w2 ⟨rfl, k2⟩
      have K2 := hide (KZ.out.trans k2)
      clear k2
      go_wp2_with fail
      go_ret
      exact ⟨ret_ustr (by rw [EB.out]), K2.out⟩

set_option maxRecDepth 100000 in
set_option maxHeartbeats 400000 in
theorem digits_all (n : Int) (w : World) (h0 : -100000000 ≤ n) (h1 : n ≤ 100000000) : Calls Tryd.prog 25 #[.int .i64 n] w fun e w' => e = .returned (.string (ustr (Lib.itoa n))) ∧ Kp (fun _ => False) w w' := by
  unfold Lib.itoa
  by_cases h : n < 0
  · rw [if_pos h]
    have e1 : (45 : UInt8) :: Lib.decDigits n.natAbs = [45] ++ Lib.decDigits n.natAbs := rfl
    rw [e1, ← ustr_app]
    have e2 : -n = ((n.natAbs : Nat) : Int) := by omega
    have L := hide (fun wx => digits_nat n.natAbs (by omega) wx)
    have z1 := dec_len n.natAbs
    rw [← ustr_size] at z1
    clear e1
    generalize ustr (Lib.decDigits n.natAbs) = A at *
    go_enter Tryd.func25, Tryd.ntmps25
    go_wp2_with fail
    refine (L.out _).mono ?_
    rintro e w2 ⟨rfl, k2⟩
    have K2 := hide k2
    clear k2
    go_wp2_with fail
    go_ret
    exact ⟨rfl, K2.out⟩
  · rw [if_neg h]
    have := digits_nat n.toNat (by omega) w
    rwa [show ((n.toNat : Nat) : Int) = n by omega] at this
theorem itoa_small {k : Nat} (h : k < 10) : Lib.itoa (k : Int) = [b8 (48 + (k : Int))] := by
  unfold Lib.itoa
  rw [if_neg (by omega), Lib.decDigits, Int.toNat_natCast, dif_pos h, b8_digit]

set_option maxRecDepth 100000 in
set_option maxHeartbeats 1000000 in
theorem written_any (f : List Bool) (g : Nat) (w : World) (h : SlB w g f) :
    Calls Tryd.prog 43 #[.slice (some ⟨g, 0, none⟩) 9 9] w fun e w' => e = .returned (.string (ustr (Sv.set f))) ∧ Kp (fun _ => False) w w' := by
  have HB := hide h
  have hf := h.1
  have HLEN := hide (fun n => Sv.setN_len f n)
  have HSu : Hid (∀ n, Sv.setN f (n + 1) = if f.getD n false = true then Sv.setN f n ++ Lib.itoa n else Sv.setN f n) := fun _ => rfl
  have HE : Hid (Sv.set f = Sv.setN f 9) := rfl
  have HZ : Hid (Sv.setN f 0 = []) := rfl
  rw [HE.out]
  have HBV : Hid (∀ n : Nat, n < 9 → (bv f)[n]? = some (.bool (f.getD n false))) := fun n hn => by
    rw [bv_get f n (by omega)]
    simp [List.getD, show n < f.length by omega]
  generalize Sv.setN f = SN at *
  clear h hf
  go_enter Tryd.func43, Tryd.ntmps43
  go_wp2_with fail
  go_loopg [3, 4] 9 (fun gk tv iv wr => ∃ k : Nat, k ≤ 9 ∧ 9 ≤ k + gk ∧ tv = .string (ustr (SN k)) ∧ iv = .int .i64 k ∧ SlB wr g f ∧ Kp (fun _ => False) w wr)
  case atStart => exact ⟨0, by omega, by omega, by rw [HZ.out]; rfl, rfl, HB.out, Kp.refl _ _⟩
  case round =>
    obtain ⟨k, g1, g2, rfl, rfl, b3, k3⟩ := hrel
    have B3 := hide b3
    have K3 := hide k3
    have z1 := HLEN.out k
    rw [← ustr_size] at z1
    by_cases hk : k < 9
    · have hS := HSu.out k
      have cK : wr.cell? ⟨g, k, none⟩ = some (.bool (f.getD k false)) := by rw [cell_of_row _ _ k _ _ _ b3.2]; exact HBV.out k hk
      have zk : k * (k + 2) ≤ 99 := Nat.mul_le_mul (show k ≤ 9 by omega) (show k + 2 ≤ 11 by omega)
      have z2 : (ustr (SN k)).size ≤ 99 := Nat.le_trans z1 zk
      clear b3 k3 z1 zk
      by_cases e : f.getD k false = true
      · rw [e] at cK
        rw [if_pos e] at hS
        have HS : Hid (ustr (SN (k + 1)) = ustr (SN k) ++ ustr [b8 (48 + (k : Int))]) := by
          show _ = _
          rw [hS, ustr_app]
          rw [itoa_small (show k < 10 by omega)]
        have z3 : (ustr [b8 (48 + (k : Int))]).size = 1 := rfl
        clear hS e
        go_wp2_with (refine wpList_convu rfl 85 9 _ rfl _ _ rfl (conv1u _ _ (by omega) (by omega)) ?_
                     intro wz hwz
                     have KZ : Hid (Kp (fun _ => False) wr wz) := by rw [hwz]; exact (Kp.refl _ _).alloc _
                     clear hwz)
        go_roundg (gk - 1)
        case measure => omega
        case rel => exact ⟨k + 1, by omega, by omega, by rw [HS.out], by go_num, B3.out.keep KZ.out (fun hx => hx), K3.out.trans KZ.out⟩
      · rw [if_neg e] at hS
        have e' : f.getD k false = false := by simpa using e
        rw [e'] at cK
        have HS := hide hS
        clear hS e e'
        go_wp2_with fail
        go_roundg (gk - 1)
        case measure => omega
        case rel => exact ⟨k + 1, by omega, by omega, by rw [HS.out], by go_num, B3.out, K3.out⟩
    · have ek : k = 9 := by omega
      subst ek
      clear b3 k3
      go_wp2_with fail
      go_ret
      exact ⟨rfl, K3.out⟩
theorem lit1 (a : UInt8) : (⟨#[a]⟩ : ByteArray) = ustr [a] := rfl
theorem lit2 (a b : UInt8) : (⟨#[a, b]⟩ : ByteArray) = ustr [a, b] := rfl
theorem val_str {a b : ByteArray} (h : a = b) : Value.string a = .string b := by rw [h]
/-- A side, with what stands behind it, as the document writes it. -/
def xbehind (s : Int) (st : Bool) : List UInt8 := (if 0 < s then [43] ++ Lib.itoa s else []) ++ (if st = true then [42] else [])
theorem xbehind_eq {s : Int} {st : Bool} (h0 : 0 ≤ s) (h : st = true → s = 0) : xbehind s st = Sv.behind s st := by
  unfold xbehind Sv.behind
  cases st with
  | true => rw [h rfl]; rfl
  | false =>
    by_cases e : s = 0
    · subst e; rfl
    · rw [if_pos (by omega), if_neg (by simp), if_neg (by simp), if_neg e]
      simp
def xheadT (r : Pu.Rule) (x : Pu.Shape) (age : Int) : List UInt8 := Sv.ruleT r ++ [32] ++ [b8 x.kind] ++ Lib.itoa x.w ++ xbehind x.ws x.wst ++ [44] ++ Lib.itoa x.h ++ xbehind x.hs x.hst ++ [32] ++ Lib.itoa age
theorem xhead_eq (r : Pu.Rule) {x : Pu.Shape} (age : Int) (h1 : 0 ≤ x.ws) (h2 : x.wst = true → x.ws = 0) (h3 : 0 ≤ x.hs) (h4 : x.hst = true → x.hs = 0) : xheadT r x age = Sv.headT r x age := by
  unfold xheadT Sv.headT Sv.shapeT
  rw [xbehind_eq h1 h2, xbehind_eq h3 h4]
  simp only [List.append_assoc]

end Go.Proofs.YtbdbkjngdhcjpaaDoor
namespace Go.Proofs.YtbdbkjngdhcjpaaDoor
open Go.RowKit
open Go.Proofs

/-- What the document writes of a world. -/
def xbodyT (l : List Cl) (p : Int × Int × Int × Int) : List UInt8 := rle (xrows (atL l) p.1 p.2.2.1 (p.2.1 - p.1 + 1).toNat (p.2.2.2 - p.2.2.1 + 1).toNat)
def xsaveT (r : Pu.Rule) (x : Pu.Shape) (age : Int) (l : List Cl) : List UInt8 :=
  if l = [] then xheadT r x age ++ [32, 48, 44, 48, 32, 33]
  else xheadT r x age ++ [32] ++ Lib.itoa (boxL l).1 ++ [44] ++ Lib.itoa (boxL l).2.2.1 ++ [32] ++ xbodyT l (boxL l) ++ [33]
theorem box_none {W H : Int} {g : Gs} (hs : Same W H g []) : (liveP W H g.l g.t g.S).e = true := by
  have := edges_live (gw := W) (gh := H) (l := g.l) (t := g.t) g.S (PX := fun _ => False) (PY := fun _ => False) (fun A B hg => absurd (hs A B) hg)
  rcases this with h | h
  · exact h
  · exact absurd h.1 id
theorem box_same {W H : Int} {g : Gs} {l : List Cl} (hs : Same W H g l) (hz : ∀ c, c ∈ l → c.2.2 ≠ 0) (hl : l ≠ []) : liveP W H g.l g.t g.S = ⟨false, (boxL l).1, (boxL l).2.2.1, (boxL l).2.1, (boxL l).2.2.2⟩ := by
  have hin : ∀ c, c ∈ l → Hold (liveP W H g.l g.t g.S) c.1 c.2.1 := by
    intro c hc
    refine hold_live g.S ?_
    have := hs c.1 c.2.1
    unfold getG at this
    rw [this]
    exact atL_mem hz hc
  have hed := edges_live (gw := W) (gh := H) (l := g.l) (t := g.t) g.S (PX := fun a => ∃ c, c ∈ l ∧ c.1 = a) (PY := fun a => ∃ c, c ∈ l ∧ c.2.1 = a) (fun A B hg => by
    have := hs A B
    unfold getG at this
    rw [this] at hg
    obtain ⟨c, hc, h1, h2⟩ := atL_ne hg
    exact ⟨⟨c, hc, h1⟩, ⟨c, hc, h2⟩⟩)
  have hb := boxL_is hl
  generalize boxL l = p at *
  generalize liveP W H g.l g.t g.S = b at *
  obtain ⟨hin2, ⟨ca, ca1, ca2⟩, ⟨cb, cb1, cb2⟩, ⟨cc, cc1, cc2⟩, ⟨cd, cd1, cd2⟩⟩ := hb
  have ha := hin ca ca1
  have hbb := hin cb cb1
  have hc := hin cc cc1
  have hd := hin cd cd1
  unfold Hold at ha hbb hc hd
  replace hed := hed.resolve_left (by rw [ha.1]; simp)
  obtain ⟨⟨cl, l1, l2⟩, ⟨cr, r1, r2⟩, ⟨ct, t1, t2⟩, ⟨ce, e1, e2⟩⟩ := hed
  have i1 := hin2 cl l1
  have i2 := hin2 cr r1
  have i3 := hin2 ct t1
  have i4 := hin2 ce e1
  obtain ⟨be, bL, bT, bR, bB⟩ := b
  simp only at *
  obtain ⟨p1, p2, p3, p4⟩ := p
  simp only at *
  rw [ha.1]
  congr 1 <;> omega
/-- The program saves what the document saves. -/
theorem save_eq {c : Int} (r : Pu.Rule) {x : Pu.Shape} (age : Int) {g : Gs} {l : List Cl} (hs : Same x.w x.h g l) (hz : ∀ d, d ∈ l → 1 ≤ d.2.2 ∧ d.2.2 < c) (c9 : c ≤ 9) (h1 : 0 ≤ x.ws) (h2 : x.wst = true → x.ws = 0) (h3 : 0 ≤ x.hs) (h4 : x.hst = true → x.hs = 0) :
    saveT r x age g.l g.t g.S = ustr (xsaveT r x age l) := by
  have hG : getP x.w x.h g.l g.t g.S = atL l := by
    funext X Y
    exact hs X Y
  unfold saveT Sv.writeT xsaveT
  rw [hG, xhead_eq r age h1 h2 h3 h4]
  by_cases hl : l = []
  · subst hl
    rw [if_pos rfl, if_pos (box_none hs)]
  · rw [if_neg hl, box_same hs (fun d hd => by have := hz d hd; omega) hl, if_neg (by simp)]
    have hb := boxL_is hl
    have h8 : ∀ X Y, 0 ≤ atL l X Y ∧ atL l X Y ≤ 8 := by
      intro X Y
      by_cases e : atL l X Y = 0
      · omega
      · have : ∀ m : List Cl, (∀ d, d ∈ m → 1 ≤ d.2.2 ∧ d.2.2 < c) → 0 ≤ atL m X Y ∧ atL m X Y ≤ 8 := by
          intro m
          induction m with
          | nil => intro _; simp [atL]
          | cons d m ih =>
            intro hm
            have h5 := hm d List.mem_cons_self
            unfold atL
            split
            · omega
            · exact ih (fun d hd => hm d (List.mem_cons_of_mem _ hd))
        exact this l hz
    have hne := fun d (hd : d ∈ l) => atL_mem (fun d hd => by have := hz d hd; omega) hd
    unfold xbodyT Sv.placeT
    simp only
    generalize boxL l = p at *
    obtain ⟨hin, ⟨ca, ca1, ca2⟩, ⟨cb, cb1, cb2⟩, ⟨cc, cc1, cc2⟩, ⟨cd, cd1, cd2⟩⟩ := hb
    have i1 := hin cd cd1
    have i2 := hin cc cc1
    obtain ⟨k, hk⟩ : ∃ k : Nat, (p.2.2.2 - p.2.2.1 + 1).toNat = k + 1 := ⟨(p.2.2.2 - p.2.2.1).toNat, by omega⟩
    rw [hk, body_runs (atL l) p.1 p.2.2.1 h8 _ k ?_]
    · simp only [List.append_assoc]
    · have e1 : ((cd.1 - p.1).toNat : Int) = cd.1 - p.1 := by omega
      refine xrow_ne _ _ _ (cd.1 - p.1).toNat (by omega) ?_
      rw [e1, show p.1 + (cd.1 - p.1) = cd.1 by omega, show p.2.2.1 + (k : Int) = cd.2.1 by omega]
      exact hne cd cd1
end Go.Proofs.YtbdbkjngdhcjpaaDoor
namespace Go.Proofs.YtbdbkjngdhcjpaaDoor
open Go.RowKit
open Go.Proofs

/-- A shape with two sides. -/
def Two (x : Pu.Shape) : Prop := 0 < x.w ∧ x.w ≤ 12 ∧ 0 < x.h ∧ x.h ≤ 12
theorem has_iff {x : Pu.Shape} (h : Two x) (a b : Int) : hasB x a b = true ↔ (0 ≤ a ∧ a < x.w) ∧ 0 ≤ b ∧ b < x.h := by
  unfold hasB onSideB
  simp
  have := h.1
  have := h.2.2.1
  omega
theorem near_two {x : Pu.Shape} (h : Two x) (a b : Int) : nearB x a b = true := by
  unfold nearB nearOnB
  simp
  have := h.1
  have := h.2.2.1
  omega
theorem slot_in {x : Pu.Shape} (h : Two x) {a b : Int} (ha : 0 ≤ a ∧ a < x.w) (hb : 0 ≤ b ∧ b < x.h) : slotP x.w x.h 0 0 a b = b * x.w + a ∧ 0 ≤ b * x.w + a := by
  obtain ⟨h1, h2, h3, h4⟩ := h
  have e1 : spanP x.w = x.w := by unfold spanP; rw [if_neg (by omega)]
  have e2 : spanP x.h = x.h := by unfold spanP; rw [if_neg (by omega)]
  have e3 : b % x.h = b := Int.emod_eq_of_lt hb.1 hb.2
  have e4 : a % x.w = a := Int.emod_eq_of_lt ha.1 ha.2
  have p1 : 0 ≤ b * x.w := Int.mul_nonneg hb.1 (by omega)
  have p2 : b * x.w ≤ 12 * x.w := Int.mul_le_mul_of_nonneg_right (by omega) (by omega)
  unfold slotP
  rw [e1, e2, e3, e4, if_neg (by omega), if_neg (by omega)]
  exact ⟨rfl, by omega⟩

/-- A cell of a world with two sides is put. -/
def putS (x : Pu.Shape) (S : List Int) (a b u : Int) : List Int := if hasB x a b = true then S.set (b * x.w + a).toNat u else S
/-- A run of cells is put. -/
def runS (x : Pu.Shape) (S : List Int) (a b u : Int) : Nat → List Int
  | 0 => S
  | k + 1 => putS x (runS x S a b u k) (a + k) b u

set_option maxRecDepth 100000 in
set_option maxHeartbeats 400000 in
/-- A live cell is put into the world's own grid, in a shape with two sides. -/
theorem settle_in (q : Nat) (r : Pu.Rule) (x : Pu.Shape) (age : Int) (S : List Int) (a b u : Int) (w : World) (h : GrAt w q (preOf r x age) x.w x.h 0 0 S) (hr : RuleOk r) (hx : Two x) (hs : 0 ≤ slotP x.w x.h 0 0 a b) :
    Calls Tryd.prog 58 #[.pointer (some ⟨q, 0, none⟩), .pointer (some ⟨q, 28, none⟩), .int .i64 a, .int .i64 b, .int .i64 u] w fun e w' => e = .returned (.bool true) ∧ GrAt w' q (preOf r x age) x.w x.h 0 0 (S.set (slotP x.w x.h 0 0 a b).toNat u) ∧ Kp (· = q) w w' := by
  have H := hide h
  have ld := hide (fun j v => h.shape hr j v)
  have HNr := hide (fun wx => by have := near_any x a b wx; rw [near_two hx] at this; exact this)
  obtain ⟨w0, w12, h0, h12⟩ := hx
  have HP := hide (fun (wx : World) (hg : GrAt wx q (preOf r x age) x.w x.h 0 0 S) => put_in q (preOf r x age) x.w x.h 0 0 S a b u wx hg (by omega) w12 (by omega) h12 (by omega) (by omega) (by omega) (by omega) hs)
  clear h hs
  go_enter Tryd.func58, Tryd.ntmps58
  go_wp2_with (refine wpList_load_at rfl 50 _ rfl q 20 rfl (shv x) ld.out _ Tryd.underlying50 rfl info_shape ?_)
  refine (HNr.out _).mono ?_
  rintro e w2 ⟨rfl, k2⟩
  have A2 := hide (H.out.keep k2 (fun hx => hx))
  have K2 := hide (k2.mono (T := (· = q)) (fun _ hx => hx.elim))
  clear k2
  go_wp2_with fail
  refine (HP.out _ A2.out).mono ?_
  rintro e w3 ⟨rfl, g8, k3⟩
  have A3 := hide g8
  have K3 := hide (K2.out.trans k3)
  clear g8 k3
  go_wp2_with fail
  go_ret
  exact ⟨rfl, A3.out, K3.out⟩

set_option maxRecDepth 100000 in
set_option maxHeartbeats 1000000 in
theorem layRun_in (q : Nat) (r : Pu.Rule) (x : Pu.Shape) (age : Int) (S : List Int) (a b : Int) (n st : Int) (dn : Bool) (w : World) (h : GrAt w q (preOf r x age) x.w x.h 0 0 S) (hr : RuleOk r) (hx : Two x) (hn : 1 ≤ n ∧ n ≤ 99) (hst : ¬ st = 0)
    (ha : -1000000 ≤ a ∧ a ≤ 1000000) (_hb : -1000000 ≤ b ∧ b ≤ 1000000) :
    Calls Tryd.prog 75 #[.pointer (some ⟨q, 0, none⟩), .int .i64 a, .int .i64 b, .agg (runv ⟨n, st, dn⟩)] w fun e w' => e = .returned (.bool true) ∧ GrAt w' q (preOf r x age) x.w x.h 0 0 (runS x S a b st n.toNat) ∧ Kp (· = q) w w' := by
  have hq := h.lt
  have H := hide h
  have HR := hide hr
  have HX := hide hx
  obtain ⟨w0, w12, h0, h12⟩ := hx
  simp only [runv] at *
  clear h hr
  have bs : (st == 0) = false := by simpa using hst
  clear hst
  go_enter Tryd.func75, Tryd.ntmps75
  go_wp2_with fail
  go_loopg [9] n.toNat (fun gk v wr => ∃ k : Nat, (k : Int) ≤ n ∧ n ≤ k + gk ∧ v = .int .i64 k ∧ GrAt wr q (preOf r x age) x.w x.h 0 0 (runS x S a b st k) ∧
    wr.heap[w.heap.size]? = some (.cells #[.int .i64 n, .int .i64 st, .bool dn] 115 (0, 0)) ∧ Kp (· = q) w wr)
  case atStart => exact ⟨0, by omega, by omega, rfl, H.out.alloc _, heap_alloc_new _ _, (Kp.refl _ _).alloc _⟩
  case round =>
    obtain ⟨k, g1, g2, rfl, g3, g6, g7⟩ := hrel
    have d0 : wr.cell? ⟨w.heap.size, 0, none⟩ = some (.int .i64 n) := cell_of_row _ _ 0 _ _ _ g6
    have d1 : wr.cell? ⟨w.heap.size, 1, none⟩ = some (.int .i64 st) := cell_of_row _ _ 1 _ _ _ g6
    have G3 := hide g3
    have G6 := hide g6
    have G7 := hide g7
    have ld := hide (fun j v => g3.shape HR.out j v)
    clear g3 g6 g7
    by_cases hlt : (k : Int) < n
    · cases hhas : hasB x (a + k) b with
      | false =>
        have HH := hide (fun wx => by have := has_any x (a + k) b wx; rw [hhas] at this; exact this)
        have HN : Hid (runS x S a b st (k + 1) = runS x S a b st k) := by
          show putS x (runS x S a b st k) (a + k) b st = _
          unfold putS
          rw [hhas, if_neg (by simp)]
        clear hhas
        go_wp2_with (refine wpList_load_at rfl 50 _ rfl q 20 rfl (shv x) ld.out _ Tryd.underlying50 rfl info_shape ?_)
        refine (HH.out _).mono ?_
        rintro e w1 ⟨rfl, k1⟩
        go_wp2_with fail
        go_roundg (gk - 1)
        case measure => omega
        case rel => exact ⟨k + 1, by omega, by omega, by go_num, by rw [HN.out]; exact G3.out.keep k1 (fun hx => hx), k1.row G6.out (fun hx => hx), G7.out.trans (k1.mono (fun _ hx => hx.elim))⟩
      | true =>
        have HH := hide (fun wx => by have := has_any x (a + k) b wx; rw [hhas] at this; exact this)
        have hin := (has_iff HX.out (a + k) b).1 hhas
        have HSL := hide (slot_in HX.out hin.1 hin.2)
        have HN : Hid (runS x S a b st (k + 1) = (runS x S a b st k).set (slotP x.w x.h 0 0 (a + k) b).toNat st) := by
          show putS x (runS x S a b st k) (a + k) b st = _
          unfold putS
          rw [hhas, if_pos rfl, HSL.out.1]
        clear hhas
        go_wp2_with (refine wpList_load_at rfl 50 _ rfl q 20 rfl (shv x) ld.out _ Tryd.underlying50 rfl info_shape ?_)
        refine (HH.out _).mono ?_
        rintro e w1 ⟨rfl, k1⟩
        have A1 := hide (G3.out.keep k1 (fun hx => hx))
        have B1 := hide (k1.row G6.out (fun hx => hx))
        have K1 := hide (G7.out.trans (k1.mono (T := (· = q)) (fun _ hx => hx.elim)))
        clear k1
        have d2 : w1.cell? ⟨w.heap.size, 1, none⟩ = some (.int .i64 st) := cell_of_row _ _ 1 _ _ _ B1.out
        have HP := hide (fun (wx : World) (hx : GrAt wx q (preOf r x age) x.w x.h 0 0 (runS x S a b st k)) => settle_in q r x age (runS x S a b st k) (a + k) b st wx hx HR.out HX.out (by rw [HSL.out.1]; exact HSL.out.2))
        have HW := hide (wrap_is (z := a + k) (by omega))
        go_wp2_with fail
        go_region_with (go_at_call 58; rw [HW.out]; refine (HP.out _ (by exact ⟨A1.out.row, A1.out.psz, A1.out.len⟩)).mono ?_; rintro e w3 ⟨rfl, g8, k3⟩)
        have A3 := hide g8
        have B3 := hide (k3.row (w := w1.drew) B1.out (by omega))
        have K3 := hide (K1.out.trans (Kp.drewNl (n := 1) k3))
        clear g8 k3
        go_wp2_with fail
        go_roundg (gk - 1)
        case measure => omega
        case rel => exact ⟨k + 1, by omega, by omega, by go_num, by rw [HN.out]; exact A3.out, B3.out, K3.out⟩
    · have hk : k = n.toNat := by omega
      go_wp2_with fail
      go_ret
      subst hk
      exact ⟨rfl, G3.out, G7.out⟩
end Go.Proofs.YtbdbkjngdhcjpaaDoor
