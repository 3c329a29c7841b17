import Derived.Test.YtbdbkjngdhcjpaaDoorXo
import Derived.Test.YtbdbkjngdhcjpaaDoorSf
namespace Go.Proofs.YtbdbkjngdhcjpaaDoor
open Go.RowKit
open Go.Proofs

theorem b8_digit (d : Nat) : b8 (48 + (d : Int)) = UInt8.ofNat (48 + d) := by
  unfold b8
  congr 1

set_option maxRecDepth 100000 in
set_option maxHeartbeats 400000 in
theorem digits_nat : ∀ u : Nat, u ≤ 100000000 → ∀ w : World, Calls Tryd.prog 25 #[.int .i64 (u : Int)] w fun e w' => e = .returned (.string (ustr (Lib.decDigits u))) ∧ Kp (fun _ => False) w w' := by
  intro u
  induction u using Nat.strongRecOn with
  | _ u ih =>
    intro hu w
    rw [Lib.decDigits]
    by_cases h : u < 10
    · rw [dif_pos h]
      have hm : (u : Int).tmod 10 = u := by rw [Int.tmod_eq_emod_of_nonneg (by omega)]; omega
      go_enter Tryd.func25, Tryd.ntmps25
      go_wp2_with (refine wpList_convu rfl 85 9 _ rfl _ _ rfl (conv1u _ _ (by omega) (by omega)) ?_
                   intro wz hwz
                   have KZ : Hid (Kp (fun _ => False) w wz) := by rw [hwz]; exact (Kp.refl _ _).alloc _
                   clear hwz)
      go_ret
      exact ⟨ret_ustr (by rw [b8_digit]), KZ.out⟩
    · rw [dif_neg h, ← ustr_app]
      have hm : (u : Int).tmod 10 = ((u % 10 : Nat) : Int) := by rw [Int.tmod_eq_emod_of_nonneg (by omega)]; omega
      have hd : (u : Int).tdiv 10 = ((u / 10 : Nat) : Int) := by rw [Int.tdiv_eq_ediv_of_nonneg (by omega)]; omega
      have hlt : u % 10 < 10 := Nat.mod_lt _ (by omega)
      have IH := hide (fun wx => ih (u / 10) (by omega) (by omega) wx)
      have EB := hide (b8_digit (u % 10))
      have z1 := dec_len (u / 10)
      rw [← ustr_size] at z1
      have z2 : (ustr [b8 (48 + ((u % 10 : Nat) : Int))]).size = 1 := rfl
      clear ih
      generalize ustr (Lib.decDigits (u / 10)) = A at *
      generalize u % 10 = m at *
      go_enter Tryd.func25, Tryd.ntmps25
      go_wp2_with (refine wpList_convu rfl 85 9 _ rfl _ _ rfl (conv1u _ _ (by omega) (by omega)) ?_
                   intro wz hwz
                   have KZ : Hid (Kp (fun _ => False) w wz) := by rw [hwz]; exact (Kp.refl _ _).alloc _
                   clear hwz)
      refine (IH.out _).mono ?_
      rintro e w2 ⟨rfl, k2⟩
      have K2 := hide (KZ.out.trans k2)
      clear k2
      go_wp2_with fail
      go_ret
      exact ⟨ret_ustr (by rw [EB.out]), K2.out⟩

set_option maxRecDepth 100000 in
set_option maxHeartbeats 400000 in
theorem digits_all (n : Int) (w : World) (h0 : -100000000 ≤ n) (h1 : n ≤ 100000000) : Calls Tryd.prog 25 #[.int .i64 n] w fun e w' => e = .returned (.string (ustr (Lib.itoa n))) ∧ Kp (fun _ => False) w w' := by
  unfold Lib.itoa
  by_cases h : n < 0
  · rw [if_pos h]
    have e1 : (45 : UInt8) :: Lib.decDigits n.natAbs = [45] ++ Lib.decDigits n.natAbs := rfl
    rw [e1, ← ustr_app]
    have e2 : -n = ((n.natAbs : Nat) : Int) := by omega
    have L := hide (fun wx => digits_nat n.natAbs (by omega) wx)
    have z1 := dec_len n.natAbs
    rw [← ustr_size] at z1
    clear e1
    generalize ustr (Lib.decDigits n.natAbs) = A at *
    go_enter Tryd.func25, Tryd.ntmps25
    go_wp2_with fail
    refine (L.out _).mono ?_
    rintro e w2 ⟨rfl, k2⟩
    have K2 := hide k2
    clear k2
    go_wp2_with fail
    go_ret
    exact ⟨rfl, K2.out⟩
  · rw [if_neg h]
    have := digits_nat n.toNat (by omega) w
    rwa [show ((n.toNat : Nat) : Int) = n by omega] at this
theorem itoa_small {k : Nat} (h : k < 10) : Lib.itoa (k : Int) = [b8 (48 + (k : Int))] := by
  unfold Lib.itoa
  rw [if_neg (by omega), Lib.decDigits, Int.toNat_natCast, dif_pos h, b8_digit]

set_option maxRecDepth 100000 in
set_option maxHeartbeats 1000000 in
theorem written_any (f : List Bool) (g : Nat) (w : World) (h : SlB w g f) :
    Calls Tryd.prog 43 #[.slice (some ⟨g, 0, none⟩) 9 9] w fun e w' => e = .returned (.string (ustr (Sv.set f))) ∧ Kp (fun _ => False) w w' := by
  have HB := hide h
  have hf := h.1
  have HLEN := hide (fun n => Sv.setN_len f n)
  have HSu : Hid (∀ n, Sv.setN f (n + 1) = if f.getD n false = true then Sv.setN f n ++ Lib.itoa n else Sv.setN f n) := fun _ => rfl
  have HE : Hid (Sv.set f = Sv.setN f 9) := rfl
  have HZ : Hid (Sv.setN f 0 = []) := rfl
  rw [HE.out]
  have HBV : Hid (∀ n : Nat, n < 9 → (bv f)[n]? = some (.bool (f.getD n false))) := fun n hn => by
    rw [bv_get f n (by omega)]
    simp [List.getD, show n < f.length by omega]
  generalize Sv.setN f = SN at *
  clear h hf
  go_enter Tryd.func43, Tryd.ntmps43
  go_wp2_with fail
  go_loopg [3, 4] 9 (fun gk tv iv wr => ∃ k : Nat, k ≤ 9 ∧ 9 ≤ k + gk ∧ tv = .string (ustr (SN k)) ∧ iv = .int .i64 k ∧ SlB wr g f ∧ Kp (fun _ => False) w wr)
  case atStart => exact ⟨0, by omega, by omega, by rw [HZ.out]; rfl, rfl, HB.out, Kp.refl _ _⟩
  case round =>
    obtain ⟨k, g1, g2, rfl, rfl, b3, k3⟩ := hrel
    have B3 := hide b3
    have K3 := hide k3
    have z1 := HLEN.out k
    rw [← ustr_size] at z1
    by_cases hk : k < 9
    · have hS := HSu.out k
      have cK : wr.cell? ⟨g, k, none⟩ = some (.bool (f.getD k false)) := by rw [cell_of_row _ _ k _ _ _ b3.2]; exact HBV.out k hk
      have zk : k * (k + 2) ≤ 99 := Nat.mul_le_mul (show k ≤ 9 by omega) (show k + 2 ≤ 11 by omega)
      have z2 : (ustr (SN k)).size ≤ 99 := Nat.le_trans z1 zk
      clear b3 k3 z1 zk
      by_cases e : f.getD k false = true
      · rw [e] at cK
        rw [if_pos e] at hS
        have HS : Hid (ustr (SN (k + 1)) = ustr (SN k) ++ ustr [b8 (48 + (k : Int))]) := by
          show _ = _
          rw [hS, ustr_app]
          rw [itoa_small (show k < 10 by omega)]
        have z3 : (ustr [b8 (48 + (k : Int))]).size = 1 := rfl
        clear hS e
        go_wp2_with (refine wpList_convu rfl 85 9 _ rfl _ _ rfl (conv1u _ _ (by omega) (by omega)) ?_
                     intro wz hwz
                     have KZ : Hid (Kp (fun _ => False) wr wz) := by rw [hwz]; exact (Kp.refl _ _).alloc _
                     clear hwz)
        go_roundg (gk - 1)
        case measure => omega
        case rel => exact ⟨k + 1, by omega, by omega, by rw [HS.out], by go_num, B3.out.keep KZ.out (fun hx => hx), K3.out.trans KZ.out⟩
      · rw [if_neg e] at hS
        have e' : f.getD k false = false := by simpa using e
        rw [e'] at cK
        have HS := hide hS
        clear hS e e'
        go_wp2_with fail
        go_roundg (gk - 1)
        case measure => omega
        case rel => exact ⟨k + 1, by omega, by omega, by rw [HS.out], by go_num, B3.out, K3.out⟩
    · have ek : k = 9 := by omega
      subst ek
      clear b3 k3
      go_wp2_with fail
      go_ret
      exact ⟨rfl, K3.out⟩
theorem lit1 (a : UInt8) : (⟨#[a]⟩ : ByteArray) = ustr [a] := rfl
theorem lit2 (a b : UInt8) : (⟨#[a, b]⟩ : ByteArray) = ustr [a, b] := rfl
theorem val_str {a b : ByteArray} (h : a = b) : Value.string a = .string b := by rw [h]
/-- A side, with what stands behind it, as the document writes it. -/
def xbehind (s : Int) (st : Bool) : List UInt8 := (if 0 < s then [43] ++ Lib.itoa s else []) ++ (if st = true then [42] else [])
theorem xbehind_eq {s : Int} {st : Bool} (h0 : 0 ≤ s) (h : st = true → s = 0) : xbehind s st = Sv.behind s st := by
  unfold xbehind Sv.behind
  cases st with
  | true => rw [h rfl]; rfl
  | false =>
    by_cases e : s = 0
    · subst e; rfl
    · rw [if_pos (by omega), if_neg (by simp), if_neg (by simp), if_neg e]
      simp
def xheadT (r : Pu.Rule) (x : Pu.Shape) (age : Int) : List UInt8 := Sv.ruleT r ++ [32] ++ [b8 x.kind] ++ Lib.itoa x.w ++ xbehind x.ws x.wst ++ [44] ++ Lib.itoa x.h ++ xbehind x.hs x.hst ++ [32] ++ Lib.itoa age
theorem xhead_eq (r : Pu.Rule) {x : Pu.Shape} (age : Int) (h1 : 0 ≤ x.ws) (h2 : x.wst = true → x.ws = 0) (h3 : 0 ≤ x.hs) (h4 : x.hst = true → x.hs = 0) : xheadT r x age = Sv.headT r x age := by
  unfold xheadT Sv.headT Sv.shapeT
  rw [xbehind_eq h1 h2, xbehind_eq h3 h4]
  simp only [List.append_assoc]

end Go.Proofs.YtbdbkjngdhcjpaaDoor
namespace Go.Proofs.YtbdbkjngdhcjpaaDoor
open Go.RowKit
open Go.Proofs

/-- The document's world, to be read by head. -/
structure HdAt (w : World) (q : Nat) (r : Pu.Rule) (x : Pu.Shape) (age : Int) (g1 g2 : Nat) (v : Value) : Prop where
  va : VAt w q (vw r g1 g2 x age v)
  s1 : SlB w g1 r.births
  s2 : SlB w g2 r.survivals
theorem HdAt.keep {w w' : World} {q : Nat} {r : Pu.Rule} {x : Pu.Shape} {age : Int} {g1 g2 : Nat} {v : Value} (h : HdAt w q r x age g1 g2 v) (k : Kp (fun _ => False) w w') : HdAt w' q r x age g1 g2 v :=
  ⟨h.va.keep k (fun h => h), h.s1.keep k (fun h => h), h.s2.keep k (fun h => h)⟩
structure HdB (r : Pu.Rule) (x : Pu.Shape) (age : Int) : Prop where
  ar : 0 ≤ r.around ∧ r.around < 256
  st : 2 ≤ r.states ∧ r.states ≤ 9
  k : 0 ≤ x.kind ∧ x.kind < 256
  w : 0 ≤ x.w ∧ x.w ≤ 64
  h : 0 ≤ x.h ∧ x.h ≤ 64
  ws : 0 ≤ x.ws ∧ x.ws ≤ 64
  hs : 0 ≤ x.hs ∧ x.hs ≤ 64
  ag : 0 ≤ age ∧ age ≤ 999999
theorem itoa_le {n : Int} (h0 : 0 ≤ n) (h1 : n ≤ 999999) : (ustr (Lib.itoa n)).size ≤ 1000002 := by
  have := itoa_len n
  rw [ustr_size]
  omega
theorem itoa_le64 {n : Int} (h0 : 0 ≤ n) (h1 : n ≤ 64) : (ustr (Lib.itoa n)).size ≤ 66 := by
  have := itoa_len n
  rw [ustr_size]
  omega
theorem itoa_st {n : Int} (h0 : 0 ≤ n) (h1 : n ≤ 9) : Lib.itoa n = [b8 (48 + n)] := by
  have := itoa_small (k := n.toNat) (by omega)
  rwa [show ((n.toNat : Nat) : Int) = n by omega] at this
structure HdC (w : World) (q : Nat) (r : Pu.Rule) (x : Pu.Shape) (age : Int) (g1 g2 : Nat) : Prop where
  c0 : w.cell? ⟨q, 0, none⟩ = some (.int .u8 r.around)
  c1 : w.cell? ⟨q, 1, none⟩ = some (.slice (some ⟨g1, 0, none⟩) 9 9)
  c2 : w.cell? ⟨q, 2, none⟩ = some (.slice (some ⟨g2, 0, none⟩) 9 9)
  c3 : w.cell? ⟨q, 3, none⟩ = some (.int .i64 r.states)
  c4 : w.cell? ⟨q, 4, none⟩ = some (.int .u8 x.kind)
  c5 : w.cell? ⟨q, 5, none⟩ = some (.int .i64 x.w)
  c6 : w.cell? ⟨q, 6, none⟩ = some (.int .i64 x.h)
  c7 : w.cell? ⟨q, 7, none⟩ = some (.int .i64 x.ws)
  c8 : w.cell? ⟨q, 8, none⟩ = some (.int .i64 x.hs)
  c9 : w.cell? ⟨q, 9, none⟩ = some (.bool x.wst)
  c10 : w.cell? ⟨q, 10, none⟩ = some (.bool x.hst)
  c11 : w.cell? ⟨q, 11, none⟩ = some (.int .i64 age)
theorem HdAt.cells {w : World} {q : Nat} {r : Pu.Rule} {x : Pu.Shape} {age : Int} {g1 g2 : Nat} {v : Value} (h : HdAt w q r x age g1 g2 v) : HdC w q r x age g1 g2 :=
  ⟨by rw [h.va.cell]; rfl, by rw [h.va.cell]; rfl, by rw [h.va.cell]; rfl, by rw [h.va.cell]; rfl, by rw [h.va.cell]; rfl, by rw [h.va.cell]; rfl, by rw [h.va.cell]; rfl, by rw [h.va.cell]; rfl, by rw [h.va.cell]; rfl, by rw [h.va.cell]; rfl, by rw [h.va.cell]; rfl, by rw [h.va.cell]; rfl⟩
end Go.Proofs.YtbdbkjngdhcjpaaDoor
