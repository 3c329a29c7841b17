import Derived.Test.YtbdbkjngdhcjpaaDoorYa
import Derived.Test.YtbdbkjngdhcjpaaDoorM10
namespace Go.Proofs.YtbdbkjngdhcjpaaDoor
open Go.RowKit
open Go.Proofs

set_option maxRecDepth 100000 in
set_option maxHeartbeats 2000000 in
theorem xrow_any (q : Nat) (a : Array Value) (v : Value) (l : List Cl) (Y A B : Int) (w : World) (hv : VAt w q a) (h12 : a[12]? = some v) (h : ClAt w v l) (hl : l.length ≤ 1000000) (hG : ∀ X Y, 0 ≤ atL l X Y ∧ atL l X Y ≤ 8)
    (hA : -100000 ≤ A) (hB : B ≤ 100000) (hAB : A ≤ B + 1) :
    Calls Tryd.prog 24 #[.pointer (some ⟨q, 0, none⟩), .int .i64 Y, .int .i64 A, .int .i64 B] w fun e w' => e = .returned (.string (ustr (xrow (fun X => atL l X Y) A (B - A + 1).toNat))) ∧ Kp (fun _ => False) w w' := by
  have HV := hide hv
  have HC := hide h
  have AT := hide (fun X wx (hx : ClAt wx v l) => xat_any v l X Y wx hx hl)
  have cT : ∀ wx, VAt wx q a → wx.cell? ⟨q, 12, none⟩ = some v := fun wx hx => by rw [hx.cell 12]; exact h12
  have CT := hide cT
  have HG := hide (fun X => hG X Y)
  have HLEN := hide (xrowN_len (fun X => atL l X Y) A)
  have HZ : Hid (xrowN (fun X => atL l X Y) A 0 = ([], [])) := rfl
  have HSu : Hid (∀ n, xrowN (fun X => atL l X Y) A (n + 1) = if atL l (A + n) Y = 0 then ((xrowN (fun X => atL l X Y) A n).1, (xrowN (fun X => atL l X Y) A n).2 ++ [46]) else ((xrowN (fun X => atL l X Y) A n).1 ++ (xrowN (fun X => atL l X Y) A n).2 ++ [b8 (64 + atL l (A + n) Y)], [])) := fun _ => rfl
  unfold xrow
  generalize xrowN (fun X => atL l X Y) A = RN at *
  generalize hN : (B - A + 1).toNat = N at *
  have hBN : B = A + N - 1 := by omega
  have hN2 : N ≤ 200001 := by omega
  clear hN hAB
  subst hBN
  clear hv h cT h12 hG
  go_enter Tryd.func24, Tryd.ntmps24
  go_wp2_with fail
  go_loopg [9, 10, 11] N (fun gk tv dv iv wr => ∃ k : Nat, k ≤ N ∧ N ≤ k + gk ∧ tv = .string (ustr (RN k).1) ∧ dv = .string (ustr (RN k).2) ∧ iv = .int .i64 (A + k) ∧ VAt wr q a ∧ ClAt wr v l ∧ Kp (fun _ => False) w wr)
  case atStart => exact ⟨0, by omega, by omega, by rw [HZ.out]; rfl, by rw [HZ.out]; rfl, by go_num, HV.out, HC.out, Kp.refl _ _⟩
  case round =>
    obtain ⟨k, g1, g2, rfl, rfl, rfl, v3, c3, k3⟩ := hrel
    have V3 := hide v3
    have C3 := hide c3
    have K3 := hide k3
    have z1 := HLEN.out k
    have z2 : (ustr (RN k).1).size ≤ 200001 := by rw [ustr_size]; omega
    have z3 : (ustr (RN k).2).size ≤ 200001 := by rw [ustr_size]; omega
    have cV := CT.out wr v3
    clear v3 c3 k3 z1
    by_cases hk : k < N
    · have hS := HSu.out k
      have hg := HG.out (A + k)
      have A1 := hide (AT.out (A + k) wr C3.out)
      generalize atL l (A + k) Y = s at *
      by_cases e : s = 0
      · subst e
        rw [if_pos rfl] at hS
        have HS := hide hS
        clear hS
        go_wp2_with fail
        refine A1.out.mono ?_
        rintro e w2 ⟨rfl, rfl⟩
        go_wp2_with fail
        go_roundg (gk - 1)
        case measure => omega
        case rel => exact ⟨k + 1, by omega, by omega, by rw [HS.out], val_str (by rw [lit1, ustr_app, HS.out]), by go_num, V3.out, C3.out, K3.out⟩
      · rw [if_neg e] at hS
        have HS : Hid (ustr (RN (k + 1)).1 = ustr (RN k).1 ++ ustr (RN k).2 ++ ustr [b8 (65 + s - 1)]) := by
          show _ = _
          rw [hS, ustr_app, ustr_app, show 65 + s - 1 = 64 + s by omega]
        have HS2 : Hid ((RN (k + 1)).2 = []) := by
          show _ = _
          rw [hS]
        have z4 : (ustr [b8 (65 + s - 1)]).size = 1 := rfl
        clear hS
        go_wp2_with fail
        refine A1.out.mono ?_
        rintro e w2 ⟨rfl, rfl⟩
        go_wp2_with (refine wpList_convu rfl 85 9 _ rfl _ _ rfl (conv1u _ _ (by omega) (by omega)) ?_
                     intro wz hwz
                     have KZ : Hid (Kp (fun _ => False) w2 wz) := by rw [hwz]; exact (Kp.refl _ _).alloc _
                     clear hwz)
        go_roundg (gk - 1)
        case measure => omega
        case rel => exact ⟨k + 1, by omega, by omega, by rw [HS.out], by rw [HS2.out]; rfl, by go_num, V3.out.keep KZ.out (fun h => h), C3.out.keep KZ.out (fun _ _ h => h), K3.out.trans KZ.out⟩
    · have ek : k = N := by omega
      subst ek
      go_wp2_with fail
      go_ret
      exact ⟨rfl, K3.out⟩
end Go.Proofs.YtbdbkjngdhcjpaaDoor
namespace Go.Proofs.YtbdbkjngdhcjpaaDoor
open Go.RowKit
open Go.Proofs

theorem lead_get (a : UInt8) : ∀ (M : List UInt8) (j : Nat), j < lead a M → M[j]? = some a := by
  intro M
  induction M with
  | nil => intro j h; simp [lead] at h
  | cons b M ih =>
    intro j h
    unfold lead at h
    split at h
    · rename_i e
      cases j with
      | zero => simp [e]
      | succ j => simpa using ih j (by omega)
    · omega
theorem lead_stop (a : UInt8) : ∀ (M : List UInt8), M[lead a M]? ≠ some a := by
  intro M
  induction M with
  | nil => simp
  | cons b M ih =>
    unfold lead
    split
    · simpa using ih
    · rename_i e
      simpa using e
/-- What is written of a text from its place i on. -/
def rleF (s : ByteArray) (i : Nat) : List UInt8 := rle (s.data.toList.drop i)
theorem dlen (s : ByteArray) : s.data.toList.length = s.size := by
  rw [Array.length_toList]
  rfl
theorem rleF_end (s : ByteArray) : rleF s s.size = [] := by
  unfold rleF
  rw [List.drop_eq_nil_of_le (by rw [dlen]; exact Nat.le_refl _), rle_nil]
theorem rle_len : ∀ (n : Nat) (M : List UInt8), M.length ≤ n → (rle M).length ≤ 4 * M.length := by
  intro n
  induction n with
  | zero =>
    intro M h
    have : M = [] := List.length_eq_zero_iff.1 (by omega)
    subst this
    rw [rle_nil]
    simp
  | succ n ih =>
    intro M h
    cases M with
    | nil => rw [rle_nil]; simp
    | cons a M =>
      rw [rle_cons]
      have hl := lead_le a M
      have := ih (M.drop (lead a M)) (by simp at h ⊢; omega)
      have h2 := itoa_len ((lead a M + 1 : Nat) : Int)
      simp at this h
      simp only [List.length_append, List.length_cons, List.length_nil]
      split
      · omega
      · simp
        omega
structure RunAt (s : ByteArray) (i L : Nat) (hi : i < s.size) : Prop where
  pos : 1 ≤ L
  le : i + L ≤ s.size
  eq : ∀ k, (hk : k < s.size) → i ≤ k → k < i + L → (s[k].toNat : Int) = (s[i].toNat : Int)
  ne : (hk : i + L < s.size) → (s[i + L].toNat : Int) ≠ (s[i].toNat : Int)
  step : rleF s i = (if 1 < L then Lib.itoa (L : Int) else []) ++ [s[i]] ++ rleF s (i + L)
theorem bget {s : ByteArray} {k : Nat} (hk : k < s.size) : s.data.toList[k]? = some s[k] := by
  have hk' : k < s.data.size := hk
  rw [Array.getElem?_toList, Array.getElem?_eq_getElem hk']
  rfl
theorem run_at (s : ByteArray) (i : Nat) (hi : i < s.size) : ∃ L, RunAt s i L hi := by
  have hd : s.data.toList.drop i = s[i] :: s.data.toList.drop (i + 1) := by
    have hi' : i < s.data.toList.length := by rw [dlen]; exact hi
    rw [List.drop_eq_getElem_cons hi']
    congr 1
  have hlen : (s.data.toList.drop (i + 1)).length = s.size - (i + 1) := by rw [List.length_drop, dlen]
  refine ⟨lead s[i] (s.data.toList.drop (i + 1)) + 1, ?_⟩
  have hl := lead_le s[i] (s.data.toList.drop (i + 1))
  have hg := lead_get s[i] (s.data.toList.drop (i + 1))
  have hs := lead_stop s[i] (s.data.toList.drop (i + 1))
  have hr : rleF s i = (if 1 < lead s[i] (s.data.toList.drop (i + 1)) + 1 then Lib.itoa ((lead s[i] (s.data.toList.drop (i + 1)) + 1 : Nat) : Int) else []) ++ [s[i]] ++ rleF s (i + (lead s[i] (s.data.toList.drop (i + 1)) + 1)) := by
    unfold rleF
    conv => lhs; rw [hd, rle_cons]
    rw [List.drop_drop]
    congr 3
    omega
  generalize lead s[i] (s.data.toList.drop (i + 1)) = m at *
  refine ⟨by omega, by omega, fun k hk h1 h2 => ?_, fun hk => ?_, hr⟩
  · by_cases e : k = i
    · subst e; rfl
    · have := hg (k - (i + 1)) (by omega)
      rw [List.getElem?_drop, show i + 1 + (k - (i + 1)) = k by omega, bget hk] at this
      rw [Option.some.inj this]
  · intro e
    apply hs
    rw [List.getElem?_drop, show i + 1 + m = i + (m + 1) by omega, bget hk]
    congr 1
    apply UInt8.toNat_inj.1
    omega
theorem one_cut {s : ByteArray} {i : Nat} (hi : i < s.size) : s.extract i (i + 1) = ustr [s[i]] := by
  apply ByteArray.ext
  apply Array.ext_getElem?
  intro j
  have hi' : i < s.data.size := hi
  unfold ustr
  simp only [ByteArray.data_extract]
  rw [Array.getElem?_extract]
  by_cases e : j = 0
  · subst e
    rw [if_pos (by omega), Nat.add_zero, Array.getElem?_eq_getElem hi']
    rfl
  · rw [if_neg (by omega)]
    symm
    simp
    omega

set_option maxRecDepth 100000 in
set_option maxHeartbeats 2000000 in
theorem xruns_any (s : ByteArray) (w : World) (hs : s.size ≤ 1000000) :
    Calls Tryd.prog 26 #[.string s] w fun e w' => e = .returned (.string (ustr (rleF s 0))) ∧ Kp (fun _ => False) w w' := by
  have HRUN := hide (run_at s)
  have HEND := hide (rleF_end s)
  have HCUT : Hid (∀ (i : Nat) (hi : i < s.size), s.extract i (i + 1) = ustr [s[i]]) := fun i hi => one_cut hi
  have HLEN : Hid ((rleF s 0).length ≤ 4000000) := by
    have e : (s.data.toList.drop 0).length = s.size := by rw [List.drop_zero, dlen]
    have := rle_len s.size (s.data.toList.drop 0) (by omega)
    show (rle _).length ≤ _
    omega
  have HDIG := hide (fun n wx h0 h1 => digits_all n wx h0 h1)
  go_enter Tryd.func26, Tryd.ntmps26
  go_wp2_with fail
  go_loopg [3, 4] s.size (fun gk ov iv wr => ∃ (i : Nat) (O : List UInt8), i ≤ s.size ∧ s.size ≤ i + gk ∧ ov = .string (ustr O) ∧ iv = .int .i64 i ∧ O ++ rleF s i = rleF s 0 ∧ Kp (fun _ => False) w wr)
  case atStart => exact ⟨0, [], by omega, by omega, rfl, rfl, rfl, Kp.refl _ _⟩
  case round =>
    obtain ⟨i, O, g1, g2, rfl, rfl, g3, g4⟩ := hrel
    have G3 := hide g3
    have G4 := hide g4
    have z1 : (ustr O).size ≤ 4000000 := by
      have := congrArg List.length g3
      rw [List.length_append] at this
      have := HLEN.out
      rw [ustr_size]
      omega
    clear g3 g4
    by_cases hi : i < s.size
    · obtain ⟨L, R⟩ := HRUN.out i hi
      have l1 := R.pos
      have l2 := R.le
      have RR := hide R
      have z2 : (ustr [s[i]]).size = 1 := rfl
      have CUT := HCUT.out i hi
      have hb : (s[i].toNat : Int) < 256 := by have := s[i].toNat_lt; omega
      obtain ⟨Go, hGo⟩ : ∃ Go, Go = gk := ⟨gk, rfl⟩
      have HGo := hide hGo
      clear hGo R
      go_wp2_with fail
      go_loopg [5] L (fun gm v wi => ∃ k : Nat, i ≤ k ∧ k ≤ i + L ∧ i + L ≤ k + gm ∧ v = .int .i64 k ∧ Kp (fun _ => False) w wi)
      case atStart => exact ⟨i, by omega, by omega, by omega, rfl, G4.out⟩
      case round =>
        obtain ⟨k, m1, m2, m3, rfl, m4⟩ := hrel
        have M4 := hide m4
        clear m4 G4
        by_cases hk : k < i + L
        · have hks : k < s.size := by omega
          have e := RR.out.eq k hks m1 hk
          have hbk : (s[k].toNat : Int) < 256 := by have := s[k].toNat_lt; omega
          go_wp2_with fail
          go_quiet (fail)
          go_wp2_with fail
          go_roundg (gk - 1)
          case measure => omega
          case rel => exact ⟨k + 1, by omega, by omega, by omega, by go_num, M4.out.drewN _⟩
        · have ek : k = i + L := by omega
          have NE : Hid (∀ hk : k < s.size, (s[k].toNat : Int) ≠ (s[i].toNat : Int)) := by subst ek; exact RR.out.ne
          have ek1 : k ≤ i + L := by omega
          have ek2 : i + L ≤ k := by omega
          have EK := hide ek
          clear m1 m2 m3 hk ek
          by_cases hL : 1 < L
          · have HO : Hid ((O ++ (Lib.itoa (L : Int) ++ [s[i]])) ++ rleF s k = rleF s 0) := by
              show _ = _
              rw [← G3.out, RR.out.step, if_pos hL, EK.out]
              simp
            have DG : Hid (∀ wx, Calls Tryd.prog 25 #[.int .i64 ((k : Int) - i)] wx fun e w' => e = .returned (.string (ustr (Lib.itoa (L : Int)))) ∧ Kp (fun _ => False) wx w') := by
              intro wx
              rw [show (k : Int) - i = L by omega]
              exact HDIG.out (L : Int) wx (by omega) (by omega)
            have z3 : (ustr (Lib.itoa (L : Int))).size ≤ 2000000 := by
              have := itoa_len (L : Int)
              rw [ustr_size]
              omega
            have HAPP : Hid (ustr O ++ ustr (Lib.itoa (L : Int)) ++ ustr [s[i]] = ustr (O ++ (Lib.itoa (L : Int) ++ [s[i]]))) := by
              show _ = _
              rw [ustr_app, ustr_app, List.append_assoc]
            by_cases hks : k < s.size
            · have e := NE.out hks
              have hbk : (s[k].toNat : Int) < 256 := by have := s[k].toNat_lt; omega
              go_wp2_with fail
              go_quiet (fail)
              go_wp2_with fail
              refine (DG.out _).mono ?_
              rintro e w2 ⟨rfl, k2⟩
              have K2 := hide ((M4.out.drewN _).trans k2)
              clear k2
              go_wp2_with fail
              go_roundg (Go - 1)
              case measure => have := HGo.out; omega
              case rel => exact ⟨k, _, by omega, by have := HGo.out; omega, val_str HAPP.out, rfl, HO.out, K2.out⟩
            · go_wp2_with fail
              go_quiet (fail)
              go_wp2_with fail
              refine (DG.out _).mono ?_
              rintro e w2 ⟨rfl, k2⟩
              have K2 := hide ((M4.out.drewN _).trans k2)
              clear k2
              go_wp2_with fail
              go_roundg (Go - 1)
              case measure => have := HGo.out; omega
              case rel => exact ⟨k, _, by omega, by have := HGo.out; omega, val_str HAPP.out, rfl, HO.out, K2.out⟩
          · have HO : Hid ((O ++ [s[i]]) ++ rleF s k = rleF s 0) := by
              show _ = _
              rw [← G3.out, RR.out.step, if_neg hL, EK.out]
              simp
            have HAPP : Hid (ustr O ++ ustr [s[i]] = ustr (O ++ [s[i]])) := by
              show _ = _
              rw [ustr_app]
            by_cases hks : k < s.size
            · have e := NE.out hks
              have hbk : (s[k].toNat : Int) < 256 := by have := s[k].toNat_lt; omega
              go_wp2_with fail
              go_quiet (fail)
              go_wp2_with fail
              go_roundg (Go - 1)
              case measure => have := HGo.out; omega
              case rel => exact ⟨k, _, by omega, by have := HGo.out; omega, val_str HAPP.out, rfl, HO.out, M4.out.drewN _⟩
            · go_wp2_with fail
              go_quiet (fail)
              go_wp2_with fail
              go_roundg (Go - 1)
              case measure => have := HGo.out; omega
              case rel => exact ⟨k, _, by omega, by have := HGo.out; omega, val_str HAPP.out, rfl, HO.out, M4.out.drewN _⟩
    · have ei : i = s.size := by omega
      have HO : Hid (O = rleF s 0) := by
        show _ = _
        rw [← G3.out, ei, HEND.out, List.append_nil]
      rw [HO.out] at z1
      go_wp2_with fail
      go_ret
      exact ⟨by rw [HO.out]; rfl, G4.out⟩
end Go.Proofs.YtbdbkjngdhcjpaaDoor
