import Derived.Test.YthmhjjkmnnmjlaaGreatDoorM25
import Derived.Test.YthmhjjkmnnmjlaaGreatDoorM17
import Derived.Test.YthmhjjkmnnmjlaaGreatDoorM20
namespace Go.Proofs.YthmhjjkmnnmjlaaGreatDoor
open Go.RowKit
open Go.Proofs

set_option maxRecDepth 100000 in
set_option maxHeartbeats 2000000 in
theorem xrow_any (q : Nat) (a : Array Value) (v : Value) (l : List Cl) (Y A B : Int) (w : World) (hv : VAt w q a) (h12 : a[12]? = some v) (h : ClAt w v l) (hl : l.length ≤ 1000000) (hG : ∀ X Y, 0 ≤ atL l X Y ∧ atL l X Y ≤ 8)
    (hA : -100000 ≤ A) (hB : B ≤ 100000) (hAB : A ≤ B + 1) :
    Calls Tryz.prog 45 #[.pointer (some ⟨q, 0, none⟩), .int .i64 Y, .int .i64 A, .int .i64 B] w fun e w' => e = .returned (.string (ustr (xrow (fun X => atL l X Y) A (B - A + 1).toNat))) ∧ Kp (fun _ => False) w w' := by
  have HV := hide hv
  have HC := hide h
  have AT := hide (fun X wx (hx : ClAt wx v l) => xat_any v l X Y wx hx hl)
  have cT : ∀ wx, VAt wx q a → wx.cell? ⟨q, 12, none⟩ = some v := fun wx hx => by rw [hx.cell 12]; exact h12
  have CT := hide cT
  have HG := hide (fun X => hG X Y)
  have HLEN := hide (xrowN_len (fun X => atL l X Y) A)
  have HZ : Hid (xrowN (fun X => atL l X Y) A 0 = ([], [])) := rfl
  have HSu : Hid (∀ n, xrowN (fun X => atL l X Y) A (n + 1) = if atL l (A + n) Y = 0 then ((xrowN (fun X => atL l X Y) A n).1, (xrowN (fun X => atL l X Y) A n).2 ++ [46]) else ((xrowN (fun X => atL l X Y) A n).1 ++ (xrowN (fun X => atL l X Y) A n).2 ++ [b8 (64 + atL l (A + n) Y)], [])) := fun _ => rfl
  unfold xrow
  generalize xrowN (fun X => atL l X Y) A = RN at *
  generalize hN : (B - A + 1).toNat = N at *
  have hBN : B = A + N - 1 := by omega
  have hN2 : N ≤ 200001 := by omega
  clear hN hAB
  subst hBN
  clear hv h cT h12 hG
  go_enter Tryz.func45, Tryz.ntmps45
  go_wp2_with fail
  go_loopg [9, 10, 11] N (fun gk tv dv iv wr => ∃ k : Nat, k ≤ N ∧ N ≤ k + gk ∧ tv = .string (ustr (RN k).1) ∧ dv = .string (ustr (RN k).2) ∧ iv = .int .i64 (A + k) ∧ VAt wr q a ∧ ClAt wr v l ∧ Kp (fun _ => False) w wr)
  case atStart => exact ⟨0, by omega, by omega, by rw [HZ.out]; rfl, by rw [HZ.out]; rfl, by go_num, HV.out, HC.out, Kp.refl _ _⟩
  case round =>
    obtain ⟨k, g1, g2, rfl, rfl, rfl, v3, c3, k3⟩ := hrel
    have V3 := hide v3
    have C3 := hide c3
    have K3 := hide k3
    have z1 := HLEN.out k
    have z2 : (ustr (RN k).1).size ≤ 200001 := by rw [ustr_size]; omega
    have z3 : (ustr (RN k).2).size ≤ 200001 := by rw [ustr_size]; omega
    have cV := CT.out wr v3
    clear v3 c3 k3 z1
    by_cases hk : k < N
    · have hS := HSu.out k
      have hg := HG.out (A + k)
      have A1 := hide (AT.out (A + k) wr C3.out)
      generalize atL l (A + k) Y = s at *
      by_cases e : s = 0
      · subst e
        rw [if_pos rfl] at hS
        have HS := hide hS
        clear hS
        go_wp2_with fail
        refine A1.out.mono ?_
        rintro e w2 ⟨rfl, rfl⟩
        go_wp2_with fail
        go_roundg (gk - 1)
        case measure => omega
        case rel => exact ⟨k + 1, by omega, by omega, by rw [HS.out], val_str (by rw [lit1, ustr_app, HS.out]), by go_num, V3.out, C3.out, K3.out⟩
      · rw [if_neg e] at hS
        have HS : Hid (ustr (RN (k + 1)).1 = ustr (RN k).1 ++ ustr (RN k).2 ++ ustr [b8 (65 + s - 1)]) := by
          show _ = _
          rw [hS, ustr_app, ustr_app, show 65 + s - 1 = 64 + s by omega]
        have HS2 : Hid ((RN (k + 1)).2 = []) := by
          show _ = _
          rw [hS]
        have z4 : (ustr [b8 (65 + s - 1)]).size = 1 := rfl
        clear hS
        go_wp2_with fail
        refine A1.out.mono ?_
        rintro e w2 ⟨rfl, rfl⟩
        go_wp2_with (refine wpList_convu rfl 112 9 _ rfl _ _ rfl (conv1u _ _ (by omega) (by omega)) ?_
                     intro wz hwz
                     have KZ : Hid (Kp (fun _ => False) w2 wz) := by rw [hwz]; exact (Kp.refl _ _).alloc _
                     clear hwz)
        go_roundg (gk - 1)
        case measure => omega
        case rel => exact ⟨k + 1, by omega, by omega, by rw [HS.out], by rw [HS2.out]; rfl, by go_num, V3.out.keep KZ.out (fun h => h), C3.out.keep KZ.out (fun _ _ h => h), K3.out.trans KZ.out⟩
    · have ek : k = N := by omega
      subst ek
      go_wp2_with fail
      go_ret
      exact ⟨rfl, K3.out⟩
end Go.Proofs.YthmhjjkmnnmjlaaGreatDoor
namespace Go.Proofs.YthmhjjkmnnmjlaaGreatDoor
open Go.RowKit
open Go.Proofs

theorem lead_get (a : UInt8) : ∀ (M : List UInt8) (j : Nat), j < lead a M → M[j]? = some a := by
  intro M
  induction M with
  | nil => intro j h; simp [lead] at h
  | cons b M ih =>
    intro j h
    unfold lead at h
    split at h
    · rename_i e
      cases j with
      | zero => simp [e]
      | succ j => simpa using ih j (by omega)
    · omega
theorem lead_stop (a : UInt8) : ∀ (M : List UInt8), M[lead a M]? ≠ some a := by
  intro M
  induction M with
  | nil => simp
  | cons b M ih =>
    unfold lead
    split
    · simpa using ih
    · rename_i e
      simpa using e
/-- What is written of a text from its place i on. -/
def rleF (s : ByteArray) (i : Nat) : List UInt8 := rle (s.data.toList.drop i)
theorem dlen (s : ByteArray) : s.data.toList.length = s.size := by
  rw [Array.length_toList]
  rfl
theorem rleF_end (s : ByteArray) : rleF s s.size = [] := by
  unfold rleF
  rw [List.drop_eq_nil_of_le (by rw [dlen]; exact Nat.le_refl _), rle_nil]
theorem rle_len : ∀ (n : Nat) (M : List UInt8), M.length ≤ n → (rle M).length ≤ 4 * M.length := by
  intro n
  induction n with
  | zero =>
    intro M h
    have : M = [] := List.length_eq_zero_iff.1 (by omega)
    subst this
    rw [rle_nil]
    simp
  | succ n ih =>
    intro M h
    cases M with
    | nil => rw [rle_nil]; simp
    | cons a M =>
      rw [rle_cons]
      have hl := lead_le a M
      have := ih (M.drop (lead a M)) (by simp at h ⊢; omega)
      have h2 := itoa_len ((lead a M + 1 : Nat) : Int)
      simp at this h
      simp only [List.length_append, List.length_cons, List.length_nil]
      split
      · omega
      · simp
        omega
structure RunAt (s : ByteArray) (i L : Nat) (hi : i < s.size) : Prop where
  pos : 1 ≤ L
  le : i + L ≤ s.size
  eq : ∀ k, (hk : k < s.size) → i ≤ k → k < i + L → (s[k].toNat : Int) = (s[i].toNat : Int)
  ne : (hk : i + L < s.size) → (s[i + L].toNat : Int) ≠ (s[i].toNat : Int)
  step : rleF s i = (if 1 < L then Lib.itoa (L : Int) else []) ++ [s[i]] ++ rleF s (i + L)
theorem bget {s : ByteArray} {k : Nat} (hk : k < s.size) : s.data.toList[k]? = some s[k] := by
  have hk' : k < s.data.size := hk
  rw [Array.getElem?_toList, Array.getElem?_eq_getElem hk']
  rfl
theorem run_at (s : ByteArray) (i : Nat) (hi : i < s.size) : ∃ L, RunAt s i L hi := by
  have hd : s.data.toList.drop i = s[i] :: s.data.toList.drop (i + 1) := by
    have hi' : i < s.data.toList.length := by rw [dlen]; exact hi
    rw [List.drop_eq_getElem_cons hi']
    congr 1
  have hlen : (s.data.toList.drop (i + 1)).length = s.size - (i + 1) := by rw [List.length_drop, dlen]
  refine ⟨lead s[i] (s.data.toList.drop (i + 1)) + 1, ?_⟩
  have hl := lead_le s[i] (s.data.toList.drop (i + 1))
  have hg := lead_get s[i] (s.data.toList.drop (i + 1))
  have hs := lead_stop s[i] (s.data.toList.drop (i + 1))
  have hr : rleF s i = (if 1 < lead s[i] (s.data.toList.drop (i + 1)) + 1 then Lib.itoa ((lead s[i] (s.data.toList.drop (i + 1)) + 1 : Nat) : Int) else []) ++ [s[i]] ++ rleF s (i + (lead s[i] (s.data.toList.drop (i + 1)) + 1)) := by
    unfold rleF
    conv => lhs; rw [hd, rle_cons]
    rw [List.drop_drop]
    congr 3
    omega
  generalize lead s[i] (s.data.toList.drop (i + 1)) = m at *
  refine ⟨by omega, by omega, fun k hk h1 h2 => ?_, fun hk => ?_, hr⟩
  · by_cases e : k = i
    · subst e; rfl
    · have := hg (k - (i + 1)) (by omega)
      rw [List.getElem?_drop, show i + 1 + (k - (i + 1)) = k by omega, bget hk] at this
      rw [Option.some.inj this]
  · intro e
    apply hs
    rw [List.getElem?_drop, show i + 1 + m = i + (m + 1) by omega, bget hk]
    congr 1
    apply UInt8.toNat_inj.1
    omega
theorem one_cut {s : ByteArray} {i : Nat} (hi : i < s.size) : s.extract i (i + 1) = ustr [s[i]] := by
  apply ByteArray.ext
  apply Array.ext_getElem?
  intro j
  have hi' : i < s.data.size := hi
  unfold ustr
  simp only [ByteArray.data_extract]
  rw [Array.getElem?_extract]
  by_cases e : j = 0
  · subst e
    rw [if_pos (by omega), Nat.add_zero, Array.getElem?_eq_getElem hi']
    rfl
  · rw [if_neg (by omega)]
    symm
    simp
    omega

set_option maxRecDepth 100000 in
set_option maxHeartbeats 2000000 in
theorem xruns_any (s : ByteArray) (w : World) (hs : s.size ≤ 1000000) :
    Calls Tryz.prog 47 #[.string s] w fun e w' => e = .returned (.string (ustr (rleF s 0))) ∧ Kp (fun _ => False) w w' := by
  have HRUN := hide (run_at s)
  have HEND := hide (rleF_end s)
  have HCUT : Hid (∀ (i : Nat) (hi : i < s.size), s.extract i (i + 1) = ustr [s[i]]) := fun i hi => one_cut hi
  have HLEN : Hid ((rleF s 0).length ≤ 4000000) := by
    have e : (s.data.toList.drop 0).length = s.size := by rw [List.drop_zero, dlen]
    have := rle_len s.size (s.data.toList.drop 0) (by omega)
    show (rle _).length ≤ _
    omega
  have HDIG := hide (fun n wx h0 h1 => digits_all n wx h0 h1)
  go_enter Tryz.func47, Tryz.ntmps47
  go_wp2_with fail
  go_loopg [3, 4] s.size (fun gk ov iv wr => ∃ (i : Nat) (O : List UInt8), i ≤ s.size ∧ s.size ≤ i + gk ∧ ov = .string (ustr O) ∧ iv = .int .i64 i ∧ O ++ rleF s i = rleF s 0 ∧ Kp (fun _ => False) w wr)
  case atStart => exact ⟨0, [], by omega, by omega, rfl, rfl, rfl, Kp.refl _ _⟩
  case round =>
    obtain ⟨i, O, g1, g2, rfl, rfl, g3, g4⟩ := hrel
    have G3 := hide g3
    have G4 := hide g4
    have z1 : (ustr O).size ≤ 4000000 := by
      have := congrArg List.length g3
      rw [List.length_append] at this
      have := HLEN.out
      rw [ustr_size]
      omega
    clear g3 g4
    by_cases hi : i < s.size
    · obtain ⟨L, R⟩ := HRUN.out i hi
      have l1 := R.pos
      have l2 := R.le
      have RR := hide R
      have z2 : (ustr [s[i]]).size = 1 := rfl
      have CUT := HCUT.out i hi
      have hb : (s[i].toNat : Int) < 256 := by have := s[i].toNat_lt; omega
      obtain ⟨Go, hGo⟩ : ∃ Go, Go = gk := ⟨gk, rfl⟩
      have HGo := hide hGo
      clear hGo R
      go_wp2_with fail
      go_loopg [5] L (fun gm v wi => ∃ k : Nat, i ≤ k ∧ k ≤ i + L ∧ i + L ≤ k + gm ∧ v = .int .i64 k ∧ Kp (fun _ => False) w wi)
      case atStart => exact ⟨i, by omega, by omega, by omega, rfl, G4.out⟩
      case round =>
        obtain ⟨k, m1, m2, m3, rfl, m4⟩ := hrel
        have M4 := hide m4
        clear m4 G4
        by_cases hk : k < i + L
        · have hks : k < s.size := by omega
          have e := RR.out.eq k hks m1 hk
          have hbk : (s[k].toNat : Int) < 256 := by have := s[k].toNat_lt; omega
          go_wp2_with fail
          go_quiet (fail)
          go_wp2_with fail
          go_roundg (gk - 1)
          case measure => omega
          case rel => exact ⟨k + 1, by omega, by omega, by omega, by go_num, M4.out.drewN _⟩
        · have ek : k = i + L := by omega
          have NE : Hid (∀ hk : k < s.size, (s[k].toNat : Int) ≠ (s[i].toNat : Int)) := by subst ek; exact RR.out.ne
          have ek1 : k ≤ i + L := by omega
          have ek2 : i + L ≤ k := by omega
          have EK := hide ek
          clear m1 m2 m3 hk ek
          by_cases hL : 1 < L
          · have HO : Hid ((O ++ (Lib.itoa (L : Int) ++ [s[i]])) ++ rleF s k = rleF s 0) := by
              show _ = _
              rw [← G3.out, RR.out.step, if_pos hL, EK.out]
              simp
            have DG : Hid (∀ wx, Calls Tryz.prog 46 #[.int .i64 ((k : Int) - i)] wx fun e w' => e = .returned (.string (ustr (Lib.itoa (L : Int)))) ∧ Kp (fun _ => False) wx w') := by
              intro wx
              rw [show (k : Int) - i = L by omega]
              exact HDIG.out (L : Int) wx (by omega) (by omega)
            have z3 : (ustr (Lib.itoa (L : Int))).size ≤ 2000000 := by
              have := itoa_len (L : Int)
              rw [ustr_size]
              omega
            have HAPP : Hid (ustr O ++ ustr (Lib.itoa (L : Int)) ++ ustr [s[i]] = ustr (O ++ (Lib.itoa (L : Int) ++ [s[i]]))) := by
              show _ = _
              rw [ustr_app, ustr_app, List.append_assoc]
            by_cases hks : k < s.size
            · have e := NE.out hks
              have hbk : (s[k].toNat : Int) < 256 := by have := s[k].toNat_lt; omega
              go_wp2_with fail
              go_quiet (fail)
              go_wp2_with fail
              refine (DG.out _).mono ?_
              rintro e w2 ⟨rfl, k2⟩
              have K2 := hide ((M4.out.drewN _).trans k2)
              clear k2
              go_wp2_with fail
              go_roundg (Go - 1)
              case measure => have := HGo.out; omega
              case rel => exact ⟨k, _, by omega, by have := HGo.out; omega, val_str HAPP.out, rfl, HO.out, K2.out⟩
            · go_wp2_with fail
              go_quiet (fail)
              go_wp2_with fail
              refine (DG.out _).mono ?_
              rintro e w2 ⟨rfl, k2⟩
              have K2 := hide ((M4.out.drewN _).trans k2)
              clear k2
              go_wp2_with fail
              go_roundg (Go - 1)
              case measure => have := HGo.out; omega
              case rel => exact ⟨k, _, by omega, by have := HGo.out; omega, val_str HAPP.out, rfl, HO.out, K2.out⟩
          · have HO : Hid ((O ++ [s[i]]) ++ rleF s k = rleF s 0) := by
              show _ = _
              rw [← G3.out, RR.out.step, if_neg hL, EK.out]
              simp
            have HAPP : Hid (ustr O ++ ustr [s[i]] = ustr (O ++ [s[i]])) := by
              show _ = _
              rw [ustr_app]
            by_cases hks : k < s.size
            · have e := NE.out hks
              have hbk : (s[k].toNat : Int) < 256 := by have := s[k].toNat_lt; omega
              go_wp2_with fail
              go_quiet (fail)
              go_wp2_with fail
              go_roundg (Go - 1)
              case measure => have := HGo.out; omega
              case rel => exact ⟨k, _, by omega, by have := HGo.out; omega, val_str HAPP.out, rfl, HO.out, M4.out.drewN _⟩
            · go_wp2_with fail
              go_quiet (fail)
              go_wp2_with fail
              go_roundg (Go - 1)
              case measure => have := HGo.out; omega
              case rel => exact ⟨k, _, by omega, by have := HGo.out; omega, val_str HAPP.out, rfl, HO.out, M4.out.drewN _⟩
    · have ei : i = s.size := by omega
      have HO : Hid (O = rleF s 0) := by
        show _ = _
        rw [← G3.out, ei, HEND.out, List.append_nil]
      rw [HO.out] at z1
      go_wp2_with fail
      go_ret
      exact ⟨by rw [HO.out]; rfl, G4.out⟩
end Go.Proofs.YthmhjjkmnnmjlaaGreatDoor
namespace Go.Proofs.YthmhjjkmnnmjlaaGreatDoor
open Go.RowKit
open Go.Proofs

/-- What the document writes of a world. -/
def xbodyT (l : List Cl) (p : Int × Int × Int × Int) : List UInt8 := rle (xrows (atL l) p.1 p.2.2.1 (p.2.1 - p.1 + 1).toNat (p.2.2.2 - p.2.2.1 + 1).toNat)
def xsaveT (r : Pu.Rule) (x : Pu.Shape) (age : Int) (l : List Cl) : List UInt8 :=
  if l = [] then xheadT r x age ++ [32, 48, 44, 48, 32, 33]
  else xheadT r x age ++ [32] ++ Lib.itoa (boxL l).1 ++ [44] ++ Lib.itoa (boxL l).2.2.1 ++ [32] ++ xbodyT l (boxL l) ++ [33]
theorem box_none {W H : Int} {g : Gs} (hs : Same W H g []) : (liveP W H g.l g.t g.S).e = true := by
  have := edges_live (gw := W) (gh := H) (l := g.l) (t := g.t) g.S (PX := fun _ => False) (PY := fun _ => False) (fun A B hg => absurd (hs A B) hg)
  rcases this with h | h
  · exact h
  · exact absurd h.1 id
theorem box_same {W H : Int} {g : Gs} {l : List Cl} (hs : Same W H g l) (hz : ∀ c, c ∈ l → c.2.2 ≠ 0) (hl : l ≠ []) : liveP W H g.l g.t g.S = ⟨false, (boxL l).1, (boxL l).2.2.1, (boxL l).2.1, (boxL l).2.2.2⟩ := by
  have hin : ∀ c, c ∈ l → Hold (liveP W H g.l g.t g.S) c.1 c.2.1 := by
    intro c hc
    refine hold_live g.S ?_
    have := hs c.1 c.2.1
    unfold getG at this
    rw [this]
    exact atL_mem hz hc
  have hed := edges_live (gw := W) (gh := H) (l := g.l) (t := g.t) g.S (PX := fun a => ∃ c, c ∈ l ∧ c.1 = a) (PY := fun a => ∃ c, c ∈ l ∧ c.2.1 = a) (fun A B hg => by
    have := hs A B
    unfold getG at this
    rw [this] at hg
    obtain ⟨c, hc, h1, h2⟩ := atL_ne hg
    exact ⟨⟨c, hc, h1⟩, ⟨c, hc, h2⟩⟩)
  have hb := boxL_is hl
  generalize boxL l = p at *
  generalize liveP W H g.l g.t g.S = b at *
  obtain ⟨hin2, ⟨ca, ca1, ca2⟩, ⟨cb, cb1, cb2⟩, ⟨cc, cc1, cc2⟩, ⟨cd, cd1, cd2⟩⟩ := hb
  have ha := hin ca ca1
  have hbb := hin cb cb1
  have hc := hin cc cc1
  have hd := hin cd cd1
  unfold Hold at ha hbb hc hd
  replace hed := hed.resolve_left (by rw [ha.1]; simp)
  obtain ⟨⟨cl, l1, l2⟩, ⟨cr, r1, r2⟩, ⟨ct, t1, t2⟩, ⟨ce, e1, e2⟩⟩ := hed
  have i1 := hin2 cl l1
  have i2 := hin2 cr r1
  have i3 := hin2 ct t1
  have i4 := hin2 ce e1
  obtain ⟨be, bL, bT, bR, bB⟩ := b
  simp only at *
  obtain ⟨p1, p2, p3, p4⟩ := p
  simp only at *
  rw [ha.1]
  congr 1 <;> omega
/-- The program saves what the document saves. -/
theorem save_eq {c : Int} (r : Pu.Rule) {x : Pu.Shape} (age : Int) {g : Gs} {l : List Cl} (hs : Same x.w x.h g l) (hz : ∀ d, d ∈ l → 1 ≤ d.2.2 ∧ d.2.2 < c) (c9 : c ≤ 9) (h1 : 0 ≤ x.ws) (h2 : x.wst = true → x.ws = 0) (h3 : 0 ≤ x.hs) (h4 : x.hst = true → x.hs = 0) :
    saveT r x age g.l g.t g.S = ustr (xsaveT r x age l) := by
  have hG : getP x.w x.h g.l g.t g.S = atL l := by
    funext X Y
    exact hs X Y
  unfold saveT Sv.writeT xsaveT
  rw [hG, xhead_eq r age h1 h2 h3 h4]
  by_cases hl : l = []
  · subst hl
    rw [if_pos rfl, if_pos (box_none hs)]
  · rw [if_neg hl, box_same hs (fun d hd => by have := hz d hd; omega) hl, if_neg (by simp)]
    have hb := boxL_is hl
    have h8 : ∀ X Y, 0 ≤ atL l X Y ∧ atL l X Y ≤ 8 := by
      intro X Y
      by_cases e : atL l X Y = 0
      · omega
      · have : ∀ m : List Cl, (∀ d, d ∈ m → 1 ≤ d.2.2 ∧ d.2.2 < c) → 0 ≤ atL m X Y ∧ atL m X Y ≤ 8 := by
          intro m
          induction m with
          | nil => intro _; simp [atL]
          | cons d m ih =>
            intro hm
            have h5 := hm d List.mem_cons_self
            unfold atL
            split
            · omega
            · exact ih (fun d hd => hm d (List.mem_cons_of_mem _ hd))
        exact this l hz
    have hne := fun d (hd : d ∈ l) => atL_mem (fun d hd => by have := hz d hd; omega) hd
    unfold xbodyT Sv.placeT
    simp only
    generalize boxL l = p at *
    obtain ⟨hin, ⟨ca, ca1, ca2⟩, ⟨cb, cb1, cb2⟩, ⟨cc, cc1, cc2⟩, ⟨cd, cd1, cd2⟩⟩ := hb
    have i1 := hin cd cd1
    have i2 := hin cc cc1
    obtain ⟨k, hk⟩ : ∃ k : Nat, (p.2.2.2 - p.2.2.1 + 1).toNat = k + 1 := ⟨(p.2.2.2 - p.2.2.1).toNat, by omega⟩
    rw [hk, body_runs (atL l) p.1 p.2.2.1 h8 _ k ?_]
    · simp only [List.append_assoc]
    · have e1 : ((cd.1 - p.1).toNat : Int) = cd.1 - p.1 := by omega
      refine xrow_ne _ _ _ (cd.1 - p.1).toNat (by omega) ?_
      rw [e1, show p.1 + (cd.1 - p.1) = cd.1 by omega, show p.2.2.1 + (k : Int) = cd.2.1 by omega]
      exact hne cd cd1
end Go.Proofs.YthmhjjkmnnmjlaaGreatDoor
namespace Go.Proofs.YthmhjjkmnnmjlaaGreatDoor
open Go.RowKit
open Go.Proofs

theorem rleF_ustr (D : List UInt8) : rleF (ustr D) 0 = rle D := by
  unfold rleF ustr
  simp
theorem lit6 (a b c d e f : UInt8) : (⟨#[a, b, c, d, e, f]⟩ : ByteArray) = ustr [a, b, c, d, e, f] := rfl
theorem xhead_len {r : Pu.Rule} {x : Pu.Shape} {age : Int} (hb : HdB r x age) : (xheadT r x age).length ≤ 1001000 := by
  have h1 : (Sv.set r.births).length ≤ 99 := Sv.setN_len _ 9
  have h2 : (Sv.set r.survivals).length ≤ 99 := Sv.setN_len _ 9
  have h3 := itoa_len r.states
  have h4 := itoa_len x.w
  have h5 := itoa_len x.h
  have h6 := itoa_len x.ws
  have h7 := itoa_len x.hs
  have h8 := itoa_len age
  obtain ⟨b1, b2, b3, b4, b5, b6, b7, b8⟩ := hb
  have k1 : (xbehind x.ws x.wst).length ≤ 70 := by
    unfold xbehind
    rw [List.length_append]
    split <;> split <;> simp <;> omega
  have k2 : (xbehind x.hs x.hst).length ≤ 70 := by
    unfold xbehind
    rw [List.length_append]
    split <;> split <;> simp <;> omega
  have k3 : (if 2 < r.states then [47] ++ Lib.itoa r.states else ([] : List UInt8)).length ≤ 20 := by
    split
    · simp; omega
    · simp
  unfold xheadT Sv.ruleT
  simp only [List.length_append, List.length_cons, List.length_nil]
  omega

set_option maxRecDepth 100000 in
set_option maxHeartbeats 4000000 in
theorem xsave_any (q : Nat) (r : Pu.Rule) (x : Pu.Shape) (age : Int) (l : List Cl) (w : World) (h : DocAt w q r x age l) (hb : HdB r x age) (ho : OneB x) (hl : l.length ≤ 1000000) (hbd : ClBd l) (hG : ∀ X Y, 0 ≤ atL l X Y ∧ atL l X Y ≤ 8) (hsm : l ≠ [] → (boxL l).2.1 - (boxL l).1 < 64 ∧ (boxL l).2.2.2 - (boxL l).2.2.1 < 64) :
    Calls Tryz.prog 24 #[.pointer (some ⟨q, 0, none⟩)] w fun e w' => e = .returned (.string (ustr (xsaveT r x age l))) ∧ Kp (fun _ => False) w w' := by
  obtain ⟨g1, g2, v, hv, s1, s2, hc⟩ := h.at1
  have hd : HdAt w q r x age g1 g2 v := ⟨hv, s1, s2⟩
  have HD := hide hd
  have HC := hide hc
  have HH := hide (fun wx hx => xhead_any q r x age g1 g2 v wx hx hb ho)
  have CE : Hid (∀ wx, HdAt wx q r x age g1 g2 v → wx.cell? ⟨q, 12, none⟩ = some v) := fun wx hx => by rw [hx.va.cell]; rfl
  have zH : (ustr (xheadT r x age)).size ≤ 1001000 := by rw [ustr_size]; exact xhead_len hb
  have HROW := hide (fun Y A B wx (hx : HdAt wx q r x age g1 g2 v) (hc : ClAt wx v l) h1 h2 h3 => xrow_any q (vw r g1 g2 x age v) v l Y A B wx hx.va rfl hc hl hG h1 h2 h3)
  have HBOX := hide (fun wx (hc : ClAt wx v l) h0 => xbox_any v l wx hc h0 hl)
  obtain ⟨ad, cap, ev, hf⟩ := hc.form
  clear h hv s1 s2 hc hd hf
  obtain ⟨HT, hHT⟩ : ∃ HT, ustr (xheadT r x age) = HT := ⟨_, rfl⟩
  rw [hHT] at HH zH
  have HHT := hide hHT
  clear hHT
  go_enter Tryz.func24, Tryz.ntmps24
  go_wp2_with fail
  refine (HH.out _ HD.out).mono ?_
  rintro e w1 ⟨rfl, k1⟩
  have D1 := hide (HD.out.keep k1)
  have C1 := hide (HC.out.keep k1 (fun _ _ h => h))
  have K1 := hide k1
  have cv := CE.out w1 D1.out
  clear k1 HD HC HH
  by_cases h0 : l = []
  · subst h0
    have HE : Hid (True → ustr (xsaveT r x age []) = HT ++ ustr [32, 48, 44, 48, 32, 33]) := by
      intro _
      unfold xsaveT
      rw [if_pos rfl, ← HHT.out, ustr_app]
    subst ev
    go_wp2_with fail
    go_ret
    exact ⟨by rw [HE.out trivial]; rfl, K1.out⟩
  · have hbx := boxL_is h0
    have hsz := hsm h0
    have B1 := hide (HBOX.out w1 C1.out h0)
    have hlen : 0 < l.length := List.length_pos_iff.2 h0
    have hlb : ((l.length : Int) == 0) = false := by rw [beq_eq_false_iff_ne]; omega
    have HE : Hid (True → ustr (xsaveT r x age l) = HT ++ ustr [32] ++ ustr (Lib.itoa (boxL l).1) ++ ustr [44] ++ ustr (Lib.itoa (boxL l).2.2.1) ++ ustr [32] ++ ustr (rle (xrows (atL l) (boxL l).1 (boxL l).2.2.1 ((boxL l).2.1 - (boxL l).1 + 1).toNat ((boxL l).2.2.2 - (boxL l).2.2.1 + 1).toNat)) ++ ustr [33]) := by
      intro _
      have e1 : xsaveT r x age l = _ := if_neg h0
      rw [e1, ← HHT.out]
      unfold xbodyT
      simp only [ustr_app]
    clear HBOX h0
    obtain ⟨hin, ⟨ca, ca1, ca2⟩, ⟨cb, cb1, cb2⟩, ⟨cc, cc1, cc2⟩, ⟨cd, cd1, cd2⟩⟩ := hbx
    have ba := hbd ca ca1
    have bb := hbd cb cb1
    have bc := hbd cc cc1
    have bd := hbd cd cd1
    have i1 := hin cb cb1
    have i2 := hin cd cd1
    generalize (boxL l).1 = A at *
    generalize (boxL l).2.1 = B at *
    generalize (boxL l).2.2.1 = C at *
    generalize (boxL l).2.2.2 = D at *
    have bA : -100000 ≤ A ∧ A ≤ 100000 := by omega
    have bB : B ≤ 100000 ∧ A ≤ B ∧ B - A < 64 := by omega
    have bC : -100000 ≤ C ∧ C ≤ 100000 := by omega
    have bD : C ≤ D ∧ D - C < 64 := by omega
    clear hin ca1 ca2 cb1 cb2 cc1 cc2 cd1 cd2 ba bb bc bd i1 i2 hsz hsm hbd
    clear ca cb cc cd
    have HR2 := hide (fun Y wx hx hc => HROW.out Y A B wx hx hc (by omega) (by omega) (by omega))
    have DA := hide (fun wx => digits_all A wx (by omega) (by omega))
    have DC := hide (fun wx => digits_all C wx (by omega) (by omega))
    have zA : (ustr (Lib.itoa A)).size ≤ 100002 := by have := itoa_len A; rw [ustr_size]; omega
    have zC : (ustr (Lib.itoa C)).size ≤ 100002 := by have := itoa_len C; rw [ustr_size]; omega
    generalize ustr (Lib.itoa A) = SA at *
    generalize ustr (Lib.itoa C) = SC at *
    have hn : (B - A + 1).toNat ≤ 64 := by omega
    generalize (B - A + 1).toNat = n at *
    obtain ⟨N, hN⟩ : ∃ N, N = (D - C + 1).toNat := ⟨_, rfl⟩
    rw [← hN] at HE
    have hN2 : N ≤ 64 := by omega
    have hND : D = C + N - 1 := by omega
    have HX0 : Hid (xrows (atL l) A C n 0 = []) := rfl
    have HXS : Hid (∀ k, xrows (atL l) A C n (k + 1) = (if 0 < k then xrows (atL l) A C n k ++ [36] else xrows (atL l) A C n k) ++ xrow (fun X => atL l X (C + k)) A n) := fun _ => rfl
    have HXL : Hid (∀ k, k ≤ 64 → (ustr (xrows (atL l) A C n k)).size ≤ 5000) := by
      intro k hk
      have h1 := xrows_len (atL l) A C n k
      have h2 : k * (n + 1) ≤ 64 * 65 := Nat.mul_le_mul hk (by omega)
      rw [ustr_size]
      omega
    have HRL : Hid (∀ Y, (ustr (xrow (fun X => atL l X Y) A n)).size ≤ 64) := by
      intro Y
      have := xrowN_len (fun X => atL l X Y) A n
      rw [ustr_size]
      unfold xrow
      omega
    have HZR : Hid ((ustr (rle (xrows (atL l) A C n N))).size ≤ 20000) := by
      have h1 := rle_len _ (xrows (atL l) A C n N) (Nat.le_refl _)
      have h2 := HXL.out N hN2
      rw [ustr_size] at h2
      show _ ≤ _
      rw [ustr_size]
      omega
    clear hN
    clear HROW
    subst hND
    generalize xrows (atL l) A C n = XR at *
    subst ev
    go_wp2_with fail
    refine B1.out.mono ?_
    rintro e w2 ⟨rfl, hw2⟩
    subst w2
    go_wp2_with fail
    go_loopg [8, 9] N (fun gk sv yv wr => ∃ k : Nat, k ≤ N ∧ N ≤ k + gk ∧ sv = .string (ustr (XR k)) ∧ yv = .int .i64 (C + k) ∧ HdAt wr q r x age g1 g2 (.slice ad l.length cap) ∧ ClAt wr (.slice ad l.length cap) l ∧ Kp (fun _ => False) w wr)
    case atStart => exact ⟨0, by omega, by omega, by rw [HX0.out]; rfl, by go_num, D1.out, C1.out, K1.out⟩
    case round =>
      obtain ⟨k, m1, m2, rfl, rfl, m3, m4, m5⟩ := hrel
      have M3 := hide m3
      have M4 := hide m4
      have M5 := hide m5
      have z1 := HXL.out k (by omega)
      have z2 := HRL.out (C + k)
      clear m3 m4 m5 D1 C1 K1
      by_cases hk : k < N
      · have hS := HXS.out k
        have RR := hide (fun wx hx hc => HR2.out (C + k) wx hx hc)
        generalize xrow (fun X => atL l X (C + k)) A n = row at *
        by_cases hk0 : 0 < k
        · rw [if_pos hk0] at hS
          have HS := hide hS
          clear hS
          go_wp2_with fail
          refine (RR.out _ M3.out M4.out).mono ?_
          rintro e w3 ⟨rfl, k3⟩
          have N3 := hide (M3.out.keep k3)
          have N4 := hide (M4.out.keep k3 (fun _ _ h => h))
          have N5 := hide (M5.out.trans k3)
          clear k3
          go_wp2_with fail
          go_roundg (gk - 1)
          case measure => omega
          case rel => exact ⟨k + 1, by omega, by omega, val_str (by rw [lit1, ustr_app, ustr_app, HS.out]), by go_num, N3.out, N4.out, N5.out⟩
        · rw [if_neg hk0] at hS
          have HS := hide hS
          clear hS
          go_wp2_with fail
          refine (RR.out _ M3.out M4.out).mono ?_
          rintro e w3 ⟨rfl, k3⟩
          have N3 := hide (M3.out.keep k3)
          have N4 := hide (M4.out.keep k3 (fun _ _ h => h))
          have N5 := hide (M5.out.trans k3)
          clear k3
          go_wp2_with fail
          go_roundg (gk - 1)
          case measure => omega
          case rel => exact ⟨k + 1, by omega, by omega, val_str (by rw [ustr_app, HS.out]), by go_num, N3.out, N4.out, N5.out⟩
      · have ek : k = N := by omega
        subst ek
        have RU := hide (fun wx => xruns_any (ustr (XR k)) wx (by omega))
        rw [rleF_ustr] at RU
        have zR := HZR.out
        generalize ustr (rle (XR k)) = RL at *
        go_wp2_with fail
        refine (DA.out _).mono ?_
        rintro e w3 ⟨rfl, k3⟩
        have K3 := hide (M5.out.trans k3)
        clear k3
        go_wp2_with fail
        refine (DC.out _).mono ?_
        rintro e w4 ⟨rfl, k4⟩
        have K4 := hide (K3.out.trans k4)
        clear k4
        go_wp2_with fail
        refine (RU.out _).mono ?_
        rintro e w5 ⟨rfl, k5⟩
        have K5 := hide (K4.out.trans k5)
        clear k5
        go_wp2_with fail
        go_ret
        exact ⟨by rw [HE.out trivial]; rfl, K5.out⟩
end Go.Proofs.YthmhjjkmnnmjlaaGreatDoor
