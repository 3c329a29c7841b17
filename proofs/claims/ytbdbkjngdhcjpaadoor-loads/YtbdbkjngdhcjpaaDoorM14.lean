import Derived.Test.YtbdbkjngdhcjpaaDoorYb
import Derived.Test.YtbdbkjngdhcjpaaDoorYa
import Derived.Test.YtbdbkjngdhcjpaaDoorM10
import Derived.Test.YtbdbkjngdhcjpaaDoorM11
import Derived.Test.YtbdbkjngdhcjpaaDoorM12
namespace Go.Proofs.YtbdbkjngdhcjpaaDoor
open Go.RowKit
open Go.Proofs

/-- What the document writes of a world. -/
def xbodyT (l : List Cl) (p : Int × Int × Int × Int) : List UInt8 := rle (xrows (atL l) p.1 p.2.2.1 (p.2.1 - p.1 + 1).toNat (p.2.2.2 - p.2.2.1 + 1).toNat)
def xsaveT (r : Pu.Rule) (x : Pu.Shape) (age : Int) (l : List Cl) : List UInt8 :=
  if l = [] then xheadT r x age ++ [32, 48, 44, 48, 32, 33]
  else xheadT r x age ++ [32] ++ Lib.itoa (boxL l).1 ++ [44] ++ Lib.itoa (boxL l).2.2.1 ++ [32] ++ xbodyT l (boxL l) ++ [33]
theorem box_none {W H : Int} {g : Gs} (hs : Same W H g []) : (liveP W H g.l g.t g.S).e = true := by
  have := edges_live (gw := W) (gh := H) (l := g.l) (t := g.t) g.S (PX := fun _ => False) (PY := fun _ => False) (fun A B hg => absurd (hs A B) hg)
  rcases this with h | h
  · exact h
  · exact absurd h.1 id
theorem box_same {W H : Int} {g : Gs} {l : List Cl} (hs : Same W H g l) (hz : ∀ c, c ∈ l → c.2.2 ≠ 0) (hl : l ≠ []) : liveP W H g.l g.t g.S = ⟨false, (boxL l).1, (boxL l).2.2.1, (boxL l).2.1, (boxL l).2.2.2⟩ := by
  have hin : ∀ c, c ∈ l → Hold (liveP W H g.l g.t g.S) c.1 c.2.1 := by
    intro c hc
    refine hold_live g.S ?_
    have := hs c.1 c.2.1
    unfold getG at this
    rw [this]
    exact atL_mem hz hc
  have hed := edges_live (gw := W) (gh := H) (l := g.l) (t := g.t) g.S (PX := fun a => ∃ c, c ∈ l ∧ c.1 = a) (PY := fun a => ∃ c, c ∈ l ∧ c.2.1 = a) (fun A B hg => by
    have := hs A B
    unfold getG at this
    rw [this] at hg
    obtain ⟨c, hc, h1, h2⟩ := atL_ne hg
    exact ⟨⟨c, hc, h1⟩, ⟨c, hc, h2⟩⟩)
  have hb := boxL_is hl
  generalize boxL l = p at *
  generalize liveP W H g.l g.t g.S = b at *
  obtain ⟨hin2, ⟨ca, ca1, ca2⟩, ⟨cb, cb1, cb2⟩, ⟨cc, cc1, cc2⟩, ⟨cd, cd1, cd2⟩⟩ := hb
  have ha := hin ca ca1
  have hbb := hin cb cb1
  have hc := hin cc cc1
  have hd := hin cd cd1
  unfold Hold at ha hbb hc hd
  replace hed := hed.resolve_left (by rw [ha.1]; simp)
  obtain ⟨⟨cl, l1, l2⟩, ⟨cr, r1, r2⟩, ⟨ct, t1, t2⟩, ⟨ce, e1, e2⟩⟩ := hed
  have i1 := hin2 cl l1
  have i2 := hin2 cr r1
  have i3 := hin2 ct t1
  have i4 := hin2 ce e1
  obtain ⟨be, bL, bT, bR, bB⟩ := b
  simp only at *
  obtain ⟨p1, p2, p3, p4⟩ := p
  simp only at *
  rw [ha.1]
  congr 1 <;> omega
/-- The program saves what the document saves. -/
theorem save_eq {c : Int} (r : Pu.Rule) {x : Pu.Shape} (age : Int) {g : Gs} {l : List Cl} (hs : Same x.w x.h g l) (hz : ∀ d, d ∈ l → 1 ≤ d.2.2 ∧ d.2.2 < c) (c9 : c ≤ 9) (h1 : 0 ≤ x.ws) (h2 : x.wst = true → x.ws = 0) (h3 : 0 ≤ x.hs) (h4 : x.hst = true → x.hs = 0) :
    saveT r x age g.l g.t g.S = ustr (xsaveT r x age l) := by
  have hG : getP x.w x.h g.l g.t g.S = atL l := by
    funext X Y
    exact hs X Y
  unfold saveT Sv.writeT xsaveT
  rw [hG, xhead_eq r age h1 h2 h3 h4]
  by_cases hl : l = []
  · subst hl
    rw [if_pos rfl, if_pos (box_none hs)]
  · rw [if_neg hl, box_same hs (fun d hd => by have := hz d hd; omega) hl, if_neg (by simp)]
    have hb := boxL_is hl
    have h8 : ∀ X Y, 0 ≤ atL l X Y ∧ atL l X Y ≤ 8 := by
      intro X Y
      by_cases e : atL l X Y = 0
      · omega
      · have : ∀ m : List Cl, (∀ d, d ∈ m → 1 ≤ d.2.2 ∧ d.2.2 < c) → 0 ≤ atL m X Y ∧ atL m X Y ≤ 8 := by
          intro m
          induction m with
          | nil => intro _; simp [atL]
          | cons d m ih =>
            intro hm
            have h5 := hm d List.mem_cons_self
            unfold atL
            split
            · omega
            · exact ih (fun d hd => hm d (List.mem_cons_of_mem _ hd))
        exact this l hz
    have hne := fun d (hd : d ∈ l) => atL_mem (fun d hd => by have := hz d hd; omega) hd
    unfold xbodyT Sv.placeT
    simp only
    generalize boxL l = p at *
    obtain ⟨hin, ⟨ca, ca1, ca2⟩, ⟨cb, cb1, cb2⟩, ⟨cc, cc1, cc2⟩, ⟨cd, cd1, cd2⟩⟩ := hb
    have i1 := hin cd cd1
    have i2 := hin cc cc1
    obtain ⟨k, hk⟩ : ∃ k : Nat, (p.2.2.2 - p.2.2.1 + 1).toNat = k + 1 := ⟨(p.2.2.2 - p.2.2.1).toNat, by omega⟩
    rw [hk, body_runs (atL l) p.1 p.2.2.1 h8 _ k ?_]
    · simp only [List.append_assoc]
    · have e1 : ((cd.1 - p.1).toNat : Int) = cd.1 - p.1 := by omega
      refine xrow_ne _ _ _ (cd.1 - p.1).toNat (by omega) ?_
      rw [e1, show p.1 + (cd.1 - p.1) = cd.1 by omega, show p.2.2.1 + (k : Int) = cd.2.1 by omega]
      exact hne cd cd1
end Go.Proofs.YtbdbkjngdhcjpaaDoor
namespace Go.Proofs.YtbdbkjngdhcjpaaDoor
open Go.RowKit
open Go.Proofs

theorem rleF_ustr (D : List UInt8) : rleF (ustr D) 0 = rle D := by
  unfold rleF ustr
  simp
theorem lit6 (a b c d e f : UInt8) : (⟨#[a, b, c, d, e, f]⟩ : ByteArray) = ustr [a, b, c, d, e, f] := rfl
theorem xhead_len {r : Pu.Rule} {x : Pu.Shape} {age : Int} (hb : HdB r x age) : (xheadT r x age).length ≤ 1001000 := by
  have h1 : (Sv.set r.births).length ≤ 99 := Sv.setN_len _ 9
  have h2 : (Sv.set r.survivals).length ≤ 99 := Sv.setN_len _ 9
  have h3 := itoa_len r.states
  have h4 := itoa_len x.w
  have h5 := itoa_len x.h
  have h6 := itoa_len x.ws
  have h7 := itoa_len x.hs
  have h8 := itoa_len age
  obtain ⟨b1, b2, b3, b4, b5, b6, b7, b8⟩ := hb
  have k1 : (xbehind x.ws x.wst).length ≤ 70 := by
    unfold xbehind
    rw [List.length_append]
    split <;> split <;> simp <;> omega
  have k2 : (xbehind x.hs x.hst).length ≤ 70 := by
    unfold xbehind
    rw [List.length_append]
    split <;> split <;> simp <;> omega
  have k3 : (if 2 < r.states then [47] ++ Lib.itoa r.states else ([] : List UInt8)).length ≤ 20 := by
    split
    · simp; omega
    · simp
  unfold xheadT Sv.ruleT
  simp only [List.length_append, List.length_cons, List.length_nil]
  omega

set_option maxRecDepth 100000 in
set_option maxHeartbeats 4000000 in
theorem xsave_any (q : Nat) (r : Pu.Rule) (x : Pu.Shape) (age : Int) (l : List Cl) (w : World) (h : DocAt w q r x age l) (hb : HdB r x age) (ho : OneB x) (hl : l.length ≤ 1000000) (hbd : ClBd l) (hG : ∀ X Y, 0 ≤ atL l X Y ∧ atL l X Y ≤ 8) (hsm : l ≠ [] → (boxL l).2.1 - (boxL l).1 < 64 ∧ (boxL l).2.2.2 - (boxL l).2.2.1 < 64) :
    Calls Tryd.prog 9 #[.pointer (some ⟨q, 0, none⟩)] w fun e w' => e = .returned (.string (ustr (xsaveT r x age l))) ∧ Kp (fun _ => False) w w' := by
  obtain ⟨g1, g2, v, hv, s1, s2, hc⟩ := h.at1
  have hd : HdAt w q r x age g1 g2 v := ⟨hv, s1, s2⟩
  have HD := hide hd
  have HC := hide hc
  have HH := hide (fun wx hx => xhead_any q r x age g1 g2 v wx hx hb ho)
  have CE : Hid (∀ wx, HdAt wx q r x age g1 g2 v → wx.cell? ⟨q, 12, none⟩ = some v) := fun wx hx => by rw [hx.va.cell]; rfl
  have zH : (ustr (xheadT r x age)).size ≤ 1001000 := by rw [ustr_size]; exact xhead_len hb
  have HROW := hide (fun Y A B wx (hx : HdAt wx q r x age g1 g2 v) (hc : ClAt wx v l) h1 h2 h3 => xrow_any q (vw r g1 g2 x age v) v l Y A B wx hx.va rfl hc hl hG h1 h2 h3)
  have HBOX := hide (fun wx (hc : ClAt wx v l) h0 => xbox_any v l wx hc h0 hl)
  obtain ⟨ad, cap, ev, hf⟩ := hc.form
  clear h hv s1 s2 hc hd hf
  obtain ⟨HT, hHT⟩ : ∃ HT, ustr (xheadT r x age) = HT := ⟨_, rfl⟩
  rw [hHT] at HH zH
  have HHT := hide hHT
  clear hHT
  go_enter Tryd.func9, Tryd.ntmps9
  go_wp2_with fail
  refine (HH.out _ HD.out).mono ?_
  rintro e w1 ⟨rfl, k1⟩
  have D1 := hide (HD.out.keep k1)
  have C1 := hide (HC.out.keep k1 (fun _ _ h => h))
  have K1 := hide k1
  have cv := CE.out w1 D1.out
  clear k1 HD HC HH
  by_cases h0 : l = []
  · subst h0
    have HE : Hid (True → ustr (xsaveT r x age []) = HT ++ ustr [32, 48, 44, 48, 32, 33]) := by
      intro _
      unfold xsaveT
      rw [if_pos rfl, ← HHT.out, ustr_app]
    subst ev
    go_wp2_with fail
    go_ret
    exact ⟨by rw [HE.out trivial]; rfl, K1.out⟩
  · have hbx := boxL_is h0
    have hsz := hsm h0
    have B1 := hide (HBOX.out w1 C1.out h0)
    have hlen : 0 < l.length := List.length_pos_iff.2 h0
    have hlb : ((l.length : Int) == 0) = false := by rw [beq_eq_false_iff_ne]; omega
    have HE : Hid (True → ustr (xsaveT r x age l) = HT ++ ustr [32] ++ ustr (Lib.itoa (boxL l).1) ++ ustr [44] ++ ustr (Lib.itoa (boxL l).2.2.1) ++ ustr [32] ++ ustr (rle (xrows (atL l) (boxL l).1 (boxL l).2.2.1 ((boxL l).2.1 - (boxL l).1 + 1).toNat ((boxL l).2.2.2 - (boxL l).2.2.1 + 1).toNat)) ++ ustr [33]) := by
      intro _
      have e1 : xsaveT r x age l = _ := if_neg h0
      rw [e1, ← HHT.out]
      unfold xbodyT
      simp only [ustr_app]
    clear HBOX h0
    obtain ⟨hin, ⟨ca, ca1, ca2⟩, ⟨cb, cb1, cb2⟩, ⟨cc, cc1, cc2⟩, ⟨cd, cd1, cd2⟩⟩ := hbx
    have ba := hbd ca ca1
    have bb := hbd cb cb1
    have bc := hbd cc cc1
    have bd := hbd cd cd1
    have i1 := hin cb cb1
    have i2 := hin cd cd1
    generalize (boxL l).1 = A at *
    generalize (boxL l).2.1 = B at *
    generalize (boxL l).2.2.1 = C at *
    generalize (boxL l).2.2.2 = D at *
    have bA : -100000 ≤ A ∧ A ≤ 100000 := by omega
    have bB : B ≤ 100000 ∧ A ≤ B ∧ B - A < 64 := by omega
    have bC : -100000 ≤ C ∧ C ≤ 100000 := by omega
    have bD : C ≤ D ∧ D - C < 64 := by omega
    clear hin ca1 ca2 cb1 cb2 cc1 cc2 cd1 cd2 ba bb bc bd i1 i2 hsz hsm hbd
    clear ca cb cc cd
    have HR2 := hide (fun Y wx hx hc => HROW.out Y A B wx hx hc (by omega) (by omega) (by omega))
    have DA := hide (fun wx => digits_all A wx (by omega) (by omega))
    have DC := hide (fun wx => digits_all C wx (by omega) (by omega))
    have zA : (ustr (Lib.itoa A)).size ≤ 100002 := by have := itoa_len A; rw [ustr_size]; omega
    have zC : (ustr (Lib.itoa C)).size ≤ 100002 := by have := itoa_len C; rw [ustr_size]; omega
    generalize ustr (Lib.itoa A) = SA at *
    generalize ustr (Lib.itoa C) = SC at *
    have hn : (B - A + 1).toNat ≤ 64 := by omega
    generalize (B - A + 1).toNat = n at *
    obtain ⟨N, hN⟩ : ∃ N, N = (D - C + 1).toNat := ⟨_, rfl⟩
    rw [← hN] at HE
    have hN2 : N ≤ 64 := by omega
    have hND : D = C + N - 1 := by omega
    have HX0 : Hid (xrows (atL l) A C n 0 = []) := rfl
    have HXS : Hid (∀ k, xrows (atL l) A C n (k + 1) = (if 0 < k then xrows (atL l) A C n k ++ [36] else xrows (atL l) A C n k) ++ xrow (fun X => atL l X (C + k)) A n) := fun _ => rfl
    have HXL : Hid (∀ k, k ≤ 64 → (ustr (xrows (atL l) A C n k)).size ≤ 5000) := by
      intro k hk
      have h1 := xrows_len (atL l) A C n k
      have h2 : k * (n + 1) ≤ 64 * 65 := Nat.mul_le_mul hk (by omega)
      rw [ustr_size]
      omega
    have HRL : Hid (∀ Y, (ustr (xrow (fun X => atL l X Y) A n)).size ≤ 64) := by
      intro Y
      have := xrowN_len (fun X => atL l X Y) A n
      rw [ustr_size]
      unfold xrow
      omega
    have HZR : Hid ((ustr (rle (xrows (atL l) A C n N))).size ≤ 20000) := by
      have h1 := rle_len _ (xrows (atL l) A C n N) (Nat.le_refl _)
      have h2 := HXL.out N hN2
      rw [ustr_size] at h2
      show _ ≤ _
      rw [ustr_size]
      omega
    clear hN
    clear HROW
    subst hND
    generalize xrows (atL l) A C n = XR at *
    subst ev
    go_wp2_with fail
    refine B1.out.mono ?_
    rintro e w2 ⟨rfl, hw2⟩
    subst w2
    go_wp2_with fail
    go_loopg [8, 9] N (fun gk sv yv wr => ∃ k : Nat, k ≤ N ∧ N ≤ k + gk ∧ sv = .string (ustr (XR k)) ∧ yv = .int .i64 (C + k) ∧ HdAt wr q r x age g1 g2 (.slice ad l.length cap) ∧ ClAt wr (.slice ad l.length cap) l ∧ Kp (fun _ => False) w wr)
    case atStart => exact ⟨0, by omega, by omega, by rw [HX0.out]; rfl, by go_num, D1.out, C1.out, K1.out⟩
    case round =>
      obtain ⟨k, m1, m2, rfl, rfl, m3, m4, m5⟩ := hrel
      have M3 := hide m3
      have M4 := hide m4
      have M5 := hide m5
      have z1 := HXL.out k (by omega)
      have z2 := HRL.out (C + k)
      clear m3 m4 m5 D1 C1 K1
      by_cases hk : k < N
      · have hS := HXS.out k
        have RR := hide (fun wx hx hc => HR2.out (C + k) wx hx hc)
        generalize xrow (fun X => atL l X (C + k)) A n = row at *
        by_cases hk0 : 0 < k
        · rw [if_pos hk0] at hS
          have HS := hide hS
          clear hS
          go_wp2_with fail
          refine (RR.out _ M3.out M4.out).mono ?_
          rintro e w3 ⟨rfl, k3⟩
          have N3 := hide (M3.out.keep k3)
          have N4 := hide (M4.out.keep k3 (fun _ _ h => h))
          have N5 := hide (M5.out.trans k3)
          clear k3
          go_wp2_with fail
          go_roundg (gk - 1)
          case measure => omega
          case rel => exact ⟨k + 1, by omega, by omega, val_str (by rw [lit1, ustr_app, ustr_app, HS.out]), by go_num, N3.out, N4.out, N5.out⟩
        · rw [if_neg hk0] at hS
          have HS := hide hS
          clear hS
          go_wp2_with fail
          refine (RR.out _ M3.out M4.out).mono ?_
          rintro e w3 ⟨rfl, k3⟩
          have N3 := hide (M3.out.keep k3)
          have N4 := hide (M4.out.keep k3 (fun _ _ h => h))
          have N5 := hide (M5.out.trans k3)
          clear k3
          go_wp2_with fail
          go_roundg (gk - 1)
          case measure => omega
          case rel => exact ⟨k + 1, by omega, by omega, val_str (by rw [ustr_app, HS.out]), by go_num, N3.out, N4.out, N5.out⟩
      · have ek : k = N := by omega
        subst ek
        have RU := hide (fun wx => xruns_any (ustr (XR k)) wx (by omega))
        rw [rleF_ustr] at RU
        have zR := HZR.out
        generalize ustr (rle (XR k)) = RL at *
        go_wp2_with fail
        refine (DA.out _).mono ?_
        rintro e w3 ⟨rfl, k3⟩
        have K3 := hide (M5.out.trans k3)
        clear k3
        go_wp2_with fail
        refine (DC.out _).mono ?_
        rintro e w4 ⟨rfl, k4⟩
        have K4 := hide (K3.out.trans k4)
        clear k4
        go_wp2_with fail
        refine (RU.out _).mono ?_
        rintro e w5 ⟨rfl, k5⟩
        have K5 := hide (K4.out.trans k5)
        clear k5
        go_wp2_with fail
        go_ret
        exact ⟨by rw [HE.out trivial]; rfl, K5.out⟩
end Go.Proofs.YtbdbkjngdhcjpaaDoor
