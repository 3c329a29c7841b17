import Derived.Test.YtbdbkjngdhcjpaaDoorM16
import Derived.Test.YtbdbkjngdhcjpaaDoorM6
namespace Go.Proofs.YtbdbkjngdhcjpaaDoor
open Go.RowKit
open Go.Proofs

/-- The document's world at block q: its thirteen fields. -/
def VAt (w : World) (q : Nat) (a : Array Value) : Prop := w.heap[q]? = some (.cells a 60 (0, 0))
theorem VAt.keep {T : Nat → Prop} {w w' : World} {q : Nat} {a : Array Value} (h : VAt w q a) (k : Kp T w w') (hn : ¬ T q) : VAt w' q a := k.row h hn
theorem VAt.put {w : World} {q : Nat} {a : Array Value} (h : VAt w q a) (k : Nat) (u : Value) (a' : Array Value) (e : a.setIfInBounds k u = a') : VAt (w.setCell ⟨q, k, none⟩ u) q a' := by
  unfold VAt at *
  rw [heap_setCell_same w q k _ _ _ h, e]
theorem VAt.cell {w : World} {q : Nat} {a : Array Value} (h : VAt w q a) (k : Nat) : w.cell? ⟨q, k, none⟩ = a[k]? := cell_of_row _ _ _ _ _ _ h
theorem VAt.fro {w : World} {q : Nat} {a : Array Value} (h : VAt w q a) (k : Nat) : w.frozen? ⟨q, k, none⟩ = false := frozen_of_row _ _ _ _ _ h
theorem VAt.lt {w : World} {q : Nat} {a : Array Value} (h : VAt w q a) : q < w.heap.size := (Array.getElem?_eq_some_iff.1 h).1
/-- A set of the document's. -/
def SlB (w : World) (g : Nat) (l : List Bool) : Prop := l.length = 9 ∧ w.heap[g]? = some (.cells (bv l) 4 (0, 0))
theorem SlB.keep {T : Nat → Prop} {w w' : World} {g : Nat} {l : List Bool} (h : SlB w g l) (k : Kp T w w') (hn : ¬ T g) : SlB w' g l := ⟨h.1, k.row h.2 hn⟩
def bq (b q : Nat) : Nat → Prop := fun z => z = b ∨ z = q
theorem Kp.tobq {w w' : World} {b q : Nat} (h : Kp (· = b) w w') : Kp (bq b q) w w' := h.mono (fun _ e => Or.inl e)
theorem Kp.putq {a w : World} {b q : Nat} (h : Kp (bq b q) a w) (k : Nat) (u : Value) : Kp (bq b q) a (w.setCell ⟨q, k, none⟩ u) := h.setCell (p := ⟨q, k, none⟩) (Or.inr rfl) u
def xrule : Pu.Rd Pu.Rule := Pu.bnd Pu.rule fun r => Pu.bnd (Pu.take 32) fun _ => Pu.ret r
theorem bnd_assoc {α β γ : Type} (p : Pu.Rd α) (q : α → Pu.Rd β) (r : β → Pu.Rd γ) : Pu.bnd (Pu.bnd p q) r = Pu.bnd p fun a => Pu.bnd (q a) r := by
  funext f i
  unfold Pu.bnd
  rcases p f i with ⟨j, _ | a⟩ <;> rfl
theorem xrule_eq : xrule = Pu.bnd (Pu.letter [77, 86, 72]) fun a => Pu.bnd (Pu.take 66) fun _ => Pu.bnd (Pu.set (Pu.neighbours a)) fun bs => Pu.bnd (Pu.take 47) fun _ => Pu.bnd (Pu.take 83) fun _ =>
    Pu.bnd (Pu.set (Pu.neighbours a)) fun ss => Pu.bnd (Pu.opt 47) fun m => Pu.bnd (if m = true then Pu.number 3 9 else Pu.ret 2) fun c => Pu.bnd (Pu.take 32) fun _ => Pu.ret ⟨a, bs, ss, c⟩ := by
  unfold xrule Pu.rule Pu.states
  simp only [bnd_assoc]
  rfl

theorem xrule_end {k c : Int} {bs ss : List Bool} {f : Pu.Src} {i j : Nat} {o : Option Pu.Rule} {y : Int} (h : (Pu.bnd (Pu.ret c) fun c => Pu.bnd (Pu.take 32) fun _ => Pu.ret (⟨k, bs, ss, c⟩ : Pu.Rule)) f i = (j, o)) (hy : c = y) : Pu.take 32 f i = (j, o.map fun _ => ()) ∧ ∀ r, o = some r → r = ⟨k, bs, ss, y⟩ := by
  subst hy
  unfold Pu.bnd Pu.ret at h
  simp only at h
  rcases e : Pu.take 32 f i with ⟨j2, _ | u⟩
  · rw [e] at h
    obtain ⟨rfl, rfl⟩ := Prod.mk.inj h
    exact ⟨rfl, fun r e => by cases e⟩
  · rw [e] at h
    obtain ⟨rfl, rfl⟩ := Prod.mk.inj h
    exact ⟨rfl, fun r e => (Option.some.inj e).symm⟩
theorem take_up {m : Int} {s : ByteArray} {i j : Nat} {α : Type} {o : Option α} (h : Pu.take m (src s) i = (j, o.map fun _ => ())) : decide (src s i = m) = o.isSome ∧ j = upIf s i m := by
  unfold Pu.take at h
  unfold upIf
  by_cases e : src s i = m
  · rw [if_pos e] at h
    rw [if_pos e, decide_eq_true e]
    obtain ⟨h1, h2⟩ := Prod.mk.inj h
    cases o with
    | none => cases h2
    | some a => exact ⟨rfl, h1.symm⟩
  · rw [if_neg e] at h
    rw [if_neg e, decide_eq_false e]
    obtain ⟨h1, h2⟩ := Prod.mk.inj h
    cases o with
    | none => exact ⟨rfl, h1.symm⟩
    | some a => cases h2

set_option maxRecDepth 100000 in
set_option maxHeartbeats 4000000 in
theorem xrule_any (b q : Nat) (hbq : b ≠ q) (s : ByteArray) (i : Nat) (a0 a1 a2 a3 a4 a5 a6 a7 a8 a9 a10 a11 a12 : Value) (w : World) (h : RxAt w b s i) (hv : VAt w q #[a0, a1, a2, a3, a4, a5, a6, a7, a8, a9, a10, a11, a12]) (j : Nat) (o : Option Pu.Rule) (hq : Hid (xrule (src s) i = (j, o))) :
    Calls Tryd.prog 59 #[.pointer (some ⟨b, 0, none⟩), .pointer (some ⟨q, 0, none⟩)] w fun e w' => e = .returned (.bool o.isSome) ∧ RxAt w' b s j ∧ Kp (bq b q) w w' ∧
      ∀ r, o = some r → ∃ g1 g2, w.heap.size ≤ g1 ∧ w.heap.size ≤ g2 ∧ VAt w' q #[.int .u8 r.around, .slice (some ⟨g1, 0, none⟩) 9 9, .slice (some ⟨g2, 0, none⟩) 9 9, .int .i64 r.states, a4, a5, a6, a7, a8, a9, a10, a11, a12] ∧ SlB w' g1 r.births ∧ SlB w' g2 r.survivals := by
  have H := hide h
  have V := hide hv
  have hq' := hq.out
  rw [xrule_eq] at hq'
  have sb := h.lt
  have sq := hv.lt
  clear h hv hq
  rcases hl : Pu.letter [77, 86, 72] (src s) i with ⟨j1, _ | k⟩
  · rw [bnd_none hl] at hq'
    obtain ⟨rfl, rfl⟩ := Prod.mk.inj hq'
    rw [← lets_rule] at hl
    have HL := hide hl
    clear hq' hl
    go_enter Tryd.func59, Tryd.ntmps59
    go_wp2_with fail
    refine (xof_any b s i ⟨#[77, 86, 72]⟩ _ H.out (by decide) j1 none HL).mono ?_
    rintro e w1 ⟨⟨x, rfl, hx⟩, r1, k1⟩
    have R1 := hide r1
    have K1 := hide k1
    clear hx r1 k1
    go_wp2_with fail
    go_ret
    exact ⟨rfl, R1.out, K1.out.tobq, fun r e => by cases e⟩
  · have hkm : k ∈ [(77 : Int), 86, 72] := by
      unfold Pu.letter at hl
      split at hl
      · rename_i hm
        have := Option.some.inj (Prod.mk.inj hl).2
        rwa [this] at hm
      · simp at hl
    have hk3 : k = 77 ∨ k = 86 ∨ k = 72 := by simpa using hkm
    rw [bnd_some hl] at hq'
    have HQ := hide hq'
    rw [← lets_rule] at hl
    have HL := hide hl
    have hnb := neighbours_bd k
    obtain ⟨top, htop⟩ : ∃ t, Pu.neighbours k = t := ⟨_, rfl⟩
    have TOP : Hid (top = 8 ∧ (k == 86) = false ∧ (k == 72) = false ∨ top = 4 ∧ (k == 86) = true ∧ (k == 72) = false ∨ top = 6 ∧ (k == 86) = false ∧ (k == 72) = true) := by
      show _ ∨ _ ∨ _
      rw [← htop]
      rcases hk3 with rfl | rfl | rfl <;> decide
    have HTOP := hide htop
    rw [htop] at HQ hnb
    clear hq' hl hkm htop hk3
    have LD := hide (fun (wx : World) (i2 : Nat) (hx : RxAt wx b s i2) (j2 : Nat) (o2 : List Bool) (hq : Hid (Pu.set top (src s) i2 = (j2, some o2))) => digits_any b s i2 top wx hx hnb.1 hnb.2 j2 o2 hq)
    rcases TOP.out with ⟨rfl, b86, b72⟩ | ⟨rfl, b86, b72⟩ | ⟨rfl, b86, b72⟩
    all_goals
      clear TOP HTOP
      go_enter Tryd.func59, Tryd.ntmps59
      go_wp2_with fail
      refine (xof_any b s i ⟨#[77, 86, 72]⟩ _ H.out (by decide) j1 _ HL).mono ?_
      rintro e w1 ⟨⟨x, rfl, hx⟩, r1, k1⟩
      obtain rfl := hx _ rfl
      have V0 := hide (V.out.keep k1 (fun e => hbq e.symm))
      have c0 : w1.cell? ⟨q, 0, none⟩ = some a0 := V0.out.cell 0
      have f0 := V0.out.fro 0
      have V1 : Hid (VAt (w1.setCell ⟨q, 0, none⟩ (.int .u8 x)) q #[.int .u8 x, a1, a2, a3, a4, a5, a6, a7, a8, a9, a10, a11, a12]) := V0.out.put 0 _ _ rfl
      have R1 : Hid (RxAt (w1.setCell ⟨q, 0, none⟩ (.int .u8 x)) b s j1) := r1.setOther hbq _
      have K1 : Hid (Kp (bq b q) w (w1.setCell ⟨q, 0, none⟩ (.int .u8 x))) := k1.tobq.putq 0 _
      clear hx r1 k1 HL V0
      by_cases e2 : src s j1 = 66
      · have q2 := HQ.out
        rw [bnd_some (show Pu.take 66 (src s) j1 = (j1 + 1, some ()) by unfold Pu.take; rw [if_pos e2])] at q2
        have HQ2 := hide q2
        have E2 := hide e2
        clear e2 q2 HQ
        go_wp2_with fail
        refine (xone_yes R1.out (by omega) E2.out).mono ?_
        rintro e w2 ⟨rfl, r2, k2⟩
        have V2 := hide (V1.out.keep k2 (fun e => hbq e.symm))
        have R2 := hide r2
        have K2 := hide (K1.out.trans k2.tobq)
        clear r2 k2
        obtain ⟨J3, l3, hs3, _⟩ := set_some _ (src s) (j1 + 1)
        have q3 := HQ2.out
        rw [bnd_some hs3] at q3
        have HQ3 := hide q3
        have HS3 := hide hs3
        clear q3 HQ2 hs3
        go_wp2_with fail
        refine (LD.out _ (j1 + 1) R2.out J3 l3 HS3).mono ?_
        rintro e w3 ⟨⟨g3, rfl, gl3, gs3, gr3⟩, r3, k3⟩
        have S3 := hide (⟨gs3, gr3⟩ : SlB w3 g3 l3)
        have z3 := K2.out.size
        have gb3 : g3 < w3.heap.size := (Array.getElem?_eq_some_iff.1 gr3).1
        have lb3 : b < w3.heap.size := r3.lt
        have V3a := hide (V2.out.keep k3 (fun e => hbq e.symm))
        have lq3 := V3a.out.lt
        have cc3 : w3.cell? ⟨q, 1, none⟩ = some a1 := V3a.out.cell 1
        have ff3 := V3a.out.fro 1
        have V3 : Hid (VAt (w3.setCell ⟨q, 1, none⟩ (.slice (some ⟨g3, 0, none⟩) 9 9)) q #[.int .u8 x, .slice (some ⟨g3, 0, none⟩) 9 9, a2, a3, a4, a5, a6, a7, a8, a9, a10, a11, a12]) := V3a.out.put 1 _ _ rfl
        have R3 : Hid (RxAt (w3.setCell ⟨q, 1, none⟩ (.slice (some ⟨g3, 0, none⟩) 9 9)) b s J3) := r3.setOther hbq _
        have K3 : Hid (Kp (bq b q) w (w3.setCell ⟨q, 1, none⟩ (.slice (some ⟨g3, 0, none⟩) 9 9))) := (K2.out.trans k3.tobq).putq 1 _
        have SB3 : Hid (SlB (w3.setCell ⟨q, 1, none⟩ (.slice (some ⟨g3, 0, none⟩) 9 9)) g3 l3) := ⟨S3.out.1, (heap_setCell_other _ _ _ _ (by simp only; omega)).trans S3.out.2⟩
        clear r3 k3 gr3 gs3 V3a S3
        by_cases e4 : src s J3 = 47
        · have q4 := HQ3.out
          rw [bnd_some (show Pu.take 47 (src s) J3 = (J3 + 1, some ()) by unfold Pu.take; rw [if_pos e4])] at q4
          have HQ4 := hide q4
          have E4 := hide e4
          clear e4 q4 HQ3
          go_wp2_with fail
          refine (xone_yes R3.out (by omega) E4.out).mono ?_
          rintro e w4 ⟨rfl, r4, k4⟩
          have V4 := hide (V3.out.keep k4 (fun e => hbq e.symm))
          have R4 := hide r4
          have K4 := hide (K3.out.trans k4.tobq)
          have SB4 := hide (SB3.out.keep k4 (by omega))
          clear r4 k4
          by_cases e5 : src s (J3 + 1) = 83
          · have q5 := HQ4.out
            rw [bnd_some (show Pu.take 83 (src s) (J3 + 1) = ((J3 + 1) + 1, some ()) by unfold Pu.take; rw [if_pos e5])] at q5
            have HQ5 := hide q5
            have E5 := hide e5
            clear e5 q5 HQ4
            go_wp2_with fail
            refine (xone_yes R4.out (by omega) E5.out).mono ?_
            rintro e w5 ⟨rfl, r5, k5⟩
            have V5 := hide (V4.out.keep k5 (fun e => hbq e.symm))
            have R5 := hide r5
            have K5 := hide (K4.out.trans k5.tobq)
            have SB5 := hide (SB4.out.keep k5 (by omega))
            clear r5 k5
            obtain ⟨J6, l6, hs6, _⟩ := set_some _ (src s) ((J3 + 1) + 1)
            have q6 := HQ5.out
            rw [bnd_some hs6] at q6
            have HQ6 := hide q6
            have HS6 := hide hs6
            clear q6 HQ5 hs6
            go_wp2_with fail
            refine (LD.out _ ((J3 + 1) + 1) R5.out J6 l6 HS6).mono ?_
            rintro e w6 ⟨⟨g6, rfl, gl6, gs6, gr6⟩, r6, k6⟩
            have S6 := hide (⟨gs6, gr6⟩ : SlB w6 g6 l6)
            have z6 := K5.out.size
            have gb6 : g6 < w6.heap.size := (Array.getElem?_eq_some_iff.1 gr6).1
            have lb6 : b < w6.heap.size := r6.lt
            have V6a := hide (V5.out.keep k6 (fun e => hbq e.symm))
            have lq6 := V6a.out.lt
            have cc6 : w6.cell? ⟨q, 2, none⟩ = some a2 := V6a.out.cell 2
            have ff6 := V6a.out.fro 2
            have cd6 : w6.cell? ⟨q, 3, none⟩ = some a3 := V6a.out.cell 3
            have fd6 := V6a.out.fro 3
            have V6 : Hid (VAt (w6.setCell ⟨q, 2, none⟩ (.slice (some ⟨g6, 0, none⟩) 9 9)) q #[.int .u8 x, .slice (some ⟨g3, 0, none⟩) 9 9, .slice (some ⟨g6, 0, none⟩) 9 9, a3, a4, a5, a6, a7, a8, a9, a10, a11, a12]) := V6a.out.put 2 _ _ rfl
            have R6 : Hid (RxAt (w6.setCell ⟨q, 2, none⟩ (.slice (some ⟨g6, 0, none⟩) 9 9)) b s J6) := r6.setOther hbq _
            have K6 : Hid (Kp (bq b q) w (w6.setCell ⟨q, 2, none⟩ (.slice (some ⟨g6, 0, none⟩) 9 9))) := (K5.out.trans k6.tobq).putq 2 _
            have SC6 : Hid (SlB (w6.setCell ⟨q, 2, none⟩ (.slice (some ⟨g6, 0, none⟩) 9 9)) g6 l6) := ⟨S6.out.1, (heap_setCell_other _ _ _ _ (by simp only; omega)).trans S6.out.2⟩
            have SB6 : Hid (SlB (w6.setCell ⟨q, 2, none⟩ (.slice (some ⟨g6, 0, none⟩) 9 9)) _ _) := ⟨SB5.out.1, (heap_setCell_other _ _ _ _ (by simp only; omega)).trans (SB5.out.keep k6 (by omega)).2⟩
            clear r6 k6 gr6 gs6 V6a S6
            have V7 : Hid (VAt ((w6.setCell ⟨q, 2, none⟩ (.slice (some ⟨g6, 0, none⟩) 9 9)).setCell ⟨q, 3, none⟩ (.int .i64 2)) q #[.int .u8 x, .slice (some ⟨g3, 0, none⟩) 9 9, .slice (some ⟨g6, 0, none⟩) 9 9, .int .i64 2, a4, a5, a6, a7, a8, a9, a10, a11, a12]) := V6.out.put 3 _ _ rfl
            have R7 : Hid (RxAt ((w6.setCell ⟨q, 2, none⟩ (.slice (some ⟨g6, 0, none⟩) 9 9)).setCell ⟨q, 3, none⟩ (.int .i64 2)) b s J6) := R6.out.setOther hbq _
            have K7 : Hid (Kp (bq b q) w ((w6.setCell ⟨q, 2, none⟩ (.slice (some ⟨g6, 0, none⟩) 9 9)).setCell ⟨q, 3, none⟩ (.int .i64 2))) := K6.out.putq 3 _
            have SB7 : Hid (SlB ((w6.setCell ⟨q, 2, none⟩ (.slice (some ⟨g6, 0, none⟩) 9 9)).setCell ⟨q, 3, none⟩ (.int .i64 2)) g3 l3) := ⟨SB6.out.1, (heap_setCell_other _ _ _ _ (by simp only; omega)).trans SB6.out.2⟩
            have SC7 : Hid (SlB ((w6.setCell ⟨q, 2, none⟩ (.slice (some ⟨g6, 0, none⟩) 9 9)).setCell ⟨q, 3, none⟩ (.int .i64 2)) g6 l6) := ⟨SC6.out.1, (heap_setCell_other _ _ _ _ (by simp only; omega)).trans SC6.out.2⟩
            have z7 : w6.heap.size ≤ (((w6.setCell ⟨q, 2, none⟩ (.slice (some ⟨g6, 0, none⟩) 9 9)).setCell ⟨q, 3, none⟩ (.int .i64 2))).heap.size := by simp [World.setCell]
            clear V6 R6 K6 SB6 SC6
            by_cases e8 : src s J6 = 47
            · have q8 := HQ6.out
              rw [bnd_some (opt_yes e8)] at q8
              have E8 := hide e8
              clear e8 HQ6
              rcases hn : Pu.number 3 9 (src s) (J6 + 1) with ⟨jn, _ | c⟩
              · rw [bnd_none (show (if true = true then Pu.number 3 9 else Pu.ret 2) (src s) (J6 + 1) = (jn, none) from hn)] at q8
                obtain ⟨ej, eo⟩ := Prod.mk.inj q8
                subst ej eo
                have HN := hide hn
                clear q8 hn
                go_wp2_with fail
                refine (xone_yes R7.out (by omega) E8.out).mono ?_
                rintro e w8 ⟨rfl, r8, k8⟩
                have R8 := hide r8
                have K8 := hide (K7.out.trans k8.tobq)
                clear r8 k8
                go_wp2_with fail
                refine (xnumber_any b s (J6 + 1) 3 9 _ R8.out (by omega) (by omega) (by omega) (by omega) _ none HN).mono ?_
                rintro e w9 ⟨⟨x9, rfl, hx9⟩, r9, k9⟩
                have R9 := hide r9
                have K9 := hide (K8.out.trans k9.tobq)
                clear r9 k9 hx9
                go_wp2_with fail
                go_ret
                exact ⟨rfl, R9.out, K9.out, fun r e => by cases e⟩
              · rw [bnd_some (show (if true = true then Pu.number 3 9 else Pu.ret 2) (src s) (J6 + 1) = (jn, some c) from hn)] at q8
                have HQ8 := hide q8
                have HN := hide hn
                clear q8 hn
                go_wp2_with fail
                refine (xone_yes R7.out (by omega) E8.out).mono ?_
                rintro e w8 ⟨rfl, r8, k8⟩
                have z8 := k8.size
                have V8 := hide (V7.out.keep k8 (fun e => hbq e.symm))
                have R8 := hide r8
                have K8 := hide (K7.out.trans k8.tobq)
                have SB8 := hide (SB7.out.keep k8 (by omega))
                have SC8 := hide (SC7.out.keep k8 (by omega))
                clear r8 k8
                go_wp2_with fail
                refine (xnumber_any b s (J6 + 1) 3 9 _ R8.out (by omega) (by omega) (by omega) (by omega) _ (some c) HN).mono ?_
                rintro e w9 ⟨⟨x9, rfl, hx9⟩, r9, k9⟩
                obtain rfl := hx9 c rfl
                have z9 := k9.size
                have V9 := hide (V8.out.keep k9 (fun e => hbq e.symm))
                have R9 := hide r9
                have K9 := hide (K8.out.trans k9.tobq)
                have SB9 := hide (SB8.out.keep k9 (by omega))
                have SC9 := hide (SC8.out.keep k9 (by omega))
                have cd9 : w9.cell? ⟨q, 3, none⟩ = some (.int .i64 2) := V9.out.cell 3
                have fd9 := V9.out.fro 3
                clear r9 k9 hx9 V8 R8 K8 SB8 SC8
                have V10 : Hid (VAt (w9.setCell ⟨q, 3, none⟩ (.int .i64 x9)) q #[.int .u8 x, .slice (some ⟨g3, 0, none⟩) 9 9, .slice (some ⟨g6, 0, none⟩) 9 9, .int .i64 x9, a4, a5, a6, a7, a8, a9, a10, a11, a12]) := V9.out.put 3 _ _ rfl
                have R10 : Hid (RxAt (w9.setCell ⟨q, 3, none⟩ (.int .i64 x9)) b s jn) := R9.out.setOther hbq _
                have K10 : Hid (Kp (bq b q) w (w9.setCell ⟨q, 3, none⟩ (.int .i64 x9))) := K9.out.putq 3 _
                have SB10 : Hid (SlB (w9.setCell ⟨q, 3, none⟩ (.int .i64 x9)) g3 l3) := ⟨SB9.out.1, (heap_setCell_other _ _ _ _ (by simp only; omega)).trans SB9.out.2⟩
                have SC10 : Hid (SlB (w9.setCell ⟨q, 3, none⟩ (.int .i64 x9)) g6 l6) := ⟨SC9.out.1, (heap_setCell_other _ _ _ _ (by simp only; omega)).trans SC9.out.2⟩
                clear V9 R9 K9 SB9 SC9
                have HE : Hid (Pu.take 32 (src s) jn = (j, o.map fun _ => ()) ∧ ∀ r, o = some r → r = ⟨x, l3, l6, x9⟩) := xrule_end HQ8.out rfl
                clear HQ8
                go_wp2_with fail
                refine (xone_any b s jn 32 _ R10.out (by omega)).mono ?_
                rintro e w11 ⟨rfl, r11, k11⟩
                have R11 := hide r11
                have V11 := hide (V10.out.keep k11 (fun e => hbq e.symm))
                have K11 := hide (K10.out.trans k11.tobq)
                have SB11 := hide (SB10.out.keep k11 (by omega))
                have SC11 := hide (SC10.out.keep k11 (by omega))
                clear r11 k11
                go_wp2_with fail
                go_ret
                obtain ⟨t1, t2⟩ := HE.out
                obtain ⟨t3, t4⟩ := take_up t1
                refine ⟨ret_bool t3, by rw [t4]; exact R11.out, K11.out, fun r e => ?_⟩
                obtain rfl := t2 r e
                exact ⟨g3, g6, by omega, by omega, V11.out, SB11.out, SC11.out⟩
            · have q8 := HQ6.out
              rw [bnd_some (opt_no e8)] at q8
              have HQ8 := hide q8
              have E8 := hide e8
              clear e8 HQ6 q8
              go_wp2_with fail
              refine (xone_no R7.out (by omega) E8.out).mono ?_
              rintro e w8 ⟨rfl, r8, k8⟩
              have z8 := k8.size
              have V8 := hide (V7.out.keep k8 (fun e => hbq e.symm))
              have R8 := hide r8
              have K8 := hide (K7.out.trans k8.tobq)
              have SB8 := hide (SB7.out.keep k8 (by omega))
              have SC8 := hide (SC7.out.keep k8 (by omega))
              clear r8 k8
              have HE : Hid (Pu.take 32 (src s) J6 = (j, o.map fun _ => ()) ∧ ∀ r, o = some r → r = ⟨x, l3, l6, 2⟩) := xrule_end HQ8.out rfl
              clear HQ8
              go_wp2_with fail
              refine (xone_any b s J6 32 _ R8.out (by omega)).mono ?_
              rintro e w11 ⟨rfl, r11, k11⟩
              have R11 := hide r11
              have V11 := hide (V8.out.keep k11 (fun e => hbq e.symm))
              have K11 := hide (K8.out.trans k11.tobq)
              have SB11 := hide (SB8.out.keep k11 (by omega))
              have SC11 := hide (SC8.out.keep k11 (by omega))
              clear r11 k11
              go_wp2_with fail
              go_ret
              obtain ⟨t1, t2⟩ := HE.out
              obtain ⟨t3, t4⟩ := take_up t1
              refine ⟨ret_bool t3, by rw [t4]; exact R11.out, K11.out, fun r e => ?_⟩
              obtain rfl := t2 r e
              exact ⟨g3, g6, by omega, by omega, V11.out, SB11.out, SC11.out⟩
          · have q5 := HQ4.out
            rw [bnd_none (show Pu.take 83 (src s) (J3 + 1) = ((J3 + 1), none) by unfold Pu.take; rw [if_neg e5])] at q5
            obtain ⟨ej, eo⟩ := Prod.mk.inj q5
            subst ej eo
            have E5 := hide e5
            clear e5 q5 HQ4
            go_wp2_with fail
            refine (xone_no R4.out (by omega) E5.out).mono ?_
            rintro e w5 ⟨rfl, r5, k5⟩
            have R5 := hide r5
            have K5 := hide (K4.out.trans k5.tobq)
            clear r5 k5
            go_wp2_with fail
            go_ret
            exact ⟨rfl, R5.out, K5.out, fun r e => by cases e⟩
        · have q4 := HQ3.out
          rw [bnd_none (show Pu.take 47 (src s) J3 = (J3, none) by unfold Pu.take; rw [if_neg e4])] at q4
          obtain ⟨ej, eo⟩ := Prod.mk.inj q4
          subst ej eo
          have E4 := hide e4
          clear e4 q4 HQ3
          go_wp2_with fail
          refine (xone_no R3.out (by omega) E4.out).mono ?_
          rintro e w4 ⟨rfl, r4, k4⟩
          have R4 := hide r4
          have K4 := hide (K3.out.trans k4.tobq)
          clear r4 k4
          go_wp2_with fail
          go_ret
          exact ⟨rfl, R4.out, K4.out, fun r e => by cases e⟩
      · have q2 := HQ.out
        rw [bnd_none (show Pu.take 66 (src s) j1 = (j1, none) by unfold Pu.take; rw [if_neg e2])] at q2
        obtain ⟨ej, eo⟩ := Prod.mk.inj q2
        subst ej eo
        have E2 := hide e2
        clear e2 q2 HQ
        go_wp2_with fail
        refine (xone_no R1.out (by omega) E2.out).mono ?_
        rintro e w2 ⟨rfl, r2, k2⟩
        have R2 := hide r2
        have K2 := hide (K1.out.trans k2.tobq)
        clear r2 k2
        go_wp2_with fail
        go_ret
        exact ⟨rfl, R2.out, K2.out, fun r e => by cases e⟩
end Go.Proofs.YtbdbkjngdhcjpaaDoor
