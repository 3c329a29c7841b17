import Derived.Test.YtbdbkjngdhcjpaaDoorM23
import Derived.Test.YtbdbkjngdhcjpaaDoorM25
import Derived.Test.YtbdbkjngdhcjpaaDoorM31
namespace Go.Proofs.YtbdbkjngdhcjpaaDoor
open Go.RowKit
open Go.Proofs

theorem fits_list {f : Pu.Src} : ∀ {L : List Int} {i : Nat}, (∀ k (h : k < L.length), f (i + k) = L[k]) → Pu.Fits f i L := by
  intro L
  induction L with
  | nil => intro i _; trivial
  | cons a L ih =>
    intro i h
    refine ⟨h 0 (by simp), ih fun k hk => ?_⟩
    have := h (k + 1) (by simpa using hk)
    rw [show i + 1 + k = i + (k + 1) by omega]
    simpa using this
theorem fits_ustr (A : List UInt8) : Pu.Fits (src (ustr A)) 0 (iL A ++ [-1]) := by
  refine fits_list fun k hk => ?_
  rw [Nat.zero_add]
  have hz := ustr_size A
  have hl := iL_len A
  by_cases h : k < A.length
  · rw [src_lt (by omega), List.getElem_append_left (by omega)]
    unfold iL
    rw [List.getElem_map]
    rfl
  · rw [src_ge (by omega)]
    have e : k = (iL A).length := by simp at hk; omega
    subst e
    simp
theorem src_nn {s : ByteArray} {i : Nat} (h : src s i ≠ -1) : i < s.size := by
  rcases Nat.lt_or_ge i s.size with h2 | h2
  · exact h2
  · exact absurd (src_ge (by omega)) h
/-- How long a right text is. -/
theorem read_len {s : ByteArray} {j : Nat} {p : Pu.Parts} (hR : Pu.read (src s) = (j, some p)) : (Sv.headT p.rule p.shape p.age).length + (Lib.itoa p.col).length + (Lib.itoa p.row).length + csum (p.runs.map toP) + 4 ≤ s.size := by
  obtain ⟨i, k, _, h1, h2, h3, _, h5⟩ := ht_read hR
  have hw := wr_len (p.runs.map toP) (fun q hq => by
    obtain ⟨r, hr, rfl⟩ := List.mem_map.1 hq
    have := h5 r hr
    unfold toP
    simp only
    omega)
  have e3 := h3.1
  rw [iL_app] at e3
  have e4 := e3.app.2.1
  rw [iL_len] at e4
  have hlt := src_nn (s := s) (i := k + (wr (p.runs.map toP)).length) (by rw [e4]; decide)
  have l1 := h1.2
  have l2 := h2.2
  unfold Sv.placeT at l2
  simp only [List.length_append, List.length_cons, List.length_nil] at l1 l2
  omega
theorem toP_frP {c : Int} (hc : c ≤ 9) {p : Nat × UInt8} (hs : SgOk c p.2) : toP (frP p) = p := by
  obtain ⟨k, b⟩ := p
  unfold toP frP
  simp only at hs ⊢
  rw [Int.toNat_natCast]
  congr 1
  rcases hs with rfl | ⟨t, h0, h1, rfl⟩
  · simp
  · obtain ⟨_, _, s3, s4, _, _⟩ := sg_cases hc h0 h1
    rw [if_neg (by simp [s4]), if_neg s4, s3]
theorem csum_ge : ∀ rs : Rs, (∀ p, p ∈ rs → 1 ≤ p.1) → rs.length ≤ csum rs := by
  intro rs
  induction rs with
  | nil => intro _; simp [csum]
  | cons p rs ih =>
    intro h
    have h1 := h p (by simp)
    have h2 := ih (fun q hq => h q (List.mem_cons_of_mem _ hq))
    have : 1 ≤ cs p.1 := by unfold cs; repeat' split
                            all_goals omega
    simp only [List.length_cons, csum]
    omega
theorem alike_of {r : Pu.Rule} {x : Pu.Shape} {g g' : Gs} {l l' : List Cl} (h : Alike r x g l) (h' : Alike r x g' l') (e : ∀ X Y, atL l' X Y = atL l X Y) : Alike r x g' l :=
  ⟨h'.gs, fun X Y => by rw [h'.same X Y, e], h.mem, h.once, h.rm, h'.tidy⟩
theorem save_same {r : Pu.Rule} {x : Pu.Shape} (age : Int) {g g' : Gs} {l : List Cl} (h : Alike r x g l) (h' : Alike r x g' l) : saveT r x age g'.l g'.t g'.S = saveT r x age g.l g.t g.S := by
  have e1 : getP x.w x.h g.l g.t g.S = atL l := by funext X Y; exact h.same X Y
  have e2 : getP x.w x.h g'.l g'.t g'.S = atL l := by funext X Y; exact h'.same X Y
  unfold saveT Sv.writeT
  rw [e1, e2]
  by_cases hl : l = []
  · subst hl
    rw [if_pos (box_none h.same), if_pos (box_none h'.same)]
  · rw [box_same h.same h.nz hl, box_same h'.same h'.nz hl]
set_option maxHeartbeats 2000000 in
/-- What is read again. -/
theorem again_pure {s : ByteArray} (h4 : s.size ≤ 400) {j : Nat} {p : Pu.Parts} (hR : Pu.read (src s) = (j, some p)) (h0 : loadE p noS = 0) :
    (saveT p.rule p.shape p.age (laidG p noS).2.l (laidG p noS).2.t (laidG p noS).2.S).size ≤ 400 ∧ ∃ j' p', Pu.read (src (saveT p.rule p.shape p.age (laidG p noS).2.l (laidG p noS).2.t (laidG p noS).2.S)) = (j', some p') ∧ p'.rule = p.rule ∧ p'.shape = p.shape ∧ p'.age = p.age ∧ loadE p' noS = 0 ∧ Alike p.rule p.shape (laidG p noS).2 (liveOf p) ∧ Alike p.rule p.shape (laidG p' noS).2 (liveOf p) := by
  have hp := Pu.read_inv hR
  have hx0 : xloadE p = 0 := by rw [← loadE_same hp noS noS_len noS_zero]; exact h0
  have al := alike_load hp noS noS_len noS_zero hx0
  have hlen := read_len hR
  obtain ⟨i, k, hh, hf, _, _, _, hcnt⟩ := ht_read hR
  have c9 := hp.states.2
  have hbirth : ¬ ((p.shape.w = 0 ∨ p.shape.h = 0) ∧ p.rule.births.getD 0 false = true) := by
    intro hc
    rw [loadE_birth hc.1 hc.2] at h0
    omega
  have hG : getP p.shape.w p.shape.h (laidG p noS).2.l (laidG p noS).2.t (laidG p noS).2.S = atL (liveOf p) := by
    funext X Y
    exact al.same X Y
  -- from a reading to the rest
  have fin : ∀ (L T : Int) (rs : Rs), (-9999 ≤ L ∧ L ≤ 9999) → (-9999 ≤ T ∧ T ≤ 9999) → (∀ q, q ∈ rs → (1 ≤ q.1 ∧ q.1 ≤ 99) ∧ SgOk p.rule.states q.2) → (Lib.itoa L).length + (Lib.itoa T).length + csum rs ≤ (Lib.itoa p.col).length + (Lib.itoa p.row).length + csum (p.runs.map toP) →
      (∀ X Y, (onSideB X p.shape.w = true ∧ onSideB Y p.shape.h = true) → rowsv (sp (unr rs)) (X - L) (Y - T) = atL (liveOf p) X Y) →
      (ustr (Sv.headT p.rule p.shape p.age ++ [32] ++ (Sv.placeT L T ++ [32]) ++ (wr rs ++ [33]))).size ≤ 400 ∧ ∃ j' p', Pu.read (src (ustr (Sv.headT p.rule p.shape p.age ++ [32] ++ (Sv.placeT L T ++ [32]) ++ (wr rs ++ [33])))) = (j', some p') ∧ p'.rule = p.rule ∧ p'.shape = p.shape ∧ p'.age = p.age ∧ loadE p' noS = 0 ∧ Alike p.rule p.shape (laidG p noS).2 (liveOf p) ∧ Alike p.rule p.shape (laidG p' noS).2 (liveOf p) := by
    intro L T rs hL hT hrs hcost hcell
    have hwl := wr_len rs (fun q hq => (hrs q hq).1)
    have hrl := csum_ge rs (fun q hq => (hrs q hq).1.1)
    refine ⟨?_, ?_⟩
    · rw [ustr_size]
      unfold Sv.placeT
      simp only [List.length_append, List.length_cons, List.length_nil]
      omega
    · obtain ⟨j', hj⟩ := read_saved (g := src (ustr (Sv.headT p.rule p.shape p.age ++ [32] ++ (Sv.placeT L T ++ [32]) ++ (wr rs ++ [33])))) hh hf c9 hL hT hrs (by omega) (fits_ustr _)
      have hp' := Pu.read_inv hj
      have hex : ex (rs.map frP) = unr rs := by
        unfold ex
        rw [List.map_map]
        congr 1
        conv => rhs; rw [← List.map_id rs]
        exact List.map_congr_left fun q hq => toP_frP c9 (hrs q hq).2
      have cell : ∀ X Y, atL (liveOf ⟨p.rule, p.shape, p.age, L, T, rs.map frP⟩) X Y = atL (liveOf p) X Y := by
        intro X Y
        rw [live_rows hp']
        simp only
        rw [hex]
        by_cases o : onSideB X p.shape.w = true ∧ onSideB Y p.shape.h = true
        · rw [if_pos o]
          exact hcell X Y o
        · rw [if_neg o, live_rows hp, if_neg o]
      have hx' : xloadE ⟨p.rule, p.shape, p.age, L, T, rs.map frP⟩ = 0 := by
        unfold xloadE
        simp only
        rw [if_neg hbirth, if_pos]
        rw [room_iff (side_of hp.shape)]
        have nz' : ∀ d, d ∈ liveOf ⟨p.rule, p.shape, p.age, L, T, rs.map frP⟩ → d.2.2 ≠ 0 := fun d hd => by
          have := ((liveOf_ok hp').mem d hd).2.2.1
          omega
        have back : ∀ d, d ∈ liveOf ⟨p.rule, p.shape, p.age, L, T, rs.map frP⟩ → ∃ c, c ∈ liveOf p ∧ c.1 = d.1 ∧ c.2.1 = d.2.1 := by
          intro d hd
          have := atL_mem nz' hd
          rw [cell] at this
          exact atL_ne this
        refine ⟨fun e c hc d hd => ?_, fun e c hc d hd => ?_⟩
        · obtain ⟨c', c1, c2, _⟩ := back c hc
          obtain ⟨d', d1, d2, _⟩ := back d hd
          have := al.rm.x e c' c1 d' d1
          omega
        · obtain ⟨c', c1, _, c2⟩ := back c hc
          obtain ⟨d', d1, _, d2⟩ := back d hd
          have := al.rm.y e c' c1 d' d1
          omega
      refine ⟨j', _, hj, rfl, rfl, rfl, ?_, al, ?_⟩
      · rw [loadE_same hp' noS noS_len noS_zero]
        exact hx'
      · exact alike_of al (alike_load hp' noS noS_len noS_zero hx') cell
  unfold saveT Sv.writeT
  rw [hG]
  by_cases hl : liveOf p = []
  · rw [if_pos (box_none (by have := al.same; rw [hl] at this; exact this))]
    have F := fin 0 0 [] (by omega) (by omega) (by simp) (by
      have e1 : ∀ v : Int, 1 ≤ (Lib.itoa v).length := by
        intro v
        unfold Lib.itoa
        split
        · simp
        · rw [Lib.decDigits]
          split
          · simp
          · simp
      have := e1 p.col
      have := e1 p.row
      have e0 : (Lib.itoa 0).length = 1 := itoa_dl 0 (by omega)
      rw [e0]
      simp [csum]
      omega) (fun X Y _ => by
      rw [hl]
      show rowsv [[]] _ _ = 0
      unfold rowsv
      split
      · rfl
      · have : ([[]] : List (List UInt8)).getD (Y - 0).toNat [] = [] := by
          cases (Y - 0).toNat with
          | zero => rfl
          | succ n => simp
        rw [this, rowv_nil])
    have e0 : Lib.itoa 0 = [48] := by
      unfold Lib.itoa
      rw [if_neg (by omega), Lib.decDigits, dif_pos (by decide)]
      rfl
    have et : Sv.headT p.rule p.shape p.age ++ [32] ++ (Sv.placeT 0 0 ++ [32]) ++ (wr [] ++ [33]) = Sv.headT p.rule p.shape p.age ++ [32, 48, 44, 48, 32, 33] := by
      unfold Sv.placeT
      rw [e0]
      simp [wr]
    rw [et] at F
    exact F
  · have hb := boxL_is hl
    rw [box_same al.same al.nz hl, if_neg (by simp)]
    have hsd : ∀ d, d ∈ liveOf p → (onSideB d.1 p.shape.w = true ∧ onSideB d.2.1 p.shape.h = true) ∧ (1 ≤ d.2.2 ∧ d.2.2 < p.rule.states) := fun d hd => ⟨(al.mem d hd).2, (al.mem d hd).1⟩
    have w12 := hp.shape.w12
    have h12 := hp.shape.h12
    have hGb : ∀ X Y, 0 ≤ atL (liveOf p) X Y ∧ atL (liveOf p) X Y < p.rule.states := by
      have : ∀ m : List Cl, (∀ d, d ∈ m → 1 ≤ d.2.2 ∧ d.2.2 < p.rule.states) → ∀ X Y, 0 ≤ atL m X Y ∧ atL m X Y < p.rule.states := by
        intro m
        induction m with
        | nil => intro _ X Y; have := hp.states.1; simp [atL]; omega
        | cons d m ih =>
          intro hm X Y
          unfold atL
          split
          · have := hm d (by simp); omega
          · exact ih (fun q hq => hm q (List.mem_cons_of_mem _ hq)) X Y
      exact this _ (fun d hd => (hsd d hd).2)
    have hmem : ∀ d, d ∈ liveOf p → atL (liveOf p) d.1 d.2.1 ≠ 0 := fun d hd => atL_mem al.nz hd
    have hmem2 : ∀ X Y, atL (liveOf p) X Y ≠ 0 → ∃ c, c ∈ liveOf p ∧ c.1 = X ∧ c.2.1 = Y := fun X Y h => atL_ne h
    have rx := al.rm.x
    have ry := al.rm.y
    have hrun := @saved_short p hp (atL (liveOf p)) rfl (fun X Y => by have := hGb X Y; omega)
    have hlv := fun X Y => live_rows hp X Y
    generalize boxL (liveOf p) = q at *
    obtain ⟨hin, ⟨ca, ca1, ca2⟩, ⟨cb, cb1, cb2⟩, ⟨cc, cc1, cc2⟩, ⟨cd, cd1, cd2⟩⟩ := hb
    generalize atL (liveOf p) = G at *
    simp only
    have ia := hin ca ca1
    have ib := hin cb cb1
    have ic := hin cc cc1
    have idd := hin cd cd1
    have o1 := (hsd ca ca1).1
    have o2 := (hsd cb cb1).1
    have o3 := (hsd cc cc1).1
    have o4 := (hsd cd cd1).1
    unfold onSideB at o1 o2 o3 o4
    simp only [decide_eq_true_iff] at o1 o2 o3 o4
    have bL : -9999 ≤ q.1 ∧ q.1 ≤ 9999 ∧ q.2.1 - q.1 < 64 := by
      by_cases e : p.shape.w = 0
      · have r1 := rx e ca ca1 ca ca1
        have r2 := rx e cb cb1 ca ca1
        omega
      · omega
    have bT : -9999 ≤ q.2.2.1 ∧ q.2.2.1 ≤ 9999 ∧ q.2.2.2 - q.2.2.1 < 64 := by
      by_cases e : p.shape.h = 0
      · have r1 := ry e cc cc1 cc cc1
        have r2 := ry e cd cd1 cc cc1
        omega
      · omega
    obtain ⟨n, hn⟩ : ∃ n, (q.2.1 - q.1 + 1).toNat = n := ⟨_, rfl⟩
    obtain ⟨k0, hk⟩ : ∃ k0 : Nat, (q.2.2.2 - q.2.2.1 + 1).toNat = k0 + 1 := ⟨(q.2.2.2 - q.2.2.1).toNat, by omega⟩
    rw [hn, hk]
    have hbox : ∀ X Y, G X Y ≠ 0 → (q.1 ≤ X ∧ X < q.1 + n) ∧ (q.2.2.1 ≤ Y ∧ Y < q.2.2.1 + ((k0 + 1 : Nat) : Int)) := by
      intro X Y h
      obtain ⟨c, c1, c2, c3⟩ := hmem2 X Y h
      have := hin c c1
      omega
    have hlast : xrow (fun x => G x (q.2.2.1 + k0)) q.1 n ≠ [] := by
      have e1 : ((cd.1 - q.1).toNat : Int) = cd.1 - q.1 := by omega
      refine xrow_ne _ _ _ (cd.1 - q.1).toNat (by omega) ?_
      rw [e1, show q.1 + (cd.1 - q.1) = cd.1 by omega, show q.2.2.1 + (k0 : Int) = cd.2.1 by omega]
      exact hmem cd cd1
    obtain ⟨rs, b1, b2, b3, b4⟩ := body_saved G q.1 q.2.2.1 p.rule.states c9 hGb n k0 (by omega) (by omega) hlast
    have hsh := hrun (L := q.1) (T := q.2.2.1) (by omega) (by omega) (n := n) (k := k0 + 1) (i1 := (ca.2.1 - q.2.2.1).toNat) hbox (by omega) (by
      have e1 : (((ca.2.1 - q.2.2.1).toNat : Nat) : Int) = ca.2.1 - q.2.2.1 := by omega
      rw [e1, show q.2.2.1 + (ca.2.1 - q.2.2.1) = ca.2.1 by omega, show q.1 = ca.1 by omega]
      exact hmem ca ca1) ⟨cc.1, by rw [show q.2.2.1 = cc.2.1 by omega]; exact hmem cc cc1⟩ ⟨cd.1, by rw [show q.2.2.1 + ((k0 + 1 : Nat) : Int) - 1 = cd.2.1 by omega]; exact hmem cd cd1⟩
    have cpr := cst_pr rs 0 0 b3 (Or.inl rfl)
    rw [b2] at cpr
    have crn := cst_runs (p.runs.map toP) 0 0 (fun r hr => by
      obtain ⟨r', hr', rfl⟩ := List.mem_map.1 hr
      have := hcnt r' hr'
      unfold toP
      simp only
      omega)
    have cs0 : cs 0 = 0 := rfl
    have F := fin q.1 q.2.2.1 rs (by omega) (by omega) b4 (by
      unfold ex at hsh
      omega) (fun X Y _ => by
      rw [b2]
      exact saved_rows G (fun x y => by have := hGb x y; omega) q.1 q.2.2.1 n (k0 + 1) (by omega) hbox X Y)
    rw [b1]
    have et : Sv.headT p.rule p.shape p.age ++ [32] ++ (Sv.placeT q.1 q.2.2.1 ++ [32]) ++ (wr rs ++ [33]) = Sv.headT p.rule p.shape p.age ++ [32] ++ Sv.placeT q.1 q.2.2.1 ++ [32] ++ wr rs ++ [33] := by
      simp only [List.append_assoc]
    rw [et] at F
    exact F
end Go.Proofs.YtbdbkjngdhcjpaaDoor
