/- The document's reading of an index, and the program's: one and the same (plain words). -/
import Derived.Test.YtpfjcdfhlcnlcaaIdxC
import Derived.Test.YtpfjcdfhlcnlcaaIdxI
namespace Go.Proofs.Ytpfjcdfhlcnlcaa
set_option linter.unusedVariables false
set_option linter.unusedSimpArgs false

theorem xNum_sound (s : Sx) (h : (xNum s).2.bad = false) : s.bad = false ∧ s.rest = vb (xNum s).1 ++ (xNum s).2.rest := by
  unfold xNum at h ⊢
  split at h
  · cases h
  · rename_i hn
    rw [if_neg hn]
    refine ⟨by cases e : s.bad with | false => rfl | true => exact absurd (.inl e) hn, ?_⟩
    have h0 : (uv s.rest 0 0).2 ≠ 0 := fun e => hn (.inr (.inl e))
    obtain ⟨x, e, ht, _⟩ := uv_sound s.rest 0 0 (by omega) (by simp) h0
    rw [e]
    simp only [Nat.pow_zero, Nat.mul_one, Nat.zero_add]
    rw [vb_var]
    conv => lhs; rw [← List.take_append_drop (varB x).length s.rest, ht]
theorem xTxt_sound (s : Sx) (h : (xTxt s).2.bad = false) : s.bad = false ∧ s.rest = txB (xTxt s).1 ++ (xTxt s).2.rest := by
  unfold xTxt at h ⊢
  split at h
  · cases h
  · rename_i hn
    rw [if_neg hn]
    have hb : (xNum s).2.bad = false := by cases e : (xNum s).2.bad with | false => rfl | true => exact absurd (.inl e) hn
    have hl : (xNum s).1 ≤ (xNum s).2.rest.length := by
      rcases Nat.lt_or_ge (xNum s).2.rest.length (xNum s).1 with h9 | h9
      · exact absurd (.inr h9) hn
      · exact h9
    obtain ⟨h1, h2⟩ := xNum_sound s hb
    refine ⟨h1, ?_⟩
    unfold txB
    simp only [List.length_take, Nat.min_eq_left hl]
    rw [List.append_assoc, List.take_append_drop]
    exact h2
theorem xPk_sound : ∀ (c : Nat) (s : Sx) (ns : List (List UInt8)), (xPk c s ns).2.bad = false → ∃ Q, (xPk c s ns).1 = ns ++ Q ∧ Q.length = c ∧ s.bad = false ∧ s.rest = (Q.map txB).flatten ++ (xPk c s ns).2.rest
  | 0, s, ns, h => ⟨[], by simp [xPk], rfl, h, by simp [xPk]⟩
  | c + 1, s, ns, h => by
    rw [xPk] at h ⊢
    by_cases hb : s.bad = true
    · rw [if_pos hb] at h; simp only at h; rw [h] at hb; cases hb
    · rw [if_neg hb] at h ⊢
      obtain ⟨Q, h1, h2, h3, h4⟩ := xPk_sound c _ _ h
      obtain ⟨h5, h6⟩ := xTxt_sound s h3
      refine ⟨(xTxt s).1 :: Q, by rw [h1]; simp, by simp [h2], h5, ?_⟩
      rw [h6]
      conv => lhs; rw [h4]
      simp
theorem xRest_sound (s : Sx) (h : (xRest s).2.bad = false) : s.bad = false ∧ s.rest = vb (xRest s).1.1 ++ (vb (xRest s).1.2.1 ++ (vb (xRest s).1.2.2.1 ++ (vb (xRest s).1.2.2.2.1 ++ (vb (xRest s).1.2.2.2.2 ++ (xRest s).2.rest)))) := by
  unfold xRest at h ⊢
  simp only at h ⊢
  obtain ⟨a5, b5⟩ := xNum_sound _ h
  obtain ⟨a4, b4⟩ := xNum_sound _ a5
  obtain ⟨a3, b3⟩ := xNum_sound _ a4
  obtain ⟨a2, b2⟩ := xNum_sound _ a3
  obtain ⟨a1, b1⟩ := xNum_sound _ a2
  exact ⟨a1, by rw [← b5, ← b4, ← b3, ← b2, ← b1]⟩
/-- Is the last name not below this one? -/
def notUp (P : List Pl) (X : List UInt8) : Bool := match P.getLast? with | none => false | some p => !decide (p.h.n < X)
def rCh : Nat → Sx → List (List UInt8) → List Pl → Option (List Pl × Sx)
  | 0, s, ns, P => some (P, s)
  | c + 1, s, ns, P => if s.bad = true then some (P, s)
    else if (xRest (xHd s).2.2).2.bad = true then none
    else if ns.length ≤ (xHd s).2.1 ∨ isNm (xHd s).1 = false ∨ notUp P (xHd s).1 = true then none
    else rCh c (xRest (xHd s).2.2).2 ns (P ++ [⟨ns.getD (xHd s).2.1 [], hdX (xHd s).1 (xRest (xHd s).2.2).1⟩])
def asl (P : List Pl) : As Pl := P.map fun p => (p.h.n, p)
/-- Names that rise. -/
def Ris (P : List Pl) : Prop := P.Pairwise fun a b => a.h.n < b.h.n
theorem Ris.snoc {P : List Pl} {p : Pl} (h : Ris P) (hn : notUp P p.h.n = false) : Ris (P ++ [p]) := by
  unfold Ris at *
  rw [List.pairwise_append]
  refine ⟨h, by simp, fun a ha b hb => ?_⟩
  rw [List.mem_singleton] at hb
  subst hb
  unfold notUp at hn
  cases hl : P.getLast? with
  | none => rw [List.getLast?_eq_none_iff] at hl; subst hl; cases ha
  | some q =>
    rw [hl] at hn
    simp at hn
    obtain ⟨P', rfl⟩ : ∃ P', P = P' ++ [q] := by
      rw [List.getLast?_eq_some_iff] at hl
      exact hl
    rcases List.mem_append.1 ha with ha | ha
    · exact List.lt_trans ((List.pairwise_append.1 h).2.2 a ha q (by simp)) hn
    · rw [List.mem_singleton] at ha; rw [ha]; exact hn
theorem Ris.kd {P : List Pl} (h : Ris P) : KdA (asl P) := by
  unfold KdA asl
  rw [List.map_map, List.Nodup, List.pairwise_map]
  exact h.imp (fun hab e => by simp only [Function.comp] at e; rw [e] at hab; exact List.lt_irrefl _ hab)
theorem Ris.new {P : List Pl} {p : Pl} (h : Ris (P ++ [p])) : lkA (asl P) p.h.n = none := by
  rw [lkA_none]
  intro hm
  unfold asl at hm
  rw [List.map_map] at hm
  obtain ⟨a, ha, e⟩ := List.mem_map.1 hm
  have := (List.pairwise_append.1 h).2.2 a ha p (by simp)
  simp only [Function.comp] at e
  rw [e] at this
  exact List.lt_irrefl _ this
theorem asl_snoc (P : List Pl) (p : Pl) : asl (P ++ [p]) = asl P ++ [(p.h.n, p)] := by simp [asl]
/-- An entry as bytes. -/
def enP (ns : List (List UInt8)) (p : Pl) : List UInt8 := txB p.h.n ++ vb ((lkA (pkA ns) p.k).getD 0).toNat ++ vb p.h.m.toNat ++ vb p.h.c.toNat ++ vb p.h.p.toNat ++ vb p.h.s.toNat ++ vb p.h.a.toNat
theorem rCh_sound (ns : List (List UInt8)) (hnd : ns.Nodup) : ∀ (c : Nat) (s : Sx) (P0 P : List Pl) (s' : Sx), Ris P0 → rCh c s ns P0 = some (P, s') → s'.bad = false →
    xCh c s ns (asl P0) = (asl P, s') ∧ Ris P ∧ ∃ Q, P = P0 ++ Q ∧ Q.length = c ∧ s.bad = false ∧ s.rest = (Q.map (enP ns)).flatten ++ s'.rest
  | 0, s, P0, P, s', hr, h, hb => by
    rw [rCh] at h; cases h
    exact ⟨rfl, hr, [], by simp, rfl, hb, by simp⟩
  | c + 1, s, P0, P, s', hr, h, hb => by
    rw [rCh] at h
    by_cases hs : s.bad = true
    · rw [if_pos hs] at h; cases h; rw [hb] at hs; cases hs
    · rw [if_neg hs] at h
      by_cases h8 : (xRest (xHd s).2.2).2.bad = true
      · rw [if_pos h8] at h; cases h
      · rw [if_neg h8] at h
        have h8' : (xRest (xHd s).2.2).2.bad = false := by cases e : (xRest (xHd s).2.2).2.bad with | false => rfl | true => exact absurd e h8
        by_cases hc : ns.length ≤ (xHd s).2.1 ∨ isNm (xHd s).1 = false ∨ notUp P0 (xHd s).1 = true
        · rw [if_pos hc] at h; cases h
        · rw [if_neg hc] at h
          have k1 : ¬ (ns.length ≤ (xHd s).2.1) := fun e => hc (.inl e)
          have k2 : isNm (xHd s).1 = true := by cases e : isNm (xHd s).1 with | true => rfl | false => exact absurd (.inr (.inl e)) hc
          have k3 : notUp P0 (xHd s).1 = false := by cases e : notUp P0 (xHd s).1 with | false => rfl | true => exact absurd (.inr (.inr e)) hc
          obtain ⟨p, hp⟩ : ∃ p : Pl, p = ⟨ns.getD (xHd s).2.1 [], hdX (xHd s).1 (xRest (xHd s).2.2).1⟩ := ⟨_, rfl⟩
          rw [← hp] at h
          have hpn : p.h.n = (xHd s).1 := by rw [hp]; rfl
          have hr2 : Ris (P0 ++ [p]) := hr.snoc (by rw [hpn]; exact k3)
          obtain ⟨r1, r2, Q, r3, r4, r5, r6⟩ := rCh_sound ns hnd c _ _ P s' hr2 h hb
          obtain ⟨t1, t2⟩ := xRest_sound _ h8'
          obtain ⟨t3, t4⟩ := xNum_sound _ t1
          obtain ⟨t5, t6⟩ := xTxt_sound _ t3
          refine ⟨?_, r2, p :: Q, by rw [r3]; simp, by simp [r4], t5, ?_⟩
          · rw [xCh, if_neg hs, if_neg (by rw [k2]; simp; omega), ← hp]
            rw [← r1, asl_snoc]
            rw [show adA (asl P0) (xHd s).1 p = asl P0 ++ [(p.h.n, p)] by rw [← hpn]; exact adA_none hr2.new p]
          · have hk : (lkA (pkA ns) p.k).getD 0 = ((xHd s).2.1 : Int) := by
              have : ns[(xHd s).2.1]? = some p.k := by
                rw [hp]; simp only; rw [List.getD_eq_getElem?_getD, List.getElem?_eq_getElem (by omega)]; rfl
              rw [pkA_get hnd this]; rfl
            have e1 : enP ns p = txB (xHd s).1 ++ (vb (xHd s).2.1 ++ (vb (xRest (xHd s).2.2).1.1 ++ (vb (xRest (xHd s).2.2).1.2.1 ++ (vb (xRest (xHd s).2.2).1.2.2.1 ++ (vb (xRest (xHd s).2.2).1.2.2.2.1 ++ vb (xRest (xHd s).2.2).1.2.2.2.2))))) := by
              unfold enP
              rw [hk, hpn, hp]
              simp [hdX]
            rw [List.map_cons, List.flatten_cons, e1, t6]
            show txB (xTxt s).1 ++ (xTxt s).2.rest = _
            rw [t4]
            show _ ++ (vb (xNum (xTxt s).2).1 ++ (xHd s).2.2.rest) = _
            rw [t2, r6]
            show txB (xHd s).1 ++ (vb (xHd s).2.1 ++ _) = _
            simp only [List.append_assoc]
/-- The document's reading. -/
def RRead (l : List UInt8) : Option (List (List UInt8) × List Pl) :=
  match rCh (xNum (xPk (xNum ⟨l, false⟩).1 (xNum ⟨l, false⟩).2 []).2).1 (xNum (xPk (xNum ⟨l, false⟩).1 (xNum ⟨l, false⟩).2 []).2).2 (xPk (xNum ⟨l, false⟩).1 (xNum ⟨l, false⟩).2 []).1 [] with
  | some (P, s) => if s.bad = false ∧ s.rest = [] ∧ (xPk (xNum ⟨l, false⟩).1 (xNum ⟨l, false⟩).2 []).1.Nodup then some ((xPk (xNum ⟨l, false⟩).1 (xNum ⟨l, false⟩).2 []).1, P) else none
  | none => none
theorem asl_nm {P : List Pl} (h : Ris P) : nmA (asl P) = P.map (fun p => p.h.n) := by
  refine sorted_perm_eq (nmA_sorted _) ?_ ((nmA_perm _).trans ?_)
  · rw [List.pairwise_map]
    exact h.imp (fun hab => by simp only [decide_eq_true_eq]; exact List.le_of_lt hab)
  · unfold asl; rw [List.map_map]; exact List.Perm.refl _
theorem asl_lk {P : List Pl} (h : Ris P) {p : Pl} (hp : p ∈ P) : lkA (asl P) p.h.n = some p := lkA_of_mem h.kd (List.mem_map.2 ⟨p, hp, rfl⟩)
theorem asl_pls {P : List Pl} (h : Ris P) : plsI (asl P) = P := by
  unfold plsI
  rw [asl_nm h, List.map_map]
  conv => rhs; rw [← List.map_id P]
  exact List.map_congr_left fun p hp => by simp [asl_lk h hp]
theorem asl_enc (ns : List (List UInt8)) {P : List Pl} (h : Ris P) : ((nmA (asl P)).map (enB ns (asl P))) = P.map (enP ns) := by
  rw [asl_nm h, List.map_map]
  exact List.map_congr_left fun p hp => by
    simp only [Function.comp, enB, asl_lk h hp, Option.getD_some]
    rfl
/-- What the document reads the program reads. -/
theorem read_dec {l : List UInt8} {ns : List (List UInt8)} {P : List Pl} (h : RRead l = some (ns, P)) : DecOk l ∧ adPs (xIdx l).1 = ns ∧ plsI (xIdx l).2.1 = P := by
  unfold RRead at h
  split at h
  · rename_i P' s' hr
    split at h
    · rename_i hc
      obtain ⟨hb, hrest, hnd⟩ := hc
      cases h
      obtain ⟨h1, h2, Q, h3, h4, h5, h6⟩ := rCh_sound _ hnd _ _ [] P s' List.Pairwise.nil hr hb
      obtain ⟨h7, h8⟩ := xNum_sound _ h5
      obtain ⟨Q2, h9, h10, h11, h12⟩ := xPk_sound _ _ _ h7
      obtain ⟨h13, h14⟩ := xNum_sound _ h11
      rw [List.nil_append] at h3 h9
      subst h3
      have hidx : xIdx l = ((xPk (xNum ⟨l, false⟩).1 (xNum ⟨l, false⟩).2 []).1, asl P, s') := by
        unfold xIdx
        simp only
        rw [show ([] : As Pl) = asl [] from rfl, h1]
      have hads := adPs_nodup hnd
      refine ⟨⟨by rw [hidx]; exact hb, ?_⟩, by rw [hidx]; exact hads, by rw [hidx]; exact asl_pls h2⟩
      rw [hidx]
      show encI (adPs (xPk (xNum ⟨l, false⟩).1 (xNum ⟨l, false⟩).2 []).1) (asl P) = l
      rw [hads]
      unfold encI
      rw [asl_enc _ h2, show (asl P).length = P.length by simp [asl]]
      have e1 : l = vb (xNum ⟨l, false⟩).1 ++ (xNum ⟨l, false⟩).2.rest := h14
      conv => rhs; rw [e1, h12, h8, h6, hrest]
      rw [h9, h10, h4]
      simp only [List.append_assoc, List.append_nil]
    · cases h
  · cases h
theorem xPk_nx (L : Nat) : ∀ (c : Nat) (s : Sx) (ns : List (List UInt8)), s.rest.length ≤ L → (∀ x ∈ ns, x.length ≤ L) → ∀ x ∈ (xPk c s ns).1, x.length ≤ L
  | 0, s, ns, h, hn => hn
  | c + 1, s, ns, h, hn => by
    rw [xPk]
    split
    · exact hn
    · have ht := xTxt_le s
      refine xPk_nx L c _ _ (by omega) (fun x hx => ?_)
      rcases List.mem_append.1 hx with hx | hx
      · exact hn x hx
      · rw [List.mem_singleton] at hx; rw [hx]; omega
theorem rCh_enc (ps : List (List UInt8)) (hnd : ps.Nodup) (hpl : ps.length < 4294967296) (F : As Pl) (hF : ∀ x p, lkA F x = some p → p.k ∈ ps ∧ hdOkX p.h ∧ p.h.n = x ∧ isNm x = true) :
    ∀ (xs : List (List UInt8)) (P0 : List Pl) (R : List UInt8), (∀ x ∈ xs, (lkA F x).isSome = true) → Ris (P0 ++ xs.map (fun x => (lkA F x).getD plZ)) → rCh xs.length ⟨(xs.map (enB ps F)).flatten ++ R, false⟩ ps P0 = some (P0 ++ xs.map (fun x => (lkA F x).getD plZ), ⟨R, false⟩)
  | [], P0, R, _, _ => by simp [rCh]
  | x :: xs, P0, R, h, hr => by
    obtain ⟨p, hp⟩ := Option.isSome_iff_exists.1 (h x (by simp))
    obtain ⟨h1, ⟨⟨q1, q2⟩, ⟨q3, q4⟩, ⟨q5, q6⟩, ⟨q7, q8⟩, ⟨q9, q10⟩⟩, h3, h4⟩ := hF x p hp
    obtain ⟨i, hi⟩ := List.getElem?_of_mem h1
    have hil := (List.getElem?_eq_some_iff.1 hi).1
    have hx64 : x.length = 64 := isNm_len h4
    have e : enB ps F x = txB x ++ (vb i ++ (vb p.h.m.toNat ++ (vb p.h.c.toNat ++ (vb p.h.p.toNat ++ (vb p.h.s.toNat ++ vb p.h.a.toNat))))) := by
      unfold enB
      rw [hp]
      simp only [Option.getD_some]
      rw [pkA_get hnd hi]
      simp
    have r1 : xHd ⟨enB ps F x ++ ((xs.map (enB ps F)).flatten ++ R), false⟩ = (x, i, ⟨vb p.h.m.toNat ++ (vb p.h.c.toNat ++ (vb p.h.p.toNat ++ (vb p.h.s.toNat ++ (vb p.h.a.toNat ++ ((xs.map (enB ps F)).flatten ++ R))))), false⟩) := by
      unfold xHd
      rw [e]
      simp only [List.append_assoc]
      rw [xTxt_tx x _ (by omega)]
      simp only
      rw [xNum_vb i _ (by omega)]
    have hup : notUp P0 x = false := by
      unfold notUp
      cases hl : P0.getLast? with
      | none => rfl
      | some q =>
        obtain ⟨P', rfl⟩ : ∃ P', P0 = P' ++ [q] := by rw [List.getLast?_eq_some_iff] at hl; exact hl
        have hlt := (List.pairwise_append.1 hr).2.2 q (by simp) p (by rw [List.map_cons, hp]; simp)
        rw [h3] at hlt
        simp [hlt]
    rw [List.length_cons, List.map_cons, List.flatten_cons, List.append_assoc, rCh, if_neg (by simp), r1]
    simp only
    rw [xRest_enc _ _ _ _ _ _ (by omega) (by omega) (by omega) (by omega) (by omega)]
    simp only
    rw [if_neg (by simp), if_neg (by rw [h4, hup]; simp; omega)]
    have e2 : ps.getD i [] = p.k := by rw [List.getD_eq_getElem?_getD, hi]; rfl
    have e3 : hdX x (p.h.m.toNat, p.h.c.toNat, p.h.p.toNat, p.h.s.toNat, p.h.a.toNat) = p.h := by
      unfold hdX
      rw [← h3]
      obtain ⟨k, n, m, c, pp, z, a⟩ := p
      simp only at q1 q3 q5 q7 q9 ⊢
      congr 1 <;> omega
    have e4 : (lkA F x).getD plZ = p := by rw [hp]; rfl
    rw [List.map_cons, e4] at hr
    rw [e2, e3, rCh_enc ps hnd hpl F hF xs _ R (fun y hy => h y (by simp [hy])) (by rw [List.append_assoc]; exact hr), List.map_cons, e4]
    simp
theorem nmA_ris {F : As Pl} (hk : KdA F) (hF : ∀ x p, lkA F x = some p → p.h.n = x) : Ris (plsI F) := by
  unfold Ris plsI
  rw [List.pairwise_map]
  have h1 := nmA_sorted F
  have h2 : (nmA F).Nodup := (nmA_perm F).nodup_iff.2 hk
  have h3 := h1.and h2
  refine List.Pairwise.imp_of_mem ?_ h3
  intro a b ha hb hab
  obtain ⟨pa, hpa⟩ := Option.isSome_iff_exists.1 (nmA_mem.1 ha)
  obtain ⟨pb, hpb⟩ := Option.isSome_iff_exists.1 (nmA_mem.1 hb)
  rw [hpa, hpb]
  simp only [Option.getD_some]
  rw [hF a pa hpa, hF b pb hpb]
  simp only [decide_eq_true_eq] at hab
  exact Decidable.byContradiction fun h9 => hab.2 (List.le_antisymm hab.1 (List.not_lt.1 h9))
/-- What the program reads the document reads. -/
theorem dec_read {l : List UInt8} (hl : l.length ≤ 9000) (h : DecOk l) : RRead l = some (adPs (xIdx l).1, plsI (xIdx l).2.1) := by
  obtain ⟨h1, h2⟩ := h
  obtain ⟨⟨hkd, hF⟩, h3, h4⟩ := xIdx_ok l
  have hnx : ∀ x ∈ (xIdx l).1, x.length ≤ l.length := xPk_nx l.length _ _ [] (by have := (xNum_le ⟨l, false⟩).1; exact this) (fun x hx => by cases hx)
  have hadl := adPs_len (xIdx l).1
  have hnd : (adPs (xIdx l).1).Nodup := by
    unfold adPs
    have : ∀ (ns ps : List (List UInt8)), ps.Nodup → (ns.foldl adP ps).Nodup := by
      intro ns
      induction ns with
      | nil => intro ps h; exact h
      | cons a r ih =>
        intro ps h
        refine ih _ ?_
        unfold adP
        split
        · exact h
        · rename_i ha
          rw [List.nodup_append]
          refine ⟨h, by simp, fun x hx y hy e => ?_⟩
          rw [List.mem_singleton] at hy
          exact ha (by rw [← hy, ← e]; exact hx)
    exact this _ _ List.nodup_nil
  generalize hR : xIdx l = R at *
  obtain ⟨ns, F, s⟩ := R
  dsimp only at *
  have hF2 : ∀ x p, lkA F x = some p → p.k ∈ adPs ns ∧ hdOkX p.h ∧ p.h.n = x ∧ isNm x = true := fun x p hp => by
    obtain ⟨a, b, c, d⟩ := hF x p hp
    exact ⟨adPs_mem.2 b, a, c, d⟩
  have hpl : (adPs ns).length < 4294967296 := by omega
  have g1 : xNum ⟨l, false⟩ = ((adPs ns).length, ⟨((adPs ns).map txB).flatten ++ (vb F.length ++ (((nmA F).map (enB (adPs ns) F)).flatten ++ [])), false⟩) := by
    rw [← h2]
    unfold encI
    rw [show vb (adPs ns).length ++ ((adPs ns).map txB).flatten ++ vb F.length ++ ((nmA F).map (enB (adPs ns) F)).flatten = vb (adPs ns).length ++ (((adPs ns).map txB).flatten ++ (vb F.length ++ (((nmA F).map (enB (adPs ns) F)).flatten ++ []))) by simp]
    exact xNum_vb _ _ hpl
  have g2 := xPk_enc (adPs ns) [] (vb F.length ++ (((nmA F).map (enB (adPs ns) F)).flatten ++ [])) (fun p hp => by have := hnx p (adPs_mem.1 hp); omega)
  have g3 := xNum_vb F.length (((nmA F).map (enB (adPs ns) F)).flatten ++ []) (by omega)
  have g4 := rCh_enc (adPs ns) hnd hpl F hF2 (nmA F) [] [] (fun x hx => nmA_mem.1 hx) (nmA_ris hkd (fun x p hp => (hF2 x p hp).2.2.1))
  rw [nmA_len] at g4
  unfold RRead
  simp only [g1, g2, List.nil_append, g3, g4]
  rw [if_pos ⟨trivial, trivial, hnd⟩]
  rfl
end Go.Proofs.Ytpfjcdfhlcnlcaa
