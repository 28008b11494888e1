/- The reading of an index, in plain words. -/
import Derived.Test.YtecpapifkbfblaaDoorIdxM
import Derived.Test.YtecpapifkbfblaaDoorHexM
namespace Go.Proofs.YtecpapifkbfblaaDoor
set_option linter.unusedVariables false
set_option linter.unusedSimpArgs false

/-- Is it the name of a chunk? -/
def isNm (l : List UInt8) : Bool := decide (l.length = 64) && (unhex l).isSome
/-- A reader: what is left, and whether it has failed. -/
structure Sx where
  rest : List UInt8
  bad : Bool
def xNum (s : Sx) : Nat × Sx :=
  if s.bad = true ∨ (uv s.rest 0 0).2 = 0 ∨ 4294967296 ≤ (uv s.rest 0 0).1 then (0, ⟨s.rest, true⟩)
  else ((uv s.rest 0 0).1, ⟨s.rest.drop (uv s.rest 0 0).2, false⟩)
def xTxt (s : Sx) : List UInt8 × Sx :=
  if (xNum s).2.bad = true ∨ (xNum s).2.rest.length < (xNum s).1 then ([], ⟨(xNum s).2.rest, true⟩)
  else ((xNum s).2.rest.take (xNum s).1, ⟨(xNum s).2.rest.drop (xNum s).1, false⟩)
def xPk : Nat → Sx → List (List UInt8) → List (List UInt8) × Sx
  | 0, s, ns => (ns, s)
  | c + 1, s, ns => if s.bad = true then (ns, s) else xPk c (xTxt s).2 (ns ++ [(xTxt s).1])
/-- A head, and what is left. -/
def xHd (s : Sx) : List UInt8 × Nat × Sx := ((xTxt s).1, (xNum (xTxt s).2).1, (xNum (xTxt s).2).2)
def xRest (s : Sx) : (Nat × Nat × Nat × Nat × Nat) × Sx :=
  let m := xNum s; let c := xNum m.2; let p := xNum c.2; let z := xNum p.2; let a := xNum z.2
  ((m.1, c.1, p.1, z.1, a.1), a.2)
def hdX (n : List UInt8) (v : Nat × Nat × Nat × Nat × Nat) : Hd := ⟨n, v.1, v.2.1, v.2.2.1, v.2.2.2.1, v.2.2.2.2⟩
def xCh : Nat → Sx → List (List UInt8) → As Pl → As Pl × Sx
  | 0, s, ns, F => (F, s)
  | c + 1, s, ns, F => if s.bad = true then (F, s)
    else if isNm (xHd s).1 = false ∨ ns.length ≤ (xHd s).2.1 then (F, ⟨(xHd s).2.2.rest, true⟩)
    else xCh c (xRest (xHd s).2.2).2 ns (adA F (xHd s).1 ⟨ns.getD (xHd s).2.1 [], hdX (xHd s).1 (xRest (xHd s).2.2).1⟩)
/-- An index of bytes: the packs' names as they stand, the chunks, the reader at the end. -/
def xIdx (l : List UInt8) : List (List UInt8) × As Pl × Sx :=
  let n := xNum ⟨l, false⟩
  let p := xPk n.1 n.2 []
  let m := xNum p.2
  let r := xCh m.1 m.2 p.1 []
  (p.1, r.1, r.2)
def adPs (ns : List (List UInt8)) : List (List UInt8) := ns.foldl adP []
theorem adPs_snoc (ns : List (List UInt8)) (x : List UInt8) : adPs (ns ++ [x]) = adP (adPs ns) x := by simp [adPs]
theorem foldl_adP_mem (ns : List (List UInt8)) : ∀ (ps : List (List UInt8)) (x : List UInt8), x ∈ ns.foldl adP ps ↔ x ∈ ps ∨ x ∈ ns := by
  induction ns with
  | nil => intro ps x; simp
  | cons a l ih =>
    intro ps x
    rw [List.foldl_cons, ih]
    by_cases h : a ∈ ps
    · rw [adP_in h]; simp only [List.mem_cons]
      constructor
      · rintro (h1 | h1)
        · exact .inl h1
        · exact .inr (.inr h1)
      · rintro (h1 | rfl | h1)
        · exact .inl h1
        · exact .inl h
        · exact .inr h1
    · rw [adP_new h]; simp only [List.mem_append, List.mem_cons, List.not_mem_nil, or_false]
      constructor
      · rintro ((h1 | rfl) | h1)
        · exact .inl h1
        · exact .inr (.inl rfl)
        · exact .inr (.inr h1)
      · rintro (h1 | rfl | h1)
        · exact .inl (.inl h1)
        · exact .inl (.inr rfl)
        · exact .inr h1
theorem adPs_mem {ns : List (List UInt8)} {x : List UInt8} : x ∈ adPs ns ↔ x ∈ ns := by unfold adPs; rw [foldl_adP_mem]; simp
theorem adPs_len (ns : List (List UInt8)) : (adPs ns).length ≤ ns.length := by
  unfold adPs
  have : ∀ (ns ps : List (List UInt8)), (ns.foldl adP ps).length ≤ ps.length + ns.length := by
    intro ns
    induction ns with
    | nil => intro ps; simp
    | cons a l ih =>
      intro ps
      rw [List.foldl_cons]
      have h1 := ih (adP ps a)
      have h2 : (adP ps a).length ≤ ps.length + 1 := by unfold adP; split <;> simp
      simp only [List.length_cons]; omega
  simpa using this ns []
theorem adPs_nodup {ns : List (List UInt8)} (h : ns.Nodup) : adPs ns = ns := by
  unfold adPs
  have : ∀ (ns ps : List (List UInt8)), (ps ++ ns).Nodup → ns.foldl adP ps = ps ++ ns := by
    intro ns
    induction ns with
    | nil => intro ps _; simp
    | cons a l ih =>
      intro ps hn
      have ha : a ∉ ps := fun hm => by
        rw [List.nodup_append] at hn
        exact hn.2.2 a hm a (by simp) rfl
      rw [List.foldl_cons, adP_new ha, ih (ps ++ [a]) (by simpa using hn)]
      simp
  simpa using this ns [] (by simpa using h)
theorem xNum_lt (s : Sx) : (xNum s).1 < 4294967296 := by
  unfold xNum; split
  · show 0 < 4294967296; decide
  · rename_i h; simp only; omega
theorem xNum_le (s : Sx) : (xNum s).2.rest.length ≤ s.rest.length ∧ ((xNum s).2.bad = false → s.bad = false ∧ (xNum s).2.rest.length + 1 ≤ s.rest.length) := by
  unfold xNum
  split
  · exact ⟨Nat.le_refl _, fun h => by cases h⟩
  · rename_i h
    have hu := uv_lt s.rest 0 0 (by omega) (by simp)
    refine ⟨by simp, fun _ => ⟨by cases hb : s.bad <;> simp_all, ?_⟩⟩
    simp only [List.length_drop]; omega
theorem xTxt_le (s : Sx) : (xTxt s).2.rest.length ≤ s.rest.length ∧ (xTxt s).1.length ≤ s.rest.length ∧ ((xTxt s).2.bad = false → (xTxt s).2.rest.length + 1 ≤ s.rest.length) := by
  have h := xNum_le s
  unfold xTxt
  split
  · exact ⟨h.1, by simp, fun h => by cases h⟩
  · rename_i hn
    have hb : (xNum s).2.bad = false := by cases hb : (xNum s).2.bad <;> simp_all
    have := (h.2 hb).2
    refine ⟨by simp only [List.length_drop]; omega, by simp only [List.length_take]; omega, fun _ => by simp only [List.length_drop]; omega⟩
/-- What was written is read. -/
theorem vb_var (x : Nat) : vb x = varB x := rfl
theorem xNum_vb (x : Nat) (R : List UInt8) (h : x < 4294967296) : xNum ⟨vb x ++ R, false⟩ = (x, ⟨R, false⟩) := by
  have hu := uv_var x R (by omega)
  rw [← vb_var] at hu
  have hl : 1 ≤ (vb x).length := by unfold vb; rw [List.length_map]; exact varN_pos x
  unfold xNum
  simp only
  rw [hu]
  simp only
  rw [if_neg (by
    rintro (h1 | h1 | h1)
    · cases h1
    · omega
    · omega)]
  simp
theorem xTxt_tx (a R : List UInt8) (h : a.length < 4294967296) : xTxt ⟨txB a ++ R, false⟩ = (a, ⟨R, false⟩) := by
  unfold xTxt txB
  rw [List.append_assoc, xNum_vb _ _ h]
  simp
theorem xPk_enc : ∀ (ps ns : List (List UInt8)) (R : List UInt8), (∀ p ∈ ps, p.length < 4294967296) → xPk ps.length ⟨(ps.map txB).flatten ++ R, false⟩ ns = (ns ++ ps, ⟨R, false⟩)
  | [], ns, R, _ => by simp [xPk]
  | p :: ps, ns, R, h => by
    rw [List.length_cons, xPk, if_neg (by simp), List.map_cons, List.flatten_cons, List.append_assoc, xTxt_tx p _ (h p (by simp)), xPk_enc ps (ns ++ [p]) R (fun q hq => h q (by simp [hq]))]
    simp
def hdOkX (h : Hd) : Prop := (0 ≤ h.m ∧ h.m ≤ 4294967295) ∧ (0 ≤ h.c ∧ h.c ≤ 4294967295) ∧ (0 ≤ h.p ∧ h.p ≤ 4294967295) ∧ (0 ≤ h.s ∧ h.s ≤ 4294967295) ∧ (0 ≤ h.a ∧ h.a ≤ 4294967295)
theorem xRest_enc (m c p z a : Nat) (R : List UInt8) (hm : m < 4294967296) (hc : c < 4294967296) (hp : p < 4294967296) (hz : z < 4294967296) (ha : a < 4294967296) :
    xRest ⟨vb m ++ (vb c ++ (vb p ++ (vb z ++ (vb a ++ R)))), false⟩ = ((m, c, p, z, a), ⟨R, false⟩) := by
  unfold xRest
  simp only [xNum_vb _ _ hm, xNum_vb _ _ hc, xNum_vb _ _ hp, xNum_vb _ _ hz, xNum_vb _ _ ha]
/-- The chunks that these names have, one after another. -/
def adN (F : As Pl) (G : As Pl) (xs : List (List UInt8)) : As Pl := xs.foldl (fun G x => adA G x ((lkA F x).getD plZ)) G
theorem xCh_enc (ps : List (List UInt8)) (hnd : ps.Nodup) (hpl : ps.length < 4294967296) (F : As Pl) (hF : ∀ x p, lkA F x = some p → p.k ∈ ps ∧ hdOkX p.h ∧ p.h.n = x ∧ isNm x = true) :
    ∀ (xs : List (List UInt8)) (G : As Pl) (R : List UInt8), (∀ x ∈ xs, (lkA F x).isSome = true) → xCh xs.length ⟨(xs.map (enB ps F)).flatten ++ R, false⟩ ps G = (adN F G xs, ⟨R, false⟩)
  | [], G, R, _ => by simp [xCh, adN]
  | x :: xs, G, R, h => by
    obtain ⟨p, hp⟩ := Option.isSome_iff_exists.1 (h x (by simp))
    obtain ⟨h1, ⟨⟨q1, q2⟩, ⟨q3, q4⟩, ⟨q5, q6⟩, ⟨q7, q8⟩, ⟨q9, q10⟩⟩, h3, h4⟩ := hF x p hp
    obtain ⟨i, hi⟩ := List.getElem?_of_mem h1
    have hil := (List.getElem?_eq_some_iff.1 hi).1
    have hx64 : x.length = 64 := by unfold isNm at h4; simp at h4; exact h4.1
    have e : enB ps F x = txB x ++ (vb i ++ (vb p.h.m.toNat ++ (vb p.h.c.toNat ++ (vb p.h.p.toNat ++ (vb p.h.s.toNat ++ vb p.h.a.toNat))))) := by
      unfold enB
      rw [hp]
      simp only [Option.getD_some]
      rw [pkA_get hnd hi]
      simp
    have r1 : xHd ⟨enB ps F x ++ ((xs.map (enB ps F)).flatten ++ R), false⟩ = (x, i, ⟨vb p.h.m.toNat ++ (vb p.h.c.toNat ++ (vb p.h.p.toNat ++ (vb p.h.s.toNat ++ (vb p.h.a.toNat ++ ((xs.map (enB ps F)).flatten ++ R))))), false⟩) := by
      unfold xHd
      rw [e]
      simp only [List.append_assoc]
      rw [xTxt_tx x _ (by omega)]
      simp only
      rw [xNum_vb i _ (by omega)]
    rw [List.length_cons, List.map_cons, List.flatten_cons, List.append_assoc, xCh, if_neg (by simp), r1]
    simp only
    rw [if_neg (by rw [h4]; simp; omega), xRest_enc _ _ _ _ _ _ (by omega) (by omega) (by omega) (by omega) (by omega)]
    simp only
    have e2 : ps.getD i [] = p.k := by rw [List.getD_eq_getElem?_getD, hi]; rfl
    have e3 : hdX x (p.h.m.toNat, p.h.c.toNat, p.h.p.toNat, p.h.s.toNat, p.h.a.toNat) = p.h := by
      unfold hdX
      rw [← h3]
      obtain ⟨k, n, m, c, pp, z, a⟩ := p
      simp only at q1 q3 q5 q7 q9 ⊢
      congr 1 <;> omega
    rw [e2, e3, xCh_enc ps hnd hpl F hF xs _ R (fun y hy => h y (by simp [hy]))]
    unfold adN
    rw [List.foldl_cons, hp]
    rfl
theorem adN_lk (F G : As Pl) (xs : List (List UInt8)) (q : List UInt8) : lkA (adN F G xs) q = (lkA G q).or (if q ∈ xs then some ((lkA F q).getD plZ) else none) := by
  induction xs generalizing G with
  | nil => show lkA G q = _; simp
  | cons x xs ih =>
    show lkA (adN F (adA G x ((lkA F x).getD plZ)) xs) q = _
    rw [ih, lkA_ad]
    by_cases e : x = q
    · subst e
      rw [if_pos rfl, if_pos (List.mem_cons_self)]
      cases lkA G x <;> simp
    · rw [if_neg e]
      have : q ∈ x :: xs ↔ q ∈ xs := by simp [Ne.symm e]
      by_cases h : q ∈ xs
      · rw [if_pos h, if_pos (this.2 h)]; cases lkA G q <;> simp
      · rw [if_neg h, if_neg (fun h' => h (this.1 h'))]; cases lkA G q <;> simp
theorem adN_kd {F G : As Pl} (h : KdA G) (xs : List (List UInt8)) : KdA (adN F G xs) := by
  induction xs generalizing G with
  | nil => exact h
  | cons x xs ih => exact ih (h.ad _ _)
/-- An index that was written is read. -/
theorem xIdx_enc (ps : List (List UInt8)) (F : As Pl) (hnd : ps.Nodup) (hpl : ps.length < 4294967296) (hp : ∀ p ∈ ps, p.length < 4294967296) (hkd : KdA F) (hFl : F.length < 4294967296) (hF : ∀ x p, lkA F x = some p → p.k ∈ ps ∧ hdOkX p.h ∧ p.h.n = x ∧ isNm x = true) :
    ∃ G, xIdx (encI ps F) = (ps, G, ⟨[], false⟩) ∧ KdA G ∧ ∀ q, lkA G q = lkA F q := by
  refine ⟨adN F [] (nmA F), ?_, adN_kd KdA.nil _, fun q => ?_⟩
  · have h1 : xNum ⟨encI ps F, false⟩ = (ps.length, ⟨(ps.map txB).flatten ++ (vb F.length ++ (((nmA F).map (enB ps F)).flatten ++ [])), false⟩) := by
      unfold encI
      rw [show vb ps.length ++ (ps.map txB).flatten ++ vb F.length ++ ((nmA F).map (enB ps F)).flatten = vb ps.length ++ ((ps.map txB).flatten ++ (vb F.length ++ (((nmA F).map (enB ps F)).flatten ++ []))) by simp]
      exact xNum_vb _ _ hpl
    have h2 := xPk_enc ps [] (vb F.length ++ (((nmA F).map (enB ps F)).flatten ++ [])) hp
    have h3 := xNum_vb F.length (((nmA F).map (enB ps F)).flatten ++ []) hFl
    have h4 := xCh_enc ps hnd hpl F hF (nmA F) [] [] (fun x hx => nmA_mem.1 hx)
    rw [nmA_len] at h4
    unfold xIdx
    simp only [h1, h2, List.nil_append, h3, h4]
  · rw [adN_lk, lkA_nil]
    by_cases h : q ∈ nmA F
    · rw [if_pos h]
      obtain ⟨p, hp⟩ := Option.isSome_iff_exists.1 (nmA_mem.1 h)
      rw [hp]; rfl
    · rw [if_neg h]
      have : ¬ (lkA F q).isSome = true := fun h' => h (nmA_mem.2 h')
      cases hq : lkA F q with
      | none => rfl
      | some p => rw [hq] at this; exact absurd rfl this
end Go.Proofs.YtecpapifkbfblaaDoor
