/- The head of a dynamic block that was written is read again: the plain mathematics. -/
import Derived.Test.YtbknflckdbfogaaGreatQEncM
import Derived.Test.YtbknflckdbfogaaGreatQDStM
namespace Go.Proofs.YtbknflckdbfogaaGreat
open Go.RowKit
set_option linter.unusedVariables false

/-- Lengths as integers. -/
def zL (rs : List Nat) : List Int := rs.map fun n : Nat => (n : Int)
theorem zL_len (rs : List Nat) : (zL rs).length = rs.length := by simp [zL]
theorem zL_at (rs : List Nat) (i : Nat) : (zL rs).getD i 0 = (rs.getD i 0 : Int) := by
  unfold zL
  rw [List.getD_eq_getElem?_getD, List.getElem?_map, List.getD_eq_getElem?_getD]
  cases rs[i]? <;> rfl
/-- The first eqN ones are z. -/
theorem eqN_all (z : Int) : ∀ (zs : List Int) (j : Nat), j < eqN z zs → zs.getD j 0 = z
  | [], j, h => by simp [eqN] at h
  | y :: ys, j, h => by
    unfold eqN at h
    split at h
    · rename_i q
      cases j with
      | zero => simpa using q
      | succ j => have := eqN_all z ys j (by omega); simpa using this
    · omega
theorem eqs_all (zs : List Int) (i j : Nat) (h : j < eqs zs i) : zs.getD (i + j) 0 = zs.getD i 0 := by
  have := eqN_all (zs.getD i 0) (zs.drop i) j h
  rw [drop_getD] at this; exact this
theorem plc_eqs (zs : List Int) (i : Nat) (h : i < zs.length) : plcAt zs i ≤ eqs zs i := by
  have := eqs_pos h
  unfold plcAt
  split
  · omega
  · split
    · omega
    · split <;> omega
/-- So many places on, the same length stands. -/
theorem take_run (rs : List Nat) (i : Nat) : ∀ c, i + c ≤ rs.length → (∀ j, j < c → rs.getD (i + j) 0 = rs.getD i 0) → rs.take (i + c) = rs.take i ++ List.replicate c (rs.getD i 0)
  | 0, _, _ => by simp
  | c + 1, h, ha => by
    have ih := take_run rs i c (by omega) (fun j hj => ha j (by omega))
    have hc := ha c (by omega)
    rw [← Nat.add_assoc, List.take_add_one, ih, List.replicate_succ', ← List.append_assoc, List.getElem?_eq_getElem (by omega)]
    rw [List.getD_eq_getElem?_getD, List.getElem?_eq_getElem (show i + c < rs.length by omega)] at hc
    simp only [Option.getD_some] at hc
    rw [hc]; rfl
/-- What a symbol says at a place. -/
theorem stp_told (rs : List Nat) (h15 : ∀ x ∈ rs, x ≤ 15) (i : Nat) (hi : i < rs.length) :
    ∃ sym more, (stpAt (zL rs) i).sym = (sym : Nat) ∧ (stpAt (zL rs) i).more = (more : Nat) ∧ sym < 19 ∧ more < 2 ^ (tmF sym).2 ∧ (tmF sym).1 + more = plcAt (zL rs) i ∧ toldF (rs.take i) sym = rs.getD i 0 ∧ ¬ (sym = 16 ∧ (rs.take i).length = 0) := by
  have hx : rs.getD i 0 ≤ 15 := h15 _ (by rw [List.getD_eq_getElem?_getD, List.getElem?_eq_getElem hi]; simp)
  have hp := eqs_pos (zs := zL rs) (i := i) (by rw [zL_len]; exact hi)
  unfold stpAt plcAt
  rw [zL_at]
  by_cases h1 : (rs.getD i 0 : Int) = 0 ∧ 11 ≤ eqs (zL rs) i
  · rw [if_pos h1, if_pos h1]
    refine ⟨18, min (eqs (zL rs) i) 138 - 11, rfl, by simp only; omega, by decide, by show _ < 2 ^ 7; omega, by show 11 + _ = _; omega, by show 0 = _; omega, by simp⟩
  · rw [if_neg h1, if_neg h1]
    by_cases h2 : (rs.getD i 0 : Int) = 0 ∧ 3 ≤ eqs (zL rs) i
    · rw [if_pos h2, if_pos h2]
      refine ⟨17, min (eqs (zL rs) i) 10 - 3, rfl, by simp only; omega, by decide, by show _ < 2 ^ 3; omega, by show 3 + _ = _; omega, by show 0 = _; omega, by simp⟩
    · rw [if_neg h2, if_neg h2, zL_at]
      by_cases h3 : 0 < i ∧ (rs.getD (i - 1) 0 : Int) = (rs.getD i 0 : Int) ∧ 3 ≤ eqs (zL rs) i
      · rw [if_pos h3, if_pos h3]
        refine ⟨16, min (eqs (zL rs) i) 6 - 3, rfl, by simp only; omega, by decide, by show _ < 2 ^ 2; omega, by show 3 + _ = _; omega, ?_, by rw [List.length_take]; omega⟩
        show (rs.take i).getD ((rs.take i).length - 1) 0 = _
        rw [List.length_take, show min i rs.length = i by omega, List.getD_eq_getElem?_getD, List.getElem?_take, if_pos (by omega), ← List.getD_eq_getElem?_getD]
        omega
      · rw [if_neg h3, if_neg h3]
        have ht : tmF (rs.getD i 0) = (1, 0) := by unfold tmF; rw [if_neg (by omega), if_neg (by omega), if_neg (by omega)]
        refine ⟨rs.getD i 0, 0, rfl, rfl, by omega, by rw [ht]; decide, by rw [ht], ?_, by omega⟩
        unfold toldF
        rw [if_neg (by omega), if_neg (by omega)]
/-- The bits of a symbol of the first code, and of what follows it. -/
def encS (fs : List Nat) (s : Stp) : List Bool := codeS fs s.sym.toNat ++ lowB s.more.toNat (tmF s.sym.toNat).2
/-- The symbols from place i on, with so much fuel. -/
def stepsI (zs : List Int) : Nat → Nat → List Stp
  | 0, _ => []
  | k + 1, i => if i < zs.length then stpAt zs i :: stepsI zs k (i + plcAt zs i) else []
def encI (fs : List Nat) (zs : List Int) (k i : Nat) : List Bool := (stepsI zs k i).flatMap (encS fs)
/-- A row of lengths whose bits stand there is read. -/
theorem rowF_enc {fs : List Nat} (h15 : all15 fs) (hf : fitB fs = true) (h19 : fs.length = 19) {f : Nat → Bool} {L : Nat} (rs : List Nat) (hr : ∀ x ∈ rs, x ≤ 15) :
    ∀ (k i p F : Nat), i ≤ rs.length → rs.length ≤ i + k → (∀ s ∈ stepsI (zL rs) k i, 0 < ln fs s.sym.toNat) → BitsAt f p (encI fs (zL rs) k i) → p + (encI fs (zL rs) k i).length ≤ L → (stepsI (zL rs) k i).length < F →
      rowF fs f L rs.length F p (rs.take i) = .ok (rs, p + (encI fs (zL rs) k i).length)
  | 0, i, p, 0, hi, hk, hc, hb, hl, hF => by omega
  | 0, i, p, F + 1, hi, hk, hc, hb, hl, hF => by
    have e : i = rs.length := by omega
    subst e
    rw [rowF, List.take_length, if_pos (Nat.le_refl _), if_neg (Nat.lt_irrefl _)]
    simp [encI, stepsI]
  | k + 1, i, p, 0, hi, hk, hc, hb, hl, hF => by omega
  | k + 1, i, p, F + 1, hi, hk, hc, hb, hl, hF => by
    by_cases hlt : i < rs.length
    · obtain ⟨sym, more, e1, e2, h1, h2, h3, h4, h5⟩ := stp_told rs hr i hlt
      have hpl := plcAt_le (zs := zL rs) (i := i) (by rw [zL_len]; exact hlt)
      have hpe := plc_eqs (zL rs) i (by rw [zL_len]; exact hlt)
      rw [zL_len] at hpl
      have hst : stepsI (zL rs) (k + 1) i = stpAt (zL rs) i :: stepsI (zL rs) k (i + plcAt (zL rs) i) := by rw [stepsI, if_pos (by rw [zL_len]; exact hlt)]
      have henc : encI fs (zL rs) (k + 1) i = codeS fs sym ++ (lowB more (tmF sym).2 ++ encI fs (zL rs) k (i + plcAt (zL rs) i)) := by
        unfold encI
        rw [hst, List.flatMap_cons]
        unfold encS
        rw [e1, e2, Int.toNat_natCast, Int.toNat_natCast, List.append_assoc]
      have hcs := hc (stpAt (zL rs) i) (by rw [hst]; simp)
      rw [e1, Int.toNat_natCast] at hcs
      rw [henc] at hb hl ⊢
      rw [List.length_append, List.length_append, codeS_len, lowB_len] at hl ⊢
      have b1 := hb.left
      have b2 := hb.right
      rw [codeS_len] at b2
      have b3 := b2.right
      rw [lowB_len] at b3
      have hrun := take_run rs i (plcAt (zL rs) i) (by omega) (fun j hj => by
        have := eqs_all (zL rs) i j (by omega)
        rw [zL_at, zL_at] at this
        omega)
      rw [rowF, if_neg (by rw [List.length_take]; omega), nxF_code h15 hf (by omega) hcs b1 (by omega)]
      simp only
      rw [if_neg h5, tkF_low h2 b2.left (by omega)]
      simp only
      rw [h3, h4, ← hrun, rowF_enc h15 hf h19 rs hr k (i + plcAt (zL rs) i) _ F hpl (by have := plcAt_pos (zL rs) i; omega) (fun s hs => hc s (by rw [hst]; simp [hs])) b3 (by omega) (by rw [hst, List.length_cons] at hF; omega)]
      simp only [Except.ok.injEq, Prod.mk.injEq, true_and]
      omega
    · have e : i = rs.length := by omega
      subst e
      have hst : stepsI (zL rs) (k + 1) rs.length = [] := by rw [stepsI, if_neg (by rw [zL_len]; omega)]
      rw [rowF, List.take_length, if_pos (Nat.le_refl _), if_neg (Nat.lt_irrefl _)]
      unfold encI
      rw [hst]
      simp
theorem encI_len {fs : List Nat} : ∀ (l : List Stp), (∀ s ∈ l, 0 < ln fs s.sym.toNat) → l.length ≤ (l.flatMap (encS fs)).length
  | [], _ => by simp
  | s :: l, h => by
    have ih := encI_len l (fun t ht => h t (by simp [ht]))
    have hs := h s (by simp)
    rw [List.flatMap_cons, List.length_append, List.length_cons]
    unfold encS
    rw [List.length_append, codeS_len]
    unfold encS at ih
    omega
/-- The lengths of the first code, as they are told. -/
def toldB (l : List Nat) : List Bool := l.flatMap fun x => lowB x 3
theorem toldB_len : ∀ l : List Nat, (toldB l).length = 3 * l.length
  | [] => rfl
  | x :: l => by
    have ih := toldB_len l
    unfold toldB at ih ⊢
    rw [List.flatMap_cons, List.length_append, ih, lowB_len, List.length_cons]; omega
theorem toldB_at {f : Nat → Bool} : ∀ (l : List Nat) (q : Nat), BitsAt f q (toldB l) → ∀ j, j < l.length → BitsAt f (q + 3 * j) (lowB (l.getD j 0) 3)
  | [], q, _, j, h => by simp at h
  | x :: l, q, hb, 0, h => by
    have : BitsAt f q (lowB x 3 ++ toldB l) := hb
    have := this.left
    simpa using this
  | x :: l, q, hb, j + 1, h => by
    have : BitsAt f q (lowB x 3 ++ toldB l) := hb
    have := toldB_at l (q + 3) (by have := this.right; rwa [lowB_len] at this) j (by simpa using h)
    rw [show q + 3 + 3 * j = q + 3 * (j + 1) by omega] at this
    simpa using this
theorem ord_idx : ∀ t : Fin 19, ordL.idxOf t.val < 19 ∧ ordL.getD (ordL.idxOf t.val) 0 = t.val := by decide
/-- The first lengths that were told are read. -/
theorem fstL_told {f : Nat → Bool} {q n : Nat} {fs : List Nat} (h19 : fs.length = 19) (h7 : ∀ x ∈ fs, x ≤ 7) (hn : n ≤ 19) (h0 : ∀ j, n ≤ j → j < 19 → fs.getD (ordL.getD j 0) 0 = 0) (hb : BitsAt f q (toldB ((ordL.map fun t => fs.getD t 0).take n))) : fstL f q n = fs := by
  have hlen : ((ordL.map fun t => fs.getD t 0).take n).length = n := by rw [List.length_take, List.length_map]; show min n 19 = n; omega
  apply List.ext_getElem?
  intro t
  unfold fstL
  by_cases ht : t < 19
  · rw [List.getElem?_map, List.getElem?_range ht]
    simp only [Option.map_some]
    obtain ⟨hi, he⟩ := ord_idx ⟨t, ht⟩
    simp only at hi he
    have hfs : fs[t]? = some (fs.getD t 0) := by rw [List.getD_eq_getElem?_getD, List.getElem?_eq_getElem (by omega)]; rfl
    rw [hfs]
    congr 1
    by_cases hlt : ordL.idxOf t < n
    · rw [if_pos hlt]
      have hbt := toldB_at _ q hb (ordL.idxOf t) (by rw [hlen]; exact hlt)
      have hval : ((ordL.map fun t => fs.getD t 0).take n).getD (ordL.idxOf t) 0 = fs.getD t 0 := by
        rw [List.getD_eq_getElem?_getD, List.getElem?_take, if_pos hlt, List.getElem?_map]
        rw [List.getD_eq_getElem?_getD] at he
        cases ho : ordL[ordL.idxOf t]? with
        | none => rw [ho] at he; have : ordL.length ≤ ordL.idxOf t := List.getElem?_eq_none_iff.1 ho; have h2 : ordL.length = 19 := rfl; omega
        | some v => rw [ho] at he; simp only [Option.getD_some] at he; subst he; rfl
      rw [hval] at hbt
      have hx7 : fs.getD t 0 ≤ 7 := h7 _ (List.mem_of_getElem? hfs)
      have : tkF f (q + 3 * ordL.idxOf t + 3) (q + 3 * ordL.idxOf t) 3 = .ok (fs.getD t 0) := tkF_low (by omega) hbt (Nat.le_refl _)
      unfold tkF at this
      rw [if_neg (by omega)] at this
      exact Except.ok.inj this
    · rw [if_neg hlt]
      have := h0 (ordL.idxOf t) (by omega) hi
      rw [he] at this
      exact this.symm
  · rw [List.getElem?_eq_none (by simp; omega), List.getElem?_eq_none (by omega)]
/-- The bits of a dynamic block's head, behind its first three. -/
def encH (fs ls ds : List Nat) (n : Nat) : List Bool :=
  lowB (ls.length - 257) 5 ++ (lowB (ds.length - 1) 5 ++ (lowB (n - 4) 4 ++ (toldB ((ordL.map fun t => fs.getD t 0).take n) ++ encI fs (zL (ls ++ ds)) (ls ++ ds).length 0)))
/-- Lengths that codes are made of. -/
structure OkL (ns : List Nat) : Prop where
  all : all15 ns
  fit : fitB ns = true
  few : ns.length ≤ 320
theorem OkL.e {ns : List Nat} (h : OkL ns) : fitE ns = true := by
  unfold fitE
  rw [h.fit, decide_eq_true h.few]
  simp only [Bool.true_and, Bool.and_true]
  rw [List.all_eq_true]
  intro n hn
  exact decide_eq_true (h.all n hn)
theorem dynF_enc {fs ls ds : List Nat} {n : Nat} (hF : OkL fs) (hL : OkL ls) (hD : OkL ds) (h19 : fs.length = 19) (h7 : ∀ x ∈ fs, x ≤ 7) (hn4 : 4 ≤ n) (hn : n ≤ 19) (h0 : ∀ j, n ≤ j → j < 19 → fs.getD (ordL.getD j 0) 0 = 0)
    (hl1 : 257 ≤ ls.length) (hl2 : ls.length ≤ 286) (hd1 : 1 ≤ ds.length) (hd2 : ds.length ≤ 30) (h256 : ls.getD 256 0 ≠ 0) (hc : ∀ s ∈ stepsI (zL (ls ++ ds)) (ls ++ ds).length 0, 0 < ln fs s.sym.toNat)
    {f : Nat → Bool} {L p : Nat} (hb : BitsAt f p (encH fs ls ds n)) (hl : p + (encH fs ls ds n).length ≤ L) : dynF f L p = .ok (ls, ds, p + (encH fs ls ds n).length) := by
  have htl : ((ordL.map fun t => fs.getD t 0).take n).length = n := by rw [List.length_take, List.length_map]; show min n 19 = n; omega
  unfold encH at hb hl ⊢
  have hsl : (stepsI (zL (ls ++ ds)) (ls ++ ds).length 0).length ≤ (encI fs (zL (ls ++ ds)) (ls ++ ds).length 0).length := encI_len _ hc
  generalize hE : encI fs (zL (ls ++ ds)) (ls ++ ds).length 0 = E at *
  simp only [List.length_append, lowB_len, toldB_len, htl] at hl ⊢
  have b1 := hb.left
  have r1 := hb.right
  rw [lowB_len] at r1
  have r2 := r1.right
  rw [lowB_len] at r2
  have r3 := r2.right
  rw [lowB_len] at r3
  have r4 := r3.right
  rw [toldB_len, htl] at r4
  rw [← hE] at r4
  unfold dynF
  rw [tkF_low (show ls.length - 257 < 2 ^ 5 by omega) b1 (by omega)]
  simp only
  rw [tkF_low (show ds.length - 1 < 2 ^ 5 by omega) r1.left (by omega)]
  simp only
  rw [show p + 10 = p + 5 + 5 by omega, tkF_low (show n - 4 < 2 ^ 4 by omega) r2.left (by omega)]
  simp only
  rw [if_neg (by omega), show n - 4 + 4 = n by omega, if_neg (by omega), show p + 14 = p + 5 + 5 + 4 by omega, fstL_told h19 h7 hn h0 r3.left, hF.e, if_neg (by simp)]
  have hrs : ls.length - 257 + (ds.length - 1) + 258 = (ls ++ ds).length := by rw [List.length_append]; omega
  have hrow := rowF_enc (L := L) hF.all hF.fit h19 (ls ++ ds) (fun x hx => by
    rcases List.mem_append.1 hx with q | q
    · exact hL.all x q
    · exact hD.all x q) (ls ++ ds).length 0 (p + 5 + 5 + 4 + 3 * n) (L + 1) (Nat.zero_le _) (by omega) hc r4 (by rw [hE]; omega) (by omega)
  rw [hrs]
  rw [List.take_zero, hE] at hrow
  rw [hrow]
  simp only
  have ht : (ls ++ ds).take (ls.length - 257 + 257) = ls := by rw [show ls.length - 257 + 257 = ls.length by omega, List.take_left]
  have hdr : (ls ++ ds).drop (ls.length - 257 + 257) = ds := by rw [show ls.length - 257 + 257 = ls.length by omega, List.drop_left]
  have hg : (ls ++ ds).getD 256 0 = ls.getD 256 0 := by rw [List.getD_eq_getElem?_getD, List.getD_eq_getElem?_getD, List.getElem?_append_left (by omega)]
  rw [ht, hdr, hg, if_neg h256, hL.e, hD.e, if_neg (by simp)]
  simp only [Except.ok.injEq, Prod.mk.injEq, true_and]
  omega
/-- What Steps answers are these symbols. -/
theorem stepsI_stK (zs : List Int) : ∀ k j, stepsI zs (k + j) 0 = (stK zs k).1 ++ stepsI zs j (stK zs k).2
  | 0, j => by simp [stK]
  | k + 1, j => by
    have ih := stepsI_stK zs k (j + 1)
    rw [show k + 1 + j = k + (j + 1) by omega, ih]
    by_cases h : (stK zs k).2 < zs.length
    · rw [stK_step h, stepsI, if_pos h]
      simp
    · rw [stK, if_neg h, stepsI, if_neg h]
      cases j with
      | zero => rfl
      | succ j => rw [stepsI, if_neg h]
theorem stepsI_all (zs : List Int) : stepsI zs zs.length 0 = stpsF zs := by
  have := stepsI_stK zs zs.length 0
  rw [Nat.add_zero] at this
  rw [this]
  simp [stepsI, stpsF]
end Go.Proofs.YtbknflckdbfogaaGreat
