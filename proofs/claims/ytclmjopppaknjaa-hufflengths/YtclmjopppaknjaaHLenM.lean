/- What huff.Lengths answers: plain mathematics, no program. -/
import Derived.Test.YtclmjopppaknjaaHRis
import Derived.Test.YtclmjopppaknjaaHuffM
namespace Go.Proofs.Ytclmjopppaknjaa
open Go
set_option linter.unusedVariables false

/-- Zeros, and the lengths of the first k symbols written in their places. -/
def putL (ss : List Nat) (f : Nat → Nat) (n : Nat) : Nat → List Nat
  | 0 => List.replicate n 0
  | k + 1 => (putL ss f n k).set (ss.getD k 0) (f k)
theorem putL_len (ss : List Nat) (f : Nat → Nat) (n : Nat) : ∀ k, (putL ss f n k).length = n
  | 0 => by simp [putL]
  | k + 1 => by rw [putL, List.length_set, putL_len ss f n k]
theorem getD_setN (l : List Nat) (i j v : Nat) : (l.set i v).getD j 0 = if i = j ∧ j < l.length then v else l.getD j 0 := by
  rw [List.getD_eq_getElem?_getD, List.getElem?_set, List.getD_eq_getElem?_getD]
  by_cases e : i = j
  · subst e
    by_cases h : i < l.length
    · simp [h]
    · simp [h]
  · simp [e]
theorem putL_out (ss : List Nat) (f : Nat → Nat) (n i : Nat) : ∀ k, (∀ j, j < k → ss.getD j 0 ≠ i) → (putL ss f n k).getD i 0 = 0
  | 0, _ => by
    unfold putL
    rw [List.getD_eq_getElem?_getD, List.getElem?_replicate]
    split <;> rfl
  | k + 1, hi => by
    rw [putL, getD_setN, if_neg (fun h => hi k (by omega) h.1), putL_out ss f n i k (fun j hj => hi j (by omega))]
theorem getD_inj {ss : List Nat} (hnd : ss.Nodup) {j k : Nat} (hj : j < ss.length) (hk : k < ss.length) (h : ss.getD j 0 = ss.getD k 0) : j = k := by
  rw [List.getD_eq_getElem?_getD, List.getElem?_eq_getElem hj, List.getD_eq_getElem?_getD, List.getElem?_eq_getElem hk] at h
  simp only [Option.getD_some] at h
  have hp := List.pairwise_iff_getElem.1 hnd
  rcases Nat.lt_trichotomy j k with q | q | q
  · exact absurd h (hp j k hj hk q)
  · exact q
  · exact absurd h.symm (hp k j hk hj q)
theorem putL_in (ss : List Nat) (f : Nat → Nat) (n : Nat) (hnd : ss.Nodup) (hlt : ∀ i ∈ ss, i < n) : ∀ k, k ≤ ss.length → ∀ j, j < k → (putL ss f n k).getD (ss.getD j 0) 0 = f j
  | 0, _, j, hj => by omega
  | k + 1, hk, j, hj => by
    have hgd : ∀ m, m < ss.length → ss.getD m 0 ∈ ss := fun m hm => by rw [List.getD_eq_getElem?_getD, List.getElem?_eq_getElem hm]; simp
    rw [putL, getD_setN, putL_len]
    by_cases e : j = k
    · subst e; rw [if_pos ⟨rfl, hlt _ (hgd j (by omega))⟩]
    · rw [if_neg, putL_in ss f n hnd hlt k (by omega) j (by omega)]
      intro h
      exact e (getD_inj hnd (by omega) (by omega) h.1).symm
/-- The sum over all places of what lies at the symbols. -/
theorem sum_set (g : Nat → Nat) (h0 : g 0 = 0) (l : List Nat) (i v : Nat) (hi : i < l.length) (hz : l.getD i 0 = 0) : ((l.set i v).map g).sum = (l.map g).sum + g v := by
  induction l generalizing i with
  | nil => simp at hi
  | cons a r ih =>
    cases i with
    | zero => simp at hz; subst hz; simp [h0]; omega
    | succ i => simp at hi hz; have := ih i hi (by simpa using hz); rw [List.set_cons_succ, List.map_cons, List.sum_cons, this, List.map_cons, List.sum_cons]; omega
theorem putL_sum (ss : List Nat) (f : Nat → Nat) (n : Nat) (hnd : ss.Nodup) (hlt : ∀ i ∈ ss, i < n) (g : Nat → Nat) (h0 : g 0 = 0) : ∀ k, k ≤ ss.length → ((putL ss f n k).map g).sum = sumK (fun j => g (f j)) k
  | 0, _ => by
    unfold putL
    rw [List.map_replicate, h0]
    simp [sumK]
  | k + 1, hk => by
    have hgd : ss.getD k 0 ∈ ss := by rw [List.getD_eq_getElem?_getD, List.getElem?_eq_getElem (show k < ss.length by omega)]; simp
    have hz : (putL ss f n k).getD (ss.getD k 0) 0 = 0 := putL_out ss f n _ k fun j hj e => by
      have := getD_inj hnd (show j < ss.length by omega) (by omega) e
      omega
    rw [putL, sum_set g h0 _ _ _ (by rw [putL_len]; exact hlt _ hgd) hz, putL_sum ss f n hnd hlt g h0 k (by omega), sumK]
theorem usedK_sum (ns : List Nat) : ∀ k, k ≤ ns.length → usedK ns k = ((ns.take k).map fun l => if 0 < l then 1 else 0).sum
  | 0, _ => by simp [usedK]
  | k + 1, hk => by
    rw [usedK, usedK_sum ns k (by omega), List.take_add_one, List.getElem?_eq_getElem (by omega), List.map_append, List.sum_append]
    congr 1
    simp [ln, List.getD_eq_getElem?_getD, List.getElem?_eq_getElem (show k < ns.length by omega)]
theorem allP_sum (ns : List Nat) : ∀ k, k ≤ ns.length → allP ns k = ((ns.take k).map fun l => if 0 < l then 2 ^ (15 - l) else 0).sum
  | 0, _ => by simp [allP, partP]
  | k + 1, hk => by
    have ih := allP_sum ns k (by omega)
    unfold allP at ih ⊢
    rw [partP, ih, List.take_add_one, List.getElem?_eq_getElem (show k < ns.length by omega), List.map_append, List.sum_append]
    congr 1
    simp [ln, List.getD_eq_getElem?_getD, List.getElem?_eq_getElem (show k < ns.length by omega)]
theorem sumK_mul (a : Nat) (f : Nat → Nat) : ∀ n, sumK (fun j => a * f j) n = a * sumK f n
  | 0 => by simp [sumK]
  | n + 1 => by rw [sumK, sumK, sumK_mul a f n, Nat.mul_add]
/-- The counts of the symbols. -/
def wOf (zs : List Int) (ss : List Nat) : List Nat := ss.map fun i => (zs.getD i 0).toNat
theorem wOf_len (zs : List Int) (ss : List Nat) : (wOf zs ss).length = ss.length := by simp [wOf]
/-- The length of the j-th symbol. -/
def lenF (zs : List Int) (ss : List Nat) (m : Nat) : Nat → Nat := if ss.length = 1 then fun _ => 1 else lenK (wOf zs ss) m
/-- The lengths that come out. -/
def lensOf (zs : List Int) (ss : List Nat) (m : Nat) : List Nat := putL ss (lenF zs ss m) zs.length ss.length
/-- What is promised of lengths. -/
structure LenP (zs : List Int) (m : Nat) (ls : List Nat) : Prop where
  len : ls.length = zs.length
  no : ∀ i, ¬ 0 < zs.getD i 0 → ls.getD i 0 = 0
  yes : ∀ i, i < zs.length → 0 < zs.getD i 0 → 1 ≤ ls.getD i 0
  le : ∀ i, ls.getD i 0 ≤ m
  fit : fitB ls = true
theorem lens_ok (zs : List Int) (ss : List Nat) (m : Nat) (h : RisP zs ss) (h1 : 1 ≤ m) (hm : m ≤ 15) (hp : ss.length ≤ 2 ^ m) : LenP zs m (lensOf zs ss m) := by
  have hmem : ∀ i, i ∈ ss ↔ i < zs.length ∧ 0 < zs.getD i 0 := fun i => (h.perm.mem_iff).trans posL_mem
  have hnd : ss.Nodup := (h.perm.nodup_iff).2 (by unfold posL; exact List.nodup_range.filter _)
  have hlt : ∀ i ∈ ss, i < zs.length := fun i hi => ((hmem i).1 hi).1
  have hgd : ∀ j, j < ss.length → ss.getD j 0 ∈ ss := fun j hj => by rw [List.getD_eq_getElem?_getD, List.getElem?_eq_getElem hj]; simp
  have hidx : ∀ i, i ∈ ss → ∃ j, j < ss.length ∧ ss.getD j 0 = i := fun i hi => by
    obtain ⟨j, hj, e⟩ := List.mem_iff_getElem.1 hi
    exact ⟨j, hj, by rw [List.getD_eq_getElem?_getD, List.getElem?_eq_getElem hj]; exact e⟩
  have hF1 : ∀ j, j < ss.length → 1 ≤ lenF zs ss m j := fun j hj => by
    unfold lenF
    split
    · exact Nat.le_refl _
    · exact lenK_pos h.rise (by rw [← wOf, wOf_len]; omega) h1 (by rw [← wOf, wOf_len]; exact hp) (by rw [← wOf, wOf_len]; exact hj)
  have hFm : ∀ j, lenF zs ss m j ≤ m := fun j => by
    unfold lenF
    split
    · exact h1
    · exact lenK_le _ _ _
  have hat : ∀ i, (i ∈ ss ∧ ∃ j, j < ss.length ∧ (lensOf zs ss m).getD i 0 = lenF zs ss m j) ∨ (i ∉ ss ∧ (lensOf zs ss m).getD i 0 = 0) := fun i => by
    by_cases hi : i ∈ ss
    · obtain ⟨j, hj, rfl⟩ := hidx i hi
      exact .inl ⟨hi, j, hj, putL_in ss _ _ hnd hlt ss.length (Nat.le_refl _) j hj⟩
    · exact .inr ⟨hi, putL_out ss _ _ i _ fun j hj e => hi (e ▸ hgd j hj)⟩
  refine ⟨putL_len _ _ _ _, fun i hi => ?_, fun i hi hz => ?_, fun i => ?_, ?_⟩
  · rcases hat i with ⟨h1, _⟩ | ⟨_, h2⟩
    · exact absurd ((hmem i).1 h1).2 hi
    · exact h2
  · rcases hat i with ⟨_, j, hj, e⟩ | ⟨h2, _⟩
    · rw [e]; exact hF1 j hj
    · exact absurd ((hmem i).2 ⟨hi, hz⟩) h2
  · rcases hat i with ⟨_, j, hj, e⟩ | ⟨_, e⟩
    · rw [e]; exact hFm j
    · rw [e]; omega
  · have hu : usedK (lensOf zs ss m) (lensOf zs ss m).length = ss.length := by
      rw [usedK_sum _ _ (Nat.le_refl _), List.take_length]
      unfold lensOf
      rw [putL_sum ss _ _ hnd hlt _ rfl _ (Nat.le_refl _), sumK_congr (g := fun _ => 1) _ (fun j hj => show (if 0 < lenF zs ss m j then 1 else 0) = 1 from if_pos (hF1 j hj)), sumK_const, Nat.mul_one]
    have ha : allP (lensOf zs ss m) (lensOf zs ss m).length = sumK (fun j => 2 ^ (15 - lenF zs ss m j)) ss.length := by
      rw [allP_sum _ _ (Nat.le_refl _), List.take_length]
      unfold lensOf
      rw [putL_sum ss _ _ hnd hlt _ rfl _ (Nat.le_refl _)]
      exact sumK_congr _ fun j hj => if_pos (hF1 j hj)
    unfold fitB
    rw [hu, ha]
    by_cases h0 : ss.length = 0
    · rw [if_pos h0]
    · rw [if_neg h0]
      by_cases h01 : ss.length = 1
      · rw [if_pos h01]
        have : lenF zs ss m = fun _ => 1 := by unfold lenF; rw [if_pos h01]
        rw [this, h01]; rfl
      · rw [if_neg h01]
        have : lenF zs ss m = lenK (wOf zs ss) m := by unfold lenF; rw [if_neg h01]
        rw [this]
        have hw := lenK_whole (most := m) h.rise (by rw [← wOf, wOf_len]; omega) h1 (by rw [← wOf, wOf_len]; exact hp)
        rw [← wOf, wOf_len] at hw
        have e : sumK (fun j => 2 ^ (15 - lenK (wOf zs ss) m j)) ss.length = 2 ^ (15 - m) * sumK (fun j => 2 ^ (m - lenK (wOf zs ss) m j)) ss.length := by
          rw [← sumK_mul]
          refine sumK_congr _ fun j hj => ?_
          have := lenK_le (wOf zs ss) m j
          rw [← Nat.pow_add]; congr 1; omega
        rw [e, hw, ← Nat.pow_add, show 15 - m + m = 15 by omega]; rfl
end Go.Proofs.Ytclmjopppaknjaa
