/- Cells that go into the midst of a row that is known whole. The symbols by which a row of lengths is told: the plain mathematics. -/
import Derived.Test.YtbknflckdbfogaaGreatQHuffM
import Derived.Deep.MidRow
namespace Go.Proofs.YtbknflckdbfogaaGreat
open Go.RowKit
set_option linter.unusedVariables false

/-- Cells that go into the midst of a row that is known whole. -/
theorem heap_setCells (g : Nat) (ty : TypeId) : ∀ (vs pre A post : List Value) (w : World), A.length = vs.length → w.heap[g]? = some (.cells (pre ++ A ++ post).toArray ty (0, 0)) →
    (w.setCells g pre.length vs).heap[g]? = some (.cells (pre ++ vs ++ post).toArray ty (0, 0))
  | [], pre, A, post, w, hl, h => by
    obtain rfl : A = [] := List.eq_nil_of_length_eq_zero hl
    exact h
  | v :: r, pre, A, post, w, hl, h => by
    obtain ⟨a, A', rfl⟩ : ∃ a A', A = a :: A' := by
      cases A with
      | nil => simp at hl
      | cons a A' => exact ⟨a, A', rfl⟩
    have h1 : (w.setCell ⟨g, pre.length, none⟩ v).heap[g]? = some (.cells ((pre ++ [v]) ++ A' ++ post).toArray ty (0, 0)) := by
      rw [heap_setCell_same _ _ _ _ _ _ h]
      congr 2
      apply Array.ext'
      rw [Array.toList_setIfInBounds]
      simp
    have h2 := heap_setCells g ty r (pre ++ [v]) A' post _ (by simpa using hl) h1
    rw [World.setCells]
    have e : (pre ++ [v]).length = pre.length + 1 := by simp
    rw [e] at h2
    rw [h2]
    simp
theorem heap_setCells_other (g k : Nat) (hk : k ≠ g) : ∀ (vs : List Value) (o : Nat) (w : World), (w.setCells g o vs).heap[k]? = w.heap[k]?
  | [], _, _ => rfl
  | v :: r, o, w => by rw [World.setCells, heap_setCells_other g k hk r, heap_setCell_other _ _ _ _ hk]
end Go.Proofs.YtbknflckdbfogaaGreat
namespace Go.Proofs.YtbknflckdbfogaaGreat
open Go.RowKit
set_option linter.unusedVariables false

/-- How many of the first ones are z. -/
def eqN (z : Int) : List Int → Nat
  | [] => 0
  | y :: ys => if y = z then eqN z ys + 1 else 0
theorem eqN_le (z : Int) : ∀ zs : List Int, eqN z zs ≤ zs.length
  | [] => Nat.le_refl _
  | y :: ys => by
    unfold eqN
    have := eqN_le z ys
    split <;> simp <;> omega
theorem eqN_ge (z : Int) : ∀ (zs : List Int) (n : Nat), n ≤ zs.length → (∀ j, j < n → zs.getD j 0 = z) → n ≤ eqN z zs
  | zs, 0, _, _ => Nat.zero_le _
  | [], n + 1, h, _ => by simp at h
  | y :: ys, n + 1, h, ha => by
    have h0 : y = z := ha 0 (Nat.succ_pos _)
    have := eqN_ge z ys n (by simpa using h) (fun j hj => by simpa using ha (j + 1) (by omega))
    unfold eqN
    rw [if_pos h0]; omega
theorem eqN_stop (z : Int) : ∀ (zs : List Int) (n : Nat), n < zs.length → zs.getD n 0 ≠ z → eqN z zs ≤ n
  | [], n, h, _ => by simp at h
  | y :: ys, 0, _, hz => by
    unfold eqN
    rw [if_neg (by simpa using hz)]; exact Nat.le_refl _
  | y :: ys, n + 1, h, hz => by
    have := eqN_stop z ys n (by simpa using h) (by simpa using hz)
    unfold eqN
    split <;> omega
/-- How many equal ones stand at place i. -/
def eqs (zs : List Int) (i : Nat) : Nat := eqN (zs.getD i 0) (zs.drop i)
theorem eqs_le (zs : List Int) (i : Nat) : eqs zs i ≤ zs.length - i := by
  have := eqN_le (zs.getD i 0) (zs.drop i)
  rw [List.length_drop] at this; exact this
theorem drop_getD (zs : List Int) (i j : Nat) : (zs.drop i).getD j 0 = zs.getD (i + j) 0 := by
  simp [List.getD_eq_getElem?_getD]
theorem eqs_ge {zs : List Int} {i n : Nat} (h : i + n ≤ zs.length) (ha : ∀ j, j < n → zs.getD (i + j) 0 = zs.getD i 0) : n ≤ eqs zs i :=
  eqN_ge _ _ _ (by rw [List.length_drop]; omega) (fun j hj => by rw [drop_getD]; exact ha j hj)
theorem eqs_stop {zs : List Int} {i n : Nat} (h : i + n < zs.length) (hz : zs.getD (i + n) 0 ≠ zs.getD i 0) : eqs zs i ≤ n :=
  eqN_stop _ _ _ (by rw [List.length_drop]; omega) (by rw [drop_getD]; exact hz)
theorem eqs_pos {zs : List Int} {i : Nat} (h : i < zs.length) : 1 ≤ eqs zs i :=
  eqs_ge (by omega) (fun j hj => by obtain rfl : j = 0 := by omega
                                    rfl)
/-- A symbol, its further bits, and for how many places it stands. -/
structure Stp where
  sym : Int
  more : Int
def stpAt (zs : List Int) (i : Nat) : Stp :=
  if zs.getD i 0 = 0 ∧ 11 ≤ eqs zs i then ⟨18, (min (eqs zs i) 138 : Nat) - 11⟩
  else if zs.getD i 0 = 0 ∧ 3 ≤ eqs zs i then ⟨17, (min (eqs zs i) 10 : Nat) - 3⟩
  else if 0 < i ∧ zs.getD (i - 1) 0 = zs.getD i 0 ∧ 3 ≤ eqs zs i then ⟨16, (min (eqs zs i) 6 : Nat) - 3⟩
  else ⟨zs.getD i 0, 0⟩
def plcAt (zs : List Int) (i : Nat) : Nat :=
  if zs.getD i 0 = 0 ∧ 11 ≤ eqs zs i then min (eqs zs i) 138
  else if zs.getD i 0 = 0 ∧ 3 ≤ eqs zs i then min (eqs zs i) 10
  else if 0 < i ∧ zs.getD (i - 1) 0 = zs.getD i 0 ∧ 3 ≤ eqs zs i then min (eqs zs i) 6
  else 1
theorem plcAt_pos (zs : List Int) (i : Nat) : 1 ≤ plcAt zs i := by
  unfold plcAt
  split
  · omega
  · split
    · omega
    · split <;> omega
theorem plcAt_le {zs : List Int} {i : Nat} (h : i < zs.length) : i + plcAt zs i ≤ zs.length := by
  have := eqs_le zs i
  unfold plcAt
  split
  · omega
  · split
    · omega
    · split <;> omega
/-- k symbols, and how many places they stand for. -/
def stK (zs : List Int) : Nat → List Stp × Nat
  | 0 => ([], 0)
  | k + 1 => if (stK zs k).2 < zs.length then ((stK zs k).1 ++ [stpAt zs (stK zs k).2], (stK zs k).2 + plcAt zs (stK zs k).2) else stK zs k
theorem stK_step {zs : List Int} {k : Nat} (h : (stK zs k).2 < zs.length) : stK zs (k + 1) = ((stK zs k).1 ++ [stpAt zs (stK zs k).2], (stK zs k).2 + plcAt zs (stK zs k).2) := by
  rw [stK, if_pos h]
theorem stK_end {zs : List Int} {k : Nat} (h : ¬ (stK zs k).2 < zs.length) : ∀ j, stK zs (k + j) = stK zs k
  | 0 => rfl
  | j + 1 => by rw [← Nat.add_assoc, stK, stK_end h j, if_neg h]
theorem stK_far (zs : List Int) : ∀ k, (stK zs k).2 ≤ zs.length ∧ min k zs.length ≤ (stK zs k).2 ∧ (stK zs k).1.length ≤ (stK zs k).2
  | 0 => by simp [stK]
  | k + 1 => by
    have ⟨h1, h2, h3⟩ := stK_far zs k
    by_cases h : (stK zs k).2 < zs.length
    · rw [stK_step h]
      have := plcAt_pos zs (stK zs k).2
      have := plcAt_le h
      simp only [List.length_append, List.length_singleton]
      omega
    · rw [stK, if_neg h]; omega
/-- All symbols. -/
def stpsF (zs : List Int) : List Stp := (stK zs zs.length).1
theorem stK_all {zs : List Int} {k : Nat} (h : ¬ (stK zs k).2 < zs.length) : (stK zs k).1 = stpsF zs := by
  have h2 : ¬ (stK zs zs.length).2 < zs.length := by have := (stK_far zs zs.length).2.1; omega
  rcases Nat.le_total k zs.length with hk | hk
  · unfold stpsF
    rw [show zs.length = k + (zs.length - k) by omega, stK_end h]
  · unfold stpsF
    rw [show k = zs.length + (k - zs.length) by omega, stK_end h2]
theorem stpsF_len (zs : List Int) : (stpsF zs).length ≤ zs.length := by
  have := stK_far zs zs.length
  unfold stpsF
  omega
/-- Its cells. -/
def stc (l : List Stp) : List Value := l.flatMap fun s => [.int .i64 s.sym, .int .i64 s.more]
theorem stc_len (l : List Stp) : (stc l).length = l.length * 2 := by
  induction l with
  | nil => rfl
  | cons a l ih => rw [stc, List.flatMap_cons, List.length_append, ← stc, ih]; simp; omega
theorem stc_snoc (l : List Stp) (s : Stp) : stc (l ++ [s]) = stc l ++ [.int .i64 s.sym, .int .i64 s.more] := by simp [stc]
theorem stc_at : ∀ (l : List Stp) (i : Nat) (s : Stp), l[i]? = some s → (stc l)[i * 2]? = some (.int .i64 s.sym) ∧ (stc l)[i * 2 + 1]? = some (.int .i64 s.more)
  | [], i, s, h => by simp at h
  | a :: l, 0, s, h => by
    simp at h; subst h
    exact ⟨rfl, rfl⟩
  | a :: l, i + 1, s, h => by
    have ih := stc_at l i s (by simpa using h)
    have e : stc (a :: l) = .int .i64 a.sym :: .int .i64 a.more :: stc l := rfl
    rw [e, show (i + 1) * 2 = i * 2 + 1 + 1 by omega, show i * 2 + 1 + 1 + 1 = (i * 2 + 1) + 1 + 1 by omega]
    exact ih
end Go.Proofs.YtbknflckdbfogaaGreat
