/- A row of integers that is read. The package-merge way: its lengths come to a whole: the plain mathematics. Contracts of huff.fit and huff.checkLengths. -/
import Derived.Test.YtbknflckdbfogaaGreatRows
import Derived.Test.YtbknflckdbfogaaGreatQHuffM
import Derived.Laws.OwnMore
import Derived.Laws.AppendOwnNone
import Derived.WalkSmall
import Derived.Deep.MidRow
namespace Go.Proofs.YtbknflckdbfogaaGreat
open Go.RowKit
set_option linter.unusedVariables false

/-- v is a slice (not nil) of these integers. -/
def IR (w : World) (v : Value) (zs : List Int) : Prop := ∃ g cap, v = .slice (some ⟨g, 0, none⟩) zs.length cap ∧ g < w.heap.size ∧ ∀ i, i < zs.length → w.cell? ⟨g, i, none⟩ = some (.int .i64 (zs.getD i 0))
theorem IR.below {w w' : World} {v : Value} {zs : List Int} (h : IR w v zs) (hb : Below w.heap.size w w') : IR w' v zs := by
  obtain ⟨g, cap, rfl, hg, hc⟩ := h
  exact ⟨g, cap, rfl, Nat.lt_of_lt_of_le hg hb.size, fun i hi => by rw [hb.cell (p := ⟨g, i, none⟩) hg]; exact hc i hi⟩
theorem IR.kept {w w' : World} {v : Value} {zs : List Int} {row : Option Nat} (h : IR w v zs) (hg : w.grownBy w' row) (hne : v.ownBlock ≠ row) : IR w' v zs := by
  obtain ⟨g, cap, rfl, hgl, hc⟩ := h
  exact ⟨g, cap, rfl, Nat.lt_of_lt_of_le hgl hg.size, fun i hi => hg.cell (hc i hi) (by simpa [Value.ownBlock] using hne)⟩
theorem IR.drewN {w : World} {v : Value} {zs : List Int} (h : IR w v zs) (n : Nat) : IR (w.drewN n) v zs := h
/-- v is a slice (not nil) of these integers, at whatever place of its row. -/
def IQ (w : World) (v : Value) (zs : List Int) : Prop := ∃ g o cap, v = .slice (some ⟨g, o, none⟩) zs.length cap ∧ g < w.heap.size ∧ ∀ i, i < zs.length → w.cell? ⟨g, o + i, none⟩ = some (.int .i64 (zs.getD i 0))
theorem IR.io {w : World} {v : Value} {zs : List Int} (h : IR w v zs) : IQ w v zs := by
  obtain ⟨g, cap, h1, h2, h3⟩ := h
  exact ⟨g, 0, cap, h1, h2, fun i hi => by rw [Nat.zero_add]; exact h3 i hi⟩
theorem IQ.below {w w' : World} {v : Value} {zs : List Int} (h : IQ w v zs) (hb : Below w.heap.size w w') : IQ w' v zs := by
  obtain ⟨g, o, cap, rfl, hg, hc⟩ := h
  exact ⟨g, o, cap, rfl, Nat.lt_of_lt_of_le hg hb.size, fun i hi => by rw [hb.cell (p := ⟨g, o + i, none⟩) hg]; exact hc i hi⟩
/-- These integers as cells. -/
def ic (zs : List Int) : List Value := zs.map (Value.int .i64)
theorem ic_len (zs : List Int) : (ic zs).length = zs.length := by simp [ic]
theorem ic_at (zs : List Int) (i : Nat) (h : i < zs.length) : (ic zs)[i]? = some (.int .i64 (zs.getD i 0)) := by
  simp [ic, List.getElem?_eq_getElem h, List.getD_eq_getElem?_getD]
theorem ic_one (zs : List Int) : ∀ v ∈ ic zs, v.oneCell' = true := by
  intro v hv
  simp [ic] at hv
  obtain ⟨z, _, rfl⟩ := hv
  rfl
theorem Tryz.infoI : (Tryz.prog.info? 3).map (fun i => (i.zero, i.size, i.bytes)) = some (some (.int .i64 0), 1, 8) := by kernel_rfl
theorem IR.of {w : World} {B n : Nat} {v : Value} {zs : List Int} (h : w.ownsRow B 3 1 v n (ic zs)) (hne : ¬ v = .slice none 0 0) : IR w v zs := by
  have hl := h.1
  rw [ic_len, Nat.mul_one] at hl
  subst hl
  have hlt := h.lt
  rcases h.2 with ⟨q, _⟩ | ⟨g, cap, cur, rfl, _⟩
  · exact absurd q hne
  · exact ⟨g, cap, rfl, (hlt g rfl).2, fun i hi => by rw [h.cellAt i (by omega), ic_at _ _ hi]⟩
end Go.Proofs.YtbknflckdbfogaaGreat
namespace Go.Proofs.YtbknflckdbfogaaGreat
open Go.RowKit
set_option linter.unusedVariables false

/-- What a row has: a weight by itself, or two items of the row ahead. -/
structure Itm where
  wt : Nat
  one : Bool
/-- Both lists as one. -/
def mrg : List Nat → List Nat → List Itm
  | [], [] => []
  | [], t :: ts => ⟨t, false⟩ :: mrg [] ts
  | w :: ws, [] => ⟨w, true⟩ :: mrg ws []
  | w :: ws, t :: ts => if w ≤ t then ⟨w, true⟩ :: mrg ws (t :: ts) else ⟨t, false⟩ :: mrg (w :: ws) ts
termination_by ws ts => ws.length + ts.length
theorem mrg_len : ∀ ws ts, (mrg ws ts).length = ws.length + ts.length
  | [], [] => by rw [mrg]; rfl
  | [], t :: ts => by rw [mrg, List.length_cons, mrg_len [] ts]; simp
  | w :: ws, [] => by rw [mrg, List.length_cons, mrg_len ws []]; simp
  | w :: ws, t :: ts => by
    rw [mrg]
    split
    · rw [List.length_cons, mrg_len ws (t :: ts)]; simp; omega
    · rw [List.length_cons, mrg_len (w :: ws) ts]; simp; omega
termination_by ws ts => ws.length + ts.length
/-- How many of the first c are by themselves. -/
def ones : List Itm → Nat → Nat
  | _, 0 => 0
  | [], _ + 1 => 0
  | x :: l, c + 1 => (if x.one then 1 else 0) + ones l c
theorem ones_le : ∀ (l : List Itm) (c : Nat), ones l c ≤ c
  | _, 0 => by simp [ones]
  | [], c + 1 => by simp [ones]
  | x :: l, c + 1 => by
    have := ones_le l c
    rw [ones]; split <;> omega
/-- Rising. -/
def Rising : List Nat → Prop
  | [] => True
  | w :: ws => (∀ v ∈ ws, w ≤ v) ∧ Rising ws
/-- Among the first ones there are at most all by themselves, and at most all pairs. -/
theorem ones_parts : ∀ (ws ts : List Nat) (c : Nat), c ≤ ws.length + ts.length → ones (mrg ws ts) c ≤ ws.length ∧ c ≤ ones (mrg ws ts) c + ts.length
  | ws, ts, 0, _ => by simp [ones]
  | [], [], c + 1, h => by simp at h
  | [], t :: ts, c + 1, h => by
    have := ones_parts [] ts c (by simpa using h)
    rw [mrg, ones]; simp at this ⊢; omega
  | w :: ws, [], c + 1, h => by
    have := ones_parts ws [] c (by simpa using h)
    rw [mrg, ones]; simp at this ⊢; omega
  | w :: ws, t :: ts, c + 1, h => by
    rw [mrg]
    split
    · have := ones_parts ws (t :: ts) c (by simp at h ⊢; omega)
      rw [ones]; simp at this ⊢; omega
    · have := ones_parts (w :: ws) ts c (by simp at h ⊢; omega)
      rw [ones]; simp at this ⊢; omega
termination_by ws ts => ws.length + ts.length
/-- Of a weight that isn't above a pair's the single stands ahead of that pair. -/
theorem ones_ahead : ∀ (ws ts : List Nat) (c j q : Nat), Rising ws → c ≤ ws.length + ts.length → j < ws.length → ws.getD j 0 ≤ ts.getD q 0 → q < ts.length → ones (mrg ws ts) c + q < c → j < ones (mrg ws ts) c
  | ws, ts, 0, j, q, _, _, _, _, _, h => by omega
  | [], ts, c + 1, j, q, _, _, hj, _, _, _ => by simp at hj
  | w :: ws, [], c + 1, j, q, _, _, _, _, hq, _ => by simp at hq
  | w :: ws, t :: ts, c + 1, j, q, hR, hc, hj, hle, hq, h => by
    rw [mrg] at h ⊢
    by_cases hwt : w ≤ t
    · rw [if_pos hwt, ones] at h ⊢
      simp only [if_true] at h ⊢
      match j with
      | 0 => omega
      | j + 1 =>
        have := ones_ahead ws (t :: ts) c j q hR.2 (by simp at hc ⊢; omega) (by simpa using hj) (by simpa using hle) hq (by omega)
        omega
    · rw [if_neg hwt, ones] at h ⊢
      simp only [Bool.false_eq_true, if_false] at h ⊢
      match q with
      | 0 =>
        exfalso
        have hw : w ≤ (w :: ws).getD j 0 := by
          match j with
          | 0 => simp
          | j + 1 =>
            have hj' : j < ws.length := by simpa using hj
            have : (w :: ws).getD (j + 1) 0 = ws[j] := by simp [List.getD_eq_getElem?_getD, hj']
            rw [this]
            exact hR.1 _ (List.getElem_mem hj')
        simp at hle
        have h2 : (w :: ws).getD j 0 ≤ t := by simpa [List.getD_eq_getElem?_getD] using hle
        omega
      | q + 1 =>
        have := ones_ahead (w :: ws) ts c j q hR (by simp at hc ⊢; omega) hj (by simpa using hle) (by simpa using hq) (by omega)
        omega
termination_by ws ts => ws.length + ts.length
/-- The last one of the first c that is by itself. -/
theorem ones_last : ∀ (ws ts : List Nat) (c : Nat), 0 < ones (mrg ws ts) c → ∃ i, i < c ∧ (mrg ws ts)[i]? = some ⟨ws.getD (ones (mrg ws ts) c - 1) 0, true⟩
  | ws, ts, 0, h => by simp [ones] at h
  | [], [], c + 1, h => by rw [mrg] at h; simp [ones] at h
  | [], t :: ts, c + 1, h => by
    rw [mrg, ones] at h ⊢
    simp only [Bool.false_eq_true, if_false, Nat.zero_add] at h ⊢
    obtain ⟨i, hi, he⟩ := ones_last [] ts c h
    exact ⟨i + 1, by omega, by simpa using he⟩
  | w :: ws, [], c + 1, h => by
    rw [mrg, ones] at h ⊢
    simp only [if_true] at h ⊢
    by_cases h0 : 0 < ones (mrg ws []) c
    · obtain ⟨i, hi, he⟩ := ones_last ws [] c h0
      refine ⟨i + 1, by omega, ?_⟩
      rw [List.getElem?_cons_succ, he]
      congr 2
      rw [show 1 + ones (mrg ws []) c - 1 = (ones (mrg ws []) c - 1) + 1 by omega]
      simp
    · have e : ones (mrg ws []) c = 0 := by omega
      rw [e]
      exact ⟨0, by omega, rfl⟩
  | w :: ws, t :: ts, c + 1, h => by
    rw [mrg] at h ⊢
    by_cases hwt : w ≤ t
    · rw [if_pos hwt, ones] at h ⊢
      simp only [if_true] at h ⊢
      by_cases h0 : 0 < ones (mrg ws (t :: ts)) c
      · obtain ⟨i, hi, he⟩ := ones_last ws (t :: ts) c h0
        refine ⟨i + 1, by omega, ?_⟩
        rw [List.getElem?_cons_succ, he]
        congr 2
        rw [show 1 + ones (mrg ws (t :: ts)) c - 1 = (ones (mrg ws (t :: ts)) c - 1) + 1 by omega]
        simp
      · have e : ones (mrg ws (t :: ts)) c = 0 := by omega
        rw [e]
        exact ⟨0, by omega, rfl⟩
    · rw [if_neg hwt, ones] at h ⊢
      simp only [Bool.false_eq_true, if_false, Nat.zero_add] at h ⊢
      obtain ⟨i, hi, he⟩ := ones_last (w :: ws) ts c h
      exact ⟨i + 1, by omega, by simpa using he⟩
termination_by ws ts => ws.length + ts.length
/-- The weights of each two. -/
def prs : List Itm → List Nat
  | x :: y :: l => (x.wt + y.wt) :: prs l
  | _ => []
theorem prs_len : ∀ l : List Itm, (prs l).length = l.length / 2
  | [] => rfl
  | [x] => by simp [prs]
  | x :: y :: l => by rw [prs, List.length_cons, prs_len l]; simp; omega
theorem prs_at : ∀ (l : List Itm) (i : Nat) (x : Itm), l[i]? = some x → i / 2 < l.length / 2 → x.wt ≤ (prs l).getD (i / 2) 0
  | [], i, x, h, _ => by simp at h
  | [y], i, x, h, h2 => by simp at h2
  | y :: z :: l, 0, x, h, _ => by simp at h; subst h; rw [prs]; simp
  | y :: z :: l, 1, x, h, _ => by simp at h; subst h; rw [prs]; simp
  | y :: z :: l, i + 2, x, h, h2 => by
    have := prs_at l i x (by simpa using h) (by simp at h2; omega)
    rw [prs, show (i + 2) / 2 = i / 2 + 1 by omega]
    simpa using this
/-- The rows. -/
def rowK (ws : List Nat) : Nat → List Itm
  | 0 => []
  | i + 1 => mrg ws (prs (rowK ws i))
theorem rowK_eq (ws : List Nat) (i : Nat) : mrg ws (prs (rowK ws i)) = rowK ws (i + 1) := rfl
theorem rowK_len (ws : List Nat) (i : Nat) : (rowK ws (i + 1)).length = ws.length + (rowK ws i).length / 2 := by rw [rowK, mrg_len, prs_len]
/-- Of c that are chosen in row i + 1: how many are chosen in row i. -/
def nextC (ws : List Nat) (i c : Nat) : Nat := 2 * (c - ones (rowK ws (i + 1)) c)
theorem nextC_le {ws : List Nat} {i c : Nat} (h : c ≤ (rowK ws (i + 1)).length) : nextC ws i c ≤ (rowK ws i).length := by
  rw [rowK_len] at h
  have := (ones_parts ws (prs (rowK ws i)) c (by rw [prs_len]; exact h)).2
  rw [prs_len] at this
  unfold nextC
  rw [rowK]
  omega
/-- Who is chosen in a row is chosen in the next one. -/
theorem ones_mono {ws : List Nat} (hR : Rising ws) {i c : Nat} (h : c ≤ (rowK ws (i + 1 + 1)).length) : ones (rowK ws (i + 1)) (nextC ws (i + 1) c) ≤ ones (rowK ws (i + 1 + 1)) c := by
  have hle := nextC_le h
  by_cases h0 : 0 < ones (rowK ws (i + 1)) (nextC ws (i + 1) c)
  · have hl := ones_last ws (prs (rowK ws i)) (nextC ws (i + 1) c) (by rw [rowK_eq]; exact h0)
    rw [rowK_eq] at hl
    obtain ⟨idx, hidx, he⟩ := hl
    have hp := (ones_parts ws (prs (rowK ws i)) (nextC ws (i + 1) c) (by rw [← mrg_len, rowK_eq]; exact hle)).1
    rw [rowK_eq] at hp
    have hnc : nextC ws (i + 1) c = 2 * (c - ones (rowK ws (i + 1 + 1)) c) := rfl
    have hlt : idx / 2 < (rowK ws (i + 1)).length / 2 := by
      rw [hnc] at hidx hle
      omega
    have hw := prs_at (rowK ws (i + 1)) idx _ he hlt
    simp only at hw
    have ha := ones_ahead ws (prs (rowK ws (i + 1))) c (ones (rowK ws (i + 1)) (nextC ws (i + 1) c) - 1) (idx / 2) hR (by rw [← mrg_len, rowK_eq]; exact h) (by omega) hw (by rw [prs_len]; exact hlt) (by rw [rowK_eq]; rw [hnc] at hidx; omega)
    rw [rowK_eq] at ha
    omega
  · omega
/-- All that is chosen from row i on down, each by its width. -/
def totK (ws : List Nat) : Nat → Nat → Nat
  | 0, _ => 0
  | i + 1, c => ones (rowK ws (i + 1)) c * 2 ^ i + totK ws i (nextC ws i c)
theorem totK_all (ws : List Nat) : ∀ i c, c ≤ (rowK ws i).length → 2 * totK ws i c = c * 2 ^ i
  | 0, c, h => by simp [rowK] at h; subst h; rfl
  | i + 1, c, h => by
    have h1 := totK_all ws i (nextC ws i c) (nextC_le h)
    have h2 := ones_le (rowK ws (i + 1)) c
    rw [totK, Nat.mul_add, h1]
    unfold nextC
    obtain ⟨d, hd⟩ : ∃ d, c = ones (rowK ws (i + 1)) c + d := ⟨c - ones (rowK ws (i + 1)) c, by omega⟩
    generalize ones (rowK ws (i + 1)) c = s at *
    subst hd
    rw [Nat.add_sub_cancel_left, Nat.pow_succ]
    have e1 : 2 * (s * 2 ^ i) = s * (2 ^ i * 2) := by rw [Nat.mul_comm 2, Nat.mul_assoc]
    have e2 : 2 * d * 2 ^ i = d * (2 ^ i * 2) := by rw [Nat.mul_comm 2 d, Nat.mul_assoc, Nat.mul_comm 2]
    rw [e1, e2, ← Nat.add_mul]
/-- The length of the j-th weight's code. -/
def outK (ws : List Nat) (j : Nat) : Nat → Nat → Nat
  | 0, _ => 0
  | i + 1, c => (if j < ones (rowK ws (i + 1)) c then 1 else 0) + outK ws j i (nextC ws i c)
theorem outK_le (ws : List Nat) (j : Nat) : ∀ i c, outK ws j i c ≤ i
  | 0, c => Nat.le_refl _
  | i + 1, c => by
    have := outK_le ws j i (nextC ws i c)
    rw [outK]; split <;> omega
theorem outK_none {ws : List Nat} (hR : Rising ws) (j : Nat) : ∀ i c, c ≤ (rowK ws (i + 1)).length → ones (rowK ws (i + 1)) c ≤ j → outK ws j (i + 1) c = 0
  | 0, c, h, h0 => by rw [outK, if_neg (by omega)]; rfl
  | i + 1, c, h, h0 => by
    rw [outK, if_neg (by omega), Nat.zero_add]
    exact outK_none hR j i _ (nextC_le h) (Nat.le_trans (ones_mono hR h) h0)
/-- What the j-th weight takes of it. -/
def widK (ws : List Nat) (j : Nat) : Nat → Nat → Nat
  | 0, _ => 0
  | i + 1, c => (if j < ones (rowK ws (i + 1)) c then 2 ^ i else 0) + widK ws j i (nextC ws i c)
theorem widK_none {ws : List Nat} (hR : Rising ws) (j : Nat) : ∀ i c, c ≤ (rowK ws (i + 1)).length → ones (rowK ws (i + 1)) c ≤ j → widK ws j (i + 1) c = 0
  | 0, c, h, h0 => by rw [widK, if_neg (by omega)]; rfl
  | i + 1, c, h, h0 => by
    rw [widK, if_neg (by omega), Nat.zero_add]
    exact widK_none hR j i _ (nextC_le h) (Nat.le_trans (ones_mono hR h) h0)
theorem widK_out {ws : List Nat} (hR : Rising ws) (j : Nat) : ∀ i c, c ≤ (rowK ws i).length → widK ws j i c + 2 ^ (i - outK ws j i c) = 2 ^ i
  | 0, c, h => rfl
  | i + 1, c, h => by
    by_cases hj : j < ones (rowK ws (i + 1)) c
    · have ih := widK_out hR j i _ (nextC_le h)
      have ho := outK_le ws j i (nextC ws i c)
      rw [widK, outK, if_pos hj, if_pos hj, show i + 1 - (1 + outK ws j i (nextC ws i c)) = i - outK ws j i (nextC ws i c) by omega, Nat.pow_succ]
      omega
    · rw [widK_none hR j i c h (by omega), outK_none hR j i c h (by omega)]; simp
/-- The sum over the first n. -/
def sumK (f : Nat → Nat) : Nat → Nat
  | 0 => 0
  | n + 1 => sumK f n + f n
theorem sumK_add (f g : Nat → Nat) : ∀ n, sumK (fun j => f j + g j) n = sumK f n + sumK g n
  | 0 => rfl
  | n + 1 => by rw [sumK, sumK, sumK, sumK_add f g n]; omega
theorem sumK_const (a : Nat) : ∀ n, sumK (fun _ => a) n = n * a
  | 0 => by simp [sumK]
  | n + 1 => by rw [sumK, sumK_const a n, Nat.succ_mul]
theorem sumK_below (a s : Nat) : ∀ n, sumK (fun j => if j < s then a else 0) n = min s n * a
  | 0 => by simp [sumK]
  | n + 1 => by
    rw [sumK, sumK_below a s n]
    by_cases h : n < s
    · rw [if_pos h, show min s (n + 1) = min s n + 1 by omega, Nat.succ_mul]
    · rw [if_neg h, show min s (n + 1) = min s n by omega]; omega
theorem sumK_congr {f g : Nat → Nat} : ∀ n, (∀ j, j < n → f j = g j) → sumK f n = sumK g n
  | 0, _ => rfl
  | n + 1, h => by rw [sumK, sumK, sumK_congr n (fun j hj => h j (by omega)), h n (by omega)]
theorem wid_tot (ws : List Nat) : ∀ i c, c ≤ (rowK ws i).length → sumK (fun j => widK ws j i c) ws.length = totK ws i c
  | 0, c, _ => by show sumK (fun _ => 0) _ = 0; rw [sumK_const]; omega
  | i + 1, c, h => by
    have h1 := wid_tot ws i _ (nextC_le h)
    have hp := (ones_parts ws (prs (rowK ws i)) c (by rw [← mrg_len, rowK_eq]; exact h)).1
    rw [rowK_eq] at hp
    show sumK (fun j => (if j < ones (rowK ws (i + 1)) c then 2 ^ i else 0) + widK ws j i (nextC ws i c)) ws.length = _
    rw [sumK_add, h1, sumK_below, Nat.min_eq_left hp, totK]
/-- How many a row has: 2 n less n over 2^i, upwards. -/
theorem rowK_size (ws : List Nat) : ∀ i, (rowK ws (i + 1)).length + (ws.length + (2 ^ i - 1)) / 2 ^ i = 2 * ws.length
  | 0 => by rw [rowK_len]; simp [rowK]; omega
  | i + 1 => by
    have ih := rowK_size ws i
    rw [rowK_len]
    have hp : 0 < 2 ^ i := Nat.two_pow_pos i
    have e : (ws.length + (2 ^ (i + 1) - 1)) / 2 ^ (i + 1) = ((ws.length + (2 ^ i - 1)) / 2 ^ i + 1) / 2 := by
      rw [Nat.pow_succ, ← Nat.div_div_eq_div_mul]
      congr 1
      rw [show ws.length + (2 ^ i * 2 - 1) = (ws.length + (2 ^ i - 1)) + 2 ^ i by omega, Nat.add_div_right _ hp]
    rw [e]
    omega
theorem row_enough {ws : List Nat} {most : Nat} (h2 : ws.length ≤ 2 ^ most) (h1 : 1 ≤ most) : 2 * ws.length - 2 ≤ (rowK ws most).length := by
  obtain ⟨i, rfl⟩ : ∃ i, most = i + 1 := ⟨most - 1, by omega⟩
  have h := rowK_size ws i
  have hp : 0 < 2 ^ i := Nat.two_pow_pos i
  have : (ws.length + (2 ^ i - 1)) / 2 ^ i ≤ 2 := by
    have : (ws.length + (2 ^ i - 1)) / 2 ^ i < 3 := by
      rw [Nat.div_lt_iff_lt_mul hp]
      rw [Nat.pow_succ] at h2
      omega
    omega
  omega
/-- The lengths of the package-merge way. -/
def lenK (ws : List Nat) (most j : Nat) : Nat := outK ws j most (2 * ws.length - 2)
theorem lenK_le (ws : List Nat) (most j : Nat) : lenK ws most j ≤ most := outK_le ws j most _
/-- Their parts come to a whole. -/
theorem lenK_whole {ws : List Nat} (hR : Rising ws) {most : Nat} (h0 : 1 ≤ ws.length) (h1 : 1 ≤ most) (h2 : ws.length ≤ 2 ^ most) : sumK (fun j => 2 ^ (most - lenK ws most j)) ws.length = 2 ^ most := by
  have hc := row_enough h2 h1
  have ht := totK_all ws most _ hc
  have hw := wid_tot ws most _ hc
  have hs : sumK (fun j => widK ws j most (2 * ws.length - 2) + 2 ^ (most - lenK ws most j)) ws.length = ws.length * 2 ^ most := by
    unfold lenK
    rw [sumK_congr (g := fun _ => 2 ^ most) _ (fun j _ => widK_out hR j most _ hc), sumK_const]
  rw [sumK_add, hw] at hs
  have e : 2 * totK ws most (2 * ws.length - 2) = 2 * ((ws.length - 1) * 2 ^ most) := by
    rw [ht, ← Nat.mul_assoc, show 2 * ws.length - 2 = 2 * (ws.length - 1) by omega]
  have e2 : ws.length * 2 ^ most = (ws.length - 1) * 2 ^ most + 2 ^ most := by
    obtain ⟨n, hn⟩ : ∃ n, ws.length = n + 1 := ⟨ws.length - 1, by omega⟩
    rw [hn, Nat.add_sub_cancel, Nat.succ_mul]
  omega
theorem sumK_le {f : Nat → Nat} : ∀ n j, j < n → f j ≤ sumK f n
  | 0, j, h => by omega
  | n + 1, j, h => by
    rw [sumK]
    by_cases e : j = n
    · subst e; omega
    · have := sumK_le (f := f) n j (by omega); omega
theorem sumK_two {f : Nat → Nat} : ∀ n j k, j < n → k < n → j ≠ k → f j + f k ≤ sumK f n
  | 0, j, k, h, _, _ => by omega
  | n + 1, j, k, h, hk, hne => by
    rw [sumK]
    by_cases e : j = n
    · subst e; have := sumK_le (f := f) j k (by omega); omega
    · by_cases e2 : k = n
      · subst e2; have := sumK_le (f := f) k j (by omega); omega
      · have := sumK_two (f := f) n j k (by omega) (by omega) hne; omega
/-- Each is at least 1. -/
theorem lenK_pos {ws : List Nat} (hR : Rising ws) {most j : Nat} (h0 : 2 ≤ ws.length) (h1 : 1 ≤ most) (h2 : ws.length ≤ 2 ^ most) (hj : j < ws.length) : 1 ≤ lenK ws most j := by
  have hw := lenK_whole hR (by omega) h1 h2
  by_cases h : 1 ≤ lenK ws most j
  · exact h
  · exfalso
    have e : lenK ws most j = 0 := by omega
    obtain ⟨k, hk, hne⟩ : ∃ k, k < ws.length ∧ j ≠ k := by
      by_cases h : j = 0
      · exact ⟨1, by omega, by omega⟩
      · exact ⟨0, by omega, h⟩
    have := sumK_two (f := fun j => 2 ^ (most - lenK ws most j)) ws.length j k hj hk hne
    simp only [e, Nat.sub_zero] at this
    have hp : 0 < 2 ^ (most - lenK ws most k) := Nat.two_pow_pos _
    omega
end Go.Proofs.YtbknflckdbfogaaGreat
namespace Go.Proofs.YtbknflckdbfogaaGreat
open Go.RowKit
set_option linter.unusedVariables false

/-- Numbers as lengths. -/
def toN (zs : List Int) : List Nat := zs.map Int.toNat
theorem toN_len (zs : List Int) : (toN zs).length = zs.length := by simp [toN]
theorem toN_ln (zs : List Int) (i : Nat) (hi : i < zs.length) (h0 : 0 ≤ zs.getD i 0) : ((ln (toN zs) i : Nat) : Int) = zs.getD i 0 := by
  have e : ln (toN zs) i = (zs.getD i 0).toNat := by
    unfold ln toN
    rw [List.getD_eq_getElem?_getD, List.getD_eq_getElem?_getD, List.getElem?_map, List.getElem?_eq_getElem hi]; rfl
  rw [e]; omega
/-- All of 0 to 15? -/
def in15 (zs : List Int) : Prop := ∀ i, i < zs.length → 0 ≤ zs.getD i 0 ∧ zs.getD i 0 ≤ 15
theorem in15.all {zs : List Int} (h : in15 zs) : all15 (toN zs) := by
  intro n hn
  unfold toN at hn
  obtain ⟨z, hz, rfl⟩ := List.mem_map.1 hn
  obtain ⟨i, hi, rfl⟩ := List.getElem_of_mem hz
  have := h i hi
  rw [List.getD_eq_getElem?_getD, List.getElem?_eq_getElem hi] at this
  simp at this
  omega
theorem usedK_le (ns : List Nat) : ∀ k, usedK ns k ≤ k
  | 0 => Nat.le_refl _
  | k + 1 => by have := usedK_le ns k; rw [usedK]; split <;> omega
theorem allP_le (ns : List Nat) : ∀ k, allP ns k ≤ k * 16384
  | 0 => Nat.zero_le _
  | k + 1 => by
    have h := allP_le ns k
    unfold allP at h ⊢
    rw [partP, Nat.succ_mul]
    by_cases h1 : 0 < ln ns k ∧ (fun _ => true) k = true
    · rw [if_pos h1]
      have h14 : 2 ^ (15 - ln ns k) ≤ 16384 := Nat.pow_le_pow_right (n := 2) (i := 15 - ln ns k) (j := 14) (by decide) (by omega)
      exact Nat.add_le_add h h14
    · rw [if_neg h1]; exact Nat.le_trans h (Nat.le_add_right _ _)
theorem shr15 (n : Nat) (h : n ≤ 15) : (32768 : Int) / 2 ^ n = ((2 ^ (15 - n) : Nat) : Int) := by
  have e : (32768 : Nat) = 2 ^ (15 - n) * 2 ^ n := by rw [← Nat.pow_add, show 15 - n + n = 15 by omega]
  have e2 : (32768 : Nat) / 2 ^ n = 2 ^ (15 - n) := by rw [e, Nat.mul_div_cancel _ (Nat.two_pow_pos _)]
  have e3 : (32768 : Int) / 2 ^ n = ((32768 / 2 ^ n : Nat) : Int) := by simp
  rw [e3, e2]
set_option maxRecDepth 100000 in
set_option maxHeartbeats 1000000 in
theorem fit_anyO (v : Value) (zs : List Int) (w : World) (hR : IQ w v zs) (hl : zs.length ≤ 400) (h15 : in15 zs) :
    Calls Tryz.prog 121 #[v] w fun e w' => e = .returned (.bool (fitB (toN zs))) ∧ w' = w := by
  obtain ⟨g, o, cap, rfl, hg, hc⟩ := hR
  have HC : Hid (∀ i, i < zs.length → w.cell? ⟨g, o + i, none⟩ = some (.int .i64 (zs.getD i 0))) := hc
  have H15 : Hid (in15 zs) := h15
  clear hc h15
  have HU : Hid (∀ k, usedK (toN zs) k ≤ k) := usedK_le (toN zs)
  have HP : Hid (∀ k, allP (toN zs) k ≤ k * 16384) := allP_le (toN zs)
  have HF : Hid (fitB (toN zs) = if usedK (toN zs) zs.length = 0 then true else if usedK (toN zs) zs.length = 1 then allP (toN zs) zs.length == 16384 else allP (toN zs) zs.length == 32768) := by
    unfold Hid fitB; rw [toN_len]
  go_enter Tryz.func121, Tryz.ntmps121
  go_wp2
  go_loop [3, 4, 9] (fun u p i => ∃ k : Nat, k ≤ zs.length ∧ i = .int .i64 (k : Int) ∧ u = .int .i64 (usedK (toN zs) k : Int) ∧ p = .int .i64 (allP (toN zs) k : Int)) (fun _ _ i => zs.length - (intOf i).toNat)
  case atStart => exact ⟨0, by omega, rfl, rfl, rfl⟩
  case round =>
    obtain ⟨k, hk, rfl, rfl, rfl⟩ := hrel
    have hu := HU.out k
    have hp := HP.out k
    by_cases hlt : k < zs.length
    · have hck := HC.out k hlt
      obtain ⟨z0, z15⟩ := H15.out k hlt
      have hln := toN_ln zs k hlt z0
      have HUs : Hid (usedK (toN zs) (k + 1) = usedK (toN zs) k + if 0 < ln (toN zs) k then 1 else 0) := rfl
      have HPs : Hid (allP (toN zs) (k + 1) = allP (toN zs) k + if 0 < ln (toN zs) k ∧ (fun _ => true) k = true then 2 ^ (15 - ln (toN zs) k) else 0) := rfl
      generalize usedK (toN zs) k = U at *
      generalize allP (toN zs) k = P at *
      generalize ln (toN zs) k = n at *
      rw [← hln] at hck z0 z15
      clear hln
      have hki : (k : Int) < (zs.length : Int) := by omega
      have hki0 : (0 : Int) ≤ (k : Int) := by omega
      by_cases hn0 : 0 < n
      · have hs := shr15 n (by omega)
        have h14 : 2 ^ (15 - n) ≤ 16384 := Nat.pow_le_pow_right (n := 2) (i := 15 - n) (j := 14) (by decide) (by omega)
        have hni : (0 : Int) < (n : Int) := by omega
        generalize 2 ^ (15 - n) = Q at *
        go_wp2
        go_round
        case rel => exact ⟨k + 1, by omega, by go_num, by rw [HUs.out, if_pos hn0]; rfl, by rw [HPs.out, if_pos ⟨hn0, rfl⟩]; rfl⟩
        case measure => simp [intOf]; omega
      · have hni : ¬ (0 : Int) < (n : Int) := by omega
        go_wp2
        go_round
        case rel => exact ⟨k + 1, by omega, by go_num, by rw [HUs.out, if_neg hn0]; rfl, by rw [HPs.out, if_neg (fun h => hn0 h.1)]; rfl⟩
        case measure => simp [intOf]; omega
    · obtain rfl : k = zs.length := by omega
      generalize usedK (toN zs) zs.length = U at *
      generalize allP (toN zs) zs.length = P at *
      by_cases h0 : U = 0
      · subst h0
        go_wp2
        go_ret
        exact ⟨by rw [HF.out]; rfl, rfl⟩
      · have h0i : ((U : Int) == 0) = false := by simp; omega
        by_cases h1 : U = 1
        · subst h1
          go_wp2
          go_ret
          refine ⟨?_, rfl⟩
          rw [HF.out, if_neg h0]
          simp only [if_true]
          show Ending.returned (.bool ((P : Int) == 16384)) = _
          congr 2
          rw [Bool.eq_iff_iff]; simp; omega
        · have h1i : ((U : Int) == 1) = false := by simp; omega
          go_wp2
          go_ret
          refine ⟨?_, rfl⟩
          rw [HF.out, if_neg h0, if_neg h1]
          show Ending.returned (.bool ((P : Int) == 32768)) = _
          congr 2
          rw [Bool.eq_iff_iff]; simp; omega
instance (zs : List Int) : Decidable (in15 zs) := by unfold in15; infer_instance
/-- The error's number of lengths. -/
def errN (zs : List Int) : Nat := if 320 < zs.length then 2 else if in15 zs then (if fitB (toN zs) = true then 0 else 4) else 1
theorem errN_big {zs : List Int} (h : 320 < zs.length) : errN zs = 2 := by unfold errN; rw [if_pos h]
theorem errN_arg {zs : List Int} (h : ¬ 320 < zs.length) (h2 : ¬ in15 zs) : errN zs = 1 := by unfold errN; rw [if_neg h, if_neg h2]
theorem errN_form {zs : List Int} (h : ¬ 320 < zs.length) (h2 : in15 zs) (h3 : fitB (toN zs) = false) : errN zs = 4 := by unfold errN; rw [if_neg h, if_pos h2, if_neg (by rw [h3]; simp)]
theorem errN_ok {zs : List Int} (h : ¬ 320 < zs.length) (h2 : in15 zs) (h3 : fitB (toN zs) = true) : errN zs = 0 := by unfold errN; rw [if_neg h, if_pos h2, if_pos h3]
theorem errN_zero {zs : List Int} (h : errN zs = 0) : zs.length ≤ 320 ∧ in15 zs ∧ fitB (toN zs) = true := by
  unfold errN at h
  split at h
  · omega
  · rename_i h1
    split at h
    · rename_i h2
      split at h
      · rename_i h3; exact ⟨by omega, h2, h3⟩
      · omega
    · omega
/-- The first one that isn't of 0 to 15, or none. -/
theorem not15 {zs : List Int} (h : ¬ in15 zs) : ∃ k, k < zs.length ∧ (zs.getD k 0 < 0 ∨ 15 < zs.getD k 0) ∧ ∀ i, i < k → 0 ≤ zs.getD i 0 ∧ zs.getD i 0 ≤ 15 := by
  have key : ∀ n, n ≤ zs.length → (∀ i, i < n → 0 ≤ zs.getD i 0 ∧ zs.getD i 0 ≤ 15) ∨ ∃ k, k < n ∧ (zs.getD k 0 < 0 ∨ 15 < zs.getD k 0) ∧ ∀ i, i < k → 0 ≤ zs.getD i 0 ∧ zs.getD i 0 ≤ 15 := by
    intro n
    induction n with
    | zero => intro _; exact .inl fun i hi => by omega
    | succ n ih =>
      intro hn
      rcases ih (by omega) with h1 | ⟨k, hk, h2, h3⟩
      · by_cases h2 : 0 ≤ zs.getD n 0 ∧ zs.getD n 0 ≤ 15
        · exact .inl fun i hi => by
            by_cases e : i = n
            · subst e; exact h2
            · exact h1 i (by omega)
        · exact .inr ⟨n, by omega, by omega, h1⟩
      · exact .inr ⟨k, by omega, h2, h3⟩
  rcases key zs.length (Nat.le_refl _) with h1 | ⟨k, h2⟩
  · exact absurd h1 h
  · exact ⟨k, h2⟩
set_option maxRecDepth 100000 in
set_option maxHeartbeats 1000000 in
theorem check_anyO (v : Value) (zs : List Int) (w : World) (hR : IQ w v zs) (hl : zs.length ≤ 400) :
    Calls Tryz.prog 110 #[v] w fun e w' => e = .returned (.int .i64 (errN zs : Int)) ∧ w' = w := by
  have HR : Hid (IQ w v zs) := hR
  obtain ⟨g, o, cap, rfl, hg, hc⟩ := hR
  have HC : Hid (∀ i, i < zs.length → w.cell? ⟨g, o + i, none⟩ = some (.int .i64 (zs.getD i 0))) := hc
  clear hc
  by_cases hb : 320 < zs.length
  · have hbi : (320 : Int) < (zs.length : Int) := by omega
    have HE : Hid (_ = _) := errN_big hb
    go_enter Tryz.func110, Tryz.ntmps110
    go_wp2
    go_ret
    exact ⟨by rw [HE.out]; rfl, rfl⟩
  have hbi : ¬ (320 : Int) < (zs.length : Int) := by omega
  by_cases hin : in15 zs
  · have HIN : Hid (in15 zs) := hin
    have HFI : Hid (Calls Tryz.prog 121 #[.slice (some ⟨g, o, none⟩) zs.length cap] w fun e w' => e = .returned (.bool (fitB (toN zs))) ∧ w' = w) := fit_anyO _ zs w HR.out hl hin
    have HE0 : Hid (fitB (toN zs) = true → _ = _) := errN_ok hb hin
    have HE4 : Hid (fitB (toN zs) = false → _ = _) := errN_form hb hin
    clear hin
    go_enter Tryz.func110, Tryz.ntmps110
    go_wp2
    go_loop [10] (fun i => ∃ k : Nat, k ≤ zs.length ∧ i = .int .i64 (k : Int)) (fun i => zs.length - (intOf i).toNat)
    case atStart => exact ⟨0, by omega, rfl⟩
    case round =>
      obtain ⟨k, hk, rfl⟩ := hrel
      by_cases hlt : k < zs.length
      · have hck := HC.out k hlt
        obtain ⟨z0, z15⟩ := HIN.out k hlt
        generalize zs.getD k 0 = z at *
        have hki : (k : Int) < (zs.length : Int) := by omega
        have hki0 : (0 : Int) ≤ (k : Int) := by omega
        go_wp2
        go_round
        case rel => exact ⟨k + 1, by omega, by go_num⟩
        case measure => simp [intOf]; omega
      · obtain rfl : k = zs.length := by omega
        cases hF : fitB (toN zs)
        all_goals
          rw [hF] at HFI
          go_wp2_with fail
          refine HFI.out.mono ?_
          rintro e w1 ⟨rfl, rfl⟩
          go_wp2
          go_ret
          first | exact ⟨by rw [HE4.out hF]; rfl, rfl⟩ | exact ⟨by rw [HE0.out hF]; rfl, rfl⟩
  · have HE : Hid (_ = _) := errN_arg hb hin
    obtain ⟨K, hK, hbad, hgood⟩ := not15 hin
    have HG : Hid (∀ i, i < K → 0 ≤ zs.getD i 0 ∧ zs.getD i 0 ≤ 15) := hgood
    clear hin hgood
    go_enter Tryz.func110, Tryz.ntmps110
    go_wp2
    go_loop [10] (fun i => ∃ k : Nat, k ≤ K ∧ i = .int .i64 (k : Int)) (fun i => zs.length - (intOf i).toNat)
    case atStart => exact ⟨0, by omega, rfl⟩
    case round =>
      obtain ⟨k, hk, rfl⟩ := hrel
      have hck := HC.out k (by omega)
      have hki : (k : Int) < (zs.length : Int) := by omega
      have hki0 : (0 : Int) ≤ (k : Int) := by omega
      by_cases hlt : k < K
      · obtain ⟨z0, z15⟩ := HG.out k hlt
        clear hbad
        generalize zs.getD k 0 = z at *
        go_wp2
        go_round
        case rel => exact ⟨k + 1, by omega, by go_num⟩
        case measure => simp [intOf]; omega
      · obtain rfl : k = K := by omega
        generalize zs.getD k 0 = z at *
        rcases hbad with hbad | hbad
        · go_wp2
          go_ret
          exact ⟨by rw [HE.out]; rfl, rfl⟩
        · have hz0 : ¬ z < 0 := by omega
          go_wp2
          go_ret
          exact ⟨by rw [HE.out]; rfl, rfl⟩
theorem fit_any (v : Value) (zs : List Int) (w : World) (hR : IR w v zs) (hl : zs.length ≤ 400) (h15 : in15 zs) :
    Calls Tryz.prog 121 #[v] w fun e w' => e = .returned (.bool (fitB (toN zs))) ∧ w' = w :=
  fit_anyO v zs w hR.io hl h15
theorem check_any (v : Value) (zs : List Int) (w : World) (hR : IR w v zs) (hl : zs.length ≤ 400) :
    Calls Tryz.prog 110 #[v] w fun e w' => e = .returned (.int .i64 (errN zs : Int)) ∧ w' = w :=
  check_anyO v zs w hR.io hl
end Go.Proofs.YtbknflckdbfogaaGreat
