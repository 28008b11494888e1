/- Contracts of match.isToken, width, say and Expand. -/
import Derived.Test.YthkppipdflmekaaGreatQHuffM
import Derived.Deep.MidRow
import Derived.Test.YthkppipdflmekaaGreatRows
import Derived.Laws.OwnMore
import Derived.Laws.AppendOwnNone
import Derived.WalkSmall
import Derived.Test.YthkppipdflmekaaGreatQPutA
set_option maxRecDepth 100000
set_option maxHeartbeats 1000000
namespace Go.Proofs.YthkppipdflmekaaGreat
open Go.RowKit
set_option linter.unusedVariables false
theorem qf8 (g : Nat) (ty : TypeId) : ∀ (vs pre A post : List Value) (w : World), A.length = vs.length → w.heap[g]? = some (.cells (pre ++ A ++ post).toArray ty (0, 0)) →
    (w.setCells g pre.length vs).heap[g]? = some (.cells (pre ++ vs ++ post).toArray ty (0, 0))
 | [], pre, A, post, w, hl, h => by
  obtain rfl : A = [] := List.eq_nil_of_length_eq_zero hl
  exact h
 | v :: r, pre, A, post, w, hl, h => by
  obtain ⟨a, A', rfl⟩ : ∃ a A', A = a :: A' := by
   cases A with
   | nil => simp at hl
   | cons a A' => exact ⟨a, A', rfl⟩
  have h1 : (w.setCell ⟨g, pre.length, none⟩ v).heap[g]? = some (.cells ((pre ++ [v]) ++ A' ++ post).toArray ty (0, 0)) := by
   rw [heap_setCell_same _ _ _ _ _ _ h]
   congr 2
   apply Array.ext'
   rw [Array.toList_setIfInBounds]
   simp
  have h2 := qf8 g ty r (pre ++ [v]) A' post _ (by simpa using hl) h1
  rw [World.setCells]
  have e : (pre ++ [v]).length = pre.length + 1 := by simp
  rw [e] at h2
  rw [h2]
  simp
theorem qbs (g k : Nat) (hk : k ≠ g) : ∀ (vs : List Value) (o : Nat) (w : World), (w.setCells g o vs).heap[k]? = w.heap[k]?
 | [], _, _ => rfl
 | v :: r, o, w => by rw [World.setCells, qbs g k hk r, heap_setCell_other _ _ _ _ hk]
def eqN (z : Int) : List Int → Nat
 | [] => 0
 | y :: ys => if y = z then eqN z ys + 1 else 0
theorem q05 (z : Int) : ∀ zs : List Int, eqN z zs ≤ zs.length
 | [] => Nat.le_refl _
 | y :: ys => by
  unfold eqN
  have := q05 z ys
  split <;> simp <;> omega
theorem q06 (z : Int) : ∀ (zs : List Int) (n : Nat), n ≤ zs.length → (∀ j, j < n → zs.getD j 0 = z) → n ≤ eqN z zs
 | zs, 0, _, _ => Nat.zero_le _
 | [], n + 1, h, _ => by simp at h
 | y :: ys, n + 1, h, ha => by
  have h0 : y = z := ha 0 (Nat.succ_pos _)
  have := q06 z ys n (by simpa using h) (fun j hj => by simpa using ha (j + 1) (by omega))
  unfold eqN
  rw [if_pos h0]; omega
theorem qr4 (z : Int) : ∀ (zs : List Int) (n : Nat), n < zs.length → zs.getD n 0 ≠ z → eqN z zs ≤ n
 | [], n, h, _ => by simp at h
 | y :: ys, 0, _, hz => by
  unfold eqN
  rw [if_neg (by simpa using hz)]; exact Nat.le_refl _
 | y :: ys, n + 1, h, hz => by
  have := qr4 z ys n (by simpa using h) (by simpa using hz)
  unfold eqN
  split <;> omega
def eqs (zs : List Int) (i : Nat) : Nat := eqN (zs.getD i 0) (zs.drop i)
theorem qwv (zs : List Int) (i : Nat) : eqs zs i ≤ zs.length - i := by
 have := q05 (zs.getD i 0) (zs.drop i)
 rw [List.length_drop] at this; exact this
theorem qem (zs : List Int) (i j : Nat) : (zs.drop i).getD j 0 = zs.getD (i + j) 0 := by
 simp [List.getD_eq_getElem?_getD]
theorem q04 {zs : List Int} {i n : Nat} (h : i + n ≤ zs.length) (ha : ∀ j, j < n → zs.getD (i + j) 0 = zs.getD i 0) : n ≤ eqs zs i :=
 q06 _ _ _ (by rw [List.length_drop]; omega) (fun j hj => by rw [qem]; exact ha j hj)
theorem qzy {zs : List Int} {i n : Nat} (h : i + n < zs.length) (hz : zs.getD (i + n) 0 ≠ zs.getD i 0) : eqs zs i ≤ n :=
 qr4 _ _ _ (by rw [List.length_drop]; omega) (by rw [qem]; exact hz)
theorem qpl {zs : List Int} {i : Nat} (h : i < zs.length) : 1 ≤ eqs zs i :=
 q04 (by omega) (fun j hj => by obtain rfl : j = 0 := by omega
                                rfl)
structure Stp where
 sym : Int
 more : Int
def qfx (zs : List Int) (i : Nat) : Stp :=
 if zs.getD i 0 = 0 ∧ 11 ≤ eqs zs i then ⟨18, (min (eqs zs i) 138 : Nat) - 11⟩
 else if zs.getD i 0 = 0 ∧ 3 ≤ eqs zs i then ⟨17, (min (eqs zs i) 10 : Nat) - 3⟩
 else if 0 < i ∧ zs.getD (i - 1) 0 = zs.getD i 0 ∧ 3 ≤ eqs zs i then ⟨16, (min (eqs zs i) 6 : Nat) - 3⟩
 else ⟨zs.getD i 0, 0⟩
def qdn (zs : List Int) (i : Nat) : Nat :=
 if zs.getD i 0 = 0 ∧ 11 ≤ eqs zs i then min (eqs zs i) 138
 else if zs.getD i 0 = 0 ∧ 3 ≤ eqs zs i then min (eqs zs i) 10
 else if 0 < i ∧ zs.getD (i - 1) 0 = zs.getD i 0 ∧ 3 ≤ eqs zs i then min (eqs zs i) 6
 else 1
theorem qin (zs : List Int) (i : Nat) : 1 ≤ qdn zs i := by
 unfold qdn
 split
 · omega
 · split
   · omega
   · split <;> omega
theorem qlk {zs : List Int} {i : Nat} (h : i < zs.length) : i + qdn zs i ≤ zs.length := by
 have := qwv zs i
 unfold qdn
 split
 · omega
 · split
   · omega
   · split <;> omega
def stK (zs : List Int) : Nat → List Stp × Nat
 | 0 => ([], 0)
 | k + 1 => if (stK zs k).2 < zs.length then ((stK zs k).1 ++ [qfx zs (stK zs k).2], (stK zs k).2 + qdn zs (stK zs k).2) else stK zs k
theorem qk5 {zs : List Int} {k : Nat} (h : (stK zs k).2 < zs.length) : stK zs (k + 1) = ((stK zs k).1 ++ [qfx zs (stK zs k).2], (stK zs k).2 + qdn zs (stK zs k).2) := by
 rw [stK, if_pos h]
theorem qoo {zs : List Int} {k : Nat} (h : ¬ (stK zs k).2 < zs.length) : ∀ j, stK zs (k + j) = stK zs k
 | 0 => rfl
 | j + 1 => by rw [← Nat.add_assoc, stK, qoo h j, if_neg h]
theorem qie (zs : List Int) : ∀ k, (stK zs k).2 ≤ zs.length ∧ min k zs.length ≤ (stK zs k).2 ∧ (stK zs k).1.length ≤ (stK zs k).2
 | 0 => by simp [stK]
 | k + 1 => by
  have ⟨h1, h2, h3⟩ := qie zs k
  by_cases h : (stK zs k).2 < zs.length
  · rw [qk5 h]
    have := qin zs (stK zs k).2
    have := qlk h
    simp only [List.length_append, List.length_singleton]
    omega
  · rw [stK, if_neg h]; omega
def qca (zs : List Int) : List Stp := (stK zs zs.length).1
theorem q1z {zs : List Int} {k : Nat} (h : ¬ (stK zs k).2 < zs.length) : (stK zs k).1 = qca zs := by
 have h2 : ¬ (stK zs zs.length).2 < zs.length := by have := (qie zs zs.length).2.1; omega
 rcases Nat.le_total k zs.length with hk | hk
 · unfold qca
   rw [show zs.length = k + (zs.length - k) by omega, qoo h]
 · unfold qca
   rw [show k = zs.length + (k - zs.length) by omega, qoo h2]
def stc (l : List Stp) : List Value := l.flatMap fun s => [.int .i64 s.sym, .int .i64 s.more]
theorem q1y (l : List Stp) : (stc l).length = l.length * 2 := by
 induction l with
 | nil => rfl
 | cons a l ih => rw [stc, List.flatMap_cons, List.length_append, ← stc, ih]; simp; omega
theorem qyl (l : List Stp) (s : Stp) : stc (l ++ [s]) = stc l ++ [.int .i64 s.sym, .int .i64 s.more] := by simp [stc]
theorem q0r : ∀ (l : List Stp) (i : Nat) (s : Stp), l[i]? = some s → (stc l)[i * 2]? = some (.int .i64 s.sym) ∧ (stc l)[i * 2 + 1]? = some (.int .i64 s.more)
 | [], i, s, h => by simp at h
 | a :: l, 0, s, h => by
  simp at h; subst h
  exact ⟨rfl, rfl⟩
 | a :: l, i + 1, s, h => by
  have ih := q0r l i s (by simpa using h)
  have e : stc (a :: l) = .int .i64 a.sym :: .int .i64 a.more :: stc l := rfl
  rw [e, show (i + 1) * 2 = i * 2 + 1 + 1 by omega, show i * 2 + 1 + 1 + 1 = (i * 2 + 1) + 1 + 1 by omega]
  exact ih
def IQ (w : World) (v : Value) (zs : List Int) : Prop := ∃ g o cap, v = .slice (some ⟨g, o, none⟩) zs.length cap ∧ g < w.heap.size ∧ ∀ i, i < zs.length → w.cell? ⟨g, o + i, none⟩ = some (.int .i64 (zs.getD i 0))
theorem IQ.below {w w' : World} {v : Value} {zs : List Int} (h : IQ w v zs) (hb : Below w.heap.size w w') : IQ w' v zs := by
 obtain ⟨g, o, cap, rfl, hg, hc⟩ := h
 exact ⟨g, o, cap, rfl, Nat.lt_of_lt_of_le hg hb.size, fun i hi => by rw [hb.cell (p := ⟨g, o + i, none⟩) hg]; exact hc i hi⟩
def ic (zs : List Int) : List Value := zs.map (Value.int .i64)
theorem ic_at (zs : List Int) (i : Nat) (h : i < zs.length) : (ic zs)[i]? = some (.int .i64 (zs.getD i 0)) := by
 simp [ic, List.getElem?_eq_getElem h, List.getD_eq_getElem?_getD]
theorem Tryz.infoI : (Tryz.prog.info? 3).map (fun i => (i.zero, i.size, i.bytes)) = some (some (.int .i64 0), 1, 8) := by kernel_rfl
structure Itm where
 wt : Nat
 one : Bool
def mrg : List Nat → List Nat → List Itm
 | [], [] => []
 | [], t :: ts => ⟨t, false⟩ :: mrg [] ts
 | w :: ws, [] => ⟨w, true⟩ :: mrg ws []
 | w :: ws, t :: ts => if w ≤ t then ⟨w, true⟩ :: mrg ws (t :: ts) else ⟨t, false⟩ :: mrg (w :: ws) ts
termination_by ws ts => ws.length + ts.length
theorem qdc : ∀ ws ts, (mrg ws ts).length = ws.length + ts.length
 | [], [] => by rw [mrg]; rfl
 | [], t :: ts => by rw [mrg, List.length_cons, qdc [] ts]; simp
 | w :: ws, [] => by rw [mrg, List.length_cons, qdc ws []]; simp
 | w :: ws, t :: ts => by
  rw [mrg]
  split
  · rw [List.length_cons, qdc ws (t :: ts)]; simp; omega
  · rw [List.length_cons, qdc (w :: ws) ts]; simp; omega
termination_by ws ts => ws.length + ts.length
def ones : List Itm → Nat → Nat
 | _, 0 => 0
 | [], _ + 1 => 0
 | x :: l, c + 1 => (if x.one then 1 else 0) + ones l c
theorem qo8 : ∀ (l : List Itm) (c : Nat), ones l c ≤ c
 | _, 0 => by simp [ones]
 | [], c + 1 => by simp [ones]
 | x :: l, c + 1 => by
  have := qo8 l c
  rw [ones]; split <;> omega
def qea : List Nat → Prop
 | [] => True
 | w :: ws => (∀ v ∈ ws, w ≤ v) ∧ qea ws
theorem qce : ∀ (ws ts : List Nat) (c : Nat), c ≤ ws.length + ts.length → ones (mrg ws ts) c ≤ ws.length ∧ c ≤ ones (mrg ws ts) c + ts.length
 | ws, ts, 0, _ => by simp [ones]
 | [], [], c + 1, h => by simp at h
 | [], t :: ts, c + 1, h => by
  have := qce [] ts c (by simpa using h)
  rw [mrg, ones]; simp at this ⊢; omega
 | w :: ws, [], c + 1, h => by
  have := qce ws [] c (by simpa using h)
  rw [mrg, ones]; simp at this ⊢; omega
 | w :: ws, t :: ts, c + 1, h => by
  rw [mrg]
  split
  · have := qce ws (t :: ts) c (by simp at h ⊢; omega)
    rw [ones]; simp at this ⊢; omega
  · have := qce (w :: ws) ts c (by simp at h ⊢; omega)
    rw [ones]; simp at this ⊢; omega
termination_by ws ts => ws.length + ts.length
theorem qgp : ∀ (ws ts : List Nat) (c j q : Nat), qea ws → c ≤ ws.length + ts.length → j < ws.length → ws.getD j 0 ≤ ts.getD q 0 → q < ts.length → ones (mrg ws ts) c + q < c → j < ones (mrg ws ts) c
 | ws, ts, 0, j, q, _, _, _, _, _, h => by omega
 | [], ts, c + 1, j, q, _, _, hj, _, _, _ => by simp at hj
 | w :: ws, [], c + 1, j, q, _, _, _, _, hq, _ => by simp at hq
 | w :: ws, t :: ts, c + 1, j, q, hR, hc, hj, hle, hq, h => by
  rw [mrg] at h ⊢
  by_cases hwt : w ≤ t
  · rw [if_pos hwt, ones] at h ⊢
    simp only [if_true] at h ⊢
    match j with
    | 0 => omega
    | j + 1 =>
     have := qgp ws (t :: ts) c j q hR.2 (by simp at hc ⊢; omega) (by simpa using hj) (by simpa using hle) hq (by omega)
     omega
  · rw [if_neg hwt, ones] at h ⊢
    simp only [Bool.false_eq_true, if_false] at h ⊢
    match q with
    | 0 =>
     exfalso
     have hw : w ≤ (w :: ws).getD j 0 := by
      match j with
      | 0 => simp
      | j + 1 =>
       have hj' : j < ws.length := by simpa using hj
       have : (w :: ws).getD (j + 1) 0 = ws[j] := by simp [List.getD_eq_getElem?_getD, hj']
       rw [this]
       exact hR.1 _ (List.getElem_mem hj')
     simp at hle
     have h2 : (w :: ws).getD j 0 ≤ t := by simpa [List.getD_eq_getElem?_getD] using hle
     omega
    | q + 1 =>
     have := qgp (w :: ws) ts c j q hR (by simp at hc ⊢; omega) hj (by simpa using hle) (by simpa using hq) (by omega)
     omega
termination_by ws ts => ws.length + ts.length
theorem qek : ∀ (ws ts : List Nat) (c : Nat), 0 < ones (mrg ws ts) c → ∃ i, i < c ∧ (mrg ws ts)[i]? = some ⟨ws.getD (ones (mrg ws ts) c - 1) 0, true⟩
 | ws, ts, 0, h => by simp [ones] at h
 | [], [], c + 1, h => by rw [mrg] at h; simp [ones] at h
 | [], t :: ts, c + 1, h => by
  rw [mrg, ones] at h ⊢
  simp only [Bool.false_eq_true, if_false, Nat.zero_add] at h ⊢
  obtain ⟨i, hi, he⟩ := qek [] ts c h
  exact ⟨i + 1, by omega, by simpa using he⟩
 | w :: ws, [], c + 1, h => by
  rw [mrg, ones] at h ⊢
  simp only [if_true] at h ⊢
  by_cases h0 : 0 < ones (mrg ws []) c
  · obtain ⟨i, hi, he⟩ := qek ws [] c h0
    refine ⟨i + 1, by omega, ?_⟩
    rw [List.getElem?_cons_succ, he]
    congr 2
    rw [show 1 + ones (mrg ws []) c - 1 = (ones (mrg ws []) c - 1) + 1 by omega]
    simp
  · have e : ones (mrg ws []) c = 0 := by omega
    rw [e]
    exact ⟨0, by omega, rfl⟩
 | w :: ws, t :: ts, c + 1, h => by
  rw [mrg] at h ⊢
  by_cases hwt : w ≤ t
  · rw [if_pos hwt, ones] at h ⊢
    simp only [if_true] at h ⊢
    by_cases h0 : 0 < ones (mrg ws (t :: ts)) c
    · obtain ⟨i, hi, he⟩ := qek ws (t :: ts) c h0
      refine ⟨i + 1, by omega, ?_⟩
      rw [List.getElem?_cons_succ, he]
      congr 2
      rw [show 1 + ones (mrg ws (t :: ts)) c - 1 = (ones (mrg ws (t :: ts)) c - 1) + 1 by omega]
      simp
    · have e : ones (mrg ws (t :: ts)) c = 0 := by omega
      rw [e]
      exact ⟨0, by omega, rfl⟩
  · rw [if_neg hwt, ones] at h ⊢
    simp only [Bool.false_eq_true, if_false, Nat.zero_add] at h ⊢
    obtain ⟨i, hi, he⟩ := qek (w :: ws) ts c h
    exact ⟨i + 1, by omega, by simpa using he⟩
termination_by ws ts => ws.length + ts.length
def prs : List Itm → List Nat
 | x :: y :: l => (x.wt + y.wt) :: prs l
 | _ => []
theorem qfj : ∀ l : List Itm, (prs l).length = l.length / 2
 | [] => rfl
 | [x] => by simp [prs]
 | x :: y :: l => by rw [prs, List.length_cons, qfj l]; simp; omega
theorem q0v : ∀ (l : List Itm) (i : Nat) (x : Itm), l[i]? = some x → i / 2 < l.length / 2 → x.wt ≤ (prs l).getD (i / 2) 0
 | [], i, x, h, _ => by simp at h
 | [y], i, x, h, h2 => by simp at h2
 | y :: z :: l, 0, x, h, _ => by simp at h; subst h; rw [prs]; simp
 | y :: z :: l, 1, x, h, _ => by simp at h; subst h; rw [prs]; simp
 | y :: z :: l, i + 2, x, h, h2 => by
  have := q0v l i x (by simpa using h) (by simp at h2; omega)
  rw [prs, show (i + 2) / 2 = i / 2 + 1 by omega]
  simpa using this
def rowK (ws : List Nat) : Nat → List Itm
 | 0 => []
 | i + 1 => mrg ws (prs (rowK ws i))
theorem qc9 (ws : List Nat) (i : Nat) : mrg ws (prs (rowK ws i)) = rowK ws (i + 1) := rfl
theorem qhn (ws : List Nat) (i : Nat) : (rowK ws (i + 1)).length = ws.length + (rowK ws i).length / 2 := by rw [rowK, qdc, qfj]
def qcw (ws : List Nat) (i c : Nat) : Nat := 2 * (c - ones (rowK ws (i + 1)) c)
theorem qd1 {ws : List Nat} {i c : Nat} (h : c ≤ (rowK ws (i + 1)).length) : qcw ws i c ≤ (rowK ws i).length := by
 rw [qhn] at h
 have := (qce ws (prs (rowK ws i)) c (by rw [qfj]; exact h)).2
 rw [qfj] at this
 unfold qcw
 rw [rowK]
 omega
theorem qnc {ws : List Nat} (hR : qea ws) {i c : Nat} (h : c ≤ (rowK ws (i + 1 + 1)).length) : ones (rowK ws (i + 1)) (qcw ws (i + 1) c) ≤ ones (rowK ws (i + 1 + 1)) c := by
 have hle := qd1 h
 by_cases h0 : 0 < ones (rowK ws (i + 1)) (qcw ws (i + 1) c)
 · have hl := qek ws (prs (rowK ws i)) (qcw ws (i + 1) c) (by rw [qc9]; exact h0)
   rw [qc9] at hl
   obtain ⟨idx, hidx, he⟩ := hl
   have hp := (qce ws (prs (rowK ws i)) (qcw ws (i + 1) c) (by rw [← qdc, qc9]; exact hle)).1
   rw [qc9] at hp
   have hnc : qcw ws (i + 1) c = 2 * (c - ones (rowK ws (i + 1 + 1)) c) := rfl
   have hlt : idx / 2 < (rowK ws (i + 1)).length / 2 := by
    rw [hnc] at hidx hle
    omega
   have hw := q0v (rowK ws (i + 1)) idx _ he hlt
   simp only at hw
   have ha := qgp ws (prs (rowK ws (i + 1))) c (ones (rowK ws (i + 1)) (qcw ws (i + 1) c) - 1) (idx / 2) hR (by rw [← qdc, qc9]; exact h) (by omega) hw (by rw [qfj]; exact hlt) (by rw [qc9]; rw [hnc] at hidx; omega)
   rw [qc9] at ha
   omega
 · omega
def totK (ws : List Nat) : Nat → Nat → Nat
 | 0, _ => 0
 | i + 1, c => ones (rowK ws (i + 1)) c * 2 ^ i + totK ws i (qcw ws i c)
theorem qqb (ws : List Nat) : ∀ i c, c ≤ (rowK ws i).length → 2 * totK ws i c = c * 2 ^ i
 | 0, c, h => by simp [rowK] at h; subst h; rfl
 | i + 1, c, h => by
  have h1 := qqb ws i (qcw ws i c) (qd1 h)
  have h2 := qo8 (rowK ws (i + 1)) c
  rw [totK, Nat.mul_add, h1]
  unfold qcw
  obtain ⟨d, hd⟩ : ∃ d, c = ones (rowK ws (i + 1)) c + d := ⟨c - ones (rowK ws (i + 1)) c, by omega⟩
  generalize ones (rowK ws (i + 1)) c = s at *
  subst hd
  rw [Nat.add_sub_cancel_left, Nat.pow_succ]
  have e1 : 2 * (s * 2 ^ i) = s * (2 ^ i * 2) := by rw [Nat.mul_comm 2, Nat.mul_assoc]
  have e2 : 2 * d * 2 ^ i = d * (2 ^ i * 2) := by rw [Nat.mul_comm 2 d, Nat.mul_assoc, Nat.mul_comm 2]
  rw [e1, e2, ← Nat.add_mul]
def outK (ws : List Nat) (j : Nat) : Nat → Nat → Nat
 | 0, _ => 0
 | i + 1, c => (if j < ones (rowK ws (i + 1)) c then 1 else 0) + outK ws j i (qcw ws i c)
theorem qo7 (ws : List Nat) (j : Nat) : ∀ i c, outK ws j i c ≤ i
 | 0, c => Nat.le_refl _
 | i + 1, c => by
  have := qo7 ws j i (qcw ws i c)
  rw [outK]; split <;> omega
theorem qna {ws : List Nat} (hR : qea ws) (j : Nat) : ∀ i c, c ≤ (rowK ws (i + 1)).length → ones (rowK ws (i + 1)) c ≤ j → outK ws j (i + 1) c = 0
 | 0, c, h, h0 => by rw [outK, if_neg (by omega)]; rfl
 | i + 1, c, h, h0 => by
  rw [outK, if_neg (by omega), Nat.zero_add]
  exact qna hR j i _ (qd1 h) (Nat.le_trans (qnc hR h) h0)
def widK (ws : List Nat) (j : Nat) : Nat → Nat → Nat
 | 0, _ => 0
 | i + 1, c => (if j < ones (rowK ws (i + 1)) c then 2 ^ i else 0) + widK ws j i (qcw ws i c)
theorem qmj {ws : List Nat} (hR : qea ws) (j : Nat) : ∀ i c, c ≤ (rowK ws (i + 1)).length → ones (rowK ws (i + 1)) c ≤ j → widK ws j (i + 1) c = 0
 | 0, c, h, h0 => by rw [widK, if_neg (by omega)]; rfl
 | i + 1, c, h, h0 => by
  rw [widK, if_neg (by omega), Nat.zero_add]
  exact qmj hR j i _ (qd1 h) (Nat.le_trans (qnc hR h) h0)
theorem qp7 {ws : List Nat} (hR : qea ws) (j : Nat) : ∀ i c, c ≤ (rowK ws i).length → widK ws j i c + 2 ^ (i - outK ws j i c) = 2 ^ i
 | 0, c, h => rfl
 | i + 1, c, h => by
  by_cases hj : j < ones (rowK ws (i + 1)) c
  · have ih := qp7 hR j i _ (qd1 h)
    have ho := qo7 ws j i (qcw ws i c)
    rw [widK, outK, if_pos hj, if_pos hj, show i + 1 - (1 + outK ws j i (qcw ws i c)) = i - outK ws j i (qcw ws i c) by omega, Nat.pow_succ]
    omega
  · rw [qmj hR j i c h (by omega), qna hR j i c h (by omega)]; simp
def sumK (f : Nat → Nat) : Nat → Nat
 | 0 => 0
 | n + 1 => sumK f n + f n
theorem qk2 (f g : Nat → Nat) : ∀ n, sumK (fun j => f j + g j) n = sumK f n + sumK g n
 | 0 => rfl
 | n + 1 => by rw [sumK, sumK, sumK, qk2 f g n]; omega
theorem qev (a : Nat) : ∀ n, sumK (fun _ => a) n = n * a
 | 0 => by simp [sumK]
 | n + 1 => by rw [sumK, qev a n, Nat.succ_mul]
theorem qj3 (a s : Nat) : ∀ n, sumK (fun j => if j < s then a else 0) n = min s n * a
 | 0 => by simp [sumK]
 | n + 1 => by
  rw [sumK, qj3 a s n]
  by_cases h : n < s
  · rw [if_pos h, show min s (n + 1) = min s n + 1 by omega, Nat.succ_mul]
  · rw [if_neg h, show min s (n + 1) = min s n by omega]; omega
theorem qdr {f g : Nat → Nat} : ∀ n, (∀ j, j < n → f j = g j) → sumK f n = sumK g n
 | 0, _ => rfl
 | n + 1, h => by rw [sumK, sumK, qdr n (fun j hj => h j (by omega)), h n (by omega)]
theorem qt9 (ws : List Nat) : ∀ i c, c ≤ (rowK ws i).length → sumK (fun j => widK ws j i c) ws.length = totK ws i c
 | 0, c, _ => by show sumK (fun _ => 0) _ = 0; rw [qev]; omega
 | i + 1, c, h => by
  have h1 := qt9 ws i _ (qd1 h)
  have hp := (qce ws (prs (rowK ws i)) c (by rw [← qdc, qc9]; exact h)).1
  rw [qc9] at hp
  show sumK (fun j => (if j < ones (rowK ws (i + 1)) c then 2 ^ i else 0) + widK ws j i (qcw ws i c)) ws.length = _
  rw [qk2, h1, qj3, Nat.min_eq_left hp, totK]
theorem qmx (ws : List Nat) : ∀ i, (rowK ws (i + 1)).length + (ws.length + (2 ^ i - 1)) / 2 ^ i = 2 * ws.length
 | 0 => by rw [qhn]; simp [rowK]; omega
 | i + 1 => by
  have ih := qmx ws i
  rw [qhn]
  have hp : 0 < 2 ^ i := Nat.two_pow_pos i
  have e : (ws.length + (2 ^ (i + 1) - 1)) / 2 ^ (i + 1) = ((ws.length + (2 ^ i - 1)) / 2 ^ i + 1) / 2 := by
   rw [Nat.pow_succ, ← Nat.div_div_eq_div_mul]
   congr 1
   rw [show ws.length + (2 ^ i * 2 - 1) = (ws.length + (2 ^ i - 1)) + 2 ^ i by omega, Nat.add_div_right _ hp]
  rw [e]
  omega
theorem qka {ws : List Nat} {most : Nat} (h2 : ws.length ≤ 2 ^ most) (h1 : 1 ≤ most) : 2 * ws.length - 2 ≤ (rowK ws most).length := by
 obtain ⟨i, rfl⟩ : ∃ i, most = i + 1 := ⟨most - 1, by omega⟩
 have h := qmx ws i
 have hp : 0 < 2 ^ i := Nat.two_pow_pos i
 have : (ws.length + (2 ^ i - 1)) / 2 ^ i ≤ 2 := by
  have : (ws.length + (2 ^ i - 1)) / 2 ^ i < 3 := by
   rw [Nat.div_lt_iff_lt_mul hp]
   rw [Nat.pow_succ] at h2
   omega
  omega
 omega
def lenK (ws : List Nat) (most j : Nat) : Nat := outK ws j most (2 * ws.length - 2)
theorem qpg (ws : List Nat) (most j : Nat) : lenK ws most j ≤ most := qo7 ws j most _
theorem qkm {ws : List Nat} (hR : qea ws) {most : Nat} (h0 : 1 ≤ ws.length) (h1 : 1 ≤ most) (h2 : ws.length ≤ 2 ^ most) : sumK (fun j => 2 ^ (most - lenK ws most j)) ws.length = 2 ^ most := by
 have hc := qka h2 h1
 have ht := qqb ws most _ hc
 have hw := qt9 ws most _ hc
 have hs : sumK (fun j => widK ws j most (2 * ws.length - 2) + 2 ^ (most - lenK ws most j)) ws.length = ws.length * 2 ^ most := by
  unfold lenK
  rw [qdr (g := fun _ => 2 ^ most) _ (fun j _ => qp7 hR j most _ hc), qev]
 rw [qk2, hw] at hs
 have e : 2 * totK ws most (2 * ws.length - 2) = 2 * ((ws.length - 1) * 2 ^ most) := by
  rw [ht, ← Nat.mul_assoc, show 2 * ws.length - 2 = 2 * (ws.length - 1) by omega]
 have e2 : ws.length * 2 ^ most = (ws.length - 1) * 2 ^ most + 2 ^ most := by
  obtain ⟨n, hn⟩ : ∃ n, ws.length = n + 1 := ⟨ws.length - 1, by omega⟩
  rw [hn, Nat.add_sub_cancel, Nat.succ_mul]
 omega
theorem qon {f : Nat → Nat} : ∀ n j, j < n → f j ≤ sumK f n
 | 0, j, h => by omega
 | n + 1, j, h => by
  rw [sumK]
  by_cases e : j = n
  · subst e; omega
  · have := qon (f := f) n j (by omega); omega
theorem qql {f : Nat → Nat} : ∀ n j k, j < n → k < n → j ≠ k → f j + f k ≤ sumK f n
 | 0, j, k, h, _, _ => by omega
 | n + 1, j, k, h, hk, hne => by
  rw [sumK]
  by_cases e : j = n
  · subst e; have := qon (f := f) j k (by omega); omega
  · by_cases e2 : k = n
    · subst e2; have := qon (f := f) k j (by omega); omega
    · have := qql (f := f) n j k (by omega) (by omega) hne; omega
theorem qzk {ws : List Nat} (hR : qea ws) {most j : Nat} (h0 : 2 ≤ ws.length) (h1 : 1 ≤ most) (h2 : ws.length ≤ 2 ^ most) (hj : j < ws.length) : 1 ≤ lenK ws most j := by
 have hw := qkm hR (by omega) h1 h2
 by_cases h : 1 ≤ lenK ws most j
 · exact h
 · exfalso
   have e : lenK ws most j = 0 := by omega
   obtain ⟨k, hk, hne⟩ : ∃ k, k < ws.length ∧ j ≠ k := by
    by_cases h : j = 0
    · exact ⟨1, by omega, by omega⟩
    · exact ⟨0, by omega, h⟩
   have := qql (f := fun j => 2 ^ (most - lenK ws most j)) ws.length j k hj hk hne
   simp only [e, Nat.sub_zero] at this
   have hp : 0 < 2 ^ (most - lenK ws most k) := Nat.two_pow_pos _
   omega
def toN (zs : List Int) : List Nat := zs.map Int.toNat
theorem qfh (zs : List Int) : (toN zs).length = zs.length := by simp [toN]
theorem qjy (zs : List Int) (i : Nat) (hi : i < zs.length) (h0 : 0 ≤ zs.getD i 0) : ((ln (toN zs) i : Nat) : Int) = zs.getD i 0 := by
 have e : ln (toN zs) i = (zs.getD i 0).toNat := by
  unfold ln toN
  rw [List.getD_eq_getElem?_getD, List.getD_eq_getElem?_getD, List.getElem?_map, List.getElem?_eq_getElem hi]; rfl
 rw [e]; omega
def in15 (zs : List Int) : Prop := ∀ i, i < zs.length → 0 ≤ zs.getD i 0 ∧ zs.getD i 0 ≤ 15
theorem in15.all {zs : List Int} (h : in15 zs) : qbh (toN zs) := by
 intro n hn
 unfold toN at hn
 obtain ⟨z, hz, rfl⟩ := List.mem_map.1 hn
 obtain ⟨i, hi, rfl⟩ := List.getElem_of_mem hz
 have := h i hi
 rw [List.getD_eq_getElem?_getD, List.getElem?_eq_getElem hi] at this
 simp at this
 omega
theorem qkv (ns : List Nat) : ∀ k, qbg ns k ≤ k
 | 0 => Nat.le_refl _
 | k + 1 => by have := qkv ns k; rw [qbg]; split <;> omega
theorem qp2 (ns : List Nat) : ∀ k, allP ns k ≤ k * 16384
 | 0 => Nat.zero_le _
 | k + 1 => by
  have h := qp2 ns k
  unfold allP at h ⊢
  rw [qcp, Nat.succ_mul]
  by_cases h1 : 0 < ln ns k ∧ (fun _ => true) k = true
  · rw [if_pos h1]
    have h14 : 2 ^ (15 - ln ns k) ≤ 16384 := Nat.pow_le_pow_right (n := 2) (i := 15 - ln ns k) (j := 14) (by decide) (by omega)
    exact Nat.add_le_add h h14
  · rw [if_neg h1]; exact Nat.le_trans h (Nat.le_add_right _ _)
theorem shr15 (n : Nat) (h : n ≤ 15) : (32768 : Int) / 2 ^ n = ((2 ^ (15 - n) : Nat) : Int) := by
 have e : (32768 : Nat) = 2 ^ (15 - n) * 2 ^ n := by rw [← Nat.pow_add, show 15 - n + n = 15 by omega]
 have e2 : (32768 : Nat) / 2 ^ n = 2 ^ (15 - n) := by rw [e, Nat.mul_div_cancel _ (Nat.two_pow_pos _)]
 have e3 : (32768 : Int) / 2 ^ n = ((32768 / 2 ^ n : Nat) : Int) := by simp
 rw [e3, e2]
theorem qzt (v : Value) (zs : List Int) (w : World) (hR : IQ w v zs) (hl : zs.length ≤ 400) (h15 : in15 zs) :
    Calls Tryz.prog 119 #[v] w fun e w' => e = .returned (.bool (fitB (toN zs))) ∧ w' = w := by
 obtain ⟨g, o, cap, rfl, hg, hc⟩ := hR
 have HC : Hid (∀ i, i < zs.length → w.cell? ⟨g, o + i, none⟩ = some (.int .i64 (zs.getD i 0))) := hc
 have H15 : Hid (in15 zs) := h15
 clear hc h15
 have HU : Hid (∀ k, qbg (toN zs) k ≤ k) := qkv (toN zs)
 have HP : Hid (∀ k, allP (toN zs) k ≤ k * 16384) := qp2 (toN zs)
 have HF : Hid (fitB (toN zs) = if qbg (toN zs) zs.length = 0 then true else if qbg (toN zs) zs.length = 1 then allP (toN zs) zs.length == 16384 else allP (toN zs) zs.length == 32768) := by
  unfold Hid fitB; rw [qfh]
 go_enter Tryz.func119, Tryz.ntmps119
 go_wp2
 go_loop [3, 4, 9] (fun u p i => ∃ k : Nat, k ≤ zs.length ∧ i = .int .i64 (k : Int) ∧ u = .int .i64 (qbg (toN zs) k : Int) ∧ p = .int .i64 (allP (toN zs) k : Int)) (fun _ _ i => zs.length - (intOf i).toNat)
 case atStart => exact ⟨0, by omega, rfl, rfl, rfl⟩
 case round =>
  obtain ⟨k, hk, rfl, rfl, rfl⟩ := hrel
  have hu := HU.out k
  have hp := HP.out k
  by_cases hlt : k < zs.length
  · have hck := HC.out k hlt
    obtain ⟨z0, z15⟩ := H15.out k hlt
    have hln := qjy zs k hlt z0
    have HUs : Hid (qbg (toN zs) (k + 1) = qbg (toN zs) k + if 0 < ln (toN zs) k then 1 else 0) := rfl
    have HPs : Hid (allP (toN zs) (k + 1) = allP (toN zs) k + if 0 < ln (toN zs) k ∧ (fun _ => true) k = true then 2 ^ (15 - ln (toN zs) k) else 0) := rfl
    generalize qbg (toN zs) k = U at *
    generalize allP (toN zs) k = P at *
    generalize ln (toN zs) k = n at *
    rw [← hln] at hck z0 z15
    clear hln
    have hki : (k : Int) < (zs.length : Int) := by omega
    have hki0 : (0 : Int) ≤ (k : Int) := by omega
    by_cases hn0 : 0 < n
    · have hs := shr15 n (by omega)
      have h14 : 2 ^ (15 - n) ≤ 16384 := Nat.pow_le_pow_right (n := 2) (i := 15 - n) (j := 14) (by decide) (by omega)
      have hni : (0 : Int) < (n : Int) := by omega
      generalize 2 ^ (15 - n) = Q at *
      go_wp2
      go_round
      case rel => exact ⟨k + 1, by omega, by go_num, by rw [HUs.out, if_pos hn0]; rfl, by rw [HPs.out, if_pos ⟨hn0, rfl⟩]; rfl⟩
      case measure => simp [intOf]; omega
    · have hni : ¬ (0 : Int) < (n : Int) := by omega
      go_wp2
      go_round
      case rel => exact ⟨k + 1, by omega, by go_num, by rw [HUs.out, if_neg hn0]; rfl, by rw [HPs.out, if_neg (fun h => hn0 h.1)]; rfl⟩
      case measure => simp [intOf]; omega
  · obtain rfl : k = zs.length := by omega
    generalize qbg (toN zs) zs.length = U at *
    generalize allP (toN zs) zs.length = P at *
    by_cases h0 : U = 0
    · subst h0
      go_wp2
      go_ret
      exact ⟨by rw [HF.out]; rfl, rfl⟩
    · have h0i : ((U : Int) == 0) = false := by simp; omega
      by_cases h1 : U = 1
      · subst h1
        go_wp2
        go_ret
        refine ⟨?_, rfl⟩
        rw [HF.out, if_neg h0]
        simp only [if_true]
        show Ending.returned (.bool ((P : Int) == 16384)) = _
        congr 2
        rw [Bool.eq_iff_iff]; simp; omega
      · have h1i : ((U : Int) == 1) = false := by simp; omega
        go_wp2
        go_ret
        refine ⟨?_, rfl⟩
        rw [HF.out, if_neg h0, if_neg h1]
        show Ending.returned (.bool ((P : Int) == 32768)) = _
        congr 2
        rw [Bool.eq_iff_iff]; simp; omega
instance (zs : List Int) : Decidable (in15 zs) := by unfold in15; infer_instance
def errN (zs : List Int) : Nat := if 320 < zs.length then 2 else if in15 zs then (if fitB (toN zs) = true then 0 else 4) else 1
theorem qr2 {zs : List Int} (h : 320 < zs.length) : errN zs = 2 := by unfold errN; rw [if_pos h]
theorem qr3 {zs : List Int} (h : ¬ 320 < zs.length) (h2 : ¬ in15 zs) : errN zs = 1 := by unfold errN; rw [if_neg h, if_neg h2]
theorem qns {zs : List Int} (h : ¬ 320 < zs.length) (h2 : in15 zs) (h3 : fitB (toN zs) = false) : errN zs = 4 := by unfold errN; rw [if_neg h, if_pos h2, if_neg (by rw [h3]; simp)]
theorem ql7 {zs : List Int} (h : ¬ 320 < zs.length) (h2 : in15 zs) (h3 : fitB (toN zs) = true) : errN zs = 0 := by unfold errN; rw [if_neg h, if_pos h2, if_pos h3]
theorem qdu {zs : List Int} (h : errN zs = 0) : zs.length ≤ 320 ∧ in15 zs ∧ fitB (toN zs) = true := by
 unfold errN at h
 split at h
 · omega
 · rename_i h1
   split at h
   · rename_i h2
     split at h
     · rename_i h3; exact ⟨by omega, h2, h3⟩
     · omega
   · omega
theorem q4j {zs : List Int} (h : ¬ in15 zs) : ∃ k, k < zs.length ∧ (zs.getD k 0 < 0 ∨ 15 < zs.getD k 0) ∧ ∀ i, i < k → 0 ≤ zs.getD i 0 ∧ zs.getD i 0 ≤ 15 := by
 have key : ∀ n, n ≤ zs.length → (∀ i, i < n → 0 ≤ zs.getD i 0 ∧ zs.getD i 0 ≤ 15) ∨ ∃ k, k < n ∧ (zs.getD k 0 < 0 ∨ 15 < zs.getD k 0) ∧ ∀ i, i < k → 0 ≤ zs.getD i 0 ∧ zs.getD i 0 ≤ 15 := by
  intro n
  induction n with
  | zero => intro _; exact .inl fun i hi => by omega
  | succ n ih =>
   intro hn
   rcases ih (by omega) with h1 | ⟨k, hk, h2, h3⟩
   · by_cases h2 : 0 ≤ zs.getD n 0 ∧ zs.getD n 0 ≤ 15
     · exact .inl fun i hi => by
         by_cases e : i = n
         · subst e; exact h2
         · exact h1 i (by omega)
     · exact .inr ⟨n, by omega, by omega, h1⟩
   · exact .inr ⟨k, by omega, h2, h3⟩
 rcases key zs.length (Nat.le_refl _) with h1 | ⟨k, h2⟩
 · exact absurd h1 h
 · exact ⟨k, h2⟩
theorem qkr (v : Value) (zs : List Int) (w : World) (hR : IQ w v zs) (hl : zs.length ≤ 400) :
    Calls Tryz.prog 108 #[v] w fun e w' => e = .returned (.int .i64 (errN zs : Int)) ∧ w' = w := by
 have HR : Hid (IQ w v zs) := hR
 obtain ⟨g, o, cap, rfl, hg, hc⟩ := hR
 have HC : Hid (∀ i, i < zs.length → w.cell? ⟨g, o + i, none⟩ = some (.int .i64 (zs.getD i 0))) := hc
 clear hc
 by_cases hb : 320 < zs.length
 · have hbi : (320 : Int) < (zs.length : Int) := by omega
   have HE : Hid (_ = _) := qr2 hb
   go_enter Tryz.func108, Tryz.ntmps108
   go_wp2
   go_ret
   exact ⟨by rw [HE.out]; rfl, rfl⟩
 have hbi : ¬ (320 : Int) < (zs.length : Int) := by omega
 by_cases hin : in15 zs
 · have HIN : Hid (in15 zs) := hin
   have HFI : Hid (Calls Tryz.prog 119 #[.slice (some ⟨g, o, none⟩) zs.length cap] w fun e w' => e = .returned (.bool (fitB (toN zs))) ∧ w' = w) := qzt _ zs w HR.out hl hin
   have HE0 : Hid (fitB (toN zs) = true → _ = _) := ql7 hb hin
   have HE4 : Hid (fitB (toN zs) = false → _ = _) := qns hb hin
   clear hin
   go_enter Tryz.func108, Tryz.ntmps108
   go_wp2
   go_loop [10] (fun i => ∃ k : Nat, k ≤ zs.length ∧ i = .int .i64 (k : Int)) (fun i => zs.length - (intOf i).toNat)
   case atStart => exact ⟨0, by omega, rfl⟩
   case round =>
    obtain ⟨k, hk, rfl⟩ := hrel
    by_cases hlt : k < zs.length
    · have hck := HC.out k hlt
      obtain ⟨z0, z15⟩ := HIN.out k hlt
      generalize zs.getD k 0 = z at *
      have hki : (k : Int) < (zs.length : Int) := by omega
      have hki0 : (0 : Int) ≤ (k : Int) := by omega
      go_wp2
      go_round
      case rel => exact ⟨k + 1, by omega, by go_num⟩
      case measure => simp [intOf]; omega
    · obtain rfl : k = zs.length := by omega
      cases hF : fitB (toN zs)
      all_goals
       rw [hF] at HFI
       go_wp2_with fail
       refine HFI.out.mono ?_
       rintro e w1 ⟨rfl, rfl⟩
       go_wp2
       go_ret
       first | exact ⟨by rw [HE4.out hF]; rfl, rfl⟩ | exact ⟨by rw [HE0.out hF]; rfl, rfl⟩
 · have HE : Hid (_ = _) := qr3 hb hin
   obtain ⟨K, hK, hbad, hgood⟩ := q4j hin
   have HG : Hid (∀ i, i < K → 0 ≤ zs.getD i 0 ∧ zs.getD i 0 ≤ 15) := hgood
   clear hin hgood
   go_enter Tryz.func108, Tryz.ntmps108
   go_wp2
   go_loop [10] (fun i => ∃ k : Nat, k ≤ K ∧ i = .int .i64 (k : Int)) (fun i => zs.length - (intOf i).toNat)
   case atStart => exact ⟨0, by omega, rfl⟩
   case round =>
    obtain ⟨k, hk, rfl⟩ := hrel
    have hck := HC.out k (by omega)
    have hki : (k : Int) < (zs.length : Int) := by omega
    have hki0 : (0 : Int) ≤ (k : Int) := by omega
    by_cases hlt : k < K
    · obtain ⟨z0, z15⟩ := HG.out k hlt
      clear hbad
      generalize zs.getD k 0 = z at *
      go_wp2
      go_round
      case rel => exact ⟨k + 1, by omega, by go_num⟩
      case measure => simp [intOf]; omega
    · obtain rfl : k = K := by omega
      generalize zs.getD k 0 = z at *
      rcases hbad with hbad | hbad
      · go_wp2
        go_ret
        exact ⟨by rw [HE.out]; rfl, rfl⟩
      · have hz0 : ¬ z < 0 := by omega
        go_wp2
        go_ret
        exact ⟨by rw [HE.out]; rfl, rfl⟩
def tv (t : Tok) : Value := .agg #[.int .u8 (t.b : Int), .int .i64 t.l, .int .i64 t.d]
theorem qoi (t : Tok) : tv t = .agg #[.int .u8 (t.b : Int), .int .i64 t.l, .int .i64 t.d] := rfl
theorem Tryz.infoU8m : (Tryz.prog.info? 5).map (fun i => (i.zero, i.size, i.bytes)) = some (some (.int .u8 0), 1, 1) := by kernel_rfl
theorem qde {t : Tok} (h : ¬ t.l = 0) (h2 : ¬ (t.b = 0 ∧ 3 ≤ t.l ∧ t.l ≤ 258 ∧ 1 ≤ t.d ∧ t.d ≤ 32768)) : qbr t = false := by
 unfold qbr; rw [if_neg h]; simpa using h2
theorem qph (t : Tok) (w : World) :
    Calls Tryz.prog 66 #[tv t] w fun e w' => e = .returned (.bool (qbr t)) ∧ Below w.heap.size w w' := by
 have HB : Hid (∀ o, Below w.heap.size w (w.alloc o)) := fun o => (Below.refl _ w).alloc (Nat.le_refl _) o
 obtain ⟨b, l, d⟩ := t
 rw [qoi]
 by_cases h0 : l = 0
 · subst h0
   have HI : Hid (qbr ⟨b, 0, d⟩ = (d == 0)) := by
    unfold Hid; rw [qe8 rfl]; rw [Bool.eq_iff_iff]; simp
   go_enter Tryz.func66, Tryz.ntmps66
   go_wp2
   go_ret
   exact ⟨by rw [HI.out]; rfl, HB.out _⟩
 · have h0i : (l == 0) = false := by simpa using h0
   by_cases h1 : b = 0
   · subst h1
     have h1i : (((0 : Nat) : Int) == 0) = true := by decide
     by_cases h2 : 3 ≤ l
     · by_cases h3 : l ≤ 258
       · by_cases h4 : 1 ≤ d
         · by_cases h5 : d ≤ 32768
           · have HI : Hid (qbr ⟨0, l, d⟩ = true) := qlx rfl h2 h3 h4 h5
             go_enter Tryz.func66, Tryz.ntmps66
             go_wp2
             go_ret
             exact ⟨by rw [HI.out]; rfl, HB.out _⟩
           · have HI : Hid (qbr ⟨0, l, d⟩ = false) := qde h0 (fun h => h5 h.2.2.2.2)
             go_enter Tryz.func66, Tryz.ntmps66
             go_wp2
             go_ret
             exact ⟨by rw [HI.out]; rfl, HB.out _⟩
         · have HI : Hid (qbr ⟨0, l, d⟩ = false) := qde h0 (fun h => h4 h.2.2.2.1)
           go_enter Tryz.func66, Tryz.ntmps66
           go_wp2
           go_ret
           exact ⟨by rw [HI.out]; rfl, HB.out _⟩
       · have HI : Hid (qbr ⟨0, l, d⟩ = false) := qde h0 (fun h => h3 h.2.2.1)
         go_enter Tryz.func66, Tryz.ntmps66
         go_wp2
         go_ret
         exact ⟨by rw [HI.out]; rfl, HB.out _⟩
     · have HI : Hid (qbr ⟨0, l, d⟩ = false) := qde h0 (fun h => h2 h.2.1)
       go_enter Tryz.func66, Tryz.ntmps66
       go_wp2
       go_ret
       exact ⟨by rw [HI.out]; rfl, HB.out _⟩
   · have HI : Hid (qbr ⟨b, l, d⟩ = false) := qde h0 (fun h => h1 h.1)
     have h1i : ((b : Int) == 0) = false := by simpa using h1
     go_enter Tryz.func66, Tryz.ntmps66
     go_wp2
     go_ret
     exact ⟨by rw [HI.out]; rfl, HB.out _⟩
theorem qfq (t : Tok) (w : World) :
    Calls Tryz.prog 45 #[tv t] w fun e w' => e = .returned (.int .i64 (wid t)) ∧ Below w.heap.size w w' := by
 have HB : Hid (∀ o, Below w.heap.size w (w.alloc o)) := fun o => (Below.refl _ w).alloc (Nat.le_refl _) o
 obtain ⟨b, l, d⟩ := t
 rw [qoi]
 by_cases h1 : 1 ≤ l
 · have HI : Hid (wid ⟨b, l, d⟩ = l) := by unfold Hid wid; rw [if_pos h1]
   go_enter Tryz.func45, Tryz.ntmps45
   go_wp2
   go_ret
   exact ⟨by rw [HI.out]; rfl, HB.out _⟩
 · have HI : Hid (wid ⟨b, l, d⟩ = 1) := by unfold Hid wid; rw [if_neg h1]
   go_enter Tryz.func45, Tryz.ntmps45
   go_wp2
   go_ret
   exact ⟨by rw [HI.out]; rfl, HB.out _⟩
theorem qcd {w : World} {B n b : Nat} {ty ty2 : TypeId} {sz : Nat} {v : Value} {xs : List Value} {c : Array Value} {p : Nat × Nat} (hO : w.ownsRow B ty sz v n xs) (hb : w.heap[b]? = some (.cells c ty2 p)) (hty : ty2 ≠ ty) : some b ≠ v.ownBlock := by
 intro e
 rcases hO.2 with ⟨rfl, _⟩ | ⟨gb, cap, cur, rfl, _, hh, _⟩
 · cases e
 · have e2 : b = gb := by simpa [Value.ownBlock] using e
   subst e2
   rw [hb] at hh
   simp only [Option.some.injEq, Obj.cells.injEq] at hh
   exact hty hh.2.1
theorem qa3 {w w' : World} {b : Nat} {o : Obj} {r : Option Nat} (hg : w.grownBy w' r) (hb : w.heap[b]? = some o) (hne : some b ≠ r) : w'.heap[b]? = some o :=
 (hg.block b (by rcases Nat.lt_or_ge b w.heap.size with hl | hl
                 · exact hl
                 · rw [Array.getElem?_eq_none hl] at hb; cases hb) hne).trans hb
theorem qh3 {w : World} {b : Nat} {t : Tok} (h : w.heap[b]? = some (.cells #[.int .u8 (t.b : Int), .int .i64 t.l, .int .i64 t.d] 95 (0, 0))) : w.cell? ⟨b, 0, none⟩ = some (.int .u8 (t.b : Int)) ∧ w.cell? ⟨b, 1, none⟩ = some (.int .i64 t.l) ∧ w.cell? ⟨b, 2, none⟩ = some (.int .i64 t.d) := by
 refine ⟨?_, ?_, ?_⟩ <;> (rw [cell_of_row _ _ _ _ _ _ h]; rfl)
theorem qu8 (out : List Nat) (d k : Nat) (h1 : 1 ≤ d) (h2 : d ≤ out.length) : (sayN out d k)[out.length + k - d]? = some ((sayN out d k).getD ((sayN out d k).length - d) 0) := by
 rw [qdy, List.getD_eq_getElem?_getD, List.getElem?_eq_getElem (by rw [qdy]; omega)]; rfl
theorem qyu (B : Nat) (out : List Nat) (v : Value) (b : Nat) (w : World) (hO : w.ownsRow B 5 1 v out.length (cs out)) (hB : B ≤ w.heap.size) (hl : out.length ≤ 100000000000) :
    Calls Tryz.prog 67 #[v, .agg #[.int .u8 (b : Int), .int .i64 0, .int .i64 0]] w fun e w' => ∃ v', e = .returned v' ∧ w'.ownsRow B 5 1 v' (out ++ [b]).length (cs (out ++ [b])) ∧ Below B w w' := by
 obtain ⟨i0, hi, hz0, hz1, hz2⟩ := info_parts Tryz.infoU8m
 have hB1 : Below B w (w.alloc (.cells #[.int .u8 (b : Int), .int .i64 0, .int .i64 0] 95)) := (Below.refl _ w).alloc hB _
 have hO1 := hO.alloc (.cells #[.int .u8 (b : Int), .int .i64 0, .int .i64 0] 95)
 have hsz : (w.alloc (.cells #[.int .u8 (b : Int), .int .i64 0, .int .i64 0] 95)).heap.size = w.heap.size + 1 := World.size_alloc _ _
 have hcn : ∀ j u, [Value.int .u8 (b : Int)][j]? = some u → ((w.alloc (.cells #[.int .u8 (b : Int), .int .i64 0, .int .i64 0] 95)).alloc (.cells #[.int .u8 (b : Int)] 5)).cell? (Addr.add ⟨w.heap.size + 1, 0, none⟩ j) = some u := by rw [← hsz]; exact cell_one_new _ _ _
 have HCN : Hid _ := hcn
 clear hcn
 go_enter Tryz.func67, Tryz.ntmps67
 go_wp2_with (at_builtin; refine wpList_append_own _ rfl _ _ 54 rfl B 5 i0 (.int .u8 0) 1 1 Tryz.underlying54 hi hz0 hz1 hz2 rfl (by decide) _ _ _ rfl (hO1.alloc _) ⟨w.heap.size + 1, 0, none⟩ 1 1 [.int .u8 (b : Int)] rfl rfl HCN.out ?c2 ?c3 ?c4 ?c5 ?_)
 case c2 => intro u hu; simp at hu; subst hu; rfl
 case c3 => unfold maxLen; omega
 case c4 => omega
 case c5 => simp; omega
 intro v' w1 hown' hgrow _
 have hb' : Below B w w1 := (hB1.alloc (by rw [hsz]; omega) _).grown hgrow (by rw [World.size_alloc, hsz]; omega) (fun k hk => (hO1.lt k hk).1)
 have ho' : w1.ownsRow B 5 1 v' (out ++ [b]).length (cs (out ++ [b])) := by rw [qpq, List.length_append]; exact hown'
 clear hown' hgrow hO hO1 hB1
 go_wp2
 go_ret
 exact ⟨_, rfl, ho', hb'⟩
theorem q17 (B : Nat) (out : List Nat) (v : Value) (m d : Nat) (w : World) (hO : w.ownsRow B 5 1 v out.length (cs out)) (hm : 3 ≤ m) (hm2 : m ≤ 258) (hd : 1 ≤ d) (hd2 : d ≤ out.length) (hB : B ≤ w.heap.size) (hl : out.length ≤ 100000000000) :
    Calls Tryz.prog 67 #[v, .agg #[.int .u8 0, .int .i64 (m : Int), .int .i64 (d : Int)]] w fun e w' => ∃ v', e = .returned v' ∧ w'.ownsRow B 5 1 v' (sayN out d m).length (cs (sayN out d m)) ∧ Below B w w' := by
 obtain ⟨i0, hi, hz0, hz1, hz2⟩ := info_parts Tryz.infoU8m
 have HN : Hid ((w.alloc (.cells #[.int .u8 0, .int .i64 (m : Int), .int .i64 (d : Int)] 95)).heap[w.heap.size]? = some (.cells #[.int .u8 0, .int .i64 (m : Int), .int .i64 (d : Int)] 95 (0, 0))) := heap_alloc_new w _
 have HB1 : Hid (Below B w (w.alloc (.cells #[.int .u8 0, .int .i64 (m : Int), .int .i64 (d : Int)] 95))) := (Below.refl _ w).alloc hB _
 have HO1 : Hid ((w.alloc (.cells #[.int .u8 0, .int .i64 (m : Int), .int .i64 (d : Int)] 95)).ownsRow B 5 1 v out.length (cs out)) := hO.alloc _
 have h0i : ((m : Int) == 0) = false := by simp; omega
 clear hO
 go_enter Tryz.func67, Tryz.ntmps67
 go_wp2
 generalize World.alloc w _ = W1 at *
 go_loopw [0, 15] (fun o i wr => ∃ k : Nat, k ≤ m ∧ i = .int .i64 (k : Int) ∧ wr.ownsRow B 5 1 o (out.length + k) (cs (sayN out d k)) ∧ Below B w wr ∧ wr.heap[w.heap.size]? = some (.cells #[.int .u8 0, .int .i64 (m : Int), .int .i64 (d : Int)] 95 (0, 0))) (fun _ i _ => m - (intOf i).toNat)
 case atStart => exact ⟨0, by omega, rfl, HO1.out, HB1.out, HN.out⟩
 case round =>
  clear HO1 HB1 HN
  obtain ⟨k, hk, rfl, hO, hB2, hN⟩ := hrel
  have hlk := qdy out d k
  by_cases hlt : k < m
  · have hne := qcd hO hN (by decide)
    obtain ⟨g, cap, rfl, hg1, hg2, hg3⟩ := qch hO (by omega)
    have cd : wr.cell? ⟨w.heap.size, 2, none⟩ = some (.int .i64 (d : Int)) := by rw [cell_of_row _ _ _ _ _ _ hN]; rfl
    have hel := qu8 out d k hd hd2
    have HSN : Hid (sayN out d (k + 1) = sayN out d k ++ [(sayN out d k).getD ((sayN out d k).length - d) 0]) := rfl
    have ce : wr.cell? ⟨g, out.length + k - d, none⟩ = some (.int .u8 (((sayN out d k).getD ((sayN out d k).length - d) 0 : Nat) : Int)) := by
     rw [hO.cellAt (out.length + k - d) (by omega)]
     unfold cs
     rw [List.getElem?_map, hel]; rfl
    have hki : (k : Int) < (m : Int) := by omega
    have hki0 : (0 : Int) ≤ (k : Int) := by omega
    have HN : Hid (wr.heap[w.heap.size]? = some (.cells #[.int .u8 0, .int .i64 (m : Int), .int .i64 (d : Int)] 95 (0, 0))) := hN
    have HO : Hid (wr.ownsRow B 5 1 (.slice (some ⟨g, 0, none⟩) (out.length + k) cap) (out.length + k) (cs (sayN out d k))) := hO
    have HB2 : Hid (Below B w wr) := hB2
    have hsz2 := hB2.size
    have HNE : Hid (some w.heap.size ≠ some g) := hne
    clear hN hO hel hB2 hne hlk
    generalize (sayN out d k).getD ((sayN out d k).length - d) 0 = y at *
    have hix : ((out.length + k : Nat) : Int) - (d : Int) = ((out.length + k - d : Nat) : Int) := by omega
    go_wp2_with (at_builtin; refine wpList_append_own _ rfl _ _ 54 rfl B 5 i0 (.int .u8 0) 1 1 Tryz.underlying54 hi hz0 hz1 hz2 rfl (by decide) _ _ _ rfl (HO.out.alloc _) ⟨wr.heap.size, 0, none⟩ 1 1 [.int .u8 (y : Int)] rfl rfl (cell_one_new _ _ _) ?c2 ?c3 ?c4 ?c5 ?_)
    case c2 => intro u hu; simp at hu; subst hu; rfl
    case c3 => unfold maxLen; omega
    case c4 => omega
    case c5 => simp; omega
    intro v' w1 hown' hgrow _
    have HB' : Hid (Below B w w1) := (HB2.out.alloc (by omega) _).grown hgrow (by rw [World.size_alloc]; omega) (fun j hj => (HO.out.lt j hj).1)
    have HO' : Hid (w1.ownsRow B 5 1 v' (out.length + (k + 1)) (cs (sayN out d (k + 1)))) := by unfold Hid; rw [HSN.out, qpq]; exact hown'
    have HN' : Hid (w1.heap[w.heap.size]? = some (.cells #[.int .u8 0, .int .i64 (m : Int), .int .i64 (d : Int)] 95 (0, 0))) := qa3 hgrow (by rw [heap_alloc_old _ _ (Array.getElem?_eq_some_iff.1 HN.out).1]; exact HN.out) HNE.out
    clear hown' hgrow ce cd
    go_wp2
    go_roundw
    case rel => exact ⟨k + 1, by omega, by go_num, HO'.out, HB'.out, HN'.out⟩
    case measure => simp [intOf]; omega
  · obtain rfl : k = m := by omega
    rw [← hlk] at hO
    go_wp2
    go_ret
    exact ⟨_, rfl, hO, hB2⟩
theorem q18 (B : Nat) (out : List Nat) (v : Value) (t : Tok) (w : World) (hO : w.ownsRow B 5 1 v out.length (cs out)) (ht : qbr t = true) (hd : t.d ≤ out.length) (hB : B ≤ w.heap.size) (hl : out.length ≤ 100000000000) :
    Calls Tryz.prog 67 #[v, tv t] w fun e w' => ∃ v', e = .returned v' ∧ w'.ownsRow B 5 1 v' (sayT out t).length (cs (sayT out t)) ∧ Below B w w' := by
 obtain ⟨b, l, d⟩ := t
 rw [qoi]
 by_cases h0 : l = 0
 · subst h0
   have h1 : d = 0 := by rw [qe8 rfl] at ht; simpa using ht
   subst h1
   have e : sayT out ⟨b, 0, 0⟩ = out ++ [b] := rfl
   rw [e]
   exact qyu B out v b w hO hB hl
 · obtain ⟨r1, r2, r3, r4, r5⟩ := qci h0 ht
   simp only at r1 r2 r3 r4 r5 hd
   obtain ⟨d, rfl⟩ : ∃ n : Nat, d = (n : Int) := ⟨d.toNat, by omega⟩
   obtain ⟨m, rfl⟩ : ∃ m : Nat, l = (m : Int) := ⟨l.toNat, by omega⟩
   subst r1
   have e : sayT out ⟨0, (m : Int), (d : Int)⟩ = sayN out d m := by unfold sayT; rw [if_neg h0]; rfl
   rw [e]
   exact q17 B out v m d w hO (by omega) (by omega) (by omega) (by omega) hB hl
end Go.Proofs.YthkppipdflmekaaGreat
