/- The package-merge way: no lengths cost less: the plain mathematics. -/
import Derived.Test.YtclmjopppaknjaaPkgM
namespace Go.Proofs.Ytclmjopppaknjaa
open Go.RowKit
set_option linter.unusedVariables false

/-- What the first c weigh. -/
def preN (l : List Nat) (c : Nat) : Nat := (l.take c).sum
def preI (l : List Itm) (c : Nat) : Nat := preN (l.map Itm.wt) c
theorem preN_zero (l : List Nat) : preN l 0 = 0 := by simp [preN]
theorem preN_cons (a : Nat) (l : List Nat) (c : Nat) : preN (a :: l) (c + 1) = a + preN l c := by simp [preN]
theorem preI_cons (x : Itm) (l : List Itm) (c : Nat) : preI (x :: l) (c + 1) = x.wt + preI l c := by unfold preI; rw [List.map_cons, preN_cons]
theorem preI_zero (l : List Itm) : preI l 0 = 0 := preN_zero _
theorem preN_nil (c : Nat) : preN [] c = 0 := by simp [preN]
theorem preN_mono (l : List Nat) : ∀ {a b : Nat}, a ≤ b → preN l a ≤ preN l b := by
  induction l with
  | nil => intro a b _; simp [preN]
  | cons x l ih =>
    intro a b h
    cases a with
    | zero => rw [preN_zero]; omega
    | succ a =>
      cases b with
      | zero => omega
      | succ b => rw [preN_cons, preN_cons]; have := ih (show a ≤ b by omega); omega
/-- One more is at least as much as any bound of all. -/
theorem preN_more (l : List Nat) (v : Nat) (hv : ∀ x ∈ l, v ≤ x) : ∀ c, c < l.length → preN l c + v ≤ preN l (c + 1) := by
  induction l with
  | nil => intro c h; simp at h
  | cons x l ih =>
    intro c h
    cases c with
    | zero => rw [preN_cons, preN_zero, preN_zero]; have := hv x (by simp); omega
    | succ c => rw [preN_cons, preN_cons]; have := ih (fun y hy => hv y (by simp [hy])) c (by simpa using h); omega
theorem Rising.cons_le {w : Nat} {ws : List Nat} (h : Rising (w :: ws)) : ∀ x ∈ w :: ws, w ≤ x := fun x hx => by
  rcases List.mem_cons.1 hx with rfl | hx
  · exact Nat.le_refl _
  · exact h.1 x hx
theorem pre_mrg : ∀ (ws ts : List Nat) (c : Nat), c ≤ ws.length + ts.length → preI (mrg ws ts) c = preN ws (ones (mrg ws ts) c) + preN ts (c - ones (mrg ws ts) c)
  | ws, ts, 0, _ => by simp [ones, preI_zero, preN_zero]
  | [], [], c + 1, h => by simp at h
  | [], t :: ts, c + 1, h => by
    have ih := pre_mrg [] ts c (by simpa using h)
    have ho := ones_le (mrg [] ts) c
    rw [mrg, preI_cons, ones, ih]
    simp only [Bool.false_eq_true, if_false, Nat.zero_add, preN_nil]
    rw [show c + 1 - ones (mrg [] ts) c = (c - ones (mrg [] ts) c) + 1 by omega, preN_cons]
  | w :: ws, [], c + 1, h => by
    have ih := pre_mrg ws [] c (by simpa using h)
    rw [mrg, preI_cons, ones, ih]
    simp only [if_true, preN_nil]
    rw [show 1 + ones (mrg ws []) c = ones (mrg ws []) c + 1 by omega, preN_cons]
    omega
  | w :: ws, t :: ts, c + 1, h => by
    rw [mrg]
    split
    · have ih := pre_mrg ws (t :: ts) c (by simp at h ⊢; omega)
      rw [preI_cons, ones, ih]
      simp only [if_true]
      rw [show 1 + ones (mrg ws (t :: ts)) c = ones (mrg ws (t :: ts)) c + 1 by omega, preN_cons, Nat.add_sub_add_right]
      omega
    · have ih := pre_mrg (w :: ws) ts c (by simp at h ⊢; omega)
      have ho := ones_le (mrg (w :: ws) ts) c
      rw [preI_cons, ones, ih]
      simp only [Bool.false_eq_true, if_false, Nat.zero_add]
      rw [show c + 1 - ones (mrg (w :: ws) ts) c = (c - ones (mrg (w :: ws) ts) c) + 1 by omega, preN_cons]
      omega
termination_by ws ts => ws.length + ts.length
theorem pre_prs : ∀ (l : List Itm) (b : Nat), 2 * b ≤ l.length → preN (prs l) b = preI l (2 * b)
  | l, 0, _ => by rw [preN_zero, Nat.mul_zero, preI_zero]
  | [], b + 1, h => by simp at h
  | [x], b + 1, h => by simp at h; omega
  | x :: y :: l, b + 1, h => by
    have ih := pre_prs l b (by simp at h; omega)
    rw [prs, preN_cons, ih, show 2 * (b + 1) = 2 * b + 1 + 1 by omega, preI_cons, preI_cons]; omega
/-- No choice of a weights and b pairs is lighter than the first a + b of the row. -/
theorem mrg_least : ∀ (ws ts : List Nat) (a b : Nat), Rising ws → Rising ts → a ≤ ws.length → b ≤ ts.length → preI (mrg ws ts) (a + b) ≤ preN ws a + preN ts b
  | [], [], a, b, _, _, ha, hb => by
    simp at ha hb; subst ha; subst hb; rw [preI_zero]; omega
  | [], t :: ts, a, b, hw, ht, ha, hb => by
    simp at ha; subst ha
    cases b with
    | zero => rw [preI_zero]; omega
    | succ b =>
      have ih := mrg_least [] ts 0 b hw ht.2 (Nat.le_refl _) (by simpa using hb)
      rw [mrg, show 0 + (b + 1) = (0 + b) + 1 by omega, preI_cons, preN_cons]
      simp only at ih ⊢
      omega
  | w :: ws, [], a, b, hw, ht, ha, hb => by
    simp at hb; subst hb
    cases a with
    | zero => rw [preI_zero]; omega
    | succ a =>
      have ih := mrg_least ws [] a 0 hw.2 ht (by simpa using ha) (Nat.le_refl _)
      rw [Nat.add_zero] at ih ⊢
      rw [mrg, preI_cons, preN_cons]
      simp only at ih ⊢
      omega
  | w :: ws, t :: ts, a, b, hw, ht, ha, hb => by
    rw [mrg]
    split
    · rename_i hle
      cases a with
      | zero =>
        cases b with
        | zero => rw [preI_zero]; omega
        | succ b =>
          have ih := mrg_least ws (t :: ts) 0 b hw.2 ht (Nat.zero_le _) (by omega)
          have hm := preN_more (t :: ts) w (fun x hx => Nat.le_trans hle (ht.cons_le x hx)) b (by omega)
          rw [show 0 + (b + 1) = (0 + b) + 1 by omega, preI_cons, preN_zero]
          rw [preN_zero] at ih
          simp only at ih ⊢
          omega
      | succ a =>
        have ih := mrg_least ws (t :: ts) a b hw.2 ht (by simpa using ha) hb
        rw [show a + 1 + b = (a + b) + 1 by omega, preI_cons, preN_cons]
        simp only at ih ⊢
        omega
    · rename_i hle
      cases b with
      | zero =>
        cases a with
        | zero => rw [preI_zero]; omega
        | succ a =>
          have ih := mrg_least (w :: ws) ts a 0 hw ht.2 (by omega) (Nat.zero_le _)
          have hm := preN_more (w :: ws) t (fun x hx => Nat.le_trans (by omega) (hw.cons_le x hx)) a (by omega)
          rw [Nat.add_zero] at ih ⊢
          rw [preI_cons, preN_zero]
          rw [preN_zero] at ih
          simp only at ih ⊢
          omega
      | succ b =>
        have ih := mrg_least (w :: ws) ts a b hw ht.2 ha (by simpa using hb)
        rw [show a + (b + 1) = (a + b) + 1 by omega, preI_cons, preN_cons]
        simp only at ih ⊢
        omega
termination_by ws ts => ws.length + ts.length
theorem mrg_of : ∀ (ws ts : List Nat) (x : Itm), x ∈ mrg ws ts → x.wt ∈ ws ∨ x.wt ∈ ts
  | [], [], x, h => by rw [mrg] at h; simp at h
  | [], t :: ts, x, h => by
    rw [mrg] at h
    rcases List.mem_cons.1 h with rfl | h
    · exact .inr (by simp)
    · rcases mrg_of [] ts x h with q | q
      · exact .inl q
      · exact .inr (by simp [q])
  | w :: ws, [], x, h => by
    rw [mrg] at h
    rcases List.mem_cons.1 h with rfl | h
    · exact .inl (by simp)
    · rcases mrg_of ws [] x h with q | q
      · exact .inl (by simp [q])
      · exact .inr q
  | w :: ws, t :: ts, x, h => by
    rw [mrg] at h
    split at h
    · rcases List.mem_cons.1 h with rfl | h
      · exact .inl (by simp)
      · rcases mrg_of ws (t :: ts) x h with q | q
        · exact .inl (by simp [q])
        · exact .inr q
    · rcases List.mem_cons.1 h with rfl | h
      · exact .inr (by simp)
      · rcases mrg_of (w :: ws) ts x h with q | q
        · exact .inl q
        · exact .inr (by simp [q])
termination_by ws ts => ws.length + ts.length
theorem mrg_rise : ∀ (ws ts : List Nat), Rising ws → Rising ts → Rising ((mrg ws ts).map Itm.wt)
  | [], [], _, _ => by rw [mrg]; trivial
  | [], t :: ts, hw, ht => by
    rw [mrg]
    refine ⟨fun v hv => ?_, mrg_rise [] ts hw ht.2⟩
    obtain ⟨x, hx, rfl⟩ := List.mem_map.1 hv
    rcases mrg_of [] ts x hx with q | q
    · simp at q
    · exact ht.1 _ q
  | w :: ws, [], hw, ht => by
    rw [mrg]
    refine ⟨fun v hv => ?_, mrg_rise ws [] hw.2 ht⟩
    obtain ⟨x, hx, rfl⟩ := List.mem_map.1 hv
    rcases mrg_of ws [] x hx with q | q
    · exact hw.1 _ q
    · simp at q
  | w :: ws, t :: ts, hw, ht => by
    rw [mrg]
    split
    · rename_i hle
      refine ⟨fun v hv => ?_, mrg_rise ws (t :: ts) hw.2 ht⟩
      obtain ⟨x, hx, rfl⟩ := List.mem_map.1 hv
      rcases mrg_of ws (t :: ts) x hx with q | q
      · exact hw.1 _ q
      · exact Nat.le_trans hle (ht.cons_le _ q)
    · rename_i hle
      refine ⟨fun v hv => ?_, mrg_rise (w :: ws) ts hw ht.2⟩
      obtain ⟨x, hx, rfl⟩ := List.mem_map.1 hv
      rcases mrg_of (w :: ws) ts x hx with q | q
      · exact Nat.le_trans (by show t ≤ w; omega) (hw.cons_le _ q)
      · exact ht.1 _ q
termination_by ws ts => ws.length + ts.length
theorem prs_two : ∀ (l : List Itm) (v : Nat), v ∈ prs l → ∃ x ∈ l, x.wt ≤ v ∧ ∃ y ∈ l, x.wt + y.wt = v
  | [], v, h => by simp [prs] at h
  | [x], v, h => by simp [prs] at h
  | x :: y :: l, v, h => by
    rw [prs] at h
    rcases List.mem_cons.1 h with rfl | h
    · exact ⟨x, by simp, by omega, y, by simp, rfl⟩
    · obtain ⟨a, h1, h2, b, h3, h4⟩ := prs_two l v h
      exact ⟨a, by simp [h1], h2, b, by simp [h3], h4⟩
theorem prs_rise : ∀ (l : List Itm), Rising (l.map Itm.wt) → Rising (prs l)
  | [], _ => trivial
  | [x], _ => trivial
  | x :: y :: l, h => by
    rw [prs]
    refine ⟨fun v hv => ?_, prs_rise l h.2.2⟩
    obtain ⟨a, h1, _, b, h3, h4⟩ := prs_two l v hv
    have e1 := h.1 a.wt (by simp; exact .inr ⟨a, h1, rfl⟩)
    have e2 := h.2.1 b.wt (List.mem_map_of_mem h3)
    omega
theorem rowK_rise {ws : List Nat} (h : Rising ws) : ∀ i, Rising ((rowK ws i).map Itm.wt)
  | 0 => trivial
  | i + 1 => by rw [rowK]; exact mrg_rise _ _ h (prs_rise _ (rowK_rise h i))
/-! ### What the lengths of the package-merge way cost -/
theorem sumK_cons (f : Nat → Nat) : ∀ n, sumK f (n + 1) = f 0 + sumK (fun j => f (j + 1)) n
  | 0 => by simp [sumK]
  | n + 1 => by rw [sumK, sumK_cons f n, sumK]; omega
theorem sumK_pre : ∀ (ws : List Nat) (s : Nat), s ≤ ws.length → sumK (fun j => if j < s then ws.getD j 0 else 0) ws.length = preN ws s
  | [], s, h => by simp [sumK, preN]
  | w :: ws, 0, h => by rw [preN_zero, sumK_congr (g := fun _ => 0) _ (fun j _ => if_neg (by omega)), sumK_const]; omega
  | w :: ws, s + 1, h => by
    have ih := sumK_pre ws s (by simpa using h)
    rw [List.length_cons, sumK_cons, preN_cons, ← ih]
    congr 1
    refine sumK_congr _ fun j _ => ?_
    by_cases q : j < s
    · rw [if_pos q, if_pos (by omega)]; simp
    · rw [if_neg q, if_neg (by omega)]
theorem cost_out (ws : List Nat) : ∀ i c, c ≤ (rowK ws i).length → sumK (fun j => ws.getD j 0 * outK ws j i c) ws.length = preI (rowK ws i) c
  | 0, c, h => by
    have hc : c = 0 := by simpa [rowK] using h
    subst hc
    rw [preI_zero, sumK_congr (g := fun _ => 0) _ (fun j _ => by show _ * 0 = 0; omega), sumK_const]; omega
  | i + 1, c, h => by
    have ih := cost_out ws i (nextC ws i c) (nextC_le h)
    have hp := (ones_parts ws (prs (rowK ws i)) c (by rw [← mrg_len, rowK_eq]; exact h)).1
    have h2 := (ones_parts ws (prs (rowK ws i)) c (by rw [← mrg_len, rowK_eq]; exact h)).2
    rw [rowK_eq] at hp h2
    have e1 : sumK (fun j => ws.getD j 0 * outK ws j (i + 1) c) ws.length = sumK (fun j => (if j < ones (rowK ws (i + 1)) c then ws.getD j 0 else 0) + ws.getD j 0 * outK ws j i (nextC ws i c)) ws.length := by
      refine sumK_congr _ fun j _ => ?_
      show ws.getD j 0 * ((if j < ones (rowK ws (i + 1)) c then 1 else 0) + outK ws j i (nextC ws i c)) = _
      rw [Nat.mul_add]
      congr 1
      split <;> omega
    rw [e1, sumK_add, ih, sumK_pre ws _ hp]
    have := pre_mrg ws (prs (rowK ws i)) c (by rw [← mrg_len, rowK_eq]; exact h)
    rw [rowK_eq] at this
    rw [this, pre_prs _ _ (by rw [prs_len] at h2; omega)]
    rfl
theorem cost_len {ws : List Nat} {most : Nat} (h1 : 1 ≤ most) (h2 : ws.length ≤ 2 ^ most) : sumK (fun j => ws.getD j 0 * lenK ws most j) ws.length = preI (rowK ws most) (2 * ws.length - 2) :=
  cost_out ws most _ (row_enough h2 h1)
/-! ### No others cost less -/
/-- So many items of row i can be had, where s r weights stand by themselves in row r. -/
def capC (s : Nat → Nat) : Nat → Nat
  | 0 => 0
  | i + 1 => s (i + 1) + capC s i / 2
theorem capC_len {ws : List Nat} {s : Nat → Nat} (hs : ∀ r, s r ≤ ws.length) : ∀ i, capC s i ≤ (rowK ws i).length
  | 0 => Nat.zero_le _
  | i + 1 => by
    have := capC_len hs i
    have := hs (i + 1)
    rw [capC, rowK_len]; omega
/-- What those weights weigh. -/
def totW (ws : List Nat) (s : Nat → Nat) : Nat → Nat
  | 0 => 0
  | i + 1 => preN ws (s (i + 1)) + totW ws s i
theorem row_least {ws : List Nat} (hR : Rising ws) {s : Nat → Nat} (hs : ∀ r, s r ≤ ws.length) : ∀ i c, c ≤ capC s i → preI (rowK ws i) c ≤ totW ws s i
  | 0, c, h => by
    have hc : c = 0 := by simpa [capC] using h
    subst hc; rw [preI_zero]; omega
  | i + 1, c, h => by
    rw [capC] at h
    have hsr := hs (i + 1)
    have hcl := capC_len hs i
    obtain ⟨a, b, rfl, ha, hb⟩ : ∃ a b, c = a + b ∧ a ≤ s (i + 1) ∧ b ≤ capC s i / 2 := by
      by_cases q : c ≤ s (i + 1)
      · exact ⟨c, 0, by omega, q, by omega⟩
      · exact ⟨s (i + 1), c - s (i + 1), by omega, Nat.le_refl _, by omega⟩
    have ih := row_least hR hs i (2 * b) (by omega)
    have h1 := mrg_least ws (prs (rowK ws i)) a b hR (prs_rise _ (rowK_rise hR i)) (by omega) (by rw [prs_len]; omega)
    rw [rowK_eq, pre_prs _ _ (by omega)] at h1
    have h2 := preN_mono ws ha
    rw [totW]; omega
end Go.Proofs.Ytclmjopppaknjaa
