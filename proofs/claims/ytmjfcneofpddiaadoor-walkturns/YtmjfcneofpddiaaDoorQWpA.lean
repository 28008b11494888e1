/- When a list of items is a tree, whatever their order; a tree without a folder is a tree (pure). -/
import Derived.Test.YtmjfcneofpddiaaDoorQWkL
import Derived.Test.YtmjfcneofpddiaaDoorQWkW
namespace Go.Proofs.YtmjfcneofpddiaaDoor
set_option linter.unusedVariables false
set_option linter.unusedSimpArgs false

/-- No path stands twice; each item's folder is there. -/
def Good (l : List It) : Prop := (l.map It.p).Nodup ∧ ∀ x ∈ l, parL x.p = [] ∨ ∃ y ∈ l, y.k = 1 ∧ y.p = parL x.p
theorem par_form {p : List UInt8} (h : parL p ≠ []) : ∃ b, p = parL p ++ 47 :: b := by
  rcases last_cases p with h4 | ⟨q, b, h4, h5⟩
  · exact absurd (parL_none h4) h
  · exact ⟨b, by rw [h4, parL_at q b h5]⟩
theorem mis_par : ∀ (l : List It) (fs : List (List UInt8)), mis fs l = 0 → ∀ x ∈ l, parL x.p ∈ fs ∨ ∃ y ∈ l, y.k = 1 ∧ y.p = parL x.p
  | [], _, _, x, hx => by cases hx
  | a :: r, fs, h, x, hx => by
    unfold mis at h
    split at h
    · exact absurd h (by decide)
    · split at h
      · exact absurd h (by decide)
      · rename_i h1 h2
        have h2' : parL a.p ∈ fs := Decidable.not_not.1 h2
        rcases List.mem_cons.1 hx with rfl | hx
        · exact .inl h2'
        · rcases mis_par r _ h x hx with h3 | ⟨y, h3, h4⟩
          · by_cases hk : a.k = 1
            · rw [if_pos hk] at h3
              rcases List.mem_cons.1 h3 with h3 | h3
              · exact .inr ⟨a, List.mem_cons_self, hk, h3.symm⟩
              · exact .inl h3
            · rw [if_neg hk] at h3; exact .inl h3
          · exact .inr ⟨y, List.mem_cons_of_mem _ h3, h4⟩
theorem mis_nodup : ∀ (l : List It) (fs : List (List UInt8)), Srt l → mis fs l = 0 → (l.map It.p).Nodup
  | [], _, _, _ => List.nodup_nil
  | a :: r, fs, hs, h => by
    unfold mis at h
    split at h
    · exact absurd h (by decide)
    · split at h
      · exact absurd h (by decide)
      · rename_i h1 h2
        unfold Srt at hs
        rw [List.pairwise_cons] at hs
        rw [List.map_cons, List.nodup_cons]
        refine ⟨fun hm => ?_, mis_nodup r _ hs.2 h⟩
        obtain ⟨y, hy, e⟩ := List.mem_map.1 hm
        cases r with
        | nil => cases hy
        | cons b t =>
          have hne : b.p ≠ a.p := fun e2 => h1 (by simp [e2])
          rcases List.mem_cons.1 hy with rfl | hy
          · exact hne e
          · have h3 := hs.1 b List.mem_cons_self
            have h4 := (List.pairwise_cons.1 hs.2).1 y hy
            rw [e] at h4
            have h5 := pcm_ord.anti a.p b.p
            rcases pcm_ord.vals a.p b.p with h6 | h6 | h6
            · exact h4 h6
            · exact hne ((pcm_ord.eq _ _).1 h6).symm
            · apply h3; omega
theorem mis_back : ∀ (l : List It) (fs : List (List UInt8)), [] ∈ fs → Srt l → (l.map It.p).Nodup → (∀ x ∈ l, parL x.p ∈ fs ∨ ∃ y ∈ l, y.k = 1 ∧ y.p = parL x.p) → mis fs l = 0
  | [], _, _, _, _, _ => rfl
  | a :: r, fs, h0, hs, hn, hp => by
    unfold Srt at hs
    rw [List.pairwise_cons] at hs
    rw [List.map_cons, List.nodup_cons] at hn
    have h1 : ¬ (r.head?.map It.p = some a.p) := fun e => by
      cases r with
      | nil => cases e
      | cons b t => simp at e; exact hn.1 (by simp [e])
    have h2 : parL a.p ∈ fs := by
      rcases hp a List.mem_cons_self with h | ⟨y, hy, hk, e⟩
      · exact h
      · by_cases hz : parL a.p = []
        · rw [hz]; exact h0
        · obtain ⟨b, hb⟩ := par_form hz
          have h3 : pcm (parL a.p) a.p = -1 := by
            have := pcm_in (parL a.p) b
            rw [← hb] at this; exact this
          rw [← e] at h3
          rcases List.mem_cons.1 hy with rfl | hy
          · rw [(pcm_ord.eq _ _).2 rfl] at h3; exact absurd h3 (by decide)
          · exact absurd h3 (hs.1 y hy)
    unfold mis
    rw [if_neg h1, if_neg (fun h => h h2)]
    refine mis_back r _ ?_ hs.2 hn.2 (fun x hx => ?_)
    · split
      · exact List.mem_cons_of_mem _ h0
      · exact h0
    · rcases hp x (List.mem_cons_of_mem _ hx) with h | ⟨y, hy, hk, e⟩
      · left; split
        · exact List.mem_cons_of_mem _ h
        · exact h
      · rcases List.mem_cons.1 hy with rfl | hy
        · left; rw [if_pos hk, ← e]; exact List.mem_cons_self
        · exact .inr ⟨y, hy, hk, e⟩
theorem mis_good {l : List It} (hs : Srt l) : mis [[]] l = 0 ↔ Good l :=
  ⟨fun h => ⟨mis_nodup l _ hs h, fun x hx => by
    rcases mis_par l _ h x hx with h1 | h1
    · left; simpa using h1
    · exact .inr h1⟩,
   fun h => mis_back l _ (by simp) hs h.1 (fun x hx => by
    rcases h.2 x hx with h1 | h1
    · left; rw [h1]; simp
    · exact .inr h1)⟩
theorem Good.perm {l m : List It} (h : Good l) (hp : l.Perm m) : Good m :=
  ⟨(hp.map It.p).nodup_iff.1 h.1, fun x hx => by
    rcases h.2 x (hp.mem_iff.2 hx) with h1 | ⟨y, hy, h1⟩
    · exact .inl h1
    · exact .inr ⟨y, hp.mem_iff.1 hy, h1⟩⟩
/-- What Check says. -/
def IsTree (l : List It) : Prop := l.length ≤ 200 ∧ (∀ x ∈ l, fitI x = 0) ∧ Good l
theorem chk_tree {l : List It} {z : Int} (h : ChkP l z) : z = 0 ↔ IsTree l := by
  rcases h with ⟨h1, rfl⟩ | ⟨h1, h2, rfl⟩ | ⟨h1, h2, l', h3, h4, rfl⟩
  · exact ⟨fun h => absurd h (by decide), fun h => absurd h.1 (by omega)⟩
  · exact ⟨fun h => absurd h h2, fun h => absurd ((fstFit_zero l).2 h.2.1) h2⟩
  · rw [mis_good h4]
    exact ⟨fun h => ⟨h1, h2, h.perm h3⟩, fun h => h.2.2.perm h3.symm⟩
theorem IsTree.perm {l m : List It} (h : IsTree l) (hp : l.Perm m) : IsTree m :=
  ⟨by rw [← hp.length_eq]; exact h.1, fun x hx => h.2.1 x (hp.mem_iff.2 hx), h.2.2.perm hp⟩

/-! What is under a folder, and the rest. -/
def parB (q : List UInt8) (x : It) : Bool := if q = [] then false else undB q x
theorem undL_P (q : List UInt8) (l : List It) : undL q l = l.filter (parB q) := by
  unfold undL
  split
  · rename_i h
    symm
    rw [List.filter_eq_nil_iff]
    intro x _
    unfold parB; rw [if_pos h]; simp
  · rename_i h
    refine List.filter_congr fun x _ => ?_
    unfold parB; rw [if_neg h]
def rstL (p l : List It) : List It := l.filter fun x => !decide (x ∈ p)
theorem rstL_snoc (p l : List It) (x : It) : rstL p (l ++ [x]) = rstL p l ++ if x ∈ p then [] else [x] := by
  unfold rstL
  rw [List.filter_append]
  congr 1
  by_cases h : x ∈ p <;> simp [h]
theorem rstL_le (p l : List It) : (rstL p l).length ≤ l.length := List.length_filter_le _ _
theorem rstL_P (q : List UInt8) (l : List It) : rstL (undL q l) l = l.filter fun x => !parB q x := by
  unfold rstL
  refine List.filter_congr fun x hx => ?_
  congr 1
  rw [undL_P]
  by_cases h : parB q x = true
  · rw [h]; exact decide_eq_true (List.mem_filter.2 ⟨hx, h⟩)
  · rw [Bool.not_eq_true] at h; rw [h]
    exact decide_eq_false (fun hm => by rw [(List.mem_filter.1 hm).2] at h; cases h)
theorem len_parts (P : It → Bool) (l : List It) : (l.filter P).length + (l.filter fun x => !P x).length = l.length := by
  induction l with
  | nil => rfl
  | cons a l ih =>
    cases h : P a
    · rw [List.filter_cons_of_neg (by rw [h]; simp), List.filter_cons_of_pos (by rw [h]; rfl), List.length_cons, List.length_cons]; omega
    · rw [List.filter_cons_of_pos h, List.filter_cons_of_neg (by rw [h]; simp), List.length_cons, List.length_cons]; omega
theorem size_parts (P : It → Bool) (l : List It) : sizeI (l.filter P) + sizeI (l.filter fun x => !P x) = sizeI l := by
  induction l with
  | nil => rfl
  | cons a l ih =>
    cases h : P a
    · rw [List.filter_cons_of_neg (by rw [h]; simp), List.filter_cons_of_pos (by rw [h]; rfl), sizeI_cons, sizeI_cons]; omega
    · rw [List.filter_cons_of_pos h, List.filter_cons_of_neg (by rw [h]; simp), sizeI_cons, sizeI_cons]; omega
theorem und_again (q : List UInt8) (l : List It) : undL q (undL q l) = undL q l := by
  rw [undL_P, undL_P, List.filter_filter]
  refine List.filter_congr fun x _ => ?_
  simp
theorem und_rest (q : List UInt8) (l : List It) : undL q (rstL (undL q l) l) = [] := by
  rw [rstL_P, undL_P, List.filter_eq_nil_iff]
  intro x hx
  have := (List.mem_filter.1 hx).2
  simpa using this
theorem parB_in {q : List UInt8} {x y : It} {b : List UInt8} (h : parB q y = true) (e : x.p = y.p ++ 47 :: b) : parB q x = true := by
  unfold parB at h ⊢
  split
  · rename_i hq; rw [if_pos hq] at h; exact h
  · rename_i hq
    rw [if_neg hq] at h
    unfold undB at h ⊢
    rw [Bool.or_eq_true, decide_eq_true_iff, decide_eq_true_iff] at h ⊢
    right
    unfold pfx
    rcases h with h | h
    · rw [e, h, List.length_append, List.length_singleton, List.take_append, List.take_of_length_le (by omega)]
      simp
    · have hl := pfx_len h
      unfold pfx at h
      rw [e, List.take_append_of_le_length hl, h]
theorem IsTree.rest {l : List It} (h : IsTree l) (q : List UInt8) : IsTree (rstL (undL q l) l) := by
  rw [rstL_P]
  refine ⟨Nat.le_trans (List.length_filter_le _ _) h.1, fun x hx => h.2.1 x (List.mem_filter.1 hx).1, (List.filter_sublist.map _).nodup h.2.2.1, fun x hx => ?_⟩
  obtain ⟨hx1, hx2⟩ := List.mem_filter.1 hx
  rcases h.2.2.2 x hx1 with h1 | ⟨y, hy, hk, e⟩
  · exact .inl h1
  · by_cases hz : parL x.p = []
    · exact .inl hz
    · obtain ⟨b, hb⟩ := par_form hz
      refine .inr ⟨y, List.mem_filter.2 ⟨hy, ?_⟩, hk, e⟩
      cases hp : parB q y with
      | false => rfl
      | true =>
        have := parB_in (x := x) (b := b) hp (by rw [e]; exact hb)
        rw [this] at hx2; cases hx2
theorem IsTree.sizes {l : List It} (h : IsTree l) : sizeI l ≤ 6553600 ∧ ∀ x ∈ l, x.p.length ≤ 200 ∧ x.d.length ≤ 32768 := by
  have h2 : ∀ x ∈ l, x.p.length ≤ 200 ∧ x.d.length ≤ 32768 := fun x hx => ⟨(fit_len (h.2.1 x hx)).1, (fit_len (h.2.1 x hx)).2.1⟩
  have h3 : ∀ m : List It, (∀ x ∈ m, x.d.length ≤ 32768) → sizeI m ≤ 32768 * m.length := by
    intro m hm
    induction m with
    | nil => simp [sizeI]
    | cons a m ih =>
      rw [sizeI_cons, List.length_cons]
      have := ih (fun x hx => hm x (List.mem_cons_of_mem _ hx))
      have := hm a List.mem_cons_self
      split <;> omega
  have := h3 l (fun x hx => (h2 x hx).2)
  have := h.1
  exact ⟨by omega, h2⟩
end Go.Proofs.YtmjfcneofpddiaaDoor
