/- A tree in its order: the folder of a node stands ahead of it, and all between is in it; a folded path is a path (pure). -/
import Derived.Test.YtomghgbbojfpnabDoorNodQ
namespace Go.Proofs.YtomghgbbojfpnabDoor
set_option linter.unusedVariables false
set_option linter.unusedSimpArgs false

theorem chk_folder : ∀ (l : List Nd) (a : List UInt8) (fs : List (List UInt8)), chkN a fs l = 0 → ∀ i, i < l.length → parL (atN (l.getD i .non)) ∈ fs ∨ ∃ k, k < i ∧ kindN (l.getD k .non) = 1 ∧ atN (l.getD k .non) = parL (atN (l.getD i .non))
  | [], a, fs, _, i, hi => by simp at hi
  | n :: r, a, fs, h, 0, _ => .inl (chkN_cons h).2.2.1
  | n :: r, a, fs, h, i + 1, hi => by
    obtain ⟨_, _, _, h4⟩ := chkN_cons h
    rcases chk_folder r _ _ h4 i (by simp at hi; omega) with h5 | ⟨k, h5, h6, h7⟩
    · by_cases hk : kindN n = 1
      · rw [if_pos hk] at h5
        rcases List.mem_cons.1 h5 with h5 | h5
        · exact .inr ⟨0, by omega, hk, h5.symm⟩
        · exact .inl h5
      · rw [if_neg hk] at h5; exact .inl h5
    · exact .inr ⟨k + 1, by omega, h6, h7⟩
theorem check_rises {l : List Nd} (h : checkN l = 0) (i : Nat) : ∀ d, i + d + 1 < l.length → pcm (atN (l.getD i .non)) (atN (l.getD (i + d + 1) .non)) = -1
  | 0, hi => by
    have := check_rise h i hi
    rcases pcm_ord.vals (atN (l.getD i .non)) (atN (l.getD (i + 1) .non)) with h1 | h1 | h1
    · exact h1
    · omega
    · omega
  | d + 1, hi => by
    have h0 := check_rises h i d (by omega)
    have := check_rise h (i + d + 1) hi
    rcases pcm_ord.vals (atN (l.getD (i + d + 1) .non)) (atN (l.getD (i + d + 1 + 1) .non)) with h1 | h1 | h1
    · exact pcm_ord.tr _ _ _ h0 h1
    · omega
    · omega
theorem check_before {l : List Nd} (h : checkN l = 0) {j i : Nat} (hj : j < i) (hi : i < l.length) : pcm (atN (l.getD j .non)) (atN (l.getD i .non)) = -1 := by
  obtain ⟨d, rfl⟩ : ∃ d, i = j + d + 1 := ⟨i - j - 1, by omega⟩
  exact check_rises h j d hi
theorem tree_fact {l : List Nd} (h : checkN l = 0) {i : Nat} (hi : i < l.length) (hp : parL (atN (l.getD i .non)) ≠ []) :
    ∃ k, k < i ∧ kindN (l.getD k .non) = 1 ∧ atN (l.getD k .non) = parL (atN (l.getD i .non)) ∧ ∀ j, k < j → j < i → ∃ r, atN (l.getD j .non) = parL (atN (l.getD i .non)) ++ 47 :: r := by
  have hc : chkN [] [[]] l = 0 := by
    unfold checkN at h
    split at h
    · exact absurd h (by decide)
    · exact h
  rcases chk_folder l _ _ hc i hi with h1 | ⟨k, h1, h2, h3⟩
  · simp at h1; exact absurd h1 hp
  · refine ⟨k, h1, h2, h3, fun j hj1 hj2 => ?_⟩
    obtain ⟨b, hb⟩ : ∃ b, atN (l.getD i .non) = parL (atN (l.getD i .non)) ++ 47 :: b := by
      rcases last_cases (atN (l.getD i .non)) with h4 | ⟨p, b, h4, h5⟩
      · exact absurd (parL_none h4) hp
      · exact ⟨b, by rw [h4, parL_at p b h5]⟩
    have e1 := check_before h hj1 (by omega)
    have e2 := check_before h hj2 hi
    rw [h3] at e1
    rcases pcm_behind _ _ b e1 with h6 | h6
    · exact h6
    · rw [← hb, pcm_ord.anti, e2] at h6
      exact absurd h6 (by decide)
theorem rn_app {b : UInt8} {t R : List UInt8} (h : okR (rn (b :: t)) = true) : rn (b :: t ++ R) = rn (b :: t) := by
  have hb : ¬ brk (dcd b t) := ((okR_iff _).1 h).2.2.2
  obtain ⟨h1, h2, h3, h4⟩ := dcd_good b t hb
  have := h4 (t.drop ((dcd b t).2 - 1) ++ R)
  rw [← List.append_assoc, List.take_append_drop] at this
  exact this
theorem fold_app : ∀ (n : Nat) (a R : List UInt8), a.length ≤ n → runesOk a = true → foldL (a ++ R) = foldL a ++ foldL R
  | 0, a, R, hn, _ => by
    obtain rfl : a = [] := List.length_eq_zero_iff.1 (by omega)
    rw [foldL_nil]; rfl
  | n + 1, [], R, hn, _ => by rw [foldL_nil]; rfl
  | n + 1, b :: t, R, hn, ho => by
    rw [runesOk_cons (by simp), Bool.and_eq_true] at ho
    have hr := rn_app (R := R) ho.1
    have hw := rn_width (b :: t) (by simp)
    have hd := drop_less (b :: t) (by simp)
    have hf : fp (b :: t ++ R) = fp (b :: t) := by
      unfold fp
      rw [hr, List.take_append_of_le_length hw.2]
    rw [foldL_cons (l := b :: t ++ R) (by simp), foldL_cons (l := b :: t) (by simp), hf, hr, List.drop_append_of_le_length hw.2, fold_app n _ R (by omega) ho.2, List.append_assoc]
theorem fold_slash (r : List UInt8) : foldL (47 :: r) = 47 :: foldL r := by
  have h1 : rn (47 :: r) = (47, 1) := dcd_ascii 47 r (by decide)
  rw [foldL_cons (by simp)]
  have h2 : fp (47 :: r) = [47] := by
    unfold fp
    rw [h1, if_pos (by decide)]; rfl
  rw [h2, h1]; rfl
theorem ok_noslash : ∀ (n : Nat) (a : List UInt8), a.length ≤ n → runesOk a = true → ∀ x ∈ a, x ≠ 47
  | 0, a, hn, _ => by
    obtain rfl : a = [] := List.length_eq_zero_iff.1 (by omega)
    simp
  | n + 1, [], hn, _ => by simp
  | n + 1, b :: t, hn, ho => by
    rw [runesOk_cons (by simp), Bool.and_eq_true] at ho
    have hk := (okR_iff _).1 ho.1
    have hb : ¬ brk (dcd b t) := hk.2.2.2
    obtain ⟨h1, h2, h3, _⟩ := dcd_good b t hb
    have hd := drop_less (b :: t) (by simp)
    have ih := ok_noslash n _ (by omega) ho.2
    intro x hx e
    rcases List.mem_cons.1 hx with h4 | h4
    · have hb47 : b = 47 := by rw [← h4, e]
      have : rn (b :: t) = (47, 1) := by rw [hb47]; exact dcd_ascii 47 t (by decide)
      rw [this] at hk
      exact hk.2.2.1 rfl
    · rw [← List.take_append_drop ((dcd b t).2 - 1) t] at h4
      rcases List.mem_append.1 h4 with h5 | h5
      · have := (cnt_iff x).1 (h3 x h5)
        rw [e] at this
        simp at this
      · refine ih x ?_ e
        show x ∈ (b :: t).drop (dcd b t).2
        obtain ⟨q, hq⟩ : ∃ q, (dcd b t).2 = q + 1 := ⟨(dcd b t).2 - 1, by omega⟩
        rw [hq] at h5 ⊢
        simpa using h5
theorem parts_joinP : ∀ (ps : List (List UInt8)), ps ≠ [] → (∀ p ∈ ps, ∀ x ∈ p, x ≠ 47) → parts (joinP ps) = ps
  | [], h, _ => absurd rfl h
  | [p], _, h => parts_none p (h p (by simp))
  | p :: q :: r, _, h => by
    rw [joinP_cons _ _ (by simp), parts_slash _ _ (h p (by simp)), parts_joinP (q :: r) (by simp) (fun p' hp' => h p' (by simp at hp' ⊢; exact .inr hp'))]
theorem name_runes {l : List UInt8} (h : nameL l = true) : runesOk l = true := by
  unfold nameL at h
  simp only [Bool.and_eq_true] at h
  exact h.2
theorem name_foldY (l : List UInt8) (h : nameL l = true) : nameL (foldL l) = true := by
  have hn := name_runes h
  unfold nameL at h
  simp only [Bool.and_eq_true, decide_eq_true_eq] at h
  obtain ⟨⟨⟨⟨h1, h2⟩, h3⟩, h4⟩, h5⟩ := h
  have hne : l ≠ [] := by intro e; subst e; simp at h1
  rw [nameL_true (fold_ne l hne) (by rw [fold_len _ l (Nat.le_refl _)]; exact h2) (fun e => h3 (fold_dot1 l e)) (fun e => h4 (fold_dot2 l e))]
  exact ok_fold _ l (Nat.le_refl _) h5
theorem fold_joinP : ∀ (ps : List (List UInt8)), (∀ p ∈ ps, nameL p = true) → foldL (joinP ps) = joinP (ps.map foldL)
  | [], _ => by show foldL [] = []; rw [foldL_nil]
  | [p], _ => rfl
  | p :: q :: r, h => by
    rw [joinP_cons _ _ (by simp), fold_app _ p _ (Nat.le_refl _) (name_runes (h p (by simp))), fold_slash, fold_joinP (q :: r) (fun p' hp' => h p' (by simp at hp' ⊢; exact .inr hp'))]
    rw [List.map_cons (a := p), joinP_cons _ _ (by simp)]
theorem is_fold {l : List UInt8} (h : isL l = true) : isL (foldL l) = true := by
  unfold isL at h
  simp only [Bool.and_eq_true, decide_eq_true_eq, List.all_eq_true] at h
  obtain ⟨⟨h1, h2⟩, h3⟩ := h
  have hp : parts (foldL l) = (parts l).map foldL := by
    conv => lhs; rw [← joinP_parts l]
    rw [fold_joinP _ h3, parts_joinP _ (by simp [parts_ne]) (fun p hp => ?_)]
    obtain ⟨q, hq, rfl⟩ := List.mem_map.1 hp
    exact ok_noslash _ _ (Nat.le_refl _) (name_runes (name_foldY q (h3 q hq)))
  unfold isL
  rw [hp, fold_len _ l (Nat.le_refl _)]
  simp only [Bool.and_eq_true, decide_eq_true_eq, List.all_eq_true, List.length_map]
  refine ⟨⟨h1, h2⟩, fun p hp => ?_⟩
  obtain ⟨q, hq, rfl⟩ := List.mem_map.1 hp
  exact name_foldY q (h3 q hq)
end Go.Proofs.YtomghgbbojfpnabDoor
