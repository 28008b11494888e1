/- What blocks say, and a smaller limit: the plain mathematics. -/
import Derived.Test.YtibnkpfginffhaaInfY
namespace Go.Proofs.Ytibnkpfginffhaa
open Go.RowKit
set_option linter.unusedVariables false

theorem says_bytes : ∀ (l : List Nat) (out : Nat), out + l.length ≤ 1000000 → Says (l.map fun c => (⟨c, 0, 0⟩ : Tok)) out (out + l.length)
  | [], out, h => Says.nil _
  | c :: l, out, h => by
    rw [List.length_cons] at h
    have h1 : Says [(⟨c, 0, 0⟩ : Tok)] out (out + 1) := says_one rfl (by show (0 : Int) ≤ _; omega) (by unfold wid; simp) (by omega)
    have h2 := says_bytes l (out + 1) (by omega)
    have := h1.app h2
    rw [show out + 1 + l.length = out + (c :: l).length by rw [List.length_cons]; omega] at this
    exact this
theorem bdF_says {f : Nat → Bool} {L most p out k : Nat} {b : Blk} {q o : Nat} (hm : most ≤ 1000000) (ho : out ≤ most) (h : bdF f L most p out k = .ok (b, q, o)) : Says (bkP b) out o ∧ out ≤ o ∧ o ≤ most ∧ ∀ m, out ≤ m → (o ≤ m → bdF f L m p out k = .ok (b, q, o)) ∧ (m < o → bdF f L m p out k = .error 2) := by
  unfold bdF at h ⊢
  unfold bkP
  split at h
  · rename_i hk
    simp only [if_pos hk]
    cases hs : stF f L most p out with
    | error e => rw [hs] at h; cases h
    | ok r =>
      obtain ⟨x, y, z⟩ := r
      rw [hs] at h
      simp only [Except.ok.injEq, Prod.mk.injEq] at h
      obtain ⟨rfl, rfl, rfl⟩ := h
      have hso := stF_out hs
      obtain ⟨n, n2, h1, h2, h3, h4, rfl, rfl, rfl, h5⟩ := stF_place hs
      have hbl : (bytF f ((p + 7) / 8 * 8 + 32) n).length = n := by unfold bytF; simp
      refine ⟨?_, by omega, by omega, fun m hm' => ⟨fun hle => ?_, fun hlt => ?_⟩⟩
      · rw [List.append_nil]
        have := says_bytes (bytF f ((p + 7) / 8 * 8 + 32) n) out (by omega)
        rw [hbl] at this
        exact this
      · unfold stF
        rw [h1]
        simp only
        rw [h2]
        simp only
        rw [if_neg h3, if_neg (by omega), if_neg (by omega)]
      · unfold stF
        rw [h1]
        simp only
        rw [h2]
        simp only
        rw [if_neg h3, if_neg (by omega), if_pos hlt]
  · rename_i hk0
    simp only [if_neg hk0]
    split at h
    · rename_i hk
      simp only [if_pos hk]
      cases hs : tksF fixL fixD f L most (L + 1) p out [] with
      | error e => rw [hs] at h; cases h
      | ok r =>
        obtain ⟨x, y, z⟩ := r
        rw [hs] at h
        simp only [Except.ok.injEq, Prod.mk.injEq] at h
        obtain ⟨rfl, rfl, rfl⟩ := h
        obtain ⟨⟨new, hn, hsay⟩, b1, b2, b3⟩ := tksF_says hm _ _ _ _ _ _ _ ho hs
        rw [List.nil_append] at hn
        subst hn
        refine ⟨hsay, b1, b2, fun m hm' => ⟨fun hle => ?_, fun hlt => ?_⟩⟩
        · rw [(b3 m hm').1 hle]
        · rw [(b3 m hm').2 hlt]
    · rename_i hk1
      simp only [if_neg hk1]
      split at h
      · rename_i hk
        simp only [if_pos hk]
        cases hd : dynF f L p with
        | error e => rw [hd] at h; cases h
        | ok r =>
          obtain ⟨ls, ds, p1⟩ := r
          rw [hd] at h
          simp only at h ⊢
          cases hs : tksF ls ds f L most (L + 1) p1 out [] with
          | error e => rw [hs] at h; cases h
          | ok r =>
            obtain ⟨x, y, z⟩ := r
            rw [hs] at h
            simp only [Except.ok.injEq, Prod.mk.injEq] at h
            obtain ⟨rfl, rfl, rfl⟩ := h
            obtain ⟨⟨new, hn, hsay⟩, b1, b2, b3⟩ := tksF_says hm _ _ _ _ _ _ _ ho hs
            rw [List.nil_append] at hn
            subst hn
            refine ⟨hsay, b1, b2, fun m hm' => ⟨fun hle => ?_, fun hlt => ?_⟩⟩
            · rw [(b3 m hm').1 hle]
            · rw [(b3 m hm').2 hlt]
      · cases h
theorem blkF_says {f : Nat → Bool} {L most p out : Nat} {b : Blk} {last q o : Nat} (hm : most ≤ 1000000) (ho : out ≤ most) (h : blkF f L most p out = .ok (b, last, q, o)) : Says (bkP b) out o ∧ out ≤ o ∧ o ≤ most ∧ ∀ m, out ≤ m → (o ≤ m → blkF f L m p out = .ok (b, last, q, o)) ∧ (m < o → blkF f L m p out = .error 2) := by
  rw [blk_bd] at h
  cases h1 : tkF f L p 1 with
  | error e => rw [h1] at h; cases h
  | ok la =>
    rw [h1] at h
    simp only at h
    cases h2 : tkF f L (p + 1) 2 with
    | error e => rw [h2] at h; cases h
    | ok k =>
      rw [h2] at h
      simp only at h
      cases h3 : bdF f L most (p + 3) out k with
      | error e => rw [h3] at h; cases h
      | ok r =>
        obtain ⟨x, y, z⟩ := r
        rw [h3] at h
        simp only [Except.ok.injEq, Prod.mk.injEq] at h
        obtain ⟨rfl, rfl, rfl, rfl⟩ := h
        obtain ⟨b0, b1, b2, b3⟩ := bdF_says hm ho h3
        refine ⟨b0, b1, b2, fun m hm' => ⟨fun hle => ?_, fun hlt => ?_⟩⟩
        · rw [blk_bd, h1]
          simp only
          rw [h2]
          simp only
          rw [(b3 m hm').1 hle]
        · rw [blk_bd, h1]
          simp only
          rw [h2]
          simp only
          rw [(b3 m hm').2 hlt]
theorem blksF_says {f : Nat → Bool} {L most : Nat} (hm : most ≤ 1000000) : ∀ (k p out : Nat) (acc bs : List Blk) (q : Nat), out ≤ most → blksF f L most k p out acc = .ok (bs, q) → ∃ o new, bs = acc ++ new ∧ Says (jkP new) out o ∧ out ≤ o ∧ o ≤ most ∧ ∀ m, out ≤ m → (o ≤ m → blksF f L m k p out acc = .ok (bs, q)) ∧ (m < o → blksF f L m k p out acc = .error 2)
  | 0, p, out, acc, bs, q, ho, h => by rw [blksF] at h; cases h
  | k + 1, p, out, acc, bs, q, ho, h => by
    rw [blksF] at h
    cases hb : blkF f L most p out with
    | error e => rw [hb] at h; cases h
    | ok r =>
      obtain ⟨b, la, p1, o1⟩ := r
      rw [hb] at h
      simp only at h
      obtain ⟨a0, a1, a2, a3⟩ := blkF_says hm ho hb
      by_cases hl : la = 1
      · rw [if_pos hl] at h
        simp only [Except.ok.injEq, Prod.mk.injEq] at h
        obtain ⟨rfl, rfl⟩ := h
        refine ⟨o1, [b], rfl, by simpa [jkP] using a0, a1, a2, fun m hm' => ⟨fun hle => ?_, fun hlt => ?_⟩⟩
        · rw [blksF, (a3 m hm').1 hle]
          simp only
          rw [if_pos hl]
        · rw [blksF, (a3 m hm').2 hlt]
      · rw [if_neg hl] at h
        obtain ⟨o, new, rfl, c0, c1, c2, c3⟩ := blksF_says hm k p1 o1 _ bs q a2 h
        refine ⟨o, b :: new, by rw [List.append_assoc]; rfl, ?_, by omega, c2, fun m hm' => ⟨fun hle => ?_, fun hlt => ?_⟩⟩
        · have := a0.app c0
          unfold jkP at this ⊢
          rw [List.flatMap_cons]
          exact this
        · rw [blksF, (a3 m hm').1 (by omega)]
          simp only
          rw [if_neg hl]
          exact (c3 m (by omega)).1 hle
        · rw [blksF]
          by_cases hc : m < o1
          · rw [(a3 m hm').2 hc]
          · rw [(a3 m hm').1 (by omega)]
            simp only
            rw [if_neg hl]
            exact (c3 m (by omega)).2 hlt
end Go.Proofs.Ytibnkpfginffhaa
