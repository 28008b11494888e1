/- A stream that is cut is wanting: the plain mathematics. -/
import Derived.Test.YthkppipdflmekaaQInfO
namespace Go.Proofs.Ythkppipdflmekaa
open Go.RowKit
set_option linter.unusedVariables false

theorem tkF_cut {f g : Nat → Bool} {L M p n x : Nat} (h : tkF f L p n = .ok x) (hM : M < p + n) : tkF g M p n = .error 6 := by
  unfold tkF
  rw [if_pos hM]
theorem nxG_cut {ns : List Nat} {f g : Nat → Bool} {L M p : Nat} (ha : Alike f g M) : ∀ (k j t q : Nat), nxG ns f L p k j = .ok (t, q) → M < q → nxG ns g M p k j = .error 6
  | 0, j, t, q, h, hM => by rw [nxG] at h; cases h
  | k + 1, j, t, q, h, hM => by
    rw [nxG] at h ⊢
    by_cases hj : M ≤ p + j
    · rw [if_pos hj]
    · have e : pfB (fun i => g (p + i)) (j + 1) = pfB (fun i => f (p + i)) (j + 1) := pfB_loc (fun i hi => (ha (p + i) (by omega)).symm)
      rw [e, if_neg hj]
      split at h
      · cases h
      · split at h
        · simp only [Except.ok.injEq, Prod.mk.injEq] at h; omega
        · split at h
          · rename_i hany
            rw [if_pos hany]
            exact nxG_cut ha k (j + 1) t q h hM
          · cases h
theorem nxF_cut {ns : List Nat} {f g : Nat → Bool} {L M p t q : Nat} (ha : Alike f g M) (h : nxF ns f L p = .ok (t, q)) (hM : M < q) : nxF ns g M p = .error 6 := nxG_cut ha 16 0 t q h hM
theorem szE_cut {f g : Nat → Bool} {L M p i x q : Nat} {far : Bool} (h : szE f L p i far = .ok (x, q)) (hM : M < q) : szE g M p i far = .error 6 := by
  unfold szE at h ⊢
  split at h
  · cases h
  · rename_i h0
    rw [if_neg h0]
    cases ht : tkF f L p (szF i far).2 with
    | error e => rw [ht] at h; cases h
    | ok m =>
      rw [ht] at h
      simp only [Except.ok.injEq, Prod.mk.injEq] at h
      rw [tkF_cut ht (by omega)]
theorem tkE_cut {ds : List Nat} {f g : Nat → Bool} {L M most p out sym q o : Nat} {t : Tok} (ha : Alike f g M) (hp : p ≤ M) (h : tkE ds f L most p out sym = .ok (t, q, o)) (hM : M < q) : tkE ds g M most p out sym = .error 6 := by
  unfold tkE at h ⊢
  split at h
  · split at h
    · cases h
    · simp only [Except.ok.injEq, Prod.mk.injEq] at h; omega
  · rename_i hs
    rw [if_neg hs]
    cases h1 : szE f L p (sym - 257) false with
    | error e => rw [h1] at h; cases h
    | ok r1 =>
      obtain ⟨size, p1⟩ := r1
      rw [h1] at h
      simp only at h
      by_cases c1 : M < p1
      · rw [szE_cut h1 c1]
      · rw [szE_loc h1 (ha.less (by omega)) (by omega)]
        simp only
        cases h2 : nxF ds f L p1 with
        | error e => rw [h2] at h; cases h
        | ok r2 =>
          obtain ⟨d, p2⟩ := r2
          rw [h2] at h
          simp only at h
          by_cases c2 : M < p2
          · rw [nxF_cut ha h2 c2]
          · rw [nxF_loc h2 (ha.less (by omega)) (by omega)]
            simp only
            cases h3 : szE f L p2 d true with
            | error e => rw [h3] at h; cases h
            | ok r3 =>
              obtain ⟨dist, p3⟩ := r3
              rw [h3] at h
              simp only at h
              have hq : p3 = q := by
                split at h
                · cases h
                · split at h
                  · cases h
                  · simp only [Except.ok.injEq, Prod.mk.injEq] at h; exact h.2.1
              subst hq
              rw [szE_cut h3 hM]
theorem tksF_cut {ls ds : List Nat} {f g : Nat → Bool} {L M most : Nat} (ha : Alike f g M) : ∀ (k k' p out : Nat) (acc ts : List Tok) (q o : Nat), p ≤ M → tksF ls ds f L most k p out acc = .ok (ts, q, o) → M < q → tksF ls ds g M most k' p out acc = .error 6
  | 0, k', p, out, acc, ts, q, o, hp, h, hM => by rw [tksF] at h; cases h
  | k + 1, 0, p, out, acc, ts, q, o, hp, h, hM => by rw [tksF]
  | k + 1, m + 1, p, out, acc, ts, q, o, hp, h, hM => by
    rw [tksF] at h ⊢
    cases hx : nxF ls f L p with
    | error e => rw [hx] at h; cases h
    | ok r1 =>
      obtain ⟨sym, p1⟩ := r1
      rw [hx] at h
      simp only at h
      by_cases c1 : M < p1
      · rw [nxF_cut ha hx c1]
      · rw [nxF_loc hx (ha.less (by omega)) (by omega)]
        simp only
        split at h
        · simp only [Except.ok.injEq, Prod.mk.injEq] at h; omega
        · rename_i hs
          rw [if_neg hs]
          cases ht : tkE ds f L most p1 out sym with
          | error e => rw [ht] at h; cases h
          | ok r2 =>
            obtain ⟨t, p2, o2⟩ := r2
            rw [ht] at h
            simp only at h
            by_cases c2 : M < p2
            · rw [tkE_cut ha (by omega) ht c2]
            · rw [tkE_loc (nxF_place hx).2 ht (ha.less (by omega)) (by omega)]
              simp only
              exact tksF_cut ha k m p2 o2 _ ts q o (by omega) h hM
theorem stF_cut {f g : Nat → Bool} {L M most p out : Nat} {b : List Nat} {q o : Nat} (ha : Alike f g M) (h : stF f L most p out = .ok (b, q, o)) (hM : M < q) : stF g M most p out = .error 6 := by
  obtain ⟨n, m, h1, h2, h3, h4, rfl, rfl, rfl, h5⟩ := stF_place h
  unfold stF
  by_cases c1 : M < (p + 7) / 8 * 8 + 16
  · rw [tkF_cut h1 c1]
  · rw [tkF_loc h1 (ha.less (by omega)) (by omega)]
    simp only
    by_cases c2 : M < (p + 7) / 8 * 8 + 16 + 16
    · rw [tkF_cut h2 c2]
    · rw [tkF_loc h2 (ha.less (by omega)) (by omega)]
      simp only
      rw [if_neg h3, if_pos (by omega)]
theorem rowF_cut {ns : List Nat} {f g : Nat → Bool} {L M n : Nat} (ha : Alike f g M) : ∀ (k k' p : Nat) (row row' : List Nat) (q : Nat), p ≤ M → rowF ns f L n k p row = .ok (row', q) → M < q → rowF ns g M n k' p row = .error 6
  | 0, k', p, row, row', q, hp, h, hM => by rw [rowF] at h; cases h
  | k + 1, 0, p, row, row', q, hp, h, hM => by rw [rowF]
  | k + 1, m + 1, p, row, row', q, hp, h, hM => by
    rw [rowF] at h ⊢
    split at h
    · split at h
      · cases h
      · simp only [Except.ok.injEq, Prod.mk.injEq] at h; omega
    · rename_i hn
      rw [if_neg hn]
      cases hx : nxF ns f L p with
      | error e => rw [hx] at h; cases h
      | ok r1 =>
        obtain ⟨sym, p1⟩ := r1
        rw [hx] at h
        simp only at h
        by_cases c1 : M < p1
        · rw [nxF_cut ha hx c1]
        · rw [nxF_loc hx (ha.less (by omega)) (by omega)]
          simp only
          split at h
          · cases h
          · rename_i hs
            rw [if_neg hs]
            cases ht : tkF f L p1 (tmF sym).2 with
            | error e => rw [ht] at h; cases h
            | ok x =>
              rw [ht] at h
              simp only at h
              by_cases c2 : M < p1 + (tmF sym).2
              · rw [tkF_cut ht c2]
              · rw [tkF_loc ht (ha.less (by omega)) (by omega)]
                simp only
                exact rowF_cut ha k m _ _ _ _ (by omega) h hM
theorem dynF_cut {f g : Nat → Bool} {L M p : Nat} {ls ds : List Nat} {q : Nat} (ha : Alike f g M) (h : dynF f L p = .ok (ls, ds, q)) (hM : M < q) : dynF g M p = .error 6 := by
  by_cases hL : p + 14 ≤ L
  · by_cases hS : M < p + 14
    · exact dyn_short hS
    · rw [dyn_long hL] at h
      have e1 : takeN (fun i => g (p + i)) 5 = takeN (fun i => f (p + i)) 5 := takeN_congr 5 (fun i hi => (ha _ (by omega)).symm)
      have e2 : takeN (fun i => g (p + 5 + i)) 5 = takeN (fun i => f (p + 5 + i)) 5 := takeN_congr 5 (fun i hi => (ha _ (by omega)).symm)
      have e3 : takeN (fun i => g (p + 10 + i)) 4 = takeN (fun i => f (p + 10 + i)) 4 := takeN_congr 4 (fun i hi => (ha _ (by omega)).symm)
      rw [dyn_long (by omega), e1, e2, e3]
      generalize takeN (fun i => f (p + i)) 5 = a at *
      generalize takeN (fun i => f (p + 5 + i)) 5 = b at *
      generalize takeN (fun i => f (p + 10 + i)) 4 = c at *
      unfold dynT at h ⊢
      split at h
      · cases h
      · rename_i h1
        rw [if_neg h1]
        by_cases c1 : M < p + 14 + 3 * (c + 4)
        · rw [if_pos c1]
        · rw [if_neg c1, ← fstL_loc (f := f) (ha.less (by omega))]
          split at h
          · cases h
          · split at h
            · cases h
            · rename_i h3
              rw [if_neg h3]
              cases hro : rowF (fstL f (p + 14) (c + 4)) f L (a + b + 258) (L + 1) (p + 14 + 3 * (c + 4)) [] with
              | error e => rw [hro] at h; cases h
              | ok r =>
                obtain ⟨row, p1⟩ := r
                rw [hro] at h
                simp only at h
                have hq : p1 = q := by
                  split at h
                  · cases h
                  · split at h
                    · cases h
                    · simp only [Except.ok.injEq, Prod.mk.injEq] at h; exact h.2.2
                subst hq
                rw [rowF_cut ha _ (M + 1) _ _ _ _ (by omega) hro hM]
  · rw [dyn_short (by omega)] at h; cases h
theorem bdF_cut {f g : Nat → Bool} {L M most p out k : Nat} {b : Blk} {q o : Nat} (ha : Alike f g M) (hp : p ≤ M) (h : bdF f L most p out k = .ok (b, q, o)) (hM : M < q) : bdF g M most p out k = .error 6 := by
  unfold bdF at h ⊢
  split at h
  · rename_i hk
    rw [if_pos hk]
    cases hs : stF f L most p out with
    | error e => rw [hs] at h; cases h
    | ok r =>
      obtain ⟨x, y, z⟩ := r
      rw [hs] at h
      simp only [Except.ok.injEq, Prod.mk.injEq] at h
      obtain ⟨rfl, rfl, rfl⟩ := h
      rw [stF_cut ha hs hM]
  · rename_i hk0
    rw [if_neg hk0]
    split at h
    · rename_i hk
      rw [if_pos hk]
      cases hs : tksF fixL fixD f L most (L + 1) p out [] with
      | error e => rw [hs] at h; cases h
      | ok r =>
        obtain ⟨x, y, z⟩ := r
        rw [hs] at h
        simp only [Except.ok.injEq, Prod.mk.injEq] at h
        obtain ⟨rfl, rfl, rfl⟩ := h
        rw [tksF_cut ha _ (M + 1) _ _ _ _ _ _ hp hs hM]
    · rename_i hk1
      rw [if_neg hk1]
      split at h
      · rename_i hk
        rw [if_pos hk]
        cases hd : dynF f L p with
        | error e => rw [hd] at h; cases h
        | ok r =>
          obtain ⟨ls, ds, p1⟩ := r
          rw [hd] at h
          simp only at h
          cases hs : tksF ls ds f L most (L + 1) p1 out [] with
          | error e => rw [hs] at h; cases h
          | ok r =>
            obtain ⟨x, y, z⟩ := r
            rw [hs] at h
            simp only [Except.ok.injEq, Prod.mk.injEq] at h
            obtain ⟨rfl, rfl, rfl⟩ := h
            by_cases c1 : M < p1
            · rw [dynF_cut ha hd c1]
            · rw [(dynF_loc (M := M) hd (ha.less (by omega)) (by omega)).1]
              simp only
              rw [tksF_cut ha _ (M + 1) _ _ _ _ _ _ (by omega) hs hM]
      · cases h
theorem blkF_cut {f g : Nat → Bool} {L M most p out : Nat} {b : Blk} {last q o : Nat} (ha : Alike f g M) (h : blkF f L most p out = .ok (b, last, q, o)) (hM : M < q) : blkF g M most p out = .error 6 := by
  rw [blk_bd] at h ⊢
  cases h1 : tkF f L p 1 with
  | error e => rw [h1] at h; cases h
  | ok la =>
    rw [h1] at h
    simp only at h
    by_cases c1 : M < p + 1
    · rw [tkF_cut h1 c1]
    · rw [tkF_loc h1 (ha.less (by omega)) (by omega)]
      simp only
      cases h2 : tkF f L (p + 1) 2 with
      | error e => rw [h2] at h; cases h
      | ok k =>
        rw [h2] at h
        simp only at h
        by_cases c2 : M < p + 1 + 2
        · rw [tkF_cut h2 c2]
        · rw [tkF_loc h2 (ha.less (by omega)) (by omega)]
          simp only
          cases h3 : bdF f L most (p + 3) out k with
          | error e => rw [h3] at h; cases h
          | ok r =>
            obtain ⟨x, y, z⟩ := r
            rw [h3] at h
            simp only [Except.ok.injEq, Prod.mk.injEq] at h
            obtain ⟨rfl, rfl, rfl, rfl⟩ := h
            rw [bdF_cut ha (by omega) h3 hM]
theorem blksF_cut {f g : Nat → Bool} {L M most : Nat} (ha : Alike f g M) : ∀ (k k' p out : Nat) (acc bs : List Blk) (q : Nat), blksF f L most k p out acc = .ok (bs, q) → M < q → blksF g M most k' p out acc = .error 6
  | 0, k', p, out, acc, bs, q, h, hM => by rw [blksF] at h; cases h
  | k + 1, 0, p, out, acc, bs, q, h, hM => by rw [blksF]
  | k + 1, m + 1, p, out, acc, bs, q, h, hM => by
    rw [blksF] at h ⊢
    cases hb : blkF f L most p out with
    | error e => rw [hb] at h; cases h
    | ok r =>
      obtain ⟨b, la, p1, o1⟩ := r
      rw [hb] at h
      simp only at h
      by_cases c1 : M < p1
      · rw [blkF_cut ha hb c1]
      · rw [(blkF_loc (M := M) hb (ha.less (by omega)) (by omega)).1]
        simp only
        split at h
        · simp only [Except.ok.injEq, Prod.mk.injEq] at h; omega
        · rename_i hl
          rw [if_neg hl]
          exact blksF_cut ha k m p1 o1 _ bs q h hM
end Go.Proofs.Ythkppipdflmekaa
