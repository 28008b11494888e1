/- What blocks say, and a smaller limit: the plain mathematics. -/
import Derived.Test.YthkppipdflmekaaGreatQRSiz
namespace Go.Proofs.YthkppipdflmekaaGreat
open Go.RowKit
set_option linter.unusedVariables false
theorem qif {f : Nat → Bool} {L most p out : Nat} {b : List Nat} {q o : Nat} (h : stF f L most p out = .ok (b, q, o)) : ∃ n m, tkF f L ((p + 7) / 8 * 8) 16 = .ok n ∧ tkF f L ((p + 7) / 8 * 8 + 16) 16 = .ok m ∧ ¬ n + m ≠ 65535 ∧ ¬ most < out + n ∧ b = bytF f ((p + 7) / 8 * 8 + 32) n ∧ q = (p + 7) / 8 * 8 + 32 + 8 * n ∧ o = out + n ∧ q ≤ L := by
 unfold stF at h
 cases h1 : tkF f L ((p + 7) / 8 * 8) 16 with
 | error e => rw [h1] at h; cases h
 | ok n =>
  rw [h1] at h
  simp only at h
  cases h2 : tkF f L ((p + 7) / 8 * 8 + 16) 16 with
  | error e => rw [h2] at h; cases h
  | ok m =>
   rw [h2] at h
   simp only at h
   split at h
   · cases h
   · rename_i a1
     split at h
     · cases h
     · rename_i a2
       split at h
       · cases h
       · rename_i a3
         simp only [Except.ok.injEq, Prod.mk.injEq] at h
         obtain ⟨rfl, rfl, rfl⟩ := h
         exact ⟨n, m, rfl, rfl, a1, a3, rfl, rfl, rfl, by omega⟩
theorem qx8 : ∀ i : Fin 29, 3 ≤ (szF i.val false).1 ∧ (szF i.val false).1 + 2 ^ (szF i.val false).2 ≤ 259 := by decide +kernel
theorem qya : ∀ i : Fin 30, 1 ≤ (szF i.val true).1 ∧ (szF i.val true).1 + 2 ^ (szF i.val true).2 ≤ 32769 := by decide +kernel
theorem qyb {f : Nat → Bool} {L p i x q : Nat} (h : szE f L p i false = .ok (x, q)) : 3 ≤ x ∧ x ≤ 258 := by
 obtain ⟨h0, m, hm, rfl, _⟩ := qmp h
 by_cases hi : i < 29
 · have k := qx8 ⟨i, hi⟩
   simp only at k
   have hm2 := (qcg hm).2
   have := qaw (fun j => f (p + j)) (szF i false).2
   omega
 · exact absurd (by unfold szF; rw [if_neg (by decide), if_pos (by omega)]) h0
theorem qyc {f : Nat → Bool} {L p i x q : Nat} (h : szE f L p i true = .ok (x, q)) : 1 ≤ x ∧ x ≤ 32768 := by
 obtain ⟨h0, m, hm, rfl, _⟩ := qmp h
 by_cases hi : i < 30
 · have k := qya ⟨i, hi⟩
   simp only at k
   have hm2 := (qcg hm).2
   have := qaw (fun j => f (p + j)) (szF i true).2
   omega
 · exact absurd (by unfold szF; rw [if_pos rfl, if_neg hi]) h0
theorem q1l {ds : List Nat} {f : Nat → Bool} {L most p out sym q o : Nat} {t : Tok} (h : tkE ds f L most p out sym = .ok (t, q, o)) : qbr t = true ∧ t.d ≤ (out : Int) ∧ (o : Int) = out + wid t ∧ o ≤ most := by
 unfold tkE at h
 split at h
 · split at h
   · cases h
   · simp only [Except.ok.injEq, Prod.mk.injEq] at h
     obtain ⟨rfl, rfl, rfl⟩ := h
     refine ⟨rfl, by show (0 : Int) ≤ _; omega, ?_, by omega⟩
     unfold wid
     simp
 · cases h1 : szE f L p (sym - 257) false with
   | error e => rw [h1] at h; cases h
   | ok r1 =>
    obtain ⟨size, p1⟩ := r1
    rw [h1] at h
    simp only at h
    cases h2 : nxF ds f L p1 with
    | error e => rw [h2] at h; cases h
    | ok r2 =>
     obtain ⟨d, p2⟩ := r2
     rw [h2] at h
     simp only at h
     cases h3 : szE f L p2 d true with
     | error e => rw [h3] at h; cases h
     | ok r3 =>
      obtain ⟨dist, p3⟩ := r3
      rw [h3] at h
      simp only at h
      have a1 := qyb h1
      have a3 := qyc h3
      split at h
      · cases h
      · split at h
        · cases h
        · simp only [Except.ok.injEq, Prod.mk.injEq] at h
          obtain ⟨rfl, rfl, rfl⟩ := h
          refine ⟨qlx rfl (by show (3 : Int) ≤ (size : Int); omega) (by show (size : Int) ≤ 258; omega) (by show (1 : Int) ≤ (dist : Int); omega) (by show (dist : Int) ≤ 32768; omega), by show (dist : Int) ≤ _; omega, ?_, by omega⟩
          unfold wid
          simp only
          rw [if_pos (by omega)]; omega
theorem qx6 {ds : List Nat} {f : Nat → Bool} {L most p out sym q o : Nat} {t : Tok} (h : tkE ds f L most p out sym = .ok (t, q, o)) (m : Nat) : (o ≤ m → tkE ds f L m p out sym = .ok (t, q, o)) ∧ (m < o → tkE ds f L m p out sym = .error 2) := by
 unfold tkE at h ⊢
 split at h
 · rename_i hs
   rw [if_pos hs]
   split at h
   · cases h
   · simp only [Except.ok.injEq, Prod.mk.injEq] at h
     obtain ⟨rfl, rfl, rfl⟩ := h
     exact ⟨fun hm => by rw [if_neg (by omega)], fun hm => by rw [if_pos hm]⟩
 · rename_i hs
   rw [if_neg hs]
   cases h1 : szE f L p (sym - 257) false with
   | error e => rw [h1] at h; cases h
   | ok r1 =>
    obtain ⟨size, p1⟩ := r1
    rw [h1] at h
    simp only at h ⊢
    cases h2 : nxF ds f L p1 with
    | error e => rw [h2] at h; cases h
    | ok r2 =>
     obtain ⟨d, p2⟩ := r2
     rw [h2] at h
     simp only at h ⊢
     cases h3 : szE f L p2 d true with
     | error e => rw [h3] at h; cases h
     | ok r3 =>
      obtain ⟨dist, p3⟩ := r3
      rw [h3] at h
      simp only at h ⊢
      split at h
      · cases h
      · rename_i hd
        rw [if_neg hd]
        split at h
        · cases h
        · simp only [Except.ok.injEq, Prod.mk.injEq] at h
          obtain ⟨rfl, rfl, rfl⟩ := h
          exact ⟨fun hm => by rw [if_neg (by omega)], fun hm => by rw [if_pos hm]⟩
theorem qrz (M : Int) : ∀ (a b : List Tok) (O O1 : List Nat), expF M a O = (O1, 0) → expF M (a ++ b) O = expF M b O1
 | [], b, O, O1, h => by simp only [expF, Prod.mk.injEq, and_true] at h; subst h; rfl
 | t :: a, b, O, O1, h => by
  rw [List.cons_append, expF]
  rw [expF] at h
  by_cases e : errT O M t = 0
  · rw [if_pos e] at h ⊢
    exact qrz M a b _ O1 h
  · rw [if_neg e] at h
    simp only [Prod.mk.injEq] at h
    exact absurd h.2 e
def Says (l : List Tok) (out o : Nat) : Prop := ∀ O : List Nat, O.length = out → ∃ O', expF 9223372036854775807 l O = (O', 0) ∧ O'.length = o
theorem Says.nil (out : Nat) : Says [] out out := fun O h => ⟨O, rfl, h⟩
theorem Says.app {a b : List Tok} {x y z : Nat} (h : Says a x y) (k : Says b y z) : Says (a ++ b) x z := by
 intro O hO
 obtain ⟨O1, e1, l1⟩ := h O hO
 obtain ⟨O2, e2, l2⟩ := k O1 l1
 exact ⟨O2, by rw [qrz _ _ _ _ _ e1, e2], l2⟩
theorem qqv {t : Tok} {out o : Nat} (h1 : qbr t = true) (h2 : t.d ≤ (out : Int)) (h3 : (o : Int) = out + wid t) (h4 : o ≤ 1000000) : Says [t] out o := by
 intro O hO
 subst hO
 have e := ql6 (most := 9223372036854775807) h1 h2 (by omega)
 refine ⟨sayT O t, by rw [expF, if_pos e]; rfl, ?_⟩
 have := qhl (out := O) h1
 omega
theorem qh9 {ls ds : List Nat} {f : Nat → Bool} {L most : Nat} (hm : most ≤ 1000000) : ∀ (k p out : Nat) (acc ts : List Tok) (q o : Nat), out ≤ most → tksF ls ds f L most k p out acc = .ok (ts, q, o) → (∃ new, ts = acc ++ new ∧ Says new out o) ∧ out ≤ o ∧ o ≤ most ∧ ∀ m, out ≤ m → (o ≤ m → tksF ls ds f L m k p out acc = .ok (ts, q, o)) ∧ (m < o → tksF ls ds f L m k p out acc = .error 2)
 | 0, p, out, acc, ts, q, o, ho, h => by rw [tksF] at h; cases h
 | k + 1, p, out, acc, ts, q, o, ho, h => by
  rw [tksF] at h
  cases hx : nxF ls f L p with
  | error e => rw [hx] at h; cases h
  | ok r1 =>
   obtain ⟨sym, p1⟩ := r1
   rw [hx] at h
   simp only at h
   by_cases hs : sym = 256
   · rw [if_pos hs] at h
     simp only [Except.ok.injEq, Prod.mk.injEq] at h
     obtain ⟨rfl, rfl, rfl⟩ := h
     refine ⟨⟨[], by rw [List.append_nil], Says.nil _⟩, Nat.le_refl _, ho, fun m hm' => ⟨fun _ => ?_, fun hlt => absurd hlt (by omega)⟩⟩
     rw [tksF, hx]
     simp only
     rw [if_pos hs]
   · rw [if_neg hs] at h
     cases ht : tkE ds f L most p1 out sym with
     | error e => rw [ht] at h; cases h
     | ok r2 =>
      obtain ⟨t, p2, o2⟩ := r2
      rw [ht] at h
      simp only at h
      obtain ⟨a1, a2, a3, a4⟩ := q1l ht
      have hw := qed t
      obtain ⟨⟨new, rfl, hsay⟩, b1, b2, b3⟩ := qh9 hm k p2 o2 _ ts q o a4 h
      refine ⟨⟨t :: new, by rw [List.append_assoc]; rfl, (qqv a1 a2 a3 (by omega)).app hsay⟩, by omega, b2, fun m hm' => ?_⟩
      have hmm := qx6 ht m
      refine ⟨fun hle => ?_, fun hlt => ?_⟩
      · rw [tksF, hx]
        simp only
        rw [if_neg hs, hmm.1 (by omega)]
        simp only
        exact (b3 m (by omega)).1 hle
      · rw [tksF, hx]
        simp only
        rw [if_neg hs]
        by_cases hc : m < o2
        · rw [hmm.2 hc]
        · rw [hmm.1 (by omega)]
          simp only
          exact (b3 m (by omega)).2 hlt
theorem qj8 : ∀ (l : List Nat) (out : Nat), out + l.length ≤ 1000000 → Says (l.map fun c => (⟨c, 0, 0⟩ : Tok)) out (out + l.length)
 | [], out, h => Says.nil _
 | c :: l, out, h => by
  rw [List.length_cons] at h
  have h1 : Says [(⟨c, 0, 0⟩ : Tok)] out (out + 1) := qqv rfl (by show (0 : Int) ≤ _; omega) (by unfold wid; simp) (by omega)
  have h2 := qj8 l (out + 1) (by omega)
  have := h1.app h2
  rw [show out + 1 + l.length = out + (c :: l).length by rw [List.length_cons]; omega] at this
  exact this
theorem q0k {f : Nat → Bool} {L most p out k : Nat} {b : Blk} {q o : Nat} (hm : most ≤ 1000000) (ho : out ≤ most) (h : bdF f L most p out k = .ok (b, q, o)) : Says (bkP b) out o ∧ out ≤ o ∧ o ≤ most ∧ ∀ m, out ≤ m → (o ≤ m → bdF f L m p out k = .ok (b, q, o)) ∧ (m < o → bdF f L m p out k = .error 2) := by
 unfold bdF at h ⊢
 unfold bkP
 split at h
 · rename_i hk
   simp only [if_pos hk]
   cases hs : stF f L most p out with
   | error e => rw [hs] at h; cases h
   | ok r =>
    obtain ⟨x, y, z⟩ := r
    rw [hs] at h
    simp only [Except.ok.injEq, Prod.mk.injEq] at h
    obtain ⟨rfl, rfl, rfl⟩ := h
    have hso := qop hs
    obtain ⟨n, n2, h1, h2, h3, h4, rfl, rfl, rfl, h5⟩ := qif hs
    have hbl : (bytF f ((p + 7) / 8 * 8 + 32) n).length = n := by unfold bytF; simp
    refine ⟨?_, by omega, by omega, fun m hm' => ⟨fun hle => ?_, fun hlt => ?_⟩⟩
    · rw [List.append_nil]
      have := qj8 (bytF f ((p + 7) / 8 * 8 + 32) n) out (by omega)
      rw [hbl] at this
      exact this
    · unfold stF
      rw [h1]
      simp only
      rw [h2]
      simp only
      rw [if_neg h3, if_neg (by omega), if_neg (by omega)]
    · unfold stF
      rw [h1]
      simp only
      rw [h2]
      simp only
      rw [if_neg h3, if_neg (by omega), if_pos hlt]
 · rename_i hk0
   simp only [if_neg hk0]
   split at h
   · rename_i hk
     simp only [if_pos hk]
     cases hs : tksF fixL fixD f L most (L + 1) p out [] with
     | error e => rw [hs] at h; cases h
     | ok r =>
      obtain ⟨x, y, z⟩ := r
      rw [hs] at h
      simp only [Except.ok.injEq, Prod.mk.injEq] at h
      obtain ⟨rfl, rfl, rfl⟩ := h
      obtain ⟨⟨new, hn, hsay⟩, b1, b2, b3⟩ := qh9 hm _ _ _ _ _ _ _ ho hs
      rw [List.nil_append] at hn
      subst hn
      refine ⟨hsay, b1, b2, fun m hm' => ⟨fun hle => ?_, fun hlt => ?_⟩⟩
      · rw [(b3 m hm').1 hle]
      · rw [(b3 m hm').2 hlt]
   · rename_i hk1
     simp only [if_neg hk1]
     split at h
     · rename_i hk
       simp only [if_pos hk]
       cases hd : dynF f L p with
       | error e => rw [hd] at h; cases h
       | ok r =>
        obtain ⟨ls, ds, p1⟩ := r
        rw [hd] at h
        simp only at h ⊢
        cases hs : tksF ls ds f L most (L + 1) p1 out [] with
        | error e => rw [hs] at h; cases h
        | ok r =>
         obtain ⟨x, y, z⟩ := r
         rw [hs] at h
         simp only [Except.ok.injEq, Prod.mk.injEq] at h
         obtain ⟨rfl, rfl, rfl⟩ := h
         obtain ⟨⟨new, hn, hsay⟩, b1, b2, b3⟩ := qh9 hm _ _ _ _ _ _ _ ho hs
         rw [List.nil_append] at hn
         subst hn
         refine ⟨hsay, b1, b2, fun m hm' => ⟨fun hle => ?_, fun hlt => ?_⟩⟩
         · rw [(b3 m hm').1 hle]
         · rw [(b3 m hm').2 hlt]
     · cases h
theorem qxh {f : Nat → Bool} {L most p out : Nat} {b : Blk} {last q o : Nat} (hm : most ≤ 1000000) (ho : out ≤ most) (h : blkF f L most p out = .ok (b, last, q, o)) : Says (bkP b) out o ∧ out ≤ o ∧ o ≤ most ∧ ∀ m, out ≤ m → (o ≤ m → blkF f L m p out = .ok (b, last, q, o)) ∧ (m < o → blkF f L m p out = .error 2) := by
 rw [qha] at h
 cases h1 : tkF f L p 1 with
 | error e => rw [h1] at h; cases h
 | ok la =>
  rw [h1] at h
  simp only at h
  cases h2 : tkF f L (p + 1) 2 with
  | error e => rw [h2] at h; cases h
  | ok k =>
   rw [h2] at h
   simp only at h
   cases h3 : bdF f L most (p + 3) out k with
   | error e => rw [h3] at h; cases h
   | ok r =>
    obtain ⟨x, y, z⟩ := r
    rw [h3] at h
    simp only [Except.ok.injEq, Prod.mk.injEq] at h
    obtain ⟨rfl, rfl, rfl, rfl⟩ := h
    obtain ⟨b0, b1, b2, b3⟩ := q0k hm ho h3
    refine ⟨b0, b1, b2, fun m hm' => ⟨fun hle => ?_, fun hlt => ?_⟩⟩
    · rw [qha, h1]
      simp only
      rw [h2]
      simp only
      rw [(b3 m hm').1 hle]
    · rw [qha, h1]
      simp only
      rw [h2]
      simp only
      rw [(b3 m hm').2 hlt]
theorem qgy {f : Nat → Bool} {L most : Nat} (hm : most ≤ 1000000) : ∀ (k p out : Nat) (acc bs : List Blk) (q : Nat), out ≤ most → qbt f L most k p out acc = .ok (bs, q) → ∃ o new, bs = acc ++ new ∧ Says (jkP new) out o ∧ out ≤ o ∧ o ≤ most ∧ ∀ m, out ≤ m → (o ≤ m → qbt f L m k p out acc = .ok (bs, q)) ∧ (m < o → qbt f L m k p out acc = .error 2)
 | 0, p, out, acc, bs, q, ho, h => by rw [qbt] at h; cases h
 | k + 1, p, out, acc, bs, q, ho, h => by
  rw [qbt] at h
  cases hb : blkF f L most p out with
  | error e => rw [hb] at h; cases h
  | ok r =>
   obtain ⟨b, la, p1, o1⟩ := r
   rw [hb] at h
   simp only at h
   obtain ⟨a0, a1, a2, a3⟩ := qxh hm ho hb
   by_cases hl : la = 1
   · rw [if_pos hl] at h
     simp only [Except.ok.injEq, Prod.mk.injEq] at h
     obtain ⟨rfl, rfl⟩ := h
     refine ⟨o1, [b], rfl, by simpa [jkP] using a0, a1, a2, fun m hm' => ⟨fun hle => ?_, fun hlt => ?_⟩⟩
     · rw [qbt, (a3 m hm').1 hle]
       simp only
       rw [if_pos hl]
     · rw [qbt, (a3 m hm').2 hlt]
   · rw [if_neg hl] at h
     obtain ⟨o, new, rfl, c0, c1, c2, c3⟩ := qgy hm k p1 o1 _ bs q a2 h
     refine ⟨o, b :: new, by rw [List.append_assoc]; rfl, ?_, by omega, c2, fun m hm' => ⟨fun hle => ?_, fun hlt => ?_⟩⟩
     · have := a0.app c0
       unfold jkP at this ⊢
       rw [List.flatMap_cons]
       exact this
     · rw [qbt, (a3 m hm').1 (by omega)]
       simp only
       rw [if_neg hl]
       exact (c3 m (by omega)).1 hle
     · rw [qbt]
       by_cases hc : m < o1
       · rw [(a3 m hm').2 hc]
       · rw [(a3 m hm').1 (by omega)]
         simp only
         rw [if_neg hl]
         exact (c3 m (by omega)).2 hlt
end Go.Proofs.YthkppipdflmekaaGreat
