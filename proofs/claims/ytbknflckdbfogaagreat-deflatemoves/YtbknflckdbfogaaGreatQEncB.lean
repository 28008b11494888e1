/- Lengths that are told: cut; deflate's best. Blocks that were written one behind another are read again: the plain mathematics. -/
import Derived.Test.YtbknflckdbfogaaGreatQDCut
import Derived.Test.YtbknflckdbfogaaGreatQDynE
import Derived.Test.YtbknflckdbfogaaGreatQHLen
namespace Go.Proofs.YtbknflckdbfogaaGreat
open Go.RowKit
set_option linter.unusedVariables false
set_option linter.unusedSimpArgs false

/-- The best lengths for counts. -/
def bestF (zs : List Int) (m : Nat) : List Nat := lensOf zs (risF zs) m
/-- Lengths of codes that are told (E: just these): none of those that are used is nought. -/
structure LnOk (E ls : List Nat) (lo hi m : Nat) (used : Nat → Prop) : Prop where
  is : ls = E
  le : ∀ x ∈ ls, x ≤ m
  fit : fitB ls = true
  lo : lo ≤ ls.length
  hi : ls.length ≤ hi
  pos : ∀ i, used i → i < ls.length ∧ 0 < ln ls i
theorem usedK_eq {a b : List Nat} (h : ∀ j, ln a j = ln b j) : ∀ k, usedK a k = usedK b k
  | 0 => rfl
  | k + 1 => by rw [usedK, usedK, usedK_eq h k, h k]
theorem partP_eq {a b : List Nat} (h : ∀ j, ln a j = ln b j) (p : Nat → Bool) : ∀ k, partP a p k = partP b p k
  | 0 => rfl
  | k + 1 => by rw [partP, partP, partP_eq h p k, h k]
theorem usedK_end {a : List Nat} {n : Nat} (h : ∀ j, n ≤ j → ln a j = 0) : ∀ d, usedK a (n + d) = usedK a n
  | 0 => rfl
  | d + 1 => by rw [← Nat.add_assoc, usedK, usedK_end h d, h (n + d) (by omega)]; simp
theorem partP_end {a : List Nat} {n : Nat} (p : Nat → Bool) (h : ∀ j, n ≤ j → ln a j = 0) : ∀ d, partP a p (n + d) = partP a p n
  | 0 => rfl
  | d + 1 => by rw [← Nat.add_assoc, partP, partP_end p h d, h (n + d) (by omega)]; simp
theorem ln_take {ls : List Nat} {n : Nat} (h : ∀ j, n ≤ j → ln ls j = 0) (j : Nat) : ln (ls.take n) j = ln ls j := by
  by_cases hj : j < n
  · unfold ln; rw [List.getD_eq_getElem?_getD, List.getElem?_take, if_pos hj, List.getD_eq_getElem?_getD]
  · rw [h j (by omega)]
    unfold ln; rw [List.getD_eq_getElem?_getD, List.getElem?_take, if_neg hj]; rfl
theorem fitB_take {ls : List Nat} {n : Nat} (hn : n ≤ ls.length) (h : ∀ j, n ≤ j → ln ls j = 0) : fitB (ls.take n) = fitB ls := by
  have hl : (ls.take n).length = n := by rw [List.length_take]; omega
  have e1 := usedK_end h (ls.length - n)
  have e2 := partP_end (fun _ => true) h (ls.length - n)
  rw [show n + (ls.length - n) = ls.length by omega] at e1 e2
  unfold fitB allP
  rw [hl, usedK_eq (ln_take h), partP_eq (ln_take h), e1, e2]
/-- Without the noughts at the end. -/
def lnCut (ls : List Nat) (lo : Nat) : List Nat := ls.take (cutN (zL ls) lo ls.length)
theorem lnCut_len (ls : List Nat) (lo : Nat) : (lnCut ls lo).length = cutN (zL ls) lo ls.length := by
  have := cutN_le (zL ls) lo ls.length
  unfold lnCut; rw [List.length_take]; omega
theorem lnCut_rest (ls : List Nat) (lo j : Nat) (h : cutN (zL ls) lo ls.length ≤ j) : ln ls j = 0 := by
  by_cases hj : j < ls.length
  · have := cutN_rest (zL ls) lo ls.length j h hj
    rw [zL_at] at this
    unfold ln; omega
  · unfold ln; rw [List.getD_eq_getElem?_getD, List.getElem?_eq_none (by omega)]; rfl
theorem lnCut_ln (ls : List Nat) (lo j : Nat) : ln (lnCut ls lo) j = ln ls j := ln_take (lnCut_rest ls lo) j
theorem LenP.cut {zs : List Int} {m : Nat} {ls : List Nat} (h : LenP zs m ls) (lo : Nat) (hlo : lo ≤ zs.length) : LnOk (lnCut ls lo) (lnCut ls lo) lo zs.length m (fun i => i < zs.length ∧ 0 < zs.getD i 0) := by
  have hlen := h.len
  have hge := cutN_ge (zL ls) lo ls.length (by omega)
  have hle := cutN_le (zL ls) lo ls.length
  refine ⟨rfl, fun x hx => ?_, ?_, ?_, ?_, fun i hi => ?_⟩
  · obtain ⟨i, hi, rfl⟩ := List.mem_iff_getElem.1 (List.mem_of_mem_take hx)
    have := h.le i
    rwa [List.getD_eq_getElem?_getD, List.getElem?_eq_getElem hi] at this
  · unfold lnCut
    rw [fitB_take hle (lnCut_rest ls lo)]; exact h.fit
  · rw [lnCut_len]; exact hge
  · rw [lnCut_len]; omega
  · have hp := h.yes i hi.1 hi.2
    have hln : 0 < ln ls i := hp
    refine ⟨?_, by rw [lnCut_ln]; exact hln⟩
    rw [lnCut_len]
    rcases Nat.lt_or_ge i (cutN (zL ls) lo ls.length) with g | g
    · exact g
    · have := lnCut_rest ls lo i g; omega
theorem toN_zL (ls : List Nat) : toN (zL ls) = ls := by
  unfold toN zL; rw [List.map_map]
  have : (Int.toNat ∘ fun n : Nat => (n : Int)) = id := by funext n; simp
  rw [this, List.map_id]
theorem LnOk.okl {E ls : List Nat} {lo hi m : Nat} {used : Nat → Prop} (h : LnOk E ls lo hi m used) (hm : m ≤ 15) (hh : hi ≤ 320) : OkL ls :=
  ⟨fun x hx => Nat.le_trans (h.le x hx) hm, h.fit, Nat.le_trans h.hi hh⟩
theorem OkL.err {ls : List Nat} (h : OkL ls) : errN (zL ls) = 0 := by
  refine errN_ok (by rw [zL_len]; have := h.few; omega) (fun i hi => ?_) (by rw [toN_zL]; exact h.fit)
  rw [zL_at]
  have := h.all.at i
  unfold ln at this
  omega
theorem posL_lens (zs : List Int) : (posL zs zs.length).length ≤ zs.length := by
  unfold posL
  exact Nat.le_trans (List.length_filter_le _ _) (by rw [List.length_range]; exact Nat.le_refl _)
set_option maxRecDepth 100000 in
set_option maxHeartbeats 1000000 in
theorem dbest_any (v : Value) (zs : List Int) (m : Nat) (w : World) (hR : IQ w v zs) (hk : chkC zs (m : Int) = 0) (hp : zs.length ≤ 2 ^ m) :
    Calls Tryz.prog 82 #[v, .int .i64 (m : Int)] w fun e w' => ∃ (g : Nat) (ls : List Nat), e = .returned (.slice (some ⟨g, 0, none⟩) zs.length zs.length) ∧ ls = bestF zs m ∧ LenP zs m ls ∧
      w'.ownsRow w.heap.size 3 1 (.slice (some ⟨g, 0, none⟩) zs.length zs.length) zs.length (nch ls) ∧ Below w.heap.size w w' := by
  have HL := lengths_good v zs m w hR hk (Nat.le_trans (posL_lens zs) hp)
  obtain ⟨h320, hm1, hm15, hzz⟩ := chkC_zero hk
  have HOK : Hid (∀ ss, RisP zs ss → LenP zs m (lensOf zs ss m)) := fun ss h => lens_ok zs ss m h (by omega) (by omega) (by
    have := h.perm.length_eq
    have := posL_lens zs
    omega)
  obtain ⟨g, o, cap, rfl, -, -⟩ := hR
  obtain ⟨n, hn⟩ : ∃ n, n = zs.length := ⟨_, rfl⟩
  rw [← hn] at HL ⊢
  clear hn h320 hm1 hm15 hzz hk hp
  go_enter Tryz.func82, Tryz.ntmps82
  go_wp2_with fail
  refine HL.mono ?_
  rintro e w1 ⟨g1, ss, rfl, hs, hO, hb⟩
  have HLP : Hid (LenP zs m (lensOf zs ss m)) := HOK.out ss hs
  have HEQ : Hid (lensOf zs ss m = bestF zs m) := by unfold Hid bestF; rw [risF_eq hs]
  have HO : Hid (w1.ownsRow w.heap.size 3 1 (.slice (some ⟨g1, 0, none⟩) n n) n (nch (lensOf zs ss m))) := hO
  have HB : Hid (Below w.heap.size w w1) := hb
  clear hs hO hb HL
  go_wp2
  go_ret
  exact ⟨g1, lensOf zs ss m, rfl, HEQ.out, HLP.out, HO.out, HB.out⟩
end Go.Proofs.YtbknflckdbfogaaGreat
namespace Go.Proofs.YtbknflckdbfogaaGreat
open Go.RowKit
set_option linter.unusedVariables false

/-- A block with tokens: of fixed codes (kind 1) or of codes that it tells (kind 2). -/
structure PBk where
  kind : Nat
  fs : List Nat
  ls : List Nat
  ds : List Nat
  n : Nat
  ts : List Tok
/-- What a block that tells its codes must be. -/
structure DynOk (fs ls ds : List Nat) (n : Nat) : Prop where
  fst : OkL fs
  h19 : fs.length = 19
  h7 : ∀ x ∈ fs, x ≤ 7
  n4 : 4 ≤ n
  n19 : n ≤ 19
  rest : ∀ j, n ≤ j → j < 19 → fs.getD (ordL.getD j 0) 0 = 0
  l1 : 257 ≤ ls.length
  l2 : ls.length ≤ 286
  d1 : 1 ≤ ds.length
  d2 : ds.length ≤ 30
  steps : ∀ s ∈ stepsI (zL (ls ++ ds)) (ls ++ ds).length 0, 0 < ln fs s.sym.toNat
structure PBk.Ok (b : PBk) : Prop where
  kinds : (b.kind = 1 ∧ b.ls = fixL ∧ b.ds = fixD) ∨ (b.kind = 2 ∧ DynOk b.fs b.ls b.ds b.n)
  okl : OkL b.ls
  okd : OkL b.ds
  h256 : 256 < b.ls.length
  p256 : 0 < ln b.ls 256
  codes : ∀ t ∈ b.ts, CodeT b.ls b.ds t
def PBk.head (b : PBk) : List Bool := if b.kind = 1 then [] else encH b.fs b.ls b.ds b.n
def PBk.bits (last : Nat) (b : PBk) : List Bool := lowB last 1 ++ (lowB b.kind 2 ++ (b.head ++ (encs b.ls b.ds b.ts ++ codeS b.ls 256)))
theorem encs_geB {ls ds : List Nat} : ∀ ts : List Tok, (∀ t ∈ ts, CodeT ls ds t) → ts.length ≤ (encs ls ds ts).length
  | [], _ => by simp
  | t :: ts, h => by
    have ih := encs_geB ts (fun u hu => h u (by simp [hu]))
    have ht := (h t (by simp)).2.2.1
    have hle : ln ls (symT t) ≤ (encT ls ds t).length := by
      unfold encT
      split
      · rw [codeS_len]; exact Nat.le_refl _
      · rw [List.length_append, codeS_len]; omega
    rw [encs_cons, List.length_append, List.length_cons]; omega
theorem blkF_enc {b : PBk} (hk : b.Ok) {last : Nat} (hla : last ≤ 1) {f : Nat → Bool} {L most p out : Nat} {O O' : List Nat} (hO : O.length = out) (he : expF most b.ts O = (O', 0)) (hb : BitsAt f p (b.bits last)) (hl : p + (b.bits last).length ≤ L) :
    blkF f L most p out = .ok (⟨b.kind, [], b.ts⟩, last, p + (b.bits last).length, O'.length) := by
  have hk2 : b.kind < 4 := by rcases hk.kinds with ⟨h, _⟩ | ⟨h, _⟩ <;> omega
  have hge := encs_geB b.ts hk.codes
  unfold PBk.bits at hb hl ⊢
  simp only [List.length_append, lowB_len, codeS_len] at hl ⊢
  have r1 := hb.right
  rw [lowB_len] at r1
  have r2 := r1.right
  rw [lowB_len] at r2
  have r3 := r2.right
  have t1 := tkF_low (L := L) (show last < 2 ^ 1 by omega) hb.left (by omega)
  have t2 := tkF_low (L := L) (show b.kind < 2 ^ 2 by omega) r1.left (by omega)
  have hT := tksF_enc hk.okl.all hk.okl.fit hk.okd.all hk.okd.fit hk.h256 hk.p256 (f := f) (L := L) (most := most) b.ts (L + 1) (p + 1 + 2 + b.head.length) out [] O O' hO he hk.codes r3 (by omega) (by omega)
  rw [blkF, t1]
  simp only
  rw [t2]
  simp only
  rcases hk.kinds with ⟨h1, e1, e2⟩ | ⟨h2, hd⟩
  · have hh : b.head = [] := by unfold PBk.head; rw [if_pos h1]
    rw [hh] at hT ⊢
    rw [e1, e2] at hT
    simp only [List.length_nil, Nat.add_zero] at hT
    rw [h1, if_neg (by decide), if_pos rfl, show p + 3 = p + 1 + 2 by omega, hT]
    simp only [List.nil_append, List.length_nil, Except.ok.injEq, Prod.mk.injEq, true_and, and_true]
    rw [e1, e2]
    omega
  · have hh : b.head = encH b.fs b.ls b.ds b.n := by unfold PBk.head; rw [if_neg (by omega)]
    rw [hh] at hT hl r2 ⊢
    have h256' : b.ls.getD 256 0 ≠ 0 := by have := hk.p256; unfold ln at this; omega
    have hD := dynF_enc hd.fst hk.okl hk.okd hd.h19 hd.h7 hd.n4 hd.n19 hd.rest hd.l1 hd.l2 hd.d1 hd.d2 h256' hd.steps r2.left (L := L) (by omega)
    rw [h2, if_neg (by decide), if_neg (by decide), if_pos rfl, show p + 3 = p + 1 + 2 by omega, hD]
    simp only
    rw [hT]
    simp only [List.nil_append, Except.ok.injEq, Prod.mk.injEq, true_and, and_true]
    omega
/-- Blocks one behind another, the last one marked. -/
def bitsB : List PBk → List Bool
  | [] => []
  | [b] => b.bits 1
  | b :: c :: r => b.bits 0 ++ bitsB (c :: r)
theorem bits_ge (last : Nat) (b : PBk) : 3 ≤ (b.bits last).length := by
  unfold PBk.bits
  simp only [List.length_append, lowB_len]; omega
theorem bitsB_ge : ∀ l : List PBk, l.length ≤ (bitsB l).length
  | [] => Nat.le_refl _
  | [b] => by have := bits_ge 1 b; show 1 ≤ (b.bits 1).length; omega
  | b :: c :: r => by
    have ih := bitsB_ge (c :: r)
    have := bits_ge 0 b
    rw [bitsB, List.length_append, List.length_cons]; omega
theorem expF_two (most : Int) : ∀ (a b : List Tok) (O P Q : List Nat), expF most a O = (P, 0) → expF most b P = (Q, 0) → expF most (a ++ b) O = (Q, 0)
  | [], b, O, P, Q, h1, h2 => by
    have : O = P := by simpa [expF] using h1
    subst this; exact h2
  | t :: a, b, O, P, Q, h1, h2 => by
    rw [List.cons_append, expF]
    rw [expF] at h1
    split at h1
    · rename_i q
      rw [if_pos q]
      exact expF_two most a b _ P Q h1 h2
    · rename_i q
      simp at h1
      omega
theorem expF_parts (most : Int) : ∀ (a b : List Tok) (O Q : List Nat), expF most (a ++ b) O = (Q, 0) → ∃ P, expF most a O = (P, 0) ∧ expF most b P = (Q, 0)
  | [], b, O, Q, h => ⟨O, by simp [expF], h⟩
  | t :: a, b, O, Q, h => by
    rw [List.cons_append, expF] at h
    rw [expF]
    split at h
    · rename_i q
      rw [if_pos q]
      exact expF_parts most a b _ Q h
    · rename_i q
      simp at h
      omega
/-- All blocks are read. -/
theorem blksF_enc {f : Nat → Bool} {L most : Nat} : ∀ (bs : List PBk) (k p out : Nat) (acc : List Blk) (O Q : List Nat), bs ≠ [] → (∀ b ∈ bs, b.Ok) → O.length = out → expF most (bs.flatMap PBk.ts) O = (Q, 0) → BitsAt f p (bitsB bs) → p + (bitsB bs).length ≤ L → bs.length ≤ k →
    blksF f L most k p out acc = .ok (acc ++ bs.map (fun b => ⟨b.kind, [], b.ts⟩), p + (bitsB bs).length)
  | [], k, p, out, acc, O, Q, hne, hk, hO, he, hb, hl, hf => absurd rfl hne
  | [b], 0, p, out, acc, O, Q, hne, hk, hO, he, hb, hl, hf => by simp at hf
  | [b], k + 1, p, out, acc, O, Q, hne, hk, hO, he, hb, hl, hf => by
    have he' : expF most b.ts O = (Q, 0) := by simpa using he
    rw [blksF, blkF_enc (hk b (by simp)) (Nat.le_refl _) hO he' hb hl]
    simp only
    rw [if_pos trivial]
    rfl
  | b :: c :: r, 0, p, out, acc, O, Q, hne, hk, hO, he, hb, hl, hf => by simp at hf
  | b :: c :: r, k + 1, p, out, acc, O, Q, hne, hk, hO, he, hb, hl, hf => by
    rw [List.flatMap_cons] at he
    obtain ⟨P, h1, h2⟩ := expF_parts most _ _ _ _ he
    rw [bitsB] at hb hl ⊢
    rw [List.length_append] at hl ⊢
    rw [blksF, blkF_enc (hk b (by simp)) (Nat.zero_le _) hO h1 hb.left (by omega)]
    simp only
    rw [if_neg (by decide), blksF_enc (c :: r) k _ _ _ P Q (by simp) (fun x hx => hk x (by simp at hx ⊢; exact .inr hx)) rfl h2 hb.right (by omega) (by simpa using hf)]
    simp only [List.map_cons, List.append_assoc, List.singleton_append, Except.ok.injEq, Prod.mk.injEq, true_and]
    omega
end Go.Proofs.YtbknflckdbfogaaGreat
