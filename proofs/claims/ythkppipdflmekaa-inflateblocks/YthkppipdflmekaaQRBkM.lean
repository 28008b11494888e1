/- The document's blocks, pure: what number says of a block's head, held against blkF; rows of blocks. -/
import Derived.Test.YthkppipdflmekaaQRUni
import Derived.Test.YthkppipdflmekaaQInfZ
import Derived.Test.YthkppipdflmekaaQInfO
namespace Go.Proofs.Ythkppipdflmekaa
open Go.RowKit
set_option linter.unusedVariables false

theorem nu_head {L : List Bool} {m p o p1 e1 v1 p2 e2 v2 : Nat} (h1 : p1 = nuP L.length p 0 1 ∧ e1 = nuE L.length p 0 1 ∧ v1 = nuV L p 0 1) (h2 : p2 = nuP L.length p1 e1 2 ∧ e2 = nuE L.length p1 e1 2 ∧ v2 = nuV L p1 e1 2) :
    (e2 ≠ 0 → v2 = 0 ∧ p2 ≤ L.length + p ∧ blkF (fun i => L.getD i false) L.length m p o = .error e2) ∧ (e2 = 0 → p2 = p + 3 ∧ p + 3 ≤ L.length ∧ v1 < 2 ∧ v2 < 4 ∧ blkF (fun i => L.getD i false) L.length m p o = match bdF (fun i => L.getD i false) L.length m (p + 3) o v2 with | .error e => .error e | .ok (b, p1, o1) => .ok (b, v1, p1, o1)) := by
  obtain ⟨rfl, rfl, rfl⟩ := h1
  rw [blk_bd]
  by_cases k1 : nuE L.length p 0 1 = 0
  · obtain ⟨a1, a2, a3⟩ := nu_ok k1
    rw [k1, a2] at h2
    rw [a1]
    simp only
    obtain ⟨rfl, rfl, rfl⟩ := h2
    by_cases k2 : nuE L.length (p + 1) 0 2 = 0
    · obtain ⟨b1, b2, b3⟩ := nu_ok k2
      rw [b1]
      simp only
      refine ⟨fun h => absurd k2 h, fun _ => ⟨by rw [b2], by omega, ?_, ?_, rfl⟩⟩
      · unfold nuV; split
        · have := takeN_lt (fun i => L.getD (p + i) false) 1; omega
        · omega
      · unfold nuV; split
        · have := takeN_lt (fun i => L.getD (p + 1 + i) false) 2; omega
        · omega
    · obtain ⟨b1, b2⟩ := nu_err k2
      rw [b1, b2]
      refine ⟨fun _ => ⟨?_, ?_, rfl⟩, fun h => by cases h⟩
      · unfold nuV
        rw [if_neg]
        rintro ⟨_, h⟩
        unfold nuE at k2
        rw [if_neg (fun q => q rfl), if_neg (by omega)] at k2
        exact k2 rfl
      · unfold nuP; split <;> omega
  · obtain ⟨a1, a2⟩ := nu_err k1
    rw [a1]
    rw [a2] at h2
    obtain ⟨rfl, rfl, rfl⟩ := h2
    have e6 : nuE L.length (nuP L.length p 0 1) 6 2 = 6 := rfl
    rw [e6]
    refine ⟨fun _ => ⟨?_, ?_, rfl⟩, fun h => by cases h⟩
    · unfold nuV; rw [if_neg (fun q => by cases q.1)]
    · have : ∀ P, nuP L.length P 6 2 = P := fun P => by unfold nuP; rw [if_neg (fun q => by cases q.1)]
      rw [this]
      unfold nuP; split <;> omega
theorem blk_far {f : Nat → Bool} {L most p out : Nat} {b : Blk} {last q o : Nat} (h : blkF f L most p out = .ok (b, last, q, o)) : p < q := (blkF_loc h (fun _ _ => rfl) (Nat.le_refl _)).2.1
theorem blk_last {f : Nat → Bool} {L most p out : Nat} {b : Blk} {last q o : Nat} (h : blkF f L most p out = .ok (b, last, q, o)) : last < 2 := by
  rw [blk_bd] at h
  cases h1 : tkF f L p 1 with
  | error e => rw [h1] at h; cases h
  | ok la =>
    rw [h1] at h
    simp only at h
    cases h2 : tkF f L (p + 1) 2 with
    | error e => rw [h2] at h; cases h
    | ok k =>
      rw [h2] at h
      simp only at h
      cases h3 : bdF f L most (p + 3) out k with
      | error e => rw [h3] at h; cases h
      | ok r =>
        obtain ⟨x, y, z⟩ := r
        rw [h3] at h
        simp only [Except.ok.injEq, Prod.mk.injEq] at h
        obtain ⟨rfl, rfl, rfl, rfl⟩ := h
        have := (tkF_ok h1).2
        have := takeN_lt (fun j => f (p + j)) 1
        omega
/-- Blocks as they lie in memory: each with its text and the slice of its tokens. -/
def BItemR (w : World) (B : Nat) (x : Item) : Prop := x.2.1.data.toList.map UInt8.toNat = x.1.bytes ∧ w.ownsRow B 42 3 x.2.2 x.1.toks.length (tcs x.1.toks)
def BRowR (w : World) (B : Nat) (v : Value) (l : List Item) : Prop := w.ownsRow B 40 3 v l.length (bcs l) ∧ ∀ x ∈ l, BItemR w B x
theorem Try.infoBkR : (Try.prog.info? 40).map (fun i => (i.zero, i.size, i.bytes)) = some (some (.agg #[.int .i64 0, .string ⟨#[]⟩, .slice none 0 0]), 3, 48) := by kernel_rfl
theorem BItemR.kept {w W W' : World} {x : Item} {b : Nat} {cs : Array Value} {ty : TypeId} (h : BItemR W w.heap.size x) (hb : W.heap[b]? = some (.cells cs ty (0, 0))) (hne : 42 ≠ ty) (hg : W.grownBy W' (some b)) : BItemR W' w.heap.size x := ⟨h.1, own_kept_ne h.2 hb hne hg⟩
theorem BItemR.two {w W W' : World} {x : Item} {B' n sz : Nat} {ty : TypeId} {u : Value} {ys : List Value} (h : BItemR W w.heap.size x) (k : W.ownsRow B' ty sz u n ys) (hne : 42 ≠ ty) (hg : W.grownBy W' u.ownBlock) : BItemR W' w.heap.size x := ⟨h.1, own_two6 h.2 k hne hg⟩
/-- What Blocks keeps. -/
structure XB (w W : World) (g c : Nat) (L : List Bool) (bx p o m e : Nat) (vo : Value) (n : Nat) (xs : List Value) (l : List Item) : Prop where
  ob : OB W w.heap.size (.slice (some ⟨g, 0, none⟩) L.length c) L
  bxh : W.heap[bx]? = some (.cells (snC g L.length c p o m e) 58 (0, 0))
  lo : w.heap.size ≤ bx
  bel : Below w.heap.size w W
  out : W.ownsRow w.heap.size 40 3 vo n xs
  its : ∀ x ∈ l, BItemR W w.heap.size x
theorem own_belowC {w W W' : World} {n sz : Nat} {ty : TypeId} {v : Value} {xs : List Value} (h : W.ownsRow w.heap.size ty sz v n xs) (hb : Below W.heap.size W W') : W'.ownsRow w.heap.size ty sz v n xs := by
  have hlt := h.lt
  refine ⟨h.1, ?_⟩
  rcases h.2 with h | ⟨g, cap, cur, rfl, h2, h3, h4⟩
  · exact .inl h
  · exact .inr ⟨g, cap, cur, rfl, h2, (hb.block _ (hlt g rfl).2).trans h3, h4⟩
section
variable {w W W' : World} {g c : Nat} {L : List Bool} {bx p o m e : Nat} {vo : Value} {n : Nat} {xs : List Value} {l : List Item}
theorem XB.call (h : XB w W g c L bx p o m e vo n xs l) (hb : Below W.heap.size W W') : XB w W' g c L bx p o m e vo n xs l :=
  ⟨h.ob.below hb, (hb.block _ (heap_lt h.bxh)).trans h.bxh, h.lo, h.bel.trans (hb.mono h.bel.size), own_belowC h.out hb, fun x hx => ⟨(h.its x hx).1, own_belowC (h.its x hx).2 hb⟩⟩
theorem XB.alloc (h : XB w W g c L bx p o m e vo n xs l) (x : Obj) : XB w (W.alloc x) g c L bx p o m e vo n xs l := h.call ((Below.refl _ W).alloc (Nat.le_refl _) x)
theorem XB.drew (h : XB w W g c L bx p o m e vo n xs l) : XB w W.drew g c L bx p o m e vo n xs l := ⟨h.ob.drew, h.bxh, h.lo, h.bel.drew, h.out, h.its⟩
theorem XB.put (h : XB w W g c L bx p o m e vo n xs l) (p' o' m' e' : Nat) : XB w (put5 W bx (.slice (some ⟨g, 0, none⟩) L.length c) (.int .i64 (p' : Int)) (.int .i64 (o' : Int)) (.int .i64 (m' : Int)) (.int .i64 (e' : Int))) g c L bx p' o' m' e' vo n xs l := by
  have hg := put5_grown W bx (.slice (some ⟨g, 0, none⟩) L.length c) (.int .i64 (p' : Int)) (.int .i64 (o' : Int)) (.int .i64 (m' : Int)) (.int .i64 (e' : Int))
  exact ⟨h.ob.kept hg (fun e => ob_ne h.ob h.bxh (Option.some.inj e)), put5_heap h.bxh _ _ _ _ _, h.lo, h.bel.grown hg h.bel.size (fun k hk => by cases hk; exact h.lo), own_kept_ne h.out h.bxh (by decide) hg, fun x hx => ⟨(h.its x hx).1, own_kept_ne (h.its x hx).2 h.bxh (by decide) hg⟩⟩
end
/-- The same, with the block that is being made in block bb. -/
structure XC (w W : World) (g c : Nat) (L : List Bool) (bx p o m e : Nat) (vo : Value) (n : Nat) (xs : List Value) (l : List Item) (bb : Nat) (k : Nat) (t : ByteArray) (tv : Value) : Prop where
  xb : XB w W g c L bx p o m e vo n xs l
  bbh : W.heap[bb]? = some (.cells #[.int .i64 (k : Int), .string t, tv] 40 (0, 0))
  bbn : bb ≠ bx ∧ w.heap.size ≤ bb
  one : ∀ q, vo.ownBlock = some q → q ≠ bb
section
variable {w W W' : World} {g c : Nat} {L : List Bool} {bx p o m e : Nat} {vo : Value} {n : Nat} {xs : List Value} {l : List Item} {bb k : Nat} {t : ByteArray} {tv : Value}
theorem XC.call (h : XC w W g c L bx p o m e vo n xs l bb k t tv) (hb : Below W.heap.size W W') : XC w W' g c L bx p o m e vo n xs l bb k t tv :=
  ⟨h.xb.call hb, (hb.block _ (heap_lt h.bbh)).trans h.bbh, h.bbn, h.one⟩
theorem XC.drew (h : XC w W g c L bx p o m e vo n xs l bb k t tv) : XC w W.drew g c L bx p o m e vo n xs l bb k t tv := ⟨h.xb.drew, h.bbh, h.bbn, h.one⟩
theorem XC.put (h : XC w W g c L bx p o m e vo n xs l bb k t tv) (p' o' m' e' : Nat) : XC w (put5 W bx (.slice (some ⟨g, 0, none⟩) L.length c) (.int .i64 (p' : Int)) (.int .i64 (o' : Int)) (.int .i64 (m' : Int)) (.int .i64 (e' : Int))) g c L bx p' o' m' e' vo n xs l bb k t tv :=
  ⟨h.xb.put p' o' m' e', ((put5_grown W bx _ _ _ _ _).block bb (heap_lt h.bbh) (fun e => h.bbn.1 (Option.some.inj e))).trans h.bbh, h.bbn, h.one⟩
theorem XC.set (h : XC w W g c L bx p o m e vo n xs l bb k t tv) (i : Nat) (v : Value) (k' : Nat) (t' : ByteArray) (tv' : Value) (hv : (#[.int .i64 (k : Int), .string t, tv] : Array Value).setIfInBounds i v = #[.int .i64 (k' : Int), .string t', tv']) : XC w (W.setCell ⟨bb, i, none⟩ v) g c L bx p o m e vo n xs l bb k' t' tv' := by
  have hg : W.grownBy (W.setCell ⟨bb, i, none⟩ v) (some bb) := gset (grefl W _) i v
  have hne : g ≠ bb := by
    obtain ⟨g', c', e, ho⟩ := h.xb.ob
    rintro rfl
    exact own_ne ho h.bbh (by decide) rfl
  refine ⟨⟨h.xb.ob.kept hg (fun e => hne (Option.some.inj e)), (hg.block _ (heap_lt h.xb.bxh) (fun e => h.bbn.1 (Option.some.inj e).symm)).trans h.xb.bxh, h.xb.lo, h.xb.bel.grown hg h.xb.bel.size (fun k hk => by cases hk; exact h.bbn.2), own_keptne h.xb.out h.one hg, fun x hx => ⟨(h.xb.its x hx).1, own_kept_ne (h.xb.its x hx).2 h.bbh (by decide) hg⟩⟩, by rw [heap_setCell_same _ _ _ _ _ _ h.bbh, hv], h.bbn, h.one⟩
theorem XB.blk (h : XB w W g c L bx p o m e vo n xs l) (k : Nat) (t : ByteArray) (tv : Value) : XC w (W.alloc (.cells #[.int .i64 (k : Int), .string t, tv] 40)) g c L bx p o m e vo n xs l W.heap.size k t tv :=
  ⟨h.alloc _, heap_alloc_new W _, ⟨fun e => by have := heap_lt h.bxh; omega, h.bel.size⟩, fun q hq e => by have := (h.out.lt q hq).2; omega⟩
end
/-- How a block's making ends. -/
def JB (W : World) (B : Nat) (L : List Bool) (m q o e k last : Nat) (t : ByteArray) (tv : Value) (r : Except Nat (Blk × Nat × Nat × Nat)) : Prop :=
  (e = 0 ∧ q ≤ L.length ∧ o ≤ m ∧ ∃ ts : List Tok, r = .ok (⟨k, t.data.toList.map UInt8.toNat, ts⟩, last, q, o) ∧ W.ownsRow B 42 3 tv ts.length (tcs ts)) ∨ (e ≠ 0 ∧ r = .error e)
end Go.Proofs.Ythkppipdflmekaa
