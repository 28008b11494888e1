/- The document's tokens: what stands in memory. The document's number and symbol, whether there is an error already or not; what tokens keeps. -/
import Derived.Test.YthkppipdflmekaaQRStor
import Derived.Test.YthkppipdflmekaaQInfI
namespace Go.Proofs.Ythkppipdflmekaa
open Go.RowKit
set_option linter.unusedVariables false

/-- A row that is kept. -/
structure RW where
  ty : TypeId
  sz : Nat
  v : Value
  n : Nat
  xs : List Value
def Keeps (w W : World) (R : List RW) : Prop := ∀ r ∈ R, (r.ty ≠ 58 ∧ r.ty ≠ 42) ∧ W.ownsRow w.heap.size r.ty r.sz r.v r.n r.xs
theorem own_kept_ne {W W' : World} {B n sz b : Nat} {ty ty2 : TypeId} {v : Value} {xs : List Value} {cs : Array Value} (h : W.ownsRow B ty sz v n xs) (hb : W.heap[b]? = some (.cells cs ty2 (0, 0))) (hne : ty ≠ ty2) (hg : W.grownBy W' (some b)) : W'.ownsRow B ty sz v n xs := by
  rcases h.2 with ⟨rfl, h0⟩ | ⟨g, cap, cur, rfl, _, hc, _⟩
  · exact ⟨h.1, .inl ⟨rfl, h0⟩⟩
  · refine h.kept hg (.inr fun e => ?_)
    simp only [Value.ownBlock, Option.some.injEq] at e
    subst e
    rw [hc] at hb
    simp only [Option.some.injEq, Obj.cells.injEq] at hb
    exact hne hb.2.1
theorem own_two6 {w w' : World} {B B' n m sz sz' : Nat} {ty ty' : TypeId} {v u : Value} {xs ys : List Value} (h : w.ownsRow B ty sz v n xs) (k : w.ownsRow B' ty' sz' u m ys) (hne : ty ≠ ty') (hg : w.grownBy w' u.ownBlock) : w'.ownsRow B ty sz v n xs := by
  rcases k.2 with ⟨rfl, _⟩ | ⟨g', cap', cur', rfl, _, hc', _⟩
  · rcases h.2 with ⟨rfl, h0⟩ | ⟨g, cap, cur, rfl, _⟩
    · exact ⟨h.1, .inl ⟨rfl, h0⟩⟩
    · exact h.kept hg (.inr (by simp [Value.ownBlock]))
  · exact own_kept_ne h hc' hne hg
theorem own_belowB6 {w w' : World} {B n sz : Nat} {ty : TypeId} {v : Value} {xs : List Value} (h : w.ownsRow B ty sz v n xs) (hb : Below w.heap.size w w') : w'.ownsRow B ty sz v n xs := by
  have hlt := h.lt
  refine ⟨h.1, ?_⟩
  rcases h.2 with h | ⟨g, cap, cur, rfl, h2, h3, h4⟩
  · exact .inl h
  · exact .inr ⟨g, cap, cur, rfl, h2, (hb.block _ (hlt g rfl).2).trans h3, h4⟩
theorem OB.kept2 {W W' : World} {B g c B' n sz : Nat} {L : List Bool} {ty : TypeId} {u : Value} {ys : List Value} (h : OB W B (.slice (some ⟨g, 0, none⟩) L.length c) L) (k : W.ownsRow B' ty sz u n ys) (hne : 4 ≠ ty) (hg : W.grownBy W' u.ownBlock) : OB W' B (.slice (some ⟨g, 0, none⟩) L.length c) L := by
  obtain ⟨g', c', e, ho⟩ := h
  exact ⟨g', c', e, own_two6 ho k hne hg⟩
theorem SB.app {w W W' : World} {B g c : Nat} {L : List Bool} {bx rx p o m e n sz : Nat} {ty : TypeId} {u : Value} {ys : List Value} (h : SB w W B g c L bx rx p o m e) (k : W.ownsRow w.heap.size ty sz u n ys) (h1 : 4 ≠ ty) (h2 : 58 ≠ ty) (hg : W.grownBy W' u.ownBlock) : SB w W' B g c L bx rx p o m e :=
  ⟨h.ob.kept2 k h1 hg, (hg.block _ (heap_lt h.bxh) (own_ne k h.bxh h2)).trans h.bxh, (hg.block _ (heap_lt h.rxh) (own_ne k h.rxh h2)).trans h.rxh, h.bel.grown hg h.bel.size (fun q hq => (k.lt q hq).1), h.lo⟩
/-- Tokens' state. -/
structure TB (w W : World) (B g c : Nat) (L : List Bool) (bx rx p o m e : Nat) (R : List RW) (vo : Value) (acc : List Tok) : Prop where
  sb : SB w W B g c L bx rx p o m e
  rows : Keeps w W R
  out : W.ownsRow w.heap.size 42 3 vo acc.length (tcs acc)
theorem TB.call {w W W' : World} {B g c : Nat} {L : List Bool} {bx rx p o m e : Nat} {R : List RW} {vo : Value} {acc : List Tok} (h : TB w W B g c L bx rx p o m e R vo acc) (hb : Below W.heap.size W W') : TB w W' B g c L bx rx p o m e R vo acc :=
  ⟨h.sb.call hb, fun r hr => ⟨(h.rows r hr).1, own_belowB6 (h.rows r hr).2 hb⟩, own_belowB6 h.out hb⟩
theorem TB.put {w W : World} {B g c : Nat} {L : List Bool} {bx rx p o m e : Nat} {R : List RW} {vo : Value} {acc : List Tok} (h : TB w W B g c L bx rx p o m e R vo acc) (p' o' m' e' : Nat) : TB w (put5 W bx (.slice (some ⟨g, 0, none⟩) L.length c) (.int .i64 (p' : Int)) (.int .i64 (o' : Int)) (.int .i64 (m' : Int)) (.int .i64 (e' : Int))) B g c L bx rx p' o' m' e' R vo acc :=
  ⟨h.sb.put p' o' m' e', fun r hr => ⟨(h.rows r hr).1, own_kept_ne (h.rows r hr).2 h.sb.bxh (h.rows r hr).1.1 (put5_grown _ _ _ _ _ _ _)⟩, own_kept_ne h.out h.sb.bxh (by decide) (put5_grown _ _ _ _ _ _ _)⟩
theorem TB.set {w W : World} {B g c : Nat} {L : List Bool} {bx rx p o m e : Nat} {R : List RW} {vo : Value} {acc : List Tok} (h : TB w W B g c L bx rx p o m e R vo acc) (i : Nat) (v : Value) (p' o' m' e' : Nat) (hv : (snC g L.length c p o m e).setIfInBounds i v = snC g L.length c p' o' m' e') : TB w (W.setCell ⟨bx, i, none⟩ v) B g c L bx rx p' o' m' e' R vo acc :=
  ⟨h.sb.set i v p' o' m' e' hv, fun r hr => ⟨(h.rows r hr).1, own_kept_ne (h.rows r hr).2 h.sb.bxh (h.rows r hr).1.1 (gset (grefl W _) i v)⟩, own_kept_ne h.out h.sb.bxh (by decide) (gset (grefl W _) i v)⟩
theorem TB.alloc {w W : World} {B g c : Nat} {L : List Bool} {bx rx p o m e : Nat} {R : List RW} {vo : Value} {acc : List Tok} (h : TB w W B g c L bx rx p o m e R vo acc) (x : Obj) : TB w (W.alloc x) B g c L bx rx p o m e R vo acc := h.call ((Below.refl _ W).alloc (Nat.le_refl _) x)
theorem TB.app {w W W' : World} {B g c : Nat} {L : List Bool} {bx rx p o m e : Nat} {R : List RW} {vo vo' : Value} {acc acc' : List Tok} {x : Obj} (h : TB w W B g c L bx rx p o m e R vo acc) (hg : (W.alloc x).grownBy W' vo.ownBlock) (ho : W'.ownsRow w.heap.size 42 3 vo' acc'.length (tcs acc')) : TB w W' B g c L bx rx p o m e R vo' acc' :=
  ⟨(h.alloc x).sb.app (h.alloc x).out (by decide) (by decide) hg, fun r hr => ⟨(h.rows r hr).1, own_two6 ((h.alloc x).rows r hr).2 (h.alloc x).out (h.rows r hr).1.2 hg⟩, ho⟩
end Go.Proofs.Ythkppipdflmekaa
namespace Go.Proofs.Ythkppipdflmekaa
open Go.RowKit
set_option linter.unusedVariables false
set_option linter.unusedSimpArgs false

/-- number: the error, the place, the value. -/
def nuE (N p e n : Nat) : Nat := if e ≠ 0 then e else if N < p + n then 6 else 0
def nuP (N p e n : Nat) : Nat := if e = 0 ∧ p + n ≤ N then p + n else p
def nuV (L : List Bool) (p e n : Nat) : Nat := if e = 0 ∧ p + n ≤ L.length then takeN (fun i => L.getD (p + i) false) n else 0
theorem nuV_lt (L : List Bool) (p e n : Nat) (hn : n ≤ 16) : nuV L p e n ≤ 65535 := by
  unfold nuV
  split
  · have := takeN_lt (fun i => L.getD (p + i) false) n
    have : 2 ^ n ≤ 2 ^ 16 := Nat.pow_le_pow_right (by decide) hn
    omega
  · omega
theorem nuP_le {N p e n : Nat} (h : p ≤ N + 100) : nuP N p e n ≤ N + 100 := by unfold nuP; split <;> omega
theorem rnum_all (g c p o m e n B : Nat) (L : List Bool) (w : World) (hO : OB w B (.slice (some ⟨g, 0, none⟩) L.length c) L) (hN : L.length ≤ 1000000) (hp : p ≤ 2000000) (hn : n ≤ 32) :
    Calls Try.prog 15 #[sn g L.length c p o m e, .int .i64 (n : Int)] w fun x w' => x = .returned (.tuple #[sn g L.length c (nuP L.length p e n) o m (nuE L.length p e n), .int .i64 (nuV L p e n : Int)]) ∧ Below w.heap.size w w' := by
  unfold nuP nuE nuV
  by_cases he : e = 0
  · subst he
    by_cases h : p + n ≤ L.length
    · rw [if_pos ⟨rfl, h⟩, if_neg (fun q => q rfl), if_neg (by omega), if_pos ⟨rfl, h⟩]
      exact rnum_takes g c p o m n B L w hO h hN hn
    · rw [if_neg (fun q => h q.2), if_neg (fun q => q rfl), if_pos (by omega), if_neg (fun q => h q.2)]
      exact rnum_ends g L.length c p o m n w (by omega) hN hp hn
  · rw [if_neg (fun q => he q.1), if_pos he, if_neg (fun q => he q.1)]
    exact rnum_err g L.length c p o m e n w he
/-- What number says, held against tkF. -/
theorem nu_ok {L : List Bool} {p n : Nat} (h : nuE L.length p 0 n = 0) : tkF (fun i => L.getD i false) L.length p n = .ok (nuV L p 0 n) ∧ nuP L.length p 0 n = p + n ∧ p + n ≤ L.length := by
  unfold nuE at h
  rw [if_neg (fun q => q rfl)] at h
  by_cases hl : L.length < p + n
  · rw [if_pos hl] at h; cases h
  · unfold tkF nuV nuP
    rw [if_neg hl, if_pos ⟨rfl, by omega⟩, if_pos ⟨rfl, by omega⟩]
    exact ⟨rfl, rfl, by omega⟩
theorem nu_err {L : List Bool} {p n : Nat} (h : nuE L.length p 0 n ≠ 0) : tkF (fun i => L.getD i false) L.length p n = .error 6 ∧ nuE L.length p 0 n = 6 := by
  unfold nuE at h ⊢
  rw [if_neg (fun q => q rfl)] at h ⊢
  by_cases hl : L.length < p + n
  · rw [if_pos hl]; unfold tkF; rw [if_pos hl]; exact ⟨rfl, rfl⟩
  · rw [if_neg hl] at h; exact absurd rfl h
/-- What symbol says. -/
def SymR (ns : List Nat) (L : List Bool) (p e q e' s : Nat) : Prop :=
  (e ≠ 0 ∧ q = p ∧ e' = e ∧ s = 0) ∨ (e = 0 ∧ ((nxF ns (fun i => L.getD i false) L.length p = .ok (s, q) ∧ e' = 0) ∨ (nxF ns (fun i => L.getD i false) L.length p = .error e' ∧ e' ≠ 0 ∧ s = 0 ∧ q ≤ L.length + 16)))
theorem SymR.lt {ns : List Nat} {L : List Bool} {p e q e' s : Nat} (h : SymR ns L p e q e' s) (hf : fitE ns = true) (hp : p ≤ L.length + 100) (hp2 : e = 0 → p ≤ L.length) : s < 320 ∧ q ≤ L.length + 100 := by
  obtain ⟨he, h15, h320, hfit⟩ := fitE_ok hf
  rcases h with ⟨_, rfl, _, rfl⟩ | ⟨h0, ⟨h1, _⟩ | ⟨_, _, rfl, hq⟩⟩
  · exact ⟨by omega, hp⟩
  · have := nxF_ok h15 (hp2 h0) h1
    exact ⟨by omega, by omega⟩
  · exact ⟨by omega, by omega⟩
theorem rsym_all (g c p o m e B : Nat) (L : List Bool) (vi vc : Value) (ns : List Nat) (w : World) (hO : OB w B (.slice (some ⟨g, 0, none⟩) L.length c) L) (hI : IQ w vi (zz ns)) (hU : UR w vc (zz ns).length (cdOf ns)) (hf : fitE ns = true) (hN : L.length ≤ 1000000) (hp : e = 0 → p ≤ L.length) :
    Calls Try.prog 29 #[sn g L.length c p o m e, vi, vc] w fun x w' => ∃ q e' s : Nat, x = .returned (.tuple #[sn g L.length c q o m e', .int .i64 (s : Int)]) ∧ SymR ns L p e q e' s ∧ Below w.heap.size w w' := by
  by_cases he : e = 0
  · subst he
    refine (rsym_any g c p o m B L vi vc ns w hO hI hU hf hN (hp rfl)).mono ?_
    rintro x w' ⟨⟨t, q, h1, rfl⟩ | ⟨er, q, h1, h2, h3, rfl⟩, hb⟩
    · exact ⟨q, 0, t, rfl, .inr ⟨rfl, .inl ⟨h1, rfl⟩⟩, hb⟩
    · exact ⟨q, er, 0, rfl, .inr ⟨rfl, .inr ⟨h1, h2, rfl, h3⟩⟩, hb⟩
  · refine (rsym_err g L.length c p o m e vi vc w he).mono ?_
    rintro x w' ⟨rfl, hb⟩
    exact ⟨p, e, 0, rfl, .inl ⟨he, rfl, rfl, rfl⟩, hb⟩
/-- wrong's error. -/
def wrE (is : Prop) [Decidable is] (e er : Nat) : Nat := if is ∧ e = 0 then er else e
theorem wrong_all (g N c p o m e : Nat) (is : Prop) [Decidable is] (er : Nat) (w : World) :
    Calls Try.prog 20 #[sn g N c p o m e, .bool (decide is), .int .i64 (er : Int)] w fun x w' => x = .returned (sn g N c p o m (wrE is e er)) ∧ Below w.heap.size w w' := by
  have := wrong_any g N c p o m e (decide is) er w
  unfold wrE
  simpa using this
/-- The same, as they stand in a walk. -/
theorem wrong_at (g N c p o m e : Nat) (E : Int) (hE : E = (e : Int)) (is : Bool) (er : Nat) (ER : Int) (hR : ER = (er : Int)) (w : World) :
    Calls Try.prog 20 #[.agg #[.slice (some ⟨g, 0, none⟩) N c, .int .i64 (p : Int), .int .i64 (o : Int), .int .i64 (m : Int), .int .i64 E], .bool is, .int .i64 ER] w fun x w' => ∃ e1 : Nat, x = .returned (.agg #[.slice (some ⟨g, 0, none⟩) N c, .int .i64 (p : Int), .int .i64 (o : Int), .int .i64 (m : Int), .int .i64 (e1 : Int)]) ∧ Hid (e1 = if is = true ∧ e = 0 then er else e) ∧ Below w.heap.size w w' := by
  subst hE hR
  exact (wrong_any g N c p o m e is er w).mono (by rintro x w' ⟨rfl, hb⟩; exact ⟨_, rfl, rfl, hb⟩)
theorem rnum_at (g c p o m e n B : Nat) (E : Int) (hE : E = (e : Int)) (NN : Int) (hn' : NN = (n : Int)) (L : List Bool) (w : World) (hO : OB w B (.slice (some ⟨g, 0, none⟩) L.length c) L) (hN : L.length ≤ 1000000) (hp : p ≤ 2000000) (hn : n ≤ 32) :
    Calls Try.prog 15 #[.agg #[.slice (some ⟨g, 0, none⟩) L.length c, .int .i64 (p : Int), .int .i64 (o : Int), .int .i64 (m : Int), .int .i64 E], .int .i64 NN] w fun x w' => ∃ p1 e1 v : Nat, x = .returned (.tuple #[.agg #[.slice (some ⟨g, 0, none⟩) L.length c, .int .i64 (p1 : Int), .int .i64 (o : Int), .int .i64 (m : Int), .int .i64 (e1 : Int)], .int .i64 (v : Int)]) ∧ Hid (p1 = nuP L.length p e n ∧ e1 = nuE L.length p e n ∧ v = nuV L p e n) ∧ Below w.heap.size w w' := by
  subst hE hn'
  exact (rnum_all g c p o m e n B L w hO hN hp hn).mono (by rintro x w' ⟨rfl, hb⟩; exact ⟨_, _, _, rfl, ⟨rfl, rfl, rfl⟩, hb⟩)
theorem rsym_at (g c p o m e B : Nat) (E : Int) (hE : E = (e : Int)) (L : List Bool) (vi vc : Value) (ns : List Nat) (w : World) (hO : OB w B (.slice (some ⟨g, 0, none⟩) L.length c) L) (hI : IQ w vi (zz ns)) (hU : UR w vc (zz ns).length (cdOf ns)) (hf : fitE ns = true) (hN : L.length ≤ 1000000) (hp : e = 0 → p ≤ L.length) :
    Calls Try.prog 29 #[.agg #[.slice (some ⟨g, 0, none⟩) L.length c, .int .i64 (p : Int), .int .i64 (o : Int), .int .i64 (m : Int), .int .i64 E], vi, vc] w fun x w' => ∃ q e' s : Nat, x = .returned (.tuple #[.agg #[.slice (some ⟨g, 0, none⟩) L.length c, .int .i64 (q : Int), .int .i64 (o : Int), .int .i64 (m : Int), .int .i64 (e' : Int)], .int .i64 (s : Int)]) ∧ Hid (SymR ns L p e q e' s) ∧ Below w.heap.size w w' := by
  subst hE
  exact rsym_all g c p o m e B L vi vc ns w hO hI hU hf hN hp
/-- Tokens' state, with the token that is being made in block tk. -/
structure TT (w W : World) (B g c : Nat) (L : List Bool) (bx rx p o m e : Nat) (R : List RW) (vo : Value) (acc : List Tok) (tk b l d : Nat) : Prop where
  tb : TB w W B g c L bx rx p o m e R vo acc
  tkh : W.heap[tk]? = some (.cells #[.int .u8 (b : Int), .int .i64 (l : Int), .int .i64 (d : Int)] 42 (0, 0))
  tkn : tk ≠ bx ∧ tk ≠ rx ∧ w.heap.size ≤ tk
  one : ∀ q, vo.ownBlock = some q → q ≠ tk
theorem TT.call {w W W' : World} {B g c : Nat} {L : List Bool} {bx rx p o m e : Nat} {R : List RW} {vo : Value} {acc : List Tok} {tk b l d : Nat} (h : TT w W B g c L bx rx p o m e R vo acc tk b l d) (hb : Below W.heap.size W W') : TT w W' B g c L bx rx p o m e R vo acc tk b l d :=
  ⟨h.tb.call hb, (hb.block _ (heap_lt h.tkh)).trans h.tkh, h.tkn, h.one⟩
theorem TT.put {w W : World} {B g c : Nat} {L : List Bool} {bx rx p o m e : Nat} {R : List RW} {vo : Value} {acc : List Tok} {tk b l d : Nat} (h : TT w W B g c L bx rx p o m e R vo acc tk b l d) (p' o' m' e' : Nat) : TT w (put5 W bx (.slice (some ⟨g, 0, none⟩) L.length c) (.int .i64 (p' : Int)) (.int .i64 (o' : Int)) (.int .i64 (m' : Int)) (.int .i64 (e' : Int))) B g c L bx rx p' o' m' e' R vo acc tk b l d :=
  ⟨h.tb.put p' o' m' e', ((put5_grown W bx _ _ _ _ _).block tk (heap_lt h.tkh) (fun e => h.tkn.1 (Option.some.inj e))).trans h.tkh, h.tkn, h.one⟩
theorem TT.set {w W : World} {B g c : Nat} {L : List Bool} {bx rx p o m e : Nat} {R : List RW} {vo : Value} {acc : List Tok} {tk b l d : Nat} (h : TT w W B g c L bx rx p o m e R vo acc tk b l d) (i : Nat) (v : Value) (p' o' m' e' : Nat) (hv : (snC g L.length c p o m e).setIfInBounds i v = snC g L.length c p' o' m' e') : TT w (W.setCell ⟨bx, i, none⟩ v) B g c L bx rx p' o' m' e' R vo acc tk b l d :=
  ⟨h.tb.set i v p' o' m' e' hv, ((gset (grefl W (some bx)) i v).block tk (heap_lt h.tkh) (fun e => h.tkn.1 (Option.some.inj e))).trans h.tkh, h.tkn, h.one⟩
theorem own_keptne {W W' : World} {B n sz b : Nat} {ty : TypeId} {v : Value} {xs : List Value} (h : W.ownsRow B ty sz v n xs) (hne : ∀ q, v.ownBlock = some q → q ≠ b) (hg : W.grownBy W' (some b)) : W'.ownsRow B ty sz v n xs := by
  rcases h.2 with ⟨rfl, h0⟩ | ⟨g, cap, cur, rfl, _, hc, _⟩
  · exact ⟨h.1, .inl ⟨rfl, h0⟩⟩
  · exact h.kept hg (.inr fun e => hne g rfl (Option.some.inj e))
/-- All three cells of the token written. -/
def put3T (w : World) (b : Nat) (v0 v1 v2 : Value) : World := ((w.setCell ⟨b, 0, none⟩ v0).setCell ⟨b, 1, none⟩ v1).setCell ⟨b, 2, none⟩ v2
theorem TT.putT {w W : World} {B g c : Nat} {L : List Bool} {bx rx p o m e : Nat} {R : List RW} {vo : Value} {acc : List Tok} {tk b l d : Nat} (h : TT w W B g c L bx rx p o m e R vo acc tk b l d) (b' l' d' : Nat) : TT w (put3T W tk (.int .u8 (b' : Int)) (.int .i64 (l' : Int)) (.int .i64 (d' : Int))) B g c L bx rx p o m e R vo acc tk b' l' d' := by
  have hg : W.grownBy (put3T W tk (.int .u8 (b' : Int)) (.int .i64 (l' : Int)) (.int .i64 (d' : Int))) (some tk) := gset (gset (gset (grefl W _) 0 _) 1 _) 2 _
  have hsb := h.tb.sb
  have hne : ∀ {ob}, OB W B (.slice (some ⟨g, 0, none⟩) L.length c) ob → g ≠ tk := fun {ob} ho => by
    obtain ⟨g', c', e, hh⟩ := ho
    rintro rfl
    exact own_ne hh h.tkh (by decide) rfl
  refine ⟨⟨⟨hsb.ob.kept hg (fun e => hne hsb.ob (Option.some.inj e)), (hg.block _ (heap_lt hsb.bxh) (fun e => h.tkn.1 (Option.some.inj e).symm)).trans hsb.bxh, (hg.block _ (heap_lt hsb.rxh) (fun e => h.tkn.2.1 (Option.some.inj e).symm)).trans hsb.rxh, hsb.bel.grown hg hsb.bel.size (fun k hk => by cases hk; exact h.tkn.2.2), hsb.lo⟩, fun r hr => ⟨(h.tb.rows r hr).1, own_kept_ne (h.tb.rows r hr).2 h.tkh (h.tb.rows r hr).1.2 hg⟩, own_keptne h.tb.out h.one hg⟩, ?_, h.tkn, h.one⟩
  unfold put3T
  rw [heap_setCell_same _ _ _ _ _ _ (heap_setCell_same _ _ _ _ _ _ (heap_setCell_same _ _ _ _ _ _ h.tkh))]; rfl
theorem TB.tok {w W : World} {B g c : Nat} {L : List Bool} {bx rx p o m e : Nat} {R : List RW} {vo : Value} {acc : List Tok} (h : TB w W B g c L bx rx p o m e R vo acc) (b l d : Nat) : TT w (W.alloc (.cells #[.int .u8 (b : Int), .int .i64 (l : Int), .int .i64 (d : Int)] 42)) B g c L bx rx p o m e R vo acc W.heap.size b l d :=
  ⟨h.alloc _, heap_alloc_new W _, ⟨fun e => by have := heap_lt h.sb.bxh; omega, fun e => by have := heap_lt h.sb.rxh; omega, h.sb.bel.size⟩, fun q hq e => by have := (h.out.lt q hq).2; omega⟩
/-- What the ways through a token's making leave: r is what the whole says. -/
def JT (ls ds : List Nat) (L : List Bool) (p0 m k q o n e : Nat) (acc : List Tok) (t : Tok) (r : Except Nat (List Tok × Nat × Nat)) : Prop :=
  (e = 0 ∧ p0 < q ∧ q ≤ L.length ∧ 1 ≤ n ∧ L.length + 1 ≤ k + q ∧ (if m < o + n then Except.error 2 else tksF ls ds (fun i => L.getD i false) L.length m k q (o + n) (acc ++ [t])) = r) ∨ (e ≠ 0 ∧ r = .error e)
end Go.Proofs.Ythkppipdflmekaa
