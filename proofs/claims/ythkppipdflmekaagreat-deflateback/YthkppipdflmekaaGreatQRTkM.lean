/- The document's tokens, pure: what number and symbol say, held against tkE. -/
import Derived.Test.YthkppipdflmekaaGreatQRStor
import Derived.Test.YthkppipdflmekaaGreatQRSiz
import Derived.Laws.Rows
import Derived.Test.YthkppipdflmekaaGreatQArmW
import Derived.Test.YthkppipdflmekaaGreatQInfZ
namespace Go.Proofs.YthkppipdflmekaaGreat
open Go.RowKit
set_option linter.unusedVariables false
structure RW where
 ty : TypeId
 sz : Nat
 v : Value
 n : Nat
 xs : List Value
def qoh (w W : World) (R : List RW) : Prop := ∀ r ∈ R, (r.ty ≠ 99 ∧ r.ty ≠ 53) ∧ W.ownsRow w.heap.size r.ty r.sz r.v r.n r.xs
theorem qan {W W' : World} {B n sz b : Nat} {ty ty2 : TypeId} {v : Value} {xs : List Value} {cs : Array Value} (h : W.ownsRow B ty sz v n xs) (hb : W.heap[b]? = some (.cells cs ty2 (0, 0))) (hne : ty ≠ ty2) (hg : W.grownBy W' (some b)) : W'.ownsRow B ty sz v n xs := by
 rcases h.2 with ⟨rfl, h0⟩ | ⟨g, cap, cur, rfl, _, hc, _⟩
 · exact ⟨h.1, .inl ⟨rfl, h0⟩⟩
 · refine h.kept hg (.inr fun e => ?_)
   simp only [Value.ownBlock, Option.some.injEq] at e
   subst e
   rw [hc] at hb
   simp only [Option.some.injEq, Obj.cells.injEq] at hb
   exact hne hb.2.1
theorem qf3 {w w' : World} {B B' n m sz sz' : Nat} {ty ty' : TypeId} {v u : Value} {xs ys : List Value} (h : w.ownsRow B ty sz v n xs) (k : w.ownsRow B' ty' sz' u m ys) (hne : ty ≠ ty') (hg : w.grownBy w' u.ownBlock) : w'.ownsRow B ty sz v n xs := by
 rcases k.2 with ⟨rfl, _⟩ | ⟨g', cap', cur', rfl, _, hc', _⟩
 · rcases h.2 with ⟨rfl, h0⟩ | ⟨g, cap, cur, rfl, _⟩
   · exact ⟨h.1, .inl ⟨rfl, h0⟩⟩
   · exact h.kept hg (.inr (by simp [Value.ownBlock]))
 · exact qan h hc' hne hg
theorem qb2 {w w' : World} {B n sz : Nat} {ty : TypeId} {v : Value} {xs : List Value} (h : w.ownsRow B ty sz v n xs) (hb : Below w.heap.size w w') : w'.ownsRow B ty sz v n xs := by
 have hlt := h.lt
 refine ⟨h.1, ?_⟩
 rcases h.2 with h | ⟨g, cap, cur, rfl, h2, h3, h4⟩
 · exact .inl h
 · exact .inr ⟨g, cap, cur, rfl, h2, (hb.block _ (hlt g rfl).2).trans h3, h4⟩
theorem OB.kept2 {W W' : World} {B g c B' n sz : Nat} {L : List Bool} {ty : TypeId} {u : Value} {ys : List Value} (h : OB W B (.slice (some ⟨g, 0, none⟩) L.length c) L) (k : W.ownsRow B' ty sz u n ys) (hne : 4 ≠ ty) (hg : W.grownBy W' u.ownBlock) : OB W' B (.slice (some ⟨g, 0, none⟩) L.length c) L := by
 obtain ⟨g', c', e, ho⟩ := h
 exact ⟨g', c', e, qf3 ho k hne hg⟩
theorem SB.app {w W W' : World} {B g c : Nat} {L : List Bool} {bx rx p o m e n sz : Nat} {ty : TypeId} {u : Value} {ys : List Value} (h : SB w W B g c L bx rx p o m e) (k : W.ownsRow w.heap.size ty sz u n ys) (h1 : 4 ≠ ty) (h2 : 99 ≠ ty) (hg : W.grownBy W' u.ownBlock) : SB w W' B g c L bx rx p o m e :=
 ⟨h.ob.kept2 k h1 hg, (hg.block _ (qay h.bxh) (qcd k h.bxh h2)).trans h.bxh, (hg.block _ (qay h.rxh) (qcd k h.rxh h2)).trans h.rxh, h.bel.grown hg h.bel.size (fun q hq => (k.lt q hq).1), h.lo⟩
structure TB (w W : World) (B g c : Nat) (L : List Bool) (bx rx p o m e : Nat) (R : List RW) (vo : Value) (acc : List Tok) : Prop where
 sb : SB w W B g c L bx rx p o m e
 rows : qoh w W R
 out : W.ownsRow w.heap.size 53 3 vo acc.length (tcs acc)
theorem TB.call {w W W' : World} {B g c : Nat} {L : List Bool} {bx rx p o m e : Nat} {R : List RW} {vo : Value} {acc : List Tok} (h : TB w W B g c L bx rx p o m e R vo acc) (hb : Below W.heap.size W W') : TB w W' B g c L bx rx p o m e R vo acc :=
 ⟨h.sb.call hb, fun r hr => ⟨(h.rows r hr).1, qb2 (h.rows r hr).2 hb⟩, qb2 h.out hb⟩
theorem TB.put {w W : World} {B g c : Nat} {L : List Bool} {bx rx p o m e : Nat} {R : List RW} {vo : Value} {acc : List Tok} (h : TB w W B g c L bx rx p o m e R vo acc) (p' o' m' e' : Nat) : TB w (put5 W bx (.slice (some ⟨g, 0, none⟩) L.length c) (.int .i64 (p' : Int)) (.int .i64 (o' : Int)) (.int .i64 (m' : Int)) (.int .i64 (e' : Int))) B g c L bx rx p' o' m' e' R vo acc :=
 ⟨h.sb.put p' o' m' e', fun r hr => ⟨(h.rows r hr).1, qan (h.rows r hr).2 h.sb.bxh (h.rows r hr).1.1 (qar _ _ _ _ _ _ _)⟩, qan h.out h.sb.bxh (by decide) (qar _ _ _ _ _ _ _)⟩
theorem TB.set {w W : World} {B g c : Nat} {L : List Bool} {bx rx p o m e : Nat} {R : List RW} {vo : Value} {acc : List Tok} (h : TB w W B g c L bx rx p o m e R vo acc) (i : Nat) (v : Value) (p' o' m' e' : Nat) (hv : (snC g L.length c p o m e).setIfInBounds i v = snC g L.length c p' o' m' e') : TB w (W.setCell ⟨bx, i, none⟩ v) B g c L bx rx p' o' m' e' R vo acc :=
 ⟨h.sb.set i v p' o' m' e' hv, fun r hr => ⟨(h.rows r hr).1, qan (h.rows r hr).2 h.sb.bxh (h.rows r hr).1.1 (gset (qcj W _) i v)⟩, qan h.out h.sb.bxh (by decide) (gset (qcj W _) i v)⟩
theorem TB.alloc {w W : World} {B g c : Nat} {L : List Bool} {bx rx p o m e : Nat} {R : List RW} {vo : Value} {acc : List Tok} (h : TB w W B g c L bx rx p o m e R vo acc) (x : Obj) : TB w (W.alloc x) B g c L bx rx p o m e R vo acc := h.call ((Below.refl _ W).alloc (Nat.le_refl _) x)
theorem TB.app {w W W' : World} {B g c : Nat} {L : List Bool} {bx rx p o m e : Nat} {R : List RW} {vo vo' : Value} {acc acc' : List Tok} {x : Obj} (h : TB w W B g c L bx rx p o m e R vo acc) (hg : (W.alloc x).grownBy W' vo.ownBlock) (ho : W'.ownsRow w.heap.size 53 3 vo' acc'.length (tcs acc')) : TB w W' B g c L bx rx p o m e R vo' acc' :=
 ⟨(h.alloc x).sb.app (h.alloc x).out (by decide) (by decide) hg, fun r hr => ⟨(h.rows r hr).1, qf3 ((h.alloc x).rows r hr).2 (h.alloc x).out (h.rows r hr).1.2 hg⟩, ho⟩
set_option linter.unusedSimpArgs false
def nuE (N p e n : Nat) : Nat := if e ≠ 0 then e else if N < p + n then 6 else 0
def nuP (N p e n : Nat) : Nat := if e = 0 ∧ p + n ≤ N then p + n else p
def nuV (L : List Bool) (p e n : Nat) : Nat := if e = 0 ∧ p + n ≤ L.length then qal (fun i => L.getD (p + i) false) n else 0
theorem qv1 (L : List Bool) (p e n : Nat) (hn : n ≤ 16) : nuV L p e n ≤ 65535 := by
 unfold nuV
 split
 · have := qaw (fun i => L.getD (p + i) false) n
   have : 2 ^ n ≤ 2 ^ 16 := Nat.pow_le_pow_right (by decide) hn
   omega
 · omega
theorem q4h {N p e n : Nat} (h : p ≤ N + 100) : nuP N p e n ≤ N + 100 := by unfold nuP; split <;> omega
theorem qy5 (g c p o m e n B : Nat) (L : List Bool) (w : World) (hO : OB w B (.slice (some ⟨g, 0, none⟩) L.length c) L) (hN : L.length ≤ 1000000) (hp : p ≤ 2000000) (hn : n ≤ 32) :
    Calls Tryz.prog 37 #[sn g L.length c p o m e, .int .i64 (n : Int)] w fun x w' => x = .returned (.tuple #[sn g L.length c (nuP L.length p e n) o m (nuE L.length p e n), .int .i64 (nuV L p e n : Int)]) ∧ Below w.heap.size w w' := by
 unfold nuP nuE nuV
 by_cases he : e = 0
 · subst he
   by_cases h : p + n ≤ L.length
   · rw [if_pos ⟨rfl, h⟩, if_neg (fun q => q rfl), if_neg (by omega), if_pos ⟨rfl, h⟩]
     exact qgl g c p o m n B L w hO h hN hn
   · rw [if_neg (fun q => h q.2), if_neg (fun q => q rfl), if_pos (by omega), if_neg (fun q => h q.2)]
     exact qij g L.length c p o m n w (by omega) hN hp hn
 · rw [if_neg (fun q => he q.1), if_pos he, if_neg (fun q => he q.1)]
   exact qho g L.length c p o m e n w he
theorem qtn {L : List Bool} {p n : Nat} (h : nuE L.length p 0 n = 0) : tkF (fun i => L.getD i false) L.length p n = .ok (nuV L p 0 n) ∧ nuP L.length p 0 n = p + n ∧ p + n ≤ L.length := by
 unfold nuE at h
 rw [if_neg (fun q => q rfl)] at h
 by_cases hl : L.length < p + n
 · rw [if_pos hl] at h; cases h
 · unfold tkF nuV nuP
   rw [if_neg hl, if_pos ⟨rfl, by omega⟩, if_pos ⟨rfl, by omega⟩]
   exact ⟨rfl, rfl, by omega⟩
theorem qne {L : List Bool} {p n : Nat} (h : nuE L.length p 0 n ≠ 0) : tkF (fun i => L.getD i false) L.length p n = .error 6 ∧ nuE L.length p 0 n = 6 := by
 unfold nuE at h ⊢
 rw [if_neg (fun q => q rfl)] at h ⊢
 by_cases hl : L.length < p + n
 · rw [if_pos hl]; unfold tkF; rw [if_pos hl]; exact ⟨rfl, rfl⟩
 · rw [if_neg hl] at h; exact absurd rfl h
def SymR (ns : List Nat) (L : List Bool) (p e q e' s : Nat) : Prop :=
 (e ≠ 0 ∧ q = p ∧ e' = e ∧ s = 0) ∨ (e = 0 ∧ ((nxF ns (fun i => L.getD i false) L.length p = .ok (s, q) ∧ e' = 0) ∨ (nxF ns (fun i => L.getD i false) L.length p = .error e' ∧ e' ≠ 0 ∧ s = 0 ∧ q ≤ L.length + 16)))
theorem SymR.lt {ns : List Nat} {L : List Bool} {p e q e' s : Nat} (h : SymR ns L p e q e' s) (hf : fitE ns = true) (hp : p ≤ L.length + 100) (hp2 : e = 0 → p ≤ L.length) : s < 320 ∧ q ≤ L.length + 100 := by
 obtain ⟨he, h15, h320, hfit⟩ := qbx hf
 rcases h with ⟨_, rfl, _, rfl⟩ | ⟨h0, ⟨h1, _⟩ | ⟨_, _, rfl, hq⟩⟩
 · exact ⟨by omega, hp⟩
 · have := qdj h15 (hp2 h0) h1
   exact ⟨by omega, by omega⟩
 · exact ⟨by omega, by omega⟩
theorem qyw (g c p o m e B : Nat) (L : List Bool) (vi vc : Value) (ns : List Nat) (w : World) (hO : OB w B (.slice (some ⟨g, 0, none⟩) L.length c) L) (hI : IQ w vi (zz ns)) (hU : UR w vc (zz ns).length (cdOf ns)) (hf : fitE ns = true) (hN : L.length ≤ 1000000) (hp : e = 0 → p ≤ L.length) :
    Calls Tryz.prog 71 #[sn g L.length c p o m e, vi, vc] w fun x w' => ∃ q e' s : Nat, x = .returned (.tuple #[sn g L.length c q o m e', .int .i64 (s : Int)]) ∧ SymR ns L p e q e' s ∧ Below w.heap.size w w' := by
 by_cases he : e = 0
 · subst he
   refine (qqw g c p o m B L vi vc ns w hO hI hU hf hN (hp rfl)).mono ?_
   rintro x w' ⟨⟨t, q, h1, rfl⟩ | ⟨er, q, h1, h2, h3, rfl⟩, hb⟩
   · exact ⟨q, 0, t, rfl, .inr ⟨rfl, .inl ⟨h1, rfl⟩⟩, hb⟩
   · exact ⟨q, er, 0, rfl, .inr ⟨rfl, .inr ⟨h1, h2, rfl, h3⟩⟩, hb⟩
 · refine (qyv g L.length c p o m e vi vc w he).mono ?_
   rintro x w' ⟨rfl, hb⟩
   exact ⟨p, e, 0, rfl, .inl ⟨he, rfl, rfl, rfl⟩, hb⟩
def wrE (is : Prop) [Decidable is] (e er : Nat) : Nat := if is ∧ e = 0 then er else e
theorem qbi (g N c p o m e : Nat) (E : Int) (hE : E = (e : Int)) (is : Bool) (er : Nat) (ER : Int) (hR : ER = (er : Int)) (w : World) :
    Calls Tryz.prog 42 #[.agg #[.slice (some ⟨g, 0, none⟩) N c, .int .i64 (p : Int), .int .i64 (o : Int), .int .i64 (m : Int), .int .i64 E], .bool is, .int .i64 ER] w fun x w' => ∃ e1 : Nat, x = .returned (.agg #[.slice (some ⟨g, 0, none⟩) N c, .int .i64 (p : Int), .int .i64 (o : Int), .int .i64 (m : Int), .int .i64 (e1 : Int)]) ∧ Hid (e1 = if is = true ∧ e = 0 then er else e) ∧ Below w.heap.size w w' := by
 subst hE hR
 exact (qbb g N c p o m e is er w).mono (by rintro x w' ⟨rfl, hb⟩; exact ⟨_, rfl, rfl, hb⟩)
theorem qcv (g c p o m e n B : Nat) (E : Int) (hE : E = (e : Int)) (NN : Int) (hn' : NN = (n : Int)) (L : List Bool) (w : World) (hO : OB w B (.slice (some ⟨g, 0, none⟩) L.length c) L) (hN : L.length ≤ 1000000) (hp : p ≤ 2000000) (hn : n ≤ 32) :
    Calls Tryz.prog 37 #[.agg #[.slice (some ⟨g, 0, none⟩) L.length c, .int .i64 (p : Int), .int .i64 (o : Int), .int .i64 (m : Int), .int .i64 E], .int .i64 NN] w fun x w' => ∃ p1 e1 v : Nat, x = .returned (.tuple #[.agg #[.slice (some ⟨g, 0, none⟩) L.length c, .int .i64 (p1 : Int), .int .i64 (o : Int), .int .i64 (m : Int), .int .i64 (e1 : Int)], .int .i64 (v : Int)]) ∧ Hid (p1 = nuP L.length p e n ∧ e1 = nuE L.length p e n ∧ v = nuV L p e n) ∧ Below w.heap.size w w' := by
 subst hE hn'
 exact (qy5 g c p o m e n B L w hO hN hp hn).mono (by rintro x w' ⟨rfl, hb⟩; exact ⟨_, _, _, rfl, ⟨rfl, rfl, rfl⟩, hb⟩)
theorem qu9 (g c p o m e B : Nat) (E : Int) (hE : E = (e : Int)) (L : List Bool) (vi vc : Value) (ns : List Nat) (w : World) (hO : OB w B (.slice (some ⟨g, 0, none⟩) L.length c) L) (hI : IQ w vi (zz ns)) (hU : UR w vc (zz ns).length (cdOf ns)) (hf : fitE ns = true) (hN : L.length ≤ 1000000) (hp : e = 0 → p ≤ L.length) :
    Calls Tryz.prog 71 #[.agg #[.slice (some ⟨g, 0, none⟩) L.length c, .int .i64 (p : Int), .int .i64 (o : Int), .int .i64 (m : Int), .int .i64 E], vi, vc] w fun x w' => ∃ q e' s : Nat, x = .returned (.tuple #[.agg #[.slice (some ⟨g, 0, none⟩) L.length c, .int .i64 (q : Int), .int .i64 (o : Int), .int .i64 (m : Int), .int .i64 (e' : Int)], .int .i64 (s : Int)]) ∧ Hid (SymR ns L p e q e' s) ∧ Below w.heap.size w w' := by
 subst hE
 exact qyw g c p o m e B L vi vc ns w hO hI hU hf hN hp
structure TT (w W : World) (B g c : Nat) (L : List Bool) (bx rx p o m e : Nat) (R : List RW) (vo : Value) (acc : List Tok) (tk b l d : Nat) : Prop where
 tb : TB w W B g c L bx rx p o m e R vo acc
 tkh : W.heap[tk]? = some (.cells #[.int .u8 (b : Int), .int .i64 (l : Int), .int .i64 (d : Int)] 53 (0, 0))
 tkn : tk ≠ bx ∧ tk ≠ rx ∧ w.heap.size ≤ tk
 one : ∀ q, vo.ownBlock = some q → q ≠ tk
theorem TT.call {w W W' : World} {B g c : Nat} {L : List Bool} {bx rx p o m e : Nat} {R : List RW} {vo : Value} {acc : List Tok} {tk b l d : Nat} (h : TT w W B g c L bx rx p o m e R vo acc tk b l d) (hb : Below W.heap.size W W') : TT w W' B g c L bx rx p o m e R vo acc tk b l d :=
 ⟨h.tb.call hb, (hb.block _ (qay h.tkh)).trans h.tkh, h.tkn, h.one⟩
theorem TT.put {w W : World} {B g c : Nat} {L : List Bool} {bx rx p o m e : Nat} {R : List RW} {vo : Value} {acc : List Tok} {tk b l d : Nat} (h : TT w W B g c L bx rx p o m e R vo acc tk b l d) (p' o' m' e' : Nat) : TT w (put5 W bx (.slice (some ⟨g, 0, none⟩) L.length c) (.int .i64 (p' : Int)) (.int .i64 (o' : Int)) (.int .i64 (m' : Int)) (.int .i64 (e' : Int))) B g c L bx rx p' o' m' e' R vo acc tk b l d :=
 ⟨h.tb.put p' o' m' e', ((qar W bx _ _ _ _ _).block tk (qay h.tkh) (fun e => h.tkn.1 (Option.some.inj e))).trans h.tkh, h.tkn, h.one⟩
theorem TT.set {w W : World} {B g c : Nat} {L : List Bool} {bx rx p o m e : Nat} {R : List RW} {vo : Value} {acc : List Tok} {tk b l d : Nat} (h : TT w W B g c L bx rx p o m e R vo acc tk b l d) (i : Nat) (v : Value) (p' o' m' e' : Nat) (hv : (snC g L.length c p o m e).setIfInBounds i v = snC g L.length c p' o' m' e') : TT w (W.setCell ⟨bx, i, none⟩ v) B g c L bx rx p' o' m' e' R vo acc tk b l d :=
 ⟨h.tb.set i v p' o' m' e' hv, ((gset (qcj W (some bx)) i v).block tk (qay h.tkh) (fun e => h.tkn.1 (Option.some.inj e))).trans h.tkh, h.tkn, h.one⟩
theorem qkj {W W' : World} {B n sz b : Nat} {ty : TypeId} {v : Value} {xs : List Value} (h : W.ownsRow B ty sz v n xs) (hne : ∀ q, v.ownBlock = some q → q ≠ b) (hg : W.grownBy W' (some b)) : W'.ownsRow B ty sz v n xs := by
 rcases h.2 with ⟨rfl, h0⟩ | ⟨g, cap, cur, rfl, _, hc, _⟩
 · exact ⟨h.1, .inl ⟨rfl, h0⟩⟩
 · exact h.kept hg (.inr fun e => hne g rfl (Option.some.inj e))
def qza (w : World) (b : Nat) (v0 v1 v2 : Value) : World := ((w.setCell ⟨b, 0, none⟩ v0).setCell ⟨b, 1, none⟩ v1).setCell ⟨b, 2, none⟩ v2
theorem TT.putT {w W : World} {B g c : Nat} {L : List Bool} {bx rx p o m e : Nat} {R : List RW} {vo : Value} {acc : List Tok} {tk b l d : Nat} (h : TT w W B g c L bx rx p o m e R vo acc tk b l d) (b' l' d' : Nat) : TT w (qza W tk (.int .u8 (b' : Int)) (.int .i64 (l' : Int)) (.int .i64 (d' : Int))) B g c L bx rx p o m e R vo acc tk b' l' d' := by
 have hg : W.grownBy (qza W tk (.int .u8 (b' : Int)) (.int .i64 (l' : Int)) (.int .i64 (d' : Int))) (some tk) := gset (gset (gset (qcj W _) 0 _) 1 _) 2 _
 have hsb := h.tb.sb
 have hne : ∀ {ob}, OB W B (.slice (some ⟨g, 0, none⟩) L.length c) ob → g ≠ tk := fun {ob} ho => by
  obtain ⟨g', c', e, hh⟩ := ho
  rintro rfl
  exact qcd hh h.tkh (by decide) rfl
 refine ⟨⟨⟨hsb.ob.kept hg (fun e => hne hsb.ob (Option.some.inj e)), (hg.block _ (qay hsb.bxh) (fun e => h.tkn.1 (Option.some.inj e).symm)).trans hsb.bxh, (hg.block _ (qay hsb.rxh) (fun e => h.tkn.2.1 (Option.some.inj e).symm)).trans hsb.rxh, hsb.bel.grown hg hsb.bel.size (fun k hk => by cases hk; exact h.tkn.2.2), hsb.lo⟩, fun r hr => ⟨(h.tb.rows r hr).1, qan (h.tb.rows r hr).2 h.tkh (h.tb.rows r hr).1.2 hg⟩, qkj h.tb.out h.one hg⟩, ?_, h.tkn, h.one⟩
 unfold qza
 rw [heap_setCell_same _ _ _ _ _ _ (heap_setCell_same _ _ _ _ _ _ (heap_setCell_same _ _ _ _ _ _ h.tkh))]; rfl
theorem TB.tok {w W : World} {B g c : Nat} {L : List Bool} {bx rx p o m e : Nat} {R : List RW} {vo : Value} {acc : List Tok} (h : TB w W B g c L bx rx p o m e R vo acc) (b l d : Nat) : TT w (W.alloc (.cells #[.int .u8 (b : Int), .int .i64 (l : Int), .int .i64 (d : Int)] 53)) B g c L bx rx p o m e R vo acc W.heap.size b l d :=
 ⟨h.alloc _, heap_alloc_new W _, ⟨fun e => by have := qay h.sb.bxh; omega, fun e => by have := qay h.sb.rxh; omega, h.sb.bel.size⟩, fun q hq e => by have := (h.out.lt q hq).2; omega⟩
def JT (ls ds : List Nat) (L : List Bool) (p0 m k q o n e : Nat) (acc : List Tok) (t : Tok) (r : Except Nat (List Tok × Nat × Nat)) : Prop :=
 (e = 0 ∧ p0 < q ∧ q ≤ L.length ∧ 1 ≤ n ∧ L.length + 1 ≤ k + q ∧ (if m < o + n then Except.error 2 else tksF ls ds (fun i => L.getD i false) L.length m k q (o + n) (acc ++ [t])) = r) ∨ (e ≠ 0 ∧ r = .error e)
theorem qkc {P : Program} {fn : Func} {p t : Tmp} {ty : TypeId} (h : fn.results = #[.cell p ty, .tmp t]) (tmps : Array Value) (w : World) (g : Nat) (tt : TypeId) (cs : Array Value) (fr : Nat × Nat) (d : TypeDesc)
    (hp : tmps.getD p undef = .pointer (some ⟨g, 0, none⟩)) (hg : w.heap[g]? = some (.cells cs tt fr))
    (hu : P.underlying ty = some d) (hd : (match d with | .struct _ | .array _ _ => true | _ => false) = true) (hi : (P.info? ty).map (·.size) = some cs.size) (v : Value) (hv : tmps.getD t undef = v) :
    (results fn tmps).run P w = .ok (.tuple #[.agg cs, v]) w := by
 subst hv
 have hp' : tmps[p]?.getD undef = .pointer (some ⟨g, 0, none⟩) := by simpa using hp
 simp [results, h, hp', asAddr, run_loadVar_row w g tt ty cs fr d hg hu hd hi]
theorem qld {P : Program} {fn : Func} {p t u : Tmp} {ty : TypeId} (h : fn.results = #[.cell p ty, .tmp t, .tmp u]) (tmps : Array Value) (w : World) (g : Nat) (tt : TypeId) (cs : Array Value) (fr : Nat × Nat) (d : TypeDesc)
    (hp : tmps.getD p undef = .pointer (some ⟨g, 0, none⟩)) (hg : w.heap[g]? = some (.cells cs tt fr))
    (hu : P.underlying ty = some d) (hd : (match d with | .struct _ | .array _ _ => true | _ => false) = true) (hi : (P.info? ty).map (·.size) = some cs.size) (v x : Value) (hv : tmps.getD t undef = v) (hx : tmps.getD u undef = x) :
    (results fn tmps).run P w = .ok (.tuple #[.agg cs, v, x]) w := by
 subst hv hx
 have hp' : tmps[p]?.getD undef = .pointer (some ⟨g, 0, none⟩) := by simpa using hp
 simp [results, h, hp', asAddr, run_loadVar_row w g tt ty cs fr d hg hu hd hi]
theorem qcl {P : Program} {ops : Array Oper} {Q : Exit → Act → World → Prop} {o : Oper} {a : Act} {w : World} {K : Act → World → Prop} {E : Prop} (hw : Region.wanted o (yielded ops a.tmps) = true) (d : Option Tmp) (hd : o.dst = d) {v : Value} {w' : World}
    (hrun : (execOp a.eval o).run P w = .ok (.value v) w') (h : K (a.put d v) w') :
    if Region.wanted o (yielded ops a.tmps) = true then Oper.wp P o a w K Q else E := by
 subst hd
 rw [if_pos hw]
 unfold Oper.wp
 rw [hrun]
 exact h
theorem iSn (g N c p o m e : Nat) : (Tryz.prog.info? 99).map (·.size) = some (snC g N c p o m e).size := by
 have h : (Tryz.prog.info? 99).map (·.size) = some 5 := by kernel_rfl
 rw [h]; rfl
theorem q2q {L : List Bool} {m p o p1 e1 v1 p2 e2 v2 : Nat} (h1 : p1 = nuP L.length p 0 1 ∧ e1 = nuE L.length p 0 1 ∧ v1 = nuV L p 0 1) (h2 : p2 = nuP L.length p1 e1 2 ∧ e2 = nuE L.length p1 e1 2 ∧ v2 = nuV L p1 e1 2) :
    (e2 ≠ 0 → v2 = 0 ∧ p2 ≤ L.length + p ∧ blkF (fun i => L.getD i false) L.length m p o = .error e2) ∧ (e2 = 0 → p2 = p + 3 ∧ p + 3 ≤ L.length ∧ v1 < 2 ∧ v2 < 4 ∧ blkF (fun i => L.getD i false) L.length m p o = match bdF (fun i => L.getD i false) L.length m (p + 3) o v2 with | .error e => .error e | .ok (b, p1, o1) => .ok (b, v1, p1, o1)) := by
 obtain ⟨rfl, rfl, rfl⟩ := h1
 rw [qha]
 by_cases k1 : nuE L.length p 0 1 = 0
 · obtain ⟨a1, a2, a3⟩ := qtn k1
   rw [k1, a2] at h2
   rw [a1]
   simp only
   obtain ⟨rfl, rfl, rfl⟩ := h2
   by_cases k2 : nuE L.length (p + 1) 0 2 = 0
   · obtain ⟨b1, b2, b3⟩ := qtn k2
     rw [b1]
     simp only
     refine ⟨fun h => absurd k2 h, fun _ => ⟨by rw [b2], by omega, ?_, ?_, rfl⟩⟩
     · unfold nuV; split
       · have := qaw (fun i => L.getD (p + i) false) 1; omega
       · omega
     · unfold nuV; split
       · have := qaw (fun i => L.getD (p + 1 + i) false) 2; omega
       · omega
   · obtain ⟨b1, b2⟩ := qne k2
     rw [b1, b2]
     refine ⟨fun _ => ⟨?_, ?_, rfl⟩, fun h => by cases h⟩
     · unfold nuV
       rw [if_neg]
       rintro ⟨_, h⟩
       unfold nuE at k2
       rw [if_neg (fun q => q rfl), if_neg (by omega)] at k2
       exact k2 rfl
     · unfold nuP; split <;> omega
 · obtain ⟨a1, a2⟩ := qne k1
   rw [a1]
   rw [a2] at h2
   obtain ⟨rfl, rfl, rfl⟩ := h2
   have e6 : nuE L.length (nuP L.length p 0 1) 6 2 = 6 := rfl
   rw [e6]
   refine ⟨fun _ => ⟨?_, ?_, rfl⟩, fun h => by cases h⟩
   · unfold nuV; rw [if_neg (fun q => by cases q.1)]
   · have : ∀ P, nuP L.length P 6 2 = P := fun P => by unfold nuP; rw [if_neg (fun q => by cases q.1)]
     rw [this]
     unfold nuP; split <;> omega
theorem qkz {ls ds : List Nat} (hl : qbh ls) (hd : qbh ds) {f : Nat → Bool} {L most : Nat} : ∀ (k p out : Nat) (acc ts : List Tok) (q o : Nat), p ≤ L → tksF ls ds f L most k p out acc = .ok (ts, q, o) → p < q
 | 0, p, out, acc, ts, q, o, hp, h => by rw [tksF] at h; cases h
 | k + 1, p, out, acc, ts, q, o, hp, h => by
  rw [tksF] at h
  split at h
  · cases h
  · rename_i sym p1 hx
    obtain ⟨_, h1, h2⟩ := qdj hl hp hx
    split at h
    · simp only [Except.ok.injEq, Prod.mk.injEq] at h; omega
    · split at h
      · cases h
      · rename_i t p2 o2 ht
        have h3 := qui hd h2 ht
        have := qkz hl hd k p2 o2 _ ts q o h3.2.1 h
        omega
theorem qvf {ns : List Nat} (h15 : qbh ns) {f : Nat → Bool} {L n : Nat} : ∀ (k p : Nat) (row row' : List Nat) (q : Nat), p ≤ L → rowF ns f L n k p row = .ok (row', q) → p ≤ q
 | 0, p, row, row', q, hp, h => by rw [rowF] at h; cases h
 | k + 1, p, row, row', q, hp, h => by
  rw [rowF] at h
  split at h
  · split at h
    · cases h
    · simp only [Except.ok.injEq, Prod.mk.injEq] at h; omega
  · split at h
    · cases h
    · rename_i sym p1 hx
      obtain ⟨_, h1, h2⟩ := qdj h15 hp hx
      split at h
      · cases h
      · split at h
        · cases h
        · rename_i m ht
          have := qvf h15 k _ _ _ _ (qcg ht).1 h
          omega
theorem q3a {f : Nat → Bool} {L p : Nat} {ls ds : List Nat} {q : Nat} (h : dynF f L p = .ok (ls, ds, q)) : p ≤ q := by
 unfold dynF at h
 split at h
 · cases h
 · split at h
   · cases h
   · split at h
     · cases h
     · rename_i c _
       split at h
       · cases h
       · split at h
         · cases h
         · rename_i hL
           split at h
           · cases h
           · rename_i hft
             have hft' : fitE (fstL f (p + 14) (c + 4)) = true := by
              cases hh : fitE (fstL f (p + 14) (c + 4))
              · exact absurd hh hft
              · rfl
             split at h
             · cases h
             · rename_i row p1 hro
               have hq := qvf (qbx hft').2.1 _ _ _ _ _ (by omega) hro
               split at h
               · cases h
               · split at h
                 · cases h
                 · simp only [Except.ok.injEq, Prod.mk.injEq] at h
                   omega
theorem q3p {f : Nat → Bool} {L most p out : Nat} {b : Blk} {last q o : Nat} (h : blkF f L most p out = .ok (b, last, q, o)) : p < q := by
 rw [qha] at h
 split at h
 · cases h
 · split at h
   · cases h
   · rename_i h2
     have hp := (qcg h2).1
     split at h
     · cases h
     · rename_i b' q' o' h3
       simp only [Except.ok.injEq, Prod.mk.injEq] at h
       obtain ⟨rfl, rfl, rfl, rfl⟩ := h
       unfold bdF at h3
       split at h3
       · split at h3
         · cases h3
         · rename_i hs
           simp only [Except.ok.injEq, Prod.mk.injEq] at h3
           obtain ⟨n, n2, k1, k2, k3, k4, k5, k6, k7, k8⟩ := qif hs
           omega
       · split at h3
         · split at h3
           · cases h3
           · rename_i hs
             have := qkz qgc.1 qgd.1 _ _ _ _ _ _ _ (by omega) hs
             simp only [Except.ok.injEq, Prod.mk.injEq] at h3
             omega
         · split at h3
           · split at h3
             · cases h3
             · rename_i hdy
               have h4 := q3a hdy
               obtain ⟨h5, h6, h7⟩ := qw0 hdy
               split at h3
               · cases h3
               · rename_i hs
                 have := qkz h5.1 h6.1 _ _ _ _ _ _ _ h7 hs
                 simp only [Except.ok.injEq, Prod.mk.injEq] at h3
                 omega
           · cases h3
theorem q0e {f : Nat → Bool} {L most p out : Nat} {b : Blk} {last q o : Nat} (h : blkF f L most p out = .ok (b, last, q, o)) : last < 2 := by
 rw [qha] at h
 cases h1 : tkF f L p 1 with
 | error e => rw [h1] at h; cases h
 | ok la =>
  rw [h1] at h
  simp only at h
  cases h2 : tkF f L (p + 1) 2 with
  | error e => rw [h2] at h; cases h
  | ok k =>
   rw [h2] at h
   simp only at h
   cases h3 : bdF f L most (p + 3) out k with
   | error e => rw [h3] at h; cases h
   | ok r =>
    obtain ⟨x, y, z⟩ := r
    rw [h3] at h
    simp only [Except.ok.injEq, Prod.mk.injEq] at h
    obtain ⟨rfl, rfl, rfl, rfl⟩ := h
    have := (qcg h1).2
    have := qaw (fun j => f (p + j)) 1
    omega
def qxv (w : World) (B : Nat) (x : Item) : Prop := x.2.1.data.toList.map UInt8.toNat = x.1.bytes ∧ w.ownsRow B 53 3 x.2.2 x.1.toks.length (tcs x.1.toks)
def q41 (w : World) (B : Nat) (v : Value) (l : List Item) : Prop := w.ownsRow B 51 3 v l.length (bcs l) ∧ ∀ x ∈ l, qxv w B x
theorem Tryz.infoBkR : (Tryz.prog.info? 51).map (fun i => (i.zero, i.size, i.bytes)) = some (some (.agg #[.int .i64 0, .string ⟨#[]⟩, .slice none 0 0]), 3, 48) := by kernel_rfl
structure XB (w W : World) (g c : Nat) (L : List Bool) (bx p o m e : Nat) (vo : Value) (n : Nat) (xs : List Value) (l : List Item) : Prop where
 ob : OB W w.heap.size (.slice (some ⟨g, 0, none⟩) L.length c) L
 bxh : W.heap[bx]? = some (.cells (snC g L.length c p o m e) 99 (0, 0))
 lo : w.heap.size ≤ bx
 bel : Below w.heap.size w W
 out : W.ownsRow w.heap.size 51 3 vo n xs
 its : ∀ x ∈ l, qxv W w.heap.size x
theorem qgo {w W W' : World} {n sz : Nat} {ty : TypeId} {v : Value} {xs : List Value} (h : W.ownsRow w.heap.size ty sz v n xs) (hb : Below W.heap.size W W') : W'.ownsRow w.heap.size ty sz v n xs := by
 have hlt := h.lt
 refine ⟨h.1, ?_⟩
 rcases h.2 with h | ⟨g, cap, cur, rfl, h2, h3, h4⟩
 · exact .inl h
 · exact .inr ⟨g, cap, cur, rfl, h2, (hb.block _ (hlt g rfl).2).trans h3, h4⟩
section
variable {w W W' : World} {g c : Nat} {L : List Bool} {bx p o m e : Nat} {vo : Value} {n : Nat} {xs : List Value} {l : List Item}
theorem XB.call (h : XB w W g c L bx p o m e vo n xs l) (hb : Below W.heap.size W W') : XB w W' g c L bx p o m e vo n xs l :=
 ⟨h.ob.below hb, (hb.block _ (qay h.bxh)).trans h.bxh, h.lo, h.bel.trans (hb.mono h.bel.size), qgo h.out hb, fun x hx => ⟨(h.its x hx).1, qgo (h.its x hx).2 hb⟩⟩
theorem XB.alloc (h : XB w W g c L bx p o m e vo n xs l) (x : Obj) : XB w (W.alloc x) g c L bx p o m e vo n xs l := h.call ((Below.refl _ W).alloc (Nat.le_refl _) x)
theorem XB.put (h : XB w W g c L bx p o m e vo n xs l) (p' o' m' e' : Nat) : XB w (put5 W bx (.slice (some ⟨g, 0, none⟩) L.length c) (.int .i64 (p' : Int)) (.int .i64 (o' : Int)) (.int .i64 (m' : Int)) (.int .i64 (e' : Int))) g c L bx p' o' m' e' vo n xs l := by
 have hg := qar W bx (.slice (some ⟨g, 0, none⟩) L.length c) (.int .i64 (p' : Int)) (.int .i64 (o' : Int)) (.int .i64 (m' : Int)) (.int .i64 (e' : Int))
 exact ⟨h.ob.kept hg (fun e => q2o h.ob h.bxh (Option.some.inj e)), qim h.bxh _ _ _ _ _, h.lo, h.bel.grown hg h.bel.size (fun k hk => by cases hk; exact h.lo), qan h.out h.bxh (by decide) hg, fun x hx => ⟨(h.its x hx).1, qan (h.its x hx).2 h.bxh (by decide) hg⟩⟩
end
structure XC (w W : World) (g c : Nat) (L : List Bool) (bx p o m e : Nat) (vo : Value) (n : Nat) (xs : List Value) (l : List Item) (bb : Nat) (k : Nat) (t : ByteArray) (tv : Value) : Prop where
 xb : XB w W g c L bx p o m e vo n xs l
 bbh : W.heap[bb]? = some (.cells #[.int .i64 (k : Int), .string t, tv] 51 (0, 0))
 bbn : bb ≠ bx ∧ w.heap.size ≤ bb
 one : ∀ q, vo.ownBlock = some q → q ≠ bb
section
variable {w W W' : World} {g c : Nat} {L : List Bool} {bx p o m e : Nat} {vo : Value} {n : Nat} {xs : List Value} {l : List Item} {bb k : Nat} {t : ByteArray} {tv : Value}
theorem XC.call (h : XC w W g c L bx p o m e vo n xs l bb k t tv) (hb : Below W.heap.size W W') : XC w W' g c L bx p o m e vo n xs l bb k t tv :=
 ⟨h.xb.call hb, (hb.block _ (qay h.bbh)).trans h.bbh, h.bbn, h.one⟩
theorem XC.put (h : XC w W g c L bx p o m e vo n xs l bb k t tv) (p' o' m' e' : Nat) : XC w (put5 W bx (.slice (some ⟨g, 0, none⟩) L.length c) (.int .i64 (p' : Int)) (.int .i64 (o' : Int)) (.int .i64 (m' : Int)) (.int .i64 (e' : Int))) g c L bx p' o' m' e' vo n xs l bb k t tv :=
 ⟨h.xb.put p' o' m' e', ((qar W bx _ _ _ _ _).block bb (qay h.bbh) (fun e => h.bbn.1 (Option.some.inj e))).trans h.bbh, h.bbn, h.one⟩
theorem XC.set (h : XC w W g c L bx p o m e vo n xs l bb k t tv) (i : Nat) (v : Value) (k' : Nat) (t' : ByteArray) (tv' : Value) (hv : (#[.int .i64 (k : Int), .string t, tv] : Array Value).setIfInBounds i v = #[.int .i64 (k' : Int), .string t', tv']) : XC w (W.setCell ⟨bb, i, none⟩ v) g c L bx p o m e vo n xs l bb k' t' tv' := by
 have hg : W.grownBy (W.setCell ⟨bb, i, none⟩ v) (some bb) := gset (qcj W _) i v
 have hne : g ≠ bb := by
  obtain ⟨g', c', e, ho⟩ := h.xb.ob
  rintro rfl
  exact qcd ho h.bbh (by decide) rfl
 refine ⟨⟨h.xb.ob.kept hg (fun e => hne (Option.some.inj e)), (hg.block _ (qay h.xb.bxh) (fun e => h.bbn.1 (Option.some.inj e).symm)).trans h.xb.bxh, h.xb.lo, h.xb.bel.grown hg h.xb.bel.size (fun k hk => by cases hk; exact h.bbn.2), qkj h.xb.out h.one hg, fun x hx => ⟨(h.xb.its x hx).1, qan (h.xb.its x hx).2 h.bbh (by decide) hg⟩⟩, by rw [heap_setCell_same _ _ _ _ _ _ h.bbh, hv], h.bbn, h.one⟩
theorem XB.blk (h : XB w W g c L bx p o m e vo n xs l) (k : Nat) (t : ByteArray) (tv : Value) : XC w (W.alloc (.cells #[.int .i64 (k : Int), .string t, tv] 51)) g c L bx p o m e vo n xs l W.heap.size k t tv :=
 ⟨h.alloc _, heap_alloc_new W _, ⟨fun e => by have := qay h.bxh; omega, h.bel.size⟩, fun q hq e => by have := (h.out.lt q hq).2; omega⟩
end
def JB (W : World) (B : Nat) (L : List Bool) (m q o e k last : Nat) (t : ByteArray) (tv : Value) (r : Except Nat (Blk × Nat × Nat × Nat)) : Prop :=
 (e = 0 ∧ q ≤ L.length ∧ o ≤ m ∧ ∃ ts : List Tok, r = .ok (⟨k, t.data.toList.map UInt8.toNat, ts⟩, last, q, o) ∧ W.ownsRow B 53 3 tv ts.length (tcs ts)) ∨ (e ≠ 0 ∧ r = .error e)
theorem q1t {i : Nat} (h : 29 ≤ i) : (szF i false).1 = 0 := by unfold szF; rw [if_neg (by decide), if_pos h]
theorem q1r {d : Nat} (h : 29 < d) : (szF d true).1 = 0 := by unfold szF; rw [if_pos rfl, if_neg (by omega)]
theorem qol {i : Nat} (h : i < 29) : (szF i false).1 ≠ 0 := by
 have key : ∀ i : Fin 29, (szF i.val false).1 ≠ 0 := by decide +kernel
 exact key ⟨i, h⟩
theorem qqg {d : Nat} (h : d < 30) : (szF d true).1 ≠ 0 := by
 have key : ∀ i : Fin 30, (szF i.val true).1 ≠ 0 := by decide +kernel
 exact key ⟨d, h⟩
theorem q1n {ds : List Nat} {f : Nat → Bool} {L most p out t : Nat} (h : 285 < t) : tkE ds f L most p out t = .error 3 := by
 unfold tkE szE
 rw [if_neg (by omega), if_pos (q1t (by omega))]
theorem quh {ds : List Nat} {L : List Bool} {m p o i q3 e3 d : Nat} (hi : i < 29) (hs : SymR ds L (nuP L.length p 0 (szF i false).2) (nuE L.length p 0 (szF i false).2) q3 e3 d) :
    (e3 ≠ 0 → tkE ds (fun j => L.getD j false) L.length m p o (i + 257) = .error e3) ∧ (e3 = 0 → p + (szF i false).2 ≤ L.length ∧ szE (fun j => L.getD j false) L.length p i false = .ok ((szF i false).1 + nuV L p 0 (szF i false).2, p + (szF i false).2) ∧ nxF ds (fun j => L.getD j false) L.length (p + (szF i false).2) = .ok (d, q3)) := by
 unfold tkE
 rw [if_neg (by omega), Nat.add_sub_cancel]
 by_cases h2 : nuE L.length p 0 (szF i false).2 = 0
 · obtain ⟨h3, h4, h5⟩ := qtn h2
   rw [h2, h4] at hs
   have hz : szE (fun j => L.getD j false) L.length p i false = .ok ((szF i false).1 + nuV L p 0 (szF i false).2, p + (szF i false).2) := by
    unfold szE; rw [if_neg (qol hi), h3]
   rw [hz]
   simp only
   rcases hs with ⟨h, _⟩ | ⟨_, ⟨h, rfl⟩ | ⟨h, he, _⟩⟩
   · exact absurd rfl h
   · exact ⟨fun h => absurd rfl h, fun _ => ⟨h5, trivial, h⟩⟩
   · rw [h]; exact ⟨fun _ => rfl, fun h => absurd h he⟩
 · obtain ⟨h3, h4⟩ := qne h2
   have hz : szE (fun j => L.getD j false) L.length p i false = .error 6 := by
    unfold szE; rw [if_neg (qol hi), h3]
   rw [hz]
   simp only
   rw [h4] at hs
   rcases hs with ⟨_, _, rfl, _⟩ | ⟨h, _⟩
   · exact ⟨fun _ => rfl, fun h => by cases h⟩
   · cases h
theorem quj {ds : List Nat} {L : List Bool} {m p o i q3 d p2 n : Nat} (hz : szE (fun j => L.getD j false) L.length p i false = .ok (n, p2)) (hx : nxF ds (fun j => L.getD j false) L.length p2 = .ok (d, q3)) :
    (29 < d → tkE ds (fun j => L.getD j false) L.length m p o (i + 257) = .error 3) ∧
    (d < 30 → (nuE L.length q3 0 (szF d true).2 ≠ 0 → tkE ds (fun j => L.getD j false) L.length m p o (i + 257) = .error (nuE L.length q3 0 (szF d true).2)) ∧
     (nuE L.length q3 0 (szF d true).2 = 0 → nuP L.length q3 0 (szF d true).2 ≤ L.length ∧ q3 ≤ nuP L.length q3 0 (szF d true).2 ∧ tkE ds (fun j => L.getD j false) L.length m p o (i + 257) = if o < (szF d true).1 + nuV L q3 0 (szF d true).2 then .error 3 else if m < o + n then .error 2 else .ok (⟨0, (n : Int), (((szF d true).1 + nuV L q3 0 (szF d true).2 : Nat) : Int)⟩, nuP L.length q3 0 (szF d true).2, o + n))) := by
 unfold tkE
 rw [if_neg (by omega), Nat.add_sub_cancel, hz]
 simp only
 rw [hx]
 simp only
 refine ⟨fun h => ?_, fun h => ⟨fun h2 => ?_, fun h2 => ?_⟩⟩
 · unfold szE; rw [if_pos (q1r h)]
 · obtain ⟨h3, h4⟩ := qne h2
   unfold szE; rw [if_neg (qqg h), h3, h4]
 · obtain ⟨h3, h4, h5⟩ := qtn h2
   refine ⟨by rw [h4]; omega, by rw [h4]; omega, ?_⟩
   unfold szE; rw [if_neg (qqg h), h3, h4]
theorem q20 {ls ds : List Nat} {L : List Bool} {m p0 p o k i q3 d n e5 : Nat} {acc : List Tok} {r : Except Nat (List Tok × Nat × Nat)} (hk : L.length + 1 ≤ k + 1 + p0) (hp : p0 < p) (hn : 1 ≤ n) (hd : d < 30)
    (hr : (match tkE ds (fun j => L.getD j false) L.length m p o (i + 257) with | .error e => .error e | .ok (t, p2, out2) => tksF ls ds (fun j => L.getD j false) L.length m k p2 out2 (acc ++ [t])) = r)
    {p2 : Nat} (hz : szE (fun j => L.getD j false) L.length p i false = .ok (n, p2)) (h2 : p ≤ p2) (h3 : p2 < q3) (hx : nxF ds (fun j => L.getD j false) L.length p2 = .ok (d, q3))
    (he : e5 = wrE (o < (szF d true).1 + nuV L q3 0 (szF d true).2) (nuE L.length q3 0 (szF d true).2) 3) :
    JT ls ds L p0 m k (nuP L.length q3 0 (szF d true).2) o n e5 acc ⟨0, (n : Int), (((szF d true).1 + nuV L q3 0 (szF d true).2 : Nat) : Int)⟩ r := by
 obtain ⟨_, hfar⟩ := quj (m := m) (o := o) hz hx
 obtain ⟨ha, hb⟩ := hfar hd
 unfold JT wrE at *
 by_cases h4 : nuE L.length q3 0 (szF d true).2 = 0
 · obtain ⟨h5, h5', h6⟩ := hb h4
   rw [h6] at hr
   rw [h4] at he
   by_cases hf : o < (szF d true).1 + nuV L q3 0 (szF d true).2
   · rw [if_pos hf] at hr
     rw [if_pos ⟨hf, rfl⟩] at he
     exact .inr ⟨by omega, by rw [he]; exact hr.symm⟩
   · rw [if_neg hf] at hr
     rw [if_neg (fun q => hf q.1)] at he
     refine .inl ⟨he, by omega, h5, hn, by omega, ?_⟩
     by_cases hm : m < o + n
     · rw [if_pos hm] at hr ⊢; exact hr
     · rw [if_neg hm] at hr ⊢; exact hr
 · rw [ha h4] at hr
   rw [if_neg (fun q => h4 q.2)] at he
   exact .inr ⟨by rw [he]; exact h4, by rw [he]; exact hr.symm⟩
theorem q39 {ds : List Nat} {L : List Bool} {m p o i p2 e2 v2 q3 e3 d e4 : Nat} (hi : i < 29) (hn : p2 = nuP L.length p 0 (szF i false).2 ∧ e2 = nuE L.length p 0 (szF i false).2 ∧ v2 = nuV L p 0 (szF i false).2) (hs : SymR ds L p2 e2 q3 e3 d) {is : Prop} [Decidable is] (his : is ↔ 29 < d) (he : e4 = if decide is = true ∧ e3 = 0 then 3 else e3) (h4 : e4 ≠ 0) : tkE ds (fun j => L.getD j false) L.length m p o (i + 257) = .error e4 := by
 obtain ⟨rfl, rfl, rfl⟩ := hn
 obtain ⟨h1, h2⟩ := quh (m := m) (o := o) hi hs
 by_cases h3 : e3 = 0
 · obtain ⟨_, hz, hx⟩ := h2 h3
   by_cases hd : is
   · rw [he, if_pos ⟨by simpa using hd, h3⟩]
     exact (quj hz hx).1 (his.1 hd)
   · rw [if_neg (fun q => hd (by simpa using q.1))] at he
     omega
 · rw [he, if_neg (fun q => h3 q.2)]
   exact h1 h3
theorem tk_on {ds : List Nat} {L : List Bool} {p i p2 e2 v2 q3 e3 d : Nat} (hi : i < 29) (hn : p2 = nuP L.length p 0 (szF i false).2 ∧ e2 = nuE L.length p 0 (szF i false).2 ∧ v2 = nuV L p 0 (szF i false).2) (hs : SymR ds L p2 e2 q3 e3 d) {is : Prop} [Decidable is] (his : is ↔ 29 < d) (he : 0 = if decide is = true ∧ e3 = 0 then 3 else e3) :
    d < 30 ∧ p ≤ p2 ∧ p2 ≤ L.length ∧ szE (fun j => L.getD j false) L.length p i false = .ok ((szF i false).1 + v2, p2) ∧ nxF ds (fun j => L.getD j false) L.length p2 = .ok (d, q3) := by
 obtain ⟨rfl, rfl, rfl⟩ := hn
 obtain ⟨h1, h2⟩ := quh (m := 0) (o := 0) hi hs
 by_cases h3 : e3 = 0
 · by_cases hd : is
   · rw [if_pos ⟨by simpa using hd, h3⟩] at he; cases he
   · obtain ⟨h5, hz, hx⟩ := h2 h3
     have hnu : nuP L.length p 0 (szF i false).2 = p + (szF i false).2 := by unfold nuP; rw [if_pos ⟨rfl, h5⟩]
     rw [hnu]
     have : ¬ 29 < d := fun q => hd (his.2 q)
     exact ⟨by omega, by omega, h5, hz, hx⟩
 · rw [if_neg (fun q => h3 q.2)] at he
   exact absurd he.symm h3
theorem wr_of {is is' : Prop} [Decidable is] [Decidable is'] {e5 e6 er : Nat} (h : is' ↔ is) (he : e6 = if decide is' = true ∧ e5 = 0 then er else e5) : e6 = wrE is e5 er := by
 rw [he]; unfold wrE
 by_cases hi : is
 · have hi' := h.2 hi
   simp [hi, hi']
 · have hi' : ¬ is' := fun q => hi (h.1 q)
   simp [hi, hi']
end Go.Proofs.YthkppipdflmekaaGreat
