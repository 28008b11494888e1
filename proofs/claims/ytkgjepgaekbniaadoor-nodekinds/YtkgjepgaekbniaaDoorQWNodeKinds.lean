/- The walk of NodeKinds. (Written by wip/wnk.py.) -/
import Derived.Test.YtkgjepgaekbniaaDoorQNodAs
import Derived.Test.YtkgjepgaekbniaaDoorQAwk12
import Derived.Test.YtkgjepgaekbniaaDoorQMthP
import Derived.Deep.QuietTactic
import Derived.Deep.Cut
import Derived.BigQuiet
import Derived.Deep.RegionHeld3
namespace Go.Proofs.YtkgjepgaekbniaaDoor
open Go.RowKit
set_option linter.unusedVariables false
set_option linter.unusedSimpArgs false

theorem take_opN {ops : Array Oper} {Q : Exit → Act → World → Prop} {md : Region.Mode} {S : World → Prop} {l : Array Bool} {i : Nat} {oi : Oper} {fuel : Nat} {a : Act} {w : World} (hi : ops[i]? = some oi) (hs : Region.noSelect ops = true) (hf : Region.free md ops l i = true) (hr : (Region.ready md ops l).contains i = true)
    (hQ : ∀ c v a w, Q (.panic c) (a.put oi.dst v) w → Q (.panic c) a w) (d : Tmp) (hd : oi.dst = some d) (v : Value) (hy : YieldsIf Tryd.prog ops S oi v a) (hw : S w) (h : wpAnyH Tryd.prog md ops Q S fuel (l.setIfInBounds i true) (a.put (some d) v) w) : wpAnyH Tryd.prog md ops Q S (fuel + 1) l a w :=
  wpAnyH_take (v := v) hi hs hf hr (fun c a w h => hQ c _ a w h) hy hw (by rw [hd]; exact h)
theorem armN {P : Program} {ops : Array Oper} {Q : Exit → Act → World → Prop} {o : Oper} {a : Act} {w : World} {K : Act → World → Prop} {E : Prop} (hgd : o.guard = none) (h : Oper.wp P o a w K Q) :
    if Region.wanted o (yielded ops a.tmps) = true then Oper.wp P o a w K Q else E := by
  have hw : Region.wanted o (yielded ops a.tmps) = true := by simp [Region.wanted, hgd]
  rw [if_pos hw]
  exact h
/-- The slice's row doesn't lie in this block. -/
def Ap (u : Value) (b : Nat) : Prop := ∀ x n c, u = .slice (some x) n c → x.block ≠ b
theorem OT.ap {W : World} {B : Nat} {u : Value} {l : List (List UInt8)} (h : OT W B u l) {b : Nat} (hb : b < B ∨ W.heap.size ≤ b) : Ap u b := by
  intro x n c e
  subst e
  rcases h.2 with ⟨e, _⟩ | ⟨g, cap, cur, e, h2, h3, _⟩
  · cases e
  · injection e with e1; cases e1
    have := (Array.getElem?_eq_some_iff.1 h3).1
    show g ≠ b
    omega
theorem TR.ap {w w' : World} {u : Value} {l : List (List UInt8)} {g : Nat} (h : TR w u l) (hg : w.grownBy w' (some g)) (ha : Ap u g) : TR w' u l := by
  obtain ⟨a, c, rfl, hle, hc⟩ := h
  refine ⟨a, c, rfl, hle, fun i hi => ?_⟩
  obtain ⟨x, rfl, hxc⟩ := hc i hi
  refine ⟨x, rfl, ?_⟩
  have hne := ha x _ _ rfl
  have hb : (x.add i).block = x.block := by cases x; unfold Addr.add; split <;> rfl
  have hlt := World.block_lt_of_cell? _ _ hxc
  rw [← hxc]
  unfold World.cell?
  rw [hg.block _ hlt (fun e => hne (by rw [← hb]; exact Option.some.inj e))]
abbrev P5 := List UInt8 × Int × Int × Int × List (List UInt8)
def pC (p : P5) (u : Value) : Array Value := #[.string (mkB p.1), .int .i64 p.2.1, .int .i64 p.2.2.1, .int .i64 p.2.2.2.1, u]
/-- The record, its node, two files. -/
structure KS (w W : World) (r : Rc) (u v : Value) (n : Nd) (b4 b7 : Nat) (p : P5) (u4 u7 : Value) : Prop where
  hN : W.heap[w.heap.size]? = some (.cells (r.cells u).toArray 24 (0, 0))
  h4 : W.heap[b4]? = some (.cells (pC p u4) 29 (0, 0))
  h7 : W.heap[b7]? = some (.cells (pC p u7) 29 (0, 0))
  t4 : TR W u4 p.2.2.2.2
  t7 : TR W u7 p.2.2.2.2
  nv : NV W v n
  bl : Below w.heap.size w W
theorem hk {W W' : World} {b : Nat} {o : Obj} (h : W.heap[b]? = some o) (hb : Below W.heap.size W W') : W'.heap[b]? = some o := (hb.block _ (Array.getElem?_eq_some_iff.1 h).1).trans h
theorem KS.below {w W W' : World} {r : Rc} {u v : Value} {n : Nd} {b4 b7 : Nat} {p : P5} {u4 u7 : Value} (h : KS w W r u v n b4 b7 p u4 u7) (hb : Below W.heap.size W W') : KS w W' r u v n b4 b7 p u4 u7 :=
  ⟨hk h.hN hb, hk h.h4 hb, hk h.h7 hb, h.t4.below hb, h.t7.below hb, h.nv.below hb, belN h.bl hb⟩
theorem KS.both {w W : World} {r : Rc} {u v : Value} {n : Nd} {b4 b7 : Nat} {p : P5} {u4 u7 : Value} (h : KS w W r u v n b4 b7 p u4 u7) : W.cell? ⟨w.heap.size, 1, none⟩ = some (.string (mkB r.at')) ∧ KS w W r u v n b4 b7 p u4 u7 :=
  ⟨(cell_of_row _ _ _ _ _ _ h.hN).trans rfl, h⟩
theorem isP_facts (r : Rc) : (isP (ndOf r) = true ↔ r.kind = 2) ∧ (isP (ndOf r) = false → plR (ndOf r) = ([], 0, 0, 0, [])) ∧ (isP (ndOf r) = true → ndOf r = .pla (plR (ndOf r)).1 (plR (ndOf r)).2.1 (plR (ndOf r)).2.2.1 (plR (ndOf r)).2.2.2.1 (plR (ndOf r)).2.2.2.2) ∧ (kindN (ndOf r) = if r.kind < 1 ∨ 3 < r.kind then 0 else r.kind) ∧ ((plR (ndOf r)).2.2.2.2.length ≤ r.ch.length) := by
  unfold ndOf
  split
  · rename_i h; rw [h]; exact ⟨⟨(fun e => by cases e), (fun e => by omega)⟩, fun _ => rfl, (fun e => by cases e), rfl, by simp [plR]⟩
  · split
    · rename_i h; rw [h]; exact ⟨⟨fun _ => rfl, fun _ => rfl⟩, (fun e => by cases e), fun _ => rfl, rfl, by simp [plR]⟩
    · split
      · rename_i h; rw [h]; exact ⟨⟨(fun e => by cases e), (fun e => by omega)⟩, fun _ => rfl, (fun e => by cases e), rfl, by simp [plR]⟩
      · split
        · rename_i h; rw [h]; exact ⟨⟨(fun e => by cases e), (fun e => by omega)⟩, fun _ => rfl, (fun e => by cases e), rfl, by simp [plR]⟩
        · rename_i h1 h2 h3 h4
          refine ⟨⟨(fun e => by cases e), fun e => absurd e h2⟩, fun _ => rfl, (fun e => by cases e), ?_, by simp [plR]⟩
          show (0 : Int) = _
          split
          · rfl
          · omega
theorem KS.put7 {w W W' : World} {r : Rc} {u v : Value} {n : Nd} {b4 b7 : Nat} {p : P5} {u4 u7 u7' : Value} (h : KS w W r u v n b4 b7 p u4 u7) (hg : W.grownBy W' (some b7)) (h7 : W'.heap[b7]? = some (.cells (pC p u7') 29 (0, 0))) (hne : b4 ≠ b7) (hlt : w.heap.size < b7) (ht : TR W u7' p.2.2.2.2) (a4 : Ap u4 b7) (a7 : Ap u7' b7) (hv : NV W' v n) : KS w W' r u v n b4 b7 p u4 u7' :=
  ⟨(hg.block _ (Array.getElem?_eq_some_iff.1 h.hN).1 (fun e => by have := Option.some.inj e; omega)).trans h.hN, (hg.block _ (Array.getElem?_eq_some_iff.1 h.h4).1 (fun e => hne (Option.some.inj e))).trans h.h4, h7, h.t4.ap hg a4, ht.ap hg a7, hv, bel_set h.bl hg (by omega)⟩
def zr7 : Array Value := #[.int .i64 0, .string ⟨#[]⟩, .int .i64 0, .int .i64 0, .int .i64 0, .slice none 0 0, .string ⟨#[]⟩]
/-- Behind some of the region's steps. -/
structure QS (V0 W : World) (pc : List (List UInt8)) (A10 A11 : Option Nat) (C10 C11 : Option Value) : Prop where
  bel : Below V0.heap.size V0 W
  a10 : ∀ b, A10 = some b → W.heap[b]? = some (.cells zr7 24 (0, 0)) ∧ V0.heap.size ≤ b
  a11 : ∀ b, A11 = some b → W.heap[b]? = some (.cells zr7 24 (0, 0)) ∧ V0.heap.size ≤ b
  ne : ∀ b b', A10 = some b → A11 = some b' → b ≠ b'
  c10 : ∀ u, C10 = some u → OT W V0.heap.size u pc
  c11 : ∀ u, C11 = some u → OT W V0.heap.size u pc
  x : ∀ b u, (A10 = some b ∨ A11 = some b) → (C10 = some u ∨ C11 = some u) → Ap u b
theorem QS.start (V0 : World) (pc : List (List UInt8)) : QS V0 V0.drew pc none none none none :=
  ⟨(Below.refl _ _).drew, fun b h => (by cases h), fun b h => (by cases h), fun b b' h => (by cases h), fun u h => (by cases h), fun u h => (by cases h), fun b u h => by rcases h with h | h <;> cases h⟩
theorem QS.al10 {V0 W : World} {pc : List (List UInt8)} {A11 : Option Nat} {C10 C11 : Option Value} (h : QS V0 W pc none A11 C10 C11) : QS V0 (W.alloc (.cells zr7 24)) pc (some W.heap.size) A11 C10 C11 := by
  have hb : Below W.heap.size W (W.alloc (.cells zr7 24)) := (Below.refl _ _).alloc (Nat.le_refl _) _
  refine ⟨belN h.bel hb, fun b e => ?_, fun b e => ⟨hk (h.a11 b e).1 hb, (h.a11 b e).2⟩, fun b b' e e' => ?_, fun u e => (h.c10 u e).below hb, fun u e => (h.c11 u e).below hb, fun b u e1 e2 => ?_⟩
  · injection e with e; subst e; exact ⟨heap_alloc_new _ _, h.bel.size⟩
  · injection e with e; subst e; have := (Array.getElem?_eq_some_iff.1 (h.a11 b' e').1).1; omega
  · rcases e1 with e1 | e1
    · injection e1 with e1; subst e1
      rcases e2 with e2 | e2
      · exact (h.c10 u e2).ap (.inr (Nat.le_refl _))
      · exact (h.c11 u e2).ap (.inr (Nat.le_refl _))
    · exact h.x b u (.inr e1) e2
theorem QS.swap {V0 W : World} {pc : List (List UInt8)} {A10 A11 : Option Nat} {C10 C11 : Option Value} (h : QS V0 W pc A10 A11 C10 C11) : QS V0 W pc A11 A10 C11 C10 :=
  ⟨h.bel, h.a11, h.a10, fun b b' e e' e2 => h.ne b' b e' e e2.symm, h.c11, h.c10, fun b u e1 e2 => h.x b u e1.symm e2.symm⟩
theorem QS.al11 {V0 W : World} {pc : List (List UInt8)} {A10 : Option Nat} {C10 C11 : Option Value} (h : QS V0 W pc A10 none C10 C11) : QS V0 (W.alloc (.cells zr7 24)) pc A10 (some W.heap.size) C10 C11 := h.swap.al10.swap
theorem OT.base {W : World} {B B' : Nat} {u : Value} {l : List (List UInt8)} (h : OT W B u l) (hB : B' ≤ B) : OT W B' u l := by
  refine ⟨h.1, ?_⟩
  rcases h.2 with h2 | ⟨g, c, cur, h1, h2, h3⟩
  · exact .inl h2
  · exact .inr ⟨g, c, cur, h1, Nat.le_trans hB h2, h3⟩
theorem QS.ca10 {V0 W W' : World} {pc : List (List UInt8)} {A10 A11 : Option Nat} {C11 : Option Value} {u : Value} (h : QS V0 W pc A10 A11 none C11) (ho : OT W' W.heap.size u pc) (hb : Below W.heap.size W W') : QS V0 W' pc A10 A11 (some u) C11 := by
  refine ⟨belN h.bel hb, fun b e => ⟨hk (h.a10 b e).1 hb, (h.a10 b e).2⟩, fun b e => ⟨hk (h.a11 b e).1 hb, (h.a11 b e).2⟩, h.ne, fun v e => ?_, fun v e => (h.c11 v e).below hb, fun b v e1 e2 => ?_⟩
  · injection e with e; subst e; exact ho.base h.bel.size
  · have hlt : b < W.heap.size := by
      rcases e1 with e1 | e1
      · exact (Array.getElem?_eq_some_iff.1 (h.a10 b e1).1).1
      · exact (Array.getElem?_eq_some_iff.1 (h.a11 b e1).1).1
    rcases e2 with e2 | e2
    · injection e2 with e2; subst e2; exact ho.ap (.inl hlt)
    · exact h.x b v e1 (.inr e2)
theorem QS.ca11 {V0 W W' : World} {pc : List (List UInt8)} {A10 A11 : Option Nat} {C10 : Option Value} {u : Value} (h : QS V0 W pc A10 A11 C10 none) (ho : OT W' W.heap.size u pc) (hb : Below W.heap.size W W') : QS V0 W' pc A10 A11 C10 (some u) := (h.swap.ca10 ho hb).swap
/-- Two records written. -/
structure RS (V0 W : World) (pc : List (List UInt8)) (b10 b11 : Nat) (d10 d11 : Array Value) (u10 u11 : Value) : Prop where
  bel : Below V0.heap.size V0 W
  h10 : W.heap[b10]? = some (.cells d10 24 (0, 0))
  h11 : W.heap[b11]? = some (.cells d11 24 (0, 0))
  lo10 : V0.heap.size ≤ b10
  lo11 : V0.heap.size ≤ b11
  ne : b10 ≠ b11
  t10 : TR W u10 pc
  t11 : TR W u11 pc
  x1 : Ap u10 b10 ∧ Ap u10 b11
  x2 : Ap u11 b10 ∧ Ap u11 b11
theorem QS.rs {V0 W : World} {pc : List (List UInt8)} {b10 b11 : Nat} {u10 u11 : Value} (h : QS V0 W pc (some b10) (some b11) (some u10) (some u11)) : RS V0 W pc b10 b11 zr7 zr7 u10 u11 :=
  ⟨h.bel, (h.a10 _ rfl).1, (h.a11 _ rfl).1, (h.a10 _ rfl).2, (h.a11 _ rfl).2, h.ne _ _ rfl rfl, (h.c10 _ rfl).tr, (h.c11 _ rfl).tr, ⟨h.x _ _ (.inl rfl) (.inl rfl), h.x _ _ (.inr rfl) (.inl rfl)⟩, ⟨h.x _ _ (.inl rfl) (.inr rfl), h.x _ _ (.inr rfl) (.inr rfl)⟩⟩
theorem RS.swap {V0 W : World} {pc : List (List UInt8)} {b10 b11 : Nat} {d10 d11 : Array Value} {u10 u11 : Value} (h : RS V0 W pc b10 b11 d10 d11 u10 u11) : RS V0 W pc b11 b10 d11 d10 u11 u10 :=
  ⟨h.bel, h.h11, h.h10, h.lo11, h.lo10, fun e => h.ne e.symm, h.t11, h.t10, h.x2.symm, h.x1.symm⟩
theorem RS.set {V0 W W' : World} {pc : List (List UInt8)} {b10 b11 : Nat} {d10 d11 d' : Array Value} {u10 u11 : Value} (h : RS V0 W pc b10 b11 d10 d11 u10 u11) (hg : W.grownBy W' (some b10)) (h' : W'.heap[b10]? = some (.cells d' 24 (0, 0))) : RS V0 W' pc b10 b11 d' d11 u10 u11 :=
  ⟨bel_set h.bel hg h.lo10, h', (hg.block _ (Array.getElem?_eq_some_iff.1 h.h11).1 (fun e => h.ne (Option.some.inj e).symm)).trans h.h11, h.lo10, h.lo11, h.ne, h.t10.ap hg h.x1.1, h.t11.ap hg h.x2.1, h.x1, h.x2⟩
theorem RS.below {V0 W W' : World} {pc : List (List UInt8)} {b10 b11 : Nat} {d10 d11 : Array Value} {u10 u11 : Value} (h : RS V0 W pc b10 b11 d10 d11 u10 u11) (hb : Below W.heap.size W W') : RS V0 W' pc b10 b11 d10 d11 u10 u11 :=
  ⟨belN h.bel hb, hk h.h10 hb, hk h.h11 hb, h.lo10, h.lo11, h.ne, h.t10.below hb, h.t11.below hb, h.x1, h.x2⟩
def rc7 (k : Int) (p : P5) (u : Value) : Array Value := #[.int .i64 k, .string (mkB p.1), .int .i64 p.2.1, .int .i64 p.2.2.1, .int .i64 p.2.2.2.1, u, .string (mkB [])]
/-- All seven written. -/
def pt7 (W : World) (b : Nat) (k : Int) (p : P5) (u : Value) : World := ((((((W.setCell ⟨b, 0, none⟩ (.int .i64 k)).setCell ⟨b, 1, none⟩ (.string (mkB p.1))).setCell ⟨b, 2, none⟩ (.int .i64 p.2.1)).setCell ⟨b, 3, none⟩ (.int .i64 p.2.2.1)).setCell ⟨b, 4, none⟩ (.int .i64 p.2.2.2.1)).setCell ⟨b, 5, none⟩ u).setCell ⟨b, 6, none⟩ (.string (mkB []))
theorem pt7_facts {W : World} {b : Nat} (h : W.heap[b]? = some (.cells zr7 24 (0, 0))) (k : Int) (p : P5) (u : Value) : W.grownBy (pt7 W b k p u) (some b) ∧ (pt7 W b k p u).heap[b]? = some (.cells (rc7 k p u) 24 (0, 0)) := by
  refine ⟨gset (gset (gset (gset (gset (gset (gset (grefl W _) 0 _) 1 _) 2 _) 3 _) 4 _) 5 _) 6 _, ?_⟩
  unfold zr7 at h
  unfold pt7 rc7
  rw [heap_setCell_same _ _ _ _ _ _ (heap_setCell_same _ _ _ _ _ _ (heap_setCell_same _ _ _ _ _ _ (heap_setCell_same _ _ _ _ _ _ (heap_setCell_same _ _ _ _ _ _ (heap_setCell_same _ _ _ _ _ _ (heap_setCell_same _ _ _ _ _ _ h))))))]; rfl
theorem rv_one {W : World} {b : Nat} {k : Int} {p : P5} {u : Value} (h : W.heap[b]? = some (.cells (rc7 k p u) 24 (0, 0))) (ht : TR W u p.2.2.2.2) : RV W (.slice (some ⟨b, 0, none⟩) 1 1) [(⟨k, p.1, p.2.1, p.2.2.1, p.2.2.2.1, p.2.2.2.2, []⟩, u)] :=
  .inr ⟨b, 1, rfl, Nat.le_refl _, fun i x hx => by
    have hi : i = 0 := by have := (List.getElem?_eq_some_iff.1 hx).1; simp at this; exact this
    subst hi
    simp at hx; subst hx
    refine ⟨fun j vv hv => ?_, ht⟩
    rw [Nat.zero_mul, Nat.zero_add]
    unfold World.cell?
    simp only [h]
    unfold rc7
    simp only [Rc.cells] at hv
    rw [← hv]
    simp⟩
set_option maxRecDepth 100000 in
set_option maxHeartbeats 8000000 in
theorem nodeKinds_x (r : Rc) (u : Value) (w : World) (hu : TR w u r.ch) (hok : r.ok) (hl : r.ch.length ≤ 8796093022208) (hL : Lay11 w) :
    Calls Tryd.prog 3 #[.agg (r.cells u).toArray] w fun e w' => e = .returned (.bool true) ∧ Below w.heap.size w w' := by
  obtain ⟨F1, F2, F3, F4, F5⟩ := isP_facts r
  obtain ⟨kind, at', mode, time, size, ch, tg⟩ := r
  obtain ⟨ua, uc, rfl⟩ := hu.formS
  simp only [Rc.cells] at *
  obtain ⟨-, -, -, -, -, htg, -, -⟩ := hok
  have HR : Hid (∃ r : Rc, r = ⟨kind, at', mode, time, size, ch, tg⟩) := ⟨_, rfl⟩
  have hal : Below w.heap.size w (w.alloc (.cells #[.int .i64 kind, .string (mkB at'), .int .i64 mode, .int .i64 time, .int .i64 size, .slice ua ch.length uc, .string (mkB tg)] 24)) := (Below.refl _ _).alloc (Nat.le_refl _) _
  have hz := heap_alloc_new w (.cells #[.int .i64 kind, .string (mkB at'), .int .i64 mode, .int .i64 time, .int .i64 size, .slice ua ch.length uc, .string (mkB tg)] 24)
  have HZ : Hid (_ = _) := hz
  have HAL : Hid (Below w.heap.size w _) := hal
  have HOF : Hid (∀ W, Below w.heap.size w W → Calls Tryd.prog 4 #[.agg #[.int .i64 kind, .string (mkB at'), .int .i64 mode, .int .i64 time, .int .i64 size, .slice ua ch.length uc, .string (mkB tg)]] W fun e w' => ∃ v, e = .returned v ∧ NO w' W.heap.size v (ndOf ⟨kind, at', mode, time, size, ch, tg⟩) ∧ Below W.heap.size W w') := fun W hW => of_any ⟨kind, at', mode, time, size, ch, tg⟩ (.slice ua ch.length uc) W (hu.below hW) hl
  have HAW : Hid (∀ W, Below w.heap.size w W → Calls Tryd.prog 7 #[] W fun e w' => e = .returned (.bool true) ∧ Below W.heap.size W w') := fun W hW => awake12_any W (hL.below hW)
  have HTG : Hid (tg.length ≤ 9223372036854775807) := htg
  have HF1 : Hid (isP (ndOf ⟨kind, at', mode, time, size, ch, tg⟩) = true ↔ kind = 2) := F1
  have HF2 : Hid (isP (ndOf ⟨kind, at', mode, time, size, ch, tg⟩) = false → plR (ndOf ⟨kind, at', mode, time, size, ch, tg⟩) = ([], 0, 0, 0, [])) := F2
  have HF3 : Hid (isP (ndOf ⟨kind, at', mode, time, size, ch, tg⟩) = true → ndOf ⟨kind, at', mode, time, size, ch, tg⟩ = .pla (plR (ndOf ⟨kind, at', mode, time, size, ch, tg⟩)).1 (plR (ndOf ⟨kind, at', mode, time, size, ch, tg⟩)).2.1 (plR (ndOf ⟨kind, at', mode, time, size, ch, tg⟩)).2.2.1 (plR (ndOf ⟨kind, at', mode, time, size, ch, tg⟩)).2.2.2.1 (plR (ndOf ⟨kind, at', mode, time, size, ch, tg⟩)).2.2.2.2) := F3
  have HF4 : Hid (kindN (ndOf ⟨kind, at', mode, time, size, ch, tg⟩) = if kind < 1 ∨ 3 < kind then 0 else kind) := F4
  have HF5 : Hid ((plR (ndOf ⟨kind, at', mode, time, size, ch, tg⟩)).2.2.2.2.length ≤ 8796093022208) := Nat.le_trans F5 hl
  have HND : Hid (∃ r : Rc, r.kind = kind ∧ r.at' = at' ∧ ndOf r = ndOf ⟨kind, at', mode, time, size, ch, tg⟩) := ⟨_, rfl, rfl, rfl⟩
  obtain ⟨c0, c1, c2, c3, c4, c5, c6, -⟩ := seven hz
  clear hal hz hu hL F1 F2 F3 F4 F5 htg HR
  generalize ndOf ⟨kind, at', mode, time, size, ch, tg⟩ = n at *
  go_enter Tryd.func3, Tryd.ntmps3
  go_wp2_with fail
  generalize World.alloc w _ = X at *
  refine (HOF.out X HAL.out).mono ?_
  rintro e w1 ⟨v1, rfl, hno, hb1⟩
  have hzx : X.heap[w.heap.size]? = _ := HZ.out
  have HZ1 : Hid (w1.heap[w.heap.size]? = some (.cells #[.int .i64 kind, .string (mkB at'), .int .i64 mode, .int .i64 time, .int .i64 size, .slice ua ch.length uc, .string (mkB tg)] 24 (0, 0))) := hk hzx hb1
  have HB1 : Hid (Below w.heap.size w w1) := belN HAL.out hb1
  have HNV : Hid (NV w1 v1 n) := hno.nv
  have HNK : Hid (∀ b W W', w1.heap.size ≤ b → isP n = true → NV W v1 n → W.grownBy W' (some b) → NV W' v1 n) := by
    intro b W W' hb hp hv hg
    cases n with
    | pla a1 a2 a3 a4 a5 =>
      obtain ⟨y, e1, ho⟩ := hno
      obtain ⟨y', e2, ht⟩ := hv
      rw [e1] at e2
      have e3 : y = y' := by injection e2 with _ e4; injection e4 with e5; simpa using e5
      subst e3
      exact ⟨y, e1, ht.ap hg (ho.ap (.inr hb))⟩
    | _ => cases hp
  have HAS : Hid (Calls Tryd.prog _ _ _ _) := nasPlain_any n v1 w1 hno.nv HF5.out
  have hform := hno.form
  have HVP : Hid (∀ a m t, n = .ptr a m t → ∃ b, v1 = .iface 45 (.pointer (some ⟨b, 0, none⟩))) := by
    intro a m t e
    subst e
    obtain ⟨b, _, h1, _⟩ := hno
    exact ⟨b, h1⟩
  clear hb1 c0 c1 c2 c3 c4 c5 c6 HAL HZ HOF hzx hno
  unfold plV at HAS
  obtain ⟨pp, hp⟩ : ∃ p, p = plR n := ⟨_, rfl⟩
  obtain ⟨pa, pm, pt, ps, pc⟩ := pp
  rw [← hp] at HAS HF2 HF3 HF5
  simp only at HAS HF2 HF3 HF5
  clear hp
  generalize hq : isP n = q at *
  have HVF : Hid ((∃ T y, v1 = .iface T y) ∨ v1 = .nilIface) := hform
  clear hform
  go_wp2_with fail
  refine (Hid.out HAS : Calls _ _ _ _ _).mono ?_
  rintro e w2 ⟨u2, rfl, hO, hb2⟩
  obtain ⟨va, vc, rfl⟩ := OT.formN hO
  have HZ2 : Hid (w2.heap[w.heap.size]? = _) := hk HZ1.out hb2
  have HB2 : Hid (Below w.heap.size w w2) := belN HB1.out hb2
  have HN2 : Hid (NV w2 v1 n) := HNV.out.below hb2
  have HO2 : Hid (OT w2 w1.heap.size (.slice va pc.length vc) pc) := hO
  have hsz2 : w.heap.size < w2.heap.size := (Array.getElem?_eq_some_iff.1 HZ2.out).1
  have hsz12 := hb2.size
  clear hO hb2 HZ1 HB1 HNV HAS
  go_upto_region 3 with fail
  obtain ⟨Y, hY⟩ : ∃ Y, Y = (w2.alloc (.cells #[.string (mkB pa), .int .i64 pm, .int .i64 pt, .int .i64 ps, .slice va pc.length vc] 29)).alloc (.cells #[.string (mkB pa), .int .i64 pm, .int .i64 pt, .int .i64 ps, .slice va pc.length vc] 29) := ⟨_, rfl⟩
  have hzz := HZ2.out
  have hy0 : (w2.alloc (.cells #[.string (mkB pa), .int .i64 pm, .int .i64 pt, .int .i64 ps, .slice va pc.length vc] 29)).heap[w.heap.size]? = _ := (Lib.alloc_old w2 _ _ hsz2).trans hzz
  have hy1 := heap_alloc_new w2 (.cells #[.string (mkB pa), .int .i64 pm, .int .i64 pt, .int .i64 ps, .slice va pc.length vc] 29)
  obtain ⟨c0, c1, c2, c3, c4, c5, c6, -⟩ := seven hy0
  obtain ⟨d0, d1, d2, d3, d4, -⟩ := fiveP hy1
  have hb4 : Below w2.heap.size w2 Y := by rw [hY]; exact ((Below.refl _ _).alloc (Nat.le_refl _) _).alloc (by simp) _
  have HKS : Hid (KS w Y ⟨kind, at', mode, time, size, ch, tg⟩ (.slice ua ch.length uc) v1 n w2.heap.size (w2.heap.size + 1) (pa, pm, pt, ps, pc) (.slice va pc.length vc) (.slice va pc.length vc)) := by
    refine ⟨hk HZ2.out hb4, ?_, ?_, HO2.out.tr.below hb4, HO2.out.tr.below hb4, HN2.out.below hb4, belN HB2.out hb4⟩
    · rw [hY]; exact first_heap w2 _ _
    · rw [hY]
      have := heap_alloc_new (w2.alloc (.cells #[.string (mkB pa), .int .i64 pm, .int .i64 pt, .int .i64 ps, .slice va pc.length vc] 29)) (.cells #[.string (mkB pa), .int .i64 pm, .int .i64 pt, .int .i64 ps, .slice va pc.length vc] 29)
      rw [World.size_alloc] at this; exact this
  have HAP : Hid (Ap (.slice va pc.length vc) (w2.heap.size + 1)) := HO2.out.ap (.inr (by omega))
  have HW12 : Hid (w1.heap.size ≤ w2.heap.size) := hsz12
  have HYZ : Hid (Y.heap.size = w2.heap.size + 2) := by unfold Hid; rw [hY]; simp
  have HWY : Hid ((w2.alloc (.cells #[.string (mkB pa), .int .i64 pm, .int .i64 pt, .int .i64 ps, .slice va pc.length vc] 29)).alloc (.cells #[.string (mkB pa), .int .i64 pm, .int .i64 pt, .int .i64 ps, .slice va pc.length vc] 29) = Y) := hY.symm
  clear hy0 hy1 hzz hb4 hY HZ2 HB2 HN2 HO2
  have hkq : (kind == 2) = q := by
    cases q with
    | true => rw [HF1.out.1 rfl]; rfl
    | false => rw [beq_eq_false_iff_ne]; intro e; exact absurd (HF1.out.2 e) (by simp)
  go_upto_region 5 with fail
  rw [HWY.out]
  clear c0 c1 c2 c3 c4 c5 c6 d0 d1 d2 d3 d4
  go_upto_if 23 with fail
  go_cut [] (fun wx => ∃ (a7 : Option Addr) (c7 : Nat), KS w wx ⟨kind, at', mode, time, size, ch, tg⟩ (.slice ua ch.length uc) v1 n w2.heap.size (w2.heap.size + 1) (pa, pm, pt, ps, pc) (.slice va pc.length vc) (.slice a7 pc.length c7))
  case first =>
    cases q with
    | false =>
      go_wp2
      go_meet
      case rel => exact ⟨va, vc, HKS.out⟩
    | true =>
      have hn := HF3.out rfl
      have HMU : Hid (Calls Tryd.prog 6 #[v1] Y fun e w' => ∃ u, e = .returned (plV pa pm pt ps u) ∧ OT w' Y.heap.size u pc ∧ Below Y.heap.size Y w') := nmust_any pa pm pt ps pc v1 Y (by rw [← hn]; exact HKS.out.nv) HF5.out
      clear hn
      unfold plV at HMU
      go_wp2_with fail
      refine HMU.out.mono ?_
      rintro e W7 ⟨u7, rfl, hO7, hb7⟩
      obtain ⟨a7, c7, rfl⟩ := OT.formN hO7
      have HK7 : Hid (KS w W7 ⟨kind, at', mode, time, size, ch, tg⟩ (.slice ua ch.length uc) v1 n w2.heap.size (w2.heap.size + 1) (pa, pm, pt, ps, pc) (.slice va pc.length vc) (.slice va pc.length vc)) := HKS.out.below hb7
      have HO7 : Hid (OT W7 Y.heap.size (.slice a7 pc.length c7) pc) := hO7
      obtain ⟨d0, d1, d2, d3, d4, e0, e1, e2, e3, e4⟩ := fiveP HK7.out.h7
      have hset := set5P (.string (mkB pa)) (.int .i64 pm) (.int .i64 pt) (.int .i64 ps) (.slice a7 pc.length c7) HK7.out.h7
      have HSET : Hid (_ ∧ _) := hset
      clear hO7 hb7 HMU hset
      go_wp2
      go_meet
      case rel =>
        obtain ⟨h1, h2⟩ := HSET.out
        exact ⟨a7, c7, HK7.out.put7 h2 h1 (by omega) (by omega) HO7.out.tr HAP.out (HO7.out.ap (.inl (by have := HYZ.out; omega))) (HNK.out _ _ _ (by have := HW12.out; omega) trivial HK7.out.nv h2)⟩
  case rest =>
    obtain ⟨a7, c7, hks⟩ := hcut
    have HK : Hid (KS w wc ⟨kind, at', mode, time, size, ch, tg⟩ (.slice ua ch.length uc) v1 n w2.heap.size (w2.heap.size + 1) (pa, pm, pt, ps, pc) (.slice va pc.length vc) (.slice a7 pc.length c7)) := hks
    clear hks HKS HWY
    have hzc := HK.out.hN
    obtain ⟨c0, c1, c2, c3, c4, c5, c6, -⟩ := seven hzc
    clear hzc
    go_upto_region 8 with fail
    clear c0 c1 c2 c3 c4 c5 c6
    go_cut [33] (fun t wx => t = .bool (decide (kind < 1 ∨ 3 < kind)) ∧ wx = wc)
    case first =>
      by_cases h1 : kind < 1
      · have hd : decide (kind < 1 ∨ 3 < kind) = true := decide_eq_true (.inl h1)
        have HD : Hid (decide (kind < 1 ∨ 3 < kind) = true) := hd
        clear hd
        go_wp2
        go_meet
        case rel => exact ⟨by rw [HD.out], rfl⟩
      · by_cases h3 : 3 < kind
        · have HD : Hid (decide (kind < 1 ∨ 3 < kind) = true) := decide_eq_true (.inr h3)
          go_wp2
          go_meet
          case rel => exact ⟨by rw [HD.out], rfl⟩
        · have HD : Hid (decide (kind < 1 ∨ 3 < kind) = false) := decide_eq_false (by omega)
          go_wp2
          go_meet
          case rel => exact ⟨by rw [HD.out], rfl⟩
    case rest =>
      obtain ⟨rfl, e1⟩ := hcut
      have e2 := e1.symm
      subst e2
      clear e1
      generalize hdd : decide (kind < 1 ∨ 3 < kind) = dd at *
      go_upto_if 33 with fail
      go_cut [8] (fun v wx => v = .int .i64 (kindN n) ∧ wx = wc)
      case first =>
        cases dd with
        | true =>
          have HKN : Hid (kindN n = 0) := by unfold Hid; rw [HF4.out, if_pos (of_decide_eq_true hdd)]
          go_wp2
          go_meet
          case rel => exact ⟨by rw [HKN.out], rfl⟩
        | false =>
          have HKN : Hid (kindN n = kind) := by unfold Hid; rw [HF4.out, if_neg (of_decide_eq_false hdd)]
          go_wp2
          go_meet
          case rel => exact ⟨by rw [HKN.out], rfl⟩
      case rest =>
        obtain ⟨rfl, e1⟩ := hcut
        have e2 := e1.symm
        subst e2
        clear e1
        obtain ⟨kn, hkn⟩ : ∃ kn, kn = kindN n := ⟨_, rfl⟩
        have hKN : kindN n = kn := hkn.symm
        rw [← hkn]
        clear hkn hdd
        go_upto_region 10 with fail
        go_cut [57] (fun t wx => t = .bool false ∧ KS w wx ⟨kind, at', mode, time, size, ch, tg⟩ (.slice ua ch.length uc) v1 n w2.heap.size (w2.heap.size + 1) (pa, pm, pt, ps, pc) (.slice va pc.length vc) (.slice a7 pc.length c7))
        case first =>
          have hkk : (kn != kn) = false := by simp
          have kst : ((mkB at').toList == (mkB at').toList) = true := by simp
          have jst : ((mkB at').toList != (mkB at').toList) = false := by rw [bne, kst]; rfl
          have hqq : (q != q) = false := by simp
          have hnv := HK.out.nv
          obtain ⟨P, hP⟩ : ∃ P : World → Prop, P = fun W => KS w W ⟨kind, at', mode, time, size, ch, tg⟩ (.slice ua ch.length uc) v1 n w2.heap.size (w2.heap.size + 1) (pa, pm, pt, ps, pc) (.slice va pc.length vc) (.slice a7 pc.length c7) := ⟨_, rfl⟩
          have HKD : Hid (P wc.drew) := by unfold Hid; rw [hP]; exact HK.out.below (Below.refl _ _).drew
          have HAWS : Hid (∀ W, P W → Calls Tryd.prog 7 #[] W fun e w' => e = .returned (.bool true) ∧ Below W.heap.size W w') := fun W hW => HAW.out W (by rw [hP] at hW; exact hW.bl)
          have HKI : Hid (∀ W, P W → Calls Tryd.prog 8 #[v1] W fun e w' => e = .returned (.int .i64 kn) ∧ w' = W) := fun W hW => by
            rw [hP] at hW
            have := nkind_any n v1 W hW.nv
            rw [hKN] at this
            exact this
          have HPB : Hid (∀ W W', P W → Below W.heap.size W W' → W'.cell? ⟨w.heap.size, 1, none⟩ = some (.string (mkB at')) ∧ P W') := fun W W' h hb => by rw [hP] at h ⊢; exact (h.below hb).both
          have HPC : Hid (∀ W, P W → W.cell? ⟨w.heap.size, 1, none⟩ = some (.string (mkB at'))) := fun W h => (HPB.out W W h (Below.refl _ _)).1
          have HPF : Hid (∀ W, P W → KS w W ⟨kind, at', mode, time, size, ch, tg⟩ (.slice ua ch.length uc) v1 n w2.heap.size (w2.heap.size + 1) (pa, pm, pt, ps, pc) (.slice va pc.length vc) (.slice a7 pc.length c7)) := fun W h => by rw [hP] at h; exact h
          have hS0 : wc.drew.cell? ⟨w.heap.size, 1, none⟩ = some (.string (mkB at')) ∧ P wc.drew := HPB.out _ _ HKD.out (Below.refl _ _)
          clear hP HKD
          obtain ⟨r0, hr1, hr2, hr3⟩ := HND.out
          cases n with
          | fol a1 a2 a3 =>
            have hq' : false = q := hq
            subst hq'
            have hk' : (1 : Int) = kn := hKN
            subst hk'
            have ha : at' = a1 := by
              rw [← hr2]; revert hr3; unfold ndOf; intro hr3
              split at hr3
              · injection hr3 with h1
              · split at hr3
                · cases hr3
                · split at hr3
                  · cases hr3
                  · split at hr3 <;> cases hr3
            subst ha
            have hv : v1 = _ := hnv
            subst hv
            clear hnv hr1 hr2 hr3 r0
            go_upto_region 10 with fail
            refine wp_region_held_drew (S := P) (by kernel_rfl) hS0.2 (fun hHeld => ?_)
            change wpAnyH _ _ _ _ _ 24 (Array.replicate 24 false) _ _
            refine wpAnyH_ready (rs := [0]) (by kernel_rfl) (by simp) ?_
            refine AllReadyH.cons rfl (fun K hK => ?_) AllReadyH.nil
            go_simp
            go_at_call 7
            refine (HAWS.out _ hHeld).mono ?_
            rintro e w5 ⟨rfl, hb5⟩
            have hP5 : P w5 := (HPB.out _ _ hHeld hb5).2
            clear hb5
            go_wp2_with fail
            refine hK.out _ _ hP5 (fun hHeld2 => ?_)
            clear hK K hHeld2 hHeld
            have hHeld := hP5
            refine take_opN (i := 1) rfl (by kernel_rfl) (by kernel_rfl) (by kernel_rfl) (fun _ _ _ _ h => h) 35 rfl (.bool false) (Or.inl ⟨by rfl, by intro w hSw; go_simp⟩) hHeld ?_
            simp only [Act.put, List.setIfInBounds_toArray, List.set_cons_zero, List.set_cons_succ]
            refine take_opN (i := 2) rfl (by kernel_rfl) (by kernel_rfl) (by kernel_rfl) (fun _ _ _ _ h => h) 36 rfl (.bool false) (Or.inl ⟨by rfl, by intro w hSw; go_simp⟩) hHeld ?_
            simp only [Act.put, List.setIfInBounds_toArray, List.set_cons_zero, List.set_cons_succ]
            refine take_opN (i := 3) rfl (by kernel_rfl) (by kernel_rfl) (by kernel_rfl) (fun _ _ _ _ h => h) 37 rfl (.iface 42 (.agg #[.string (mkB at'), .int .i64 a2, .int .i64 a3])) (Or.inl ⟨by rfl, by intro w hSw; go_simp⟩) hHeld ?_
            simp only [Act.put, List.setIfInBounds_toArray, List.set_cons_zero, List.set_cons_succ]
            refine take_opN (i := 5) rfl (by kernel_rfl) (by kernel_rfl) (by kernel_rfl) (fun _ _ _ _ h => h) 39 rfl (.int .i64 1) (Or.inl ⟨by rfl, by intro w hSw; go_simp⟩) hHeld ?_
            simp only [Act.put, List.setIfInBounds_toArray, List.set_cons_zero, List.set_cons_succ]
            refine wpAnyH_ready (rs := [4]) (by kernel_rfl) (by simp) ?_
            refine AllReadyH.cons rfl (fun K hK => ?_) AllReadyH.nil
            go_simp
            go_at_call 8
            refine (HKI.out _ hHeld).mono ?_
            rintro e w6 ⟨rfl, e6⟩
            have e7 := e6.symm
            subst e7
            go_wp2_with fail
            refine hK.out _ _ hP5 (fun hHeld2 => ?_)
            clear hK K hHeld2 e6
            refine take_opN (i := 6) rfl (by kernel_rfl) (by kernel_rfl) (by kernel_rfl) (fun _ _ _ _ h => h) 40 rfl (.bool false) (Or.inl ⟨by rfl, by intro w hSw; go_simp⟩) hHeld ?_
            simp only [Act.put, List.setIfInBounds_toArray, List.set_cons_zero, List.set_cons_succ]
            refine take_opN (i := 7) rfl (by kernel_rfl) (by kernel_rfl) (by kernel_rfl) (fun _ _ _ _ h => h) 41 rfl (.bool false) (Or.inl ⟨by rfl, by intro w hSw; go_simp⟩) hHeld ?_
            simp only [Act.put, List.setIfInBounds_toArray, List.set_cons_zero, List.set_cons_succ]
            refine take_opN (i := 8) rfl (by kernel_rfl) (by kernel_rfl) (by kernel_rfl) (fun _ _ _ _ h => h) 42 rfl (.bool false) (Or.inl ⟨by rfl, by intro w hSw; go_simp⟩) hHeld ?_
            simp only [Act.put, List.setIfInBounds_toArray, List.set_cons_zero, List.set_cons_succ]
            refine take_opN (i := 9) rfl (by kernel_rfl) (by kernel_rfl) (by kernel_rfl) (fun _ _ _ _ h => h) 43 rfl (.bool false) (Or.inl ⟨by rfl, by intro w hSw; go_simp⟩) hHeld ?_
            simp only [Act.put, List.setIfInBounds_toArray, List.set_cons_zero, List.set_cons_succ]
            refine take_opN (i := 10) rfl (by kernel_rfl) (by kernel_rfl) (by kernel_rfl) (fun _ _ _ _ h => h) 44 rfl (.bool false) (Or.inl ⟨by rfl, by intro w hSw; go_simp⟩) hHeld ?_
            simp only [Act.put, List.setIfInBounds_toArray, List.set_cons_zero, List.set_cons_succ]
            refine take_opN (i := 11) rfl (by kernel_rfl) (by kernel_rfl) (by kernel_rfl) (fun _ _ _ _ h => h) 45 rfl (.bool false) (Or.inl ⟨by rfl, by intro w hSw; go_simp⟩) hHeld ?_
            simp only [Act.put, List.setIfInBounds_toArray, List.set_cons_zero, List.set_cons_succ]
            refine take_opN (i := 12) rfl (by kernel_rfl) (by kernel_rfl) (by kernel_rfl) (fun _ _ _ _ h => h) 46 rfl (.bool false) (Or.inl ⟨by rfl, by intro w hSw; go_simp⟩) hHeld ?_
            simp only [Act.put, List.setIfInBounds_toArray, List.set_cons_zero, List.set_cons_succ]
            refine take_opN (i := 13) rfl (by kernel_rfl) (by kernel_rfl) (by kernel_rfl) (fun _ _ _ _ h => h) 47 rfl (.bool false) (Or.inl ⟨by rfl, by intro w hSw; go_simp⟩) hHeld ?_
            simp only [Act.put, List.setIfInBounds_toArray, List.set_cons_zero, List.set_cons_succ]
            refine take_opN (i := 14) rfl (by kernel_rfl) (by kernel_rfl) (by kernel_rfl) (fun _ _ _ _ h => h) 48 rfl (.iface 42 (.agg #[.string (mkB at'), .int .i64 a2, .int .i64 a3])) (Or.inl ⟨by rfl, by intro w hSw; go_simp⟩) hHeld ?_
            simp only [Act.put, List.setIfInBounds_toArray, List.set_cons_zero, List.set_cons_succ]
            refine take_opN (i := 15) rfl (by kernel_rfl) (by kernel_rfl) (by kernel_rfl) (fun _ _ _ _ h => h) 49 rfl (.bool true) (Or.inl ⟨by rfl, by intro w hSw; go_simp⟩) hHeld ?_
            simp only [Act.put, List.setIfInBounds_toArray, List.set_cons_zero, List.set_cons_succ]
            refine take_opN (i := 16) rfl (by kernel_rfl) (by kernel_rfl) (by kernel_rfl) (fun _ _ _ _ h => h) 50 rfl (.bool true) (Or.inl ⟨by rfl, by intro w hSw; go_simp⟩) hHeld ?_
            simp only [Act.put, List.setIfInBounds_toArray, List.set_cons_zero, List.set_cons_succ]
            refine take_opN (i := 17) rfl (by kernel_rfl) (by kernel_rfl) (by kernel_rfl) (fun _ _ _ _ h => h) 51 rfl (.iface 42 (.agg #[.string (mkB at'), .int .i64 a2, .int .i64 a3])) (Or.inl ⟨by rfl, by intro w hSw; go_simp⟩) hHeld ?_
            simp only [Act.put, List.setIfInBounds_toArray, List.set_cons_zero, List.set_cons_succ]
            refine take_opN (i := 19) rfl (by kernel_rfl) (by kernel_rfl) (by kernel_rfl) (fun _ _ _ _ h => h) 53 rfl (.pointer (some ⟨w.heap.size, 1, none⟩)) (Or.inl ⟨by rfl, by intro w hSw; go_simp⟩) hHeld ?_
            simp only [Act.put, List.setIfInBounds_toArray, List.set_cons_zero, List.set_cons_succ]
            refine take_opN (i := 20) rfl (by kernel_rfl) (by kernel_rfl) (by kernel_rfl) (fun _ _ _ _ h => h) 54 rfl (.string (mkB at')) (Or.inl ⟨by rfl, by intro w hSw; have hc9 := HPC.out _ hSw; go_simp⟩) hHeld ?_
            simp only [Act.put, List.setIfInBounds_toArray, List.set_cons_zero, List.set_cons_succ]
            refine wpAnyH_ready (rs := [18]) (by kernel_rfl) (by simp) ?_
            refine AllReadyH.cons rfl (fun K hK => ?_) AllReadyH.nil
            go_simp
            go_wp2_with fail
            refine (pathF_any _ _ _ _).mono ?_
            rintro e w7 ⟨rfl, hb7⟩
            have hP7 : P w7 := (HPB.out _ _ hHeld hb7).2
            clear hb7
            go_wp2_with fail
            refine hK.out _ _ hP7 (fun hHeld2 => ?_)
            clear hK K hHeld2 hHeld
            have hHeld := hP7
            refine take_opN (i := 21) rfl (by kernel_rfl) (by kernel_rfl) (by kernel_rfl) (fun _ _ _ _ h => h) 55 rfl (.bool false) (Or.inl ⟨by rfl, by intro w hSw; go_simp⟩) hHeld ?_
            simp only [Act.put, List.setIfInBounds_toArray, List.set_cons_zero, List.set_cons_succ]
            refine take_opN (i := 22) rfl (by kernel_rfl) (by kernel_rfl) (by kernel_rfl) (fun _ _ _ _ h => h) 56 rfl (.bool false) (Or.inl ⟨by rfl, by intro w hSw; go_simp⟩) hHeld ?_
            simp only [Act.put, List.setIfInBounds_toArray, List.set_cons_zero, List.set_cons_succ]
            refine take_opN (i := 23) rfl (by kernel_rfl) (by kernel_rfl) (by kernel_rfl) (fun _ _ _ _ h => h) 57 rfl (.bool false) (Or.inl ⟨by rfl, by intro w hSw; go_simp⟩) hHeld ?_
            simp only [Act.put, List.setIfInBounds_toArray, List.set_cons_zero, List.set_cons_succ]
            refine wpAnyH_done (by kernel_rfl) ?_ _
            go_wp2
            go_meet
            case rel => exact ⟨rfl, HPF.out _ hP7⟩
          | pla a1 a2 a3 a4 a5 =>
            have hq' : true = q := hq
            subst hq'
            have hk' : (2 : Int) = kn := hKN
            subst hk'
            have ha : at' = a1 := by
              rw [← hr2]; revert hr3; unfold ndOf; intro hr3
              split at hr3
              · cases hr3
              · split at hr3
                · injection hr3 with h1
                · split at hr3
                  · cases hr3
                  · split at hr3 <;> cases hr3
            subst ha
            obtain ⟨y, hv, hy⟩ := hnv
            obtain ⟨ya, yc, rfl⟩ := hy.formS
            subst hv
            clear hy hr1 hr2 hr3 r0
            go_upto_region 10 with fail
            refine wp_region_held_drew (S := P) (by kernel_rfl) hS0.2 (fun hHeld => ?_)
            change wpAnyH _ _ _ _ _ 24 (Array.replicate 24 false) _ _
            refine wpAnyH_ready (rs := [0]) (by kernel_rfl) (by simp) ?_
            refine AllReadyH.cons rfl (fun K hK => ?_) AllReadyH.nil
            go_simp
            go_at_call 7
            refine (HAWS.out _ hHeld).mono ?_
            rintro e w5 ⟨rfl, hb5⟩
            have hP5 : P w5 := (HPB.out _ _ hHeld hb5).2
            clear hb5
            go_wp2_with fail
            refine hK.out _ _ hP5 (fun hHeld2 => ?_)
            clear hK K hHeld2 hHeld
            have hHeld := hP5
            refine take_opN (i := 1) rfl (by kernel_rfl) (by kernel_rfl) (by kernel_rfl) (fun _ _ _ _ h => h) 35 rfl (.bool false) (Or.inl ⟨by rfl, by intro w hSw; go_simp⟩) hHeld ?_
            simp only [Act.put, List.setIfInBounds_toArray, List.set_cons_zero, List.set_cons_succ]
            refine take_opN (i := 2) rfl (by kernel_rfl) (by kernel_rfl) (by kernel_rfl) (fun _ _ _ _ h => h) 36 rfl (.bool false) (Or.inl ⟨by rfl, by intro w hSw; go_simp⟩) hHeld ?_
            simp only [Act.put, List.setIfInBounds_toArray, List.set_cons_zero, List.set_cons_succ]
            refine take_opN (i := 3) rfl (by kernel_rfl) (by kernel_rfl) (by kernel_rfl) (fun _ _ _ _ h => h) 37 rfl (.iface 29 (.agg #[.string (mkB at'), .int .i64 a2, .int .i64 a3, .int .i64 a4, .slice ya a5.length yc])) (Or.inl ⟨by rfl, by intro w hSw; go_simp⟩) hHeld ?_
            simp only [Act.put, List.setIfInBounds_toArray, List.set_cons_zero, List.set_cons_succ]
            refine take_opN (i := 5) rfl (by kernel_rfl) (by kernel_rfl) (by kernel_rfl) (fun _ _ _ _ h => h) 39 rfl (.int .i64 2) (Or.inl ⟨by rfl, by intro w hSw; go_simp⟩) hHeld ?_
            simp only [Act.put, List.setIfInBounds_toArray, List.set_cons_zero, List.set_cons_succ]
            refine wpAnyH_ready (rs := [4]) (by kernel_rfl) (by simp) ?_
            refine AllReadyH.cons rfl (fun K hK => ?_) AllReadyH.nil
            go_simp
            go_at_call 8
            refine (HKI.out _ hHeld).mono ?_
            rintro e w6 ⟨rfl, e6⟩
            have e7 := e6.symm
            subst e7
            go_wp2_with fail
            refine hK.out _ _ hP5 (fun hHeld2 => ?_)
            clear hK K hHeld2 e6
            refine take_opN (i := 6) rfl (by kernel_rfl) (by kernel_rfl) (by kernel_rfl) (fun _ _ _ _ h => h) 40 rfl (.bool false) (Or.inl ⟨by rfl, by intro w hSw; go_simp⟩) hHeld ?_
            simp only [Act.put, List.setIfInBounds_toArray, List.set_cons_zero, List.set_cons_succ]
            refine take_opN (i := 7) rfl (by kernel_rfl) (by kernel_rfl) (by kernel_rfl) (fun _ _ _ _ h => h) 41 rfl (.bool false) (Or.inl ⟨by rfl, by intro w hSw; go_simp⟩) hHeld ?_
            simp only [Act.put, List.setIfInBounds_toArray, List.set_cons_zero, List.set_cons_succ]
            refine take_opN (i := 8) rfl (by kernel_rfl) (by kernel_rfl) (by kernel_rfl) (fun _ _ _ _ h => h) 42 rfl (.bool false) (Or.inl ⟨by rfl, by intro w hSw; go_simp⟩) hHeld ?_
            simp only [Act.put, List.setIfInBounds_toArray, List.set_cons_zero, List.set_cons_succ]
            refine take_opN (i := 9) rfl (by kernel_rfl) (by kernel_rfl) (by kernel_rfl) (fun _ _ _ _ h => h) 43 rfl (.bool true) (Or.inl ⟨by rfl, by intro w hSw; go_simp⟩) hHeld ?_
            simp only [Act.put, List.setIfInBounds_toArray, List.set_cons_zero, List.set_cons_succ]
            refine take_opN (i := 10) rfl (by kernel_rfl) (by kernel_rfl) (by kernel_rfl) (fun _ _ _ _ h => h) 44 rfl (.bool true) (Or.inl ⟨by rfl, by intro w hSw; go_simp⟩) hHeld ?_
            simp only [Act.put, List.setIfInBounds_toArray, List.set_cons_zero, List.set_cons_succ]
            refine take_opN (i := 11) rfl (by kernel_rfl) (by kernel_rfl) (by kernel_rfl) (fun _ _ _ _ h => h) 45 rfl (.bool false) (Or.inl ⟨by rfl, by intro w hSw; go_simp⟩) hHeld ?_
            simp only [Act.put, List.setIfInBounds_toArray, List.set_cons_zero, List.set_cons_succ]
            refine take_opN (i := 12) rfl (by kernel_rfl) (by kernel_rfl) (by kernel_rfl) (fun _ _ _ _ h => h) 46 rfl (.bool false) (Or.inl ⟨by rfl, by intro w hSw; go_simp⟩) hHeld ?_
            simp only [Act.put, List.setIfInBounds_toArray, List.set_cons_zero, List.set_cons_succ]
            refine take_opN (i := 13) rfl (by kernel_rfl) (by kernel_rfl) (by kernel_rfl) (fun _ _ _ _ h => h) 47 rfl (.bool false) (Or.inl ⟨by rfl, by intro w hSw; go_simp⟩) hHeld ?_
            simp only [Act.put, List.setIfInBounds_toArray, List.set_cons_zero, List.set_cons_succ]
            refine take_opN (i := 14) rfl (by kernel_rfl) (by kernel_rfl) (by kernel_rfl) (fun _ _ _ _ h => h) 48 rfl (.iface 29 (.agg #[.string (mkB at'), .int .i64 a2, .int .i64 a3, .int .i64 a4, .slice ya a5.length yc])) (Or.inl ⟨by rfl, by intro w hSw; go_simp⟩) hHeld ?_
            simp only [Act.put, List.setIfInBounds_toArray, List.set_cons_zero, List.set_cons_succ]
            refine take_opN (i := 15) rfl (by kernel_rfl) (by kernel_rfl) (by kernel_rfl) (fun _ _ _ _ h => h) 49 rfl (.bool true) (Or.inl ⟨by rfl, by intro w hSw; go_simp⟩) hHeld ?_
            simp only [Act.put, List.setIfInBounds_toArray, List.set_cons_zero, List.set_cons_succ]
            refine take_opN (i := 16) rfl (by kernel_rfl) (by kernel_rfl) (by kernel_rfl) (fun _ _ _ _ h => h) 50 rfl (.bool true) (Or.inl ⟨by rfl, by intro w hSw; go_simp⟩) hHeld ?_
            simp only [Act.put, List.setIfInBounds_toArray, List.set_cons_zero, List.set_cons_succ]
            refine take_opN (i := 17) rfl (by kernel_rfl) (by kernel_rfl) (by kernel_rfl) (fun _ _ _ _ h => h) 51 rfl (.iface 29 (.agg #[.string (mkB at'), .int .i64 a2, .int .i64 a3, .int .i64 a4, .slice ya a5.length yc])) (Or.inl ⟨by rfl, by intro w hSw; go_simp⟩) hHeld ?_
            simp only [Act.put, List.setIfInBounds_toArray, List.set_cons_zero, List.set_cons_succ]
            refine take_opN (i := 19) rfl (by kernel_rfl) (by kernel_rfl) (by kernel_rfl) (fun _ _ _ _ h => h) 53 rfl (.pointer (some ⟨w.heap.size, 1, none⟩)) (Or.inl ⟨by rfl, by intro w hSw; go_simp⟩) hHeld ?_
            simp only [Act.put, List.setIfInBounds_toArray, List.set_cons_zero, List.set_cons_succ]
            refine take_opN (i := 20) rfl (by kernel_rfl) (by kernel_rfl) (by kernel_rfl) (fun _ _ _ _ h => h) 54 rfl (.string (mkB at')) (Or.inl ⟨by rfl, by intro w hSw; have hc9 := HPC.out _ hSw; go_simp⟩) hHeld ?_
            simp only [Act.put, List.setIfInBounds_toArray, List.set_cons_zero, List.set_cons_succ]
            refine wpAnyH_ready (rs := [18]) (by kernel_rfl) (by simp) ?_
            refine AllReadyH.cons rfl (fun K hK => ?_) AllReadyH.nil
            go_simp
            go_wp2_with fail
            refine (pathP_any _ _ _ _ _ _ _ _).mono ?_
            rintro e w7 ⟨rfl, hb7⟩
            have hP7 : P w7 := (HPB.out _ _ hHeld hb7).2
            clear hb7
            go_wp2_with fail
            refine hK.out _ _ hP7 (fun hHeld2 => ?_)
            clear hK K hHeld2 hHeld
            have hHeld := hP7
            refine take_opN (i := 21) rfl (by kernel_rfl) (by kernel_rfl) (by kernel_rfl) (fun _ _ _ _ h => h) 55 rfl (.bool false) (Or.inl ⟨by rfl, by intro w hSw; go_simp⟩) hHeld ?_
            simp only [Act.put, List.setIfInBounds_toArray, List.set_cons_zero, List.set_cons_succ]
            refine take_opN (i := 22) rfl (by kernel_rfl) (by kernel_rfl) (by kernel_rfl) (fun _ _ _ _ h => h) 56 rfl (.bool false) (Or.inl ⟨by rfl, by intro w hSw; go_simp⟩) hHeld ?_
            simp only [Act.put, List.setIfInBounds_toArray, List.set_cons_zero, List.set_cons_succ]
            refine take_opN (i := 23) rfl (by kernel_rfl) (by kernel_rfl) (by kernel_rfl) (fun _ _ _ _ h => h) 57 rfl (.bool false) (Or.inl ⟨by rfl, by intro w hSw; go_simp⟩) hHeld ?_
            simp only [Act.put, List.setIfInBounds_toArray, List.set_cons_zero, List.set_cons_succ]
            refine wpAnyH_done (by kernel_rfl) ?_ _
            go_wp2
            go_meet
            case rel => exact ⟨rfl, HPF.out _ hP7⟩
          | sym a1 a2 a3 a4 =>
            have hq' : false = q := hq
            subst hq'
            have hk' : (3 : Int) = kn := hKN
            subst hk'
            have ha : at' = a1 := by
              rw [← hr2]; revert hr3; unfold ndOf; intro hr3
              split at hr3
              · cases hr3
              · split at hr3
                · cases hr3
                · split at hr3
                  · injection hr3 with h1
                  · split at hr3 <;> cases hr3
            subst ha
            have hv : v1 = _ := hnv
            subst hv
            clear hnv hr1 hr2 hr3 r0
            go_upto_region 10 with fail
            refine wp_region_held_drew (S := P) (by kernel_rfl) hS0.2 (fun hHeld => ?_)
            change wpAnyH _ _ _ _ _ 24 (Array.replicate 24 false) _ _
            refine wpAnyH_ready (rs := [0]) (by kernel_rfl) (by simp) ?_
            refine AllReadyH.cons rfl (fun K hK => ?_) AllReadyH.nil
            go_simp
            go_at_call 7
            refine (HAWS.out _ hHeld).mono ?_
            rintro e w5 ⟨rfl, hb5⟩
            have hP5 : P w5 := (HPB.out _ _ hHeld hb5).2
            clear hb5
            go_wp2_with fail
            refine hK.out _ _ hP5 (fun hHeld2 => ?_)
            clear hK K hHeld2 hHeld
            have hHeld := hP5
            refine take_opN (i := 1) rfl (by kernel_rfl) (by kernel_rfl) (by kernel_rfl) (fun _ _ _ _ h => h) 35 rfl (.bool false) (Or.inl ⟨by rfl, by intro w hSw; go_simp⟩) hHeld ?_
            simp only [Act.put, List.setIfInBounds_toArray, List.set_cons_zero, List.set_cons_succ]
            refine take_opN (i := 2) rfl (by kernel_rfl) (by kernel_rfl) (by kernel_rfl) (fun _ _ _ _ h => h) 36 rfl (.bool false) (Or.inl ⟨by rfl, by intro w hSw; go_simp⟩) hHeld ?_
            simp only [Act.put, List.setIfInBounds_toArray, List.set_cons_zero, List.set_cons_succ]
            refine take_opN (i := 3) rfl (by kernel_rfl) (by kernel_rfl) (by kernel_rfl) (fun _ _ _ _ h => h) 37 rfl (.iface 44 (.agg #[.string (mkB at'), .int .i64 a2, .int .i64 a3, .string (mkB a4)])) (Or.inl ⟨by rfl, by intro w hSw; go_simp⟩) hHeld ?_
            simp only [Act.put, List.setIfInBounds_toArray, List.set_cons_zero, List.set_cons_succ]
            refine take_opN (i := 5) rfl (by kernel_rfl) (by kernel_rfl) (by kernel_rfl) (fun _ _ _ _ h => h) 39 rfl (.int .i64 3) (Or.inl ⟨by rfl, by intro w hSw; go_simp⟩) hHeld ?_
            simp only [Act.put, List.setIfInBounds_toArray, List.set_cons_zero, List.set_cons_succ]
            refine wpAnyH_ready (rs := [4]) (by kernel_rfl) (by simp) ?_
            refine AllReadyH.cons rfl (fun K hK => ?_) AllReadyH.nil
            go_simp
            go_at_call 8
            refine (HKI.out _ hHeld).mono ?_
            rintro e w6 ⟨rfl, e6⟩
            have e7 := e6.symm
            subst e7
            go_wp2_with fail
            refine hK.out _ _ hP5 (fun hHeld2 => ?_)
            clear hK K hHeld2 e6
            refine take_opN (i := 6) rfl (by kernel_rfl) (by kernel_rfl) (by kernel_rfl) (fun _ _ _ _ h => h) 40 rfl (.bool false) (Or.inl ⟨by rfl, by intro w hSw; go_simp⟩) hHeld ?_
            simp only [Act.put, List.setIfInBounds_toArray, List.set_cons_zero, List.set_cons_succ]
            refine take_opN (i := 7) rfl (by kernel_rfl) (by kernel_rfl) (by kernel_rfl) (fun _ _ _ _ h => h) 41 rfl (.bool false) (Or.inl ⟨by rfl, by intro w hSw; go_simp⟩) hHeld ?_
            simp only [Act.put, List.setIfInBounds_toArray, List.set_cons_zero, List.set_cons_succ]
            refine take_opN (i := 8) rfl (by kernel_rfl) (by kernel_rfl) (by kernel_rfl) (fun _ _ _ _ h => h) 42 rfl (.bool false) (Or.inl ⟨by rfl, by intro w hSw; go_simp⟩) hHeld ?_
            simp only [Act.put, List.setIfInBounds_toArray, List.set_cons_zero, List.set_cons_succ]
            refine take_opN (i := 9) rfl (by kernel_rfl) (by kernel_rfl) (by kernel_rfl) (fun _ _ _ _ h => h) 43 rfl (.bool false) (Or.inl ⟨by rfl, by intro w hSw; go_simp⟩) hHeld ?_
            simp only [Act.put, List.setIfInBounds_toArray, List.set_cons_zero, List.set_cons_succ]
            refine take_opN (i := 10) rfl (by kernel_rfl) (by kernel_rfl) (by kernel_rfl) (fun _ _ _ _ h => h) 44 rfl (.bool false) (Or.inl ⟨by rfl, by intro w hSw; go_simp⟩) hHeld ?_
            simp only [Act.put, List.setIfInBounds_toArray, List.set_cons_zero, List.set_cons_succ]
            refine take_opN (i := 11) rfl (by kernel_rfl) (by kernel_rfl) (by kernel_rfl) (fun _ _ _ _ h => h) 45 rfl (.bool false) (Or.inl ⟨by rfl, by intro w hSw; go_simp⟩) hHeld ?_
            simp only [Act.put, List.setIfInBounds_toArray, List.set_cons_zero, List.set_cons_succ]
            refine take_opN (i := 12) rfl (by kernel_rfl) (by kernel_rfl) (by kernel_rfl) (fun _ _ _ _ h => h) 46 rfl (.bool false) (Or.inl ⟨by rfl, by intro w hSw; go_simp⟩) hHeld ?_
            simp only [Act.put, List.setIfInBounds_toArray, List.set_cons_zero, List.set_cons_succ]
            refine take_opN (i := 13) rfl (by kernel_rfl) (by kernel_rfl) (by kernel_rfl) (fun _ _ _ _ h => h) 47 rfl (.bool false) (Or.inl ⟨by rfl, by intro w hSw; go_simp⟩) hHeld ?_
            simp only [Act.put, List.setIfInBounds_toArray, List.set_cons_zero, List.set_cons_succ]
            refine take_opN (i := 14) rfl (by kernel_rfl) (by kernel_rfl) (by kernel_rfl) (fun _ _ _ _ h => h) 48 rfl (.iface 44 (.agg #[.string (mkB at'), .int .i64 a2, .int .i64 a3, .string (mkB a4)])) (Or.inl ⟨by rfl, by intro w hSw; go_simp⟩) hHeld ?_
            simp only [Act.put, List.setIfInBounds_toArray, List.set_cons_zero, List.set_cons_succ]
            refine take_opN (i := 15) rfl (by kernel_rfl) (by kernel_rfl) (by kernel_rfl) (fun _ _ _ _ h => h) 49 rfl (.bool true) (Or.inl ⟨by rfl, by intro w hSw; go_simp⟩) hHeld ?_
            simp only [Act.put, List.setIfInBounds_toArray, List.set_cons_zero, List.set_cons_succ]
            refine take_opN (i := 16) rfl (by kernel_rfl) (by kernel_rfl) (by kernel_rfl) (fun _ _ _ _ h => h) 50 rfl (.bool true) (Or.inl ⟨by rfl, by intro w hSw; go_simp⟩) hHeld ?_
            simp only [Act.put, List.setIfInBounds_toArray, List.set_cons_zero, List.set_cons_succ]
            refine take_opN (i := 17) rfl (by kernel_rfl) (by kernel_rfl) (by kernel_rfl) (fun _ _ _ _ h => h) 51 rfl (.iface 44 (.agg #[.string (mkB at'), .int .i64 a2, .int .i64 a3, .string (mkB a4)])) (Or.inl ⟨by rfl, by intro w hSw; go_simp⟩) hHeld ?_
            simp only [Act.put, List.setIfInBounds_toArray, List.set_cons_zero, List.set_cons_succ]
            refine take_opN (i := 19) rfl (by kernel_rfl) (by kernel_rfl) (by kernel_rfl) (fun _ _ _ _ h => h) 53 rfl (.pointer (some ⟨w.heap.size, 1, none⟩)) (Or.inl ⟨by rfl, by intro w hSw; go_simp⟩) hHeld ?_
            simp only [Act.put, List.setIfInBounds_toArray, List.set_cons_zero, List.set_cons_succ]
            refine take_opN (i := 20) rfl (by kernel_rfl) (by kernel_rfl) (by kernel_rfl) (fun _ _ _ _ h => h) 54 rfl (.string (mkB at')) (Or.inl ⟨by rfl, by intro w hSw; have hc9 := HPC.out _ hSw; go_simp⟩) hHeld ?_
            simp only [Act.put, List.setIfInBounds_toArray, List.set_cons_zero, List.set_cons_succ]
            refine wpAnyH_ready (rs := [18]) (by kernel_rfl) (by simp) ?_
            refine AllReadyH.cons rfl (fun K hK => ?_) AllReadyH.nil
            go_simp
            go_wp2_with fail
            refine (pathS_any _ _ _ _ _).mono ?_
            rintro e w7 ⟨rfl, hb7⟩
            have hP7 : P w7 := (HPB.out _ _ hHeld hb7).2
            clear hb7
            go_wp2_with fail
            refine hK.out _ _ hP7 (fun hHeld2 => ?_)
            clear hK K hHeld2 hHeld
            have hHeld := hP7
            refine take_opN (i := 21) rfl (by kernel_rfl) (by kernel_rfl) (by kernel_rfl) (fun _ _ _ _ h => h) 55 rfl (.bool false) (Or.inl ⟨by rfl, by intro w hSw; go_simp⟩) hHeld ?_
            simp only [Act.put, List.setIfInBounds_toArray, List.set_cons_zero, List.set_cons_succ]
            refine take_opN (i := 22) rfl (by kernel_rfl) (by kernel_rfl) (by kernel_rfl) (fun _ _ _ _ h => h) 56 rfl (.bool false) (Or.inl ⟨by rfl, by intro w hSw; go_simp⟩) hHeld ?_
            simp only [Act.put, List.setIfInBounds_toArray, List.set_cons_zero, List.set_cons_succ]
            refine take_opN (i := 23) rfl (by kernel_rfl) (by kernel_rfl) (by kernel_rfl) (fun _ _ _ _ h => h) 57 rfl (.bool false) (Or.inl ⟨by rfl, by intro w hSw; go_simp⟩) hHeld ?_
            simp only [Act.put, List.setIfInBounds_toArray, List.set_cons_zero, List.set_cons_succ]
            refine wpAnyH_done (by kernel_rfl) ?_ _
            go_wp2
            go_meet
            case rel => exact ⟨rfl, HPF.out _ hP7⟩
          | ptr a1 a2 a3 =>
            have hq' : false = q := hq
            subst hq'
            have hk' : (0 : Int) = kn := hKN
            subst hk'
            have ha : at' = a1 := by
              rw [← hr2]; revert hr3; unfold ndOf; intro hr3
              split at hr3
              · cases hr3
              · split at hr3
                · cases hr3
                · split at hr3
                  · cases hr3
                  · split at hr3
                    · injection hr3 with h1
                    · cases hr3
            subst ha
            obtain ⟨b, hv⟩ := HVP.out _ _ _ rfl
            subst hv
            have HPX : Hid (∀ W, P W → W.cell? ⟨b, 0, none⟩ = some (.string (mkB at')) ∧ W.cell? ⟨b, 1, none⟩ = some (.int .i64 a2) ∧ W.cell? ⟨b, 2, none⟩ = some (.int .i64 a3)) := fun W hW => by
              obtain ⟨xb, hv2, hz0, hz1, hz2⟩ := (HPF.out W hW).nv
              injection hv2 with _ hv3
              injection hv3 with hv4
              injection hv4 with hv5
              subst hv5
              rw [Addr.add_mid, Nat.zero_add] at hz1 hz2
              exact ⟨hz0, hz1, hz2⟩
            clear hnv hr1 hr2 hr3 r0
            go_upto_region 10 with fail
            refine wp_region_held_drew (S := P) (by kernel_rfl) hS0.2 (fun hHeld => ?_)
            change wpAnyH _ _ _ _ _ 24 (Array.replicate 24 false) _ _
            refine wpAnyH_ready (rs := [0]) (by kernel_rfl) (by simp) ?_
            refine AllReadyH.cons rfl (fun K hK => ?_) AllReadyH.nil
            go_simp
            go_at_call 7
            refine (HAWS.out _ hHeld).mono ?_
            rintro e w5 ⟨rfl, hb5⟩
            have hP5 : P w5 := (HPB.out _ _ hHeld hb5).2
            clear hb5
            go_wp2_with fail
            refine hK.out _ _ hP5 (fun hHeld2 => ?_)
            clear hK K hHeld2 hHeld
            have hHeld := hP5
            refine take_opN (i := 1) rfl (by kernel_rfl) (by kernel_rfl) (by kernel_rfl) (fun _ _ _ _ h => h) 35 rfl (.bool false) (Or.inl ⟨by rfl, by intro w hSw; go_simp⟩) hHeld ?_
            simp only [Act.put, List.setIfInBounds_toArray, List.set_cons_zero, List.set_cons_succ]
            refine take_opN (i := 2) rfl (by kernel_rfl) (by kernel_rfl) (by kernel_rfl) (fun _ _ _ _ h => h) 36 rfl (.bool false) (Or.inl ⟨by rfl, by intro w hSw; go_simp⟩) hHeld ?_
            simp only [Act.put, List.setIfInBounds_toArray, List.set_cons_zero, List.set_cons_succ]
            refine take_opN (i := 3) rfl (by kernel_rfl) (by kernel_rfl) (by kernel_rfl) (fun _ _ _ _ h => h) 37 rfl (.iface 45 (.pointer (some ⟨b, 0, none⟩))) (Or.inl ⟨by rfl, by intro w hSw; go_simp⟩) hHeld ?_
            simp only [Act.put, List.setIfInBounds_toArray, List.set_cons_zero, List.set_cons_succ]
            refine take_opN (i := 5) rfl (by kernel_rfl) (by kernel_rfl) (by kernel_rfl) (fun _ _ _ _ h => h) 39 rfl (.int .i64 0) (Or.inl ⟨by rfl, by intro w hSw; go_simp⟩) hHeld ?_
            simp only [Act.put, List.setIfInBounds_toArray, List.set_cons_zero, List.set_cons_succ]
            refine wpAnyH_ready (rs := [4]) (by kernel_rfl) (by simp) ?_
            refine AllReadyH.cons rfl (fun K hK => ?_) AllReadyH.nil
            go_simp
            go_at_call 8
            refine (HKI.out _ hHeld).mono ?_
            rintro e w6 ⟨rfl, e6⟩
            have e7 := e6.symm
            subst e7
            go_wp2_with fail
            refine hK.out _ _ hP5 (fun hHeld2 => ?_)
            clear hK K hHeld2 e6
            refine take_opN (i := 6) rfl (by kernel_rfl) (by kernel_rfl) (by kernel_rfl) (fun _ _ _ _ h => h) 40 rfl (.bool false) (Or.inl ⟨by rfl, by intro w hSw; go_simp⟩) hHeld ?_
            simp only [Act.put, List.setIfInBounds_toArray, List.set_cons_zero, List.set_cons_succ]
            refine take_opN (i := 7) rfl (by kernel_rfl) (by kernel_rfl) (by kernel_rfl) (fun _ _ _ _ h => h) 41 rfl (.bool false) (Or.inl ⟨by rfl, by intro w hSw; go_simp⟩) hHeld ?_
            simp only [Act.put, List.setIfInBounds_toArray, List.set_cons_zero, List.set_cons_succ]
            refine take_opN (i := 8) rfl (by kernel_rfl) (by kernel_rfl) (by kernel_rfl) (fun _ _ _ _ h => h) 42 rfl (.bool false) (Or.inl ⟨by rfl, by intro w hSw; go_simp⟩) hHeld ?_
            simp only [Act.put, List.setIfInBounds_toArray, List.set_cons_zero, List.set_cons_succ]
            refine take_opN (i := 9) rfl (by kernel_rfl) (by kernel_rfl) (by kernel_rfl) (fun _ _ _ _ h => h) 43 rfl (.bool false) (Or.inl ⟨by rfl, by intro w hSw; go_simp⟩) hHeld ?_
            simp only [Act.put, List.setIfInBounds_toArray, List.set_cons_zero, List.set_cons_succ]
            refine take_opN (i := 10) rfl (by kernel_rfl) (by kernel_rfl) (by kernel_rfl) (fun _ _ _ _ h => h) 44 rfl (.bool false) (Or.inl ⟨by rfl, by intro w hSw; go_simp⟩) hHeld ?_
            simp only [Act.put, List.setIfInBounds_toArray, List.set_cons_zero, List.set_cons_succ]
            refine take_opN (i := 11) rfl (by kernel_rfl) (by kernel_rfl) (by kernel_rfl) (fun _ _ _ _ h => h) 45 rfl (.bool false) (Or.inl ⟨by rfl, by intro w hSw; go_simp⟩) hHeld ?_
            simp only [Act.put, List.setIfInBounds_toArray, List.set_cons_zero, List.set_cons_succ]
            refine take_opN (i := 12) rfl (by kernel_rfl) (by kernel_rfl) (by kernel_rfl) (fun _ _ _ _ h => h) 46 rfl (.bool false) (Or.inl ⟨by rfl, by intro w hSw; go_simp⟩) hHeld ?_
            simp only [Act.put, List.setIfInBounds_toArray, List.set_cons_zero, List.set_cons_succ]
            refine take_opN (i := 13) rfl (by kernel_rfl) (by kernel_rfl) (by kernel_rfl) (fun _ _ _ _ h => h) 47 rfl (.bool false) (Or.inl ⟨by rfl, by intro w hSw; go_simp⟩) hHeld ?_
            simp only [Act.put, List.setIfInBounds_toArray, List.set_cons_zero, List.set_cons_succ]
            refine take_opN (i := 14) rfl (by kernel_rfl) (by kernel_rfl) (by kernel_rfl) (fun _ _ _ _ h => h) 48 rfl (.iface 45 (.pointer (some ⟨b, 0, none⟩))) (Or.inl ⟨by rfl, by intro w hSw; go_simp⟩) hHeld ?_
            simp only [Act.put, List.setIfInBounds_toArray, List.set_cons_zero, List.set_cons_succ]
            refine take_opN (i := 15) rfl (by kernel_rfl) (by kernel_rfl) (by kernel_rfl) (fun _ _ _ _ h => h) 49 rfl (.bool true) (Or.inl ⟨by rfl, by intro w hSw; go_simp⟩) hHeld ?_
            simp only [Act.put, List.setIfInBounds_toArray, List.set_cons_zero, List.set_cons_succ]
            refine take_opN (i := 16) rfl (by kernel_rfl) (by kernel_rfl) (by kernel_rfl) (fun _ _ _ _ h => h) 50 rfl (.bool true) (Or.inl ⟨by rfl, by intro w hSw; go_simp⟩) hHeld ?_
            simp only [Act.put, List.setIfInBounds_toArray, List.set_cons_zero, List.set_cons_succ]
            refine take_opN (i := 17) rfl (by kernel_rfl) (by kernel_rfl) (by kernel_rfl) (fun _ _ _ _ h => h) 51 rfl (.iface 45 (.pointer (some ⟨b, 0, none⟩))) (Or.inl ⟨by rfl, by intro w hSw; go_simp⟩) hHeld ?_
            simp only [Act.put, List.setIfInBounds_toArray, List.set_cons_zero, List.set_cons_succ]
            refine take_opN (i := 19) rfl (by kernel_rfl) (by kernel_rfl) (by kernel_rfl) (fun _ _ _ _ h => h) 53 rfl (.pointer (some ⟨w.heap.size, 1, none⟩)) (Or.inl ⟨by rfl, by intro w hSw; go_simp⟩) hHeld ?_
            simp only [Act.put, List.setIfInBounds_toArray, List.set_cons_zero, List.set_cons_succ]
            refine take_opN (i := 20) rfl (by kernel_rfl) (by kernel_rfl) (by kernel_rfl) (fun _ _ _ _ h => h) 54 rfl (.string (mkB at')) (Or.inl ⟨by rfl, by intro w hSw; have hc9 := HPC.out _ hSw; go_simp⟩) hHeld ?_
            simp only [Act.put, List.setIfInBounds_toArray, List.set_cons_zero, List.set_cons_succ]
            obtain ⟨z0, z1, z2⟩ := HPX.out _ hHeld
            refine wpAnyH_ready (rs := [18]) (by kernel_rfl) (by simp) ?_
            refine AllReadyH.cons rfl (fun K hK => ?_) AllReadyH.nil
            go_simp
            rw [method_ptrF b at' a2 a3 _ z0 z1 z2]
            go_wp2_with fail
            refine (pathF_any _ _ _ _).mono ?_
            rintro e w7 ⟨rfl, hb7⟩
            have hP7 : P w7 := (HPB.out _ _ hHeld hb7).2
            clear hb7
            go_wp2_with fail
            refine hK.out _ _ hP7 (fun hHeld2 => ?_)
            clear hK K hHeld2 hHeld
            have hHeld := hP7
            refine take_opN (i := 21) rfl (by kernel_rfl) (by kernel_rfl) (by kernel_rfl) (fun _ _ _ _ h => h) 55 rfl (.bool false) (Or.inl ⟨by rfl, by intro w hSw; go_simp⟩) hHeld ?_
            simp only [Act.put, List.setIfInBounds_toArray, List.set_cons_zero, List.set_cons_succ]
            refine take_opN (i := 22) rfl (by kernel_rfl) (by kernel_rfl) (by kernel_rfl) (fun _ _ _ _ h => h) 56 rfl (.bool false) (Or.inl ⟨by rfl, by intro w hSw; go_simp⟩) hHeld ?_
            simp only [Act.put, List.setIfInBounds_toArray, List.set_cons_zero, List.set_cons_succ]
            refine take_opN (i := 23) rfl (by kernel_rfl) (by kernel_rfl) (by kernel_rfl) (fun _ _ _ _ h => h) 57 rfl (.bool false) (Or.inl ⟨by rfl, by intro w hSw; go_simp⟩) hHeld ?_
            simp only [Act.put, List.setIfInBounds_toArray, List.set_cons_zero, List.set_cons_succ]
            refine wpAnyH_done (by kernel_rfl) ?_ _
            go_wp2
            go_meet
            case rel => exact ⟨rfl, HPF.out _ hP7⟩
          | non =>
            have hq' : false = q := hq
            subst hq'
            have hk' : (0 : Int) = kn := hKN
            subst hk'
            have hv : v1 = _ := hnv
            subst hv
            clear hnv hr1 hr2 hr3 r0
            go_upto_region 10 with fail
            refine wp_region_held_drew (S := P) (by kernel_rfl) hS0.2 (fun hHeld => ?_)
            change wpAnyH _ _ _ _ _ 24 (Array.replicate 24 false) _ _
            refine wpAnyH_ready (rs := [0]) (by kernel_rfl) (by simp) ?_
            refine AllReadyH.cons rfl (fun K hK => ?_) AllReadyH.nil
            go_simp
            go_at_call 7
            refine (HAWS.out _ hHeld).mono ?_
            rintro e w5 ⟨rfl, hb5⟩
            have hP5 : P w5 := (HPB.out _ _ hHeld hb5).2
            clear hb5
            go_wp2_with fail
            refine hK.out _ _ hP5 (fun hHeld2 => ?_)
            clear hK K hHeld2 hHeld
            have hHeld := hP5
            refine take_opN (i := 1) rfl (by kernel_rfl) (by kernel_rfl) (by kernel_rfl) (fun _ _ _ _ h => h) 35 rfl (.bool false) (Or.inl ⟨by rfl, by intro w hSw; go_simp⟩) hHeld ?_
            simp only [Act.put, List.setIfInBounds_toArray, List.set_cons_zero, List.set_cons_succ]
            refine take_opN (i := 2) rfl (by kernel_rfl) (by kernel_rfl) (by kernel_rfl) (fun _ _ _ _ h => h) 36 rfl (.bool false) (Or.inl ⟨by rfl, by intro w hSw; go_simp⟩) hHeld ?_
            simp only [Act.put, List.setIfInBounds_toArray, List.set_cons_zero, List.set_cons_succ]
            refine take_opN (i := 3) rfl (by kernel_rfl) (by kernel_rfl) (by kernel_rfl) (fun _ _ _ _ h => h) 37 rfl (.nilIface) (Or.inl ⟨by rfl, by intro w hSw; go_simp⟩) hHeld ?_
            simp only [Act.put, List.setIfInBounds_toArray, List.set_cons_zero, List.set_cons_succ]
            refine take_opN (i := 5) rfl (by kernel_rfl) (by kernel_rfl) (by kernel_rfl) (fun _ _ _ _ h => h) 39 rfl (.int .i64 0) (Or.inl ⟨by rfl, by intro w hSw; go_simp⟩) hHeld ?_
            simp only [Act.put, List.setIfInBounds_toArray, List.set_cons_zero, List.set_cons_succ]
            refine wpAnyH_ready (rs := [4]) (by kernel_rfl) (by simp) ?_
            refine AllReadyH.cons rfl (fun K hK => ?_) AllReadyH.nil
            go_simp
            go_at_call 8
            refine (HKI.out _ hHeld).mono ?_
            rintro e w6 ⟨rfl, e6⟩
            have e7 := e6.symm
            subst e7
            go_wp2_with fail
            refine hK.out _ _ hP5 (fun hHeld2 => ?_)
            clear hK K hHeld2 e6
            refine take_opN (i := 6) rfl (by kernel_rfl) (by kernel_rfl) (by kernel_rfl) (fun _ _ _ _ h => h) 40 rfl (.bool false) (Or.inl ⟨by rfl, by intro w hSw; go_simp⟩) hHeld ?_
            simp only [Act.put, List.setIfInBounds_toArray, List.set_cons_zero, List.set_cons_succ]
            refine take_opN (i := 7) rfl (by kernel_rfl) (by kernel_rfl) (by kernel_rfl) (fun _ _ _ _ h => h) 41 rfl (.bool false) (Or.inl ⟨by rfl, by intro w hSw; go_simp⟩) hHeld ?_
            simp only [Act.put, List.setIfInBounds_toArray, List.set_cons_zero, List.set_cons_succ]
            refine take_opN (i := 8) rfl (by kernel_rfl) (by kernel_rfl) (by kernel_rfl) (fun _ _ _ _ h => h) 42 rfl (.bool false) (Or.inl ⟨by rfl, by intro w hSw; go_simp⟩) hHeld ?_
            simp only [Act.put, List.setIfInBounds_toArray, List.set_cons_zero, List.set_cons_succ]
            refine take_opN (i := 9) rfl (by kernel_rfl) (by kernel_rfl) (by kernel_rfl) (fun _ _ _ _ h => h) 43 rfl (.bool false) (Or.inl ⟨by rfl, by intro w hSw; go_simp⟩) hHeld ?_
            simp only [Act.put, List.setIfInBounds_toArray, List.set_cons_zero, List.set_cons_succ]
            refine take_opN (i := 10) rfl (by kernel_rfl) (by kernel_rfl) (by kernel_rfl) (fun _ _ _ _ h => h) 44 rfl (.bool false) (Or.inl ⟨by rfl, by intro w hSw; go_simp⟩) hHeld ?_
            simp only [Act.put, List.setIfInBounds_toArray, List.set_cons_zero, List.set_cons_succ]
            refine take_opN (i := 11) rfl (by kernel_rfl) (by kernel_rfl) (by kernel_rfl) (fun _ _ _ _ h => h) 45 rfl (.bool false) (Or.inl ⟨by rfl, by intro w hSw; go_simp⟩) hHeld ?_
            simp only [Act.put, List.setIfInBounds_toArray, List.set_cons_zero, List.set_cons_succ]
            refine take_opN (i := 12) rfl (by kernel_rfl) (by kernel_rfl) (by kernel_rfl) (fun _ _ _ _ h => h) 46 rfl (.bool false) (Or.inl ⟨by rfl, by intro w hSw; go_simp⟩) hHeld ?_
            simp only [Act.put, List.setIfInBounds_toArray, List.set_cons_zero, List.set_cons_succ]
            refine take_opN (i := 13) rfl (by kernel_rfl) (by kernel_rfl) (by kernel_rfl) (fun _ _ _ _ h => h) 47 rfl (.bool false) (Or.inl ⟨by rfl, by intro w hSw; go_simp⟩) hHeld ?_
            simp only [Act.put, List.setIfInBounds_toArray, List.set_cons_zero, List.set_cons_succ]
            refine take_opN (i := 14) rfl (by kernel_rfl) (by kernel_rfl) (by kernel_rfl) (fun _ _ _ _ h => h) 48 rfl (.nilIface) (Or.inl ⟨by rfl, by intro w hSw; go_simp⟩) hHeld ?_
            simp only [Act.put, List.setIfInBounds_toArray, List.set_cons_zero, List.set_cons_succ]
            refine take_opN (i := 15) rfl (by kernel_rfl) (by kernel_rfl) (by kernel_rfl) (fun _ _ _ _ h => h) 49 rfl (.bool false) (Or.inl ⟨by rfl, by intro w hSw; go_simp⟩) hHeld ?_
            simp only [Act.put, List.setIfInBounds_toArray, List.set_cons_zero, List.set_cons_succ]
            refine take_opN (i := 16) rfl (by kernel_rfl) (by kernel_rfl) (by kernel_rfl) (fun _ _ _ _ h => h) 50 rfl (.bool false) (Or.inl ⟨by rfl, by intro w hSw; go_simp⟩) hHeld ?_
            simp only [Act.put, List.setIfInBounds_toArray, List.set_cons_zero, List.set_cons_succ]
            refine take_opN (i := 17) rfl (by kernel_rfl) (by kernel_rfl) (by kernel_rfl) (fun _ _ _ _ h => h) 51 rfl undef (Or.inr ⟨by rfl, rfl⟩) hHeld ?_
            simp only [Act.put, List.setIfInBounds_toArray, List.set_cons_zero, List.set_cons_succ]
            refine take_opN (i := 18) rfl (by kernel_rfl) (by kernel_rfl) (by kernel_rfl) (fun _ _ _ _ h => h) 52 rfl undef (Or.inr ⟨by rfl, rfl⟩) hHeld ?_
            simp only [Act.put, List.setIfInBounds_toArray, List.set_cons_zero, List.set_cons_succ]
            refine take_opN (i := 19) rfl (by kernel_rfl) (by kernel_rfl) (by kernel_rfl) (fun _ _ _ _ h => h) 53 rfl undef (Or.inr ⟨by rfl, rfl⟩) hHeld ?_
            simp only [Act.put, List.setIfInBounds_toArray, List.set_cons_zero, List.set_cons_succ]
            refine take_opN (i := 20) rfl (by kernel_rfl) (by kernel_rfl) (by kernel_rfl) (fun _ _ _ _ h => h) 54 rfl undef (Or.inr ⟨by rfl, rfl⟩) hHeld ?_
            simp only [Act.put, List.setIfInBounds_toArray, List.set_cons_zero, List.set_cons_succ]
            refine take_opN (i := 21) rfl (by kernel_rfl) (by kernel_rfl) (by kernel_rfl) (fun _ _ _ _ h => h) 55 rfl undef (Or.inr ⟨by rfl, rfl⟩) hHeld ?_
            simp only [Act.put, List.setIfInBounds_toArray, List.set_cons_zero, List.set_cons_succ]
            refine take_opN (i := 22) rfl (by kernel_rfl) (by kernel_rfl) (by kernel_rfl) (fun _ _ _ _ h => h) 56 rfl (.bool false) (Or.inl ⟨by rfl, by intro w hSw; go_simp⟩) hHeld ?_
            simp only [Act.put, List.setIfInBounds_toArray, List.set_cons_zero, List.set_cons_succ]
            refine take_opN (i := 23) rfl (by kernel_rfl) (by kernel_rfl) (by kernel_rfl) (fun _ _ _ _ h => h) 57 rfl (.bool false) (Or.inl ⟨by rfl, by intro w hSw; go_simp⟩) hHeld ?_
            simp only [Act.put, List.setIfInBounds_toArray, List.set_cons_zero, List.set_cons_succ]
            refine wpAnyH_done (by kernel_rfl) ?_ _
            go_wp2
            go_meet
            case rel => exact ⟨rfl, HPF.out _ hP5⟩
        case rest =>
          obtain ⟨rfl, hks⟩ := hcut
          have HKc : Hid (KS w wc ⟨kind, at', mode, time, size, ch, tg⟩ (.slice ua ch.length uc) v1 n w2.heap.size (w2.heap.size + 1) (pa, pm, pt, ps, pc) (.slice va pc.length vc) (.slice a7 pc.length c7)) := hks
          clear hks HK
          go_upto_if 60 with fail
          go_cut [9] (fun v wx => ∃ (b9 : Nat) (a9 : Option Addr) (c9 : Nat), v = .slice (some ⟨b9, 0, none⟩) 1 1 ∧ wx.heap[b9]? = some (.cells (rc7 (if q then 2 else 0) (pa, pm, pt, ps, pc) (.slice a9 pc.length c9)) 24 (0, 0)) ∧ TR wx (.slice a9 pc.length c9) pc ∧ KS w wx ⟨kind, at', mode, time, size, ch, tg⟩ (.slice ua ch.length uc) v1 n w2.heap.size (w2.heap.size + 1) (pa, pm, pt, ps, pc) (.slice va pc.length vc) (.slice a7 pc.length c7))
          case first =>
            cases q with
            | false =>
              have hp0 : pa = [] ∧ pm = 0 ∧ pt = 0 ∧ ps = 0 ∧ pc = [] := by simpa using HF2.out rfl
              obtain ⟨rfl, rfl, rfl, rfl, rfl⟩ := hp0
              have HB9 : Hid (Below wc.heap.size wc (wc.alloc (.cells zr7 24))) := (Below.refl _ _).alloc (Nat.le_refl _) _
              have HH9 : Hid ((wc.alloc (.cells zr7 24)).heap[wc.heap.size]? = some (.cells zr7 24 (0, 0))) := heap_alloc_new _ _
              go_wp2
              go_meet
              case rel => exact ⟨wc.heap.size, none, 0, rfl, HH9.out, TR.nilR _, HKc.out.below HB9.out⟩
            | true =>
              have hn := HF3.out rfl
              obtain ⟨W9, hW9⟩ : ∃ W9, W9 = wc.alloc (.cells #[.int .i64 0, .string ⟨#[]⟩, .int .i64 0, .int .i64 0, .int .i64 0, .slice none 0 0, .string ⟨#[]⟩] 24) := ⟨_, rfl⟩
              have HK9 : Hid (KS w W9 ⟨kind, at', mode, time, size, ch, tg⟩ (.slice ua ch.length uc) v1 n w2.heap.size (w2.heap.size + 1) (pa, pm, pt, ps, pc) (.slice va pc.length vc) (.slice a7 pc.length c7)) := by
                rw [hW9]; exact HKc.out.below ((Below.refl _ _).alloc (Nat.le_refl _) _)
              have HT9 : Hid (Calls Tryd.prog 9 #[v1] W9 fun e w' => ∃ u, e = .returned (.agg #[.int .i64 2, .string (mkB pa), .int .i64 pm, .int .i64 pt, .int .i64 ps, u, .string (mkB [])]) ∧ OT w' W9.heap.size u pc ∧ Below W9.heap.size W9 w') := by
                have := told12_any n v1 W9 HK9.out.nv (by rw [hn]; exact HF5.out)
                rw [hn] at this
                exact this
              have HW9 : Hid (wc.alloc (.cells #[.int .i64 0, .string ⟨#[]⟩, .int .i64 0, .int .i64 0, .int .i64 0, .slice none 0 0, .string ⟨#[]⟩] 24) = W9) := hW9.symm
              clear hn hW9
              go_wp2_with fail
              rw [HW9.out]
              refine HT9.out.mono ?_
              rintro e V9 ⟨u9, rfl, hO9, hb9⟩
              obtain ⟨a9, c9, rfl⟩ := OT.formN hO9
              have HO9 : Hid (OT V9 W9.heap.size (.slice a9 pc.length c9) pc) := hO9
              have HKV : Hid (KS w V9 ⟨kind, at', mode, time, size, ch, tg⟩ (.slice ua ch.length uc) v1 n w2.heap.size (w2.heap.size + 1) (pa, pm, pt, ps, pc) (.slice va pc.length vc) (.slice a7 pc.length c7)) := HK9.out.below hb9
              have HB9 : Hid (Below V9.heap.size V9 (V9.alloc (.cells (rc7 2 (pa, pm, pt, ps, pc) (.slice a9 pc.length c9)) 24))) := (Below.refl _ _).alloc (Nat.le_refl _) _
              have HH9 : Hid ((V9.alloc (.cells (rc7 2 (pa, pm, pt, ps, pc) (.slice a9 pc.length c9)) 24)).heap[V9.heap.size]? = some (.cells (rc7 2 (pa, pm, pt, ps, pc) (.slice a9 pc.length c9)) 24 (0, 0))) := heap_alloc_new _ _
              clear hO9 hb9 HT9
              go_wp2
              go_meet
              case rel => exact ⟨V9.heap.size, a9, c9, rfl, HH9.out, HO9.out.tr.below HB9.out, HKV.out.below HB9.out⟩
          case rest =>
            obtain ⟨b9, a9, c9, rfl, h9, t9, hks⟩ := hcut
            have HKe : Hid (KS w wc ⟨kind, at', mode, time, size, ch, tg⟩ (.slice ua ch.length uc) v1 n w2.heap.size (w2.heap.size + 1) (pa, pm, pt, ps, pc) (.slice va pc.length vc) (.slice a7 pc.length c7)) := hks
            have H9 : Hid (wc.heap[b9]? = some (.cells (rc7 (if q then 2 else 0) (pa, pm, pt, ps, pc) (.slice a9 pc.length c9)) 24 (0, 0)) ∧ TR wc (.slice a9 pc.length c9) pc) := ⟨h9, t9⟩
            clear hks h9 t9 HKc
            go_upto_region 15 with fail
            generalize wc = V0 at *
            go_cut [10, 11] (fun x y wx => ∃ (b10 b11 : Nat) (u10 u11 : Value), x = .pointer (some ⟨b10, 0, none⟩) ∧ y = .pointer (some ⟨b11, 0, none⟩) ∧ RS V0 wx pc b10 b11 (rc7 2 (pa, pm, pt, ps, pc) u10) (rc7 2 (pa, pm, pt, ps, pc) u11) u10 u11)
            case first =>
              have HCE : Hid (∀ W, Below V0.heap.size V0 W → (W.cell? ⟨w2.heap.size, 0, none⟩ = some (.string (mkB pa)) ∧ W.cell? ⟨w2.heap.size, 1, none⟩ = some (.int .i64 pm) ∧ W.cell? ⟨w2.heap.size, 2, none⟩ = some (.int .i64 pt) ∧ W.cell? ⟨w2.heap.size, 3, none⟩ = some (.int .i64 ps) ∧ W.cell? ⟨w2.heap.size, 4, none⟩ = some (.slice va pc.length vc)) ∧ (W.cell? ⟨w2.heap.size + 1, 0, none⟩ = some (.string (mkB pa)) ∧ W.cell? ⟨w2.heap.size + 1, 1, none⟩ = some (.int .i64 pm) ∧ W.cell? ⟨w2.heap.size + 1, 2, none⟩ = some (.int .i64 pt) ∧ W.cell? ⟨w2.heap.size + 1, 3, none⟩ = some (.int .i64 ps) ∧ W.cell? ⟨w2.heap.size + 1, 4, none⟩ = some (.slice a7 pc.length c7))) := fun W hW => by
                have h := HKe.out.below hW
                obtain ⟨x0, x1, x2, x3, x4, -⟩ := fiveP h.h4
                obtain ⟨y0, y1, y2, y3, y4, -⟩ := fiveP h.h7
                exact ⟨⟨x0, x1, x2, x3, x4⟩, y0, y1, y2, y3, y4⟩
              have HTA : Hid (∀ W, Below V0.heap.size V0 W → Calls Tryd.prog 9 #[.iface 29 (.agg #[.string (mkB pa), .int .i64 pm, .int .i64 pt, .int .i64 ps, .slice va pc.length vc])] W fun e w' => ∃ u, e = .returned (.agg #[.int .i64 2, .string (mkB pa), .int .i64 pm, .int .i64 pt, .int .i64 ps, u, .string (mkB [])]) ∧ OT w' W.heap.size u pc ∧ Below W.heap.size W w') := fun W hW => told12_any (.pla pa pm pt ps pc) _ W ⟨_, rfl, (HKe.out.below hW).t4⟩ HF5.out
              have HTB : Hid (∀ W, Below V0.heap.size V0 W → Calls Tryd.prog 9 #[.iface 29 (.agg #[.string (mkB pa), .int .i64 pm, .int .i64 pt, .int .i64 ps, .slice a7 pc.length c7])] W fun e w' => ∃ u, e = .returned (.agg #[.int .i64 2, .string (mkB pa), .int .i64 pm, .int .i64 pt, .int .i64 ps, u, .string (mkB [])]) ∧ OT w' W.heap.size u pc ∧ Below W.heap.size W w') := fun W hW => told12_any (.pla pa pm pt ps pc) _ W ⟨_, rfl, (HKe.out.below hW).t7⟩ HF5.out
              have hq0 : QS V0 V0.drew pc none none none none := QS.start V0 pc
              refine wp_region_held_drew (S := fun W => Below V0.heap.size V0 W) (by kernel_rfl) hq0.bel (fun hHeld => ?_)
              change wpAnyH _ _ _ _ _ 10 (Array.replicate 10 false) _ _
              refine take_opN (i := 0) rfl (by kernel_rfl) (by kernel_rfl) (by kernel_rfl) (fun _ _ _ _ h => h) 64 rfl (.agg #[.string (mkB pa), .int .i64 pm, .int .i64 pt, .int .i64 ps, .slice va pc.length vc]) (Or.inl ⟨by rfl, by intro w hSw; have hc9 := HCE.out _ hSw; go_split_ands; go_simp⟩) hHeld ?_
              simp only [Act.put, List.setIfInBounds_toArray, List.set_cons_zero, List.set_cons_succ]
              refine take_opN (i := 1) rfl (by kernel_rfl) (by kernel_rfl) (by kernel_rfl) (fun _ _ _ _ h => h) 65 rfl (.iface 29 (.agg #[.string (mkB pa), .int .i64 pm, .int .i64 pt, .int .i64 ps, .slice va pc.length vc])) (Or.inl ⟨by rfl, by intro w hSw; go_simp⟩) hHeld ?_
              simp only [Act.put, List.setIfInBounds_toArray, List.set_cons_zero, List.set_cons_succ]
              refine take_opN (i := 3) rfl (by kernel_rfl) (by kernel_rfl) (by kernel_rfl) (fun _ _ _ _ h => h) 67 rfl (.agg #[.string (mkB pa), .int .i64 pm, .int .i64 pt, .int .i64 ps, .slice a7 pc.length c7]) (Or.inl ⟨by rfl, by intro w hSw; have hc9 := HCE.out _ hSw; go_split_ands; go_simp⟩) hHeld ?_
              simp only [Act.put, List.setIfInBounds_toArray, List.set_cons_zero, List.set_cons_succ]
              refine take_opN (i := 4) rfl (by kernel_rfl) (by kernel_rfl) (by kernel_rfl) (fun _ _ _ _ h => h) 68 rfl (.iface 29 (.agg #[.string (mkB pa), .int .i64 pm, .int .i64 pt, .int .i64 ps, .slice a7 pc.length c7])) (Or.inl ⟨by rfl, by intro w hSw; go_simp⟩) hHeld ?_
              simp only [Act.put, List.setIfInBounds_toArray, List.set_cons_zero, List.set_cons_succ]
              generalize V0.drew = U0 at *
              clear HCE
              refine wpAnyH_ready (rs := [2, 6, 7]) (by kernel_rfl) (by simp) ?_
              refine AllReadyH.cons rfl (fun K hK => ?_) (AllReadyH.cons rfl (fun K hK => ?_) (AllReadyH.cons rfl (fun K hK => ?_) AllReadyH.nil))
              · go_simp
                go_at_call 9
                refine (HTA.out _ hHeld).mono ?_
                rintro e V2 ⟨u10, rfl, hO2, hb2⟩
                obtain ⟨aa2, cc2, rfl⟩ := OT.formN hO2
                replace hq0 := hq0.ca10 hO2 hb2
                clear hO2 hb2 hHeld
                go_wp2_with fail
                refine hK.out _ _ hq0.bel (fun hHeld => ?_)
                clear hK K
                refine wpAnyH_ready (rs := [5, 6, 7]) (by kernel_rfl) (by simp) ?_
                refine AllReadyH.cons rfl (fun K hK => ?_) (AllReadyH.cons rfl (fun K hK => ?_) (AllReadyH.cons rfl (fun K hK => ?_) AllReadyH.nil))
                · go_simp
                  go_at_call 9
                  refine (HTB.out _ hHeld).mono ?_
                  rintro e V5 ⟨u11, rfl, hO5, hb5⟩
                  obtain ⟨aa5, cc5, rfl⟩ := OT.formN hO5
                  replace hq0 := hq0.ca11 hO5 hb5
                  clear hO5 hb5 hHeld
                  go_wp2_with fail
                  refine hK.out _ _ hq0.bel (fun hHeld => ?_)
                  clear hK K
                  refine wpAnyH_ready (rs := [6, 7]) (by kernel_rfl) (by simp) ?_
                  refine AllReadyH.cons rfl (fun K hK => ?_) (AllReadyH.cons rfl (fun K hK => ?_) AllReadyH.nil)
                  · refine armN rfl ?_
                    go_simp
                    replace hq0 := hq0.al10
                    clear hHeld
                    refine hK.out _ _ hq0.bel (fun hHeld => ?_)
                    clear hK K
                    unfold zr7 at hq0
                    generalize World.alloc _ _ = U6 at *
                    refine wpAnyH_ready (rs := [7]) (by kernel_rfl) (by simp) ?_
                    refine AllReadyH.cons rfl (fun K hK => ?_) AllReadyH.nil
                    refine armN rfl ?_
                    go_simp
                    replace hq0 := hq0.al11
                    clear hHeld
                    refine hK.out _ _ hq0.bel (fun hHeld => ?_)
                    clear hK K
                    unfold zr7 at hq0
                    generalize World.alloc _ _ = U7 at *
                    have h10 := (hq0.a10 _ rfl).1
                    obtain ⟨hg1, hh1⟩ := pt7_facts h10 2 (pa, pm, pt, ps, pc) (.slice aa2 pc.length cc2)
                    have hr1 := hq0.rs.set hg1 hh1
                    unfold zr7 at h10
                    obtain ⟨s0, s1, s2, s3, s4, s5, s6, p0, p1, p2, p3, p4, p5, p6⟩ := seven h10
                    clear hg1 hh1 hHeld hq0 h10
                    refine wpAnyH_ready (rs := [8]) (by kernel_rfl) (by simp) ?_
                    refine AllReadyH.cons rfl (fun K hK => ?_) AllReadyH.nil
                    refine armN rfl ?_
                    go_simp
                    refine hK.out _ _ hr1.bel (fun hHeld => ?_)
                    clear hK K s0 s1 s2 s3 s4 s5 s6 p0 p1 p2 p3 p4 p5 p6
                    change wpAnyH _ _ _ _ _ _ _ _ (pt7 _ _ 2 (pa, pm, pt, ps, pc) (.slice aa2 pc.length cc2))
                    generalize pt7 _ _ 2 (pa, pm, pt, ps, pc) (.slice aa2 pc.length cc2) = Z1 at *
                    have h11 := hr1.h11
                    obtain ⟨hg1, hh1⟩ := pt7_facts h11 2 (pa, pm, pt, ps, pc) (.slice aa5 pc.length cc5)
                    have hr2 := (hr1.swap.set hg1 hh1).swap
                    unfold zr7 at h11
                    obtain ⟨s0, s1, s2, s3, s4, s5, s6, p0, p1, p2, p3, p4, p5, p6⟩ := seven h11
                    clear hg1 hh1 hHeld hr1 h11
                    refine wpAnyH_ready (rs := [9]) (by kernel_rfl) (by simp) ?_
                    refine AllReadyH.cons rfl (fun K hK => ?_) AllReadyH.nil
                    refine armN rfl ?_
                    go_simp
                    refine hK.out _ _ hr2.bel (fun hHeld => ?_)
                    clear hK K s0 s1 s2 s3 s4 s5 s6 p0 p1 p2 p3 p4 p5 p6
                    change wpAnyH _ _ _ _ _ _ _ _ (pt7 _ _ 2 (pa, pm, pt, ps, pc) (.slice aa5 pc.length cc5))
                    generalize pt7 _ _ 2 (pa, pm, pt, ps, pc) (.slice aa5 pc.length cc5) = Z2 at *
                    refine wpAnyH_done (by kernel_rfl) ?_ _
                    go_wp2
                    go_meet
                    case rel => exact ⟨_, _, _, _, rfl, rfl, hr2⟩
                  · refine armN rfl ?_
                    go_simp
                    replace hq0 := hq0.al11
                    clear hHeld
                    refine hK.out _ _ hq0.bel (fun hHeld => ?_)
                    clear hK K
                    unfold zr7 at hq0
                    generalize World.alloc _ _ = U7 at *
                    refine wpAnyH_ready (rs := [6]) (by kernel_rfl) (by simp) ?_
                    refine AllReadyH.cons rfl (fun K hK => ?_) AllReadyH.nil
                    refine armN rfl ?_
                    go_simp
                    replace hq0 := hq0.al10
                    clear hHeld
                    refine hK.out _ _ hq0.bel (fun hHeld => ?_)
                    clear hK K
                    unfold zr7 at hq0
                    generalize World.alloc _ _ = U6 at *
                    have h10 := (hq0.a10 _ rfl).1
                    obtain ⟨hg1, hh1⟩ := pt7_facts h10 2 (pa, pm, pt, ps, pc) (.slice aa2 pc.length cc2)
                    have hr1 := hq0.rs.set hg1 hh1
                    unfold zr7 at h10
                    obtain ⟨s0, s1, s2, s3, s4, s5, s6, p0, p1, p2, p3, p4, p5, p6⟩ := seven h10
                    clear hg1 hh1 hHeld hq0 h10
                    refine wpAnyH_ready (rs := [8]) (by kernel_rfl) (by simp) ?_
                    refine AllReadyH.cons rfl (fun K hK => ?_) AllReadyH.nil
                    refine armN rfl ?_
                    go_simp
                    refine hK.out _ _ hr1.bel (fun hHeld => ?_)
                    clear hK K s0 s1 s2 s3 s4 s5 s6 p0 p1 p2 p3 p4 p5 p6
                    change wpAnyH _ _ _ _ _ _ _ _ (pt7 _ _ 2 (pa, pm, pt, ps, pc) (.slice aa2 pc.length cc2))
                    generalize pt7 _ _ 2 (pa, pm, pt, ps, pc) (.slice aa2 pc.length cc2) = Z1 at *
                    have h11 := hr1.h11
                    obtain ⟨hg1, hh1⟩ := pt7_facts h11 2 (pa, pm, pt, ps, pc) (.slice aa5 pc.length cc5)
                    have hr2 := (hr1.swap.set hg1 hh1).swap
                    unfold zr7 at h11
                    obtain ⟨s0, s1, s2, s3, s4, s5, s6, p0, p1, p2, p3, p4, p5, p6⟩ := seven h11
                    clear hg1 hh1 hHeld hr1 h11
                    refine wpAnyH_ready (rs := [9]) (by kernel_rfl) (by simp) ?_
                    refine AllReadyH.cons rfl (fun K hK => ?_) AllReadyH.nil
                    refine armN rfl ?_
                    go_simp
                    refine hK.out _ _ hr2.bel (fun hHeld => ?_)
                    clear hK K s0 s1 s2 s3 s4 s5 s6 p0 p1 p2 p3 p4 p5 p6
                    change wpAnyH _ _ _ _ _ _ _ _ (pt7 _ _ 2 (pa, pm, pt, ps, pc) (.slice aa5 pc.length cc5))
                    generalize pt7 _ _ 2 (pa, pm, pt, ps, pc) (.slice aa5 pc.length cc5) = Z2 at *
                    refine wpAnyH_done (by kernel_rfl) ?_ _
                    go_wp2
                    go_meet
                    case rel => exact ⟨_, _, _, _, rfl, rfl, hr2⟩
                · refine armN rfl ?_
                  go_simp
                  replace hq0 := hq0.al10
                  clear hHeld
                  refine hK.out _ _ hq0.bel (fun hHeld => ?_)
                  clear hK K
                  unfold zr7 at hq0
                  generalize World.alloc _ _ = U6 at *
                  refine wpAnyH_ready (rs := [5, 7]) (by kernel_rfl) (by simp) ?_
                  refine AllReadyH.cons rfl (fun K hK => ?_) (AllReadyH.cons rfl (fun K hK => ?_) AllReadyH.nil)
                  · go_simp
                    go_at_call 9
                    refine (HTB.out _ hHeld).mono ?_
                    rintro e V5 ⟨u11, rfl, hO5, hb5⟩
                    obtain ⟨aa5, cc5, rfl⟩ := OT.formN hO5
                    replace hq0 := hq0.ca11 hO5 hb5
                    clear hO5 hb5 hHeld
                    go_wp2_with fail
                    refine hK.out _ _ hq0.bel (fun hHeld => ?_)
                    clear hK K
                    refine wpAnyH_ready (rs := [7]) (by kernel_rfl) (by simp) ?_
                    refine AllReadyH.cons rfl (fun K hK => ?_) AllReadyH.nil
                    refine armN rfl ?_
                    go_simp
                    replace hq0 := hq0.al11
                    clear hHeld
                    refine hK.out _ _ hq0.bel (fun hHeld => ?_)
                    clear hK K
                    unfold zr7 at hq0
                    generalize World.alloc _ _ = U7 at *
                    have h10 := (hq0.a10 _ rfl).1
                    obtain ⟨hg1, hh1⟩ := pt7_facts h10 2 (pa, pm, pt, ps, pc) (.slice aa2 pc.length cc2)
                    have hr1 := hq0.rs.set hg1 hh1
                    unfold zr7 at h10
                    obtain ⟨s0, s1, s2, s3, s4, s5, s6, p0, p1, p2, p3, p4, p5, p6⟩ := seven h10
                    clear hg1 hh1 hHeld hq0 h10
                    refine wpAnyH_ready (rs := [8]) (by kernel_rfl) (by simp) ?_
                    refine AllReadyH.cons rfl (fun K hK => ?_) AllReadyH.nil
                    refine armN rfl ?_
                    go_simp
                    refine hK.out _ _ hr1.bel (fun hHeld => ?_)
                    clear hK K s0 s1 s2 s3 s4 s5 s6 p0 p1 p2 p3 p4 p5 p6
                    change wpAnyH _ _ _ _ _ _ _ _ (pt7 _ _ 2 (pa, pm, pt, ps, pc) (.slice aa2 pc.length cc2))
                    generalize pt7 _ _ 2 (pa, pm, pt, ps, pc) (.slice aa2 pc.length cc2) = Z1 at *
                    have h11 := hr1.h11
                    obtain ⟨hg1, hh1⟩ := pt7_facts h11 2 (pa, pm, pt, ps, pc) (.slice aa5 pc.length cc5)
                    have hr2 := (hr1.swap.set hg1 hh1).swap
                    unfold zr7 at h11
                    obtain ⟨s0, s1, s2, s3, s4, s5, s6, p0, p1, p2, p3, p4, p5, p6⟩ := seven h11
                    clear hg1 hh1 hHeld hr1 h11
                    refine wpAnyH_ready (rs := [9]) (by kernel_rfl) (by simp) ?_
                    refine AllReadyH.cons rfl (fun K hK => ?_) AllReadyH.nil
                    refine armN rfl ?_
                    go_simp
                    refine hK.out _ _ hr2.bel (fun hHeld => ?_)
                    clear hK K s0 s1 s2 s3 s4 s5 s6 p0 p1 p2 p3 p4 p5 p6
                    change wpAnyH _ _ _ _ _ _ _ _ (pt7 _ _ 2 (pa, pm, pt, ps, pc) (.slice aa5 pc.length cc5))
                    generalize pt7 _ _ 2 (pa, pm, pt, ps, pc) (.slice aa5 pc.length cc5) = Z2 at *
                    refine wpAnyH_done (by kernel_rfl) ?_ _
                    go_wp2
                    go_meet
                    case rel => exact ⟨_, _, _, _, rfl, rfl, hr2⟩
                  · refine armN rfl ?_
                    go_simp
                    replace hq0 := hq0.al11
                    clear hHeld
                    refine hK.out _ _ hq0.bel (fun hHeld => ?_)
                    clear hK K
                    unfold zr7 at hq0
                    generalize World.alloc _ _ = U7 at *
                    refine wpAnyH_ready (rs := [5]) (by kernel_rfl) (by simp) ?_
                    refine AllReadyH.cons rfl (fun K hK => ?_) AllReadyH.nil
                    go_simp
                    go_at_call 9
                    refine (HTB.out _ hHeld).mono ?_
                    rintro e V5 ⟨u11, rfl, hO5, hb5⟩
                    obtain ⟨aa5, cc5, rfl⟩ := OT.formN hO5
                    replace hq0 := hq0.ca11 hO5 hb5
                    clear hO5 hb5 hHeld
                    go_wp2_with fail
                    refine hK.out _ _ hq0.bel (fun hHeld => ?_)
                    clear hK K
                    have h10 := (hq0.a10 _ rfl).1
                    obtain ⟨hg1, hh1⟩ := pt7_facts h10 2 (pa, pm, pt, ps, pc) (.slice aa2 pc.length cc2)
                    have hr1 := hq0.rs.set hg1 hh1
                    unfold zr7 at h10
                    obtain ⟨s0, s1, s2, s3, s4, s5, s6, p0, p1, p2, p3, p4, p5, p6⟩ := seven h10
                    clear hg1 hh1 hHeld hq0 h10
                    refine wpAnyH_ready (rs := [8]) (by kernel_rfl) (by simp) ?_
                    refine AllReadyH.cons rfl (fun K hK => ?_) AllReadyH.nil
                    refine armN rfl ?_
                    go_simp
                    refine hK.out _ _ hr1.bel (fun hHeld => ?_)
                    clear hK K s0 s1 s2 s3 s4 s5 s6 p0 p1 p2 p3 p4 p5 p6
                    change wpAnyH _ _ _ _ _ _ _ _ (pt7 _ _ 2 (pa, pm, pt, ps, pc) (.slice aa2 pc.length cc2))
                    generalize pt7 _ _ 2 (pa, pm, pt, ps, pc) (.slice aa2 pc.length cc2) = Z1 at *
                    have h11 := hr1.h11
                    obtain ⟨hg1, hh1⟩ := pt7_facts h11 2 (pa, pm, pt, ps, pc) (.slice aa5 pc.length cc5)
                    have hr2 := (hr1.swap.set hg1 hh1).swap
                    unfold zr7 at h11
                    obtain ⟨s0, s1, s2, s3, s4, s5, s6, p0, p1, p2, p3, p4, p5, p6⟩ := seven h11
                    clear hg1 hh1 hHeld hr1 h11
                    refine wpAnyH_ready (rs := [9]) (by kernel_rfl) (by simp) ?_
                    refine AllReadyH.cons rfl (fun K hK => ?_) AllReadyH.nil
                    refine armN rfl ?_
                    go_simp
                    refine hK.out _ _ hr2.bel (fun hHeld => ?_)
                    clear hK K s0 s1 s2 s3 s4 s5 s6 p0 p1 p2 p3 p4 p5 p6
                    change wpAnyH _ _ _ _ _ _ _ _ (pt7 _ _ 2 (pa, pm, pt, ps, pc) (.slice aa5 pc.length cc5))
                    generalize pt7 _ _ 2 (pa, pm, pt, ps, pc) (.slice aa5 pc.length cc5) = Z2 at *
                    refine wpAnyH_done (by kernel_rfl) ?_ _
                    go_wp2
                    go_meet
                    case rel => exact ⟨_, _, _, _, rfl, rfl, hr2⟩
                · refine armN rfl ?_
                  go_simp
                  replace hq0 := hq0.al11
                  clear hHeld
                  refine hK.out _ _ hq0.bel (fun hHeld => ?_)
                  clear hK K
                  unfold zr7 at hq0
                  generalize World.alloc _ _ = U7 at *
                  refine wpAnyH_ready (rs := [5, 6]) (by kernel_rfl) (by simp) ?_
                  refine AllReadyH.cons rfl (fun K hK => ?_) (AllReadyH.cons rfl (fun K hK => ?_) AllReadyH.nil)
                  · go_simp
                    go_at_call 9
                    refine (HTB.out _ hHeld).mono ?_
                    rintro e V5 ⟨u11, rfl, hO5, hb5⟩
                    obtain ⟨aa5, cc5, rfl⟩ := OT.formN hO5
                    replace hq0 := hq0.ca11 hO5 hb5
                    clear hO5 hb5 hHeld
                    go_wp2_with fail
                    refine hK.out _ _ hq0.bel (fun hHeld => ?_)
                    clear hK K
                    refine wpAnyH_ready (rs := [6]) (by kernel_rfl) (by simp) ?_
                    refine AllReadyH.cons rfl (fun K hK => ?_) AllReadyH.nil
                    refine armN rfl ?_
                    go_simp
                    replace hq0 := hq0.al10
                    clear hHeld
                    refine hK.out _ _ hq0.bel (fun hHeld => ?_)
                    clear hK K
                    unfold zr7 at hq0
                    generalize World.alloc _ _ = U6 at *
                    have h10 := (hq0.a10 _ rfl).1
                    obtain ⟨hg1, hh1⟩ := pt7_facts h10 2 (pa, pm, pt, ps, pc) (.slice aa2 pc.length cc2)
                    have hr1 := hq0.rs.set hg1 hh1
                    unfold zr7 at h10
                    obtain ⟨s0, s1, s2, s3, s4, s5, s6, p0, p1, p2, p3, p4, p5, p6⟩ := seven h10
                    clear hg1 hh1 hHeld hq0 h10
                    refine wpAnyH_ready (rs := [8]) (by kernel_rfl) (by simp) ?_
                    refine AllReadyH.cons rfl (fun K hK => ?_) AllReadyH.nil
                    refine armN rfl ?_
                    go_simp
                    refine hK.out _ _ hr1.bel (fun hHeld => ?_)
                    clear hK K s0 s1 s2 s3 s4 s5 s6 p0 p1 p2 p3 p4 p5 p6
                    change wpAnyH _ _ _ _ _ _ _ _ (pt7 _ _ 2 (pa, pm, pt, ps, pc) (.slice aa2 pc.length cc2))
                    generalize pt7 _ _ 2 (pa, pm, pt, ps, pc) (.slice aa2 pc.length cc2) = Z1 at *
                    have h11 := hr1.h11
                    obtain ⟨hg1, hh1⟩ := pt7_facts h11 2 (pa, pm, pt, ps, pc) (.slice aa5 pc.length cc5)
                    have hr2 := (hr1.swap.set hg1 hh1).swap
                    unfold zr7 at h11
                    obtain ⟨s0, s1, s2, s3, s4, s5, s6, p0, p1, p2, p3, p4, p5, p6⟩ := seven h11
                    clear hg1 hh1 hHeld hr1 h11
                    refine wpAnyH_ready (rs := [9]) (by kernel_rfl) (by simp) ?_
                    refine AllReadyH.cons rfl (fun K hK => ?_) AllReadyH.nil
                    refine armN rfl ?_
                    go_simp
                    refine hK.out _ _ hr2.bel (fun hHeld => ?_)
                    clear hK K s0 s1 s2 s3 s4 s5 s6 p0 p1 p2 p3 p4 p5 p6
                    change wpAnyH _ _ _ _ _ _ _ _ (pt7 _ _ 2 (pa, pm, pt, ps, pc) (.slice aa5 pc.length cc5))
                    generalize pt7 _ _ 2 (pa, pm, pt, ps, pc) (.slice aa5 pc.length cc5) = Z2 at *
                    refine wpAnyH_done (by kernel_rfl) ?_ _
                    go_wp2
                    go_meet
                    case rel => exact ⟨_, _, _, _, rfl, rfl, hr2⟩
                  · refine armN rfl ?_
                    go_simp
                    replace hq0 := hq0.al10
                    clear hHeld
                    refine hK.out _ _ hq0.bel (fun hHeld => ?_)
                    clear hK K
                    unfold zr7 at hq0
                    generalize World.alloc _ _ = U6 at *
                    refine wpAnyH_ready (rs := [5]) (by kernel_rfl) (by simp) ?_
                    refine AllReadyH.cons rfl (fun K hK => ?_) AllReadyH.nil
                    go_simp
                    go_at_call 9
                    refine (HTB.out _ hHeld).mono ?_
                    rintro e V5 ⟨u11, rfl, hO5, hb5⟩
                    obtain ⟨aa5, cc5, rfl⟩ := OT.formN hO5
                    replace hq0 := hq0.ca11 hO5 hb5
                    clear hO5 hb5 hHeld
                    go_wp2_with fail
                    refine hK.out _ _ hq0.bel (fun hHeld => ?_)
                    clear hK K
                    have h10 := (hq0.a10 _ rfl).1
                    obtain ⟨hg1, hh1⟩ := pt7_facts h10 2 (pa, pm, pt, ps, pc) (.slice aa2 pc.length cc2)
                    have hr1 := hq0.rs.set hg1 hh1
                    unfold zr7 at h10
                    obtain ⟨s0, s1, s2, s3, s4, s5, s6, p0, p1, p2, p3, p4, p5, p6⟩ := seven h10
                    clear hg1 hh1 hHeld hq0 h10
                    refine wpAnyH_ready (rs := [8]) (by kernel_rfl) (by simp) ?_
                    refine AllReadyH.cons rfl (fun K hK => ?_) AllReadyH.nil
                    refine armN rfl ?_
                    go_simp
                    refine hK.out _ _ hr1.bel (fun hHeld => ?_)
                    clear hK K s0 s1 s2 s3 s4 s5 s6 p0 p1 p2 p3 p4 p5 p6
                    change wpAnyH _ _ _ _ _ _ _ _ (pt7 _ _ 2 (pa, pm, pt, ps, pc) (.slice aa2 pc.length cc2))
                    generalize pt7 _ _ 2 (pa, pm, pt, ps, pc) (.slice aa2 pc.length cc2) = Z1 at *
                    have h11 := hr1.h11
                    obtain ⟨hg1, hh1⟩ := pt7_facts h11 2 (pa, pm, pt, ps, pc) (.slice aa5 pc.length cc5)
                    have hr2 := (hr1.swap.set hg1 hh1).swap
                    unfold zr7 at h11
                    obtain ⟨s0, s1, s2, s3, s4, s5, s6, p0, p1, p2, p3, p4, p5, p6⟩ := seven h11
                    clear hg1 hh1 hHeld hr1 h11
                    refine wpAnyH_ready (rs := [9]) (by kernel_rfl) (by simp) ?_
                    refine AllReadyH.cons rfl (fun K hK => ?_) AllReadyH.nil
                    refine armN rfl ?_
                    go_simp
                    refine hK.out _ _ hr2.bel (fun hHeld => ?_)
                    clear hK K s0 s1 s2 s3 s4 s5 s6 p0 p1 p2 p3 p4 p5 p6
                    change wpAnyH _ _ _ _ _ _ _ _ (pt7 _ _ 2 (pa, pm, pt, ps, pc) (.slice aa5 pc.length cc5))
                    generalize pt7 _ _ 2 (pa, pm, pt, ps, pc) (.slice aa5 pc.length cc5) = Z2 at *
                    refine wpAnyH_done (by kernel_rfl) ?_ _
                    go_wp2
                    go_meet
                    case rel => exact ⟨_, _, _, _, rfl, rfl, hr2⟩
              · refine armN rfl ?_
                go_simp
                replace hq0 := hq0.al10
                clear hHeld
                refine hK.out _ _ hq0.bel (fun hHeld => ?_)
                clear hK K
                unfold zr7 at hq0
                generalize World.alloc _ _ = U6 at *
                refine wpAnyH_ready (rs := [2, 7]) (by kernel_rfl) (by simp) ?_
                refine AllReadyH.cons rfl (fun K hK => ?_) (AllReadyH.cons rfl (fun K hK => ?_) AllReadyH.nil)
                · go_simp
                  go_at_call 9
                  refine (HTA.out _ hHeld).mono ?_
                  rintro e V2 ⟨u10, rfl, hO2, hb2⟩
                  obtain ⟨aa2, cc2, rfl⟩ := OT.formN hO2
                  replace hq0 := hq0.ca10 hO2 hb2
                  clear hO2 hb2 hHeld
                  go_wp2_with fail
                  refine hK.out _ _ hq0.bel (fun hHeld => ?_)
                  clear hK K
                  refine wpAnyH_ready (rs := [5, 7]) (by kernel_rfl) (by simp) ?_
                  refine AllReadyH.cons rfl (fun K hK => ?_) (AllReadyH.cons rfl (fun K hK => ?_) AllReadyH.nil)
                  · go_simp
                    go_at_call 9
                    refine (HTB.out _ hHeld).mono ?_
                    rintro e V5 ⟨u11, rfl, hO5, hb5⟩
                    obtain ⟨aa5, cc5, rfl⟩ := OT.formN hO5
                    replace hq0 := hq0.ca11 hO5 hb5
                    clear hO5 hb5 hHeld
                    go_wp2_with fail
                    refine hK.out _ _ hq0.bel (fun hHeld => ?_)
                    clear hK K
                    refine wpAnyH_ready (rs := [7]) (by kernel_rfl) (by simp) ?_
                    refine AllReadyH.cons rfl (fun K hK => ?_) AllReadyH.nil
                    refine armN rfl ?_
                    go_simp
                    replace hq0 := hq0.al11
                    clear hHeld
                    refine hK.out _ _ hq0.bel (fun hHeld => ?_)
                    clear hK K
                    unfold zr7 at hq0
                    generalize World.alloc _ _ = U7 at *
                    have h10 := (hq0.a10 _ rfl).1
                    obtain ⟨hg1, hh1⟩ := pt7_facts h10 2 (pa, pm, pt, ps, pc) (.slice aa2 pc.length cc2)
                    have hr1 := hq0.rs.set hg1 hh1
                    unfold zr7 at h10
                    obtain ⟨s0, s1, s2, s3, s4, s5, s6, p0, p1, p2, p3, p4, p5, p6⟩ := seven h10
                    clear hg1 hh1 hHeld hq0 h10
                    refine wpAnyH_ready (rs := [8]) (by kernel_rfl) (by simp) ?_
                    refine AllReadyH.cons rfl (fun K hK => ?_) AllReadyH.nil
                    refine armN rfl ?_
                    go_simp
                    refine hK.out _ _ hr1.bel (fun hHeld => ?_)
                    clear hK K s0 s1 s2 s3 s4 s5 s6 p0 p1 p2 p3 p4 p5 p6
                    change wpAnyH _ _ _ _ _ _ _ _ (pt7 _ _ 2 (pa, pm, pt, ps, pc) (.slice aa2 pc.length cc2))
                    generalize pt7 _ _ 2 (pa, pm, pt, ps, pc) (.slice aa2 pc.length cc2) = Z1 at *
                    have h11 := hr1.h11
                    obtain ⟨hg1, hh1⟩ := pt7_facts h11 2 (pa, pm, pt, ps, pc) (.slice aa5 pc.length cc5)
                    have hr2 := (hr1.swap.set hg1 hh1).swap
                    unfold zr7 at h11
                    obtain ⟨s0, s1, s2, s3, s4, s5, s6, p0, p1, p2, p3, p4, p5, p6⟩ := seven h11
                    clear hg1 hh1 hHeld hr1 h11
                    refine wpAnyH_ready (rs := [9]) (by kernel_rfl) (by simp) ?_
                    refine AllReadyH.cons rfl (fun K hK => ?_) AllReadyH.nil
                    refine armN rfl ?_
                    go_simp
                    refine hK.out _ _ hr2.bel (fun hHeld => ?_)
                    clear hK K s0 s1 s2 s3 s4 s5 s6 p0 p1 p2 p3 p4 p5 p6
                    change wpAnyH _ _ _ _ _ _ _ _ (pt7 _ _ 2 (pa, pm, pt, ps, pc) (.slice aa5 pc.length cc5))
                    generalize pt7 _ _ 2 (pa, pm, pt, ps, pc) (.slice aa5 pc.length cc5) = Z2 at *
                    refine wpAnyH_done (by kernel_rfl) ?_ _
                    go_wp2
                    go_meet
                    case rel => exact ⟨_, _, _, _, rfl, rfl, hr2⟩
                  · refine armN rfl ?_
                    go_simp
                    replace hq0 := hq0.al11
                    clear hHeld
                    refine hK.out _ _ hq0.bel (fun hHeld => ?_)
                    clear hK K
                    unfold zr7 at hq0
                    generalize World.alloc _ _ = U7 at *
                    refine wpAnyH_ready (rs := [5]) (by kernel_rfl) (by simp) ?_
                    refine AllReadyH.cons rfl (fun K hK => ?_) AllReadyH.nil
                    go_simp
                    go_at_call 9
                    refine (HTB.out _ hHeld).mono ?_
                    rintro e V5 ⟨u11, rfl, hO5, hb5⟩
                    obtain ⟨aa5, cc5, rfl⟩ := OT.formN hO5
                    replace hq0 := hq0.ca11 hO5 hb5
                    clear hO5 hb5 hHeld
                    go_wp2_with fail
                    refine hK.out _ _ hq0.bel (fun hHeld => ?_)
                    clear hK K
                    have h10 := (hq0.a10 _ rfl).1
                    obtain ⟨hg1, hh1⟩ := pt7_facts h10 2 (pa, pm, pt, ps, pc) (.slice aa2 pc.length cc2)
                    have hr1 := hq0.rs.set hg1 hh1
                    unfold zr7 at h10
                    obtain ⟨s0, s1, s2, s3, s4, s5, s6, p0, p1, p2, p3, p4, p5, p6⟩ := seven h10
                    clear hg1 hh1 hHeld hq0 h10
                    refine wpAnyH_ready (rs := [8]) (by kernel_rfl) (by simp) ?_
                    refine AllReadyH.cons rfl (fun K hK => ?_) AllReadyH.nil
                    refine armN rfl ?_
                    go_simp
                    refine hK.out _ _ hr1.bel (fun hHeld => ?_)
                    clear hK K s0 s1 s2 s3 s4 s5 s6 p0 p1 p2 p3 p4 p5 p6
                    change wpAnyH _ _ _ _ _ _ _ _ (pt7 _ _ 2 (pa, pm, pt, ps, pc) (.slice aa2 pc.length cc2))
                    generalize pt7 _ _ 2 (pa, pm, pt, ps, pc) (.slice aa2 pc.length cc2) = Z1 at *
                    have h11 := hr1.h11
                    obtain ⟨hg1, hh1⟩ := pt7_facts h11 2 (pa, pm, pt, ps, pc) (.slice aa5 pc.length cc5)
                    have hr2 := (hr1.swap.set hg1 hh1).swap
                    unfold zr7 at h11
                    obtain ⟨s0, s1, s2, s3, s4, s5, s6, p0, p1, p2, p3, p4, p5, p6⟩ := seven h11
                    clear hg1 hh1 hHeld hr1 h11
                    refine wpAnyH_ready (rs := [9]) (by kernel_rfl) (by simp) ?_
                    refine AllReadyH.cons rfl (fun K hK => ?_) AllReadyH.nil
                    refine armN rfl ?_
                    go_simp
                    refine hK.out _ _ hr2.bel (fun hHeld => ?_)
                    clear hK K s0 s1 s2 s3 s4 s5 s6 p0 p1 p2 p3 p4 p5 p6
                    change wpAnyH _ _ _ _ _ _ _ _ (pt7 _ _ 2 (pa, pm, pt, ps, pc) (.slice aa5 pc.length cc5))
                    generalize pt7 _ _ 2 (pa, pm, pt, ps, pc) (.slice aa5 pc.length cc5) = Z2 at *
                    refine wpAnyH_done (by kernel_rfl) ?_ _
                    go_wp2
                    go_meet
                    case rel => exact ⟨_, _, _, _, rfl, rfl, hr2⟩
                · refine armN rfl ?_
                  go_simp
                  replace hq0 := hq0.al11
                  clear hHeld
                  refine hK.out _ _ hq0.bel (fun hHeld => ?_)
                  clear hK K
                  unfold zr7 at hq0
                  generalize World.alloc _ _ = U7 at *
                  refine wpAnyH_ready (rs := [2]) (by kernel_rfl) (by simp) ?_
                  refine AllReadyH.cons rfl (fun K hK => ?_) AllReadyH.nil
                  go_simp
                  go_at_call 9
                  refine (HTA.out _ hHeld).mono ?_
                  rintro e V2 ⟨u10, rfl, hO2, hb2⟩
                  obtain ⟨aa2, cc2, rfl⟩ := OT.formN hO2
                  replace hq0 := hq0.ca10 hO2 hb2
                  clear hO2 hb2 hHeld
                  go_wp2_with fail
                  refine hK.out _ _ hq0.bel (fun hHeld => ?_)
                  clear hK K
                  refine wpAnyH_ready (rs := [5]) (by kernel_rfl) (by simp) ?_
                  refine AllReadyH.cons rfl (fun K hK => ?_) AllReadyH.nil
                  go_simp
                  go_at_call 9
                  refine (HTB.out _ hHeld).mono ?_
                  rintro e V5 ⟨u11, rfl, hO5, hb5⟩
                  obtain ⟨aa5, cc5, rfl⟩ := OT.formN hO5
                  replace hq0 := hq0.ca11 hO5 hb5
                  clear hO5 hb5 hHeld
                  go_wp2_with fail
                  refine hK.out _ _ hq0.bel (fun hHeld => ?_)
                  clear hK K
                  have h10 := (hq0.a10 _ rfl).1
                  obtain ⟨hg1, hh1⟩ := pt7_facts h10 2 (pa, pm, pt, ps, pc) (.slice aa2 pc.length cc2)
                  have hr1 := hq0.rs.set hg1 hh1
                  unfold zr7 at h10
                  obtain ⟨s0, s1, s2, s3, s4, s5, s6, p0, p1, p2, p3, p4, p5, p6⟩ := seven h10
                  clear hg1 hh1 hHeld hq0 h10
                  refine wpAnyH_ready (rs := [8]) (by kernel_rfl) (by simp) ?_
                  refine AllReadyH.cons rfl (fun K hK => ?_) AllReadyH.nil
                  refine armN rfl ?_
                  go_simp
                  refine hK.out _ _ hr1.bel (fun hHeld => ?_)
                  clear hK K s0 s1 s2 s3 s4 s5 s6 p0 p1 p2 p3 p4 p5 p6
                  change wpAnyH _ _ _ _ _ _ _ _ (pt7 _ _ 2 (pa, pm, pt, ps, pc) (.slice aa2 pc.length cc2))
                  generalize pt7 _ _ 2 (pa, pm, pt, ps, pc) (.slice aa2 pc.length cc2) = Z1 at *
                  have h11 := hr1.h11
                  obtain ⟨hg1, hh1⟩ := pt7_facts h11 2 (pa, pm, pt, ps, pc) (.slice aa5 pc.length cc5)
                  have hr2 := (hr1.swap.set hg1 hh1).swap
                  unfold zr7 at h11
                  obtain ⟨s0, s1, s2, s3, s4, s5, s6, p0, p1, p2, p3, p4, p5, p6⟩ := seven h11
                  clear hg1 hh1 hHeld hr1 h11
                  refine wpAnyH_ready (rs := [9]) (by kernel_rfl) (by simp) ?_
                  refine AllReadyH.cons rfl (fun K hK => ?_) AllReadyH.nil
                  refine armN rfl ?_
                  go_simp
                  refine hK.out _ _ hr2.bel (fun hHeld => ?_)
                  clear hK K s0 s1 s2 s3 s4 s5 s6 p0 p1 p2 p3 p4 p5 p6
                  change wpAnyH _ _ _ _ _ _ _ _ (pt7 _ _ 2 (pa, pm, pt, ps, pc) (.slice aa5 pc.length cc5))
                  generalize pt7 _ _ 2 (pa, pm, pt, ps, pc) (.slice aa5 pc.length cc5) = Z2 at *
                  refine wpAnyH_done (by kernel_rfl) ?_ _
                  go_wp2
                  go_meet
                  case rel => exact ⟨_, _, _, _, rfl, rfl, hr2⟩
              · refine armN rfl ?_
                go_simp
                replace hq0 := hq0.al11
                clear hHeld
                refine hK.out _ _ hq0.bel (fun hHeld => ?_)
                clear hK K
                unfold zr7 at hq0
                generalize World.alloc _ _ = U7 at *
                refine wpAnyH_ready (rs := [2, 6]) (by kernel_rfl) (by simp) ?_
                refine AllReadyH.cons rfl (fun K hK => ?_) (AllReadyH.cons rfl (fun K hK => ?_) AllReadyH.nil)
                · go_simp
                  go_at_call 9
                  refine (HTA.out _ hHeld).mono ?_
                  rintro e V2 ⟨u10, rfl, hO2, hb2⟩
                  obtain ⟨aa2, cc2, rfl⟩ := OT.formN hO2
                  replace hq0 := hq0.ca10 hO2 hb2
                  clear hO2 hb2 hHeld
                  go_wp2_with fail
                  refine hK.out _ _ hq0.bel (fun hHeld => ?_)
                  clear hK K
                  refine wpAnyH_ready (rs := [5, 6]) (by kernel_rfl) (by simp) ?_
                  refine AllReadyH.cons rfl (fun K hK => ?_) (AllReadyH.cons rfl (fun K hK => ?_) AllReadyH.nil)
                  · go_simp
                    go_at_call 9
                    refine (HTB.out _ hHeld).mono ?_
                    rintro e V5 ⟨u11, rfl, hO5, hb5⟩
                    obtain ⟨aa5, cc5, rfl⟩ := OT.formN hO5
                    replace hq0 := hq0.ca11 hO5 hb5
                    clear hO5 hb5 hHeld
                    go_wp2_with fail
                    refine hK.out _ _ hq0.bel (fun hHeld => ?_)
                    clear hK K
                    refine wpAnyH_ready (rs := [6]) (by kernel_rfl) (by simp) ?_
                    refine AllReadyH.cons rfl (fun K hK => ?_) AllReadyH.nil
                    refine armN rfl ?_
                    go_simp
                    replace hq0 := hq0.al10
                    clear hHeld
                    refine hK.out _ _ hq0.bel (fun hHeld => ?_)
                    clear hK K
                    unfold zr7 at hq0
                    generalize World.alloc _ _ = U6 at *
                    have h10 := (hq0.a10 _ rfl).1
                    obtain ⟨hg1, hh1⟩ := pt7_facts h10 2 (pa, pm, pt, ps, pc) (.slice aa2 pc.length cc2)
                    have hr1 := hq0.rs.set hg1 hh1
                    unfold zr7 at h10
                    obtain ⟨s0, s1, s2, s3, s4, s5, s6, p0, p1, p2, p3, p4, p5, p6⟩ := seven h10
                    clear hg1 hh1 hHeld hq0 h10
                    refine wpAnyH_ready (rs := [8]) (by kernel_rfl) (by simp) ?_
                    refine AllReadyH.cons rfl (fun K hK => ?_) AllReadyH.nil
                    refine armN rfl ?_
                    go_simp
                    refine hK.out _ _ hr1.bel (fun hHeld => ?_)
                    clear hK K s0 s1 s2 s3 s4 s5 s6 p0 p1 p2 p3 p4 p5 p6
                    change wpAnyH _ _ _ _ _ _ _ _ (pt7 _ _ 2 (pa, pm, pt, ps, pc) (.slice aa2 pc.length cc2))
                    generalize pt7 _ _ 2 (pa, pm, pt, ps, pc) (.slice aa2 pc.length cc2) = Z1 at *
                    have h11 := hr1.h11
                    obtain ⟨hg1, hh1⟩ := pt7_facts h11 2 (pa, pm, pt, ps, pc) (.slice aa5 pc.length cc5)
                    have hr2 := (hr1.swap.set hg1 hh1).swap
                    unfold zr7 at h11
                    obtain ⟨s0, s1, s2, s3, s4, s5, s6, p0, p1, p2, p3, p4, p5, p6⟩ := seven h11
                    clear hg1 hh1 hHeld hr1 h11
                    refine wpAnyH_ready (rs := [9]) (by kernel_rfl) (by simp) ?_
                    refine AllReadyH.cons rfl (fun K hK => ?_) AllReadyH.nil
                    refine armN rfl ?_
                    go_simp
                    refine hK.out _ _ hr2.bel (fun hHeld => ?_)
                    clear hK K s0 s1 s2 s3 s4 s5 s6 p0 p1 p2 p3 p4 p5 p6
                    change wpAnyH _ _ _ _ _ _ _ _ (pt7 _ _ 2 (pa, pm, pt, ps, pc) (.slice aa5 pc.length cc5))
                    generalize pt7 _ _ 2 (pa, pm, pt, ps, pc) (.slice aa5 pc.length cc5) = Z2 at *
                    refine wpAnyH_done (by kernel_rfl) ?_ _
                    go_wp2
                    go_meet
                    case rel => exact ⟨_, _, _, _, rfl, rfl, hr2⟩
                  · refine armN rfl ?_
                    go_simp
                    replace hq0 := hq0.al10
                    clear hHeld
                    refine hK.out _ _ hq0.bel (fun hHeld => ?_)
                    clear hK K
                    unfold zr7 at hq0
                    generalize World.alloc _ _ = U6 at *
                    refine wpAnyH_ready (rs := [5]) (by kernel_rfl) (by simp) ?_
                    refine AllReadyH.cons rfl (fun K hK => ?_) AllReadyH.nil
                    go_simp
                    go_at_call 9
                    refine (HTB.out _ hHeld).mono ?_
                    rintro e V5 ⟨u11, rfl, hO5, hb5⟩
                    obtain ⟨aa5, cc5, rfl⟩ := OT.formN hO5
                    replace hq0 := hq0.ca11 hO5 hb5
                    clear hO5 hb5 hHeld
                    go_wp2_with fail
                    refine hK.out _ _ hq0.bel (fun hHeld => ?_)
                    clear hK K
                    have h10 := (hq0.a10 _ rfl).1
                    obtain ⟨hg1, hh1⟩ := pt7_facts h10 2 (pa, pm, pt, ps, pc) (.slice aa2 pc.length cc2)
                    have hr1 := hq0.rs.set hg1 hh1
                    unfold zr7 at h10
                    obtain ⟨s0, s1, s2, s3, s4, s5, s6, p0, p1, p2, p3, p4, p5, p6⟩ := seven h10
                    clear hg1 hh1 hHeld hq0 h10
                    refine wpAnyH_ready (rs := [8]) (by kernel_rfl) (by simp) ?_
                    refine AllReadyH.cons rfl (fun K hK => ?_) AllReadyH.nil
                    refine armN rfl ?_
                    go_simp
                    refine hK.out _ _ hr1.bel (fun hHeld => ?_)
                    clear hK K s0 s1 s2 s3 s4 s5 s6 p0 p1 p2 p3 p4 p5 p6
                    change wpAnyH _ _ _ _ _ _ _ _ (pt7 _ _ 2 (pa, pm, pt, ps, pc) (.slice aa2 pc.length cc2))
                    generalize pt7 _ _ 2 (pa, pm, pt, ps, pc) (.slice aa2 pc.length cc2) = Z1 at *
                    have h11 := hr1.h11
                    obtain ⟨hg1, hh1⟩ := pt7_facts h11 2 (pa, pm, pt, ps, pc) (.slice aa5 pc.length cc5)
                    have hr2 := (hr1.swap.set hg1 hh1).swap
                    unfold zr7 at h11
                    obtain ⟨s0, s1, s2, s3, s4, s5, s6, p0, p1, p2, p3, p4, p5, p6⟩ := seven h11
                    clear hg1 hh1 hHeld hr1 h11
                    refine wpAnyH_ready (rs := [9]) (by kernel_rfl) (by simp) ?_
                    refine AllReadyH.cons rfl (fun K hK => ?_) AllReadyH.nil
                    refine armN rfl ?_
                    go_simp
                    refine hK.out _ _ hr2.bel (fun hHeld => ?_)
                    clear hK K s0 s1 s2 s3 s4 s5 s6 p0 p1 p2 p3 p4 p5 p6
                    change wpAnyH _ _ _ _ _ _ _ _ (pt7 _ _ 2 (pa, pm, pt, ps, pc) (.slice aa5 pc.length cc5))
                    generalize pt7 _ _ 2 (pa, pm, pt, ps, pc) (.slice aa5 pc.length cc5) = Z2 at *
                    refine wpAnyH_done (by kernel_rfl) ?_ _
                    go_wp2
                    go_meet
                    case rel => exact ⟨_, _, _, _, rfl, rfl, hr2⟩
                · refine armN rfl ?_
                  go_simp
                  replace hq0 := hq0.al10
                  clear hHeld
                  refine hK.out _ _ hq0.bel (fun hHeld => ?_)
                  clear hK K
                  unfold zr7 at hq0
                  generalize World.alloc _ _ = U6 at *
                  refine wpAnyH_ready (rs := [2]) (by kernel_rfl) (by simp) ?_
                  refine AllReadyH.cons rfl (fun K hK => ?_) AllReadyH.nil
                  go_simp
                  go_at_call 9
                  refine (HTA.out _ hHeld).mono ?_
                  rintro e V2 ⟨u10, rfl, hO2, hb2⟩
                  obtain ⟨aa2, cc2, rfl⟩ := OT.formN hO2
                  replace hq0 := hq0.ca10 hO2 hb2
                  clear hO2 hb2 hHeld
                  go_wp2_with fail
                  refine hK.out _ _ hq0.bel (fun hHeld => ?_)
                  clear hK K
                  refine wpAnyH_ready (rs := [5]) (by kernel_rfl) (by simp) ?_
                  refine AllReadyH.cons rfl (fun K hK => ?_) AllReadyH.nil
                  go_simp
                  go_at_call 9
                  refine (HTB.out _ hHeld).mono ?_
                  rintro e V5 ⟨u11, rfl, hO5, hb5⟩
                  obtain ⟨aa5, cc5, rfl⟩ := OT.formN hO5
                  replace hq0 := hq0.ca11 hO5 hb5
                  clear hO5 hb5 hHeld
                  go_wp2_with fail
                  refine hK.out _ _ hq0.bel (fun hHeld => ?_)
                  clear hK K
                  have h10 := (hq0.a10 _ rfl).1
                  obtain ⟨hg1, hh1⟩ := pt7_facts h10 2 (pa, pm, pt, ps, pc) (.slice aa2 pc.length cc2)
                  have hr1 := hq0.rs.set hg1 hh1
                  unfold zr7 at h10
                  obtain ⟨s0, s1, s2, s3, s4, s5, s6, p0, p1, p2, p3, p4, p5, p6⟩ := seven h10
                  clear hg1 hh1 hHeld hq0 h10
                  refine wpAnyH_ready (rs := [8]) (by kernel_rfl) (by simp) ?_
                  refine AllReadyH.cons rfl (fun K hK => ?_) AllReadyH.nil
                  refine armN rfl ?_
                  go_simp
                  refine hK.out _ _ hr1.bel (fun hHeld => ?_)
                  clear hK K s0 s1 s2 s3 s4 s5 s6 p0 p1 p2 p3 p4 p5 p6
                  change wpAnyH _ _ _ _ _ _ _ _ (pt7 _ _ 2 (pa, pm, pt, ps, pc) (.slice aa2 pc.length cc2))
                  generalize pt7 _ _ 2 (pa, pm, pt, ps, pc) (.slice aa2 pc.length cc2) = Z1 at *
                  have h11 := hr1.h11
                  obtain ⟨hg1, hh1⟩ := pt7_facts h11 2 (pa, pm, pt, ps, pc) (.slice aa5 pc.length cc5)
                  have hr2 := (hr1.swap.set hg1 hh1).swap
                  unfold zr7 at h11
                  obtain ⟨s0, s1, s2, s3, s4, s5, s6, p0, p1, p2, p3, p4, p5, p6⟩ := seven h11
                  clear hg1 hh1 hHeld hr1 h11
                  refine wpAnyH_ready (rs := [9]) (by kernel_rfl) (by simp) ?_
                  refine AllReadyH.cons rfl (fun K hK => ?_) AllReadyH.nil
                  refine armN rfl ?_
                  go_simp
                  refine hK.out _ _ hr2.bel (fun hHeld => ?_)
                  clear hK K s0 s1 s2 s3 s4 s5 s6 p0 p1 p2 p3 p4 p5 p6
                  change wpAnyH _ _ _ _ _ _ _ _ (pt7 _ _ 2 (pa, pm, pt, ps, pc) (.slice aa5 pc.length cc5))
                  generalize pt7 _ _ 2 (pa, pm, pt, ps, pc) (.slice aa5 pc.length cc5) = Z2 at *
                  refine wpAnyH_done (by kernel_rfl) ?_ _
                  go_wp2
                  go_meet
                  case rel => exact ⟨_, _, _, _, rfl, rfl, hr2⟩
            case rest =>
              obtain ⟨b10, b11, x10, x11, rfl, rfl, hrs⟩ := hcut
              have HRS : Hid (RS V0 wc pc b10 b11 (rc7 2 (pa, pm, pt, ps, pc) x10) (rc7 2 (pa, pm, pt, ps, pc) x11) x10 x11) := hrs
              clear hrs
              go_upto_if 71 with fail
              go_cut [] (fun wx => RS V0 wx pc b10 b11 (rc7 (if q then 2 else 0) (pa, pm, pt, ps, pc) x10) (rc7 (if q then 2 else 0) (pa, pm, pt, ps, pc) x11) x10 x11)
              case first =>
                cases q with
                | true =>
                  go_wp2
                  go_meet
                  case rel => exact HRS.out
                | false =>
                  have h10 := HRS.out.h10
                  have h11 := HRS.out.h11
                  have hg1 : wc.grownBy (wc.setCell ⟨b10, 0, none⟩ (.int .i64 0)) (some b10) := gset (grefl wc _) 0 _
                  have hh1 : (wc.setCell ⟨b10, 0, none⟩ (.int .i64 0)).heap[b10]? = some (.cells (rc7 0 (pa, pm, pt, ps, pc) x10) 24 (0, 0)) := heap_setCell_same _ _ _ _ _ _ h10
                  have hr1 : RS V0 (wc.setCell ⟨b10, 0, none⟩ (.int .i64 0)) pc b10 b11 (rc7 0 (pa, pm, pt, ps, pc) x10) (rc7 2 (pa, pm, pt, ps, pc) x11) x10 x11 := HRS.out.set hg1 hh1
                  have h12 := hr1.h11
                  have hg2 : (wc.setCell ⟨b10, 0, none⟩ (.int .i64 0)).grownBy ((wc.setCell ⟨b10, 0, none⟩ (.int .i64 0)).setCell ⟨b11, 0, none⟩ (.int .i64 0)) (some b11) := gset (grefl _ _) 0 _
                  have hh2 : ((wc.setCell ⟨b10, 0, none⟩ (.int .i64 0)).setCell ⟨b11, 0, none⟩ (.int .i64 0)).heap[b11]? = some (.cells (rc7 0 (pa, pm, pt, ps, pc) x11) 24 (0, 0)) := heap_setCell_same _ _ _ _ _ _ h12
                  have HR2 : Hid (RS V0 ((wc.setCell ⟨b10, 0, none⟩ (.int .i64 0)).setCell ⟨b11, 0, none⟩ (.int .i64 0)) pc b10 b11 (rc7 0 (pa, pm, pt, ps, pc) x10) (rc7 0 (pa, pm, pt, ps, pc) x11) x10 x11) := (hr1.swap.set hg2 hh2).swap
                  obtain ⟨s0, s1, s2, s3, s4, s5, s6, p0, -⟩ := seven h10
                  obtain ⟨y0, y1, y2, y3, y4, y5, y6, z0, -⟩ := seven h12
                  clear h10 h11 h12 hg1 hh1 hg2 hh2 hr1 s1 s2 s3 s4 s5 s6 y1 y2 y3 y4 y5 y6
                  go_wp2
                  go_meet
                  case rel => exact HR2.out
              case rest =>
                have HRG : Hid (RS V0 wc pc b10 b11 (rc7 (if q then 2 else 0) (pa, pm, pt, ps, pc) x10) (rc7 (if q then 2 else 0) (pa, pm, pt, ps, pc) x11) x10 x11) := hcut
                clear hcut HRS
                generalize (if q = true then (2 : Int) else 0) = k1 at *
                have HKg : Hid (KS w wc ⟨kind, at', mode, time, size, ch, tg⟩ (.slice ua ch.length uc) v1 n w2.heap.size (w2.heap.size + 1) (pa, pm, pt, ps, pc) (.slice va pc.length vc) (.slice a7 pc.length c7)) := HKe.out.below HRG.out.bel
                have H9g : Hid (wc.heap[b9]? = some (.cells (rc7 k1 (pa, pm, pt, ps, pc) (.slice a9 pc.length c9)) 24 (0, 0)) ∧ TR wc (.slice a9 pc.length c9) pc) := ⟨hk H9.out.1 HRG.out.bel, H9.out.2.below HRG.out.bel⟩
                obtain ⟨xa0, xc0, rfl⟩ := HRG.out.t10.formS
                obtain ⟨xa1, xc1, rfl⟩ := HRG.out.t11.formS
                have HCE : Hid (∀ W, Below wc.heap.size wc W → (W.cell? ⟨b10, 0, none⟩ = some (.int .i64 k1) ∧ W.cell? ⟨b10, 1, none⟩ = some (.string (mkB pa)) ∧ W.cell? ⟨b10, 2, none⟩ = some (.int .i64 pm) ∧ W.cell? ⟨b10, 3, none⟩ = some (.int .i64 pt) ∧ W.cell? ⟨b10, 4, none⟩ = some (.int .i64 ps) ∧ W.cell? ⟨b10, 5, none⟩ = some (.slice xa0 pc.length xc0) ∧ W.cell? ⟨b10, 6, none⟩ = some (.string (mkB []))) ∧ (W.cell? ⟨b11, 0, none⟩ = some (.int .i64 k1) ∧ W.cell? ⟨b11, 1, none⟩ = some (.string (mkB pa)) ∧ W.cell? ⟨b11, 2, none⟩ = some (.int .i64 pm) ∧ W.cell? ⟨b11, 3, none⟩ = some (.int .i64 pt) ∧ W.cell? ⟨b11, 4, none⟩ = some (.int .i64 ps) ∧ W.cell? ⟨b11, 5, none⟩ = some (.slice xa1 pc.length xc1) ∧ W.cell? ⟨b11, 6, none⟩ = some (.string (mkB []))) ∧ W.cell? ⟨w.heap.size, 6, none⟩ = some (.string (mkB tg))) := fun W hW => by
                  have h := HRG.out.below hW
                  obtain ⟨q0, q1, q2, q3, q4, q5, q6, -⟩ := seven h.h10
                  obtain ⟨r0, r1, r2, r3, r4, r5, r6, -⟩ := seven h.h11
                  exact ⟨⟨q0, q1, q2, q3, q4, q5, q6⟩, ⟨r0, r1, r2, r3, r4, r5, r6⟩, (cell_of_row _ _ _ _ _ _ (HKg.out.below hW).hN).trans rfl⟩
                have HSM : Hid (∀ (W : World) (xa : Option Addr) (xc : Nat), TR W (.slice xa pc.length xc) pc → Below wc.heap.size wc W → Calls Tryd.prog 10 #[.slice (some ⟨W.heap.size, 0, none⟩) 1 1, .slice (some ⟨b9, 0, none⟩) 1 1] (W.alloc (.cells (rc7 k1 (pa, pm, pt, ps, pc) (.slice xa pc.length xc)) 24)) fun e w' => e = .returned (.bool true) ∧ Below W.heap.size W w') := fun W xa xc ht hW => by
                  have hb : Below W.heap.size W (W.alloc (.cells (rc7 k1 (pa, pm, pt, ps, pc) (.slice xa pc.length xc)) 24)) := (Below.refl _ _).alloc (Nat.le_refl _) _
                  refine (same_any _ _ _ _ _ (rv_one (heap_alloc_new W _) (ht.below hb)) (rv_one (hk H9g.out.1 (belN hW hb)) (H9g.out.2.below (belN hW hb))) (by simp) (fun z hz => by rw [List.mem_singleton] at hz; subst hz; exact HF5.out)).mono ?_
                  rintro e w' ⟨b, rfl, h1, h2⟩
                  rw [h1.2 rfl]
                  exact ⟨rfl, belN hb h2⟩
                have HTP : Hid (∀ W, Calls Tryd.prog 11 #[.string (mkB tg)] W fun e w' => e = .returned (.bool (targN tg)) ∧ w' = W) := fun W => target_any tg W HTG.out
                have HTQ : Hid (∀ W, Calls Tryd.prog 12 #[.string (mkB tg)] W fun e w' => e = .returned (.bool (targN tg)) ∧ w' = W) := fun W => rtargetN_any tg W HTG.out
                have HTT : Hid (∀ W, Below wc.heap.size wc W → TR W (.slice xa0 pc.length xc0) pc ∧ TR W (.slice xa1 pc.length xc1) pc) := fun W hW => ⟨HRG.out.t10.below hW, HRG.out.t11.below hW⟩
                have HBW : Hid (∀ W, Below wc.heap.size wc W → Below w.heap.size w W) := fun W hW => belN HKg.out.bl hW
                clear HRG HKg H9g HKe H9 HNK HF2 HF3 HND HVF HVP
                generalize htt : targN tg = tt at *
                go_upto_region 19 with fail
                have hb0 : Below wc.heap.size wc wc.drew := (Below.refl _ _).drew
                refine wp_region_held_drew (S := fun W => Below wc.heap.size wc W) (by kernel_rfl) hb0 (fun hHeld => ?_)
                change wpAnyH _ _ _ _ _ 20 (Array.replicate 20 false) _ _
                refine take_opN (i := 0) rfl (by kernel_rfl) (by kernel_rfl) (by kernel_rfl) (fun _ _ _ _ h => h) 74 rfl (.agg #[.int .i64 k1, .string (mkB pa), .int .i64 pm, .int .i64 pt, .int .i64 ps, .slice xa0 pc.length xc0, .string (mkB [])]) (Or.inl ⟨by rfl, by intro w hSw; have hc9 := HCE.out _ hSw; go_split_ands; go_simp⟩) hHeld ?_
                simp only [Act.put, List.setIfInBounds_toArray, List.set_cons_zero, List.set_cons_succ]
                refine take_opN (i := 2) rfl (by kernel_rfl) (by kernel_rfl) (by kernel_rfl) (fun _ _ _ _ h => h) 76 rfl (.slice (some ⟨b9, 0, none⟩) 1 1) (Or.inl ⟨by rfl, by intro w hSw; go_simp⟩) hHeld ?_
                simp only [Act.put, List.setIfInBounds_toArray, List.set_cons_zero, List.set_cons_succ]
                generalize wc.drew = U0 at *
                refine wpAnyH_ready (rs := [1]) (by kernel_rfl) (by simp) ?_
                refine AllReadyH.cons rfl (fun K hK => ?_) AllReadyH.nil
                refine armN rfl ?_
                go_simp
                have hb1 : Below wc.heap.size wc (U0.alloc (.cells #[.int .i64 k1, .string (mkB pa), .int .i64 pm, .int .i64 pt, .int .i64 ps, .slice xa0 pc.length xc0, .string (mkB [])] 24)) := hHeld.alloc hHeld.size _
                have HS1 : Hid (Calls Tryd.prog _ _ _ _) := HSM.out U0 xa0 xc0 (HTT.out _ hHeld).1 hHeld
                have hh0 := hHeld
                refine hK.out _ _ hb1 (fun hHeld2 => ?_)
                clear hK K hHeld2 hHeld
                refine wpAnyH_ready (rs := [3]) (by kernel_rfl) (by simp) ?_
                refine AllReadyH.cons rfl (fun K hK => ?_) AllReadyH.nil
                go_simp
                go_at_call 10
                refine HS1.out.mono ?_
                rintro e U1 ⟨rfl, hu1⟩
                have hHeld : Below wc.heap.size wc U1 := belN hh0 hu1
                go_wp2_with fail
                refine hK.out _ _ hHeld (fun hHeld2 => ?_)
                clear hK K hHeld2 hu1 hh0 HS1 hb1
                refine take_opN (i := 4) rfl (by kernel_rfl) (by kernel_rfl) (by kernel_rfl) (fun _ _ _ _ h => h) 78 rfl (.bool true) (Or.inl ⟨by rfl, by intro w hSw; go_simp⟩) hHeld ?_
                simp only [Act.put, List.setIfInBounds_toArray, List.set_cons_zero, List.set_cons_succ]
                refine take_opN (i := 5) rfl (by kernel_rfl) (by kernel_rfl) (by kernel_rfl) (fun _ _ _ _ h => h) 79 rfl (.agg #[.int .i64 k1, .string (mkB pa), .int .i64 pm, .int .i64 pt, .int .i64 ps, .slice xa1 pc.length xc1, .string (mkB [])]) (Or.inl ⟨by rfl, by intro w hSw; have hc9 := HCE.out _ hSw; go_split_ands; go_simp⟩) hHeld ?_
                simp only [Act.put, List.setIfInBounds_toArray, List.set_cons_zero, List.set_cons_succ]
                refine take_opN (i := 7) rfl (by kernel_rfl) (by kernel_rfl) (by kernel_rfl) (fun _ _ _ _ h => h) 81 rfl (.slice (some ⟨b9, 0, none⟩) 1 1) (Or.inl ⟨by rfl, by intro w hSw; go_simp⟩) hHeld ?_
                simp only [Act.put, List.setIfInBounds_toArray, List.set_cons_zero, List.set_cons_succ]
                refine wpAnyH_ready (rs := [6]) (by kernel_rfl) (by simp) ?_
                refine AllReadyH.cons rfl (fun K hK => ?_) AllReadyH.nil
                go_simp
                have hb1 : Below wc.heap.size wc (U1.alloc (.cells #[.int .i64 k1, .string (mkB pa), .int .i64 pm, .int .i64 pt, .int .i64 ps, .slice xa1 pc.length xc1, .string (mkB [])] 24)) := hHeld.alloc hHeld.size _
                have HS1 : Hid (Calls Tryd.prog _ _ _ _) := HSM.out U1 xa1 xc1 (HTT.out _ hHeld).2 hHeld
                have hh0 := hHeld
                refine hK.out _ _ hb1 (fun hHeld2 => ?_)
                clear hK K hHeld2 hHeld
                refine wpAnyH_ready (rs := [8]) (by kernel_rfl) (by simp) ?_
                refine AllReadyH.cons rfl (fun K hK => ?_) AllReadyH.nil
                go_simp
                go_at_call 10
                refine HS1.out.mono ?_
                rintro e U2 ⟨rfl, hu1⟩
                have hHeld : Below wc.heap.size wc U2 := belN hh0 hu1
                go_wp2_with fail
                refine hK.out _ _ hHeld (fun hHeld2 => ?_)
                clear hK K hHeld2 hu1 hh0 HS1 hb1
                refine take_opN (i := 9) rfl (by kernel_rfl) (by kernel_rfl) (by kernel_rfl) (fun _ _ _ _ h => h) 83 rfl (.bool true) (Or.inl ⟨by rfl, by intro w hSw; go_simp⟩) hHeld ?_
                simp only [Act.put, List.setIfInBounds_toArray, List.set_cons_zero, List.set_cons_succ]
                refine take_opN (i := 10) rfl (by kernel_rfl) (by kernel_rfl) (by kernel_rfl) (fun _ _ _ _ h => h) 84 rfl (.bool true) (Or.inl ⟨by rfl, by intro w hSw; go_simp⟩) hHeld ?_
                simp only [Act.put, List.setIfInBounds_toArray, List.set_cons_zero, List.set_cons_succ]
                refine take_opN (i := 11) rfl (by kernel_rfl) (by kernel_rfl) (by kernel_rfl) (fun _ _ _ _ h => h) 85 rfl (.pointer (some ⟨w.heap.size, 6, none⟩)) (Or.inl ⟨by rfl, by intro w hSw; go_simp⟩) hHeld ?_
                simp only [Act.put, List.setIfInBounds_toArray, List.set_cons_zero, List.set_cons_succ]
                refine take_opN (i := 12) rfl (by kernel_rfl) (by kernel_rfl) (by kernel_rfl) (fun _ _ _ _ h => h) 86 rfl (.string (mkB tg)) (Or.inl ⟨by rfl, by intro w hSw; have hc9 := HCE.out _ hSw; go_split_ands; go_simp⟩) hHeld ?_
                simp only [Act.put, List.setIfInBounds_toArray, List.set_cons_zero, List.set_cons_succ]
                refine take_opN (i := 14) rfl (by kernel_rfl) (by kernel_rfl) (by kernel_rfl) (fun _ _ _ _ h => h) 88 rfl (.pointer (some ⟨w.heap.size, 6, none⟩)) (Or.inl ⟨by rfl, by intro w hSw; go_simp⟩) hHeld ?_
                simp only [Act.put, List.setIfInBounds_toArray, List.set_cons_zero, List.set_cons_succ]
                refine take_opN (i := 15) rfl (by kernel_rfl) (by kernel_rfl) (by kernel_rfl) (fun _ _ _ _ h => h) 89 rfl (.string (mkB tg)) (Or.inl ⟨by rfl, by intro w hSw; have hc9 := HCE.out _ hSw; go_split_ands; go_simp⟩) hHeld ?_
                simp only [Act.put, List.setIfInBounds_toArray, List.set_cons_zero, List.set_cons_succ]
                refine wpAnyH_ready (rs := [13]) (by kernel_rfl) (by simp) ?_
                refine AllReadyH.cons rfl (fun K hK => ?_) AllReadyH.nil
                go_simp
                go_at_call 11
                refine (HTP.out _).mono ?_
                rintro e U3 ⟨rfl, e3⟩
                have e4 := e3.symm
                subst e4
                go_wp2_with fail
                refine hK.out _ _ hHeld (fun hHeld2 => ?_)
                clear hK K hHeld2 e3
                refine wpAnyH_ready (rs := [16]) (by kernel_rfl) (by simp) ?_
                refine AllReadyH.cons rfl (fun K hK => ?_) AllReadyH.nil
                go_simp
                go_at_call 12
                refine (HTQ.out _).mono ?_
                rintro e U3 ⟨rfl, e3⟩
                have e4 := e3.symm
                subst e4
                go_wp2_with fail
                refine hK.out _ _ hHeld (fun hHeld2 => ?_)
                clear hK K hHeld2 e3
                refine take_opN (i := 17) rfl (by kernel_rfl) (by kernel_rfl) (by kernel_rfl) (fun _ _ _ _ h => h) 91 rfl (.bool true) (Or.inl ⟨by rfl, by intro w hSw; go_simp⟩) hHeld ?_
                simp only [Act.put, List.setIfInBounds_toArray, List.set_cons_zero, List.set_cons_succ]
                refine take_opN (i := 18) rfl (by kernel_rfl) (by kernel_rfl) (by kernel_rfl) (fun _ _ _ _ h => h) 92 rfl (.bool true) (Or.inl ⟨by rfl, by intro w hSw; go_simp⟩) hHeld ?_
                simp only [Act.put, List.setIfInBounds_toArray, List.set_cons_zero, List.set_cons_succ]
                refine take_opN (i := 19) rfl (by kernel_rfl) (by kernel_rfl) (by kernel_rfl) (fun _ _ _ _ h => h) 2 rfl (.bool true) (Or.inl ⟨by rfl, by intro w hSw; go_simp⟩) hHeld ?_
                simp only [Act.put, List.setIfInBounds_toArray, List.set_cons_zero, List.set_cons_succ]
                refine wpAnyH_done (by kernel_rfl) ?_ _
                have HB9 : Hid (Below w.heap.size w _) := HBW.out _ hHeld
                clear hHeld
                rename (∀ (a : Act) (w : World), Code.wp _ Code.ret _ a w → _) => hret
                refine hret _ _ (wp_ret ?_)
                show bodyPost _ _ _ Exit.ret _ _
                go_ret
                exact ⟨rfl, HB9.out⟩
end Go.Proofs.YtkgjepgaekbniaaDoor
