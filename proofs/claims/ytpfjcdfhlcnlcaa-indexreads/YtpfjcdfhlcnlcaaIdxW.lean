/- Contracts: the document's Number and Read of an index. -/
import Derived.Test.YtpfjcdfhlcnlcaaIdxU
import Derived.Test.YtpfjcdfhlcnlcaaIdxQ
import Derived.Deep.AppendLies
import Derived.Deep.RegionLaw
namespace Go.Proofs.Ytpfjcdfhlcnlcaa
open Go.RowKit Go.Maps
set_option linter.unusedVariables false
set_option linter.unusedSimpArgs false

theorem TS.at {w : World} {a : Option Addr} {n cap : Nat} {l : List (List UInt8)} (h : TS w (.slice a n cap) l) {i : Nat} {x : List UInt8} (hi : l[i]? = some x) : ∃ g o, a = some ⟨g, o, none⟩ ∧ g < w.heap.size ∧ n = l.length ∧ n ≤ cap ∧ w.cell? ⟨g, o + i, none⟩ = some (.string (mkB x)) := by
  obtain ⟨a', cap', e, hc, hf⟩ := h
  injection e with e1 e2 e3
  subst e1 e3
  have hl := (List.getElem?_eq_some_iff.1 hi).1
  obtain ⟨g, o, rfl, hg, hh⟩ := hf (fun q => by rw [q] at hi; simp at hi)
  refine ⟨g, o, rfl, hg, e2, by omega, ?_⟩
  rw [hh i hl, List.getD_eq_getElem?_getD, hi]; rfl
/-- The first place of a text, or -1. -/
def NumP (ns : List (List UInt8)) (q : List UInt8) (z : Int) : Prop := (∃ i : Nat, z = (i : Int) ∧ ns[i]? = some q ∧ ∀ j : Nat, j < i → ns[j]? ≠ some q) ∨ (z = -1 ∧ ∀ j : Nat, ns[j]? ≠ some q)
set_option maxRecDepth 100000 in
set_option maxHeartbeats 1000000 in
theorem numb_any (vp : Value) (qa : Option Addr) (qn qc : Nat) (ns : List (List UInt8)) (q : List UInt8) (w : World) (hT : TS w vp ns) (hl : ns.length ≤ 1000000) :
    Calls Try.prog 19 #[.agg #[vp, .slice qa qn qc], .string (mkB q)] w fun e w' => ∃ z, e = .returned (.int .i64 z) ∧ NumP ns q z ∧ Below w.heap.size w w' := by
  have HT : Hid (TS w vp ns) := hT
  obtain ⟨pa, pc, rfl, -, -⟩ := hT
  obtain ⟨n, hn⟩ : ∃ n, n = ns.length := ⟨_, rfl⟩
  have HN : Hid (n = ns.length) := hn
  rw [← hn] at HT hl ⊢
  clear hn
  obtain ⟨W1, hW1⟩ : ∃ W1, W1 = w.alloc (.cells #[.slice pa n pc, .slice qa qn qc] 31) := ⟨_, rfl⟩
  have hb1 : Below w.heap.size w W1 := by rw [hW1]; exact (Below.refl _ w).alloc (Nat.le_refl _) _
  have hN1 : W1.heap[w.heap.size]? = some (.cells #[.slice pa n pc, .slice qa qn qc] 31 (0, 0)) := by rw [hW1]; exact heap_alloc_new _ _
  have c0 : W1.cell? ⟨w.heap.size, 0, none⟩ = some (.slice pa n pc) := (cell_of_row _ _ _ _ _ _ hN1).trans rfl
  have HB1 : Hid (Below w.heap.size w W1) := hb1
  have HT1 : Hid (TS W1 (.slice pa n pc) ns) := HT.out.below hb1
  clear hb1 hN1 HT
  go_enter Try.func19, Try.ntmps19
  go_upto_region 1 with fail
  rw [← hW1]
  clear hW1
  go_wp2
  go_loopw [10] (fun i wr => ∃ (k : Nat), k ≤ n ∧ i = .int .i64 (k : Int) ∧ (∀ j : Nat, j < k → ns[j]? ≠ some q) ∧ wr = W1) (fun i _ => n - (intOf i).toNat)
  case atStart => exact ⟨0, Nat.zero_le _, rfl, fun j hj => by omega, rfl⟩
  case round =>
    obtain ⟨k, hk, rfl, hno, rfl⟩ := hrel
    have HNO : Hid (∀ j : Nat, j < k → ns[j]? ≠ some q) := hno
    clear hno
    by_cases hlt : k < n
    · have hlti : (k : Int) < (n : Int) := by omega
      obtain ⟨y, hy⟩ : ∃ y, ns[k]? = some y := ⟨_, List.getElem?_eq_getElem (by rw [← HN.out]; exact hlt)⟩
      have HYY : Hid (ns[k]? = some y) := hy
      obtain ⟨g, o, rfl, hg, -, hcap, e0⟩ := HT1.out.at hy
      have hbeq := mkB_beq y q
      clear hy
      by_cases hyq : y = q
      · rw [decide_eq_true hyq] at hbeq
        have HE : Hid (NumP ns q (k : Int)) := .inl ⟨k, rfl, by rw [← hyq]; exact HYY.out, HNO.out⟩
        clear hyq
        go_wp2
        go_ret
        exact ⟨(k : Int), rfl, HE.out, HB1.out⟩
      · rw [decide_eq_false hyq] at hbeq
        have HNO2 : Hid (∀ j : Nat, j < k + 1 → ns[j]? ≠ some q) := fun j hj => by
          by_cases e : j = k
          · rw [e, HYY.out]; exact fun e2 => hyq (Option.some.inj e2)
          · exact HNO.out j (by omega)
        clear hyq
        go_wp2
        go_roundw
        case rel => exact ⟨k + 1, by omega, by go_num, HNO2.out, by first | rfl | trivial⟩
        case measure => simp [intOf]; omega
    · have hlti : ¬ (k : Int) < (n : Int) := by omega
      have HE : Hid (NumP ns q (-1)) := .inr ⟨rfl, fun j => by
        rcases Nat.lt_or_ge j k with h | h
        · exact HNO.out j h
        · rw [List.getElem?_eq_none (by have := HN.out; omega)]; simp⟩
      go_wp2
      go_ret
      exact ⟨-1, rfl, HE.out, HB1.out⟩
theorem row_ne {w : World} {B b : Nat} {e T : TypeId} {s n : Nat} {v : Value} {xs : List Value} {c : Array Value} {f : Nat × Nat} (h : w.ownsRow B e s v n xs) (hc : w.heap[b]? = some (.cells c T f)) (hT : T ≠ e) : v.ownBlock ≠ some b := by
  intro hv
  rcases h.2 with ⟨rfl, _⟩ | ⟨g, cap, cur, rfl, _, hg, _⟩
  · cases hv
  · cases hv
    rw [hg] at hc
    injection hc with hc; injection hc with _ h2 _
    exact hT h2.symm
/-- The state of the document's reading: the answer in block R, the reader in R + 1, the index in R + 2. -/
structure RdS (w wr : World) (R : Nat) (s : Sx) (vp : Value) (ns : List (List UInt8)) (vq : Value) (P : List Pl) : Prop where
  r : wr.heap[R]? = some (.cells #[.slice none 0 0, .slice none 0 0] 31 (0, 0))
  c : RC wr (R + 1) s
  x : wr.heap[R + 2]? = some (.cells #[vp, vq] 31 (0, 0))
  p : OT wr R vp ns
  q : wr.ownsRow R 47 7 vq P.length (plsC P)
  bl : Below R w wr
theorem ownsKept {w w' : World} {base : Nat} {e : TypeId} {s n : Nat} {v : Value} {xs : List Value} (h : w.ownsRow base e s v n xs) (hb : ∀ r, v.ownBlock = some r → w'.heap[r]? = w.heap[r]?) : w'.ownsRow base e s v n xs := by
  obtain ⟨h1, h2⟩ := h
  refine ⟨h1, ?_⟩
  rcases h2 with h2 | ⟨g, cap, cur, rfl, h3, h4, h5⟩
  · exact .inl h2
  · exact .inr ⟨g, cap, cur, rfl, h3, (hb g rfl).trans h4, h5⟩
section
variable {w wr w' : World} {R : Nat} {s s' : Sx} {vp vq : Value} {ns : List (List UInt8)} {P : List Pl}
theorem RdS.lt (h : RdS w wr R s vp ns vq P) : R + 2 < wr.heap.size := (Array.getElem?_eq_some_iff.1 h.x).1
/-- The reader has gone on. -/
theorem RdS.read (h : RdS w wr R s vp ns vq P) (hr : RC w' (R + 1) s') (hg : wr.grownBy w' (some (R + 1))) : RdS w w' R s' vp ns vq P := by
  have hl := h.lt
  refine ⟨(hg.block R (by omega) (fun e => by have := Option.some.inj e; omega)).trans h.r, hr, (hg.block (R + 2) hl (fun e => by have := Option.some.inj e; omega)).trans h.x, ?_, ?_, h.bl.grown hg (by omega) (fun k hk => by cases hk; omega)⟩
  · exact h.p.keptb (fun r hr' => hg.block r (World.ownsRow.lt h.p r hr').2 (fun e => row_ne h.p h.c (by decide) (by rw [hr', e])))
  · exact ownsKept h.q (fun r hr' => hg.block r (World.ownsRow.lt h.q r hr').2 (fun e => row_ne h.q h.c (by decide) (by rw [hr', e])))
theorem RdS.below (h : RdS w wr R s vp ns vq P) (hb : Below wr.heap.size wr w') : RdS w w' R s vp ns vq P := by
  have hl := h.lt
  exact ⟨(hb.block R (by omega)).trans h.r, h.c.below hb, (hb.block _ hl).trans h.x, h.p.below hb, ownsKept h.q (fun r hr => hb.block r (World.ownsRow.lt h.q r hr).2), h.bl.trans (hb.mono (by omega))⟩
/-- A name more. -/
theorem RdS.putp {w3 w4 : World} {v' : Value} {ns' : List (List UInt8)} {o : Obj} (h : RdS w w3 R s vp ns vq P) (hown : OT w4 R v' ns') (hg : (w3.alloc o).grownBy w4 vp.ownBlock) : RdS w (w4.setCell ⟨R + 2, 0, none⟩ v') R s v' ns' vq P := by
  have hl := h.lt
  have hk : ∀ b, b < w3.heap.size → vp.ownBlock ≠ some b → w4.heap[b]? = w3.heap[b]? := fun b hb hn => (hg.block b (by simp; omega) (fun e => hn e.symm)).trans (Below.heap_alloc _ _ _ hb)
  have hx : w4.heap[R + 2]? = _ := (hk (R + 2) hl (row_ne h.p h.x (by decide))).trans h.x
  have hr : w4.heap[R]? = _ := (hk R (by omega) (row_ne h.p h.r (by decide))).trans h.r
  have hc : w4.heap[R + 1]? = _ := (hk (R + 1) (by omega) (row_ne h.p h.c (by decide))).trans h.c
  have hq4 : w4.ownsRow R 47 7 vq P.length (plsC P) := ownsKept h.q (fun r hr' => hk r (World.ownsRow.lt h.q r hr').2 (fun e => by
    obtain ⟨_, cur, hcur⟩ : ∃ (_ : Nat) (cur : Array Value), w3.heap[r]? = some (.cells cur 47 (0, 0)) := by
      rcases h.q.2 with ⟨h9, _⟩ | ⟨g, cap, cur, h9, _, h8, _⟩
      · rw [h9] at hr'; cases hr'
      · rw [h9] at hr'; cases hr'; exact ⟨0, cur, h8⟩
    exact row_ne h.p hcur (by decide) e))
  have so : ∀ b, b ≠ R + 2 → (w4.setCell ⟨R + 2, 0, none⟩ v').heap[b]? = w4.heap[b]? := fun b hb => Below.heap_setCell _ _ _ _ hb
  refine ⟨(so R (by omega)).trans hr, (so (R + 1) (by omega)).trans hc, heap_setCell_same w4 (R + 2) 0 _ _ _ hx, ?_, ?_, ?_⟩
  · exact hown.keptb (fun r hr' => so r (fun e => row_ne hown hx (by decide) (by rw [hr', e])))
  · exact ownsKept hq4 (fun r hr' => so r (fun e => row_ne hq4 hx (by decide) (by rw [hr', e])))
  · have hz := h.bl.size
    exact ((h.bl.alloc (by omega) o).grown hg (by simp; omega) (fun k hk' => (World.ownsRow.lt h.p k hk').1)).setCell (p := ⟨R + 2, 0, none⟩) (by show R ≤ R + 2; omega) _
end
/-- Beside it a place, in block b. -/
structure RdB (w wr : World) (R : Nat) (s : Sx) (vp : Value) (ns : List (List UInt8)) (vq : Value) (P : List Pl) (b : Nat) (cs : Array Value) : Prop where
  st : RdS w wr R s vp ns vq P
  cell : wr.heap[b]? = some (.cells cs 47 (0, 0))
  hb : R + 2 < b
  nq : vq.ownBlock ≠ some b
section
variable {w wr w' : World} {R b : Nat} {s s' : Sx} {vp vq : Value} {ns : List (List UInt8)} {P : List Pl} {cs : Array Value}
theorem RdB.new (h : RdS w wr R s vp ns vq P) (cs : Array Value) : RdB w (wr.alloc (.cells cs 47)) R s vp ns vq P wr.heap.size cs :=
  ⟨h.below ((Below.refl _ wr).alloc (Nat.le_refl _) _), heap_alloc_new _ _, h.lt, fun e => by have := (World.ownsRow.lt h.q _ e).2; omega⟩
theorem RdB.read (h : RdB w wr R s vp ns vq P b cs) (hr : RC w' (R + 1) s') (hg : wr.grownBy w' (some (R + 1))) : RdB w w' R s' vp ns vq P b cs :=
  ⟨h.st.read hr hg, (hg.block b (Array.getElem?_eq_some_iff.1 h.cell).1 (fun e => by have h1 := Option.some.inj e; have h2 := h.hb; omega)).trans h.cell, h.hb, h.nq⟩
theorem RdB.below (h : RdB w wr R s vp ns vq P b cs) (hb : Below wr.heap.size wr w') : RdB w w' R s vp ns vq P b cs :=
  ⟨h.st.below hb, (hb.block b (Array.getElem?_eq_some_iff.1 h.cell).1).trans h.cell, h.hb, h.nq⟩
theorem RdB.set (h : RdB w wr R s vp ns vq P b cs) (j : Nat) (u : Value) : RdB w (wr.setCell ⟨b, j, none⟩ u) R s vp ns vq P b (cs.setIfInBounds j u) := by
  have hb := h.hb
  have so : ∀ k, k ≠ b → (wr.setCell ⟨b, j, none⟩ u).heap[k]? = wr.heap[k]? := fun k hk => Below.heap_setCell _ _ _ _ hk
  refine ⟨⟨(so R (by omega)).trans h.st.r, (so (R + 1) (by omega)).trans h.st.c, (so (R + 2) (by omega)).trans h.st.x, ?_, ?_, ?_⟩, heap_setCell_same wr b j _ _ _ h.cell, hb, h.nq⟩
  · exact h.st.p.keptb (fun r hr => so r (fun e => row_ne h.st.p h.cell (by decide) (by rw [hr, e])))
  · exact ownsKept h.st.q (fun r hr => so r (fun e => h.nq (by rw [hr, e])))
  · exact h.st.bl.setCell (p := ⟨b, j, none⟩) (by show R ≤ b; omega) _
theorem RdB.at (h : RdB w wr R s vp ns vq P b cs) (j : Nat) : wr.cell? ⟨b, j, none⟩ = cs[j]? := cell_of_row _ _ _ _ _ _ h.cell
theorem RdB.fz (h : RdB w wr R s vp ns vq P b cs) (j : Nat) : wr.frozen? ⟨b, j, none⟩ = false := frozen_of_row _ _ _ _ _ h.cell
theorem RdB.x0 (h : RdB w wr R s vp ns vq P b cs) : wr.cell? ⟨R + 2, 0, none⟩ = some vp := (cell_of_row _ _ _ _ _ _ h.st.x).trans rfl
theorem RdB.x1 (h : RdB w wr R s vp ns vq P b cs) : wr.cell? ⟨R + 2, 1, none⟩ = some vq := (cell_of_row _ _ _ _ _ _ h.st.x).trans rfl
end
theorem cnumI_any {g : Nat} {s s' : Sx} {n : Nat} (h : cNum s = (n, s')) (w : World) (hR : RC w g s) (hl : s.rest.length ≤ 1000000000) :
    Calls Try.prog 30 #[.pointer (some ⟨g, 0, none⟩)] w fun e w' => e = .returned (.int .i64 (n : Int)) ∧ RC w' g s' ∧ w.grownBy w' (some g) := by
  have := cnum_any g s w hR hl
  rw [h] at this
  exact this
/-- Two readers that go alike while none has failed. -/
def Agr (s t : Sx) : Prop := s.bad = t.bad ∧ (s.bad = false → s = t)
theorem Agr.num {s t : Sx} (h : Agr s t) : Agr (cNum s).2 (xNum t).2 ∧ ((cNum s).2.bad = false → (cNum s).1 = (xNum t).1) := by
  obtain ⟨h1, h2⟩ := h
  cases hb : s.bad with
  | false =>
    have e := h2 hb
    subst e
    rw [cNum_x s hb]
    exact ⟨⟨rfl, fun _ => rfl⟩, fun _ => rfl⟩
  | true =>
    have b1 := cNum_bad s hb
    have b2 : (xNum t).2.bad = true := by
      have hx := xNum_le t
      cases e : (xNum t).2.bad with
      | true => rfl
      | false => have := (hx.2 e).1; rw [← h1, hb] at this; cases this
    exact ⟨⟨by rw [b1, b2], fun h9 => by rw [b1] at h9; cases h9⟩, fun h9 => by rw [b1] at h9; cases h9⟩
/-- What Read answers. -/
def RdP (l : List UInt8) (e : Ending) (w' : World) : Prop := (∃ ns P vp vq, RRead l = some (ns, P) ∧ e = .returned (.tuple #[.agg #[vp, vq], .bool true]) ∧ TS w' vp ns ∧ PV w' vq P) ∨ (RRead l = none ∧ ∃ a1 n1 c1 a2 n2 c2, e = .returned (.tuple #[.agg #[.slice a1 n1 c1, .slice a2 n2 c2], .bool false]))
theorem RdS.new (l : List UInt8) (w : World) : RdS w (((w.alloc (.cells #[.slice none 0 0, .slice none 0 0] 31)).alloc (.cells #[.string (mkB l), .bool false] 86)).alloc (.cells #[.slice none 0 0, .slice none 0 0] 31)) w.heap.size ⟨l, false⟩ (.slice none 0 0) [] (.slice none 0 0) [] := by
  refine ⟨?_, ?_, ?_, ⟨rfl, .inl ⟨rfl, rfl⟩⟩, ⟨rfl, .inl ⟨rfl, rfl⟩⟩, (((Below.refl _ w).alloc (Nat.le_refl _) _).alloc (by simp) _).alloc (by simp; omega) _⟩
  · exact (Below.heap_alloc _ _ _ (by simp; omega)).trans ((Below.heap_alloc _ _ _ (by simp)).trans (heap_alloc_new _ _))
  · have h9 := heap_alloc_new (w.alloc (.cells #[.slice none 0 0, .slice none 0 0] 31)) (.cells #[.string (mkB l), .bool false] 86)
    rw [World.size_alloc] at h9
    exact (Below.heap_alloc _ _ _ (by simp)).trans h9
  · have h9 := heap_alloc_new ((w.alloc (.cells #[.slice none 0 0, .slice none 0 0] 31)).alloc (.cells #[.string (mkB l), .bool false] 86)) (.cells #[.slice none 0 0, .slice none 0 0] 31)
    rw [World.size_alloc, World.size_alloc] at h9
    exact h9
theorem zeroCu (w : World) : (zeroValue 86).run Try.prog w = .ok (.agg #[.string ⟨#[]⟩, .bool false]) w := by kernel_rfl
/-- The reading of an entry, by the document's reader. -/
theorem entry_c {s s2 s3 s4 s5 s6 s7 s8 : Sx} {X : List UInt8} {k m c p z a : Nat} (h : s.bad = false) (hT : xTxt s = (X, s2)) (h3 : cNum s2 = (k, s3)) (h4 : cNum s3 = (m, s4)) (h5 : cNum s4 = (c, s5)) (h6 : cNum s5 = (p, s6)) (h7 : cNum s6 = (z, s7)) (h8 : cNum s7 = (a, s8)) :
    (xRest (xHd s).2.2).2.bad = s8.bad ∧ (s8.bad = false → xHd s = (X, k, s3) ∧ xRest s3 = ((m, c, p, z, a), s8)) := by
  have a2 : Agr s2 s2 := ⟨rfl, fun _ => rfl⟩
  have a3 := a2.num
  have a4 := a3.1.num
  have a5 := a4.1.num
  have a6 := a5.1.num
  have a7 := a6.1.num
  have a8 := a7.1.num
  simp only [h3, h4, h5, h6, h7, h8] at a3 a4 a5 a6 a7 a8
  have hx2 : (xHd s).2.2 = (xNum s2).2 := by unfold xHd; rw [hT]
  rw [hx2]
  refine ⟨a8.1.1.symm, fun hb => ?_⟩
  have e8 := a8.1.2 hb
  have b7 : s7.bad = false := by cases e : s7.bad with | false => rfl | true => have := cNum_bad s7 e; rw [h8] at this; rw [hb] at this; cases this
  have b6 : s6.bad = false := by cases e : s6.bad with | false => rfl | true => have := cNum_bad s6 e; rw [h7] at this; rw [b7] at this; cases this
  have b5 : s5.bad = false := by cases e : s5.bad with | false => rfl | true => have := cNum_bad s5 e; rw [h6] at this; rw [b6] at this; cases this
  have b4 : s4.bad = false := by cases e : s4.bad with | false => rfl | true => have := cNum_bad s4 e; rw [h5] at this; rw [b5] at this; cases this
  have b3 : s3.bad = false := by cases e : s3.bad with | false => rfl | true => have := cNum_bad s3 e; rw [h4] at this; rw [b4] at this; cases this
  have e3 := a3.1.2 b3
  have e4 := a4.1.2 b4
  have e5 := a5.1.2 b5
  have e6 := a6.1.2 b6
  have e7 := a7.1.2 b7
  refine ⟨?_, ?_⟩
  · show ((xTxt s).1, (xNum (xTxt s).2).1, (xNum (xTxt s).2).2) = _
    rw [hT]
    simp only
    rw [← e3, ← a3.2 b3]
  · unfold xRest
    rw [e3]
    simp only
    rw [← a4.2 b4, ← a5.2 b5, ← a6.2 b6, ← a7.2 b7, ← a8.2 hb, ← e8]
end Go.Proofs.Ytpfjcdfhlcnlcaa
