/- Contract: the reader's index. -/
import Derived.Test.YtpfjcdfhlcnlcaaIdxD
import Derived.Deep.RegionHeld3
namespace Go.Proofs.Ytpfjcdfhlcnlcaa
open Go.RowKit Go.Maps
set_option linter.unusedVariables false
set_option linter.unusedSimpArgs false

theorem tc_append (l m : List (List UInt8)) : tc (l ++ m) = tc l ++ tc m := by simp [tc]
theorem OT.shape {w : World} {B : Nat} {v : Value} {l : List (List UInt8)} (h : OT w B v l) : ∃ a c, v = .slice a l.length c := by
  rcases h.2 with ⟨rfl, h0⟩ | ⟨g', cap, cur, rfl, _⟩
  · exact ⟨none, 0, by rw [h0]⟩
  · exact ⟨_, cap, rfl⟩
theorem OT.made (w : World) (X : List UInt8) : OT (w.alloc (.cells #[.string (mkB X)] 9)) w.heap.size (.slice (some ⟨w.heap.size, 0, none⟩) 1 1) [X] :=
  ⟨rfl, .inr ⟨w.heap.size, 1, #[.string (mkB X)], rfl, Nat.le_refl _, heap_alloc_new w _, Nat.le_refl _, by decide, rfl, rfl⟩⟩
theorem OT.keptb {w w' : World} {B : Nat} {v : Value} {l : List (List UInt8)} (h : OT w B v l) (hb : ∀ r, v.ownBlock = some r → w'.heap[r]? = w.heap[r]?) : OT w' B v l := by
  obtain ⟨h1, h2⟩ := h
  refine ⟨h1, ?_⟩
  rcases h2 with h2 | ⟨g, cap, cur, rfl, hB, hg, r⟩
  · exact .inl h2
  · exact .inr ⟨g, cap, cur, rfl, hB, (hb g rfl).trans hg, r⟩
/-- append(s, x) for one text x. -/
theorem append_ot {w : World} {ops : Array Oper} {rest : List Oper} {o : Oper} {a : Act} {Q : Exit → Act → World → Prop} (hgd : o.guard = none) (s x : Operand)
    (ho : o.op = .call { callee := .builtin .append, args := #[s, x], argTypes := #[28, 28] })
    (B : Nat) (v : Value) (l : List (List UInt8)) (X : List UInt8) (hs : a.eval s = v) (hx : a.eval x = .slice (some ⟨w.heap.size, 0, none⟩) 1 1) (hO : OT w B v l) (hl : l.length + 1 ≤ 1000000) (hB : B ≤ w.heap.size)
    (h : ∀ a' c' w', OT w' B (.slice a' (l.length + 1) c') (l ++ [X]) → w.grownBy w' v.ownBlock → (∀ r, (Value.slice a' (l.length + 1) c').ownBlock = some r → v.ownBlock = some r ∨ w.heap.size ≤ r ∧ r < w'.heap.size) → wpList Try.prog ops Q rest (a.put o.dst (.slice a' (l.length + 1) c')) w') : wpList Try.prog ops Q (o :: rest) a (w.alloc (.cells #[.string (mkB X)] 9)) := by
  obtain ⟨i0, hi, hz0, hz1, hz2⟩ := info_parts Try.infoTx
  have hb : Below w.heap.size w (w.alloc (.cells #[.string (mkB X)] 9)) := (Below.refl _ _).alloc (Nat.le_refl _) _
  have hN : ∀ j u, (tc [X])[j]? = some u → (w.alloc (.cells #[.string (mkB X)] 9)).cell? ((⟨w.heap.size, 0, none⟩ : Addr).add j) = some u := fun j u hu => World.ownsRow.cells (OT.made w X) (g := w.heap.size) rfl j u hu
  have H1 : ∀ y ∈ tc [X], y.oneCell' = true := by intro y hy; simp [tc] at hy; subst hy; rfl
  refine wpList_append_own_at _ hgd s x 28 ho B 9 i0 (.string ⟨#[]⟩) 1 16 Try.underlying28 hi hz0 hz1 hz2 rfl (by decide) v _ _ hs (hO.below hb) ⟨w.heap.size, 0, none⟩ 1 1 (tc [X]) hx (by rw [tc_len]; rfl) hN H1 (by unfold maxLen; omega) (by omega) (by rw [World.size_alloc]; omega) ?_
  intro v' w' hown hg _ hat
  have hO' : OT w' B v' (l ++ [X]) := by unfold OT; rw [tc_append, List.length_append]; exact hown
  obtain ⟨a', c', rfl⟩ := hO'.shape
  have e : (l ++ [X]).length = l.length + 1 := by simp
  rw [e] at hO' hat ⊢
  refine h a' c' w' hO' (gtrans (gbelow hb) hg) (fun r hr => ?_)
  rcases hat with hat | hat
  · exact .inl (hat ▸ hr)
  · rw [hat] at hr
    cases hr
    exact .inr ⟨by simp, (World.ownsRow.lt hO' _ hat).2⟩
/-- Others' blocks have turned, and grown. -/
theorem IX.grow {w w' : World} {x : Nat} {K : Nat → Prop} {ps : List (List UInt8)} {F : As Pl} {row : Option Nat} (h : IX w x K ps F) (hg : w.grownBy w' row) (hr : ∀ r, row = some r → K r) : IX w' x (fun k => K k ∨ (w.heap.size ≤ k ∧ k < w'.heap.size)) ps F :=
  h.kept (fun k hk hn => hg.block k hk (fun e => hn (hr k e.symm))) (fun k hk => by
    rcases hk with hk | hk
    · exact ⟨Nat.lt_of_lt_of_le (h.Kb k hk) hg.size, .inl hk⟩
    · exact ⟨hk.2, .inr hk.1⟩)
theorem xPk_stop (c : Nat) (s : Sx) (ns : List (List UInt8)) (h : c = 0 ∨ s.bad = true) : xPk c s ns = (ns, s) := by
  cases c with
  | zero => rfl
  | succ c => rcases h with h | h; omega; rw [xPk, if_pos h]
theorem xCh_stop (c : Nat) (s : Sx) (ns : List (List UInt8)) (F : As Pl) (h : c = 0 ∨ s.bad = true) : xCh c s ns F = (F, s) := by
  cases c with
  | zero => rfl
  | succ c => rcases h with h | h; omega; rw [xCh, if_pos h]
/-- The state of the reading: the index y, its reader g, the names. -/
structure XS (w0 wr : World) (g y : Nat) (L : Nat) (s : Sx) (v : Value) (ns : List (List UInt8)) (F : As Pl) (K : Nat → Prop) : Prop where
  ix : IX wr y K (adPs ns) F
  rx : RX wr g s
  kg : K g
  row : OT wr w0.heap.size v ns
  kr : ∀ r, v.ownBlock = some r → K r ∧ r ≠ g
  old : ∀ k, k < w0.heap.size → K k
  gr : w0.grownBy wr (some g)
  nl : ns.length + s.rest.length ≤ L + 1
  nb : s.bad = false → ns.length + s.rest.length ≤ L
  nx : ∀ x ∈ ns, x.length ≤ L
/-- The reader has gone on. -/
theorem XS.read {w0 wr w' : World} {g y L : Nat} {s s' : Sx} {v : Value} {ns : List (List UInt8)} {F : As Pl} {K : Nat → Prop} (h : XS w0 wr g y L s v ns F K) (hr : RX w' g s') (hg : wr.grownBy w' (some g)) (hl : s'.rest.length ≤ s.rest.length) (hb : s'.bad = false → s.bad = false) :
    XS w0 w' g y L s' v ns F (fun k => K k ∨ (wr.heap.size ≤ k ∧ k < w'.heap.size)) :=
  ⟨h.ix.grow hg (fun r e => by cases e; exact h.kg), hr, .inl h.kg, h.row.keptb (fun r hr' => hg.block r (World.ownsRow.lt h.row r hr').2 (fun e => (h.kr r hr').2 (Option.some.inj e))),
   fun r hr' => ⟨.inl (h.kr r hr').1, (h.kr r hr').2⟩, fun k hk => .inl (h.old k hk), gtrans h.gr hg, by have := h.nl; omega, fun hb' => by have := h.nb (hb hb'); omega, h.nx⟩
/-- New memory. -/
theorem XS.below {w0 wr w' : World} {g y L : Nat} {s : Sx} {v : Value} {ns : List (List UInt8)} {F : As Pl} {K : Nat → Prop} (h : XS w0 wr g y L s v ns F K) (hb : Below wr.heap.size wr w') :
    XS w0 w' g y L s v ns F (fun k => K k ∨ (wr.heap.size ≤ k ∧ k < w'.heap.size)) :=
  h.read (s' := s) ((hb.block _ h.rx.lt).trans h.rx) (gbelow hb) (Nat.le_refl _) (fun h => h)
theorem XS.add {w0 wr w' : World} {g y L : Nat} {s : Sx} {v : Value} {ns ns' : List (List UInt8)} {F F' : As Pl} {K : Nat → Prop} (h : XS w0 wr g y L s v ns F K) (hI : IX w' y K (adPs ns') F') (hk : Keeps K wr w') (hO : ns' = ns) :
    XS w0 w' g y L s v ns F' K := by
  subst hO
  refine ⟨hI, (hk.block _ h.kg).trans h.rx, h.kg, h.row.keptb (fun r hr => hk.block r (h.kr r hr).1), h.kr, h.old, ?_, h.nl, h.nb, h.nx⟩
  refine ⟨hk.os.trans h.gr.os, hk.tape.trans h.gr.tape, hk.output.trans h.gr.output, Nat.le_trans h.gr.size hk.size, fun i hi hn => (hk.block i (h.old i hi)).trans (h.gr.block i hi hn)⟩
/-- Beside it a head of one's own, in block b. -/
def XB (w0 wr : World) (g y : Nat) (L : Nat) (s : Sx) (v : Value) (ns : List (List UInt8)) (F : As Pl) (b : Nat) (cs : Array Value) : Prop :=
  ∃ K, XS w0 wr g y L s v ns F K ∧ K b ∧ b ≠ g ∧ (∀ r, v.ownBlock = some r → r ≠ b) ∧ wr.heap[b]? = some (.cells cs 38 (0, 0)) ∧ w0.heap.size ≤ b
theorem XB.new {w0 wr : World} {g y L : Nat} {s : Sx} {v : Value} {ns : List (List UInt8)} {F : As Pl} {K : Nat → Prop} (h : XS w0 wr g y L s v ns F K) (cs : Array Value) : XB w0 (wr.alloc (.cells cs 38)) g y L s v ns F wr.heap.size cs :=
  ⟨_, h.below ((Below.refl _ wr).alloc (Nat.le_refl _) _), .inr ⟨Nat.le_refl _, by simp⟩, fun e => by have := h.rx.lt; omega, fun r hr e => by have := (World.ownsRow.lt h.row r hr).2; omega, heap_alloc_new _ _, h.gr.size⟩
theorem XB.read {w0 wr w' : World} {g y L : Nat} {s s' : Sx} {v : Value} {ns : List (List UInt8)} {F : As Pl} {b : Nat} {cs : Array Value} (h : XB w0 wr g y L s v ns F b cs) (hr : RX w' g s') (hg : wr.grownBy w' (some g)) (hl : s'.rest.length ≤ s.rest.length) (hb : s'.bad = false → s.bad = false) : XB w0 w' g y L s' v ns F b cs := by
  obtain ⟨K, h1, h2, h3, h4, h5, h6⟩ := h
  exact ⟨_, h1.read hr hg hl hb, .inl h2, h3, h4, (hg.block _ (Array.getElem?_eq_some_iff.1 h5).1 (fun e => h3 (Option.some.inj e))).trans h5, h6⟩
theorem XB.below {w0 wr w' : World} {g y L : Nat} {s : Sx} {v : Value} {ns : List (List UInt8)} {F : As Pl} {b : Nat} {cs : Array Value} (h : XB w0 wr g y L s v ns F b cs) (hb : Below wr.heap.size wr w') : XB w0 w' g y L s v ns F b cs := by
  obtain ⟨K, h1, h2, h3, h4, h5, h6⟩ := h
  exact ⟨_, h1.below hb, .inl h2, h3, h4, (hb.block _ (Array.getElem?_eq_some_iff.1 h5).1).trans h5, h6⟩
theorem XB.set {w0 wr : World} {g y L : Nat} {s : Sx} {v : Value} {ns : List (List UInt8)} {F : As Pl} {b : Nat} {cs : Array Value} (h : XB w0 wr g y L s v ns F b cs) (j : Nat) (u : Value) : XB w0 (wr.setCell ⟨b, j, none⟩ u) g y L s v ns F b (cs.setIfInBounds j u) := by
  obtain ⟨K, h1, h2, h3, h4, h5, h6⟩ := h
  have hg : wr.grownBy (wr.setCell ⟨b, j, none⟩ u) (some b) := gset (grefl wr _) j u
  refine ⟨fun k => K k ∨ (wr.heap.size ≤ k ∧ k < (wr.setCell ⟨b, j, none⟩ u).heap.size), ⟨h1.ix.grow hg (fun r e => by cases e; exact h2), (hg.block _ h1.rx.lt (fun e => h3 (Option.some.inj e).symm)).trans h1.rx, .inl h1.kg, h1.row.keptb (fun r hr => hg.block r (World.ownsRow.lt h1.row r hr).2 (fun e => h4 r hr (Option.some.inj e))), fun r hr => ⟨.inl (h1.kr r hr).1, (h1.kr r hr).2⟩, fun k hk => .inl (h1.old k hk), ?_, h1.nl, h1.nb, h1.nx⟩, .inl h2, h3, h4, heap_setCell_same wr b j _ _ _ h5, h6⟩
  exact ⟨hg.os.trans h1.gr.os, hg.tape.trans h1.gr.tape, hg.output.trans h1.gr.output, Nat.le_trans h1.gr.size hg.size, fun i hi hn => (hg.block i (Nat.lt_of_lt_of_le hi h1.gr.size) (fun e => by have := Option.some.inj e; omega)).trans (h1.gr.block i hi hn)⟩
theorem XB.rx {w0 wr : World} {g y L : Nat} {s : Sx} {v : Value} {ns : List (List UInt8)} {F : As Pl} {b : Nat} {cs : Array Value} (h : XB w0 wr g y L s v ns F b cs) : RX wr g s := by obtain ⟨K, h1, _⟩ := h; exact h1.rx
theorem XB.cell {w0 wr : World} {g y L : Nat} {s : Sx} {v : Value} {ns : List (List UInt8)} {F : As Pl} {b : Nat} {cs : Array Value} (h : XB w0 wr g y L s v ns F b cs) (j : Nat) : wr.cell? ⟨b, j, none⟩ = cs[j]? := by obtain ⟨K, _, _, _, _, h5, _⟩ := h; exact cell_of_row _ _ _ _ _ _ h5
theorem XB.fz {w0 wr : World} {g y L : Nat} {s : Sx} {v : Value} {ns : List (List UInt8)} {F : As Pl} {b : Nat} {cs : Array Value} (h : XB w0 wr g y L s v ns F b cs) (j : Nat) : wr.frozen? ⟨b, j, none⟩ = false := by obtain ⟨K, _, _, _, _, h5, _⟩ := h; exact frozen_of_row _ _ _ _ _ h5
theorem XB.row {w0 wr : World} {g y L : Nat} {s : Sx} {v : Value} {ns : List (List UInt8)} {F : As Pl} {b : Nat} {cs : Array Value} (h : XB w0 wr g y L s v ns F b cs) : OT wr w0.heap.size v ns := by obtain ⟨K, h1, _⟩ := h; exact h1.row
theorem xRest_le (s : Sx) : (xRest s).2.rest.length ≤ s.rest.length ∧ ((xRest s).2.bad = false → s.bad = false ∧ (xRest s).2.rest.length + 1 ≤ s.rest.length) := by
  have a1 := xNum_le s
  have a2 := xNum_le (xNum s).2
  have a3 := xNum_le (xNum (xNum s).2).2
  have a4 := xNum_le (xNum (xNum (xNum s).2).2).2
  have a5 := xNum_le (xNum (xNum (xNum (xNum s).2).2).2).2
  unfold xRest
  simp only
  refine ⟨by omega, fun h => ?_⟩
  have b5 := a5.2 h
  have b4 := a4.2 b5.1
  have b3 := a3.2 b4.1
  have b2 := a2.2 b3.1
  have b1 := a1.2 b2.1
  exact ⟨b1.1, by omega⟩
theorem xnumI_any {g : Nat} {s s' : Sx} {n : Nat} (h : xNum s = (n, s')) (w : World) (hR : RX w g s) (hl : s.rest.length ≤ 1000000000) :
    Calls Try.prog 38 #[.pointer (some ⟨g, 0, none⟩)] w fun e w' => e = .returned (.int .i64 (n : Int)) ∧ RX w' g s' ∧ w.grownBy w' (some g) := by
  have := xnum_any g s w hR hl
  rw [h] at this
  exact this
theorem XB.num {w0 wr w' : World} {g y L : Nat} {s s' : Sx} {v : Value} {ns : List (List UInt8)} {F : As Pl} {b : Nat} {cs : Array Value} {n : Nat} (h : XB w0 wr g y L s v ns F b cs) (hn : xNum s = (n, s')) (hr : RX w' g s') (hg : wr.grownBy w' (some g)) : XB w0 w' g y L s' v ns F b cs := by
  have h9 := xNum_le s
  rw [hn] at h9
  exact h.read hr hg h9.1 (fun h8 => (h9.2 h8).1)
theorem xHd_le (s : Sx) : (xHd s).2.2.rest.length ≤ s.rest.length := by
  have a1 := (xTxt_le s).1
  have a2 := (xNum_le (xTxt s).2).1
  show (xNum (xTxt s).2).2.rest.length ≤ _
  omega
theorem hv_nil (w : World) (K : Nat → Prop) : HV w K (.slice none 0 0) [] := ⟨none, 0, rfl, Nat.le_refl _, fun h => absurd rfl h⟩
set_option maxRecDepth 100000 in
set_option maxHeartbeats 4000000 in
theorem xindex_any (g : Nat) (l : List UInt8) (w : World) (hR : RX w g ⟨l, false⟩) (hl : l.length ≤ 9000) :
    Calls Try.prog 29 #[.pointer (some ⟨g, 0, none⟩)] w fun e w' => e = .returned (.pointer (some ⟨w.heap.size, 0, none⟩)) ∧ ∃ K v, XS w w' g w.heap.size l.length (xIdx l).2.2 v (xIdx l).1 (xIdx l).2.1 K := by
  have hzi := zeroIx
  have hzh := zeroHd
  have HR : Hid (RX w g ⟨l, false⟩) := hR
  have hgl := RX.lt hR
  obtain ⟨W1, hW1⟩ : ∃ W1, W1 = w.alloc (.cells #[.map none, .map none] 27) := ⟨_, rfl⟩
  have hb1 : Below w.heap.size w W1 := by rw [hW1]; exact (Below.refl _ w).alloc (Nat.le_refl _) _
  have hX1 : XS w W1 g w.heap.size l.length ⟨l, false⟩ (.slice none 0 0) [] [] (fun k => k < w.heap.size) :=
    ⟨by rw [hW1]; exact IX.zero w, (hb1.block _ hgl).trans hR, hgl, ⟨rfl, .inl ⟨rfl, rfl⟩⟩, fun r hr => (by cases hr), fun k hk => hk, gbelow hb1, (by simp), fun _ => (by simp), fun x hx => (by cases hx)⟩
  have HX1 : Hid (XS w W1 g w.heap.size l.length ⟨l, false⟩ (.slice none 0 0) [] [] (fun k => k < w.heap.size)) := hX1
  have HXI : Hid (xIdx l = (let n := xNum ⟨l, false⟩; let p := xPk n.1 n.2 []; let m := xNum p.2; let r := xCh m.1 m.2 p.1 []; (p.1, r.1, r.2))) := rfl
  obtain ⟨y, hy⟩ : ∃ y, y = w.heap.size := ⟨_, rfl⟩
  have HY : Hid (y = w.heap.size) := hy
  clear hR hX1 hb1
  go_enter Try.func29, Try.ntmps29
  go_wp2_with fail
  rw [← hW1]
  refine (xnum_any g _ W1 HX1.out.rx (by have := hl; simp only; omega)).mono ?_
  rintro e w2 ⟨rfl, hR2, hg2⟩
  have hle := xNum_le ⟨l, false⟩
  have hX2 := HX1.out.read hR2 hg2 hle.1 (fun h => (hle.2 h).1)
  obtain ⟨c0, hc0⟩ : ∃ c0, c0 = (xNum ⟨l, false⟩).1 := ⟨_, rfl⟩
  obtain ⟨s0, hs0⟩ : ∃ s0, s0 = (xNum ⟨l, false⟩).2 := ⟨_, rfl⟩
  have hc0b : c0 < 4294967296 := by rw [hc0]; exact xNum_lt _
  rw [← hs0] at hX2
  rw [← hc0]
  obtain ⟨R1, hR1⟩ : ∃ R1, R1 = xPk c0 s0 [] := ⟨_, rfl⟩
  have HR1 : Hid (R1 = xPk c0 s0 []) := hR1
  have HXI2 : Hid (xIdx l = (R1.1, (xCh (xNum R1.2).1 (xNum R1.2).2 R1.1 []).1, (xCh (xNum R1.2).1 (xNum R1.2).2 R1.1 []).2)) := by
    unfold Hid; rw [HXI.out, hR1, hc0, hs0]
  have HX2 : Hid (∃ K, XS w w2 g w.heap.size l.length s0 (.slice none 0 0) [] [] K) := ⟨_, hX2⟩
  clear hX2 hR2 hg2 hW1 HX1 HXI hle hc0 hs0 hR1
  rw [← hy] at HX2 ⊢
  clear hy
  go_wp2
  go_loopw [4, 5] (fun v c wr => ∃ (cn : Nat) (s : Sx) (ns : List (List UInt8)) (K : Nat → Prop) (ua : Option Addr) (uc : Nat), cn < 4294967296 ∧ c = .int .i64 (cn : Int) ∧ v = .slice ua ns.length uc ∧ xPk cn s ns = R1 ∧ XS w wr g y l.length s (.slice ua ns.length uc) ns [] K) (fun _ c _ => (intOf c).toNat)
  case atStart =>
    obtain ⟨K, hK⟩ := HX2.out
    exact ⟨c0, s0, [], K, none, 0, hc0b, rfl, rfl, HR1.out.symm, hK⟩
  case round =>
    obtain ⟨cn, s, ns, K, ua, uc, hcn, rfl, rfl, hxp, hX⟩ := hrel
    have HX : Hid (XS w wr g y l.length s (.slice ua ns.length uc) ns [] K) := hX
    have HXP : Hid (xPk cn s ns = R1) := hxp
    have c1 := RX.c1 hX.rx
    clear hX hxp HX2
    by_cases hgo : 0 < cn ∧ s.bad = false
    · obtain ⟨h1, h2⟩ := hgo
      obtain ⟨cn, rfl⟩ : ∃ k, cn = k + 1 := ⟨cn - 1, by omega⟩
      have h1i : (0 : Int) < ((cn + 1 : Nat) : Int) := by omega
      rw [h2] at c1
      have HXP2 : Hid (xPk cn (xTxt s).2 (ns ++ [(xTxt s).1]) = R1) := by
        have h9 := HXP.out; rw [xPk, if_neg (by rw [h2]; simp)] at h9; exact h9
      have hnb := HX.out.nb h2
      have htl := xTxt_le s
      have HNM : Hid (Calls Try.prog _ _ _ _) := xtxt_any g s wr HX.out.rx (by omega)
      go_wp2_with fail
      refine HNM.out.mono ?_
      rintro e w3 ⟨rfl, hR3, hg3⟩
      have HX3 : Hid (XS w w3 g y l.length (xTxt s).2 (.slice ua ns.length uc) ns [] (fun k => K k ∨ (wr.heap.size ≤ k ∧ k < w3.heap.size))) := HX.out.read hR3 hg3 htl.1 (fun _ => h2)
      obtain ⟨X, hXe⟩ : ∃ X, X = (xTxt s).1 := ⟨_, rfl⟩
      obtain ⟨s2, hs2⟩ : ∃ s2, s2 = (xTxt s).2 := ⟨_, rfl⟩
      rw [← hXe, ← hs2] at HXP2
      rw [← hs2] at HX3
      rw [← hXe]
      have hXl : X.length ≤ l.length := by rw [hXe]; have := HX.out.nb h2; omega
      have HNB2 : Hid (s2.bad = false → s2.rest.length + 1 ≤ s.rest.length) := by unfold Hid; rw [hs2]; exact htl.2.2
      have HNL2 : Hid (s2.rest.length ≤ s.rest.length) := by unfold Hid; rw [hs2]; exact htl.1
      have HNB : Hid (ns.length + s.rest.length ≤ l.length) := hnb
      have hnsl : ns.length ≤ 9000 := by omega
      have HZ3 : Hid (w.heap.size ≤ w3.heap.size) := HX3.out.gr.size
      clear hR3 hg3 htl hXe hs2 HNM HX HXP hnb c1
      go_wp2_with (at_builtin; refine append_ot rfl _ _ rfl w.heap.size (.slice ua ns.length uc) ns X rfl rfl HX3.out.row (by omega) HZ3.out ?_; intro a' c' w4 hO4 hg4 hat4; obtain ⟨ga, ca, ea, -, hga⟩ := hO4.form (by simp); injection ea with ea1 ea2 ea3; clear ea2; subst ea1 ea3; have hcell4 : w4.cell? ⟨ga, ns.length, none⟩ = some (.string (mkB X)) := (by have h9 := hO4.cell ns.length (by simp) (by simp); rw [List.getD_eq_getElem?_getD] at h9; simpa using h9); have hc4 : ns.length + 1 ≤ c' := (by rcases World.ownsRow.lt hO4 _ rfl with ⟨_, _⟩; rcases hO4.2 with ⟨h9, _⟩ | ⟨_, _, _, h9, _, _, h8, _⟩; cases h9; injection h9 with _ _ h9; simp at h8; omega))
      have hI4 : IX w4 y (fun k => (K k ∨ (wr.heap.size ≤ k ∧ k < w3.heap.size)) ∨ (w3.heap.size ≤ k ∧ k < w4.heap.size)) (adPs ns) [] := HX3.out.ix.grow hg4 (fun r hr => (HX3.out.kr r hr).1)
      refine (add_any X _ [] w4 hI4 (hv_nil _ _) (by omega) (fun y hy => by cases hy) (by have := adPs_len ns; omega) (by simp)).mono ?_
      rintro e w5 ⟨rfl, hI5, hk5⟩
      rw [← adPs_snoc] at hI5
      have HX5 : Hid (XS w w5 g y l.length s2 (.slice (some ⟨ga, 0, none⟩) (ns.length + 1) c') (ns ++ [X]) [] (fun k => (K k ∨ (wr.heap.size ≤ k ∧ k < w3.heap.size)) ∨ (w3.heap.size ≤ k ∧ k < w4.heap.size))) := by
        have hrg : ∀ r, (Value.slice ua ns.length uc).ownBlock = some r → r ≠ g := fun r hr => (HX3.out.kr r hr).2
        have hR4 : RX w4 g s2 := (hg4.block _ HX3.out.rx.lt (fun e => hrg g e.symm rfl)).trans HX3.out.rx
        have hkr : ∀ r, (Value.slice (some ⟨ga, 0, none⟩) (ns.length + 1) c').ownBlock = some r → ((K r ∨ (wr.heap.size ≤ r ∧ r < w3.heap.size)) ∨ (w3.heap.size ≤ r ∧ r < w4.heap.size)) ∧ r ≠ g := fun r hr => by
          rcases hat4 r hr with h | h
          · exact ⟨.inl (HX3.out.kr r h).1, hrg r h⟩
          · exact ⟨.inr h, fun e => by have := HX3.out.rx.lt; omega⟩
        have hkg := HX3.out.kg
        have hold : ∀ k, k < w.heap.size → ((K k ∨ (wr.heap.size ≤ k ∧ k < w3.heap.size)) ∨ (w3.heap.size ≤ k ∧ k < w4.heap.size)) := fun k hk => .inl (HX3.out.old k hk)
        have hgr4 : w.grownBy w4 (some g) := ⟨hg4.os.trans HX3.out.gr.os, hg4.tape.trans HX3.out.gr.tape, hg4.output.trans HX3.out.gr.output, Nat.le_trans HX3.out.gr.size hg4.size, fun i hi hn => (hg4.block i (Nat.lt_of_lt_of_le hi HX3.out.gr.size) (fun e => by have h9 := (World.ownsRow.lt HX3.out.row i e.symm).1; omega)).trans (HX3.out.gr.block i hi hn)⟩
        refine ⟨hI5, (hk5.block _ (.inl hkg)).trans hR4, .inl hkg, ?_, hkr, hold, ?_, ?_, ?_, ?_⟩
        · exact hO4.keptb (fun r hr => hk5.block r (hkr r hr).1)
        · exact ⟨hk5.os.trans hgr4.os, hk5.tape.trans hgr4.tape, hk5.output.trans hgr4.output, Nat.le_trans hgr4.size hk5.size, fun i hi hn => (hk5.block i (hold i hi)).trans (hgr4.block i hi hn)⟩
        · have a1 := HNL2.out; have a2 := HNB.out; simp; omega
        · intro hb; have a1 := HNB2.out hb; have a2 := HNB.out; simp; omega
        · intro x hx
          rcases List.mem_append.1 hx with hx | hx
          · exact HX3.out.nx x hx
          · rw [List.mem_singleton] at hx; rw [hx]; exact hXl
      have HLN : Hid ((ns ++ [X]).length = ns.length + 1) := by unfold Hid; simp
      clear hI4 hI5 hk5 hO4 hg4 hat4 hcell4 HX3
      go_wp2
      go_roundw
      case rel => exact ⟨cn, s2, ns ++ [X], _, _, _, by omega, by go_num, by rw [HLN.out], HXP2.out, by rw [HLN.out]; exact HX5.out⟩
      case measure => simp [intOf]
    · have hz9 : cn = 0 ∨ (0 < cn ∧ s.bad = true) := by
        by_cases h : s.bad = false
        · exact .inl (Nat.eq_zero_of_not_pos (fun h' => hgo ⟨h', h⟩))
        · have h3 : s.bad = true := by cases hb : s.bad with | true => rfl | false => exact absurd hb h
          rcases Nat.eq_zero_or_pos cn with h2 | h2
          · exact .inl h2
          · exact .inr ⟨h2, h3⟩
      have hst : R1 = (ns, s) := by rw [← HXP.out]; exact xPk_stop cn s ns (by rcases hz9 with h | h; exact .inl h; exact .inr h.2)
      have HXI3 : Hid (xIdx l = (ns, (xCh (xNum s).1 (xNum s).2 ns []).1, (xCh (xNum s).1 (xNum s).2 ns []).2)) := by unfold Hid; rw [HXI2.out, hst]
      have hle := xNum_le s
      have hnl := HX.out.nl
      have hnb9 := HX.out.nb
      have hx0 : (xNum s).2.rest.length ≤ l.length + 1 ∧ ((xNum s).2.bad = false → (xNum s).2.rest.length ≤ l.length) := ⟨by have := hle.1; omega, fun h9 => by have q1 := hle.2 h9; have q2 := hnb9 q1.1; omega⟩
      have HNUM : Hid (Calls Try.prog _ _ _ _) := xnum_any g s wr HX.out.rx (by omega)
      obtain ⟨c9, hc9⟩ : ∃ c9, c9 = (xNum s).1 := ⟨_, rfl⟩
      obtain ⟨s9, hs9⟩ : ∃ s9, s9 = (xNum s).2 := ⟨_, rfl⟩
      have hc9b : c9 < 4294967296 := by rw [hc9]; exact xNum_lt _
      have HRD : Hid (∀ w', RX w' g s9 → wr.grownBy w' (some g) → ∃ K, XS w w' g y l.length s9 (.slice ua ns.length uc) ns [] K) := fun w' h1 h2 => by rw [hs9] at h1 ⊢; exact ⟨_, HX.out.read h1 h2 hle.1 (fun h => (hle.2 h).1)⟩
      rw [← hc9, ← hs9] at HXI3
      rw [← hs9] at hx0
      have HX0 : Hid (s9.rest.length ≤ l.length + 1 ∧ (s9.bad = false → s9.rest.length ≤ l.length)) := hx0
      unfold Hid at HNUM
      rw [← hc9, ← hs9] at HNUM
      have HNM : Hid (Calls Try.prog _ _ _ _) := HNUM
      have HNS : Hid (ns.length ≤ 9001) := by unfold Hid; omega
      have HNX : Hid (∀ x ∈ ns, x.length ≤ 9000) := fun x hx => by have := HX.out.nx x hx; omega
      clear hgo hst hle hnl HNUM hc9 hs9 HXP HX HXI2 HR1 hnb9 hx0
      obtain ⟨R2, hR2⟩ : ∃ R2, R2 = xCh c9 s9 ns [] := ⟨_, rfl⟩
      have HR2 : Hid (R2 = xCh c9 s9 ns []) := hR2
      rw [← hR2] at HXI3
      clear hR2
      rcases hz9 with rfl | ⟨h1, h2⟩
      case inr =>
        have h1i : (0 : Int) < (cn : Int) := by omega
        rw [h2] at c1
        go_wp2_with fail
        refine HNM.out.mono ?_
        rintro e w6 ⟨rfl, hR6, hg6⟩
        have HX6 : Hid (∃ K, XS w w6 g y l.length s9 (.slice ua ns.length uc) ns [] K) := HRD.out _ hR6 hg6
        clear hR6 hg6 HRD HNM c1 h1 h2 h1i
        go_wp2
        go_loopw [6] (fun c wq => ∃ (cn : Nat) (s : Sx) (F : As Pl) (K : Nat → Prop), cn < 4294967296 ∧ c = .int .i64 (cn : Int) ∧ xCh cn s ns F = R2 ∧ XS w wq g y l.length s (.slice ua ns.length uc) ns F K ∧ F.length + s.rest.length ≤ l.length + 1 ∧ (s.bad = false → F.length + s.rest.length ≤ l.length)) (fun c _ => (intOf c).toNat)
        case atStart =>
          obtain ⟨K, hK⟩ := HX6.out
          exact ⟨c9, s9, [], K, hc9b, rfl, HR2.out.symm, hK, by simpa using HX0.out.1, by simpa using HX0.out.2⟩
        case round =>
          obtain ⟨cn, s, F, K, hcn, rfl, hxc, hX, hfl, hfb⟩ := hrel
          have HX : Hid (XS w wr g y l.length s (.slice ua ns.length uc) ns F K) := hX
          have HXC : Hid (xCh cn s ns F = R2) := hxc
          have HFL : Hid (F.length + s.rest.length ≤ l.length + 1 ∧ (s.bad = false → F.length + s.rest.length ≤ l.length)) := ⟨hfl, hfb⟩
          have c1 := RX.c1 hX.rx
          clear hX hxc hfl hfb HX6 HX0 HR2
          by_cases hgo : 0 < cn ∧ s.bad = false
          · obtain ⟨h1, h2⟩ := hgo
            obtain ⟨cn, rfl⟩ : ∃ k, cn = k + 1 := ⟨cn - 1, by omega⟩
            have h1i : (0 : Int) < ((cn + 1 : Nat) : Int) := by omega
            rw [h2] at c1
            have HXC2 : Hid (R2 = if isNm (xHd s).1 = false ∨ ns.length ≤ (xHd s).2.1 then (F, ⟨(xHd s).2.2.rest, true⟩) else xCh cn (xRest (xHd s).2.2).2 ns (adA F (xHd s).1 ⟨ns.getD (xHd s).2.1 [], hdX (xHd s).1 (xRest (xHd s).2.2).1⟩)) := by
              unfold Hid; rw [← HXC.out, xCh, if_neg (by rw [h2]; simp)]
            have hnb := HX.out.nb h2
            have htl := xTxt_le s
            have hnn := xNum_le (xTxt s).2
            have HNM : Hid (Calls Try.prog _ _ _ _) := xtxt_any g s wr HX.out.rx (by omega)
            have hT : (xHd s).1 = (xTxt s).1 := rfl
            have hP : (xHd s).2.1 = (xNum (xTxt s).2).1 := rfl
            have hQ : (xHd s).2.2 = (xNum (xTxt s).2).2 := rfl
            rw [hT, hP, hQ] at HXC2
            have htb : ∀ h : (xTxt s).2.bad = false, s.bad = false := fun _ => h2
            obtain ⟨X, hXe⟩ : ∃ X, X = (xTxt s).1 := ⟨_, rfl⟩
            obtain ⟨s2, hs2⟩ : ∃ s2, s2 = (xTxt s).2 := ⟨_, rfl⟩
            rw [← hXe, ← hs2] at HXC2 htl
            rw [← hs2] at hnn
            have HFB : Hid (F.length + s.rest.length ≤ l.length) := HFL.out.2 h2
            go_wp2_with fail
            refine HNM.out.mono ?_
            rw [← hXe, ← hs2]
            rintro e w3 ⟨rfl, hR3, hg3⟩
            have hXB3 := XB.new (HX.out.read hR3 hg3 htl.1 (fun _ => h2)) #[.string (mkB X), .int .i64 0, .int .u32 0, .int .i64 0, .int .i64 0, .int .i64 0]
            obtain ⟨b, hb⟩ : ∃ b, b = w3.heap.size := ⟨_, rfl⟩
            rw [← hb] at hXB3
            obtain ⟨W4, hW4⟩ : ∃ W4, W4 = w3.alloc (.cells #[.string (mkB X), .int .i64 0, .int .u32 0, .int .i64 0, .int .i64 0, .int .i64 0] 38) := ⟨_, rfl⟩
            rw [← hW4] at hXB3
            have HXB4 : Hid (XB w W4 g y l.length s2 (.slice ua ns.length uc) ns F b #[.string (mkB X), .int .i64 0, .int .u32 0, .int .i64 0, .int .i64 0, .int .i64 0]) := hXB3
            have hXl : X.length ≤ 9000 := by omega
            have hs2l : s2.rest.length ≤ 9000 := by omega
            have HN4 : Hid (Calls Try.prog _ _ _ _) := xnum_any g s2 W4 hXB3.rx (by omega)
            obtain ⟨pk, hpk⟩ : ∃ pk, pk = (xNum s2).1 := ⟨_, rfl⟩
            obtain ⟨s3, hs3⟩ : ∃ s3, s3 = (xNum s2).2 := ⟨_, rfl⟩
            rw [← hpk, ← hs3] at HXC2
            rw [← hs3] at hnn
            unfold Hid at HN4
            rw [← hpk, ← hs3] at HN4
            have HN5 : Hid (Calls Try.prog _ _ _ _) := HN4
            have HL3 : Hid (s3.rest.length ≤ s.rest.length ∧ (s3.bad = false → s3.rest.length + 2 ≤ s.rest.length)) := ⟨by omega, fun h9 => by have q1 := hnn.2 h9; have q2 := htl.2.2 q1.1; omega⟩
            have HRD4 : Hid (∀ w', RX w' g s3 → W4.grownBy w' (some g) → XB w w' g y l.length s3 (.slice ua ns.length uc) ns F b #[.string (mkB X), .int .i64 0, .int .u32 0, .int .i64 0, .int .i64 0, .int .i64 0]) := fun w' q1 q2 => HXB4.out.read q1 q2 hnn.1 (fun h9 => (hnn.2 h9).1)
            have hpkb : pk < 4294967296 := by rw [hpk]; exact xNum_lt _
            clear hR3 hg3 hXB3 HN4 HNM HX HXC hnn htl hXe hs2 hT hP hQ htb hpk hs3 hnb
            go_wp2_with fail
            rw [← hW4, ← hb]
            clear hW4 hb
            refine HN5.out.mono ?_
            rintro e w5 ⟨rfl, hR5, hg5⟩
            have hXB5 := HRD4.out _ hR5 hg5
            have HXB5 : Hid (XB w w5 g y l.length s3 (.slice ua ns.length uc) ns F b #[.string (mkB X), .int .i64 0, .int .u32 0, .int .i64 0, .int .i64 0, .int .i64 0]) := hXB5
            have d50 : w5.cell? ⟨b, 0, none⟩ = some (.string (mkB X)) := (hXB5.cell 0).trans rfl
            clear hR5 hg5 hXB5 HRD4 HN5 HXB4
            go_wp2_with fail
            refine (isd_any X w5 (by omega)).mono ?_
            rintro e w6 ⟨rfl, hb6⟩
            have hXB6 := HXB5.out.below hb6
            have HXB6 : Hid (XB w w6 g y l.length s3 (.slice ua ns.length uc) ns F b #[.string (mkB X), .int .i64 0, .int .u32 0, .int .i64 0, .int .i64 0, .int .i64 0]) := hXB6
            have HR6 : Hid (RX w6 g s3) := hXB6.rx
            have f61 := RX.fz hXB6.rx 1
            have c61 := RX.c1 hXB6.rx
            clear hb6 HXB5 d50
            have HRET : Hid (∀ w', w' = w6.setCell ⟨g, 1, none⟩ (.bool true) → R2 = (F, ⟨s3.rest, true⟩) → ∃ K v, XS w w' g y l.length R2.2 v ns R2.1 K) := fun w' e1 e2 => by
              obtain ⟨K9, h91, _⟩ := hXB6
              rw [e1, e2]
              exact ⟨_, _, h91.read (s' := ⟨s3.rest, true⟩) (HR6.out.set1 true) (gset (grefl _ _) 1 _) (Nat.le_refl _) (fun h => by cases h)⟩
            clear hXB6
            cases hnm : isNm X
            · rw [hnm, if_pos (.inl rfl)] at HXC2
              go_wp2
              go_ret
              rw [← HY.out, HXI3.out]
              exact ⟨rfl, HRET.out _ rfl HXC2.out⟩
            · by_cases hpn : ns.length ≤ pk
              · rw [if_pos (.inr hpn)] at HXC2
                have hpni : (ns.length : Int) ≤ (pk : Int) := by omega
                go_wp2
                go_ret
                rw [← HY.out, HXI3.out]
                exact ⟨rfl, HRET.out _ rfl HXC2.out⟩
              · rw [if_neg (by rw [hnm]; simp; omega)] at HXC2
                have hpni : decide ((ns.length : Int) ≤ (pk : Int)) = false := decide_eq_false (by omega)
                have hpn2 : pk < ns.length := by omega
                clear hpn HRET
                obtain ⟨m, s4, hm⟩ : ∃ m s4, xNum s3 = (m, s4) := ⟨_, _, rfl⟩
                obtain ⟨c, s5, hc⟩ : ∃ c s5, xNum s4 = (c, s5) := ⟨_, _, rfl⟩
                obtain ⟨p, s6, hp⟩ : ∃ p s6, xNum s5 = (p, s6) := ⟨_, _, rfl⟩
                obtain ⟨z, s7, hz⟩ : ∃ z s7, xNum s6 = (z, s7) := ⟨_, _, rfl⟩
                obtain ⟨a, s8, ha⟩ : ∃ a s8, xNum s7 = (a, s8) := ⟨_, _, rfl⟩
                have hxr : xRest s3 = ((m, c, p, z, a), s8) := by unfold xRest; simp only [hm, hc, hp, hz, ha]
                rw [hxr] at HXC2
                have hxl := xRest_le s3
                rw [hxr] at hxl
                have HL8 : Hid (s8.rest.length ≤ s.rest.length ∧ (s8.bad = false → s8.rest.length + 1 ≤ s.rest.length)) := ⟨by have := HL3.out.1; have := hxl.1; simp only at this; omega, fun h9 => by have q1 := hxl.2 h9; have q2 := HL3.out.1; simp only at q1; omega⟩
                have l3 : s3.rest.length ≤ 9000 := by have := HL3.out.1; have := HFB.out; omega
                have l4 : s4.rest.length ≤ 9000 := by have := (xNum_le s3).1; rw [hm] at this; simp only at this; omega
                have l5 : s5.rest.length ≤ 9000 := by have := (xNum_le s4).1; rw [hc] at this; simp only at this; omega
                have l6 : s6.rest.length ≤ 9000 := by have := (xNum_le s5).1; rw [hp] at this; simp only at this; omega
                have l7 : s7.rest.length ≤ 9000 := by have := (xNum_le s6).1; rw [hz] at this; simp only at this; omega
                have mb : m < 4294967296 := by have := xNum_lt s3; rw [hm] at this; exact this
                have cb : c < 4294967296 := by have := xNum_lt s4; rw [hc] at this; exact this
                have HM : Hid (xNum s3 = (m, s4)) := hm
                have HCC : Hid (xNum s4 = (c, s5)) := hc
                have HPP : Hid (xNum s5 = (p, s6)) := hp
                have HZZ : Hid (xNum s6 = (z, s7)) := hz
                have HAA : Hid (xNum s7 = (a, s8)) := ha
                have hcw : IntKind.u32.wrap (c : Int) = (c : Int) := by simp [IntKind.wrap, IntKind.signed, IntKind.bits]; omega
                clear hm hc hp hz ha hxr hxl c61 f61
                go_wp2_with fail
                refine (xnumI_any HM.out w6 HR6.out (by omega)).mono ?_
                rintro e w7 ⟨rfl, hR7, hg7⟩
                have HXB7 : Hid (XB w w7 g y l.length s4 (.slice ua ns.length uc) ns F b #[.string (mkB X), .int .i64 0, .int .u32 0, .int .i64 0, .int .i64 0, .int .i64 0]) := HXB6.out.num HM.out hR7 hg7
                clear hR7 hg7 HXB6 HR6
                go_wp2_with fail
                refine (xnumI_any HCC.out w7 HXB7.out.rx (by omega)).mono ?_
                rintro e w8 ⟨rfl, hR8, hg8⟩
                have hXB8 := HXB7.out.num HCC.out hR8 hg8
                have d1 : w8.cell? ⟨b, 1, none⟩ = some (.int .i64 0) := (hXB8.cell 1).trans rfl
                have d2 : w8.cell? ⟨b, 2, none⟩ = some (.int .u32 0) := (hXB8.cell 2).trans rfl
                have fd1 := hXB8.fz 1
                have fd2 := hXB8.fz 2
                have hXB9 := (hXB8.set 1 (.int .i64 (m : Int))).set 2 (.int .u32 (c : Int))
                obtain ⟨W9, hW9⟩ : ∃ W9, W9 = (w8.setCell ⟨b, 1, none⟩ (.int .i64 (m : Int))).setCell ⟨b, 2, none⟩ (.int .u32 (c : Int)) := ⟨_, rfl⟩
                rw [← hW9] at hXB9
                have HXB9 : Hid (XB w W9 g y l.length s5 (.slice ua ns.length uc) ns F b #[.string (mkB X), .int .i64 (m : Int), .int .u32 (c : Int), .int .i64 0, .int .i64 0, .int .i64 0]) := hXB9
                clear hR8 hg8 hXB8 hXB9 HXB7
                go_wp2_with fail
                rw [← hW9]
                clear hW9 d1 d2 fd1 fd2
                refine (xnumI_any HPP.out W9 HXB9.out.rx (by omega)).mono ?_
                rintro e w10 ⟨rfl, hR10, hg10⟩
                have HXB10 : Hid (XB w w10 g y l.length s6 (.slice ua ns.length uc) ns F b #[.string (mkB X), .int .i64 (m : Int), .int .u32 (c : Int), .int .i64 0, .int .i64 0, .int .i64 0]) := HXB9.out.num HPP.out hR10 hg10
                clear hR10 hg10 HXB9
                go_wp2_with fail
                refine (xnumI_any HZZ.out w10 HXB10.out.rx (by omega)).mono ?_
                rintro e w11 ⟨rfl, hR11, hg11⟩
                have HXB11 : Hid (XB w w11 g y l.length s7 (.slice ua ns.length uc) ns F b #[.string (mkB X), .int .i64 (m : Int), .int .u32 (c : Int), .int .i64 0, .int .i64 0, .int .i64 0]) := HXB10.out.num HZZ.out hR11 hg11
                clear hR11 hg11 HXB10
                go_wp2_with fail
                refine (xnumI_any HAA.out w11 HXB11.out.rx (by omega)).mono ?_
                rintro e w12 ⟨rfl, hR12, hg12⟩
                have hXB12 := HXB11.out.num HAA.out hR12 hg12
                have d3 : w12.cell? ⟨b, 3, none⟩ = some (.int .i64 0) := (hXB12.cell 3).trans rfl
                have d4 : w12.cell? ⟨b, 4, none⟩ = some (.int .i64 0) := (hXB12.cell 4).trans rfl
                have d5 : w12.cell? ⟨b, 5, none⟩ = some (.int .i64 0) := (hXB12.cell 5).trans rfl
                have fd3 := hXB12.fz 3
                have fd4 := hXB12.fz 4
                have fd5 := hXB12.fz 5
                have hXB13 := ((hXB12.set 3 (.int .i64 (p : Int))).set 4 (.int .i64 (z : Int))).set 5 (.int .i64 (a : Int))
                obtain ⟨W13, hW13⟩ : ∃ W13, W13 = ((w12.setCell ⟨b, 3, none⟩ (.int .i64 (p : Int))).setCell ⟨b, 4, none⟩ (.int .i64 (z : Int))).setCell ⟨b, 5, none⟩ (.int .i64 (a : Int)) := ⟨_, rfl⟩
                rw [← hW13] at hXB13
                have hXB14 : XB w W13 g y l.length s8 (.slice ua ns.length uc) ns F b #[.string (mkB X), .int .i64 (m : Int), .int .u32 (c : Int), .int .i64 (p : Int), .int .i64 (z : Int), .int .i64 (a : Int)] := hXB13
                have HXB14 : Hid (XB w W13 g y l.length s8 (.slice ua ns.length uc) ns F b #[.string (mkB X), .int .i64 (m : Int), .int .u32 (c : Int), .int .i64 (p : Int), .int .i64 (z : Int), .int .i64 (a : Int)]) := hXB14
                clear hR12 hg12 hXB12 hXB13 HXB11
                go_upto_region 17 with fail
                rw [← hW13]
                clear hW13 d3 d4 d5 fd3 fd4 fd5
                obtain ⟨ga, ca, ea, -, hga⟩ := hXB14.row.form (by omega)
                injection ea with ea1 ea2 ea3
                clear ea2
                subst ea1 ea3
                have hrow := hXB14.row.cell pk hpn2 rfl
                have hcap : ns.length ≤ uc := by
                  rcases hXB14.row.2 with ⟨h9, _⟩ | ⟨_, _, _, h9, _, _, h8, _⟩
                  · cases h9
                  · injection h9 with _ _ h9; omega
                have b0 : W13.cell? ⟨b, 0, none⟩ = some (.string (mkB X)) := (hXB14.cell 0).trans rfl
                have b1 : W13.cell? ⟨b, 1, none⟩ = some (.int .i64 (m : Int)) := (hXB14.cell 1).trans rfl
                have b2 : W13.cell? ⟨b, 2, none⟩ = some (.int .u32 (c : Int)) := (hXB14.cell 2).trans rfl
                have b3 : W13.cell? ⟨b, 3, none⟩ = some (.int .i64 (p : Int)) := (hXB14.cell 3).trans rfl
                have b4 : W13.cell? ⟨b, 4, none⟩ = some (.int .i64 (z : Int)) := (hXB14.cell 4).trans rfl
                have b5 : W13.cell? ⟨b, 5, none⟩ = some (.int .i64 (a : Int)) := (hXB14.cell 5).trans rfl
                have hpki : (pk : Int) < (ns.length : Int) := by omega
                obtain ⟨N, hN⟩ : ∃ N, N = ns.getD pk [] := ⟨_, rfl⟩
                rw [← hN] at hrow
                have hNm : N ∈ ns := by rw [hN, List.getD_eq_getElem?_getD, List.getElem?_eq_getElem hpn2]; exact List.getElem_mem hpn2
                clear hXB14
                obtain ⟨hd, hhd⟩ : ∃ hd, hd = hdX X (m, c, p, z, a) := ⟨_, rfl⟩
                have hhv : hdV hd = #[.string (mkB X), .int .i64 (m : Int), .int .u32 (c : Int), .int .i64 (p : Int), .int .i64 (z : Int), .int .i64 (a : Int)] := by rw [hhd]; rfl
                have hNl : N.length ≤ 9000 := HNX.out N hNm
                have hFl : F.length ≤ 9000 := by have := HFB.out; omega
                have HADD : Hid (∀ W' : World, Below W13.heap.size W13 W' → W'.heap.size = W13.heap.size + 1 → W'.heap[W13.heap.size]? = some (.cells (hdV hd) 38 (0, 0)) → Calls Try.prog 6 #[.pointer (some ⟨y, 0, none⟩), .string (mkB N), .slice (some ⟨W13.heap.size, 0, none⟩) 1 1] W' fun e w' => e = .returned (.tuple #[]) ∧ (∃ K, XS w w' g y l.length s8 (.slice (some ⟨ga, 0, none⟩) ns.length uc) ns (adA F X ⟨N, hd⟩) K) ∧ (w'.cell? ⟨ga, pk, none⟩ = some (.string (mkB N)) ∧ w'.cell? ⟨b, 0, none⟩ = some (.string (mkB X)) ∧ w'.cell? ⟨b, 1, none⟩ = some (.int .i64 (m : Int)) ∧ w'.cell? ⟨b, 2, none⟩ = some (.int .u32 (c : Int)) ∧ w'.cell? ⟨b, 3, none⟩ = some (.int .i64 (p : Int)) ∧ w'.cell? ⟨b, 4, none⟩ = some (.int .i64 (z : Int)) ∧ w'.cell? ⟨b, 5, none⟩ = some (.int .i64 (a : Int)))) := fun W' hb1 hs1 hn1 => by
                  obtain ⟨K9, k1, k2, k3, k4, k5, k6⟩ := HXB14.out
                  have hXW := k1.below hb1
                  have hVW : HV W' (fun k => K9 k ∨ (W13.heap.size ≤ k ∧ k < W'.heap.size)) (.slice (some ⟨W13.heap.size, 0, none⟩) 1 1) [hd] := hv_made [hd] hn1 rfl (.inr ⟨Nat.le_refl _, by omega⟩)
                  refine (add_any N _ [hd] W' hXW.ix hVW (by omega) (fun y hy => by rw [List.mem_singleton] at hy; rw [hy, hhd]; show X.length ≤ _; omega) (by have := adPs_len ns; have := HNS.out; omega) (by simp; omega)).mono ?_
                  rintro e w' ⟨rfl, q1, q2⟩
                  rw [adP_in (adPs_mem.2 hNm)] at q1
                  have q3 : adH N F [hd] = adA F X ⟨N, hd⟩ := by rw [hhd]; rfl
                  rw [q3] at q1
                  have kb : ∀ (r : Nat), K9 r → r < W13.heap.size → w'.heap[r]? = W13.heap[r]? := fun r hr hl => (q2.block r (.inl hr)).trans (hb1.block r hl)
                  have kga : K9 ga := (k1.kr ga rfl).1
                  have e1 : ∀ j, w'.cell? ⟨ga, j, none⟩ = W13.cell? ⟨ga, j, none⟩ := fun j => World.cell?_of_block (a := ⟨ga, j, none⟩) (kb ga kga hga)
                  have e2 : ∀ j, w'.cell? ⟨b, j, none⟩ = W13.cell? ⟨b, j, none⟩ := fun j => World.cell?_of_block (a := ⟨b, j, none⟩) (kb b k2 (Array.getElem?_eq_some_iff.1 k5).1)
                  exact ⟨rfl, ⟨_, hXW.add q1 q2 rfl⟩, (e1 pk).trans hrow, (e2 0).trans b0, (e2 1).trans b1, (e2 2).trans b2, (e2 3).trans b3, (e2 4).trans b4, (e2 5).trans b5⟩
                have HSA : Hid (∀ o : Obj, (W13.alloc o).cell? ⟨ga, pk, none⟩ = some (.string (mkB N)) ∧ (W13.alloc o).cell? ⟨b, 0, none⟩ = some (.string (mkB X)) ∧ (W13.alloc o).cell? ⟨b, 1, none⟩ = some (.int .i64 (m : Int)) ∧ (W13.alloc o).cell? ⟨b, 2, none⟩ = some (.int .u32 (c : Int)) ∧ (W13.alloc o).cell? ⟨b, 3, none⟩ = some (.int .i64 (p : Int)) ∧ (W13.alloc o).cell? ⟨b, 4, none⟩ = some (.int .i64 (z : Int)) ∧ (W13.alloc o).cell? ⟨b, 5, none⟩ = some (.int .i64 (a : Int))) := fun o => by
                  have hbl : b < W13.heap.size := World.block_lt_of_cell? _ _ b0
                  have e1 : ∀ j, (W13.alloc o).cell? ⟨ga, j, none⟩ = W13.cell? ⟨ga, j, none⟩ := fun j => World.cell?_of_block (a := ⟨ga, j, none⟩) (Below.heap_alloc _ _ _ hga)
                  have e2 : ∀ j, (W13.alloc o).cell? ⟨b, j, none⟩ = W13.cell? ⟨b, j, none⟩ := fun j => World.cell?_of_block (a := ⟨b, j, none⟩) (Below.heap_alloc _ _ _ hbl)
                  exact ⟨(e1 pk).trans hrow, (e2 0).trans b0, (e2 1).trans b1, (e2 2).trans b2, (e2 3).trans b3, (e2 4).trans b4, (e2 5).trans b5⟩
                have HXC3 : Hid (xCh cn s8 ns (adA F X ⟨N, hd⟩) = R2) := by unfold Hid; rw [HXC2.out, hhd, hN]
                have HFL3 : Hid ((adA F X ⟨N, hd⟩).length + s8.rest.length ≤ l.length + 1 ∧ (s8.bad = false → (adA F X ⟨N, hd⟩).length + s8.rest.length ≤ l.length)) := by
                  have a1 := adA_len F X ⟨N, hd⟩
                  have a2 := HL8.out
                  have a3 := HFB.out
                  exact ⟨by omega, fun h9 => by have := a2.2 h9; omega⟩
                have HHV : Hid (hdV hd = #[.string (mkB X), .int .i64 (m : Int), .int .u32 (c : Int), .int .i64 (p : Int), .int .i64 (z : Int), .int .i64 (a : Int)]) := hhv
                have HADD1 : Hid (Calls Try.prog 6 #[.pointer (some ⟨y, 0, none⟩), .string (mkB N), .slice (some ⟨W13.heap.size, 0, none⟩) 1 1] (W13.alloc (.cells #[.string (mkB X), .int .i64 (m : Int), .int .u32 (c : Int), .int .i64 (p : Int), .int .i64 (z : Int), .int .i64 (a : Int)] 38)).drew fun e w' => e = .returned (.tuple #[]) ∧ (∃ K, XS w w' g y l.length s8 (.slice (some ⟨ga, 0, none⟩) ns.length uc) ns (adA F X ⟨N, hd⟩) K) ∧ (w'.cell? ⟨ga, pk, none⟩ = some (.string (mkB N)) ∧ w'.cell? ⟨b, 0, none⟩ = some (.string (mkB X)) ∧ w'.cell? ⟨b, 1, none⟩ = some (.int .i64 (m : Int)) ∧ w'.cell? ⟨b, 2, none⟩ = some (.int .u32 (c : Int)) ∧ w'.cell? ⟨b, 3, none⟩ = some (.int .i64 (p : Int)) ∧ w'.cell? ⟨b, 4, none⟩ = some (.int .i64 (z : Int)) ∧ w'.cell? ⟨b, 5, none⟩ = some (.int .i64 (a : Int)))) :=
                  HADD.out _ (((Below.refl _ W13).alloc (Nat.le_refl _) _).drew) (by show (W13.heap.push _).size = _; simp) (by rw [hhv]; exact heap_alloc_new W13 _)
                have hbl : b < W13.heap.size := World.block_lt_of_cell? _ _ b0
                clear hhv HXC2 HL8 HL3 hhd hN hNm HXB14
                go_region_held3 (fun w' : World => w'.cell? ⟨ga, pk, none⟩ = some (.string (mkB N)) ∧ w'.cell? ⟨b, 0, none⟩ = some (.string (mkB X)) ∧ w'.cell? ⟨b, 1, none⟩ = some (.int .i64 (m : Int)) ∧ w'.cell? ⟨b, 2, none⟩ = some (.int .u32 (c : Int)) ∧ w'.cell? ⟨b, 3, none⟩ = some (.int .i64 (p : Int)) ∧ w'.cell? ⟨b, 4, none⟩ = some (.int .i64 (z : Int)) ∧ w'.cell? ⟨b, 5, none⟩ = some (.int .i64 (a : Int)))
                  (first | exact ⟨hrow, b0, b1, b2, b3, b4, b5⟩ | exact HSA.out _ | exact hS14)
                  ((first | (go_at_call 6; refine HADD1.out.mono ?_; rintro e w14 ⟨rfl, hX14, hS14⟩)))
                all_goals
                  obtain ⟨K14, hX14⟩ := hX14
                  have HX14 : Hid (XS w w14 g y l.length s8 (.slice (some ⟨ga, 0, none⟩) ns.length uc) ns (adA F X ⟨N, hd⟩) K14) := hX14
                  clear hX14 HADD HADD1 HSA hrow b0 b1 b2 b3 b4 b5
                  go_wp2
                  go_roundw
                  case rel => exact ⟨cn, s8, _, K14, by omega, by go_num, HXC3.out, HX14.out, HFL3.out.1, HFL3.out.2⟩
                  case measure => simp [intOf]
          · have hz9 : cn = 0 ∨ (0 < cn ∧ s.bad = true) := by
              by_cases h : s.bad = false
              · exact .inl (Nat.eq_zero_of_not_pos (fun h' => hgo ⟨h', h⟩))
              · have h3 : s.bad = true := by cases hb : s.bad with | true => rfl | false => exact absurd hb h
                rcases Nat.eq_zero_or_pos cn with h2 | h2
                · exact .inl h2
                · exact .inr ⟨h2, h3⟩
            have HST : Hid (R2 = (F, s)) := by unfold Hid; rw [← HXC.out]; exact xCh_stop cn s ns F (by rcases hz9 with h | h; exact .inl h; exact .inr h.2)
            clear hgo HXC
            rcases hz9 with rfl | ⟨h1, h2⟩
            · go_wp2
              go_ret
              rw [← HY.out, HXI3.out, HST.out]
              exact ⟨rfl, K, _, HX.out⟩
            · have h1i : (0 : Int) < (cn : Int) := by omega
              rw [h2] at c1
              go_wp2
              go_ret
              rw [← HY.out, HXI3.out, HST.out]
              exact ⟨rfl, K, _, HX.out⟩
      case inl =>
        go_wp2_with fail
        refine HNM.out.mono ?_
        rintro e w6 ⟨rfl, hR6, hg6⟩
        have HX6 : Hid (∃ K, XS w w6 g y l.length s9 (.slice ua ns.length uc) ns [] K) := HRD.out _ hR6 hg6
        clear hR6 hg6 HRD HNM c1
        go_wp2
        go_loopw [6] (fun c wq => ∃ (cn : Nat) (s : Sx) (F : As Pl) (K : Nat → Prop), cn < 4294967296 ∧ c = .int .i64 (cn : Int) ∧ xCh cn s ns F = R2 ∧ XS w wq g y l.length s (.slice ua ns.length uc) ns F K ∧ F.length + s.rest.length ≤ l.length + 1 ∧ (s.bad = false → F.length + s.rest.length ≤ l.length)) (fun c _ => (intOf c).toNat)
        case atStart =>
          obtain ⟨K, hK⟩ := HX6.out
          exact ⟨c9, s9, [], K, hc9b, rfl, HR2.out.symm, hK, by simpa using HX0.out.1, by simpa using HX0.out.2⟩
        case round =>
          obtain ⟨cn, s, F, K, hcn, rfl, hxc, hX, hfl, hfb⟩ := hrel
          have HX : Hid (XS w wr g y l.length s (.slice ua ns.length uc) ns F K) := hX
          have HXC : Hid (xCh cn s ns F = R2) := hxc
          have HFL : Hid (F.length + s.rest.length ≤ l.length + 1 ∧ (s.bad = false → F.length + s.rest.length ≤ l.length)) := ⟨hfl, hfb⟩
          have c1 := RX.c1 hX.rx
          clear hX hxc hfl hfb HX6 HX0 HR2
          by_cases hgo : 0 < cn ∧ s.bad = false
          · obtain ⟨h1, h2⟩ := hgo
            obtain ⟨cn, rfl⟩ : ∃ k, cn = k + 1 := ⟨cn - 1, by omega⟩
            have h1i : (0 : Int) < ((cn + 1 : Nat) : Int) := by omega
            rw [h2] at c1
            have HXC2 : Hid (R2 = if isNm (xHd s).1 = false ∨ ns.length ≤ (xHd s).2.1 then (F, ⟨(xHd s).2.2.rest, true⟩) else xCh cn (xRest (xHd s).2.2).2 ns (adA F (xHd s).1 ⟨ns.getD (xHd s).2.1 [], hdX (xHd s).1 (xRest (xHd s).2.2).1⟩)) := by
              unfold Hid; rw [← HXC.out, xCh, if_neg (by rw [h2]; simp)]
            have hnb := HX.out.nb h2
            have htl := xTxt_le s
            have hnn := xNum_le (xTxt s).2
            have HNM : Hid (Calls Try.prog _ _ _ _) := xtxt_any g s wr HX.out.rx (by omega)
            have hT : (xHd s).1 = (xTxt s).1 := rfl
            have hP : (xHd s).2.1 = (xNum (xTxt s).2).1 := rfl
            have hQ : (xHd s).2.2 = (xNum (xTxt s).2).2 := rfl
            rw [hT, hP, hQ] at HXC2
            have htb : ∀ h : (xTxt s).2.bad = false, s.bad = false := fun _ => h2
            obtain ⟨X, hXe⟩ : ∃ X, X = (xTxt s).1 := ⟨_, rfl⟩
            obtain ⟨s2, hs2⟩ : ∃ s2, s2 = (xTxt s).2 := ⟨_, rfl⟩
            rw [← hXe, ← hs2] at HXC2 htl
            rw [← hs2] at hnn
            have HFB : Hid (F.length + s.rest.length ≤ l.length) := HFL.out.2 h2
            go_wp2_with fail
            refine HNM.out.mono ?_
            rw [← hXe, ← hs2]
            rintro e w3 ⟨rfl, hR3, hg3⟩
            have hXB3 := XB.new (HX.out.read hR3 hg3 htl.1 (fun _ => h2)) #[.string (mkB X), .int .i64 0, .int .u32 0, .int .i64 0, .int .i64 0, .int .i64 0]
            obtain ⟨b, hb⟩ : ∃ b, b = w3.heap.size := ⟨_, rfl⟩
            rw [← hb] at hXB3
            obtain ⟨W4, hW4⟩ : ∃ W4, W4 = w3.alloc (.cells #[.string (mkB X), .int .i64 0, .int .u32 0, .int .i64 0, .int .i64 0, .int .i64 0] 38) := ⟨_, rfl⟩
            rw [← hW4] at hXB3
            have HXB4 : Hid (XB w W4 g y l.length s2 (.slice ua ns.length uc) ns F b #[.string (mkB X), .int .i64 0, .int .u32 0, .int .i64 0, .int .i64 0, .int .i64 0]) := hXB3
            have hXl : X.length ≤ 9000 := by omega
            have hs2l : s2.rest.length ≤ 9000 := by omega
            have HN4 : Hid (Calls Try.prog _ _ _ _) := xnum_any g s2 W4 hXB3.rx (by omega)
            obtain ⟨pk, hpk⟩ : ∃ pk, pk = (xNum s2).1 := ⟨_, rfl⟩
            obtain ⟨s3, hs3⟩ : ∃ s3, s3 = (xNum s2).2 := ⟨_, rfl⟩
            rw [← hpk, ← hs3] at HXC2
            rw [← hs3] at hnn
            unfold Hid at HN4
            rw [← hpk, ← hs3] at HN4
            have HN5 : Hid (Calls Try.prog _ _ _ _) := HN4
            have HL3 : Hid (s3.rest.length ≤ s.rest.length ∧ (s3.bad = false → s3.rest.length + 2 ≤ s.rest.length)) := ⟨by omega, fun h9 => by have q1 := hnn.2 h9; have q2 := htl.2.2 q1.1; omega⟩
            have HRD4 : Hid (∀ w', RX w' g s3 → W4.grownBy w' (some g) → XB w w' g y l.length s3 (.slice ua ns.length uc) ns F b #[.string (mkB X), .int .i64 0, .int .u32 0, .int .i64 0, .int .i64 0, .int .i64 0]) := fun w' q1 q2 => HXB4.out.read q1 q2 hnn.1 (fun h9 => (hnn.2 h9).1)
            have hpkb : pk < 4294967296 := by rw [hpk]; exact xNum_lt _
            clear hR3 hg3 hXB3 HN4 HNM HX HXC hnn htl hXe hs2 hT hP hQ htb hpk hs3 hnb
            go_wp2_with fail
            rw [← hW4, ← hb]
            clear hW4 hb
            refine HN5.out.mono ?_
            rintro e w5 ⟨rfl, hR5, hg5⟩
            have hXB5 := HRD4.out _ hR5 hg5
            have HXB5 : Hid (XB w w5 g y l.length s3 (.slice ua ns.length uc) ns F b #[.string (mkB X), .int .i64 0, .int .u32 0, .int .i64 0, .int .i64 0, .int .i64 0]) := hXB5
            have d50 : w5.cell? ⟨b, 0, none⟩ = some (.string (mkB X)) := (hXB5.cell 0).trans rfl
            clear hR5 hg5 hXB5 HRD4 HN5 HXB4
            go_wp2_with fail
            refine (isd_any X w5 (by omega)).mono ?_
            rintro e w6 ⟨rfl, hb6⟩
            have hXB6 := HXB5.out.below hb6
            have HXB6 : Hid (XB w w6 g y l.length s3 (.slice ua ns.length uc) ns F b #[.string (mkB X), .int .i64 0, .int .u32 0, .int .i64 0, .int .i64 0, .int .i64 0]) := hXB6
            have HR6 : Hid (RX w6 g s3) := hXB6.rx
            have f61 := RX.fz hXB6.rx 1
            have c61 := RX.c1 hXB6.rx
            clear hb6 HXB5 d50
            have HRET : Hid (∀ w', w' = w6.setCell ⟨g, 1, none⟩ (.bool true) → R2 = (F, ⟨s3.rest, true⟩) → ∃ K v, XS w w' g y l.length R2.2 v ns R2.1 K) := fun w' e1 e2 => by
              obtain ⟨K9, h91, _⟩ := hXB6
              rw [e1, e2]
              exact ⟨_, _, h91.read (s' := ⟨s3.rest, true⟩) (HR6.out.set1 true) (gset (grefl _ _) 1 _) (Nat.le_refl _) (fun h => by cases h)⟩
            clear hXB6
            cases hnm : isNm X
            · rw [hnm, if_pos (.inl rfl)] at HXC2
              go_wp2
              go_ret
              rw [← HY.out, HXI3.out]
              exact ⟨rfl, HRET.out _ rfl HXC2.out⟩
            · by_cases hpn : ns.length ≤ pk
              · rw [if_pos (.inr hpn)] at HXC2
                have hpni : (ns.length : Int) ≤ (pk : Int) := by omega
                go_wp2
                go_ret
                rw [← HY.out, HXI3.out]
                exact ⟨rfl, HRET.out _ rfl HXC2.out⟩
              · rw [if_neg (by rw [hnm]; simp; omega)] at HXC2
                have hpni : decide ((ns.length : Int) ≤ (pk : Int)) = false := decide_eq_false (by omega)
                have hpn2 : pk < ns.length := by omega
                clear hpn HRET
                obtain ⟨m, s4, hm⟩ : ∃ m s4, xNum s3 = (m, s4) := ⟨_, _, rfl⟩
                obtain ⟨c, s5, hc⟩ : ∃ c s5, xNum s4 = (c, s5) := ⟨_, _, rfl⟩
                obtain ⟨p, s6, hp⟩ : ∃ p s6, xNum s5 = (p, s6) := ⟨_, _, rfl⟩
                obtain ⟨z, s7, hz⟩ : ∃ z s7, xNum s6 = (z, s7) := ⟨_, _, rfl⟩
                obtain ⟨a, s8, ha⟩ : ∃ a s8, xNum s7 = (a, s8) := ⟨_, _, rfl⟩
                have hxr : xRest s3 = ((m, c, p, z, a), s8) := by unfold xRest; simp only [hm, hc, hp, hz, ha]
                rw [hxr] at HXC2
                have hxl := xRest_le s3
                rw [hxr] at hxl
                have HL8 : Hid (s8.rest.length ≤ s.rest.length ∧ (s8.bad = false → s8.rest.length + 1 ≤ s.rest.length)) := ⟨by have := HL3.out.1; have := hxl.1; simp only at this; omega, fun h9 => by have q1 := hxl.2 h9; have q2 := HL3.out.1; simp only at q1; omega⟩
                have l3 : s3.rest.length ≤ 9000 := by have := HL3.out.1; have := HFB.out; omega
                have l4 : s4.rest.length ≤ 9000 := by have := (xNum_le s3).1; rw [hm] at this; simp only at this; omega
                have l5 : s5.rest.length ≤ 9000 := by have := (xNum_le s4).1; rw [hc] at this; simp only at this; omega
                have l6 : s6.rest.length ≤ 9000 := by have := (xNum_le s5).1; rw [hp] at this; simp only at this; omega
                have l7 : s7.rest.length ≤ 9000 := by have := (xNum_le s6).1; rw [hz] at this; simp only at this; omega
                have mb : m < 4294967296 := by have := xNum_lt s3; rw [hm] at this; exact this
                have cb : c < 4294967296 := by have := xNum_lt s4; rw [hc] at this; exact this
                have HM : Hid (xNum s3 = (m, s4)) := hm
                have HCC : Hid (xNum s4 = (c, s5)) := hc
                have HPP : Hid (xNum s5 = (p, s6)) := hp
                have HZZ : Hid (xNum s6 = (z, s7)) := hz
                have HAA : Hid (xNum s7 = (a, s8)) := ha
                have hcw : IntKind.u32.wrap (c : Int) = (c : Int) := by simp [IntKind.wrap, IntKind.signed, IntKind.bits]; omega
                clear hm hc hp hz ha hxr hxl c61 f61
                go_wp2_with fail
                refine (xnumI_any HM.out w6 HR6.out (by omega)).mono ?_
                rintro e w7 ⟨rfl, hR7, hg7⟩
                have HXB7 : Hid (XB w w7 g y l.length s4 (.slice ua ns.length uc) ns F b #[.string (mkB X), .int .i64 0, .int .u32 0, .int .i64 0, .int .i64 0, .int .i64 0]) := HXB6.out.num HM.out hR7 hg7
                clear hR7 hg7 HXB6 HR6
                go_wp2_with fail
                refine (xnumI_any HCC.out w7 HXB7.out.rx (by omega)).mono ?_
                rintro e w8 ⟨rfl, hR8, hg8⟩
                have hXB8 := HXB7.out.num HCC.out hR8 hg8
                have d1 : w8.cell? ⟨b, 1, none⟩ = some (.int .i64 0) := (hXB8.cell 1).trans rfl
                have d2 : w8.cell? ⟨b, 2, none⟩ = some (.int .u32 0) := (hXB8.cell 2).trans rfl
                have fd1 := hXB8.fz 1
                have fd2 := hXB8.fz 2
                have hXB9 := (hXB8.set 1 (.int .i64 (m : Int))).set 2 (.int .u32 (c : Int))
                obtain ⟨W9, hW9⟩ : ∃ W9, W9 = (w8.setCell ⟨b, 1, none⟩ (.int .i64 (m : Int))).setCell ⟨b, 2, none⟩ (.int .u32 (c : Int)) := ⟨_, rfl⟩
                rw [← hW9] at hXB9
                have HXB9 : Hid (XB w W9 g y l.length s5 (.slice ua ns.length uc) ns F b #[.string (mkB X), .int .i64 (m : Int), .int .u32 (c : Int), .int .i64 0, .int .i64 0, .int .i64 0]) := hXB9
                clear hR8 hg8 hXB8 hXB9 HXB7
                go_wp2_with fail
                rw [← hW9]
                clear hW9 d1 d2 fd1 fd2
                refine (xnumI_any HPP.out W9 HXB9.out.rx (by omega)).mono ?_
                rintro e w10 ⟨rfl, hR10, hg10⟩
                have HXB10 : Hid (XB w w10 g y l.length s6 (.slice ua ns.length uc) ns F b #[.string (mkB X), .int .i64 (m : Int), .int .u32 (c : Int), .int .i64 0, .int .i64 0, .int .i64 0]) := HXB9.out.num HPP.out hR10 hg10
                clear hR10 hg10 HXB9
                go_wp2_with fail
                refine (xnumI_any HZZ.out w10 HXB10.out.rx (by omega)).mono ?_
                rintro e w11 ⟨rfl, hR11, hg11⟩
                have HXB11 : Hid (XB w w11 g y l.length s7 (.slice ua ns.length uc) ns F b #[.string (mkB X), .int .i64 (m : Int), .int .u32 (c : Int), .int .i64 0, .int .i64 0, .int .i64 0]) := HXB10.out.num HZZ.out hR11 hg11
                clear hR11 hg11 HXB10
                go_wp2_with fail
                refine (xnumI_any HAA.out w11 HXB11.out.rx (by omega)).mono ?_
                rintro e w12 ⟨rfl, hR12, hg12⟩
                have hXB12 := HXB11.out.num HAA.out hR12 hg12
                have d3 : w12.cell? ⟨b, 3, none⟩ = some (.int .i64 0) := (hXB12.cell 3).trans rfl
                have d4 : w12.cell? ⟨b, 4, none⟩ = some (.int .i64 0) := (hXB12.cell 4).trans rfl
                have d5 : w12.cell? ⟨b, 5, none⟩ = some (.int .i64 0) := (hXB12.cell 5).trans rfl
                have fd3 := hXB12.fz 3
                have fd4 := hXB12.fz 4
                have fd5 := hXB12.fz 5
                have hXB13 := ((hXB12.set 3 (.int .i64 (p : Int))).set 4 (.int .i64 (z : Int))).set 5 (.int .i64 (a : Int))
                obtain ⟨W13, hW13⟩ : ∃ W13, W13 = ((w12.setCell ⟨b, 3, none⟩ (.int .i64 (p : Int))).setCell ⟨b, 4, none⟩ (.int .i64 (z : Int))).setCell ⟨b, 5, none⟩ (.int .i64 (a : Int)) := ⟨_, rfl⟩
                rw [← hW13] at hXB13
                have hXB14 : XB w W13 g y l.length s8 (.slice ua ns.length uc) ns F b #[.string (mkB X), .int .i64 (m : Int), .int .u32 (c : Int), .int .i64 (p : Int), .int .i64 (z : Int), .int .i64 (a : Int)] := hXB13
                have HXB14 : Hid (XB w W13 g y l.length s8 (.slice ua ns.length uc) ns F b #[.string (mkB X), .int .i64 (m : Int), .int .u32 (c : Int), .int .i64 (p : Int), .int .i64 (z : Int), .int .i64 (a : Int)]) := hXB14
                clear hR12 hg12 hXB12 hXB13 HXB11
                go_upto_region 17 with fail
                rw [← hW13]
                clear hW13 d3 d4 d5 fd3 fd4 fd5
                obtain ⟨ga, ca, ea, -, hga⟩ := hXB14.row.form (by omega)
                injection ea with ea1 ea2 ea3
                clear ea2
                subst ea1 ea3
                have hrow := hXB14.row.cell pk hpn2 rfl
                have hcap : ns.length ≤ uc := by
                  rcases hXB14.row.2 with ⟨h9, _⟩ | ⟨_, _, _, h9, _, _, h8, _⟩
                  · cases h9
                  · injection h9 with _ _ h9; omega
                have b0 : W13.cell? ⟨b, 0, none⟩ = some (.string (mkB X)) := (hXB14.cell 0).trans rfl
                have b1 : W13.cell? ⟨b, 1, none⟩ = some (.int .i64 (m : Int)) := (hXB14.cell 1).trans rfl
                have b2 : W13.cell? ⟨b, 2, none⟩ = some (.int .u32 (c : Int)) := (hXB14.cell 2).trans rfl
                have b3 : W13.cell? ⟨b, 3, none⟩ = some (.int .i64 (p : Int)) := (hXB14.cell 3).trans rfl
                have b4 : W13.cell? ⟨b, 4, none⟩ = some (.int .i64 (z : Int)) := (hXB14.cell 4).trans rfl
                have b5 : W13.cell? ⟨b, 5, none⟩ = some (.int .i64 (a : Int)) := (hXB14.cell 5).trans rfl
                have hpki : (pk : Int) < (ns.length : Int) := by omega
                obtain ⟨N, hN⟩ : ∃ N, N = ns.getD pk [] := ⟨_, rfl⟩
                rw [← hN] at hrow
                have hNm : N ∈ ns := by rw [hN, List.getD_eq_getElem?_getD, List.getElem?_eq_getElem hpn2]; exact List.getElem_mem hpn2
                clear hXB14
                obtain ⟨hd, hhd⟩ : ∃ hd, hd = hdX X (m, c, p, z, a) := ⟨_, rfl⟩
                have hhv : hdV hd = #[.string (mkB X), .int .i64 (m : Int), .int .u32 (c : Int), .int .i64 (p : Int), .int .i64 (z : Int), .int .i64 (a : Int)] := by rw [hhd]; rfl
                have hNl : N.length ≤ 9000 := HNX.out N hNm
                have hFl : F.length ≤ 9000 := by have := HFB.out; omega
                have HADD : Hid (∀ W' : World, Below W13.heap.size W13 W' → W'.heap.size = W13.heap.size + 1 → W'.heap[W13.heap.size]? = some (.cells (hdV hd) 38 (0, 0)) → Calls Try.prog 6 #[.pointer (some ⟨y, 0, none⟩), .string (mkB N), .slice (some ⟨W13.heap.size, 0, none⟩) 1 1] W' fun e w' => e = .returned (.tuple #[]) ∧ (∃ K, XS w w' g y l.length s8 (.slice (some ⟨ga, 0, none⟩) ns.length uc) ns (adA F X ⟨N, hd⟩) K) ∧ (w'.cell? ⟨ga, pk, none⟩ = some (.string (mkB N)) ∧ w'.cell? ⟨b, 0, none⟩ = some (.string (mkB X)) ∧ w'.cell? ⟨b, 1, none⟩ = some (.int .i64 (m : Int)) ∧ w'.cell? ⟨b, 2, none⟩ = some (.int .u32 (c : Int)) ∧ w'.cell? ⟨b, 3, none⟩ = some (.int .i64 (p : Int)) ∧ w'.cell? ⟨b, 4, none⟩ = some (.int .i64 (z : Int)) ∧ w'.cell? ⟨b, 5, none⟩ = some (.int .i64 (a : Int)))) := fun W' hb1 hs1 hn1 => by
                  obtain ⟨K9, k1, k2, k3, k4, k5, k6⟩ := HXB14.out
                  have hXW := k1.below hb1
                  have hVW : HV W' (fun k => K9 k ∨ (W13.heap.size ≤ k ∧ k < W'.heap.size)) (.slice (some ⟨W13.heap.size, 0, none⟩) 1 1) [hd] := hv_made [hd] hn1 rfl (.inr ⟨Nat.le_refl _, by omega⟩)
                  refine (add_any N _ [hd] W' hXW.ix hVW (by omega) (fun y hy => by rw [List.mem_singleton] at hy; rw [hy, hhd]; show X.length ≤ _; omega) (by have := adPs_len ns; have := HNS.out; omega) (by simp; omega)).mono ?_
                  rintro e w' ⟨rfl, q1, q2⟩
                  rw [adP_in (adPs_mem.2 hNm)] at q1
                  have q3 : adH N F [hd] = adA F X ⟨N, hd⟩ := by rw [hhd]; rfl
                  rw [q3] at q1
                  have kb : ∀ (r : Nat), K9 r → r < W13.heap.size → w'.heap[r]? = W13.heap[r]? := fun r hr hl => (q2.block r (.inl hr)).trans (hb1.block r hl)
                  have kga : K9 ga := (k1.kr ga rfl).1
                  have e1 : ∀ j, w'.cell? ⟨ga, j, none⟩ = W13.cell? ⟨ga, j, none⟩ := fun j => World.cell?_of_block (a := ⟨ga, j, none⟩) (kb ga kga hga)
                  have e2 : ∀ j, w'.cell? ⟨b, j, none⟩ = W13.cell? ⟨b, j, none⟩ := fun j => World.cell?_of_block (a := ⟨b, j, none⟩) (kb b k2 (Array.getElem?_eq_some_iff.1 k5).1)
                  exact ⟨rfl, ⟨_, hXW.add q1 q2 rfl⟩, (e1 pk).trans hrow, (e2 0).trans b0, (e2 1).trans b1, (e2 2).trans b2, (e2 3).trans b3, (e2 4).trans b4, (e2 5).trans b5⟩
                have HSA : Hid (∀ o : Obj, (W13.alloc o).cell? ⟨ga, pk, none⟩ = some (.string (mkB N)) ∧ (W13.alloc o).cell? ⟨b, 0, none⟩ = some (.string (mkB X)) ∧ (W13.alloc o).cell? ⟨b, 1, none⟩ = some (.int .i64 (m : Int)) ∧ (W13.alloc o).cell? ⟨b, 2, none⟩ = some (.int .u32 (c : Int)) ∧ (W13.alloc o).cell? ⟨b, 3, none⟩ = some (.int .i64 (p : Int)) ∧ (W13.alloc o).cell? ⟨b, 4, none⟩ = some (.int .i64 (z : Int)) ∧ (W13.alloc o).cell? ⟨b, 5, none⟩ = some (.int .i64 (a : Int))) := fun o => by
                  have hbl : b < W13.heap.size := World.block_lt_of_cell? _ _ b0
                  have e1 : ∀ j, (W13.alloc o).cell? ⟨ga, j, none⟩ = W13.cell? ⟨ga, j, none⟩ := fun j => World.cell?_of_block (a := ⟨ga, j, none⟩) (Below.heap_alloc _ _ _ hga)
                  have e2 : ∀ j, (W13.alloc o).cell? ⟨b, j, none⟩ = W13.cell? ⟨b, j, none⟩ := fun j => World.cell?_of_block (a := ⟨b, j, none⟩) (Below.heap_alloc _ _ _ hbl)
                  exact ⟨(e1 pk).trans hrow, (e2 0).trans b0, (e2 1).trans b1, (e2 2).trans b2, (e2 3).trans b3, (e2 4).trans b4, (e2 5).trans b5⟩
                have HXC3 : Hid (xCh cn s8 ns (adA F X ⟨N, hd⟩) = R2) := by unfold Hid; rw [HXC2.out, hhd, hN]
                have HFL3 : Hid ((adA F X ⟨N, hd⟩).length + s8.rest.length ≤ l.length + 1 ∧ (s8.bad = false → (adA F X ⟨N, hd⟩).length + s8.rest.length ≤ l.length)) := by
                  have a1 := adA_len F X ⟨N, hd⟩
                  have a2 := HL8.out
                  have a3 := HFB.out
                  exact ⟨by omega, fun h9 => by have := a2.2 h9; omega⟩
                have HHV : Hid (hdV hd = #[.string (mkB X), .int .i64 (m : Int), .int .u32 (c : Int), .int .i64 (p : Int), .int .i64 (z : Int), .int .i64 (a : Int)]) := hhv
                have HADD1 : Hid (Calls Try.prog 6 #[.pointer (some ⟨y, 0, none⟩), .string (mkB N), .slice (some ⟨W13.heap.size, 0, none⟩) 1 1] (W13.alloc (.cells #[.string (mkB X), .int .i64 (m : Int), .int .u32 (c : Int), .int .i64 (p : Int), .int .i64 (z : Int), .int .i64 (a : Int)] 38)).drew fun e w' => e = .returned (.tuple #[]) ∧ (∃ K, XS w w' g y l.length s8 (.slice (some ⟨ga, 0, none⟩) ns.length uc) ns (adA F X ⟨N, hd⟩) K) ∧ (w'.cell? ⟨ga, pk, none⟩ = some (.string (mkB N)) ∧ w'.cell? ⟨b, 0, none⟩ = some (.string (mkB X)) ∧ w'.cell? ⟨b, 1, none⟩ = some (.int .i64 (m : Int)) ∧ w'.cell? ⟨b, 2, none⟩ = some (.int .u32 (c : Int)) ∧ w'.cell? ⟨b, 3, none⟩ = some (.int .i64 (p : Int)) ∧ w'.cell? ⟨b, 4, none⟩ = some (.int .i64 (z : Int)) ∧ w'.cell? ⟨b, 5, none⟩ = some (.int .i64 (a : Int)))) :=
                  HADD.out _ (((Below.refl _ W13).alloc (Nat.le_refl _) _).drew) (by show (W13.heap.push _).size = _; simp) (by rw [hhv]; exact heap_alloc_new W13 _)
                have hbl : b < W13.heap.size := World.block_lt_of_cell? _ _ b0
                clear hhv HXC2 HL8 HL3 hhd hN hNm HXB14
                go_region_held3 (fun w' : World => w'.cell? ⟨ga, pk, none⟩ = some (.string (mkB N)) ∧ w'.cell? ⟨b, 0, none⟩ = some (.string (mkB X)) ∧ w'.cell? ⟨b, 1, none⟩ = some (.int .i64 (m : Int)) ∧ w'.cell? ⟨b, 2, none⟩ = some (.int .u32 (c : Int)) ∧ w'.cell? ⟨b, 3, none⟩ = some (.int .i64 (p : Int)) ∧ w'.cell? ⟨b, 4, none⟩ = some (.int .i64 (z : Int)) ∧ w'.cell? ⟨b, 5, none⟩ = some (.int .i64 (a : Int)))
                  (first | exact ⟨hrow, b0, b1, b2, b3, b4, b5⟩ | exact HSA.out _ | exact hS14)
                  ((first | (go_at_call 6; refine HADD1.out.mono ?_; rintro e w14 ⟨rfl, hX14, hS14⟩)))
                all_goals
                  obtain ⟨K14, hX14⟩ := hX14
                  have HX14 : Hid (XS w w14 g y l.length s8 (.slice (some ⟨ga, 0, none⟩) ns.length uc) ns (adA F X ⟨N, hd⟩) K14) := hX14
                  clear hX14 HADD HADD1 HSA hrow b0 b1 b2 b3 b4 b5
                  go_wp2
                  go_roundw
                  case rel => exact ⟨cn, s8, _, K14, by omega, by go_num, HXC3.out, HX14.out, HFL3.out.1, HFL3.out.2⟩
                  case measure => simp [intOf]
          · have hz9 : cn = 0 ∨ (0 < cn ∧ s.bad = true) := by
              by_cases h : s.bad = false
              · exact .inl (Nat.eq_zero_of_not_pos (fun h' => hgo ⟨h', h⟩))
              · have h3 : s.bad = true := by cases hb : s.bad with | true => rfl | false => exact absurd hb h
                rcases Nat.eq_zero_or_pos cn with h2 | h2
                · exact .inl h2
                · exact .inr ⟨h2, h3⟩
            have HST : Hid (R2 = (F, s)) := by unfold Hid; rw [← HXC.out]; exact xCh_stop cn s ns F (by rcases hz9 with h | h; exact .inl h; exact .inr h.2)
            clear hgo HXC
            rcases hz9 with rfl | ⟨h1, h2⟩
            · go_wp2
              go_ret
              rw [← HY.out, HXI3.out, HST.out]
              exact ⟨rfl, K, _, HX.out⟩
            · have h1i : (0 : Int) < (cn : Int) := by omega
              rw [h2] at c1
              go_wp2
              go_ret
              rw [← HY.out, HXI3.out, HST.out]
              exact ⟨rfl, K, _, HX.out⟩
end Go.Proofs.Ytpfjcdfhlcnlcaa
