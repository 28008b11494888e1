/- Contract: walk.changes. -/
import Derived.Test.YtmjfcneofpddiaaDoorQWtB
import Derived.Test.YtmjfcneofpddiaaDoorQArmW
import Derived.Test.YtmjfcneofpddiaaDoorQGrow
import Derived.Deep.RegionHeld3
namespace Go.Proofs.YtmjfcneofpddiaaDoor
open Go.RowKit Go.Maps
set_option linter.unusedVariables false
set_option linter.unusedSimpArgs false

theorem neq_itg (x y : It) (w : World) : (binOp .neq 25 (.agg #[.string (mkB x.p), .int .i64 x.k, .int .i64 x.m, .int .i64 x.t, .string (mkB x.d)]) (.agg #[.string (mkB y.p), .int .i64 y.k, .int .i64 y.m, .int .i64 y.t, .string (mkB y.d)])).run Tryd.prog w = .ok (.bool (!decide (x = y))) w := by
  have h := eql_it x y w
  rw [run_eql_struct] at h
  rw [run_neq_struct]
  generalize (Op.equalIn _ _ _ _).run Tryd.prog w = r at h ⊢
  cases r with
  | ok b w' => simp only [Result.andThen_ok, Result.ok.injEq, Value.bool.injEq] at h ⊢; rw [h.1, h.2]; exact ⟨rfl, rfl⟩
  | _ => cases h
theorem take_opC {ops : Array Oper} {Q : Exit → Act → World → Prop} {md : Region.Mode} {S : World → Prop} {l : Array Bool} {i : Nat} {oi : Oper} {fuel : Nat} {a : Act} {w : World} (hi : ops[i]? = some oi) (hs : Region.noSelect ops = true) (hf : Region.free md ops l i = true) (hr : (Region.ready md ops l).contains i = true)
    (hQ : ∀ c v a w, Q (.panic c) (a.put oi.dst v) w → Q (.panic c) a w) (d : Tmp) (hd : oi.dst = some d) (v : Value) (hy : YieldsIf Tryd.prog ops S oi v a) (hw : S w) (h : wpAnyH Tryd.prog md ops Q S fuel (l.setIfInBounds i true) (a.put (some d) v) w) : wpAnyH Tryd.prog md ops Q S (fuel + 1) l a w :=
  wpAnyH_take (v := v) hi hs hf hr (fun c a w h => hQ c _ a w h) hy hw (by rw [hd]; exact h)
theorem IV.tail {w : World} {g o n cap : Nat} {x : It} {r : List It} (h : IV w (.slice (some ⟨g, o, none⟩) n cap) (x :: r)) : IV w (.slice (if cap = 1 then some ⟨g, o, none⟩ else some ⟨g, o + 5, none⟩) r.length (cap - 1)) r := by
  obtain ⟨a', cap', e, hc, hz, hf⟩ := h
  injection e with e1 e2 e3
  subst e1 e3
  obtain ⟨g', o', e4, hg, hcl⟩ := hf (by simp)
  injection e4 with e4; injection e4 with e5 e6
  subst e5 e6
  simp only [List.length_cons] at hc
  refine ⟨_, _, rfl, by omega, (fun e => by split at e <;> cases e), fun hne => ?_⟩
  have hl : 0 < r.length := List.length_pos_iff.2 hne
  rw [if_neg (by omega)]
  refine ⟨g, o + 5, rfl, hg, fun j u hu => ?_⟩
  have := hcl (5 + j) u (by
    unfold itsC at hu ⊢
    rw [List.flatMap_cons, List.getElem?_append_right (by rw [itC_len]; omega), itC_len, Nat.add_sub_cancel_left]; exact hu)
  rw [Nat.add_assoc]; exact this
theorem fiveI {w : World} {b : Nat} {v0 v1 v2 v3 v4 : Value} {ty : TypeId} (h : w.heap[b]? = some (.cells #[v0, v1, v2, v3, v4] ty (0, 0))) : (w.frozen? ⟨b, 0, none⟩ = false ∧ w.frozen? ⟨b, 1, none⟩ = false ∧ w.frozen? ⟨b, 2, none⟩ = false ∧ w.frozen? ⟨b, 3, none⟩ = false ∧ w.frozen? ⟨b, 4, none⟩ = false) :=
  ⟨frozen_of_row _ _ _ _ _ h, frozen_of_row _ _ _ _ _ h, frozen_of_row _ _ _ _ _ h, frozen_of_row _ _ _ _ _ h, frozen_of_row _ _ _ _ _ h⟩
def itW (x : It) : Array Value := #[.string (mkB x.p), .int .i64 x.k, .int .i64 x.m, .int .i64 x.t, .string (mkB x.d)]
def zrW : Array Value := #[.string ⟨#[]⟩, .int .i64 0, .int .i64 0, .int .i64 0, .string ⟨#[]⟩]
/-- Two items' blocks. -/
structure TI (w W : World) (b1 b2 : Nat) (c1 c2 : Array Value) : Prop where
  h1 : W.heap[b1]? = some (.cells c1 25 (0, 0))
  h2 : W.heap[b2]? = some (.cells c2 25 (0, 0))
  bel : Below w.heap.size w W
  lo : w.heap.size ≤ b1 ∧ w.heap.size ≤ b2 ∧ b1 ≠ b2
theorem TI.below {w W W' : World} {b1 b2 : Nat} {c1 c2 : Array Value} (h : TI w W b1 b2 c1 c2) (hb : Below W.heap.size W W') : TI w W' b1 b2 c1 c2 :=
  ⟨(hb.block _ (Array.getElem?_eq_some_iff.1 h.h1).1).trans h.h1, (hb.block _ (Array.getElem?_eq_some_iff.1 h.h2).1).trans h.h2, h.bel.trans (hb.mono h.bel.size), h.lo⟩
theorem TI.start {w wr : World} (hb : Below w.heap.size w wr) : TI w ((wr.alloc (.cells zrW 25)).alloc (.cells zrW 25)).drew wr.heap.size (wr.heap.size + 1) zrW zrW := by
  refine ⟨?_, ?_, ((hb.alloc hb.size _).alloc (by rw [World.size_alloc]; have := hb.size; omega) _).drew, ⟨hb.size, by have := hb.size; omega, by omega⟩⟩
  · show ((wr.alloc (.cells zrW 25)).alloc (.cells zrW 25)).heap[wr.heap.size]? = _
    rw [heap_alloc_old _ _ (by rw [World.size_alloc]; omega)]; exact heap_alloc_new wr _
  · have := heap_alloc_new (wr.alloc (.cells zrW 25)) (.cells zrW 25)
    rw [World.size_alloc] at this; exact this
theorem TI.swap {w W : World} {b1 b2 : Nat} {c1 c2 : Array Value} (h : TI w W b1 b2 c1 c2) : TI w W b2 b1 c2 c1 := ⟨h.h2, h.h1, h.bel, h.lo.2.1, h.lo.1, fun e => h.lo.2.2 e.symm⟩
/-- An item is written. -/
def ptI (w : World) (b : Nat) (x : It) : World := ((((w.setCell ⟨b, 0, none⟩ (.string (mkB x.p))).setCell ⟨b, 1, none⟩ (.int .i64 x.k)).setCell ⟨b, 2, none⟩ (.int .i64 x.m)).setCell ⟨b, 3, none⟩ (.int .i64 x.t)).setCell ⟨b, 4, none⟩ (.string (mkB x.d))
theorem TI.pt {w W : World} {b1 b2 : Nat} {c2 : Array Value} (h : TI w W b1 b2 zrW c2) (x : It) : TI w (ptI W b1 x) b1 b2 (itW x) c2 := by
  have hg : W.grownBy (ptI W b1 x) (some b1) := gset (gset (gset (gset (gset (grefl W _) 0 _) 1 _) 2 _) 3 _) 4 _
  refine ⟨?_, (hg.block _ (Array.getElem?_eq_some_iff.1 h.h2).1 (fun e => h.lo.2.2 (Option.some.inj e).symm)).trans h.h2, h.bel.grown hg h.bel.size (fun q hq => by have e2 : b1 = q := Option.some.inj hq; have := h.lo.1; omega), h.lo⟩
  have hz := h.h1
  unfold zrW at hz
  unfold ptI itW
  rw [heap_setCell_same _ _ _ _ _ _ (heap_setCell_same _ _ _ _ _ _ (heap_setCell_same _ _ _ _ _ _ (heap_setCell_same _ _ _ _ _ _ (heap_setCell_same _ _ _ _ _ _ hz))))]; rfl
theorem chg_end {a b : List It} (h : a = [] ∨ b = []) : chgN a b = allC a 2 ++ allC b 1 := by
  rcases h with rfl | rfl
  · rw [chg_nil]; rfl
  · rw [chg_nilr]; simp [allC]
theorem below_grow (w : World) (q : Nat) (os : Array Obj) : Below w.heap.size w (Go.Sort.grow (w.drewN q) os) :=
  ⟨rfl, rfl, rfl, by show w.heap.size ≤ (w.heap ++ os).size; rw [Array.size_append]; omega, fun k hk => by show (w.heap ++ os)[k]? = _; rw [Array.getElem?_append_left hk]⟩
def slN : Value → Nat
  | .slice _ n _ => n
  | _ => 0
/-- What is left of two lists. -/
structure CS (w wr : World) (C : List Chg) (s u o : Value) (a b : List It) (out : List Chg) : Prop where
  hs : IV w s a
  hu : IV w u b
  ho : CO wr w.heap.size o out
  eq : out ++ chgN a b = C
  la : a.length ≤ 200
  lb : b.length ≤ 200
  lo : out.length ≤ 400
  pa : ∀ x ∈ a, x.p.length ≤ 1000000
  pb : ∀ x ∈ b, x.p.length ≤ 1000000
  bl : Below w.heap.size w wr
set_option maxRecDepth 100000 in
set_option maxHeartbeats 4000000 in
theorem changes_any (v1 v2 : Value) (a0 b0 : List It) (w : World) (h1 : IV w v1 a0) (h2 : IV w v2 b0) (l1 : a0.length ≤ 200) (l2 : b0.length ≤ 200) (p1 : ∀ x ∈ a0, x.p.length ≤ 1000000) (p2 : ∀ x ∈ b0, x.p.length ≤ 1000000) (hL : Lay11 w) :
    Calls Tryd.prog 28 #[v1, v2] w fun e w' => ∃ a' c', e = .returned (.slice a' (chgN a0 b0).length c') ∧ CO w' w.heap.size (.slice a' (chgN a0 b0).length c') (chgN a0 b0) ∧ Below w.heap.size w w' := by
  have HC0 : Hid (CS w w (chgN a0 b0) v1 v2 (.slice none 0 0) a0 b0 []) := ⟨h1, h2, CO.none _ _, rfl, l1, l2, by simp, p1, p2, Below.refl _ _⟩
  have HCL : Hid ((chgN a0 b0).length ≤ 400) := Nat.le_trans (chg_len _ a0 b0 rfl) (by omega)
  have HL : Hid (Lay11 w) := hL
  obtain ⟨x1, y1, rfl, -, -, -⟩ := h1
  obtain ⟨x2, y2, rfl, -, -, -⟩ := h2
  generalize chgN a0 b0 = C at *
  clear p1 p2 hL
  go_enter Tryd.func28, Tryd.ntmps28
  go_wp2
  go_loopw [0, 1, 5] (fun s u o wr => ∃ (a b : List It) (out : List Chg) (sa ua oa : Option Addr) (sc uc oc : Nat), s = .slice sa a.length sc ∧ u = .slice ua b.length uc ∧ o = .slice oa out.length oc ∧ CS w wr C s u o a b out) (fun s u _ _ => slN s + slN u)
  case atStart => exact ⟨a0, b0, [], x1, x2, none, y1, y2, 0, rfl, rfl, rfl, HC0.out⟩
  case round =>
    obtain ⟨a, b, out, sa, ua, oa, sc, uc, oc, rfl, rfl, rfl, hcs⟩ := hrel
    have HC : Hid (CS w wr C (.slice sa a.length sc) (.slice ua b.length uc) (.slice oa out.length oc) a b out) := hcs
    clear hcs HC0
    cases a with
    | nil =>
      have HE0 : Hid (out ++ (allC ([] : List It) 2 ++ allC b 1) = C) := by have := HC.out.eq; rw [chg_end (by simp)] at this; exact this
      have hl4 : out.length ≤ 400 := HC.out.lo
      have hla : ([] : List It).length ≤ 200 := HC.out.la
      have hlb : b.length ≤ 200 := HC.out.lb
      have hz0 : w.heap.size ≤ wr.heap.size := HC.out.bl.size
      have hA2 : (allC ([] : List It) 2).length ≤ 200 := by unfold allC; rw [List.length_map]; exact hla
      have hB1 : (allC b 1).length ≤ 200 := by unfold allC; rw [List.length_map]; exact hlb
      have HA1 : Hid (Calls Tryd.prog 43 #[.slice sa ([] : List It).length sc, .int .i64 2] wr fun e w' => ∃ a' c', e = .returned (.slice a' (allC ([] : List It) 2).length c') ∧ CO w' wr.heap.size (.slice a' (allC ([] : List It) 2).length c') (allC ([] : List It) 2) ∧ Below wr.heap.size wr w') := all_any (.slice sa ([] : List It).length sc) ([] : List It) 2 wr (HC.out.hs.below HC.out.bl) (by omega)
      have HA5 : Hid (∀ W, Below w.heap.size w W → Calls Tryd.prog 43 #[.slice ua b.length uc, .int .i64 1] W fun e w' => ∃ a' c', e = .returned (.slice a' (allC b 1).length c') ∧ CO w' W.heap.size (.slice a' (allC b 1).length c') (allC b 1) ∧ Below W.heap.size W w') := fun W hW => all_any (.slice ua b.length uc) b 1 W (HC.out.hu.below hW) (by omega)
      generalize allC ([] : List It) 2 = M1 at *
      generalize allC b 1 = M2 at *
      go_wp2_with fail
      refine HA1.out.mono ?_
      rintro e wA ⟨ra, rc, rfl, hOA, hbA⟩
      have HOA : Hid (CO wA wr.heap.size (.slice ra M1.length rc) M1) := hOA
      have HBA : Hid (Below w.heap.size w wA) := HC.out.bl.trans (hbA.mono hz0)
      have HOO : Hid (CO wA w.heap.size (.slice oa out.length oc) out) := HC.out.ho.below hbA
      have hzA : w.heap.size ≤ wA.heap.size := HBA.out.size
      have hP1 : (out ++ M1).length ≤ 600 := by rw [List.length_append]; omega
      have HE1 : Hid ((out ++ M1) ++ M2 = C) := by unfold Hid; rw [List.append_assoc]; exact HE0.out
      clear hOA hbA HA1 HE0
      go_wp2_with (at_builtin; refine append_chs rfl _ _ rfl w.heap.size wr.heap.size (.slice oa out.length oc) (.slice ra M1.length rc) out M1 rfl rfl HOO.out HOA.out (by omega) hzA ?_; generalize out ++ M1 = P1 at *; intro a' c' w5 hO5 hg5; have HO5 : Hid (CO w5 w.heap.size (.slice a' P1.length c') P1) := hO5; have HB5 : Hid (Below w.heap.size w w5) := HBA.out.grown hg5 hzA (fun k hk => (HOO.out.lt k hk).1); have HA6 : Hid (Calls Tryd.prog _ _ _ _) := HA5.out w5 HB5.out; clear hO5 hg5 HA5; go_wp2_with fail)
      refine HA6.out.mono ?_
      rintro e w6 ⟨rb, rd, rfl, hOB, hbB⟩
      have HOB : Hid (CO w6 w5.heap.size (.slice rb M2.length rd) M2) := hOB
      have HB6 : Hid (Below w.heap.size w w6) := HB5.out.trans (hbB.mono HB5.out.size)
      have HO6 : Hid (CO w6 w.heap.size (.slice a' P1.length c') P1) := HO5.out.below hbB
      have hz6 : w.heap.size ≤ w6.heap.size := HB6.out.size
      have hl6 : P1.length + M2.length ≤ 1000000 := by omega
      clear hOB hbB HA6
      go_wp2_with (at_builtin; refine append_chs rfl _ _ rfl w.heap.size w5.heap.size (.slice a' P1.length c') (.slice rb M2.length rd) P1 M2 rfl rfl HO6.out HOB.out hl6 hz6 ?_; rw [HE1.out]; intro a7 c7 w7 hO7 hg7; have HO7 : Hid (CO w7 w.heap.size (.slice a7 C.length c7) C) := hO7; have HB7 : Hid (Below w.heap.size w w7) := HB6.out.grown hg7 hz6 (fun k hk => (HO6.out.lt k hk).1); clear hO7 hg7)
      go_ret
      exact ⟨a7, c7, rfl, HO7.out, HB7.out⟩
    | cons x a =>
      cases b with
      | nil =>
        have HE0 : Hid (out ++ (allC (x :: a) 2 ++ allC ([] : List It) 1) = C) := by have := HC.out.eq; rw [chg_end (by simp)] at this; exact this
        have hl4 : out.length ≤ 400 := HC.out.lo
        have hla : (x :: a).length ≤ 200 := HC.out.la
        have hlb : ([] : List It).length ≤ 200 := HC.out.lb
        have hz0 : w.heap.size ≤ wr.heap.size := HC.out.bl.size
        have hA2 : (allC (x :: a) 2).length ≤ 200 := by unfold allC; rw [List.length_map]; exact hla
        have hB1 : (allC ([] : List It) 1).length ≤ 200 := by unfold allC; rw [List.length_map]; exact hlb
        have HA1 : Hid (Calls Tryd.prog 43 #[.slice sa (x :: a).length sc, .int .i64 2] wr fun e w' => ∃ a' c', e = .returned (.slice a' (allC (x :: a) 2).length c') ∧ CO w' wr.heap.size (.slice a' (allC (x :: a) 2).length c') (allC (x :: a) 2) ∧ Below wr.heap.size wr w') := all_any (.slice sa (x :: a).length sc) (x :: a) 2 wr (HC.out.hs.below HC.out.bl) (by omega)
        have HA5 : Hid (∀ W, Below w.heap.size w W → Calls Tryd.prog 43 #[.slice ua ([] : List It).length uc, .int .i64 1] W fun e w' => ∃ a' c', e = .returned (.slice a' (allC ([] : List It) 1).length c') ∧ CO w' W.heap.size (.slice a' (allC ([] : List It) 1).length c') (allC ([] : List It) 1) ∧ Below W.heap.size W w') := fun W hW => all_any (.slice ua ([] : List It).length uc) ([] : List It) 1 W (HC.out.hu.below hW) (by omega)
        generalize allC (x :: a) 2 = M1 at *
        generalize allC ([] : List It) 1 = M2 at *
        go_wp2_with fail
        refine HA1.out.mono ?_
        rintro e wA ⟨ra, rc, rfl, hOA, hbA⟩
        have HOA : Hid (CO wA wr.heap.size (.slice ra M1.length rc) M1) := hOA
        have HBA : Hid (Below w.heap.size w wA) := HC.out.bl.trans (hbA.mono hz0)
        have HOO : Hid (CO wA w.heap.size (.slice oa out.length oc) out) := HC.out.ho.below hbA
        have hzA : w.heap.size ≤ wA.heap.size := HBA.out.size
        have hP1 : (out ++ M1).length ≤ 600 := by rw [List.length_append]; omega
        have HE1 : Hid ((out ++ M1) ++ M2 = C) := by unfold Hid; rw [List.append_assoc]; exact HE0.out
        clear hOA hbA HA1 HE0
        go_wp2_with (at_builtin; refine append_chs rfl _ _ rfl w.heap.size wr.heap.size (.slice oa out.length oc) (.slice ra M1.length rc) out M1 rfl rfl HOO.out HOA.out (by omega) hzA ?_; generalize out ++ M1 = P1 at *; intro a' c' w5 hO5 hg5; have HO5 : Hid (CO w5 w.heap.size (.slice a' P1.length c') P1) := hO5; have HB5 : Hid (Below w.heap.size w w5) := HBA.out.grown hg5 hzA (fun k hk => (HOO.out.lt k hk).1); have HA6 : Hid (Calls Tryd.prog _ _ _ _) := HA5.out w5 HB5.out; clear hO5 hg5 HA5; go_wp2_with fail)
        refine HA6.out.mono ?_
        rintro e w6 ⟨rb, rd, rfl, hOB, hbB⟩
        have HOB : Hid (CO w6 w5.heap.size (.slice rb M2.length rd) M2) := hOB
        have HB6 : Hid (Below w.heap.size w w6) := HB5.out.trans (hbB.mono HB5.out.size)
        have HO6 : Hid (CO w6 w.heap.size (.slice a' P1.length c') P1) := HO5.out.below hbB
        have hz6 : w.heap.size ≤ w6.heap.size := HB6.out.size
        have hl6 : P1.length + M2.length ≤ 1000000 := by omega
        clear hOB hbB HA6
        go_wp2_with (at_builtin; refine append_chs rfl _ _ rfl w.heap.size w5.heap.size (.slice a' P1.length c') (.slice rb M2.length rd) P1 M2 rfl rfl HO6.out HOB.out hl6 hz6 ?_; rw [HE1.out]; intro a7 c7 w7 hO7 hg7; have HO7 : Hid (CO w7 w.heap.size (.slice a7 C.length c7) C) := hO7; have HB7 : Hid (Below w.heap.size w w7) := HB6.out.grown hg7 hz6 (fun k hk => (HO6.out.lt k hk).1); clear hO7 hg7)
        go_ret
        exact ⟨a7, c7, rfl, HO7.out, HB7.out⟩
      | cons y b =>
        have hi1 : (0 : Int) < ((x :: a).length : Int) := by simp
        have hi2 : (0 : Int) < ((y :: b).length : Int) := by simp
        obtain ⟨g1, o1, rfl, hg1, -, hcap1, c0, c1, c2, c3, c4⟩ := (HC.out.hs.below HC.out.bl).at (i := 0) (x := x) rfl
        obtain ⟨g2, o2, rfl, hg2, -, hcap2, d0, d1, d2, d3, d4⟩ := (HC.out.hu.below HC.out.bl).at (i := 0) (x := y) rfl
        have hzo := zeroIt
        simp only [Nat.zero_mul, Nat.add_zero] at c0 c1 c2 c3 c4 d0 d1 d2 d3 d4
        go_upto_region 3 with fail
        have HCE : Hid (∀ W, Below wr.heap.size wr W → (W.cell? ⟨g1, o1, none⟩ = some (.string (mkB x.p)) ∧ W.cell? ⟨g1, o1 + 1, none⟩ = some (.int .i64 x.k) ∧ W.cell? ⟨g1, o1 + 2, none⟩ = some (.int .i64 x.m) ∧ W.cell? ⟨g1, o1 + 3, none⟩ = some (.int .i64 x.t) ∧ W.cell? ⟨g1, o1 + 4, none⟩ = some (.string (mkB x.d))) ∧ (W.cell? ⟨g2, o2, none⟩ = some (.string (mkB y.p)) ∧ W.cell? ⟨g2, o2 + 1, none⟩ = some (.int .i64 y.k) ∧ W.cell? ⟨g2, o2 + 2, none⟩ = some (.int .i64 y.m) ∧ W.cell? ⟨g2, o2 + 3, none⟩ = some (.int .i64 y.t) ∧ W.cell? ⟨g2, o2 + 4, none⟩ = some (.string (mkB y.d)))) := fun W hW => by
          obtain ⟨g1', o1', e1, -, -, -, e2⟩ := (HC.out.hs.below (HC.out.bl.trans (hW.mono HC.out.bl.size))).at (i := 0) (x := x) rfl
          obtain ⟨g2', o2', f1, -, -, -, f2⟩ := (HC.out.hu.below (HC.out.bl.trans (hW.mono HC.out.bl.size))).at (i := 0) (x := y) rfl
          injection e1 with e1; injection e1 with e3 e4; subst e3 e4
          injection f1 with f1; injection f1 with f3 f4; subst f3 f4
          simp only [Nat.zero_mul, Nat.add_zero] at e2 f2
          exact ⟨e2, f2⟩
        clear c0 c1 c2 c3 c4 d0 d1 d2 d3 d4
        have hbl : Below wr.heap.size wr wr := Below.refl _ _
        refine wp_region_held_drew (S := fun W => Below wr.heap.size wr W) (by kernel_rfl) hbl.drew (fun hHeld => ?_)
        change wpAnyH _ _ _ _ _ 10 (Array.replicate 10 false) _ _
        refine take_opC (i := 0) rfl (by kernel_rfl) (by kernel_rfl) (by kernel_rfl) (fun _ _ _ _ h => h) 17 rfl (.slice (some ⟨g1, o1, none⟩) (x :: a).length sc) (Or.inl ⟨by rfl, by intro w hSw; go_simp⟩) hHeld ?_
        simp only [Act.put, List.setIfInBounds_toArray, List.set_cons_zero, List.set_cons_succ]
        refine take_opC (i := 1) rfl (by kernel_rfl) (by kernel_rfl) (by kernel_rfl) (fun _ _ _ _ h => h) 18 rfl (.pointer (some ⟨g1, o1, none⟩)) (Or.inl ⟨by rfl, by intro w hSw; go_simp⟩) hHeld ?_
        simp only [Act.put, List.setIfInBounds_toArray, List.set_cons_zero, List.set_cons_succ]
        refine take_opC (i := 2) rfl (by kernel_rfl) (by kernel_rfl) (by kernel_rfl) (fun _ _ _ _ h => h) 19 rfl (.agg #[.string (mkB x.p), .int .i64 x.k, .int .i64 x.m, .int .i64 x.t, .string (mkB x.d)]) (Or.inl ⟨by rfl, by intro w hSw; have hc9 := HCE.out _ hSw; go_split_ands; go_simp⟩) hHeld ?_
        simp only [Act.put, List.setIfInBounds_toArray, List.set_cons_zero, List.set_cons_succ]
        refine take_opC (i := 3) rfl (by kernel_rfl) (by kernel_rfl) (by kernel_rfl) (fun _ _ _ _ h => h) 20 rfl (.slice (some ⟨g2, o2, none⟩) (y :: b).length uc) (Or.inl ⟨by rfl, by intro w hSw; go_simp⟩) hHeld ?_
        simp only [Act.put, List.setIfInBounds_toArray, List.set_cons_zero, List.set_cons_succ]
        refine take_opC (i := 4) rfl (by kernel_rfl) (by kernel_rfl) (by kernel_rfl) (fun _ _ _ _ h => h) 21 rfl (.pointer (some ⟨g2, o2, none⟩)) (Or.inl ⟨by rfl, by intro w hSw; go_simp⟩) hHeld ?_
        simp only [Act.put, List.setIfInBounds_toArray, List.set_cons_zero, List.set_cons_succ]
        refine take_opC (i := 5) rfl (by kernel_rfl) (by kernel_rfl) (by kernel_rfl) (fun _ _ _ _ h => h) 22 rfl (.agg #[.string (mkB y.p), .int .i64 y.k, .int .i64 y.m, .int .i64 y.t, .string (mkB y.d)]) (Or.inl ⟨by rfl, by intro w hSw; have hc9 := HCE.out _ hSw; go_split_ands; go_simp⟩) hHeld ?_
        simp only [Act.put, List.setIfInBounds_toArray, List.set_cons_zero, List.set_cons_succ]
        refine wpAnyH_ready (rs := [6, 7]) (by kernel_rfl) (by simp) ?_
        refine AllReadyH.cons rfl (fun K hK => ?oa) (AllReadyH.cons rfl (fun K hK => ?ob) AllReadyH.nil)
        case' oa =>
          refine armW rfl ?_
          go_simp
          refine hK.out _ _ ((hbl.alloc hbl.size _).drew) (fun hHeld2 => ?_)
          clear hK hHeld2
          refine wpAnyH_ready (rs := [7]) (by kernel_rfl) (by simp) ?_
          refine AllReadyH.cons rfl (fun K hK => ?_) AllReadyH.nil
          refine armW rfl ?_
          go_simp
          refine hK.out _ _ ((TI.start hbl).bel) (fun hHeld2 => ?_)
          clear hK hHeld2
          have HT : Hid (TI wr ((wr.alloc (.cells zrW 25)).alloc (.cells zrW 25)).drew _ _ zrW zrW) := (TI.start hbl)
          unfold zrW at HT
          generalize ((wr.alloc _).alloc _).drew = V at *
        case' ob =>
          refine armW rfl ?_
          go_simp
          refine hK.out _ _ ((hbl.alloc hbl.size _).drew) (fun hHeld2 => ?_)
          clear hK hHeld2
          refine wpAnyH_ready (rs := [6]) (by kernel_rfl) (by simp) ?_
          refine AllReadyH.cons rfl (fun K hK => ?_) AllReadyH.nil
          refine armW rfl ?_
          go_simp
          refine hK.out _ _ ((TI.start hbl).bel) (fun hHeld2 => ?_)
          clear hK hHeld2
          have HT : Hid (TI wr ((wr.alloc (.cells zrW 25)).alloc (.cells zrW 25)).drew _ _ zrW zrW) := (TI.start hbl).swap
          unfold zrW at HT
          generalize ((wr.alloc _).alloc _).drew = V at *
        all_goals
          obtain ⟨p0, p1, p2, p3, p4⟩ := fiveI HT.out.h1
          obtain ⟨q0, q1, q2, q3, q4⟩ := fiveI HT.out.h2
          obtain ⟨r0, r1, r2, r3, r4⟩ := cells5 HT.out.h1
          obtain ⟨s0, s1, s2, s3, s4⟩ := cells5 HT.out.h2
          have HT1 : Hid (TI wr (ptI V _ x) _ _ (itW x) zrW) := HT.out.pt x
          have HT2 : Hid (TI wr (ptI (ptI V _ x) _ y) _ _ (itW x) (itW y)) := (HT1.out.swap.pt y).swap
          refine wpAnyH_ready (rs := [8]) (by kernel_rfl) (by simp) ?_
          refine AllReadyH.cons rfl (fun K hK => ?_) AllReadyH.nil
          refine armW rfl ?_
          go_simp
          refine hK.out _ _ (HT1.out.bel) (fun hHeld2 => ?_)
          clear hK hHeld2
          change wpAnyH _ _ _ _ _ _ _ _ (ptI V _ x)
          clear p0 p1 p2 p3 p4 q0 q1 q2 q3 q4 r0 r1 r2 r3 r4 s0 s1 s2 s3 s4
          generalize ptI V _ x = V1 at *
          obtain ⟨q0, q1, q2, q3, q4⟩ := fiveI HT1.out.h2
          obtain ⟨s0, s1, s2, s3, s4⟩ := cells5 HT1.out.h2
          refine wpAnyH_ready (rs := [9]) (by kernel_rfl) (by simp) ?_
          refine AllReadyH.cons rfl (fun K hK => ?_) AllReadyH.nil
          refine armW rfl ?_
          go_simp
          refine hK.out _ _ (HT2.out.bel) (fun hHeld2 => ?_)
          clear hK hHeld2
          change wpAnyH _ _ _ _ _ _ _ _ (ptI V1 _ y)
          clear q0 q1 q2 q3 q4 s0 s1 s2 s3 s4
          generalize ptI V1 _ y = V2 at *
          refine wpAnyH_done (by kernel_rfl) ?_ _
          obtain ⟨r0, r1, r2, r3, r4⟩ := cells5 HT2.out.h1
          obtain ⟨s0, s1, s2, s3, s4⟩ := cells5 HT2.out.h2
          clear HT HT1 hbl hHeld
          have HBP : Hid (Calls Tryd.prog 42 #[.agg #[.string (mkB x.p), .int .i64 x.k, .int .i64 x.m, .int .i64 x.t, .string (mkB x.d)], .agg #[.string (mkB y.p), .int .i64 y.k, .int .i64 y.m, .int .i64 y.t, .string (mkB y.d)]] V2 fun e w' => e = .returned (.int .i64 (pcm x.p y.p)) ∧ ∃ q os, w' = Go.Sort.grow (V2.drewN q) os) := byPath_any x y V2 (HC.out.pa x List.mem_cons_self) (HC.out.pb y List.mem_cons_self) (HL.out.below (HC.out.bl.trans (HT2.out.bel.mono HC.out.bl.size))).max
          go_wp2_with fail
          refine HBP.out.mono ?_
          rintro e V3 ⟨rfl, q, os, e3⟩
          have hb3 : Below V2.heap.size V2 V3 := by rw [e3]; exact below_grow _ _ _
          have HT3 : Hid (TI wr V3 _ _ (itW x) (itW y)) := HT2.out.below hb3
          clear r0 r1 r2 r3 r4 s0 s1 s2 s3 s4 HBP hb3 e3
          obtain ⟨r0, r1, r2, r3, r4⟩ := cells5 HT3.out.h1
          obtain ⟨s0, s1, s2, s3, s4⟩ := cells5 HT3.out.h2
          have HO3 : Hid (CO V3 w.heap.size (.slice oa out.length oc) out) := HC.out.ho.below HT3.out.bel
          have HB3 : Hid (Below w.heap.size w V3) := HC.out.bl.trans (HT3.out.bel.mono HC.out.bl.size)
          have hF1 : out.length + 1 ≤ 1000000 := by have := HC.out.lo; omega
          have hz3 : w.heap.size ≤ V3.heap.size := HB3.out.size
          have HS1 : Hid (IV w (.slice (if sc = 1 then some ⟨g1, o1, none⟩ else some ⟨g1, o1 + 5, none⟩) a.length (sc - 1)) a) := HC.out.hs.tail
          have HU1 : Hid (IV w (.slice (if uc = 1 then some ⟨g2, o2, none⟩ else some ⟨g2, o2 + 5, none⟩) b.length (uc - 1)) b) := HC.out.hu.tail
          have HEQ : Hid (out ++ (if pcm x.p y.p = -1 then ⟨x.p, 2⟩ :: chgN a (y :: b) else if pcm x.p y.p = 1 then ⟨y.p, 1⟩ :: chgN (x :: a) b else (if x = y then [] else [⟨x.p, 3⟩]) ++ chgN a b) = C) := by have := HC.out.eq; rw [chg_cons] at this; exact this
          have HLO : Hid (∀ l m : List Chg, l ++ m = C → l.length ≤ 400) := fun l m e => by have := congrArg List.length e; rw [List.length_append] at this; have := HCL.out; omega
          have HLA : Hid (a.length ≤ 200 ∧ b.length ≤ 200 ∧ (x :: a).length ≤ 200 ∧ (y :: b).length ≤ 200) := by have h1 := HC.out.la; have h2 := HC.out.lb; refine ⟨?_, ?_, h1, h2⟩ <;> simp at h1 h2 <;> omega
          rcases pcm_ord.vals x.p y.p with hpc | hpc | hpc
          · rw [hpc]
            have HE1 : Hid ((out ++ [⟨x.p, 2⟩]) ++ chgN a (y :: b) = C) := by have := HEQ.out; rw [if_pos hpc] at this; unfold Hid; rw [List.append_assoc]; exact this
            go_wp2_with (at_builtin; refine append_ch rfl _ _ rfl w.heap.size (.slice oa out.length oc) out ⟨x.p, 2⟩ rfl rfl HO3.out hF1 hz3 ?_; intro a' c' w5 hO5 hg5)
            refine ⟨⟨a, y :: b, out ++ [⟨x.p, 2⟩], _, _, _, _, _, _, rfl, rfl, by rw [List.length_append]; rfl, HS1.out, HC.out.hu, hO5, HE1.out, HLA.out.1, HLA.out.2.2.2, HLO.out _ _ HE1.out, fun z hz => HC.out.pa z (List.mem_cons_of_mem _ hz), HC.out.pb, HB3.out.grown hg5 hz3 (fun k hk => (HO3.out.lt k hk).1)⟩, by simp [slN]⟩
          · rw [hpc]
            have hxy : x.p = y.p := (pcm_ord.eq _ _).1 hpc
            have n1 : ¬ pcm x.p y.p = -1 := by rw [hpc]; decide
            have n2 : ¬ pcm x.p y.p = 1 := by rw [hpc]; decide
            have hne := neq_itg x y
            by_cases hd : x = y
            · have HE1 : Hid (out ++ chgN a b = C) := by have := HEQ.out; rw [if_neg n1, if_neg n2, if_pos hd] at this; exact this
              have hdd : decide (x = y) = true := decide_eq_true hd
              rw [hdd] at hne
              clear hd hdd hxy n1 n2
              go_wp2
              refine ⟨⟨a, b, out, _, _, _, _, _, _, rfl, rfl, rfl, HS1.out, HU1.out, HO3.out, HE1.out, HLA.out.1, HLA.out.2.1, HLO.out _ _ HE1.out, fun z hz => HC.out.pa z (List.mem_cons_of_mem _ hz), fun z hz => HC.out.pb z (List.mem_cons_of_mem _ hz), HB3.out⟩, by simp [slN]; omega⟩
            · have HE1 : Hid ((out ++ [⟨x.p, 3⟩]) ++ chgN a b = C) := by have := HEQ.out; rw [if_neg n1, if_neg n2, if_neg hd] at this; unfold Hid; rw [List.append_assoc]; exact this
              have hdd : decide (x = y) = false := decide_eq_false hd
              rw [hdd] at hne
              clear hd hdd hxy n1 n2
              go_wp2_with (at_builtin; refine append_ch rfl _ _ rfl w.heap.size (.slice oa out.length oc) out ⟨x.p, 3⟩ rfl rfl HO3.out hF1 hz3 ?_; intro a' c' w5 hO5 hg5)
              refine ⟨⟨a, b, out ++ [⟨x.p, 3⟩], _, _, _, _, _, _, rfl, rfl, by rw [List.length_append]; rfl, HS1.out, HU1.out, hO5, HE1.out, HLA.out.1, HLA.out.2.1, HLO.out _ _ HE1.out, fun z hz => HC.out.pa z (List.mem_cons_of_mem _ hz), fun z hz => HC.out.pb z (List.mem_cons_of_mem _ hz), HB3.out.grown hg5 hz3 (fun k hk => (HO3.out.lt k hk).1)⟩, by simp [slN]; omega⟩
          · rw [hpc]
            have n1 : ¬ pcm x.p y.p = -1 := by rw [hpc]; decide
            have HE1 : Hid ((out ++ [⟨y.p, 1⟩]) ++ chgN (x :: a) b = C) := by have := HEQ.out; rw [if_neg n1, if_pos hpc] at this; unfold Hid; rw [List.append_assoc]; exact this
            clear n1
            go_wp2_with (at_builtin; refine append_ch rfl _ _ rfl w.heap.size (.slice oa out.length oc) out ⟨y.p, 1⟩ rfl rfl HO3.out hF1 hz3 ?_; intro a' c' w5 hO5 hg5)
            refine ⟨⟨x :: a, b, out ++ [⟨y.p, 1⟩], _, _, _, _, _, _, rfl, rfl, by rw [List.length_append]; rfl, HC.out.hs, HU1.out, hO5, HE1.out, HLA.out.2.2.1, HLA.out.2.1, HLO.out _ _ HE1.out, HC.out.pa, fun z hz => HC.out.pb z (List.mem_cons_of_mem _ hz), HB3.out.grown hg5 hz3 (fun k hk => (HO3.out.lt k hk).1)⟩, by simp [slN]⟩
end Go.Proofs.YtmjfcneofpddiaaDoor
