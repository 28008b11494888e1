/- Contracts of the reader's fixedCodes, firstCodes and row. One step of a region that draws its order, with nothing held of the world: laws of our own on the kit's. Contract of the reader's firstCodes. -/
import Derived.Test.YthkppipdflmekaaQInfL
import Derived.Test.YthkppipdflmekaaQBitioM
import Derived.RegionTactic
import Derived.Deep.MidRow
import Derived.Laws.CopyOwn
import Derived.Laws.AppendOwn
import Derived.OwnWalk
namespace Go.Proofs.Ythkppipdflmekaa
open Go.RowKit
set_option linter.unusedVariables false

theorem fixL_fit : fitE fixL = true := by decide +kernel
theorem fixD_fit : fitE fixD = true := by decide +kernel
theorem fixL_lens : Lens fixL := (fitE_ok fixL_fit).2
theorem fixD_lens : Lens fixD := (fitE_ok fixD_fit).2
theorem RdAt.fixed {w : World} {B gr gx gc : Nat} {s : ByteArray} {p most out : Nat} (h : RdAt w B gr gx s p most out) (hc : CodesAt w gc fixL fixD) : RdAt (w.setCell ⟨gr, 3, none⟩ (.pointer (some ⟨gc, 0, none⟩))) B gr gx s p most out ∧ KS w (w.setCell ⟨gr, 3, none⟩ (.pointer (some ⟨gc, 0, none⟩))) ∧ Below B w (w.setCell ⟨gr, 3, none⟩ (.pointer (some ⟨gc, 0, none⟩))) ∧ (w.setCell ⟨gr, 3, none⟩ (.pointer (some ⟨gc, 0, none⟩))).cell? ⟨gr, 3, none⟩ = some (.pointer (some ⟨gc, 0, none⟩)) := by
  have hne := h.ne
  obtain ⟨h1, h2, h3, fp, h4, h5⟩ := h
  have hg : w.grownBy (w.setCell ⟨gr, 3, none⟩ (.pointer (some ⟨gc, 0, none⟩))) (some gr) := gset (grefl w _) 3 _
  have hk : KS w (w.setCell ⟨gr, 3, none⟩ (.pointer (some ⟨gc, 0, none⟩))) := ks_grown hg h4 (.inr rfl)
  have h6 : (w.setCell ⟨gr, 3, none⟩ (.pointer (some ⟨gc, 0, none⟩))).heap[gr]? = some (.cells #[.pointer (some ⟨gx, 0, none⟩), .int .i64 (most : Int), .int .i64 (out : Int), .pointer (some ⟨gc, 0, none⟩)] 51 (0, 0)) := by rw [heap_setCell_same _ _ _ _ _ _ h4]; rfl
  refine ⟨⟨h1, h2, (hg.block gx h3.lt (fun e => hne (by cases e; rfl))).trans h3, _, h6, .inr ⟨gc, rfl, hc.ks hk⟩⟩, hk, (Below.refl _ w).setCell h1 _, ?_⟩
  rw [cell_of_row _ _ _ _ _ _ h6]; rfl
set_option maxRecDepth 100000 in
set_option maxHeartbeats 2000000 in
theorem fixedCodes_any (B gr gx : Nat) (s : ByteArray) (p most out : Nat) (w : World) (hR : RdAt w B gr gx s p most out) :
    Calls Try.prog 47 #[.pointer (some ⟨gr, 0, none⟩)] w fun e w' => ∃ gc, e = .returned (.tuple #[.pointer (some ⟨gc, 0, none⟩), .int .i64 0]) ∧ CodesAt w' gc fixL fixD ∧ RdAt w' B gr gx s p most out ∧ KS w w' ∧ Below B w w' := by
  obtain ⟨h1, h2, h3, fp, h4, h5⟩ := id hR
  have c3 : w.cell? ⟨gr, 3, none⟩ = some (.pointer fp) := by rw [cell_of_row _ _ _ _ _ _ h4]; rfl
  have hB0 := hR.size
  rcases h5 with rfl | ⟨gc, rfl, hc⟩
  · have HL : Hid (Calls _ _ _ _ _) := lengths_any w
    have HR : Hid (RdAt w B gr gx s p most out) := hR
    clear hR h3 h4
    go_enter Try.func47, Try.ntmps47
    go_wp2_with fail
    refine (Hid.out HL : Calls _ _ _ _ _).mono ?_
    rintro e w1 ⟨v, u, rfl, o1, o2, b1⟩
    have HP : Hid (Calls _ _ _ _ _) := plant_good v u fixL fixD w1 (own_IO o1 (by decide)) (own_IO o2 (by decide)) fixL_fit fixD_fit
    clear HL o1 o2 c3
    go_wp2_with fail
    refine (Hid.out HP : Calls _ _ _ _ _).mono ?_
    rintro e w2 ⟨gc, rfl, hc, b2⟩
    have hb2 : Below w.heap.size w w2 := b1.trans (b2.mono b1.size)
    have hR2 := HR.out.below hb2
    obtain ⟨k1, k2, k3, k4⟩ := hR2.fixed hc
    have f3 : w2.frozen? ⟨gr, 3, none⟩ = false := by
      obtain ⟨_, _, _, fp', h4', _⟩ := hR2
      exact frozen_of_row _ _ _ _ _ h4'
    obtain ⟨x3, c3⟩ : ∃ x3, w2.cell? ⟨gr, 3, none⟩ = some x3 := by
      obtain ⟨_, _, _, fp', h4', _⟩ := hR2
      exact ⟨_, by rw [cell_of_row _ _ _ _ _ _ h4']; rfl⟩
    have HC : Hid _ := hc.ks k2
    have HK : Hid _ := (ks_below hb2).trans k2
    have HB : Hid (Below B w _) := (hb2.mono hB0).trans k3
    have HR2 : Hid _ := k1
    clear HP hc b1 b2 hb2 hR2 k1 k2 k3
    go_wp2
    go_ret2
    exact ⟨gc, rfl, HC.out, HR2.out, HK.out, HB.out⟩
  · clear h3 h4
    go_enter Try.func47, Try.ntmps47
    go_wp2
    go_ret2
    exact ⟨gc, rfl, hc, hR, KS.refl _, Below.refl _ _⟩
/-- The order's row as cells. -/
theorem order_any (w : World) : Calls Try.prog 62 #[] w fun e w' => e = .returned (.slice (some ⟨w.heap.size, 0, none⟩) 19 19) ∧ w' = w.alloc (.cells (nc ordL).toArray 3) := by
  go_enter Try.func62, Try.ntmps62
  go_wp2
  go_ret
  exact ⟨rfl, rfl⟩
end Go.Proofs.Ythkppipdflmekaa
namespace Go.Proofs.Ythkppipdflmekaa
open Go.RowKit
set_option linter.unusedVariables false
section
variable {P : Program} {ops : Array Oper} {Q : Exit → Act → World → Prop} {md : Region.Mode} {fuel : Nat} {l : Array Bool}
theorem armW {o : Oper} {a : Act} {w : World} {K : Act → World → Prop} {E : Prop} (hgd : o.guard = none) (h : Oper.wp P o a w K Q) :
    if Region.wanted o (yielded ops a.tmps) = true then Oper.wp P o a w K Q else E := by
  have hw : Region.wanted o (yielded ops a.tmps) = true := by simp [Region.wanted, hgd]
  rw [if_pos hw]
  exact h
theorem armW_value {o : Oper} {a : Act} {w : World} {K : Act → World → Prop} {E : Prop} (hgd : o.guard = none) (d : Option Tmp) (hd : o.dst = d) {v : Value} {w' : World}
    (hrun : (execOp a.eval o).run P w = .ok (.value v) w') (h : K (a.put d v) w') :
    if Region.wanted o (yielded ops a.tmps) = true then Oper.wp P o a w K Q else E := by
  subst hd
  refine armW hgd ?_
  unfold Oper.wp
  rw [hrun]
  exact h
theorem armW_call {o : Oper} {a : Act} {w : World} {K : Act → World → Prop} {E : Prop} (hgd : o.guard = none) (d : Option Tmp) (hd : o.dst = d)
    (f : FuncId) (args : Array Value) (hrun : ∀ w, (execOp a.eval o).run P w = .ok (.enter f args) w) {v : Value} {R : World → Prop}
    (hc : Calls P f args w fun e w' => e = .returned v ∧ R w') (h : ∀ w', R w' → K (a.put d v) w') :
    if Region.wanted o (yielded ops a.tmps) = true then Oper.wp P o a w K Q else E := by
  subst hd
  refine armW hgd ?_
  unfold Oper.wp
  rw [hrun w, Oper.upon_enter]
  refine hc.mono fun e w' hh => ?_
  obtain ⟨rfl, hR⟩ := hh
  exact h w' hR
theorem armW_callE {o : Oper} {a : Act} {w : World} {K : Act → World → Prop} {E : Prop} (hgd : o.guard = none) (d : Option Tmp) (hd : o.dst = d)
    (f : FuncId) (args : Array Value) (hrun : ∀ w, (execOp a.eval o).run P w = .ok (.enter f args) w) {R : Value → World → Prop}
    (hc : Calls P f args w fun e w' => ∃ v, e = .returned v ∧ R v w') (h : ∀ v w', R v w' → K (a.put d v) w') :
    if Region.wanted o (yielded ops a.tmps) = true then Oper.wp P o a w K Q else E := by
  subst hd
  refine armW hgd ?_
  unfold Oper.wp
  rw [hrun w, Oper.upon_enter]
  refine hc.mono fun e w' hh => ?_
  obtain ⟨v, rfl, hR⟩ := hh
  exact h v w' hR
theorem armW_load {o : Oper} {a : Act} {w : World} {K : Act → World → Prop} {E : Prop} (hgd : o.guard = none) (d : Tmp) (hd : o.dst = some d) (ty : TypeId) (x : Operand) (ho : o.op = .load ty x)
    (b off : Nat) (hx : a.eval x = .pointer (some ⟨b, off, none⟩)) (cs : List Value) (ds : TypeDesc) (hc : w.rangeAt b off cs) (hu : P.underlying ty = some ds) (hr : ds.isRow = true) (hi : (P.info? ty).map (·.size) = some cs.length) (h : K (a.put (some d) (.agg cs.toArray)) w) :
    if Region.wanted o (yielded ops a.tmps) = true then Oper.wp P o a w K Q else E :=
  armW hgd (wp_load_mid ty x ho b off hx cs ds hc hu hr hi (by rw [hd]; exact h))
theorem armW_copy {o : Oper} {a : Act} {w : World} {K : Act → World → Prop} {E : Prop} (hgd : o.guard = none) (t' : Tmp) (hd' : o.dst = some t') (d s : Operand) (dT sT : TypeId)
    (ho : o.op = .call { callee := .builtin .copy, args := #[d, s], argTypes := #[dT, sT] }) (elem : TypeId) (hu : P.underlying dT = some (.slice elem)) (hsz : (P.info? elem).map (·.size) = some 1)
    (dp sp : Option Addr) (dLen dCap sLen sCap : Nat) (hd : a.eval d = .slice dp dLen dCap) (hs : a.eval s = .slice sp sLen sCap)
    (g off : Nat) (cur : List Value) (t : TypeId) (hg : w.heap[g]? = some (.cells cur.toArray t (0, 0))) (cs : List Value) (hn : cs.length = Nat.min sLen dLen)
    (hpos : 0 < cs.length → dp = some ⟨g, off, none⟩ ∧ ∃ ad, sp = some ad ∧ ∀ j v, cs[j]? = some v → w.cell? (ad.add j) = some v)
    (hfit : off + cs.length ≤ cur.length) (h1 : ∀ v ∈ cs, v.oneCell' = true) (B : Nat) (w0 : World) (hb : RowKit.Below B w0 w) (hBg : B ≤ g)
    (h : ∀ w', w'.heap[g]? = some (.cells (splice cur off cs).toArray t (0, 0)) → RowKit.Below B w0 w' → K (a.put (some t') (goInt cs.length)) w') :
    if Region.wanted o (yielded ops a.tmps) = true then Oper.wp P o a w K Q else E :=
  step_copy_splice hgd d s dT sT ho elem hu hsz dp sp dLen dCap sLen sCap hd hs g off cur t hg cs hn hpos hfit h1 B w0 hb hBg (fun w' q1 q2 => by rw [hd']; exact h w' q1.out q2)
theorem armW_append {op : Oper} {a : Act} {w : World} {K : Act → World → Prop} {E : Prop} (hgd : op.guard = none) (t' : Tmp) (hd' : op.dst = some t') (s x : Operand) (t : TypeId)
    (ho : op.op = .call { callee := .builtin .append, args := #[s, x], argTypes := #[t, t] })
    (base : Nat) (e : TypeId) (i : TypeInfo) (z : Value) (size bytes : Nat) (ht : P.underlying t = some (.slice e)) (hi : P.info? e = some i) (hz : i.zero = some z)
    (hsize : i.size = size) (hby : i.bytes = bytes) (hzs : z.cells.size = size) (hsz : 0 < size)
    (v : Value) (n : Nat) (xs : List Value) (hs : a.eval s = v) (hown : w.ownsRow base e size v n xs)
    (ad : Addr) (m c : Nat) (news : List Value) (hx : a.eval x = .slice (some ad) m c) (hl : news.length = m * size) (hnews : ∀ j u, news[j]? = some u → w.cell? (ad.add j) = some u) (h1 : ∀ u ∈ news, u.oneCell' = true)
    (h63 : n + m ≤ maxLen) (hbytes : (n + m) * bytes ≤ 140737488355328) (hbase : base ≤ w.heap.size)
    (h : ∀ v' w', w'.ownsRow base e size v' (n + m) (xs ++ news) → w.grownBy w' v.ownBlock → (v' = .slice none 0 0 ↔ v = .slice none 0 0 ∧ m = 0) → K (a.put (some t') v') w') :
    if Region.wanted op (yielded ops a.tmps) = true then Oper.wp P op a w K Q else E :=
  armW hgd (wp_append_own w s x t ho base e i z size bytes ht hi hz hsize hby hzs hsz v n xs hs hown ad m c news hx hl hnews h1 h63 hbytes hbase fun v' w' q1 q2 q3 => by rw [hd']; exact h v' w' q1 q2 q3)
theorem takeW {i : Nat} {oi : Oper} {fuel : Nat} {a : Act} {w : World} (hi : ops[i]? = some oi) (hs : Region.noSelect ops = true) (hf : Region.free md ops l i = true) (hr : (Region.ready md ops l).contains i = true)
    (hQ : ∀ c v a w, Q (.panic c) (a.put oi.dst v) w → Q (.panic c) a w) (d : Tmp) (hd : oi.dst = some d) (v : Value) (hy : Yields P ops oi v a) (h : wpAny P md ops Q fuel (l.setIfInBounds i true) (a.put (some d) v) w) : wpAny P md ops Q (fuel + 1) l a w :=
  wpAny_take (v := v) hi hs hf hr (fun c a w h => hQ c _ a w h) hy (by rw [hd]; exact h)
end
end Go.Proofs.Ythkppipdflmekaa
namespace Go.Proofs.Ythkppipdflmekaa
open Go.RowKit
set_option linter.unusedVariables false

theorem ord_at : ∀ k : Fin 19, ordL.idxOf (ordL.getD k.val 0) = k.val ∧ ordL.getD k.val 0 < 19 := by decide +kernel
theorem ord_next : ∀ k t : Fin 19, (ordL.idxOf t.val < k.val + 1) = (ordL.idxOf t.val < k.val ∨ t.val = ordL.getD k.val 0) := by
  have h : ∀ k t : Fin 19, (ordL.idxOf t.val < k.val + 1) ↔ (ordL.idxOf t.val < k.val ∨ t.val = ordL.getD k.val 0) := by decide +kernel
  intro k t
  exact propext (h k t)
theorem fstL_len (f : Nat → Bool) (p k : Nat) : (fstL f p k).length = 19 := by simp [fstL]
theorem fstL_set (f : Nat → Bool) (p k : Nat) (hk : k < 19) : (nc (fstL f p k)).set (ordL.getD k 0) (.int .i64 (takeN (fun i => f (p + 3 * k + i)) 3 : Int)) = nc (fstL f p (k + 1)) := by
  apply List.ext_getElem?
  intro i
  rw [List.getElem?_set]
  unfold nc fstL
  by_cases hi : i < 19
  · simp only [List.map_map, List.length_map, List.length_range, List.getElem?_map, List.getElem?_range hi, Option.map_some, Function.comp_apply]
    have hn := ord_next ⟨k, hk⟩ ⟨i, hi⟩
    have ha := ord_at ⟨k, hk⟩
    simp only at hn ha
    by_cases e : ordL.getD k 0 = i
    · rw [if_pos e, if_pos ha.2]
      have h1 : ordL.idxOf i = k := by rw [← e]; exact ha.1
      rw [if_pos (by rw [h1]; omega), h1]
    · rw [if_neg e]
      by_cases h2 : ordL.idxOf i < k
      · rw [if_pos h2, if_pos (by omega)]
      · rw [if_neg h2, if_neg (fun h => by rw [hn] at h; exact h.elim h2 (fun q => e q.symm))]
  · rw [List.getElem?_eq_none (by simp; omega), List.getElem?_eq_none (by simp; omega)]
    split
    · rename_i e
      have := (ord_at ⟨k, hk⟩).2
      simp only at this
      omega
    · rfl
theorem fstL_zero (f : Nat → Bool) (p : Nat) : madeCells #[Value.int .i64 0] 19 = (nc (fstL f p 0)).toArray := by
  apply Array.ext'
  rw [toList_madeCells_one]
  unfold nc fstL
  rw [List.map_map]
  rfl
theorem IO_cells {w : World} {g : Nat} {ns : List Nat} (h : w.heap[g]? = some (.cells (nc ns).toArray 3 (0, 0))) (n : Nat) (hn : n = ns.length) : IQ w (.slice (some ⟨g, 0, none⟩) n n) (zz ns) := by
  subst hn
  refine ⟨g, 0, ns.length, by rw [zz_len], (Array.getElem?_eq_some_iff.1 h).1, fun i hi => ?_⟩
  rw [zz_len] at hi
  rw [Nat.zero_add, cell_of_row _ _ _ _ _ _ h, List.getElem?_toArray, nc_at ns i hi, zz_at]
theorem foreignI : Foreign 3 := by unfold Foreign; decide
set_option maxRecDepth 100000 in
set_option maxHeartbeats 4000000 in
theorem first_any (B gr gx : Nat) (s : ByteArray) (p most out n : Nat) (w : World) (hR : RdAt w B gr gx s p most out) (hs : s.size ≤ 100000000) (hp : p ≤ 8 * s.size) (hn : n ≤ 19) :
    Calls Try.prog 55 #[.pointer (some ⟨gr, 0, none⟩), .int .i64 (n : Int)] w fun e w' => (8 * s.size < p + 3 * n ∧ e = .returned (.tuple #[.pointer none, .int .i64 6]) ∧ KS w w' ∧ Below B w w') ∨ (p + 3 * n ≤ 8 * s.size ∧ fitE (fstL (bF8 s) p n) = false ∧ e = .returned (.tuple #[.pointer none, .int .i64 3]) ∧ KS w w' ∧ Below B w w') ∨ (p + 3 * n ≤ 8 * s.size ∧ fitE (fstL (bF8 s) p n) = true ∧ ∃ B1 t, e = .returned (.tuple #[.pointer (some ⟨t, 0, none⟩), .int .i64 0]) ∧ Planted w' B1 t (fstL (bF8 s) p n) 19 ∧ RdAt w' B gr gx s (p + 3 * n) most out ∧ KS w w' ∧ Below B w w') := by
  have hB0 := hR.size
  have hmk : ∀ W : World, (Instr.makeSlice 63 (.int .i64 19) (.int .i64 19)).run Try.prog W = .ok (.slice (some ⟨W.heap.size, 0, none⟩) 19 19) (W.alloc (.cells (madeCells #[.int .i64 0] 19) 3)) := make_ints 19 (by decide)
  have hA1 : Below w.heap.size w (w.alloc (.cells (nc ordL).toArray 3)) := (Below.refl _ w).alloc (Nat.le_refl _) _
  have hA2 : Below w.heap.size w ((w.alloc (.cells (nc ordL).toArray 3)).alloc (.cells (madeCells #[.int .i64 0] 19) 3)) := hA1.alloc hA1.size _
  have HA2 : Hid (Below w.heap.size w ((w.alloc (.cells (nc ordL).toArray 3)).alloc (.cells (madeCells #[.int .i64 0] 19) 3))) := hA2
  have HR2 : Hid (RdAt ((w.alloc (.cells (nc ordL).toArray 3)).alloc (.cells (madeCells #[.int .i64 0] 19) 3)) B gr gx s p most out) := hR.below hA2
  have HO2 : Hid (((w.alloc (.cells (nc ordL).toArray 3)).alloc (.cells (madeCells #[.int .i64 0] 19) 3)).heap[w.heap.size]? = some (.cells (nc ordL).toArray 3 (0, 0))) := (heap_alloc_old _ _ (by rw [World.size_alloc]; omega)).trans (heap_alloc_new w _)
  have HL2 : Hid (((w.alloc (.cells (nc ordL).toArray 3)).alloc (.cells (madeCells #[.int .i64 0] 19) 3)).heap[w.heap.size + 1]? = some (.cells (nc (fstL (bF8 s) p 0)).toArray 3 (0, 0))) := by
    unfold Hid
    rw [← fstL_zero]
    have := heap_alloc_new (w.alloc (.cells (nc ordL).toArray 3)) (.cells (madeCells #[.int .i64 0] 19) 3)
    rw [World.size_alloc] at this; exact this
  have hni : (n : Int) ≤ 19 := by omega
  have hni0 : (0 : Int) ≤ (n : Int) := by omega
  clear hA1 hA2 hR
  go_enter Try.func55, Try.ntmps55
  go_wp2_with fail
  refine (order_any w).mono ?_
  rintro e w1 ⟨rfl, rfl⟩
  go_wp2
  generalize World.alloc (World.alloc w _) _ = W2 at *
  clear hmk
  go_loopw [20] (fun i wr => ∃ k : Nat, k ≤ n ∧ i = .int .i64 (k : Int) ∧ p + 3 * k ≤ 8 * s.size ∧ wr.heap[w.heap.size]? = some (.cells (nc ordL).toArray 3 (0, 0)) ∧ wr.heap[w.heap.size + 1]? = some (.cells (nc (fstL (bF8 s) p k)).toArray 3 (0, 0)) ∧ RdAt wr B gr gx s (p + 3 * k) most out ∧ KS w wr ∧ Below B w wr) (fun i _ => n - (intOf i).toNat)
  case atStart => exact ⟨0, by omega, rfl, by omega, HO2.out, HL2.out, HR2.out, ks_below HA2.out, HA2.out.mono hB0⟩
  case round =>
    clear HA2 HR2 HO2 HL2
    obtain ⟨k, hk, rfl, hpk, hO, hL, hR, hK, hB⟩ := hrel
    by_cases hlt : k < n
    · have hki : (k : Int) < (n : Int) := by omega
      have hki0 : (0 : Int) ≤ (k : Int) := by omega
      obtain ⟨_, hs19⟩ := ord_at ⟨k, by omega⟩
      simp only at hs19
      have co : wr.cell? ⟨w.heap.size, k, none⟩ = some (.int .i64 (ordL.getD k 0 : Int)) := by
        rw [cell_of_row _ _ _ _ _ _ hO, List.getElem?_toArray, nc_at ordL k (by show k < 19; omega)]
      have HFS : Hid _ := fstL_set (bF8 s) p k (by omega)
      have HR : Hid (RdAt wr B gr gx s (p + 3 * k) most out) := hR
      have HO : Hid (wr.heap[w.heap.size]? = some (.cells (nc ordL).toArray 3 (0, 0))) := hO
      have HL : Hid (wr.heap[w.heap.size + 1]? = some (.cells (nc (fstL (bF8 s) p k)).toArray 3 (0, 0))) := hL
      have HK : Hid (KS w wr) := hK
      have HB : Hid (Below B w wr) := hB
      clear hO hL hR hK hB
      generalize ordL.getD k 0 = sy at *
      cases ht : tkF (bF8 s) (8 * s.size) (p + 3 * k) 3 with
      | error er =>
        have hte := tkF_err ht
        obtain ⟨hsh, rfl⟩ := hte
        have HT : Hid (Calls _ _ _ _ _) := rtake_err B gr gx s (p + 3 * k) most out 3 6 wr HR.out hs (by decide) hpk ht
        clear ht
        go_wp2_with fail
        refine (Hid.out HT : Calls _ _ _ _ _).mono ?_
        rintro e w3 ⟨rfl, hK3, hB3⟩
        have HK3 : Hid (KS w w3) := HK.out.trans hK3
        have HB3 : Hid (Below B w w3) := HB.out.trans hB3
        clear hK3 hB3 HT co
        go_wp2
        go_ret2
        exact .inl ⟨by omega, rfl, HK3.out, HB3.out⟩
      | ok x =>
        have hto := tkF_ok ht
        obtain ⟨hle, hxv⟩ := hto
        have HT : Hid (Calls _ _ _ _ _) := rtake_ok B gr gx s (p + 3 * k) most out 3 x wr HR.out hs (by decide) ht
        rw [← hxv] at HFS
        clear ht hxv
        go_wp2_with fail
        refine (Hid.out HT : Calls _ _ _ _ _).mono ?_
        rintro e w3 ⟨rfl, hR3, hK3, hB3⟩
        have hO3 := hK3.2 _ _ _ _ HO.out (by decide) (by decide)
        have hL3 := hK3.2 _ _ _ _ HL.out (by decide) (by decide)
        have hg3 : w3.grownBy (w3.setCell ⟨w.heap.size + 1, sy, none⟩ (.int .i64 (x : Int))) (some (w.heap.size + 1)) := gset (grefl w3 _) sy _
        have hL4 : (w3.setCell ⟨w.heap.size + 1, sy, none⟩ (.int .i64 (x : Int))).heap[w.heap.size + 1]? = some (.cells (nc (fstL (bF8 s) p (k + 1))).toArray 3 (0, 0)) := by
          rw [heap_setCell_same _ _ _ _ _ _ hL3, List.setIfInBounds_toArray, HFS.out]
        obtain ⟨y, cy⟩ : ∃ y, w3.cell? ⟨w.heap.size + 1, sy, none⟩ = some y := by
          refine ⟨(nc (fstL (bF8 s) p k))[sy]'(by rw [nc_len, fstL_len]; exact hs19), ?_⟩
          rw [cell_of_row _ _ _ _ _ _ hL3, List.getElem?_toArray, List.getElem?_eq_getElem (by rw [nc_len, fstL_len]; exact hs19)]
        have fy : w3.frozen? ⟨w.heap.size + 1, sy, none⟩ = false := frozen_of_row _ _ _ _ _ hL3
        have HL4 : Hid _ := hL4
        have HO4 : Hid ((w3.setCell ⟨w.heap.size + 1, sy, none⟩ (.int .i64 (x : Int))).heap[w.heap.size]? = some (.cells (nc ordL).toArray 3 (0, 0))) := (hg3.block w.heap.size (Array.getElem?_eq_some_iff.1 hO3).1 (fun e => by have := Option.some.inj e; omega)).trans hO3
        have HR4 : Hid (RdAt (w3.setCell ⟨w.heap.size + 1, sy, none⟩ (.int .i64 (x : Int))) B gr gx s (p + 3 * k + 3) most out) := hR3.k1 (k1_grown hg3 hL3) foreignI
        have HK4 : Hid (KS w (w3.setCell ⟨w.heap.size + 1, sy, none⟩ (.int .i64 (x : Int)))) := ks_new (HK.out.trans hK3) hg3 (by omega)
        have HB4 : Hid (Below B w (w3.setCell ⟨w.heap.size + 1, sy, none⟩ (.int .i64 (x : Int)))) := (HB.out.trans hB3).setCell (by show B ≤ w.heap.size + 1; omega) _
        have hsyi : (sy : Int) < 19 := by omega
        have hsyi0 : (0 : Int) ≤ (sy : Int) := by omega
        clear hR3 hK3 hB3 hO3 hL3 hg3 hL4 HT co HR HO HL HK HB HFS
        go_wp2
        go_roundw
        case rel => exact ⟨k + 1, by omega, by go_num, by omega, HO4.out, HL4.out, HR4.out, HK4.out, HB4.out⟩
        case measure => simp [intOf]; omega
    · obtain rfl : k = n := by omega
      have hIO := IO_cells hL 19 (by rw [fstL_len])
      cases hft : fitE (fstL (bF8 s) p k)
      · have HT : Hid (Calls _ _ _ _ _) := tree_err _ _ wr hIO (by rw [fstL_len]; decide) hft
        clear hO hL hIO
        have HK : Hid (KS w wr) := hK
        have HB : Hid (Below B w wr) := hB
        clear hK hB hR
        go_wp2_with fail
        refine (Hid.out HT : Calls _ _ _ _ _).mono ?_
        rintro e w3 ⟨rfl, hw3⟩
        obtain rfl : wr = w3 := hw3.symm
        clear HT hw3
        go_wp2
        go_ret2
        exact .inr (.inl ⟨hpk, hft, rfl, HK.out, HB.out⟩)
      · have HT : Hid (Calls _ _ _ _ _) := tree_ok _ _ wr hIO hft
        have HR : Hid (RdAt wr B gr gx s (p + 3 * k) most out) := hR
        have HK : Hid (KS w wr) := hK
        have HB : Hid (Below B w wr) := hB
        have hsz := hR.size
        clear hO hL hIO hR hK hB
        go_wp2_with fail
        refine (Hid.out HT : Calls _ _ _ _ _).mono ?_
        rintro e w3 ⟨B1, t, rfl, hP, hB3⟩
        rw [fstL_len] at hP
        have HP : Hid (Planted w3 B1 t (fstL (bF8 s) p k) 19) := hP
        have HR3 : Hid (RdAt w3 B gr gx s (p + 3 * k) most out) := HR.out.below hB3
        have HK3 : Hid (KS w w3) := HK.out.trans (ks_below hB3)
        have HB3 : Hid (Below B w w3) := HB.out.trans (hB3.mono hsz)
        clear HT hP hB3 HR HK HB
        go_wp2
        go_ret2
        exact .inr (.inr ⟨hpk, hft, B1, t, rfl, HP.out, HR3.out, HK3.out, HB3.out⟩)
end Go.Proofs.Ythkppipdflmekaa
