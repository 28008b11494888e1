/- One step of a region that draws its order, with nothing held of the world: laws of our own on the kit's. -/
import Derived.Test.YthkppipdflmekaaGreatQPutA
import Derived.Deep.WholeRow
import Derived.Deep.MidRow
import Derived.Deep.QuietTactic
import Derived.BigQuiet
import Derived.Deep.DrawnRows
import Derived.Deep.DeepCutAuto
import Derived.Test.YthkppipdflmekaaGreatQHuffM
import Derived.RegionTactic
import Derived.Laws.CopyOwn
import Derived.Laws.AppendOwn
import Derived.OwnWalk
namespace Go.Proofs.YthkppipdflmekaaGreat
open Go.RowKit
attribute [local go_sem ↓] Go.wp_at_zero Go.wp_at_succ
set_option linter.unusedVariables false
def qkg (p : Option Addr) (L : List Bool) (m : Nat) : Array Value := (.pointer p :: qb1 L (64 * m)).toArray
def qdh (w : World) (g : Nat) (L : List Bool) : Nat → Option Addr → Prop
 | 0, p => p = none
 | m + 1, p => ∃ b p', p = some ⟨b, 0, none⟩ ∧ b ≠ g ∧ w.heap[b]? = some (.cells (qkg p' L m) 134 (0, 0)) ∧ qdh w g L m p'
theorem qgs {w : World} {b : Nat} {o : Obj} (h : w.heap[b]? = some o) : b < w.heap.size := by
 rcases Nat.lt_or_ge b w.heap.size with hl | hl
 · exact hl
 · rw [Array.getElem?_eq_none hl] at h; cases h
theorem qdh.kept {w w' : World} {g : Nat} {L : List Bool} (hg : w.grownBy w' (some g)) : ∀ {m : Nat} {p : Option Addr}, qdh w g L m p → qdh w' g L m p
 | 0, _, h => h
 | m + 1, p, ⟨b, p', h1, h2, h3, h4⟩ => ⟨b, p', h1, h2, (hg.block b (qgs h3) (fun e => h2 (by cases e; rfl))).trans h3, qdh.kept hg h4⟩
theorem qdh.ext {w : World} {g : Nat} {L M : List Bool} : ∀ {m : Nat} {p : Option Addr}, (∀ j, j < 64 * m → qbe M j = qbe L j) → qdh w g L m p → qdh w g M m p
 | 0, _, _, h => h
 | m + 1, p, he, ⟨b, p', h1, h2, h3, h4⟩ => ⟨b, p', h1, h2, by
     have : qkg p' M m = qkg p' L m := by unfold qkg; rw [qoy (L := M) (M := L) (k := 64 * m) (m := 64 * m) (fun j hj => he _ (by omega))]
     rw [this]; exact h3, qdh.ext (fun j hj => he j (by omega)) h4⟩
def snkC (p : Option Addr) (rs : List Value) (n : Nat) : Array Value := (.pointer p :: (rs ++ [.int .i64 (n : Int)])).toArray
theorem qyo (p : Option Addr) (rs : List Value) (n : Nat) : (snkC p rs n)[0]? = some (.pointer p) := by simp [snkC]
theorem qu1 (p : Option Addr) (rs : List Value) (n j : Nat) (hj : j < rs.length) : (snkC p rs n)[1 + j]? = rs[j]? := by
 simp [snkC, Nat.add_comm 1 j, List.getElem?_append_left hj]
theorem qs2 (p : Option Addr) (rs : List Value) (n : Nat) (h : rs.length = 64) : (snkC p rs n)[65]? = some (.int .i64 (n : Int)) := by
 simp [snkC, h]
theorem qyn (p : Option Addr) (rs : List Value) (n j : Nat) (v : Value) (hj : j < rs.length) : (snkC p rs n).setIfInBounds (1 + j) v = snkC p (rs.set j v) n := by
 apply Array.ext'
 rw [Array.toList_setIfInBounds]
 simp [snkC, Nat.add_comm 1 j, hj]
theorem qk7 (p : Option Addr) (rs : List Value) (n m : Nat) (h : rs.length = 64) : (snkC p rs n).setIfInBounds 65 (.int .i64 (m : Int)) = snkC p rs m := by
 apply Array.ext'
 rw [Array.toList_setIfInBounds]
 simp [snkC, h]
theorem qos (p q : Option Addr) (rs : List Value) (n : Nat) : (snkC p rs n).setIfInBounds 0 (.pointer q) = snkC q rs n := by
 apply Array.ext'
 rw [Array.toList_setIfInBounds]
 simp [snkC]
def qap (w : World) (g : Nat) (p : Option Addr) (rs : List Value) (n : Nat) : Prop := w.heap[g]? = some (.cells (snkC p rs n) 65 (0, 0))
def qav (w : World) (g : Nat) (L : List Bool) : Prop := ∃ p, qap w g p (qb1 L (64 * (L.length / 512))) L.length ∧ qdh w g L (L.length / 512) p
theorem qap.lt {w : World} {g n : Nat} {p : Option Addr} {rs : List Value} (h : qap w g p rs n) : g < w.heap.size := qgs h
theorem qav.lt {w : World} {g : Nat} {L : List Bool} (h : qav w g L) : g < w.heap.size := by obtain ⟨p, h, _⟩ := h; exact h.lt
theorem qap.free {w : World} {g n : Nat} {p : Option Addr} {rs : List Value} (h : qap w g p rs n) (j : Nat) : w.frozen? ⟨g, j, none⟩ = false := frozen_of_row _ _ _ _ _ h
theorem qap.ptr {w : World} {g n : Nat} {p : Option Addr} {rs : List Value} (h : qap w g p rs n) : w.cell? ⟨g, 0, none⟩ = some (.pointer p) := by rw [cell_of_row _ _ _ _ _ _ h, qyo]
theorem qap.count {w : World} {g n : Nat} {p : Option Addr} {rs : List Value} (h : qap w g p rs n) (hl : rs.length = 64) : w.cell? ⟨g, 65, none⟩ = some (.int .i64 (n : Int)) := by rw [cell_of_row _ _ _ _ _ _ h, qs2 _ _ _ hl]
theorem qap.rest {w : World} {g n : Nat} {p : Option Addr} {rs : List Value} (h : qap w g p rs n) (j : Nat) (hj : j < rs.length) : w.cell? ⟨g, 1 + j, none⟩ = rs[j]? := by rw [cell_of_row _ _ _ _ _ _ h, qu1 _ _ _ _ hj]
theorem qap.range {w : World} {g n : Nat} {p : Option Addr} {rs : List Value} (h : qap w g p rs n) : w.rangeAt g 1 rs := fun j v hv => by
 rw [h.rest j (List.getElem?_eq_some_iff.1 hv).1]; exact hv
theorem qap.setRest {w : World} {g n : Nat} {p : Option Addr} {rs : List Value} (h : qap w g p rs n) (j : Nat) (v : Value) (hj : j < rs.length) : qap (w.setCell ⟨g, 1 + j, none⟩ v) g p (rs.set j v) n := by
 unfold qap; rw [heap_setCell_same _ _ _ _ _ _ h, qyn _ _ _ _ _ hj]
theorem qap.setCount {w : World} {g n : Nat} {p : Option Addr} {rs : List Value} (h : qap w g p rs n) (hl : rs.length = 64) (m : Nat) : qap (w.setCell ⟨g, 65, none⟩ (.int .i64 (m : Int))) g p rs m := by
 unfold qap; rw [heap_setCell_same _ _ _ _ _ _ h, qk7 _ _ _ _ hl]
theorem qap.setPtr {w : World} {g n : Nat} {p : Option Addr} {rs : List Value} (h : qap w g p rs n) (q : Option Addr) : qap (w.setCell ⟨g, 0, none⟩ (.pointer q)) g q rs n := by
 unfold qap; rw [heap_setCell_same _ _ _ _ _ _ h, qos]
theorem qap.drew {w : World} {g n : Nat} {p : Option Addr} {rs : List Value} (h : qap w g p rs n) : qap w.drew g p rs n := h
theorem qap.alloc {w : World} {g n : Nat} {p : Option Addr} {rs : List Value} (h : qap w g p rs n) (o : Obj) : qap (w.alloc o) g p rs n := by
 unfold qap; rw [heap_alloc_old _ _ h.lt]; exact h
theorem qav.below {w w' : World} {g : Nat} {L : List Bool} (h : qav w g L) (hb : Below w.heap.size w w') : qav w' g L := by
 have hl := h.lt
 obtain ⟨p, h1, h2⟩ := h
 exact ⟨p, (hb.block g hl).trans h1, h2.kept (qrq hb)⟩
theorem qap.step {w : World} {g : Nat} {p : Option Addr} {L : List Bool} (h : qap w g p (qb1 L (64 * (L.length / 512))) L.length) (b : Bool) :
    qap ((w.setCell ⟨g, 1 + L.length % 512 / 8, none⟩ (.int .u8 ((qbe (L ++ [b]) (L.length / 8)).toNat : Int))).setCell ⟨g, 65, none⟩ (.int .i64 ((L.length + 1 : Nat) : Int))) g p (qb1 (L ++ [b]) (64 * (L.length / 512))) (L.length + 1) := by
 have h1 := h.setRest (L.length % 512 / 8) (.int .u8 ((qbe (L ++ [b]) (L.length / 8)).toNat : Int)) (by rw [qbn]; omega)
 rw [qvh L (64 * (L.length / 512)) (L.length % 512 / 8) _ (L ++ [b]) (by omega) (by congr 1; omega) (fun j hj hne => qip _ _ _ (by omega))] at h1
 exact h1.setCount (qbn _ _) (L.length + 1)
theorem qdh.step {w : World} {g : Nat} {L : List Bool} {p : Option Addr} (h : qdh w g L (L.length / 512) p) (b : Bool) : qdh w g (L ++ [b]) (L.length / 512) p :=
 h.ext fun j hj => qip _ _ _ (by omega)
theorem qav.more {w' : World} {g : Nat} {p : Option Addr} {L : List Bool} {b : Bool} (h : qap w' g p (qb1 (L ++ [b]) (64 * (L.length / 512))) (L.length + 1)) (hc : qdh w' g L (L.length / 512) p) (hn : ¬ (L.length + 1) % 512 = 0) : qav w' g (L ++ [b]) := by
 have e : (L ++ [b]).length = L.length + 1 := by simp
 refine ⟨p, ?_, ?_⟩
 · rw [e, show (L.length + 1) / 512 = L.length / 512 by omega]; exact h
 · rw [e, show (L.length + 1) / 512 = L.length / 512 by omega]; exact hc.step b
theorem qav.full {w' : World} {g B : Nat} {p : Option Addr} {L : List Bool} {b : Bool} (h : qap w' g (some ⟨B, 0, none⟩) qbj (L.length + 1)) (hB : B ≠ g) (hp : w'.heap[B]? = some (.cells (.pointer p :: qb1 (L ++ [b]) (64 * (L.length / 512))).toArray 134 (0, 0))) (hc : qdh w' g L (L.length / 512) p) (hn : (L.length + 1) % 512 = 0) : qav w' g (L ++ [b]) := by
 have e : (L ++ [b]).length = L.length + 1 := by simp
 refine ⟨some ⟨B, 0, none⟩, ?_, ?_⟩
 · rw [e, qkb _ _ (by rw [e]; omega)]; exact h
 · rw [e, show (L.length + 1) / 512 = L.length / 512 + 1 by omega]
   exact ⟨B, p, rfl, hB, hp, hc.step b⟩
theorem q0h (L : List Bool) (x : Nat) (hx : x < 4294967296) : bits .or .u8 ((qbe L (L.length / 8)).toNat : Int) (bits .and .u32 (x : Int) 1 % 256 * 2 ^ (L.length % 8) % 256) = ((qbe (L ++ [x.testBit 0]) (L.length / 8)).toNat : Int) := by
 have h8 : L.length % 8 < 8 := Nat.mod_lt _ (by decide)
 have hb := (qbe L (L.length / 8)).toNat_lt
 have ht : x % 2 * 2 ^ (L.length % 8) < 256 := by
  have := Nat.pow_lt_pow_right (a := 2) (by decide) h8
  rcases Nat.mod_two_eq_zero_or_one x with e | e <;> rw [e] <;> omega
 have e0 : bits .and .u32 (x : Int) 1 % 256 = ((x % 2 : Nat) : Int) := by
  rw [show (1 : Int) = ((1 : Nat) : Int) by rfl, u32_and_nat _ _ hx (by decide), nat_mask1]; omega
 have e : ((x % 2 : Nat) : Int) * 2 ^ (L.length % 8) % 256 = ((x % 2 * 2 ^ (L.length % 8) : Nat) : Int) := by
  have e1 : ((x % 2 * 2 ^ (L.length % 8) : Nat) : Int) = ((x % 2 : Nat) : Int) * 2 ^ (L.length % 8) := by simp
  rw [← e1]
  generalize x % 2 * 2 ^ (L.length % 8) = q at *
  omega
 have et : (x.testBit 0).toNat = x % 2 := by rw [Nat.toNat_testBit]; simp
 rw [qti, et, e0, e, u8_or_nat _ _ hb ht]
section
variable {P : Program} {ops : Array Oper} {Q : Exit → Act → World → Prop} {md : Region.Mode} {fuel : Nat} {l : Array Bool}
theorem armW {o : Oper} {a : Act} {w : World} {K : Act → World → Prop} {E : Prop} (hgd : o.guard = none) (h : Oper.wp P o a w K Q) :
    if Region.wanted o (yielded ops a.tmps) = true then Oper.wp P o a w K Q else E := by
 have hw : Region.wanted o (yielded ops a.tmps) = true := by simp [Region.wanted, hgd]
 rw [if_pos hw]
 exact h
theorem qax {o : Oper} {a : Act} {w : World} {K : Act → World → Prop} {E : Prop} (hgd : o.guard = none) (d : Option Tmp) (hd : o.dst = d) {v : Value} {w' : World}
    (hrun : (execOp a.eval o).run P w = .ok (.value v) w') (h : K (a.put d v) w') :
    if Region.wanted o (yielded ops a.tmps) = true then Oper.wp P o a w K Q else E := by
 subst hd
 refine armW hgd ?_
 unfold Oper.wp
 rw [hrun]
 exact h
theorem qg2 {o : Oper} {a : Act} {w : World} {K : Act → World → Prop} {E : Prop} (hgd : o.guard = none) (d : Option Tmp) (hd : o.dst = d)
    (f : FuncId) (args : Array Value) (hrun : ∀ w, (execOp a.eval o).run P w = .ok (.enter f args) w) {R : Value → World → Prop}
    (hc : Calls P f args w fun e w' => ∃ v, e = .returned v ∧ R v w') (h : ∀ v w', R v w' → K (a.put d v) w') :
    if Region.wanted o (yielded ops a.tmps) = true then Oper.wp P o a w K Q else E := by
 subst hd
 refine armW hgd ?_
 unfold Oper.wp
 rw [hrun w, Oper.upon_enter]
 refine hc.mono fun e w' hh => ?_
 obtain ⟨v, rfl, hR⟩ := hh
 exact h v w' hR
theorem qoc {o : Oper} {a : Act} {w : World} {K : Act → World → Prop} {E : Prop} (hgd : o.guard = none) (d : Tmp) (hd : o.dst = some d) (ty : TypeId) (x : Operand) (ho : o.op = .load ty x)
    (b off : Nat) (hx : a.eval x = .pointer (some ⟨b, off, none⟩)) (cs : List Value) (ds : TypeDesc) (hc : w.rangeAt b off cs) (hu : P.underlying ty = some ds) (hr : ds.isRow = true) (hi : (P.info? ty).map (·.size) = some cs.length) (h : K (a.put (some d) (.agg cs.toArray)) w) :
    if Region.wanted o (yielded ops a.tmps) = true then Oper.wp P o a w K Q else E :=
 armW hgd (wp_load_mid ty x ho b off hx cs ds hc hu hr hi (by rw [hd]; exact h))
theorem qod {o : Oper} {a : Act} {w : World} {K : Act → World → Prop} {E : Prop} (hgd : o.guard = none) (t' : Tmp) (hd' : o.dst = some t') (d s : Operand) (dT sT : TypeId)
    (ho : o.op = .call { callee := .builtin .copy, args := #[d, s], argTypes := #[dT, sT] }) (elem : TypeId) (hu : P.underlying dT = some (.slice elem)) (hsz : (P.info? elem).map (·.size) = some 1)
    (dp sp : Option Addr) (dLen dCap sLen sCap : Nat) (hd : a.eval d = .slice dp dLen dCap) (hs : a.eval s = .slice sp sLen sCap)
    (g off : Nat) (cur : List Value) (t : TypeId) (hg : w.heap[g]? = some (.cells cur.toArray t (0, 0))) (cs : List Value) (hn : cs.length = Nat.min sLen dLen)
    (hpos : 0 < cs.length → dp = some ⟨g, off, none⟩ ∧ ∃ ad, sp = some ad ∧ ∀ j v, cs[j]? = some v → w.cell? (ad.add j) = some v)
    (hfit : off + cs.length ≤ cur.length) (h1 : ∀ v ∈ cs, v.oneCell' = true) (B : Nat) (w0 : World) (hb : RowKit.Below B w0 w) (hBg : B ≤ g)
    (h : ∀ w', w'.heap[g]? = some (.cells (splice cur off cs).toArray t (0, 0)) → RowKit.Below B w0 w' → K (a.put (some t') (goInt cs.length)) w') :
    if Region.wanted o (yielded ops a.tmps) = true then Oper.wp P o a w K Q else E :=
 step_copy_splice hgd d s dT sT ho elem hu hsz dp sp dLen dCap sLen sCap hd hs g off cur t hg cs hn hpos hfit h1 B w0 hb hBg (fun w' q1 q2 => by rw [hd']; exact h w' q1.out q2)
theorem qaq {i : Nat} {oi : Oper} {fuel : Nat} {a : Act} {w : World} (hi : ops[i]? = some oi) (hs : Region.noSelect ops = true) (hf : Region.free md ops l i = true) (hr : (Region.ready md ops l).contains i = true)
    (hQ : ∀ c v a w, Q (.panic c) (a.put oi.dst v) w → Q (.panic c) a w) (d : Tmp) (hd : oi.dst = some d) (v : Value) (hy : Yields P ops oi v a) (h : wpAny P md ops Q fuel (l.setIfInBounds i true) (a.put (some d) v) w) : wpAny P md ops Q (fuel + 1) l a w :=
 wpAny_take (v := v) hi hs hf hr (fun c a w h => hQ c _ a w h) hy (by rw [hd]; exact h)
end
end Go.Proofs.YthkppipdflmekaaGreat
