/- Contract of (*digest.Hash).Write. -/
import Derived.Test.YtlnagnkiadlfpaaDoorHashW
import Derived.Test.YtlnagnkiadlfpaaDoorOwnB
import Derived.Test.YtlnagnkiadlfpaaDoorRowM
namespace Go.Proofs.YtlnagnkiadlfpaaDoor
open Go.RowKit
attribute [local go_sem ↓] Go.wp_at_zero Go.wp_at_succ
set_option linter.unusedVariables false

theorem grown_setCells {w w1 : World} {g : Nat} (h : w.grownBy w1 (some g)) (o : Nat) (vs : List Value) (hg : g < w1.heap.size) : w.grownBy (w1.setCells g o vs) (some g) := by
  have hb := below_setCells (B := g) (a := w1) (Nat.le_refl g) vs o w1 (Below.refl _ w1)
  exact ⟨hb.os.trans h.os, hb.tape.trans h.tape, hb.output.trans h.output, Nat.le_trans h.size hb.size, fun k hk hne => by
    rw [heap_setCells_other g k (fun e => hne (by rw [e]))]; exact h.block k hk hne⟩
theorem grown_of_below {w w1 : World} {g : Nat} (h : Below w.heap.size w w1) : w.grownBy w1 (some g) := ⟨h.os, h.tape, h.output, h.size, fun k hk _ => h.block k hk⟩
theorem wpList_copy_string {P : Program} {w : World} {ops : Array Oper} {rest : List Oper} {o : Oper} {a : Act} {Q : Exit → Act → World → Prop}
    (hg : o.guard = none) (d x : Operand) (dT sT : TypeId) (hop : o.op = Op.call { callee := Callee.builtin Builtin.copy, args := #[d, x], argTypes := #[dT, sT] })
    (elem : TypeId) (hu : P.underlying dT = some (.slice elem)) (hz : ∀ w, (Go.sizeOf elem).run P w = .ok 1 w)
    (b off dLen dCap : Nat) (hd : a.eval d = .slice (some ⟨b, off, none⟩) dLen dCap) (l : List UInt8) (hx : a.eval x = .string (tx l)) (hle : l.length ≤ dLen)
    (hth : w.there b off l.length)
    (hK : ∀ n, wpList P ops Q rest (a.put o.dst n) (w.setCells b off (bc l))) : wpList P ops Q (o :: rest) a w := by
  refine wpList_plain hg fun K hK' => ?_
  have hrun := run_copy_string (P := P) w dT sT o.type elem b off dLen dCap (tx l) hu hz hle (fun j hj => (hth j hj).1) (fun j hj => (hth j hj).2)
  unfold Oper.wp
  simp [execOp, hop, resolve, invoke, builtin, hd, hx, hrun, Result.andThen]
  exact hK' _ _ (hK _)

/-- The eight words as cells. -/
def wc (s : S8) : List Value := s.list.map (fun x : Nat => Value.int .u32 (x : Int))
theorem wc_len (s : S8) : (wc s).length = 8 := rfl
theorem hc_eq (st : S8) (rs : List UInt8) (n : Nat) : hc st rs n = wc st ++ (bc rs ++ [.int .u64 (n : Int)]) := rfl
/-- A Hash whose fields are known. -/
def HC (w : World) (g : Nat) (st : S8) (rs : List UInt8) (n : Nat) : Prop := w.heap[g]? = some (.cells (hc st rs n).toArray 45 (0, 0)) ∧ rs.length = 64
theorem HC.lt {w : World} {g n : Nat} {st : S8} {rs : List UInt8} (h : HC w g st rs n) : g < w.heap.size := by
  rcases Nat.lt_or_ge g w.heap.size with hl | hl
  · exact hl
  · have := h.1; rw [Array.getElem?_eq_none hl] at this; cases this
theorem HC.there {w : World} {g n : Nat} {st : S8} {rs : List UInt8} (h : HC w g st rs n) (o m : Nat) (hm : o + m ≤ 73) : w.there g o m := fun j hj => by
  refine ⟨?_, frozen_of_row _ _ _ _ _ h.1⟩
  rw [cell_of_row _ _ _ _ _ _ h.1, Array.getElem?_eq_getElem (by rw [List.size_toArray, hc_len _ _ _ h.2]; omega)]; rfl
theorem HC.words {w : World} {g n : Nat} {st : S8} {rs : List UInt8} (h : HC w g st rs n) (st' : S8) : HC (w.setCells g 0 (wc st')) g st' rs n := by
  refine ⟨?_, h.2⟩
  have := heap_setCells g 45 (wc st') [] (wc st) (bc rs ++ [.int .u64 (n : Int)]) w rfl (by rw [List.nil_append, ← hc_eq]; exact h.1)
  rw [List.nil_append, ← hc_eq] at this
  exact this
theorem HC.size {w : World} {g n : Nat} {st : S8} {rs : List UInt8} (h : HC w g st rs n) : w.cell? ⟨g, 72, none⟩ = some (.int .u64 (n : Int)) := by
  rw [cell_of_row _ _ _ _ _ _ h.1]
  have := hc_size st rs n h.2
  simpa using this
theorem HC.free {w : World} {g n : Nat} {st : S8} {rs : List UInt8} (h : HC w g st rs n) (j : Nat) : w.frozen? ⟨g, j, none⟩ = false := frozen_of_row _ _ _ _ _ h.1
theorem HC.setSize {w : World} {g n : Nat} {st : S8} {rs : List UInt8} (h : HC w g st rs n) (m : Nat) : HC (w.setCell ⟨g, 72, none⟩ (.int .u64 (m : Int))) g st rs m := by
  refine ⟨?_, h.2⟩
  have := heap_setCells g 45 [.int .u64 (m : Int)] (wc st ++ bc rs) [.int .u64 (n : Int)] [] w rfl (by rw [List.append_nil, List.append_assoc, ← hc_eq]; exact h.1)
  have e : (wc st ++ bc rs).length = 72 := by rw [List.length_append, wc_len, bc_len, h.2]
  rw [e, List.append_nil, List.append_assoc, ← hc_eq] at this
  exact this
theorem HC.setSize' {w : World} {g n : Nat} {st : S8} {rs : List UInt8} (h : HC w g st rs n) (a b : Nat) : HC (w.setCell ⟨g, 72, none⟩ (.int .u64 ((a : Int) + (b : Int)))) g st rs (a + b) := by
  have := h.setSize (a + b)
  rwa [Int.natCast_add] at this
theorem HC.rest {w : World} {g n : Nat} {st : S8} {rs : List UInt8} (h : HC w g st rs n) (l : List UInt8) (hl : l.length ≤ 64) : HC (w.setCells g 8 (bc l)) g st (l ++ rs.drop l.length) n := by
  have h2 := h.2
  refine ⟨?_, by simp; omega⟩
  have e0 : bc rs = bc (rs.take l.length) ++ bc (rs.drop l.length) := by rw [← bc_append, List.take_append_drop]
  have := heap_setCells g 45 (bc l) (wc st) (bc (rs.take l.length)) (bc (rs.drop l.length) ++ [.int .u64 (n : Int)]) w (by rw [bc_len, bc_len]; simp; omega)
    (by rw [List.append_assoc, ← List.append_assoc (bc _) (bc _), ← e0, ← hc_eq]; exact h.1)
  rw [wc_len, List.append_assoc, ← List.append_assoc (bc l), ← bc_append, ← hc_eq] at this
  exact this

theorem HC.below {w w' : World} {g n : Nat} {st : S8} {rs : List UInt8} (h : HC w g st rs n) (hb : Below w.heap.size w w') : HC w' g st rs n :=
  ⟨by rw [hb.block g h.lt]; exact h.1, h.2⟩
theorem new_words {w w3 : World} {g n : Nat} {st M : S8} {rs : List UInt8} (hb : Below w.heap.size w w3) (h : HC w3 g st rs n) :
    Hid (((w3.alloc (.cells z8 42)).setRow w3.heap.size (wl M.list)).heap[w3.heap.size]? = some (.cells (wl M.list) 42 (0, 0))) ∧
    Hid (((w3.alloc (.cells z8 42)).setRow w3.heap.size (wl M.list)).there g 0 (wl M.list).size) ∧
    Hid (HC (((w3.alloc (.cells z8 42)).setRow w3.heap.size (wl M.list)).setCells g 0 (wl M.list).toList) g M rs n) ∧
    Hid (w.grownBy (((w3.alloc (.cells z8 42)).setRow w3.heap.size (wl M.list)).setCells g 0 (wl M.list).toList) (some g)) := by
  have hb4 : Below w3.heap.size w3 ((w3.alloc (.cells z8 42)).setRow w3.heap.size (wl M.list)) := below_setRow ((Below.refl _ w3).alloc (Nat.le_refl _) _) (Nat.le_refl _) _
  have h4 := h.below hb4
  refine ⟨setRow_heap _ _ _ _ _ _ (heap_alloc_new _ _), h4.there 0 _ (by rw [wl_size]; show 0 + 8 ≤ 73; omega), h4.words M, grown_setCells (grown_of_below (hb.trans (hb4.mono hb.size))) 0 _ h4.lt⟩

theorem after_copy {w W4 : World} {g n : Nat} {st : S8} {rs M2 : List UInt8} (a b : Nat) (HD : Hid (HC W4 g st rs n)) (HG : Hid (w.grownBy W4 (some g))) (HM2 : Hid (M2.length ≤ 64)) :
    Hid (HC ((W4.setCell ⟨g, 72, none⟩ (.int .u64 ((a : Int) + (b : Int)))).setCells g 8 (bc M2)) g st (M2 ++ rs.drop M2.length) (a + b)) ∧ Hid (w.grownBy ((W4.setCell ⟨g, 72, none⟩ (.int .u64 ((a : Int) + (b : Int)))).setCells g 8 (bc M2)) (some g)) := by
  have H5 := (HD.out.setSize' a b)
  have HG5 : w.grownBy (W4.setCell ⟨g, 72, none⟩ (.int .u64 ((a : Int) + (b : Int)))) (some g) := grown_setCells HG.out 72 [.int .u64 ((a : Int) + (b : Int))] HD.out.lt
  exact ⟨H5.rest M2 HM2.out, grown_setCells HG5 8 (bc M2) H5.lt⟩

set_option maxRecDepth 100000 in
set_option maxHeartbeats 1000000 in
theorem write_any (g : Nat) (t : List UInt8) (s : ByteArray) (w : World) (hH : HashAt w g t) (hb : t.length + s.size ≤ 140737488351232) (hR : Roots w) :
    Calls Tryd.prog 18 #[.pointer (some ⟨g, 0, none⟩), .string s] w fun e w' => e = .returned (.tuple #[]) ∧ HashAt w' g (t ++ s.data.toList) ∧ w.grownBy w' (some g) := by
  have hz := (zero_of_info Tryd.zero8).1
  go_enter Tryd.func18, Tryd.ntmps18
  go_wp2_with fail
  refine (mixed_any g t w hH (by omega)).mono ?_
  rintro e w1 ⟨rfl, hb1⟩
  go_wp2_with fail
  refine (pending_any g t w1 (hH.below hb1) (by omega)).mono ?_
  rintro e w2 ⟨rfl, hb2⟩
  have hp : (tx (mixL iv t).2).size < 64 := by rw [tx_size, mixL_left]; exact Nat.mod_lt _ (by decide)
  have hb2' : Below w.heap.size w w2 := hb1.trans (hb2.mono hb1.size)
  have hcall := mixAll_any (mixL iv t).1 (tx (mixL iv t).2 ++ s) w2 (mixL_ok _ _ iv_ok) (by rw [ByteArray.size_append]; omega) (hR.below hb2')
  have hmx : mixL (mixL iv t).1 (tx (mixL iv t).2 ++ s).data.toList = mixL iv (t ++ s.data.toList) := by
    rw [mixL_append, ByteArray.data_append, Array.toList_append]; rfl
  rw [hmx] at hcall
  have hH2 := hH.below hb2'
  have hpe : (mixL iv (t ++ s.data.toList)).2.length = (t.length + s.size) % 64 := by rw [mixL_left, List.length_append, size_data]
  have HE : Hid (HashAt _ _ _) := hH2
  have HF : Hid (∀ w3 rs, HC w3 g (mixL iv (t ++ s.data.toList)).1 ((mixL iv (t ++ s.data.toList)).2 ++ rs) (t.length + s.size) → HashAt w3 g (t ++ s.data.toList)) := by
    intro w3 rs h3
    have e : (t ++ s.data.toList).length = t.length + s.size := by rw [List.length_append, size_data]
    refine ⟨_, _, by rw [e]; exact h3.1, h3.2, fun _ => rfl, ?_⟩
    rw [e, ← hpe, List.take_left]
  clear hb1 hb2 hH hH2 hmx
  generalize tx (mixL iv t).2 = pt at *
  generalize wl (mixL iv t).1.list = ws at *
  generalize mixL iv (t ++ s.data.toList) = M at *
  obtain ⟨M1, M2⟩ := M
  simp only at hcall hpe HF
  go_wp2_with fail
  refine hcall.mono ?_
  rintro e w3 ⟨rfl, hb3⟩
  clear hcall
  obtain ⟨st, rs, hI⟩ := HE.out.below hb3
  have HB : Hid (Below w.heap.size w w3) := hb2'.trans (hb3.mono hb2'.size)
  have HC3 : Hid (HC w3 g st rs t.length) := ⟨hI.1, hI.2.1⟩
  clear HE hI hb3 hb2' hR
  have HI : Hid _ := i8_of M1
  have HO : Hid _ := z8_of M1
  have H1 : Hid _ := wl_one M1.list
  obtain ⟨HRW, HTH, HD, HG⟩ := new_words (M := M1) HB.out HC3.out
  have HM2 : Hid (M2.length ≤ 64) := by show M2.length ≤ 64; omega
  have HM3 : Hid (8 + M2.length ≤ 73) := by show 8 + M2.length ≤ 73; omega
  have hs := HD.out.size
  have hf := HD.out.free 72
  have hn1 : IntKind.u64.wrap ((t.length : Int) + (s.size : Int)) = ((t.length + s.size : Nat) : Int) := by simp [IntKind.wrap, IntKind.bits, IntKind.signed]; omega
  go_wp2_with (first | refine wpList_store_row rfl 42 _ _ rfl w3.heap.size (wl M1.list) rfl rfl 42 _ (heap_alloc_new _ _) HI.out HO.out H1.out ?_ | refine wpList_load_row rfl 42 _ rfl w3.heap.size rfl 42 (wl M1.list) (0, 0) _ HRW.out Tryd.underlying42 rfl HI.out ?_ | (refine wpList_store_mid rfl 42 _ _ rfl g 0 (wl M1.list) rfl rfl HTH.out HI.out H1.out ?_; generalize World.setCells _ g 0 _ = W4 at *) | (guard_hyp W4 : World; refine wpList_copy_string rfl _ _ 40 9 rfl 5 Tryd.underlying40 Tryd.sizeOf5 g 8 64 64 rfl M2 rfl HM2.out ((HD.out.setSize' t.length s.size).there 8 _ HM3.out) ?_; intro nn; obtain ⟨H6, HG6⟩ := after_copy t.length s.size HD HG HM2; generalize World.setCells _ g 8 _ = W6 at *))
  exact bodyPost_end (results_none rfl _ _ _) rfl ⟨rfl, HF.out _ _ H6.out, HG6.out⟩
end Go.Proofs.YtlnagnkiadlfpaaDoor
