/- A bitio.Sink as it lies in memory, and the contract of its inner method bit. -/
import Derived.Test.YtbknflckdbfogaaGreatQPutA
import Derived.Deep.WholeRow
import Derived.Deep.MidRow
import Derived.Deep.QuietTactic
import Derived.BigQuiet
import Derived.Deep.DrawnRows
import Derived.Deep.DeepCutAuto
namespace Go.Proofs.YtbknflckdbfogaaGreat
open Go.RowKit
attribute [local go_sem ↓] Go.wp_at_zero Go.wp_at_succ
set_option linter.unusedVariables false

/-- The cells of a piece: where the one ahead lies, and bytes 64 m .. of L. -/
def pieceC (p : Option Addr) (L : List Bool) (m : Nat) : Array Value := (.pointer p :: restC L (64 * m)).toArray
/-- m pieces, the last one at p, none in block g. -/
def Chain (w : World) (g : Nat) (L : List Bool) : Nat → Option Addr → Prop
  | 0, p => p = none
  | m + 1, p => ∃ b p', p = some ⟨b, 0, none⟩ ∧ b ≠ g ∧ w.heap[b]? = some (.cells (pieceC p' L m) 135 (0, 0)) ∧ Chain w g L m p'
theorem lt_of_some {w : World} {b : Nat} {o : Obj} (h : w.heap[b]? = some o) : b < w.heap.size := by
  rcases Nat.lt_or_ge b w.heap.size with hl | hl
  · exact hl
  · rw [Array.getElem?_eq_none hl] at h; cases h
theorem Chain.kept {w w' : World} {g : Nat} {L : List Bool} (hg : w.grownBy w' (some g)) : ∀ {m : Nat} {p : Option Addr}, Chain w g L m p → Chain w' g L m p
  | 0, _, h => h
  | m + 1, p, ⟨b, p', h1, h2, h3, h4⟩ => ⟨b, p', h1, h2, (hg.block b (lt_of_some h3) (fun e => h2 (by cases e; rfl))).trans h3, Chain.kept hg h4⟩
theorem Chain.ext {w : World} {g : Nat} {L M : List Bool} : ∀ {m : Nat} {p : Option Addr}, (∀ j, j < 64 * m → packB M j = packB L j) → Chain w g L m p → Chain w g M m p
  | 0, _, _, h => h
  | m + 1, p, he, ⟨b, p', h1, h2, h3, h4⟩ => ⟨b, p', h1, h2, by
      have : pieceC p' M m = pieceC p' L m := by unfold pieceC; rw [restC_congr (L := M) (M := L) (k := 64 * m) (m := 64 * m) (fun j hj => he _ (by omega))]
      rw [this]; exact h3, Chain.ext (fun j hj => he j (by omega)) h4⟩
/-- The cells of a Sink. -/
def snkC (p : Option Addr) (rs : List Value) (n : Nat) : Array Value := (.pointer p :: (rs ++ [.int .i64 (n : Int)])).toArray
theorem snkC_size (p : Option Addr) (rs : List Value) (n : Nat) (h : rs.length = 64) : (snkC p rs n).size = 66 := by simp [snkC, h]
theorem snkC_ptr (p : Option Addr) (rs : List Value) (n : Nat) : (snkC p rs n)[0]? = some (.pointer p) := by simp [snkC]
theorem snkC_rest (p : Option Addr) (rs : List Value) (n j : Nat) (hj : j < rs.length) : (snkC p rs n)[1 + j]? = rs[j]? := by
  simp [snkC, Nat.add_comm 1 j, List.getElem?_append_left hj]
theorem snkC_count (p : Option Addr) (rs : List Value) (n : Nat) (h : rs.length = 64) : (snkC p rs n)[65]? = some (.int .i64 (n : Int)) := by
  simp [snkC, h]
theorem snkC_set (p : Option Addr) (rs : List Value) (n j : Nat) (v : Value) (hj : j < rs.length) : (snkC p rs n).setIfInBounds (1 + j) v = snkC p (rs.set j v) n := by
  apply Array.ext'
  rw [Array.toList_setIfInBounds]
  simp [snkC, Nat.add_comm 1 j, hj]
theorem snkC_setCount (p : Option Addr) (rs : List Value) (n m : Nat) (h : rs.length = 64) : (snkC p rs n).setIfInBounds 65 (.int .i64 (m : Int)) = snkC p rs m := by
  apply Array.ext'
  rw [Array.toList_setIfInBounds]
  simp [snkC, h]
theorem snkC_setPtr (p q : Option Addr) (rs : List Value) (n : Nat) : (snkC p rs n).setIfInBounds 0 (.pointer q) = snkC q rs n := by
  apply Array.ext'
  rw [Array.toList_setIfInBounds]
  simp [snkC]
/-- The Sink in block g: these bits were put. -/
def SinkIn (w : World) (g : Nat) (p : Option Addr) (rs : List Value) (n : Nat) : Prop := w.heap[g]? = some (.cells (snkC p rs n) 66 (0, 0))
def SinkAt (w : World) (g : Nat) (L : List Bool) : Prop := ∃ p, SinkIn w g p (restC L (64 * (L.length / 512))) L.length ∧ Chain w g L (L.length / 512) p
theorem SinkIn.lt {w : World} {g n : Nat} {p : Option Addr} {rs : List Value} (h : SinkIn w g p rs n) : g < w.heap.size := lt_of_some h
theorem SinkAt.lt {w : World} {g : Nat} {L : List Bool} (h : SinkAt w g L) : g < w.heap.size := by obtain ⟨p, h, _⟩ := h; exact h.lt
theorem SinkIn.free {w : World} {g n : Nat} {p : Option Addr} {rs : List Value} (h : SinkIn w g p rs n) (j : Nat) : w.frozen? ⟨g, j, none⟩ = false := frozen_of_row _ _ _ _ _ h
theorem SinkIn.ptr {w : World} {g n : Nat} {p : Option Addr} {rs : List Value} (h : SinkIn w g p rs n) : w.cell? ⟨g, 0, none⟩ = some (.pointer p) := by rw [cell_of_row _ _ _ _ _ _ h, snkC_ptr]
theorem SinkIn.count {w : World} {g n : Nat} {p : Option Addr} {rs : List Value} (h : SinkIn w g p rs n) (hl : rs.length = 64) : w.cell? ⟨g, 65, none⟩ = some (.int .i64 (n : Int)) := by rw [cell_of_row _ _ _ _ _ _ h, snkC_count _ _ _ hl]
theorem SinkIn.rest {w : World} {g n : Nat} {p : Option Addr} {rs : List Value} (h : SinkIn w g p rs n) (j : Nat) (hj : j < rs.length) : w.cell? ⟨g, 1 + j, none⟩ = rs[j]? := by rw [cell_of_row _ _ _ _ _ _ h, snkC_rest _ _ _ _ hj]
theorem SinkIn.range {w : World} {g n : Nat} {p : Option Addr} {rs : List Value} (h : SinkIn w g p rs n) : w.rangeAt g 1 rs := fun j v hv => by
  rw [h.rest j (List.getElem?_eq_some_iff.1 hv).1]; exact hv
theorem SinkIn.setRest {w : World} {g n : Nat} {p : Option Addr} {rs : List Value} (h : SinkIn w g p rs n) (j : Nat) (v : Value) (hj : j < rs.length) : SinkIn (w.setCell ⟨g, 1 + j, none⟩ v) g p (rs.set j v) n := by
  unfold SinkIn; rw [heap_setCell_same _ _ _ _ _ _ h, snkC_set _ _ _ _ _ hj]
theorem SinkIn.setCount {w : World} {g n : Nat} {p : Option Addr} {rs : List Value} (h : SinkIn w g p rs n) (hl : rs.length = 64) (m : Nat) : SinkIn (w.setCell ⟨g, 65, none⟩ (.int .i64 (m : Int))) g p rs m := by
  unfold SinkIn; rw [heap_setCell_same _ _ _ _ _ _ h, snkC_setCount _ _ _ _ hl]
theorem SinkIn.setPtr {w : World} {g n : Nat} {p : Option Addr} {rs : List Value} (h : SinkIn w g p rs n) (q : Option Addr) : SinkIn (w.setCell ⟨g, 0, none⟩ (.pointer q)) g q rs n := by
  unfold SinkIn; rw [heap_setCell_same _ _ _ _ _ _ h, snkC_setPtr]
theorem SinkIn.drew {w : World} {g n : Nat} {p : Option Addr} {rs : List Value} (h : SinkIn w g p rs n) : SinkIn w.drew g p rs n := h
theorem SinkIn.alloc {w : World} {g n : Nat} {p : Option Addr} {rs : List Value} (h : SinkIn w g p rs n) (o : Obj) : SinkIn (w.alloc o) g p rs n := by
  unfold SinkIn; rw [heap_alloc_old _ _ h.lt]; exact h
theorem SinkAt.below {w w' : World} {g : Nat} {L : List Bool} (h : SinkAt w g L) (hb : Below w.heap.size w w') : SinkAt w' g L := by
  have hl := h.lt
  obtain ⟨p, h1, h2⟩ := h
  exact ⟨p, (hb.block g hl).trans h1, h2.kept (gbelow hb)⟩
theorem SinkAt.drew {w : World} {g : Nat} {L : List Bool} (h : SinkAt w g L) : SinkAt w.drew g L := by
  obtain ⟨p, h1, h2⟩ := h
  exact ⟨p, h1, h2.kept (gdrew (grefl w _))⟩
theorem SinkAt.drewN {w : World} {g : Nat} {L : List Bool} (h : SinkAt w g L) (n : Nat) : SinkAt (w.drewN n) g L := by
  obtain ⟨p, h1, h2⟩ := h
  exact ⟨p, h1, h2.kept (gdrewN (grefl w _) n)⟩
/-- A bit behind the others: the byte that it goes into, and the count. -/
theorem SinkIn.step {w : World} {g : Nat} {p : Option Addr} {L : List Bool} (h : SinkIn w g p (restC L (64 * (L.length / 512))) L.length) (b : Bool) :
    SinkIn ((w.setCell ⟨g, 1 + L.length % 512 / 8, none⟩ (.int .u8 ((packB (L ++ [b]) (L.length / 8)).toNat : Int))).setCell ⟨g, 65, none⟩ (.int .i64 ((L.length + 1 : Nat) : Int))) g p (restC (L ++ [b]) (64 * (L.length / 512))) (L.length + 1) := by
  have h1 := h.setRest (L.length % 512 / 8) (.int .u8 ((packB (L ++ [b]) (L.length / 8)).toNat : Int)) (by rw [restC_len]; omega)
  rw [restC_set L (64 * (L.length / 512)) (L.length % 512 / 8) _ (L ++ [b]) (by omega) (by congr 1; omega) (fun j hj hne => packB_other _ _ _ (by omega))] at h1
  exact h1.setCount (restC_len _ _) (L.length + 1)
theorem Chain.step {w : World} {g : Nat} {L : List Bool} {p : Option Addr} (h : Chain w g L (L.length / 512) p) (b : Bool) : Chain w g (L ++ [b]) (L.length / 512) p :=
  h.ext fun j hj => packB_other _ _ _ (by omega)
/-- A last bit, where the rest isn't full then. -/
theorem SinkAt.more {w' : World} {g : Nat} {p : Option Addr} {L : List Bool} {b : Bool} (h : SinkIn w' g p (restC (L ++ [b]) (64 * (L.length / 512))) (L.length + 1)) (hc : Chain w' g L (L.length / 512) p) (hn : ¬ (L.length + 1) % 512 = 0) : SinkAt w' g (L ++ [b]) := by
  have e : (L ++ [b]).length = L.length + 1 := by simp
  refine ⟨p, ?_, ?_⟩
  · rw [e, show (L.length + 1) / 512 = L.length / 512 by omega]; exact h
  · rw [e, show (L.length + 1) / 512 = L.length / 512 by omega]; exact hc.step b
/-- A last bit, where the rest is full then: it became a piece. -/
theorem SinkAt.full {w' : World} {g B : Nat} {p : Option Addr} {L : List Bool} {b : Bool} (h : SinkIn w' g (some ⟨B, 0, none⟩) noughts64 (L.length + 1)) (hB : B ≠ g) (hp : w'.heap[B]? = some (.cells (.pointer p :: restC (L ++ [b]) (64 * (L.length / 512))).toArray 135 (0, 0))) (hc : Chain w' g L (L.length / 512) p) (hn : (L.length + 1) % 512 = 0) : SinkAt w' g (L ++ [b]) := by
  have e : (L ++ [b]).length = L.length + 1 := by simp
  refine ⟨some ⟨B, 0, none⟩, ?_, ?_⟩
  · rw [e, restC_past _ _ (by rw [e]; omega)]; exact h
  · rw [e, show (L.length + 1) / 512 = L.length / 512 + 1 by omega]
    exact ⟨B, p, rfl, hB, hp, hc.step b⟩
theorem bit8_val (L : List Bool) (x : Nat) (hx : x < 4294967296) : bits .or .u8 ((packB L (L.length / 8)).toNat : Int) (bits .and .u32 (x : Int) 1 % 256 * 2 ^ (L.length % 8) % 256) = ((packB (L ++ [x.testBit 0]) (L.length / 8)).toNat : Int) := by
  have h8 : L.length % 8 < 8 := Nat.mod_lt _ (by decide)
  have hb := (packB L (L.length / 8)).toNat_lt
  have ht : x % 2 * 2 ^ (L.length % 8) < 256 := by
    have := Nat.pow_lt_pow_right (a := 2) (by decide) h8
    rcases Nat.mod_two_eq_zero_or_one x with e | e <;> rw [e] <;> omega
  have e0 : bits .and .u32 (x : Int) 1 % 256 = ((x % 2 : Nat) : Int) := by
    rw [show (1 : Int) = ((1 : Nat) : Int) by rfl, u32_and_nat _ _ hx (by decide), nat_mask1]; omega
  have e : ((x % 2 : Nat) : Int) * 2 ^ (L.length % 8) % 256 = ((x % 2 * 2 ^ (L.length % 8) : Nat) : Int) := by
    have e1 : ((x % 2 * 2 ^ (L.length % 8) : Nat) : Int) = ((x % 2 : Nat) : Int) * 2 ^ (L.length % 8) := by simp
    rw [← e1]
    generalize x % 2 * 2 ^ (L.length % 8) = q at *
    omega
  have et : (x.testBit 0).toNat = x % 2 := by rw [Nat.toNat_testBit]; simp
  rw [packB_same, et, e0, e, u8_or_nat _ _ hb ht]
end Go.Proofs.YtbknflckdbfogaaGreat
