/- A huff.Tree as it lies in memory. -/
import Derived.Test.YthkppipdflmekaaQTreeM
import Derived.Test.YthkppipdflmekaaQBitioM
import Derived.Laws.OwnMore
import Derived.Deep.AppendLies
import Derived.OneCell
namespace Go.Proofs.Ythkppipdflmekaa
open Go.RowKit
set_option linter.unusedVariables false

/-- The branchings as cells: bit 0, bit 1. -/
def trC (br : Nat → Bool → Int) (n : Nat) : List Value := (List.range (n * 2)).map fun j => .int .i64 (br (j / 2) (j % 2 == 1))
theorem trC_len (br : Nat → Bool → Int) (n : Nat) : (trC br n).length = n * 2 := by simp [trC]
theorem trC_at (br : Nat → Bool → Int) (n u : Nat) (b : Bool) (hu : u < n) : (trC br n)[u * 2 + b.toNat]? = some (.int .i64 (br u b)) := by
  have hb : b.toNat < 2 := Bool.toNat_lt b
  unfold trC
  rw [List.getElem?_map, List.getElem?_range (by omega)]
  simp only [Option.map_some]
  rw [show (u * 2 + b.toNat) / 2 = u by omega, show (u * 2 + b.toNat) % 2 = b.toNat by omega]
  cases b <;> rfl
theorem trC_set (br : Nat → Bool → Int) (n u : Nat) (b : Bool) (x : Int) (hu : u < n) : (trC br n).set (u * 2 + b.toNat) (.int .i64 x) = trC (setBr br u b x) n := by
  have hb : b.toNat < 2 := Bool.toNat_lt b
  apply List.ext_getElem?
  intro j
  by_cases hj : j < n * 2
  · rw [List.getElem?_set]
    by_cases e : u * 2 + b.toNat = j
    · subst e
      rw [if_pos rfl, if_pos (by rw [trC_len]; omega), trC_at _ _ _ _ hu]
      unfold setBr; rw [if_pos ⟨rfl, rfl⟩]
    · rw [if_neg e]
      unfold trC
      rw [List.getElem?_map, List.getElem?_map, List.getElem?_range hj]
      simp only [Option.map_some]
      unfold setBr
      rw [if_neg]
      rintro ⟨h1, h2⟩
      apply e
      rw [← h1, ← h2]
      rcases Nat.mod_two_eq_zero_or_one j with h | h <;> simp [h] <;> omega
  · rw [List.getElem?_eq_none (by rw [List.length_set, trC_len]; omega), List.getElem?_eq_none (by rw [trC_len]; omega)]
theorem trC_more (br : Nat → Bool → Int) (n : Nat) (h : ∀ c, br n c = 0) : trC br n ++ [.int .i64 0, .int .i64 0] = trC br (n + 1) := by
  unfold trC
  rw [show (n + 1) * 2 = n * 2 + 1 + 1 by omega, List.range_succ, List.range_succ, List.map_append, List.map_append]
  simp only [List.map_cons, List.map_nil, List.append_assoc, List.cons_append, List.nil_append]
  rw [show n * 2 / 2 = n by omega, show (n * 2 + 1) / 2 = n by omega, h, h]
/-- The tree in block gt, its branchings in block gb. -/
structure TreeIn (w : World) (B gt gb cap n : Nat) (br : Nat → Bool → Int) : Prop where
  top : w.heap[gt]? = some (.cells #[.slice (some ⟨gb, 0, none⟩) n cap] 125 (0, 0))
  low : B ≤ gt
  row : w.ownsRow B 122 2 (.slice (some ⟨gb, 0, none⟩) n cap) n (trC br n)
def TreeAt (w : World) (B gt n : Nat) (br : Nat → Bool → Int) : Prop := ∃ gb cap, TreeIn w B gt gb cap n br
theorem TreeIn.ne {w : World} {B gt gb cap n k : Nat} {br : Nat → Bool → Int} {c : Array Value} {t : TypeId} (h : TreeIn w B gt gb cap n br) (hk : w.heap[k]? = some (.cells c t (0, 0))) (ht : t ≠ 122) : k ≠ gb := by
  rcases h.row.2 with ⟨h', _⟩ | ⟨g', cap', cur, h', _, hg, _⟩
  · simp at h'
  · simp only [Value.slice.injEq, Option.some.injEq, Addr.mk.injEq, and_true, true_and] at h'
    obtain ⟨rfl, rfl⟩ := h'
    rintro rfl
    rw [hk] at hg
    simp only [Option.some.injEq, Obj.cells.injEq] at hg
    exact ht hg.2.1
theorem TreeIn.ne0 {w : World} {B gt gb cap n : Nat} {br : Nat → Bool → Int} (h : TreeIn w B gt gb cap n br) : gt ≠ gb := h.ne h.top (by decide)
theorem TreeIn.top0 {w : World} {B gt gb cap n : Nat} {br : Nat → Bool → Int} (h : TreeIn w B gt gb cap n br) : w.cell? ⟨gt, 0, none⟩ = some (.slice (some ⟨gb, 0, none⟩) n cap) := by rw [cell_of_row _ _ _ _ _ _ h.top]; rfl
theorem TreeIn.free0 {w : World} {B gt gb cap n : Nat} {br : Nat → Bool → Int} (h : TreeIn w B gt gb cap n br) : w.frozen? ⟨gt, 0, none⟩ = false := frozen_of_row _ _ _ _ _ h.top
theorem TreeIn.at {w : World} {B gt gb cap n u : Nat} {b : Bool} {br : Nat → Bool → Int} (h : TreeIn w B gt gb cap n br) (hu : u < n) : w.cell? ⟨gb, u * 2 + b.toNat, none⟩ = some (.int .i64 (br u b)) := by
  have hb : b.toNat < 2 := Bool.toNat_lt b
  rw [h.row.cellAt _ (by omega), trC_at _ _ _ _ hu]
theorem TreeIn.set {w : World} {B gt gb cap n u : Nat} {b : Bool} {br : Nat → Bool → Int} (h : TreeIn w B gt gb cap n br) (x : Int) (hu : u < n) : TreeIn (w.setCell ⟨gb, u * 2 + b.toNat, none⟩ (.int .i64 x)) B gt gb cap n (setBr br u b x) :=
  ⟨by rw [heap_setCell_other _ _ _ _ h.ne0]; exact h.top, h.low, by have := (h.row.stored (u * 2 + b.toNat) (.int .i64 x)).1; rwa [trC_set _ _ _ _ _ hu] at this⟩
theorem TreeIn.drew {w : World} {B gt gb cap n : Nat} {br : Nat → Bool → Int} (h : TreeIn w B gt gb cap n br) : TreeIn w.drew B gt gb cap n br := ⟨h.top, h.low, h.row⟩
theorem TreeIn.lowb {w : World} {B gt gb cap n : Nat} {br : Nat → Bool → Int} (h : TreeIn w B gt gb cap n br) : B ≤ gb := (h.row.lt gb rfl).1
theorem TreeIn.ltb {w : World} {B gt gb cap n : Nat} {br : Nat → Bool → Int} (h : TreeIn w B gt gb cap n br) : gb < w.heap.size := (h.row.lt gb rfl).2
theorem TreeIn.lt {w : World} {B gt gb cap n : Nat} {br : Nat → Bool → Int} (h : TreeIn w B gt gb cap n br) : gt < w.heap.size := (Array.getElem?_eq_some_iff.1 h.top).1
theorem TreeIn.kept {w w' : World} {B gt gb cap n : Nat} {br : Nat → Bool → Int} (h : TreeIn w B gt gb cap n br) (hb : Below w.heap.size w w') : TreeIn w' B gt gb cap n br := by
  refine ⟨(hb.block gt h.lt).trans h.top, h.low, h.row.1, ?_⟩
  rcases h.row.2 with h' | ⟨g', cap', cur, h', hl, hg, rest⟩
  · exact .inl h'
  · exact .inr ⟨g', cap', cur, h', hl, (hb.block g' (Array.getElem?_eq_some_iff.1 hg).1).trans hg, rest⟩
theorem TreeAt.kept {w w' : World} {B gt n : Nat} {br : Nat → Bool → Int} (h : TreeAt w B gt n br) (hb : Below w.heap.size w w') : TreeAt w' B gt n br := by
  obtain ⟨gb, cap, h⟩ := h; exact ⟨gb, cap, h.kept hb⟩
/-- A branching more: what the append leaves, and the store of the longer row. -/
theorem TreeIn.more {w w1 : World} {B gt gb cap n : Nat} {br : Nat → Bool → Int} {o : Obj} {v : Value} (h : TreeIn w B gt gb cap n br) (hz : ∀ c, br n c = 0) (hg : (w.alloc o).grownBy w1 (some gb))
    (hown : w1.ownsRow B 122 2 v (n + 1) (trC br n ++ [.int .i64 0, .int .i64 0])) : ∃ gb' cap', v = .slice (some ⟨gb', 0, none⟩) (n + 1) cap' ∧ TreeIn (w1.setCell ⟨gt, 0, none⟩ v) B gt gb' cap' (n + 1) br := by
  rw [trC_more _ _ hz] at hown
  obtain ⟨gb', cap', rfl, hl, hlt⟩ := hown.form (by omega)
  have ht : w1.heap[gt]? = some (.cells #[.slice (some ⟨gb, 0, none⟩) n cap] 125 (0, 0)) := by
    rw [hg.block gt (by rw [World.size_alloc]; exact Nat.lt_succ_of_lt h.lt) (fun e => h.ne0 (by cases e; rfl)), heap_alloc_old _ _ h.lt]; exact h.top
  have hne : gb' ≠ gt := by
    rcases hown.2 with ⟨h', _⟩ | ⟨g', cap', cur, h', _, hgg, _⟩
    · simp at h'
    · simp only [Value.slice.injEq, Option.some.injEq, Addr.mk.injEq, and_true, true_and] at h'
      obtain ⟨rfl, rfl⟩ := h'
      rintro rfl
      rw [ht] at hgg
      simp only [Option.some.injEq, Obj.cells.injEq] at hgg
      exact absurd hgg.2.1 (by decide)
  refine ⟨gb', cap', rfl, ?_, h.low, ownsRow_setCell_other hown (by simp [Value.ownBlock, hne]) _⟩
  rw [heap_setCell_same _ _ _ _ _ _ ht]; rfl
/-- The bit that a code has at a place, as the program takes it. -/
theorem bit_of (x i : Nat) (hx : x < 4294967296) : bits .and .u32 ((x : Int) / 2 ^ i) 1 = ((x.testBit i).toNat : Int) := by
  have e : (x : Int) / 2 ^ i = ((x / 2 ^ i : Nat) : Int) := by simp
  have hlt : x / 2 ^ i < 4294967296 := Nat.lt_of_le_of_lt (Nat.div_le_self _ _) hx
  rw [e, show (1 : Int) = ((1 : Nat) : Int) by rfl, u32_and_nat _ _ hlt (by decide), Nat.and_one_is_mod, Nat.toNat_testBit]
theorem codeS_take (ns : List Nat) (s k : Nat) (hk : k < ln ns s) : (codeS ns s).take k ++ [(cdOf ns s).testBit (ln ns s - 1 - k)] = (codeS ns s).take (k + 1) := by
  rw [List.take_add_one]
  congr 1
  unfold codeS highB
  rw [List.getElem?_map, List.getElem?_range hk]
  rfl
end Go.Proofs.Ythkppipdflmekaa
