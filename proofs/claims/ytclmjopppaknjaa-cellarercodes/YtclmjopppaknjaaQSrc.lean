/- A bitio.Source as it lies in memory, and the contracts of its inner method bit and of the helpers nearest, bytesFor. -/
import Derived.Test.YtclmjopppaknjaaRows
import Derived.Test.YtclmjopppaknjaaQBase
import Derived.Test.YtclmjopppaknjaaQGrow
import Derived.Test.YtclmjopppaknjaaQBitioM
import Derived.Test.YtclmjopppaknjaaQBsM
import Derived.WalkSmall
namespace Go.Proofs.Ytclmjopppaknjaa
open Go.RowKit
set_option linter.unusedVariables false

/-- The Source in block g: of the text s, p bits taken. -/
def SrcAt (w : World) (g : Nat) (s : ByteArray) (p : Nat) : Prop := w.heap[g]? = some (.cells #[.string s, .int .i64 (p : Int)] 115 (0, 0))
theorem SrcAt.lt {w : World} {g p : Nat} {s : ByteArray} (h : SrcAt w g s p) : g < w.heap.size := by
  rcases Nat.lt_or_ge g w.heap.size with hl | hl
  · exact hl
  · unfold SrcAt at h; rw [Array.getElem?_eq_none hl] at h; cases h
theorem SrcAt.kept {w w' : World} {g p : Nat} {s : ByteArray} {row : Option Nat} (h : SrcAt w g s p) (hg : w.grownBy w' row) (hne : some g ≠ row) : SrcAt w' g s p := (hg.block g h.lt hne).trans h
theorem SrcAt.below {w w' : World} {g p : Nat} {s : ByteArray} (h : SrcAt w g s p) (hb : Below w.heap.size w w') : SrcAt w' g s p := (hb.block g h.lt).trans h
theorem SrcAt.text {w : World} {g p : Nat} {s : ByteArray} (h : SrcAt w g s p) : w.cell? ⟨g, 0, none⟩ = some (.string s) := by rw [cell_of_row _ _ _ _ _ _ h]; rfl
theorem SrcAt.place {w : World} {g p : Nat} {s : ByteArray} (h : SrcAt w g s p) : w.cell? ⟨g, 1, none⟩ = some (.int .i64 (p : Int)) := by rw [cell_of_row _ _ _ _ _ _ h]; rfl
theorem SrcAt.free {w : World} {g p : Nat} {s : ByteArray} (h : SrcAt w g s p) (j : Nat) : w.frozen? ⟨g, j, none⟩ = false := frozen_of_row _ _ _ _ _ h
theorem SrcAt.set {w : World} {g p : Nat} {s : ByteArray} (h : SrcAt w g s p) (q : Nat) : SrcAt (w.setCell ⟨g, 1, none⟩ (.int .i64 (q : Int))) g s q := by
  unfold SrcAt; rw [heap_setCell_same _ _ _ _ _ _ h]; rfl
theorem SrcAt.drew {w : World} {g p : Nat} {s : ByteArray} (h : SrcAt w g s p) : SrcAt w.drew g s p := h
theorem SrcAt.drewN {w : World} {g p : Nat} {s : ByteArray} (h : SrcAt w g s p) (n : Nat) : SrcAt (w.drewN n) g s p := h

theorem ret_int {k : IntKind} {a b : Int} (h : a = b) : Ending.returned (.int k a) = .returned (.int k b) := by rw [h]
/-- Of the numbers 0 to m the one that is nearest to n. -/
def near (n m : Int) : Nat := (min (max n 0) m).toNat
theorem near_eq (n m : Int) (hm : 0 ≤ m) : (near n m : Int) = min (max n 0) m := by unfold near; omega
theorem near_le (n m : Int) : near n m ≤ m.toNat := by unfold near; omega
theorem nearest_any (n m : Int) (w : World) (hn : -9223372036854775808 ≤ n ∧ n ≤ 9223372036854775807) (hm : 0 ≤ m ∧ m ≤ 9223372036854775807) :
    Calls Try.prog 44 #[.int .i64 n, .int .i64 m] w fun e w' => e = .returned (.int .i64 (near n m : Int)) ∧ w' = w := by
  have HN : Hid ((near n m : Int) = min (max n 0) m) := near_eq n m hm.1
  go_enter Try.func44, Try.ntmps44
  go_wp2
  all_goals
    go_ret
    exact ⟨ret_int (by rw [HN.out]; omega), rfl⟩
theorem bytesFor_any (n : Nat) (w : World) (hn : n ≤ 9000000000000000000) :
    Calls Try.prog 46 #[.int .i64 (n : Int)] w fun e w' => e = .returned (.int .i64 (((n + 7) / 8 : Nat) : Int)) ∧ w' = w := by
  go_enter Try.func46, Try.ntmps46
  go_wp2
  go_ret
  exact ⟨rfl, rfl⟩
theorem bit_val (s : ByteArray) (p : Nat) (h : p / 8 < s.size) : bits BinOp.and IntKind.u32 ((s[p / 8].toNat : Int) / 2 ^ (p % 8) % 4294967296) 1 = ((sbit s.data.toList p).toNat : Int) := by
  have hb := s[p / 8].toNat_lt
  have hd : s[p / 8].toNat / 2 ^ (p % 8) < 256 := Nat.lt_of_le_of_lt (Nat.div_le_self _ _) hb
  have e : (s[p / 8].toNat : Int) / 2 ^ (p % 8) % 4294967296 = ((s[p / 8].toNat / 2 ^ (p % 8) : Nat) : Int) := by
    have e1 : ((s[p / 8].toNat / 2 ^ (p % 8) : Nat) : Int) = (s[p / 8].toNat : Int) / 2 ^ (p % 8) := by simp
    rw [← e1]
    generalize s[p / 8].toNat / 2 ^ (p % 8) = q at *
    omega
  have e2 : s.data.toList.getD (p / 8) 0 = s[p / 8] := by
    rw [List.getD_eq_getElem?_getD, List.getElem?_eq_getElem (by rw [size_toList]; exact h)]; rfl
  rw [e, show (1 : Int) = ((1 : Nat) : Int) by rfl, u32_and_nat _ _ (by omega) (by decide), nat_mask1]
  unfold sbit
  rw [e2, Nat.toNat_testBit]
set_option maxRecDepth 100000 in
set_option maxHeartbeats 400000 in
theorem bit_any (g : Nat) (s : ByteArray) (p : Nat) (w : World) (hS : SrcAt w g s p) (hs : s.size ≤ 140737488351232) (hp : p ≤ 4611686018427387904) :
    Calls Try.prog 64 #[.pointer (some ⟨g, 0, none⟩)] w fun e w' => e = .returned (.int .u32 ((sbit s.data.toList p).toNat : Int)) ∧ SrcAt w' g s (p + 1) ∧ w.grownBy w' (some g) := by
  have c1 := hS.place
  have c0 := hS.text
  have f1 := hS.free 1
  have HS : Hid (SrcAt (w.setCell ⟨g, 1, none⟩ (.int .i64 ((p + 1 : Nat) : Int))) g s (p + 1)) := hS.set (p + 1)
  have HG : Hid (w.grownBy (w.setCell ⟨g, 1, none⟩ (.int .i64 ((p + 1 : Nat) : Int))) (some g)) := gset (grefl w _) 1 _
  clear hS
  by_cases hlt : p / 8 < s.size
  · go_enter Try.func64, Try.ntmps64
    go_wp2
    go_ret
    refine ⟨ret_int ?_, HS.out, HG.out⟩
    exact bit_val s p hlt
  · have hb : sbit s.data.toList p = false := sbit_past _ _ (by rw [size_toList]; omega)
    go_enter Try.func64, Try.ntmps64
    go_wp2
    go_ret
    refine ⟨ret_int (by rw [hb]; rfl), HS.out, HG.out⟩
end Go.Proofs.Ytclmjopppaknjaa
