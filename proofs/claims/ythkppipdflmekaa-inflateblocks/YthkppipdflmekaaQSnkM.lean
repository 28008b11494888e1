/- A bitio.Source as it lies in memory, and the contracts of its inner method bit and of the helpers nearest, bytesFor. The element type 'byte', in one closed fact. Contract of the law's own Few: at most n bytes of a text. The bytes of a row of bits that grows: plain mathematics, no program. -/
import Derived.Test.YthkppipdflmekaaRows
import Derived.Test.YthkppipdflmekaaQBitioM
import Derived.Test.YthkppipdflmekaaQMatchM
import Derived.WalkSmall
namespace Go.Proofs.Ythkppipdflmekaa
open Go.RowKit
set_option linter.unusedVariables false

/-- The Source in block g: of the text s, p bits taken. -/
def SrcAt (w : World) (g : Nat) (s : ByteArray) (p : Nat) : Prop := w.heap[g]? = some (.cells #[.string s, .int .i64 (p : Int)] 75 (0, 0))
theorem SrcAt.lt {w : World} {g p : Nat} {s : ByteArray} (h : SrcAt w g s p) : g < w.heap.size := by
  rcases Nat.lt_or_ge g w.heap.size with hl | hl
  · exact hl
  · unfold SrcAt at h; rw [Array.getElem?_eq_none hl] at h; cases h
theorem SrcAt.kept {w w' : World} {g p : Nat} {s : ByteArray} {row : Option Nat} (h : SrcAt w g s p) (hg : w.grownBy w' row) (hne : some g ≠ row) : SrcAt w' g s p := (hg.block g h.lt hne).trans h
theorem SrcAt.below {w w' : World} {g p : Nat} {s : ByteArray} (h : SrcAt w g s p) (hb : Below w.heap.size w w') : SrcAt w' g s p := (hb.block g h.lt).trans h
theorem SrcAt.text {w : World} {g p : Nat} {s : ByteArray} (h : SrcAt w g s p) : w.cell? ⟨g, 0, none⟩ = some (.string s) := by rw [cell_of_row _ _ _ _ _ _ h]; rfl
theorem SrcAt.place {w : World} {g p : Nat} {s : ByteArray} (h : SrcAt w g s p) : w.cell? ⟨g, 1, none⟩ = some (.int .i64 (p : Int)) := by rw [cell_of_row _ _ _ _ _ _ h]; rfl
theorem SrcAt.free {w : World} {g p : Nat} {s : ByteArray} (h : SrcAt w g s p) (j : Nat) : w.frozen? ⟨g, j, none⟩ = false := frozen_of_row _ _ _ _ _ h
theorem SrcAt.set {w : World} {g p : Nat} {s : ByteArray} (h : SrcAt w g s p) (q : Nat) : SrcAt (w.setCell ⟨g, 1, none⟩ (.int .i64 (q : Int))) g s q := by
  unfold SrcAt; rw [heap_setCell_same _ _ _ _ _ _ h]; rfl
theorem SrcAt.drew {w : World} {g p : Nat} {s : ByteArray} (h : SrcAt w g s p) : SrcAt w.drew g s p := h
theorem SrcAt.drewN {w : World} {g p : Nat} {s : ByteArray} (h : SrcAt w g s p) (n : Nat) : SrcAt (w.drewN n) g s p := h

theorem ret_int {k : IntKind} {a b : Int} (h : a = b) : Ending.returned (.int k a) = .returned (.int k b) := by rw [h]
/-- Of the numbers 0 to m the one that is nearest to n. -/
def near (n m : Int) : Nat := (min (max n 0) m).toNat
theorem near_eq (n m : Int) (hm : 0 ≤ m) : (near n m : Int) = min (max n 0) m := by unfold near; omega
theorem near_le (n m : Int) : near n m ≤ m.toNat := by unfold near; omega
theorem nearest_any (n m : Int) (w : World) (hn : -9223372036854775808 ≤ n ∧ n ≤ 9223372036854775807) (hm : 0 ≤ m ∧ m ≤ 9223372036854775807) :
    Calls Try.prog 42 #[.int .i64 n, .int .i64 m] w fun e w' => e = .returned (.int .i64 (near n m : Int)) ∧ w' = w := by
  have HN : Hid ((near n m : Int) = min (max n 0) m) := near_eq n m hm.1
  go_enter Try.func42, Try.ntmps42
  go_wp2
  all_goals
    go_ret
    exact ⟨ret_int (by rw [HN.out]; omega), rfl⟩
theorem bytesFor_any (n : Nat) (w : World) (hn : n ≤ 9000000000000000000) :
    Calls Try.prog 51 #[.int .i64 (n : Int)] w fun e w' => e = .returned (.int .i64 (((n + 7) / 8 : Nat) : Int)) ∧ w' = w := by
  go_enter Try.func51, Try.ntmps51
  go_wp2
  go_ret
  exact ⟨rfl, rfl⟩
theorem bit_val (s : ByteArray) (p : Nat) (h : p / 8 < s.size) : bits BinOp.and IntKind.u32 ((s[p / 8].toNat : Int) / 2 ^ (p % 8) % 4294967296) 1 = ((sbit s.data.toList p).toNat : Int) := by
  have hb := s[p / 8].toNat_lt
  have hd : s[p / 8].toNat / 2 ^ (p % 8) < 256 := Nat.lt_of_le_of_lt (Nat.div_le_self _ _) hb
  have e : (s[p / 8].toNat : Int) / 2 ^ (p % 8) % 4294967296 = ((s[p / 8].toNat / 2 ^ (p % 8) : Nat) : Int) := by
    have e1 : ((s[p / 8].toNat / 2 ^ (p % 8) : Nat) : Int) = (s[p / 8].toNat : Int) / 2 ^ (p % 8) := by simp
    rw [← e1]
    generalize s[p / 8].toNat / 2 ^ (p % 8) = q at *
    omega
  have e2 : s.data.toList.getD (p / 8) 0 = s[p / 8] := by
    rw [List.getD_eq_getElem?_getD, List.getElem?_eq_getElem (by rw [size_toList]; exact h)]; rfl
  rw [e, show (1 : Int) = ((1 : Nat) : Int) by rfl, u32_and_nat _ _ (by omega) (by decide), nat_mask1]
  unfold sbit
  rw [e2, Nat.toNat_testBit]
set_option maxRecDepth 100000 in
set_option maxHeartbeats 400000 in
theorem bit_any (g : Nat) (s : ByteArray) (p : Nat) (w : World) (hS : SrcAt w g s p) (hs : s.size ≤ 140737488351232) (hp : p ≤ 4611686018427387904) :
    Calls Try.prog 43 #[.pointer (some ⟨g, 0, none⟩)] w fun e w' => e = .returned (.int .u32 ((sbit s.data.toList p).toNat : Int)) ∧ SrcAt w' g s (p + 1) ∧ w.grownBy w' (some g) := by
  have c1 := hS.place
  have c0 := hS.text
  have f1 := hS.free 1
  have HS : Hid (SrcAt (w.setCell ⟨g, 1, none⟩ (.int .i64 ((p + 1 : Nat) : Int))) g s (p + 1)) := hS.set (p + 1)
  have HG : Hid (w.grownBy (w.setCell ⟨g, 1, none⟩ (.int .i64 ((p + 1 : Nat) : Int))) (some g)) := gset (grefl w _) 1 _
  clear hS
  by_cases hlt : p / 8 < s.size
  · go_enter Try.func43, Try.ntmps43
    go_wp2
    go_ret
    refine ⟨ret_int ?_, HS.out, HG.out⟩
    exact bit_val s p hlt
  · have hb : sbit s.data.toList p = false := sbit_past _ _ (by rw [size_toList]; omega)
    go_enter Try.func43, Try.ntmps43
    go_wp2
    go_ret
    refine ⟨ret_int (by rw [hb]; rfl), HS.out, HG.out⟩
end Go.Proofs.Ythkppipdflmekaa
namespace Go.Proofs.Ythkppipdflmekaa
open Go.RowKit
theorem Try.infoU8 : (Try.prog.info? 5).map (fun i => (i.zero, i.size, i.bytes)) = some (some (.int .u8 0), 1, 1) := by kernel_rfl
end Go.Proofs.Ythkppipdflmekaa
namespace Go.Proofs.Ythkppipdflmekaa
open Go.RowKit
set_option linter.unusedVariables false

set_option maxRecDepth 100000 in
set_option maxHeartbeats 400000 in
theorem few_any (s : ByteArray) (n : Int) (w : World) (hn : 0 ≤ n) (hs : s.size ≤ 9223372036854775807) :
    Calls Try.prog 4 #[.string s, .int .i64 n] w fun e w' => e = .returned (.string (s.extract 0 n.toNat)) ∧ w' = w := by
  obtain ⟨m, rfl⟩ := Int.eq_ofNat_of_zero_le hn
  rw [Int.toNat_natCast]
  by_cases h : m < s.size
  · go_enter Try.func4, Try.ntmps4
    go_wp2
    go_ret
    exact ⟨rfl, rfl⟩
  · have HE : Hid (_ = _) := few_all s m (by omega)
    go_enter Try.func4, Try.ntmps4
    go_wp2
    go_ret
    rw [HE.out]
    exact ⟨rfl, rfl⟩
end Go.Proofs.Ythkppipdflmekaa
namespace Go.Proofs.Ythkppipdflmekaa
open Go
set_option linter.unusedVariables false

theorem packB_congr {L M : List Bool} {j : Nat} (h : ∀ i, i < 8 → L.getD (8 * j + i) false = M.getD (8 * j + i) false) : packB L j = packB M j := by
  unfold packB; rw [takeN_congr 8 h]
theorem getD_snoc (L : List Bool) (b : Bool) (i : Nat) : (L ++ [b]).getD i false = if i = L.length then b else L.getD i false := by
  rw [List.getD_eq_getElem?_getD, List.getD_eq_getElem?_getD]
  by_cases h : i < L.length
  · rw [List.getElem?_append_left h, if_neg (by omega)]
  · by_cases h2 : i = L.length
    · subst h2; simp
    · rw [List.getElem?_eq_none (by simp; omega), List.getElem?_eq_none (by omega), if_neg h2]
theorem packB_other (L : List Bool) (b : Bool) (j : Nat) (h : j ≠ L.length / 8) : packB (L ++ [b]) j = packB L j := packB_congr fun i hi => by
  rw [getD_snoc, if_neg (by omega)]
theorem packB_same (L : List Bool) (b : Bool) : (packB (L ++ [b]) (L.length / 8)).toNat = (packB L (L.length / 8)).toNat ||| b.toNat * 2 ^ (L.length % 8) := by
  have hr : L.length % 8 < 8 := Nat.mod_lt _ (by decide)
  apply Nat.eq_of_testBit_eq
  intro i
  rw [Nat.testBit_or]
  by_cases hi : i < 8
  · rw [packB_bit _ _ _ hi, packB_bit _ _ _ hi, getD_snoc]
    by_cases e : i = L.length % 8
    · subst e
      rw [if_pos (by omega), List.getD_eq_getElem?_getD, List.getElem?_eq_none (by omega)]
      cases b <;> simp
    · rw [if_neg (by omega)]
      have : (b.toNat * 2 ^ (L.length % 8)).testBit i = false := by
        cases b
        · simp
        · simp [Nat.testBit_two_pow]; omega
      rw [this, Bool.or_false]
  · have h1 : ∀ x : UInt8, x.toNat.testBit i = false := fun x => Nat.testBit_lt_two_pow (Nat.lt_of_lt_of_le x.toNat_lt (Nat.pow_le_pow_right (n := 2) (i := 8) (by decide) (by omega)))
    have h2 : (b.toNat * 2 ^ (L.length % 8)).testBit i = false := by
      cases b
      · simp
      · simp [Nat.testBit_two_pow]; omega
    rw [h1, h1, h2]; rfl
theorem packB_past (L : List Bool) (j : Nat) (h : L.length ≤ 8 * j) : packB L j = 0 := by
  have : packB L j = packB [] j := packB_congr fun i hi => by
    rw [List.getD_eq_getElem?_getD, List.getElem?_eq_none (by omega)]; simp
  rw [this]
  unfold packB
  have : takeN (fun i => ([] : List Bool).getD (8 * j + i) false) 8 = takeN (fun _ => false) 8 := takeN_congr 8 fun i hi => by simp
  rw [this]; decide
theorem packB_front (L M : List Bool) (j : Nat) (h : 8 * j + 8 ≤ L.length) : packB (L ++ M) j = packB L j := packB_congr fun i hi => by
  rw [List.getD_eq_getElem?_getD, List.getD_eq_getElem?_getD, List.getElem?_append_left (by omega)]
/-- Of a row of bits 64 bytes from byte k on, as cells. -/
def restC (L : List Bool) (k : Nat) : List Value := (List.range 64).map fun j => .int .u8 ((packB L (k + j)).toNat : Int)
theorem restC_len (L : List Bool) (k : Nat) : (restC L k).length = 64 := by simp [restC]
theorem restC_at (L : List Bool) (k j : Nat) (h : j < 64) : (restC L k)[j]? = some (.int .u8 ((packB L (k + j)).toNat : Int)) := by simp [restC, h]
theorem restC_congr {L M : List Bool} {k m : Nat} (h : ∀ j, j < 64 → packB L (k + j) = packB M (m + j)) : restC L k = restC M m := by
  unfold restC
  apply List.map_congr_left
  intro j hj
  rw [h j (List.mem_range.1 hj)]
theorem restC_one (L : List Bool) (k : Nat) : ∀ v ∈ restC L k, v.oneCell' = true := by
  intro v hv
  simp [restC] at hv
  obtain ⟨j, _, rfl⟩ := hv
  rfl
theorem restC_set (L : List Bool) (k i : Nat) (b : UInt8) (M : List Bool) (hi : i < 64) (h : packB M (k + i) = b) (ho : ∀ j, j < 64 → j ≠ i → packB M (k + j) = packB L (k + j)) : (restC L k).set i (.int .u8 (b.toNat : Int)) = restC M k := by
  apply List.ext_getElem?
  intro j
  by_cases hj : j < 64
  · rw [restC_at _ _ _ hj, List.getElem?_set, restC_at _ _ _ hj, restC_len]
    by_cases e : i = j
    · subst e; simp [hi, h]
    · rw [if_neg e, ho j hj (fun h => e h.symm)]
  · rw [List.getElem?_eq_none (by rw [List.length_set, restC_len]; omega), List.getElem?_eq_none (by rw [restC_len]; omega)]
/-- 64 noughts. -/
def noughts64 : List Value := List.replicate 64 (.int .u8 0)
theorem restC_past (L : List Bool) (k : Nat) (h : L.length ≤ 8 * k) : restC L k = noughts64 := by
  apply List.ext_getElem?
  intro j
  by_cases hj : j < 64
  · rw [restC_at _ _ _ hj, packB_past _ _ (by omega)]
    unfold noughts64
    rw [List.getElem?_replicate, if_pos hj]; rfl
  · rw [List.getElem?_eq_none (by rw [restC_len]; omega), List.getElem?_eq_none (by simp [noughts64]; omega)]
theorem highK (x m k : Nat) : (highB x m).take (k + 1) = (highB x m).take k ++ (if k < m then [x.testBit (m - 1 - k)] else []) := by
  rw [List.take_add_one]
  congr 1
  by_cases h : k < m
  · simp [highB, h]
  · rw [List.getElem?_eq_none (by rw [highB_len]; omega), if_neg h]; rfl
end Go.Proofs.Ythkppipdflmekaa
