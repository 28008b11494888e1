/- Contracts of digest.Sum, digest.Name, digest.Is. -/
import Derived.Test.YtlnagnkiadlfpaaDoorHashS
import Derived.Test.YtlnagnkiadlfpaaDoorHex
import Derived.Test.YtlnagnkiadlfpaaDoorUnhex
namespace Go.Proofs.YtlnagnkiadlfpaaDoor
open Go.RowKit
attribute [local go_sem ↓] Go.wp_at_zero Go.wp_at_succ
set_option linter.unusedVariables false

def s8z : S8 := ⟨0, 0, 0, 0, 0, 0, 0, 0⟩
/-- The zero Hash's cells. -/
def hz73 : Array Value := (hc s8z (List.replicate 64 0) 0).toArray
theorem Tryd.zeroHash : (Tryd.prog.info? 45).map (fun i => (i.zero, i.size)) = some (some (.agg hz73), 73) := by kernel_rfl
theorem hash_zero (w : World) : HashAt (w.alloc (.cells hz73 45)) w.heap.size [] :=
  ⟨s8z, List.replicate 64 0, heap_alloc_new w _, by simp, fun h => by simp at h, by rw [mixL_few [] (by decide)]; simp⟩

set_option maxRecDepth 100000 in
set_option maxHeartbeats 400000 in
theorem sum_any (s : ByteArray) (w : World) (hs : s.size ≤ 140737488351232) (hR : Roots w) :
    Calls Tryd.prog 7 #[.string s] w fun e w' => e = .returned (.string (shaS s.data.toList)) ∧ Below w.heap.size w w' := by
  have hz := (zero_of_info Tryd.zeroHash).1
  go_enter Tryd.func7, Tryd.ntmps7
  go_wp2_with fail
  have hb0 : Below w.heap.size w (w.alloc (.cells hz73 45)) := (Below.refl _ w).alloc (Nat.le_refl _) _
  refine (write_any w.heap.size [] s _ (hash_zero w) (by simpa using hs) (hR.below hb0)).mono ?_
  rintro e w1 ⟨rfl, hH, hg⟩
  have hb1 : Below w.heap.size w w1 := hb0.grown hg (by rw [World.size_alloc]; omega) (fun k hk => by cases hk; exact Nat.le_refl _)
  rw [List.nil_append] at hH
  clear hb0 hg
  go_wp2_with fail
  refine (hsum_any w.heap.size s.data.toList w1 hH (by rw [size_data]; exact hs) (hR.below hb1)).mono ?_
  rintro e w2 ⟨rfl, hb2⟩
  clear hz
  go_wp2
  go_ret
  exact ⟨rfl, hb1.trans (hb2.mono hb1.size)⟩

theorem shaS_size (l : List UInt8) : (shaS l).size = 32 := by
  unfold shaS bs; rw [strOfNums_size, List.length_map, shaB_len]
/-- A text's name. -/
def nameS (l : List UInt8) : ByteArray := bs (hexL (shaS l).data.toList)
set_option maxRecDepth 100000 in
set_option maxHeartbeats 400000 in
theorem name_any (s : ByteArray) (w : World) (hs : s.size ≤ 140737488351232) (hR : Roots w) :
    Calls Tryd.prog 8 #[.string s] w fun e w' => e = .returned (.string (nameS s.data.toList)) ∧ Below w.heap.size w w' := by
  go_enter Tryd.func8, Tryd.ntmps8
  go_wp2_with fail
  refine (sum_any s w hs hR).mono ?_
  rintro e w1 ⟨rfl, hb1⟩
  have HN : Hid (nameS s.data.toList = bs (hexL (shaS s.data.toList).data.toList)) := rfl
  have hsz : (shaS s.data.toList).size ≤ 70368744175616 := by rw [shaS_size]; omega
  generalize shaS s.data.toList = T at *
  go_wp2_with fail
  refine (hex_any T w1 hsz).mono ?_
  rintro e w2 ⟨rfl, hb2⟩
  clear hsz
  go_wp2
  go_ret
  exact ⟨by rw [HN.out]; rfl, hb1.trans (hb2.mono hb1.size)⟩
/-- Is it a name? -/
def isName (s : ByteArray) : Bool := decide (s.size = 64) && (unhex s.data.toList).isSome
set_option maxRecDepth 100000 in
set_option maxHeartbeats 400000 in
theorem is_any (s : ByteArray) (w : World) (hs : s.size ≤ 140737488351232) :
    Calls Tryd.prog 10 #[.string s] w fun e w' => e = .returned (.bool (isName s)) ∧ Below w.heap.size w w' := by
  go_enter Tryd.func10, Tryd.ntmps10
  by_cases h64 : s.size = 64
  · have HB : Hid (isName s = (unhex s.data.toList).isSome) := by unfold Hid isName; simp [h64]
    go_wp2_with (go_at_call 22; refine (unhex_any s _ hs).mono ?_; rintro e w1 ⟨rfl, hb1⟩)
    go_ret
    exact ⟨by rw [HB.out]; rfl, hb1⟩
  · have HB : Hid (isName s = false) := by unfold Hid isName; simp [h64]
    go_wp2_with fail
    go_ret
    exact ⟨by rw [HB.out]; rfl, Below.refl _ _⟩
end Go.Proofs.YtlnagnkiadlfpaaDoor
