/- The walk of PathRunes. -/
import Derived.Test.YtmflekhhakadeaaDoorAwk11
import Derived.Test.YtmflekhhakadeaaDoorRPthF
namespace Go.Proofs.YtmflekhhakadeaaDoor
open Go.RowKit
set_option linter.unusedVariables false

theorem belT5 {a b c : World} (h : Below a.heap.size a b) (k : Below b.heap.size b c) : Below a.heap.size a c := h.trans (k.mono h.size)
set_option maxRecDepth 100000 in
set_option maxHeartbeats 1000000 in
theorem lawPathRunes_walk (a0 : ByteArray) (a1 : Int) (W : World) (b0 : a0.size ≤ 140737488351232) (b1 : -9223372036854775808 ≤ a1 ∧ a1 ≤ 9223372036854775807) (hL : Lay11 W) :
    Calls Tryd.prog 5 #[.string a0, .int .i64 a1] W fun e w' => e = .returned (.bool true) ∧ Below W.heap.size W w' := by
  obtain ⟨l0, rfl⟩ := ba_list a0
  obtain ⟨b1a, b1b⟩ := b1
  rw [mk_size] at b0
  have HW0 : Hid (Calls _ _ _ _ _) := few11_any l0 W b0
  have k0 : (l0.take 400).length ≤ 400 := by rw [List.length_take]; omega
  unfold Hid at HW0
  generalize l0.take 400 = a at *
  have hbb : (foldL a == foldL a) = true := by simp
  have hpp : (cutL (natN a1) a == cutL (natN a1) a) = true := by simp
  go_enter Tryd.func5, Tryd.ntmps5
  go_wp2_with fail
  refine (HW0 : Calls _ _ _ _ _).mono ?_
  rintro e w0 ⟨rfl, hw0⟩
  obtain rfl := hw0.symm
  clear HW0
  go_wp2_with fail
  refine (awake11_any _ hL).mono ?_
  rintro e w1 ⟨rfl, hb1⟩
  go_wp2_with fail
  refine (foldl_any a _ (by omega)).mono ?_
  rintro e w2 ⟨rfl, hb2⟩
  have hB2 := belT5 hb1 hb2
  go_wp2_with fail
  refine (rfold_any a _ (by omega)).mono ?_
  rintro e w3 ⟨rfl, hb3⟩
  have hB3 := belT5 hB2 hb3
  go_wp2_with fail
  refine (countl_any a _ (by omega)).mono ?_
  rintro e w4 ⟨rfl, hb4⟩
  have hB4 := belT5 hB3 hb4
  go_wp2_with fail
  refine (rcount_any a _ (by omega)).mono ?_
  rintro e w0 ⟨rfl, hw0⟩
  obtain rfl := hw0.symm
  go_wp2_with fail
  refine (cutl_any a a1 _ (by omega) b1a b1b).mono ?_
  rintro e w5 ⟨rfl, hb5⟩
  have hB5 := belT5 hB4 hb5
  go_wp2_with fail
  refine (rcut_any a a1 _ (by omega) b1a b1b).mono ?_
  rintro e w0 ⟨rfl, hw0⟩
  obtain rfl := hw0.symm
  go_wp2
  go_ret
  exact ⟨rfl, hB5⟩
end Go.Proofs.YtmflekhhakadeaaDoor
