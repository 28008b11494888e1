/- The walk of PathOrders. -/
import Derived.Test.YtmflekhhakadeaaDoorAwk11
import Derived.Test.YtmflekhhakadeaaDoorRPth
namespace Go.Proofs.YtmflekhhakadeaaDoor
open Go.RowKit
set_option linter.unusedVariables false

set_option maxRecDepth 100000 in
set_option maxHeartbeats 1000000 in
theorem lawPathOrders_walk (a0 a1 : ByteArray) (W : World) (b0 : a0.size ≤ 140737488351232) (b1 : a1.size ≤ 140737488351232) (hL : Lay11 W) :
    Calls Tryd.prog 4 #[.string a0, .string a1] W fun e w' => e = .returned (.bool true) ∧ Below W.heap.size W w' := by
  obtain ⟨l0, rfl⟩ := ba_list a0
  obtain ⟨l1, rfl⟩ := ba_list a1
  rw [mk_size] at b0 b1
  have HW0 : Hid (Calls _ _ _ _ _) := few11_any l0 W b0
  have HW1 : Hid (Calls _ _ _ _ _) := few11_any l1 W b1
  have k0 : (l0.take 400).length ≤ 400 := by rw [List.length_take]; omega
  have k1 : (l1.take 400).length ≤ 400 := by rw [List.length_take]; omega
  unfold Hid at HW0 HW1
  generalize l0.take 400 = a at *
  generalize l1.take 400 = b at *
  go_enter Tryd.func4, Tryd.ntmps4
  go_wp2_with fail
  refine (HW0 : Calls _ _ _ _ _).mono ?_
  rintro e w0 ⟨rfl, hw0⟩
  obtain rfl := hw0.symm
  go_wp2_with fail
  refine (HW1 : Calls _ _ _ _ _).mono ?_
  rintro e w0 ⟨rfl, hw0⟩
  obtain rfl := hw0.symm
  clear HW0 HW1
  go_wp2_with fail
  refine (awake11_any _ hL).mono ?_
  rintro e w1 ⟨rfl, hb1⟩
  go_wp2_with fail
  refine (pcmp_any a b _ (by omega) (by omega) (hL.below hb1).max).mono ?_
  rintro e w2 ⟨rfl, n2, rfl⟩
  have hb2 := below_drewN hb1 n2
  go_wp2_with fail
  refine (rcmp_any a b _ (by omega) (by omega)).mono ?_
  rintro e w3 ⟨rfl, hb3⟩
  go_wp2
  go_ret
  exact ⟨rfl, hb2.trans (hb3.mono hb2.size)⟩
end Go.Proofs.YtmflekhhakadeaaDoor
