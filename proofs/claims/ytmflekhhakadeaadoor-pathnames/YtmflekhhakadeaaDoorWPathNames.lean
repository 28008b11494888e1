/- The walk of PathNames. -/
import Derived.Test.YtmflekhhakadeaaDoorAwk11
import Derived.Test.YtmflekhhakadeaaDoorRPthN
namespace Go.Proofs.YtmflekhhakadeaaDoor
open Go.RowKit
set_option linter.unusedVariables false

theorem belT4 {a b c : World} (h : Below a.heap.size a b) (k : Below b.heap.size b c) : Below a.heap.size a c := h.trans (k.mono h.size)
set_option maxRecDepth 100000 in
set_option maxHeartbeats 1000000 in
theorem lawPathNames_walk (a0 : ByteArray) (W : World) (b0 : a0.size ≤ 140737488351232) (hL : Lay11 W) :
    Calls Tryd.prog 3 #[.string a0] W fun e w' => e = .returned (.bool true) ∧ Below W.heap.size W w' := by
  obtain ⟨l0, rfl⟩ := ba_list a0
  rw [mk_size] at b0
  have HW0 : Hid (Calls _ _ _ _ _) := few11_any l0 W b0
  have k0 : (l0.take 400).length ≤ 400 := by rw [List.length_take]; omega
  unfold Hid at HW0
  generalize l0.take 400 = a at *
  have HPA : Hid (∀ w, Calls _ _ _ w _) := fun w => parent_any ⟨a.toArray⟩ w (by rw [mk_size]; omega)
  have HBA : Hid (∀ w, Calls _ _ _ w _) := fun w => base_any ⟨a.toArray⟩ w (by rw [mk_size]; omega)
  unfold Hid at HPA HBA
  simp only at HPA HBA
  have hbb : (basL a == basL a) = true := by simp
  have hpp : (parL a == parL a) = true := by simp
  go_enter Tryd.func3, Tryd.ntmps3
  go_wp2_with fail
  refine (HW0 : Calls _ _ _ _ _).mono ?_
  rintro e w0 ⟨rfl, hw0⟩
  obtain rfl := hw0.symm
  clear HW0
  go_wp2_with fail
  refine (awake11_any _ hL).mono ?_
  rintro e w1 ⟨rfl, hb1⟩
  go_wp2_with fail
  refine (name_any a _ (by omega) (hL.below hb1)).mono ?_
  rintro e w2 ⟨rfl, hb2⟩
  have hB2 := belT4 hb1 hb2
  go_wp2_with fail
  refine (rname_any a _ (by omega)).mono ?_
  rintro e w0 ⟨rfl, hw0⟩
  obtain rfl := hw0.symm
  go_wp2_with fail
  refine (is_any a _ (by omega) (hL.below hB2)).mono ?_
  rintro e w3 ⟨rfl, hb3⟩
  have hB3 := belT4 hB2 hb3
  go_wp2_with fail
  refine (ris_any a _ (by omega)).mono ?_
  rintro e w4 ⟨rfl, hb4⟩
  have hB4 := belT4 hB3 hb4
  go_wp2_with fail
  refine (HPA _).mono ?_
  rintro e w5 ⟨rfl, hb5⟩
  have hB5 := belT4 hB4 hb5
  go_wp2_with fail
  refine (rparent_any a _ (by omega)).mono ?_
  rintro e w0 ⟨rfl, hw0⟩
  obtain rfl := hw0.symm
  go_wp2_with fail
  refine (HBA _).mono ?_
  rintro e w6 ⟨rfl, hb6⟩
  have hB6 := belT4 hB5 hb6
  go_wp2_with fail
  refine (rbase_any a _ (by omega)).mono ?_
  rintro e w7 ⟨rfl, hb7⟩
  go_wp2
  go_ret
  exact ⟨rfl, belT4 hB6 hb7⟩
end Go.Proofs.YtmflekhhakadeaaDoor
