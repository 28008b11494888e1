/- The walk of DigestSums. -/
import Derived.Test.YtlnagnkiadlfpaaDoorAwake2
import Derived.Test.YtlnagnkiadlfpaaDoorFew
import Derived.Test.YtlnagnkiadlfpaaDoorRHex
import Derived.Test.YtlnagnkiadlfpaaDoorSumA
namespace Go.Proofs.YtlnagnkiadlfpaaDoor
open Go.RowKit
attribute [local go_sem ↓] Go.wp_at_zero Go.wp_at_succ
set_option linter.unusedVariables false
theorem few500 (s : ByteArray) (w : World) (hs : s.size ≤ 9223372036854775807) :
    Calls Tryd.prog 4 #[.string s, .int .i64 500] w fun e w' => e = .returned (.string (s.extract 0 500)) ∧ w' = w := few_any s 500 w (by decide) hs
theorem nameS_size (l : List UInt8) : (nameS l).size = 64 := by
  unfold nameS; rw [bs_size2, hexL_len, size_data, shaS_size]
theorem name_is (l : List UInt8) : isName (nameS l) = true := by
  unfold isName
  rw [nameS_size]
  unfold nameS
  rw [bs_data2]
  have := unhex_hexB (shaS l).data.toList
  unfold hexB at this
  rw [this]; rfl
set_option maxRecDepth 100000 in
set_option maxHeartbeats 1000000 in
theorem lawDigestSums_walk (t s : ByteArray) (w : World) (ht : t.size ≤ 140737488351232) (hs : s.size ≤ 140737488351232) (hR : Roots w) :
    Calls Tryd.prog 3 #[.string t, .string s] w fun e w' => e = .returned (.bool true) ∧ Below w.heap.size w w' := by
  have hx : (t.extract 0 500).size ≤ 500 := by rw [few_size]; omega
  go_enter Tryd.func3, Tryd.ntmps3
  go_wp2_with fail
  refine (few500 _ _ (by omega)).mono ?_
  rintro e w1 ⟨rfl, hw⟩
  obtain rfl := hw.symm
  generalize t.extract 0 500 = X at *
  go_wp2_with fail
  refine (rsum_any X _ (by omega)).mono ?_
  rintro e w1 ⟨rfl, hb1⟩
  go_wp2_with fail
  refine (awake2_any w1 (hR.below hb1)).mono ?_
  rintro e w2 ⟨rfl, hb2'⟩
  have hb2 := hb1.trans (hb2'.mono hb1.size)
  clear hb1 hb2'
  go_wp2_with fail
  refine (sum_any X w2 (by omega) (hR.below hb2)).mono ?_
  rintro e w3 ⟨rfl, hb3'⟩
  have hb3 := hb2.trans (hb3'.mono hb2.size)
  clear hb2 hb3'
  go_wp2_with fail
  refine (name_any X w3 (by omega) (hR.below hb3)).mono ?_
  rintro e w4 ⟨rfl, hb4'⟩
  have hb4 := hb3.trans (hb4'.mono hb3.size)
  clear hb3 hb4'
  go_wp2_with fail
  refine (rhex_any (shaS X.data.toList) w4 (by rw [shaS_size]; omega)).mono ?_
  rintro e w5 ⟨rfl, hb5'⟩
  have hb5 := hb4.trans (hb5'.mono hb4.size)
  clear hb4 hb5'
  have hnm := name_is X.data.toList
  have hns : (nameS X.data.toList).size ≤ 140737488351232 := by rw [nameS_size]; omega
  rw [show bs (hexL (shaS X.data.toList).data.toList) = nameS X.data.toList from rfl]
  have HN1 : Hid (∀ W, Below w.heap.size w W → Calls Tryd.prog 8 #[.string X] W fun e w' => e = .returned (.string (nameS X.data.toList)) ∧ Below w.heap.size w w') := fun W hb => (name_any X W (by omega) (hR.below hb)).mono fun e w' ⟨h1, h2⟩ => ⟨h1, hb.trans (h2.mono hb.size)⟩
  generalize nameS X.data.toList = NM at *
  generalize shaS X.data.toList = SH at *
  go_wp2_with fail
  refine (is_any s w5 hs).mono ?_
  rintro e w6 ⟨rfl, hb6'⟩
  have hb6 := hb5.trans (hb6'.mono hb5.size)
  clear hb5 hb6'
  by_cases h64 : s.size = 64
  · have HB : Hid (isName s = (unhex s.data.toList).isSome) := by unfold Hid isName; simp [h64]
    rw [HB.out]
    go_wp2_with fail
    refine (hexed_any s w6 (by omega)).mono ?_
    rintro e w7 ⟨rfl, hb7'⟩
    have hb7 := hb6.trans (hb7'.mono hb6.size)
    clear hb6 hb7'
    generalize (unhex s.data.toList).isSome = u at *
    go_wp2_with fail
    refine (HN1.out _ hb7).mono ?_
    rintro e w8 ⟨rfl, hb8⟩
    go_wp2_with fail
    refine (is_any NM w8 hns).mono ?_
    rintro e w9 ⟨rfl, hb9'⟩
    have hb9 := hb8.trans (hb9'.mono hb8.size)
    rw [hnm]
    go_wp2
    go_ret
    exact ⟨rfl, hb9⟩
  · have HB : Hid (isName s = false) := by unfold Hid isName; simp [h64]
    rw [HB.out]
    have h64i : ¬ (s.size : Int) = 64 := by omega
    go_wp2_with fail
    refine (HN1.out _ hb6).mono ?_
    rintro e w8 ⟨rfl, hb8⟩
    go_wp2_with fail
    refine (is_any NM w8 hns).mono ?_
    rintro e w9 ⟨rfl, hb9'⟩
    have hb9 := hb8.trans (hb9'.mono hb8.size)
    rw [hnm]
    go_wp2
    go_ret
    exact ⟨rfl, hb9⟩
end Go.Proofs.YtlnagnkiadlfpaaDoor
