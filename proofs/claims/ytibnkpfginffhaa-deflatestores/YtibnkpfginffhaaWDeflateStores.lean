/- DeflateStores: the walk. -/
import Derived.Test.YtibnkpfginffhaaAwake7
import Derived.Test.YtibnkpfginffhaaStoR
import Derived.Test.YtibnkpfginffhaaFew
namespace Go.Proofs.Ytibnkpfginffhaa
open Go.RowKit
set_option linter.unusedVariables false

set_option maxHeartbeats 1000000 in
set_option maxRecDepth 100000 in
theorem lawDeflateStores_walk (s0 : ByteArray) (n : Int) (w : World) (hs0 : s0.size ≤ 140737488351232) (hn : -9223372036854775808 ≤ n ∧ n ≤ 9223372036854775807) :
    Calls Try.prog 7 #[.string s0, .int .i64 n] w fun e w' => e = .returned (.bool true) ∧ Below w.heap.size w w' := by
  have HFW : Hid (Calls _ _ _ _ _) := few_any s0 3000 w (by decide) (by omega)
  have hsz : (s0.extract 0 (3000 : Int).toNat).size ≤ 3000 := by rw [few_size]; exact Nat.min_le_left _ _
  generalize s0.extract 0 (3000 : Int).toNat = s at *
  go_enter Try.func7, Try.ntmps7
  go_wp2_with fail
  refine (Hid.out HFW : Calls _ _ _ _ _).mono ?_
  rintro e w1 ⟨rfl, hw1⟩
  obtain rfl : w = w1 := hw1.symm
  clear HFW hw1
  go_wp2_with fail
  refine (awake7_any _).mono ?_
  rintro e w2 ⟨rfl, hb2⟩
  have HB2 : Hid (Below w.heap.size w w2) := hb2
  clear hb2
  go_wp2_with fail
  refine (stored7_any s w2 (by omega)).mono ?_
  rintro e w3 ⟨⟨r1, rfl, hr1⟩, hb3⟩
  have HB3 : Hid (Below w.heap.size w w3) := HB2.out.trans (hb3.mono HB2.out.size)
  clear hb3 HB2
  go_wp2_with fail
  refine (rstored_any _ s w3 (Nat.lt_succ_self _) (by omega)).mono ?_
  rintro e w4 ⟨⟨r2, rfl, hr2, _⟩, hb4⟩
  have HB4 : Hid (Below w.heap.size w w4) := HB3.out.trans (hb4.mono HB3.out.size)
  obtain rfl : r1 = r2 := ba_ext (hr1.trans hr2.symm)
  clear hb4 HB3 hr1 hr2
  by_cases hb : n < 65530 ∨ 65540 < n
  · rcases hb with hb | hb
    · go_wp2
      go_ret
      exact ⟨rfl, HB4.out⟩
    · have hb0 : ¬ n < 65530 := by omega
      go_wp2
      go_ret
      exact ⟨rfl, HB4.out⟩
  · obtain ⟨m, rfl⟩ : ∃ m : Nat, n = (m : Int) := ⟨n.toNat, by omega⟩
    have hb0 : ¬ (m : Int) < 65530 := by omega
    have hb1 : ¬ (65540 : Int) < (m : Int) := by omega
    have hm : m ≤ 65540 := by omega
    obtain ⟨j0, hj, hy0, hy1, hy2⟩ := info_parts Try.infoU8
    clear hb hn
    obtain ⟨w5, hmk, hown, hgr⟩ := run_makeSlice_full (P := Try.prog) (w := w4) w4.heap.size 54 5 j0 (.int .u8 0) 1 Try.underlying54 hj hy0 hy1 .i64 .i64 m (by omega) (by rw [hy2]; omega) (by unfold maxLen; omega) (Nat.le_refl _)
    have hcl : (madeCells (Value.int IntKind.u8 0).cells (m * 1)).toList = cs (List.replicate m 0) := by
      rw [Nat.mul_one]
      show (madeCells #[.int .u8 0] m).toList = _
      rw [toList_madeCells_one]
      simp [cs]
    rw [hcl] at hown
    have hcv := conv_bs (P := Try.prog) (dst := 9) Try.underlying54 Try.underlying5 Try.underlying9 hown
    have hbz := bs_size2 (List.replicate m 0)
    rw [List.length_replicate] at hbz
    have HB5 : Hid (Below w.heap.size w w5) := HB4.out.grown hgr HB4.out.size (fun k hk => by cases hk)
    generalize bs (List.replicate m 0) = Z at *
    clear hown hgr hcl HB4
    go_wp2_with fail
    refine (stored7_any Z w5 (by omega)).mono ?_
    rintro e w6 ⟨⟨q1, rfl, hq1⟩, hb6⟩
    have HB6 : Hid (Below w.heap.size w w6) := HB5.out.trans (hb6.mono HB5.out.size)
    clear hb6 HB5
    go_wp2_with fail
    refine (rstored_any _ Z w6 (Nat.lt_succ_self _) (by omega)).mono ?_
    rintro e w7 ⟨⟨q2, rfl, hq2, _⟩, hb7⟩
    have HB7 : Hid (Below w.heap.size w w7) := HB6.out.trans (hb7.mono HB6.out.size)
    obtain rfl : q1 = q2 := ba_ext (hq1.trans hq2.symm)
    clear hb7 HB6 hq1 hq2
    go_wp2
    go_ret
    exact ⟨rfl, HB7.out⟩
end Go.Proofs.Ytibnkpfginffhaa
