/- The walk of ChunkerSplits. -/
import Derived.Test.YtnfemofighgenaaCnfA
import Derived.Test.YtnfemofighgenaaRChkS
namespace Go.Proofs.Ytnfemofighgenaa
open Go.RowKit
set_option linter.unusedVariables false

theorem spl_len2 (mn bt mx : Nat) (s : List UInt8) : (spl mn bt mx s).length ≤ s.length + 1 := by
  unfold spl
  rw [List.length_append]
  have := ckW_len mn bt mx s [] []
  have := lastC_len (ckW mn bt mx [] [] s).2
  omega
set_option maxRecDepth 100000 in
set_option maxHeartbeats 2000000 in
theorem lawChunkerSplits_walk (s : ByteArray) (mn bt mx : Int) (w : World) (hs : s.size ≤ 140737488351232) (hcf : (-9223372036854775808 ≤ mn ∧ mn ≤ 9223372036854775807) ∧ (-9223372036854775808 ≤ bt ∧ bt ≤ 9223372036854775807) ∧ (-9223372036854775808 ≤ mx ∧ mx ≤ 9223372036854775807)) :
    Calls Try.prog 8 #[.string s, .agg #[.int .i64 mn, .int .i64 bt, .int .i64 mx]] w fun e w' => e = .returned (.bool true) ∧ Below w.heap.size w w' := by
  have hfs : (s.extract 0 500).size ≤ 500 := by rw [few_size]; omega
  have hN := CnfAt.new w mn bt mx
  have hB0 : Below w.heap.size w (w.alloc (.cells #[.int .i64 mn, .int .i64 bt, .int .i64 mx] 49)) := (Below.refl _ w).alloc (Nat.le_refl _) _
  go_enter Try.func8, Try.ntmps8
  go_wp2_with fail
  refine (few_any s 500 _ (by decide) (by omega)).mono ?_
  rintro e w0 ⟨rfl, rfl⟩
  rw [show (500 : Int).toNat = 500 from rfl]
  generalize s.extract 0 500 = S at *
  generalize w.alloc (.cells #[.int .i64 mn, .int .i64 bt, .int .i64 mx] 49) = W at *
  obtain ⟨c0, c1, c2⟩ := hN.cells
  go_wp2_with fail
  by_cases he : errC mn bt mx = 0
  · obtain ⟨e1, e2, e3, e4, e5⟩ := errC_zero he
    obtain ⟨mn, rfl⟩ := Int.eq_ofNat_of_zero_le (show 0 ≤ mn by omega)
    obtain ⟨bt, rfl⟩ := Int.eq_ofNat_of_zero_le e3
    obtain ⟨mx, rfl⟩ := Int.eq_ofNat_of_zero_le (show 0 ≤ mx by omega)
    have HL := spl_len2 mn bt mx S.data.toList
    rw [size_toList] at HL
    refine (split_good S mn bt mx _ he (by omega)).mono ?_
    rintro e w1 ⟨v, rfl, hO, hb1⟩
    have hN1 := hN.below hb1
    have hB1 := hB0.trans (hb1.mono hB0.size)
    clear c0 c1 c2 hN hb1
    obtain ⟨c0, c1, c2⟩ := hN1.cells
    go_wp2_with fail
    refine (rcheck_any _ _ _ _).mono ?_
    rintro e w2 ⟨rfl, rfl⟩
    rw [he]
    go_wp2_with fail
    refine (new_good mn bt mx _ he).mono ?_
    rintro e w3 ⟨g, rfl, hC3, hg3, hb3⟩
    have hN3 := hN1.below hb3
    have hO3 := hO.below hb3
    have hB3 := hB1.trans (hb3.mono hB1.size)
    clear c0 c1 c2 hN1 hb3 hO hC3
    obtain ⟨c0, c1, c2⟩ := hN3.cells
    go_wp2_with fail
    refine (awake10_any _).mono ?_
    rintro e w4 ⟨rfl, hb4⟩
    have hN4 := hN3.below hb4
    have hO4 := hO3.below hb4
    have hB4 := hB3.trans (hb4.mono hB3.size)
    clear c0 c1 c2 hN3 hb4 hO3
    obtain ⟨c0, c1, c2⟩ := hN4.cells
    go_wp2_with fail
    refine (check_any _ _ _ _).mono ?_
    rintro e w5 ⟨rfl, hb5⟩
    rw [he]
    have hN5 := hN4.below hb5
    have hO5 := hO4.below hb5
    have hB5 := hB4.trans (hb5.mono hB4.size)
    clear c0 c1 c2 hN4 hb5 hO4
    obtain ⟨c0, c1, c2⟩ := hN5.cells
    go_wp2_with fail
    refine (rsplit_any S mn bt mx _ (by omega) (by omega) (by omega) (by omega) (by omega)).mono ?_
    rintro e w6 ⟨v6, rfl, hO6, hb6⟩
    have hO5 := hO5.below hb6
    have hB6 := hB5.trans (hb6.mono hB5.size)
    clear c0 c1 c2 hN5 hb6
    generalize spl mn bt mx S.data.toList = L at *
    go_wp2_with fail
    refine (same_any v v6 L L _ hO5.rs hO6.rs (by omega) (by omega)).mono ?_
    rintro e w7 ⟨rfl, n, rfl⟩
    have hB7 := below_drewN hB6 n
    rw [show sameN L L = 0 from if_pos rfl]
    clear hO5 hO6
    go_wp2
    go_ret
    exact ⟨rfl, hB7⟩
  · have hn : (((errC mn bt mx : Nat) : Int) == 0) = false := by rw [beq_eq_false_iff_ne]; omega
    have HE : Hid _ := he
    clear he
    refine (split_bad S mn bt mx _ HE.out).mono ?_
    rintro e w1 ⟨rfl, hb1⟩
    have hN1 := hN.below hb1
    have hB1 := hB0.trans (hb1.mono hB0.size)
    clear c0 c1 c2 hN hb1
    obtain ⟨c0, c1, c2⟩ := hN1.cells
    go_wp2_with fail
    refine (rcheck_any _ _ _ _).mono ?_
    rintro e w2 ⟨rfl, rfl⟩
    go_wp2_with fail
    refine (new_bad mn bt mx _ HE.out).mono ?_
    rintro e w3 ⟨rfl, hb3⟩
    have hN3 := hN1.below hb3
    have hB3 := hB1.trans (hb3.mono hB1.size)
    clear c0 c1 c2 hN1 hb3
    obtain ⟨c0, c1, c2⟩ := hN3.cells
    go_wp2_with fail
    refine (awake10_any _).mono ?_
    rintro e w4 ⟨rfl, hb4⟩
    have hN4 := hN3.below hb4
    have hB4 := hB3.trans (hb4.mono hB3.size)
    clear c0 c1 c2 hN3 hb4
    obtain ⟨c0, c1, c2⟩ := hN4.cells
    go_wp2_with fail
    refine (check_any _ _ _ _).mono ?_
    rintro e w5 ⟨rfl, hb5⟩
    have hB5 := hB4.trans (hb5.mono hB4.size)
    clear c0 c1 c2 hN4 hb5
    generalize errC mn bt mx = E at *
    go_wp2
    go_ret
    exact ⟨rfl, hB5⟩
end Go.Proofs.Ytnfemofighgenaa
