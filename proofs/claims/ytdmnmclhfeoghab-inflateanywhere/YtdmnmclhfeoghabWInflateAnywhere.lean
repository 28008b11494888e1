/- InflateAnywhere: the walk. -/
import Derived.Test.YtdmnmclhfeoghabInfO
import Derived.Test.YtdmnmclhfeoghabAwake6
import Derived.Test.YtdmnmclhfeoghabFew
namespace Go.Proofs.Ytdmnmclhfeoghab
open Go.RowKit
set_option linter.unusedVariables false

theorem few_b1000 (s : ByteArray) (w : World) (hs : s.size ≤ 9223372036854775807) :
    Calls Try.prog 9 #[.string s, .int .i64 1000] w fun e w' => e = .returned (.string (s.extract 0 1000)) ∧ w' = w := few_any s 1000 w (by decide) hs
theorem few_b400 (s : ByteArray) (w : World) (hs : s.size ≤ 9223372036854775807) :
    Calls Try.prog 9 #[.string s, .int .i64 400] w fun e w' => e = .returned (.string (s.extract 0 400)) ∧ w' = w := few_any s 400 w (by decide) hs
theorem ex_all (s : ByteArray) : s = s.extract 0 s.size := by
  apply ByteArray.ext
  apply Array.ext'
  rw [extract_data, List.drop_zero, List.take_of_length_le (by rw [size_toList]; omega)]
theorem mid_eq (a s b : ByteArray) : s ++ b = (a ++ s ++ b).extract a.size (a ++ s ++ b).size := by
  apply ByteArray.ext
  apply Array.ext'
  rw [extract_data]
  simp only [ByteArray.data_append, Array.toList_append, ByteArray.size_append, List.append_assoc]
  rw [List.drop_append_of_le_length (by rw [size_toList]; exact Nat.le_refl _), List.drop_of_length_le (by rw [size_toList]; exact Nat.le_refl _), List.nil_append, List.take_of_length_le]
  rw [List.length_append, size_toList, size_toList]; omega
theorem bits_front (s b : ByteArray) : Alike (bF8 s) (bF8 (s ++ b)) (8 * s.size) := by
  intro i hi
  unfold bF8 sbit
  rw [ByteArray.data_append, Array.toList_append, List.getD_eq_getElem?_getD, List.getD_eq_getElem?_getD, List.getElem?_append_left (by rw [size_toList]; omega)]
set_option maxRecDepth 100000 in
set_option maxHeartbeats 2000000 in
theorem lawInflateAnywhere_walk (front s back : ByteArray) (w : World) (h1 : front.size ≤ 140737488351232) (h2 : s.size ≤ 140737488351232) (h3 : back.size ≤ 140737488351232) :
    Calls Try.prog 5 #[.string front, .string s, .string back] w fun e w' => e = .returned (.bool true) ∧ Below w.heap.size w w' := by
  have g1 : (front.extract 0 1000).size ≤ 1000 := by rw [few_size]; omega
  have g2 : (s.extract 0 400).size ≤ 400 := by rw [few_size]; omega
  have g3 : (back.extract 0 1000).size ≤ 1000 := by rw [few_size]; omega
  have HF1 : Hid (∀ W, Calls Try.prog 9 #[.string front, .int .i64 1000] W fun e w' => e = .returned (.string (front.extract 0 1000)) ∧ w' = W) := fun W => few_b1000 front W (by omega)
  have HF2 : Hid (∀ W, Calls Try.prog 9 #[.string s, .int .i64 400] W fun e w' => e = .returned (.string (s.extract 0 400)) ∧ w' = W) := fun W => few_b400 s W (by omega)
  have HF3 : Hid (∀ W, Calls Try.prog 9 #[.string back, .int .i64 1000] W fun e w' => e = .returned (.string (back.extract 0 1000)) ∧ w' = W) := fun W => few_b1000 back W (by omega)
  generalize hA : front.extract 0 1000 = A at *
  generalize hS : s.extract 0 400 = S at *
  generalize hC : back.extract 0 1000 = C at *
  clear hA hS hC
  generalize hr : blksF (bF8 S) (8 * S.size) 4000 (8 * S.size + 1) 0 0 [] = r
  have HI : Hid (∀ W, Calls _ _ _ W _) := fun W => inflate_good S S 0 4000 r W (Nat.zero_le _) (by decide) (by omega) (ex_all S) hr
  have HAW : Hid (∀ W, Calls Try.prog 14 #[] W fun e w' => e = .returned (.bool true) ∧ Below W.heap.size W w') := awake6_any
  go_enter Try.func5, Try.ntmps5
  go_wp2_with fail
  refine (HF1.out _).mono ?_
  rintro e w1 ⟨rfl, hw⟩
  obtain rfl : w = w1 := hw.symm
  clear hw
  go_wp2_with fail
  refine (HF2.out _).mono ?_
  rintro e w1 ⟨rfl, hw⟩
  obtain rfl : w = w1 := hw.symm
  clear hw
  go_wp2_with fail
  refine (HF3.out _).mono ?_
  rintro e w1 ⟨rfl, hw⟩
  obtain rfl : w = w1 := hw.symm
  clear hw HF1 HF2 HF3
  go_wp2_with fail
  refine (Hid.out HI w).mono ?_
  clear HI
  rintro e w2 (⟨l, q, rfl, rfl, hq, hb2⟩ | ⟨er, rfl, her, rfl, hb2⟩)
  · have hloc := blksF_loc (g := bF8 (S ++ C)) (M := 8 * (S ++ C).size) _ (8 * (S ++ C).size + 1) 0 0 [] l q hr ((bits_front S C).less hq) (by rw [ByteArray.size_append]; omega) (by rw [ByteArray.size_append]; omega)
    have HI2 : Hid (∀ W, Calls Try.prog 12 #[.string (A ++ S ++ C), .int .i64 (A.size : Int), .int .i64 4000] W fun e w' => e = .returned (.tuple #[.string (bs (expF 9223372036854775807 (jkP l) []).1), .int .i64 (((q + 7) / 8 : Nat) : Int), .int .i64 0]) ∧ Below W.heap.size W w') := by
      intro W
      refine (inflate_good (A ++ S ++ C) (S ++ C) A.size 4000 _ W (by rw [ByteArray.size_append, ByteArray.size_append]; omega) (by decide) (by rw [ByteArray.size_append, ByteArray.size_append]; omega) (mid_eq A S C) hloc).mono ?_
      rintro e w9 (⟨l', q', h', rfl, _, hb9⟩ | ⟨er, h', _⟩)
      · simp only [Except.ok.injEq, Prod.mk.injEq] at h'
        obtain ⟨rfl, rfl⟩ := h'
        exact ⟨rfl, hb9⟩
      · cases h'
    have hqs : (q + 7) / 8 ≤ S.size := by omega
    have hqi : (((q + 7) / 8 : Nat) : Int) ≤ (S.size : Int) := by omega
    clear hloc hr hq
    generalize (q + 7) / 8 = n at *
    generalize bs (expF 9223372036854775807 (jkP l) []).1 = T at *
    have HB2 : Hid (Below w.heap.size w w2) := hb2
    clear hb2
    go_wp2_with fail
    refine (HI2.out w2).mono ?_
    rintro e w3 ⟨rfl, hb3⟩
    have HB3 : Hid (Below w.heap.size w w3) := HB2.out.trans (hb3.mono HB2.out.size)
    clear hb3 HI2 HB2
    go_wp2_with fail
    refine (HAW.out w3).mono ?_
    rintro e w4 ⟨rfl, hb4⟩
    have HB4 : Hid (Below w.heap.size w w4) := HB3.out.trans (hb4.mono HB3.out.size)
    clear hb4
    go_wp2
    go_ret
    exact ⟨rfl, HB4.out⟩
  · have heri : ((er : Int) != 0) = true := by simpa using her
    clear hr
    go_wp2_with fail
    refine (HAW.out w2).mono ?_
    rintro e w3 ⟨rfl, hb3⟩
    have HB3 : Hid (Below w.heap.size w w3) := hb2.trans (hb3.mono hb2.size)
    clear hb2 hb3
    go_wp2
    go_ret
    exact ⟨rfl, HB3.out⟩
end Go.Proofs.Ytdmnmclhfeoghab
