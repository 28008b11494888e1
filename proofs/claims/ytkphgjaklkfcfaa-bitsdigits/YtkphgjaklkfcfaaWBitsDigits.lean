/- The walk of the law BitsDigits: it returns true at every input. -/
import Derived.Test.YtkphgjaklkfcfaaAwake
import Derived.Test.YtkphgjaklkfcfaaHex
import Derived.Test.YtkphgjaklkfcfaaUnhex
import Derived.Test.YtkphgjaklkfcfaaRHex
namespace Go.Proofs.Ytkphgjaklkfcfaa
open Go.RowKit
set_option linter.unusedVariables false

theorem few_300' (s : ByteArray) (w : World) (hs : s.size ≤ 9223372036854775807) :
    Calls Try.prog 17 #[.string s, .int .i64 300] w fun e w' => e = .returned (.string (s.extract 0 300)) ∧ w' = w := few_any s 300 w (by decide) hs
theorem few_600 (s : ByteArray) (w : World) (hs : s.size ≤ 9223372036854775807) :
    Calls Try.prog 17 #[.string s, .int .i64 600] w fun e w' => e = .returned (.string (s.extract 0 600)) ∧ w' = w := few_any s 600 w (by decide) hs
/-- A text in digits, closed to the walk. -/
def hexS (t : ByteArray) : ByteArray := bs (hexL t.data.toList)
theorem hexS_size (t : ByteArray) : (hexS t).size = 2 * t.size := by unfold hexS; rw [bs_size2, hexL_len, size_toList]
theorem hex_of (t : ByteArray) (w : World) (hs : t.size ≤ 70368744175616) :
    Calls Try.prog 19 #[.string t] w fun e w' => e = .returned (.string (hexS t)) ∧ Below w.heap.size w w' := hex_any t w hs
theorem rhex_of (t : ByteArray) (w : World) (hs : t.size ≤ 100000) :
    Calls Try.prog 21 #[.string t] w fun e w' => e = .returned (.string (hexS t)) ∧ Below w.heap.size w w' := rhex_any t w hs
theorem unhex_back (t : ByteArray) (w : World) (hs : t.size ≤ 1000000) :
    Calls Try.prog 20 #[.string (hexS t)] w fun e w' => e = .returned (.tuple #[.string t, .bool true]) ∧ Below w.heap.size w w' := by
  have h := unhex_any (hexS t) w (by rw [hexS_size]; omega)
  have e : unhex (hexS t).data.toList = some t.data.toList := by
    unfold hexS; rw [bs_data2]; exact unhex_hexB t.data.toList
  have e2 : bs (uhL (hexS t).data.toList) = t := by
    unfold uhL; rw [e]
    apply ba_ext
    rw [bs_data2, Option.getD_some, ofNat_map]
  rw [e2, e] at h
  exact h
theorem unhex_is (s : ByteArray) (l : List UInt8) (w : World) (hs : s.size ≤ 140737488351232) (hu : unhex s.data.toList = some l) :
    Calls Try.prog 20 #[.string s] w fun e w' => e = .returned (.tuple #[.string (bs (uhL s.data.toList)), .bool true]) ∧ Below w.heap.size w w' := by
  have h := unhex_any s w hs
  rw [show (unhex s.data.toList).isSome = true by rw [hu]; rfl] at h
  exact h
theorem unhex_not (s : ByteArray) (w : World) (hs : s.size ≤ 140737488351232) (hu : unhex s.data.toList = none) :
    Calls Try.prog 20 #[.string s] w fun e w' => e = .returned (.tuple #[.string ⟨#[]⟩, .bool false]) ∧ Below w.heap.size w w' := by
  have h := unhex_any s w hs
  rw [show (unhex s.data.toList).isSome = false by rw [hu]; rfl, uhL_none hu] at h
  exact h
theorem hexed_is (s : ByteArray) (l : List UInt8) (w : World) (hs : s.size ≤ 9223372036854775807) (hu : unhex s.data.toList = some l) :
    Calls Try.prog 22 #[.string s] w fun e w' => e = .returned (.bool true) ∧ Below w.heap.size w w' := by
  have h := hexed_any s w hs
  rw [show (unhex s.data.toList).isSome = true by rw [hu]; rfl] at h
  exact h
theorem hexed_not (s : ByteArray) (w : World) (hs : s.size ≤ 9223372036854775807) (hu : unhex s.data.toList = none) :
    Calls Try.prog 22 #[.string s] w fun e w' => e = .returned (.bool false) ∧ Below w.heap.size w w' := by
  have h := hexed_any s w hs
  rw [show (unhex s.data.toList).isSome = false by rw [hu]; rfl] at h
  exact h

set_option maxRecDepth 100000 in
set_option maxHeartbeats 1000000 in
theorem lawBitsDigits_walk (t s : ByteArray) (w : World) (ht : t.size ≤ 140737488351232) (hs : s.size ≤ 140737488351232) :
    Calls Try.prog 5 #[.string t, .string s] w fun e w' => e = .returned (.bool true) ∧ Below w.heap.size w w' := by
  have f1 := few_size t 300
  have f2 := few_size s 600
  go_enter Try.func5, Try.ntmps5
  go_wp2_with fail
  refine (few_300' _ _ (by omega)).mono ?_
  rintro e w0 ⟨rfl, rfl⟩
  go_wp2_with fail
  refine (few_600 _ _ (by omega)).mono ?_
  rintro e w0 ⟨rfl, rfl⟩
  have g1 : (t.extract 0 300).size ≤ 300 := by omega
  have g2 : (s.extract 0 600).size ≤ 600 := by omega
  clear f1 f2 ht hs
  generalize t.extract 0 300 = T at *
  generalize s.extract 0 600 = S at *
  go_wp2_with fail
  refine (hex_of _ _ (by omega)).mono ?_
  rintro e w1 ⟨rfl, hb1⟩
  go_wp2_with fail
  refine (unhex_back _ _ (by omega)).mono ?_
  rintro e w2 ⟨rfl, hb2⟩
  cases hu : unhex S.data.toList with
  | none =>
    have HU : Hid (_ = _) := hu
    clear hu
    go_wp2_with fail
    refine (unhex_not _ _ (by omega) HU.out).mono ?_
    rintro e w3 ⟨rfl, hb3⟩
    go_wp2_with fail
    refine (awake_any _).mono ?_
    rintro e w4 ⟨rfl, hb4⟩
    go_wp2_with fail
    refine (rhex_of _ _ (by omega)).mono ?_
    rintro e w5 ⟨rfl, hb5⟩
    go_wp2_with fail
    refine (hexed_not _ _ (by omega) HU.out).mono ?_
    rintro e w6 ⟨rfl, hb6⟩
    go_wp2
    go_ret
    exact ⟨rfl, below_trans (below_trans (below_trans (below_trans (below_trans hb1 hb2) hb3) hb4) hb5) hb6⟩
  | some l =>
    have HU : Hid (_ = _) := hu
    clear hu
    go_wp2_with fail
    refine (unhex_is _ l _ (by omega) HU.out).mono ?_
    rintro e w3 ⟨rfl, hb3⟩
    go_wp2_with fail
    refine (awake_any _).mono ?_
    rintro e w4 ⟨rfl, hb4⟩
    go_wp2_with fail
    refine (rhex_of _ _ (by omega)).mono ?_
    rintro e w5 ⟨rfl, hb5⟩
    go_wp2_with fail
    refine (hexed_is _ l _ (by omega) HU.out).mono ?_
    rintro e w6 ⟨rfl, hb6⟩
    go_wp2_with fail
    refine (runhex_any _ l _ (by omega) HU.out).mono ?_
    rintro e w7 ⟨rfl, hb7⟩
    go_wp2
    go_ret
    exact ⟨rfl, below_trans (below_trans (below_trans (below_trans (below_trans (below_trans hb1 hb2) hb3) hb4) hb5) hb6) hb7⟩
end Go.Proofs.Ytkphgjaklkfcfaa
