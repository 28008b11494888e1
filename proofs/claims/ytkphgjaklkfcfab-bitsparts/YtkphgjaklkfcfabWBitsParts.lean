/- The walk of the law BitsParts: it returns true at every input. -/
import Derived.Test.YtkphgjaklkfcfabAwake
import Derived.Test.YtkphgjaklkfcfabFew
import Derived.Test.YtkphgjaklkfcfabPartsM
import Derived.Deep.RegionHeld
import Derived.Deep.RegionWith
import Derived.Deep.DrawnRows
namespace Go.Proofs.Ytkphgjaklkfcfab
open Go.RowKit
attribute [local go_sem ↓] Go.wp_at_zero Go.wp_at_succ
set_option linter.unusedVariables false

theorem few_300 (s : ByteArray) (w : World) (hs : s.size ≤ 9223372036854775807) :
    Calls Try.prog 4 #[.string s, .int .i64 300] w fun e w' => e = .returned (.string (s.extract 0 300)) ∧ w' = w := few_any s 300 w (by decide) hs
theorem crc_nat (c : Nat) (s : ByteArray) (w : World) (hc : c < 4294967296) (hs : s.size ≤ 140737488351232) :
    Calls Try.prog 5 #[.int .u32 c, .string s] w fun e w' => e = .returned (.int .u32 (crcV c s.data.toList)) ∧ Below w.heap.size w w' := crc_any c s w (by omega) (by omega) hs
theorem append_data (a b : ByteArray) : (a ++ b).data.toList = a.data.toList ++ b.data.toList := by simp [ByteArray.data_append]
theorem conv_one (x : Nat) (hx : x < 256) (W : World) : (convert 27 9 (.slice (some ⟨W.heap.size, 0, none⟩) 1 1)).run Try.prog (W.alloc (.cells #[.int .u8 x] 5)) = .ok (.string (bs [x])) (W.alloc (.cells #[.int .u8 x] 5)) :=
  conv_bs (base := W.heap.size) (n := 1) (l := [x]) Try.underlying27 Try.underlying5 Try.underlying9 (World.ownsRow_lit W #[.int .u8 x] 1 (Nat.le_refl _) (by decide) rfl)

/-- The sum of a text, closed to the walk. -/
def crcOf (s : ByteArray) : Nat := crcV 0 s.data.toList
theorem crc32_of (s : ByteArray) (w : World) (hs : s.size ≤ 140737488351232) :
    Calls Try.prog 6 #[.string s] w fun e w' => e = .returned (.int .u32 (crcOf s)) ∧ Below w.heap.size w w' := crc32_any s w hs
theorem other_byte (S : ByteArray) (k x : Nat) (hk : k < S.size) (hx : x < 256) (h : ¬ S[k].toNat = x) : ((crcOf (S.extract 0 k ++ bs [x] ++ S.extract (k + 1) S.size) : Int) != (crcOf S : Int)) = true := by
  have e0 : (bs [x]).data.toList = [UInt8.ofNat x] := by simp [bs, strOfNums]
  have e1 : (S.extract 0 k ++ bs [x] ++ S.extract (k + 1) S.size).data.toList = S.data.toList.take k ++ UInt8.ofNat x :: S.data.toList.drop (k + 1) := by
    rw [append_data, append_data, few_data, extract_data, e0, List.take_of_length_le (l := S.data.toList.drop (k + 1)) (by rw [List.length_drop, size_toList]; omega)]
    simp
  have e2 : S.data.toList = S.data.toList.take k ++ S[k] :: S.data.toList.drop (k + 1) := by
    have := List.drop_eq_getElem_cons (l := S.data.toList) (i := k) (by rw [size_toList]; exact hk)
    have e : S[k] = S.data.toList[k]'(by rw [size_toList]; exact hk) := rfl
    rw [e, ← this, List.take_append_drop]
  have hn : UInt8.ofNat x ≠ S[k] := by
    intro e; apply h; rw [← e, UInt8.toNat_ofNat']; exact Nat.mod_eq_of_lt hx
  have := crcV_byte (S.data.toList.take k) (S.data.toList.drop (k + 1)) _ _ hn
  rw [← e1, ← e2] at this
  rw [bne_iff_ne]
  unfold crcOf
  omega

set_option maxRecDepth 100000 in
set_option maxHeartbeats 1000000 in
theorem lawBitsParts_walk (a b c : ByteArray) (at' x : Int) (w : World) (ha : a.size ≤ 140737488351232) (hb : b.size ≤ 140737488351232) (hc : c.size ≤ 140737488351232) (hat : -9223372036854775808 ≤ at' ∧ at' ≤ 9223372036854775807) (hx : 0 ≤ x ∧ x ≤ 255) :
    Calls Try.prog 3 #[.string a, .string b, .string c, .int .i64 at', .int .u8 x] w fun e w' => e = .returned (.bool true) ∧ Below w.heap.size w w' := by
  obtain ⟨hx0, hx1⟩ := hx
  obtain ⟨x, rfl⟩ := Int.eq_ofNat_of_zero_le hx0
  have hx : x < 256 := by omega
  clear hx0 hx1
  have f1 := few_size a 300
  have f2 := few_size b 300
  have f3 := few_size c 300
  go_enter Try.func3, Try.ntmps3
  go_wp2_with fail
  refine (few_300 _ _ (by omega)).mono ?_
  rintro e w1 ⟨rfl, rfl⟩
  go_wp2_with fail
  refine (few_300 _ _ (by omega)).mono ?_
  rintro e w1 ⟨rfl, rfl⟩
  go_wp2_with fail
  refine (few_300 _ _ (by omega)).mono ?_
  rintro e w1 ⟨rfl, rfl⟩
  have g1 : (a.extract 0 300).size ≤ 300 := by omega
  have g2 : (b.extract 0 300).size ≤ 300 := by omega
  have g3 : (c.extract 0 300).size ≤ 300 := by omega
  clear f1 f2 f3 ha hb hc
  generalize a.extract 0 300 = A at *
  generalize b.extract 0 300 = B at *
  generalize c.extract 0 300 = C at *
  have hsum := ByteArray.size_append (a := A) (b := B)
  have hsum2 := ByteArray.size_append (a := A ++ B) (b := C)
  have g4 : (A ++ B).size ≤ 600 := by omega
  have g5 : (A ++ B ++ C).size ≤ 900 := by omega
  have HV : Hid (crcV (crcV (crcV 0 A.data.toList) B.data.toList) C.data.toList = crcV 0 (A ++ B ++ C).data.toList) := by
    unfold Hid; rw [crcV_append, crcV_append, append_data, append_data, List.append_assoc]
  have hv1 := crcV_lt 0 A.data.toList
  have hv2 := crcV_lt (crcV 0 A.data.toList) B.data.toList
  clear hsum hsum2
  go_wp2_with fail
  generalize A ++ B ++ C = S at *
  refine (crc32_any _ _ (by omega)).mono ?_
  rintro e w2 ⟨rfl, hb2⟩
  go_wp2_with fail
  refine (crc_nat _ _ _ hv1 (by omega)).mono ?_
  rintro e w3 ⟨rfl, hb3⟩
  go_wp2_with fail
  refine (crc_nat _ _ _ hv2 (by omega)).mono ?_
  rintro e w4 ⟨rfl, hb4⟩
  rw [HV.out]
  clear HV hv1 hv2
  go_wp2_with fail
  refine (crc32_any _ _ (by omega)).mono ?_
  rintro e w5 ⟨rfl, hb5⟩
  have hb := below_trans (below_trans (below_trans hb2 hb3) hb4) hb5
  clear hb2 hb3 hb4 hb5
  by_cases h0 : at' < 0
  · go_wp2_with fail
    refine (awake_any _).mono ?_
    rintro e w6 ⟨rfl, hb6⟩
    go_wp2
    go_ret
    exact ⟨rfl, below_trans hb hb6⟩
  · obtain ⟨k, rfl⟩ := Int.eq_ofNat_of_zero_le (show 0 ≤ at' by omega)
    have h0' : decide ((k : Int) < 0) = false := by simp
    by_cases hk : S.size ≤ k
    · have hk' : (S.size : Int) ≤ (k : Int) := by omega
      go_wp2_with fail
      refine (awake_any _).mono ?_
      rintro e w6 ⟨rfl, hb6⟩
      go_wp2
      go_ret
      exact ⟨rfl, below_trans hb hb6⟩
    · have hk1 : k < S.size := by omega
      have hk' : decide ((S.size : Int) ≤ (k : Int)) = false := by simp; omega
      by_cases hq : S[k].toNat = x
      · have hq' : ((S[k].toNat : Int) == (x : Int)) = true := by simp [hq]
        go_wp2_with fail
        refine (awake_any _).mono ?_
        rintro e w6 ⟨rfl, hb6⟩
        go_wp2
        go_ret
        exact ⟨rfl, below_trans hb hb6⟩
      · have hq' : ((S[k].toNat : Int) == (x : Int)) = false := by simp; omega
        have hconv := conv_one x hx
        have i0 : (0 : Int) ≤ (k : Int) := by omega
        have i1 : (k : Int) ≤ (S.size : Int) := by omega
        have i2 : (k : Int) + 1 ≤ (S.size : Int) := by omega
        have i3 : IntKind.i64.wrap ((k : Int) + 1) = (k : Int) + 1 := by rw [IntKind.wrap_i64]; omega
        have i4 : (0 : Int) ≤ (k : Int) + 1 := by omega
        go_wp2
        have hT : True := trivial
        have s1 : (S.extract 0 k).size ≤ 900 := by rw [few_size]; omega
        have s2 : (bs [x]).size ≤ 1 := by simp [bs, strOfNums, ByteArray.size]
        have s3 : (S.extract (k + 1) S.size).size ≤ 900 := by rw [← size_toList, extract_data, List.length_take, List.length_drop, size_toList]; omega
        have s4 : (S.extract 0 k ++ bs [x]).size ≤ 901 := by rw [ByteArray.size_append]; omega
        have s5 : (S.extract 0 k ++ bs [x] ++ S.extract (k + 1) S.size).size ≤ 2000 := by rw [ByteArray.size_append]; omega
        have hne : ((crcOf (S.extract 0 k ++ bs [x] ++ S.extract (k + 1) S.size) : Int) != (crcOf S : Int)) = true := other_byte S k x hk1 hx hq
        clear hq hq'
        go_region_held (fun _ => True) (trivial) (first | (go_at_call 7; refine (awake_any _).mono ?_; rintro e w6 ⟨rfl, hb6⟩) | (go_at_call_of 6 (bs [x]); refine (crc32_of _ _ (by omega)).mono ?_; rintro e w7 ⟨rfl, hb7⟩) | (go_at_call 6; refine (crc32_of _ _ (by omega)).mono ?_; rintro e w8 ⟨rfl, hb8⟩))
        have hz := (((hb.drew.trans (hb6.mono hb.size)).alloc (Nat.le_trans hb.size hb6.size) (.cells #[.int .u8 (x : Int)] 5)).trans (hb7.mono (by rw [World.size_alloc]; exact Nat.le_succ_of_le (Nat.le_trans hb.size hb6.size)))).trans (hb8.mono (Nat.le_trans (by rw [World.size_alloc]; exact Nat.le_succ_of_le (Nat.le_trans hb.size hb6.size)) hb7.size))
        clear hb hb6 hb7 hb8 hconv
        go_wp2
        go_ret
        exact ⟨rfl, hz⟩
end Go.Proofs.Ytkphgjaklkfcfab
