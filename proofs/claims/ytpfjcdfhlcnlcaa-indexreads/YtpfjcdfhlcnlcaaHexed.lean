/- Contract of the document's Hexed: is it a row of pairs? -/
import Derived.Test.YtpfjcdfhlcnlcaaByteOf
namespace Go.Proofs.Ytpfjcdfhlcnlcaa
open Go.RowKit
set_option linter.unusedVariables false

def strLen : Value → Nat
  | .string t => t.size
  | _ => 0
theorem two_front (l : List UInt8) (h : 2 ≤ l.length) : ∃ a b r, l = a :: b :: r := by
  match l, h with
  | a :: b :: r, _ => exact ⟨a, b, r, rfl⟩
theorem byOf_none {a b : UInt8} (h : byOf a b < 0) : ¬ (wor a.toNat < 16 ∧ wor b.toNat < 16) := by
  intro x; unfold byOf at h; rw [if_pos x] at h; omega
theorem byOf_some {a b : UInt8} (h : ¬ byOf a b < 0) : wor a.toNat < 16 ∧ wor b.toNat < 16 := by
  by_cases x : wor a.toNat < 16 ∧ wor b.toNat < 16
  · exact x
  · unfold byOf at h; rw [if_neg x] at h; omega

set_option maxRecDepth 100000 in
set_option maxHeartbeats 1000000 in
theorem hexed_any (s : ByteArray) (w : World) (hs : s.size ≤ 9223372036854775807) :
    Calls Try.prog 42 #[.string s] w fun e w' => e = .returned (.bool (unhex s.data.toList).isSome) ∧ Below w.heap.size w w' := by
  go_enter Try.func42, Try.ntmps42
  go_wp2
  go_loopw [0] (fun v wr => ∃ t : ByteArray, t.size ≤ s.size ∧ v = .string t ∧ (unhex s.data.toList).isSome = (unhex t.data.toList).isSome ∧ Below w.heap.size w wr) (fun v _ => strLen v)
  case atStart => exact ⟨s, by omega, rfl, rfl, Below.refl _ _⟩
  case round =>
    obtain ⟨t, hts, rfl, hu, hbel⟩ := hrel
    have HU : Hid (_ = _) := hu
    clear hu
    by_cases h2 : 2 ≤ t.size
    · obtain ⟨a, b, r, ht⟩ := two_front t.data.toList (by rw [size_toList]; exact h2)
      have hf : (t.extract 0 2).data.toList = [a, b] := by rw [few_data, ht]; rfl
      have hr : (t.extract 2 t.size).data.toList = r := by
        rw [extract_data, ht]
        have : t.size = r.length + 2 := by rw [← size_toList, ht]; rfl
        rw [this]; simp
      have HR : Hid _ := hr
      have HT : Hid _ := ht
      have hrs : (t.extract 2 t.size).size + 2 = t.size := by
        have : t.size = r.length + 2 := by rw [← size_toList, ht]; rfl
        rw [← size_toList, hr]; omega
      have HRS : Hid _ := hrs
      clear hr ht hrs
      by_cases hn : byOf a b < 0
      · have HN : Hid ((unhex s.data.toList).isSome = false) := by
          unfold Hid; rw [HU.out, HT.out, unhex, if_neg (byOf_none hn)]; rfl
        clear HU HT
        go_wp2_with fail
        refine (byteOf_any _ a b hf _).mono ?_
        rintro e w1 ⟨rfl, hb1⟩
        have hb2 := hbel.trans (hb1.mono hbel.size)
        go_wp2
        go_ret
        rw [HN.out]
        exact ⟨rfl, hb2⟩
      · have HN : Hid ((unhex s.data.toList).isSome = (unhex (t.extract 2 t.size).data.toList).isSome) := by
          unfold Hid; rw [HU.out, HT.out, HR.out, unhex, if_pos (byOf_some hn)]
          cases unhex r <;> rfl
        clear HU HT
        go_wp2_with fail
        refine (byteOf_any _ a b hf _).mono ?_
        rintro e w1 ⟨rfl, hb1⟩
        have hb2 := hbel.trans (hb1.mono hbel.size)
        clear hb1 hbel
        go_wp2
        go_roundw
        case rel => exact ⟨_, by have := HRS.out; omega, rfl, HN.out, hb2⟩
        case measure => have := HRS.out; show (t.extract 2 t.size).size < t.size; omega
    · have hle : t.size ≤ 1 := by omega
      have HE : Hid ((unhex s.data.toList).isSome = t.toList.isEmpty) := by
        unfold Hid
        rw [HU.out, ByteArray.toList_eq]
        have hl : t.data.toList.length ≤ 1 := by rw [size_toList]; exact hle
        match h : t.data.toList, hl with
        | [], _ => rfl
        | [x], _ => rfl
      clear HU
      go_wp2
      all_goals
        go_ret
        refine ⟨?_, hbel⟩
        rw [HE.out]; rfl
end Go.Proofs.Ytpfjcdfhlcnlcaa
