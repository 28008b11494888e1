/- Contract of the document's byteOf: the byte of a pair of digits. -/
import Derived.Test.YtpfjcdfhlcnlcaaPairs
import Derived.Test.YtpfjcdfhlcnlcaaFew
namespace Go.Proofs.Ytpfjcdfhlcnlcaa
open Go.RowKit
set_option linter.unusedVariables false

theorem pairS_eq (m : Nat) (a b : UInt8) (t : ByteArray) (ht : t.data.toList = [a, b]) (hm : m < 256) : ((pairS m).toList == t.toList) = decide (dig (m / 16) = a.toNat ∧ dig (m % 16) = b.toNat) := by
  have d1 := dig_lt ⟨m / 16, by omega⟩
  have d2 := dig_lt ⟨m % 16, by omega⟩
  simp only at d1 d2
  have e1 : (UInt8.ofNat (dig (m / 16))).toNat = dig (m / 16) := by rw [UInt8.toNat_ofNat']; exact Nat.mod_eq_of_lt (by omega)
  have e2 : (UInt8.ofNat (dig (m % 16))).toNat = dig (m % 16) := by rw [UInt8.toNat_ofNat']; exact Nat.mod_eq_of_lt (by omega)
  have e : (pairS m).data.toList = [UInt8.ofNat (dig (m / 16)), UInt8.ofNat (dig (m % 16))] := by simp [pairS, bs, strOfNums]
  rw [ByteArray.toList_eq, ByteArray.toList_eq, e, ht]
  by_cases h : dig (m / 16) = a.toNat ∧ dig (m % 16) = b.toNat
  · have f1 : UInt8.ofNat (dig (m / 16)) = a := UInt8.toNat_inj.1 (by rw [e1]; exact h.1)
    have f2 : UInt8.ofNat (dig (m % 16)) = b := UInt8.toNat_inj.1 (by rw [e2]; exact h.2)
    rw [f1, f2]; simp [h]
  · have : [UInt8.ofNat (dig (m / 16)), UInt8.ofNat (dig (m % 16))] ≠ [a, b] := by
      intro x
      simp only [List.cons.injEq, and_true] at x
      apply h
      rw [← e1, ← e2, x.1, x.2]; exact ⟨rfl, rfl⟩
    rw [decide_eq_false h]
    exact beq_eq_false_iff_ne.2 this
theorem pair_hit (m : Nat) (a b : UInt8) (hm : m < 256) (h : dig (m / 16) = a.toNat ∧ dig (m % 16) = b.toNat) : wor a.toNat < 16 ∧ wor b.toNat < 16 ∧ 16 * wor a.toNat + wor b.toNat = m := by
  have w1 := wor_dig ⟨m / 16, by omega⟩
  have w2 := wor_dig ⟨m % 16, by omega⟩
  simp only at w1 w2
  rw [← h.1, ← h.2, w1, w2]; omega
theorem pair_miss (a b : UInt8) (ha : wor a.toNat < 16) (hb : wor b.toNat < 16) : dig ((16 * wor a.toNat + wor b.toNat) / 16) = a.toNat ∧ dig ((16 * wor a.toNat + wor b.toNat) % 16) = b.toNat := by
  have d1 := dig_wor ⟨a.toNat, a.toNat_lt⟩ ha
  have d2 := dig_wor ⟨b.toNat, b.toNat_lt⟩ hb
  simp only at d1 d2
  rw [show (16 * wor a.toNat + wor b.toNat) / 16 = wor a.toNat by omega, show (16 * wor a.toNat + wor b.toNat) % 16 = wor b.toNat by omega, d1, d2]; exact ⟨rfl, rfl⟩
/-- The byte of a pair; -1: it is none. -/
def byOf (a b : UInt8) : Int := if wor a.toNat < 16 ∧ wor b.toNat < 16 then (16 * wor a.toNat + wor b.toNat : Nat) else -1

set_option maxRecDepth 100000 in
set_option maxHeartbeats 1000000 in
theorem byteOf_any (t : ByteArray) (a b : UInt8) (ht : t.data.toList = [a, b]) (w : World) :
    Calls Try.prog 49 #[.string t] w fun e w' => e = .returned (.int .i64 (byOf a b)) ∧ Below w.heap.size w w' := by
  have HT : Hid _ := ht
  clear ht
  go_enter Try.func49, Try.ntmps49
  go_wp2_with fail
  refine (pairs_any _).mono ?_
  rintro e w1 ⟨g, cap, rfl, hown, hb1⟩
  have hcell : Hid (∀ m, m < 256 → w1.cell? ⟨g, m, none⟩ = some (.string (pairS m))) := fun m hm => by rw [hown.cellAt m (by omega), prs_at 256 m hm]
  clear hown
  go_wp2
  go_loop [7] (fun x => ∃ k : Nat, k ≤ 256 ∧ x = .int .i64 k ∧ ∀ m, m < k → ¬ (dig (m / 16) = a.toNat ∧ dig (m % 16) = b.toNat)) (fun x => 256 - (intOf x).toNat)
  case atStart => exact ⟨0, by omega, rfl, fun m hm => by omega⟩
  case round =>
    obtain ⟨k, hk, rfl, hno⟩ := hrel
    by_cases hlt : k < 256
    · have hc := hcell.out k hlt
      have hlt' : (k : Int) < 256 := by omega
      have hq := pairS_eq k a b t HT.out hlt
      by_cases hh : dig (k / 16) = a.toNat ∧ dig (k % 16) = b.toNat
      · rw [decide_eq_true hh] at hq
        have HB : Hid (byOf a b = (k : Int)) := by
          obtain ⟨x, y, z⟩ := pair_hit k a b hlt hh
          unfold Hid byOf; rw [if_pos ⟨x, y⟩, z]
        clear hh hno
        go_wp2
        go_ret
        rw [HB.out]
        exact ⟨rfl, hb1⟩
      · rw [decide_eq_false hh] at hq
        have HN : Hid (∀ m, m < k + 1 → ¬ (dig (m / 16) = a.toNat ∧ dig (m % 16) = b.toNat)) := by
          intro m hm
          by_cases e : m < k
          · exact hno m e
          · obtain rfl : m = k := by omega
            exact hh
        clear hh hno
        go_wp2
        go_round
        case rel => exact ⟨k + 1, by omega, by go_num, HN.out⟩
        case measure => simp [intOf]; omega
    · have HB : Hid (byOf a b = -1) := by
        unfold Hid byOf
        rw [if_neg]
        intro ⟨x, y⟩
        exact hno _ (by omega) (pair_miss a b x y)
      clear hno
      go_wp2
      go_ret
      rw [HB.out]
      exact ⟨rfl, hb1⟩
end Go.Proofs.Ytpfjcdfhlcnlcaa
