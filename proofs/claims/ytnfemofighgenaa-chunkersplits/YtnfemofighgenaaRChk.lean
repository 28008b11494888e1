/- Contracts of the document's Check, Print and Split of layer 10. -/
import Derived.Test.YtnfemofighgenaaRPolD
import Derived.Test.YtnfemofighgenaaChkQ
namespace Go.Proofs.Ytnfemofighgenaa
open Go.RowKit
set_option linter.unusedVariables false

set_option maxHeartbeats 1000000 in
theorem rcheck_any (mn bt mx : Int) (w : World) :
    Calls Try.prog 29 #[.int .i64 mn, .int .i64 bt, .int .i64 mx] w fun e w' => e = .returned (.int .i64 (errC mn bt mx : Nat)) ∧ w' = w := by
  have HE : Hid (errC mn bt mx = if mn < 1 ∨ mx < mn ∨ bt < 0 ∨ 20 < bt then 1 else if 4096 < mx then 2 else 0) := rfl
  by_cases h0 : mn < 1
  · have HE : Hid (errC mn bt mx = 1) := by rw [HE.out, if_pos (Or.inl h0)]; exact rfl
    go_enter Try.func29, Try.ntmps29
    go_wp2
    go_ret
    rw [HE.out]; exact ⟨rfl, rfl⟩
  have d0 : decide (mn < 1) = false := by simpa using h0
  by_cases h1 : mx < mn
  · have HE : Hid (errC mn bt mx = 1) := by rw [HE.out, if_pos (Or.inr (Or.inl h1))]; exact rfl
    go_enter Try.func29, Try.ntmps29
    go_wp2
    go_ret
    rw [HE.out]; exact ⟨rfl, rfl⟩
  have d1 : decide (mx < mn) = false := by simpa using h1
  by_cases h2 : bt < 0
  · have HE : Hid (errC mn bt mx = 1) := by rw [HE.out, if_pos (Or.inr (Or.inr (Or.inl h2)))]; exact rfl
    go_enter Try.func29, Try.ntmps29
    go_wp2
    go_ret
    rw [HE.out]; exact ⟨rfl, rfl⟩
  have d2 : decide (bt < 0) = false := by simpa using h2
  by_cases h3 : 20 < bt
  · have HE : Hid (errC mn bt mx = 1) := by rw [HE.out, if_pos (Or.inr (Or.inr (Or.inr h3)))]; exact rfl
    go_enter Try.func29, Try.ntmps29
    go_wp2
    go_ret
    rw [HE.out]; exact ⟨rfl, rfl⟩
  have d3 : decide (20 < bt) = false := by simpa using h3
  by_cases h5 : 4096 < mx
  · have HE : Hid (errC mn bt mx = 2) := by rw [HE.out, if_neg (by omega), if_pos h5]; exact rfl
    go_enter Try.func29, Try.ntmps29
    go_wp2
    go_ret
    rw [HE.out]; exact ⟨rfl, rfl⟩
  · have HE : Hid (errC mn bt mx = 0) := by rw [HE.out, if_neg (by omega), if_neg h5]; exact rfl
    go_enter Try.func29, Try.ntmps29
    go_wp2
    go_ret
    rw [HE.out]; exact ⟨rfl, rfl⟩
theorem fpr_take (s : List UInt8) (i : Nat) (h : i < s.length) (fr : Nat) (hf : fr = i - 15) : pm (beN ((s.drop fr).take (i + 1 - fr))) PR = fpr (s.take (i + 1)) := by
  unfold fpr
  rw [beN_L16]
  congr 2
  rw [List.length_take, show min (i + 1) s.length = i + 1 by omega, List.drop_take, show i + 1 - 16 = fr by omega]
set_option maxRecDepth 100000 in
set_option maxHeartbeats 1000000 in
theorem rprint_any (s : ByteArray) (i : Nat) (w : World) (hs : s.size ≤ 1000000) (hi : i < s.size) :
    Calls Try.prog 43 #[.string s, .int .i64 (i : Int)] w fun e w' => e = .returned (.int .u64 ((fpr (s.data.toList.take (i + 1)) : Nat) : Int)) ∧ Below w.heap.size w w' := by
  have hii : (i : Int) < (s.size : Int) := by omega
  by_cases h : i < 15
  · have hx : (i : Int) - 15 < 0 := by omega
    have hsz : (s.extract 0 (i + 1)).size ≤ 1000 := by rw [few_size]; omega
    have HE : Hid (pm (beN (s.extract 0 (i + 1)).data.toList) PR = fpr (s.data.toList.take (i + 1))) := by
      unfold Hid
      rw [extract_data]
      exact fpr_take s.data.toList i (by rw [size_toList]; exact hi) 0 (by omega)
    go_enter Try.func43, Try.ntmps43
    go_wp2_with fail
    refine (rtextP_any (s.extract 0 (i + 1)) _ hsz).mono ?_
    rintro e w1 ⟨v, L, rfl, hO, hL, hN, hB⟩
    go_wp2_with fail
    refine (rrest_any _ _ PR _ hO.rb (by omega) PR_lt PR_ne).mono ?_
    rintro e w2 ⟨rfl, hB2⟩
    have hB2 := hB.trans (hB2.mono hB.size)
    rw [hN, HE.out]
    clear hO hN hL
    go_wp2
    go_ret
    exact ⟨rfl, hB2⟩
  · obtain ⟨fr, hfr⟩ : ∃ fr : Nat, (i : Int) - 15 = (fr : Int) := ⟨i - 15, by omega⟩
    have hx : ¬ ((fr : Int) < 0) := by omega
    have hfi : fr ≤ i + 1 := by omega
    have hsz : (s.extract fr (i + 1)).size ≤ 1000 := by rw [ByteArray.size_extract]; omega
    have HE : Hid (pm (beN (s.extract fr (i + 1)).data.toList) PR = fpr (s.data.toList.take (i + 1))) := by
      unfold Hid
      rw [extract_data]
      exact fpr_take s.data.toList i (by rw [size_toList]; exact hi) fr (by omega)
    go_enter Try.func43, Try.ntmps43
    go_wp2_with fail
    refine (rtextP_any (s.extract fr (i + 1)) _ hsz).mono ?_
    rintro e w1 ⟨v, L, rfl, hO, hL, hN, hB⟩
    go_wp2_with fail
    refine (rrest_any _ _ PR _ hO.rb (by omega) PR_lt PR_ne).mono ?_
    rintro e w2 ⟨rfl, hB2⟩
    have hB2 := hB.trans (hB2.mono hB.size)
    rw [hN, HE.out]
    clear hO hN hL
    go_wp2
    go_ret
    exact ⟨rfl, hB2⟩
end Go.Proofs.Ytnfemofighgenaa
