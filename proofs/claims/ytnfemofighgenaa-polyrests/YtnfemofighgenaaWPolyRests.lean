/- The walk of PolyRests. -/
import Derived.Test.YtnfemofighgenaaPolyD
import Derived.Test.YtnfemofighgenaaRPolC
namespace Go.Proofs.Ytnfemofighgenaa
open Go.RowKit
set_option linter.unusedVariables false

set_option maxRecDepth 100000 in
set_option maxHeartbeats 2000000 in
theorem lawPolyRests_walk (p q m : Int) (w : World) (hp : 0 ≤ p ∧ p ≤ 18446744073709551615) (hq : 0 ≤ q ∧ q ≤ 18446744073709551615) (hm : 0 ≤ m ∧ m ≤ 18446744073709551615) :
    Calls Try.prog 3 #[.int .u64 p, .int .u64 q, .int .u64 m] w fun e w' => e = .returned (.bool true) ∧ Below w.heap.size w w' := by
  obtain ⟨p, rfl⟩ := Int.eq_ofNat_of_zero_le hp.1
  obtain ⟨q, rfl⟩ := Int.eq_ofNat_of_zero_le hq.1
  obtain ⟨m, rfl⟩ := Int.eq_ofNat_of_zero_le hm.1
  have hp : p < 18446744073709551616 := by omega
  have hq : q < 18446744073709551616 := by omega
  have hm : m < 18446744073709551616 := by omega
  have hx := u64_xor_nat p q hp hq
  have hpl : (bo p).length ≤ 64 := by rw [bo_len]; exact bl64 hp
  have hql : (bo q).length ≤ 64 := by rw [bo_len]; exact bl64 hq
  go_enter Try.func3, Try.ntmps3
  go_wp2_with fail
  refine (awake9_any _).mono ?_
  rintro e w' ⟨rfl, rfl⟩
  go_wp2_with fail
  refine (degree_any _ _ hp).mono ?_
  rintro e w' ⟨rfl, rfl⟩
  go_wp2_with fail
  refine (rdegree_any _ _ hp).mono ?_
  rintro e w1 ⟨rfl, hB1⟩
  go_wp2_with fail
  refine (padd_any _ _ _ hp hq).mono ?_
  rintro e w2 ⟨rfl, rfl⟩
  by_cases hf : fitP m = true
  · have h0 : m ≠ 0 := bl_pos.1 (by have := (fitP_iff m).1 hf; omega)
    go_wp2_with fail
    refine (mod_good _ _ _ hp hm hf).mono ?_
    rintro e w2 ⟨rfl, rfl⟩
    unfold okP
    go_wp2_with fail
    refine (ptimes_good _ _ _ _ hp hq hm hf).mono ?_
    rintro e w2 ⟨rfl, rfl⟩
    unfold okP
    go_wp2_with fail
    refine (rfit_any _ _ hm).mono ?_
    rintro e w3 ⟨rfl, hB3⟩
    have hB3 := hB1.trans (hB3.mono hB1.size)
    rw [hf]
    go_wp2_with fail
    refine (rlist_any _ _ hp).mono ?_
    rintro e w4 ⟨v4, rfl, hO4, hB4⟩
    have hB4 := hB3.trans (hB4.mono hB3.size)
    go_wp2_with fail
    refine (rrest_any _ _ _ _ hO4.rb (by omega) hm h0).mono ?_
    rintro e w5 ⟨rfl, hB5⟩
    have hB5 := hB4.trans (hB5.mono hB4.size)
    have HE1 : Hid (_ = _) := nb_bo p
    rw [HE1.out]
    clear hO4
    go_wp2_with fail
    refine (rlist_any _ _ hp).mono ?_
    rintro e w6 ⟨v6, rfl, hO6, hB6⟩
    have hB6 := hB5.trans (hB6.mono hB5.size)
    go_wp2_with fail
    refine (rlist_any _ _ hq).mono ?_
    rintro e w7 ⟨v7, rfl, hO7, hb7⟩
    have hB7 := hB6.trans (hb7.mono hB6.size)
    go_wp2_with fail
    refine (rproduct_any _ _ _ _ _ (hO6.below hb7).rb hO7.rb hpl hql).mono ?_
    rintro e w8 ⟨v8, L, rfl, hO8, hL, hN, hB8⟩
    have hB8 := hB7.trans (hB8.mono hB7.size)
    have HE2 : Hid (nb L = cm p q) := by rw [hN, nb_bo, nb_bo]; exact rfl
    clear hO6 hO7 hb7 hN
    go_wp2_with fail
    refine (rrest_any _ _ _ _ hO8.rb (by omega) hm h0).mono ?_
    rintro e w9 ⟨rfl, hB9⟩
    have hB9 := hB8.trans (hB9.mono hB8.size)
    rw [HE2.out, show pm (cm p q) m = tm m p q from rfl]
    clear hO8 HE2 hL
    go_wp2
    go_ret
    exact ⟨rfl, hB9⟩
  · have hf : fitP m = false := by simpa using hf
    go_wp2_with fail
    refine (mod_bad _ _ _ hm hf).mono ?_
    rintro e w2 ⟨rfl, rfl⟩
    unfold badP
    go_wp2_with fail
    refine (ptimes_bad _ _ _ _ hm hf).mono ?_
    rintro e w2 ⟨rfl, rfl⟩
    unfold badP
    go_wp2_with fail
    refine (rfit_any _ _ hm).mono ?_
    rintro e w3 ⟨rfl, hB3⟩
    have hB3 := hB1.trans (hB3.mono hB1.size)
    rw [hf]
    go_wp2
    go_ret
    exact ⟨rfl, hB3⟩
end Go.Proofs.Ytnfemofighgenaa
