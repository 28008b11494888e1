/- Contracts of poly's Degree, Add, fit, rest, shift, times. -/
import Derived.Test.YtnfemofighgenabRows
import Derived.Test.YtnfemofighgenabBase
import Derived.Test.YtnfemofighgenabPolyG
import Derived.Test.YtnfemofighgenabShelf
import Derived.Lib.ItoaNum
namespace Go.Proofs.Ytnfemofighgenab
open Go.RowKit
set_option linter.unusedVariables false

theorem bitLen_bl (x : Nat) (h : x < 18446744073709551616) : Lib.bitLen x = bl x := by
  by_cases h0 : x = 0
  · subst h0; rfl
  · have := Lib.bitLenAux_bounds 64 x (by omega) h0
    obtain ⟨a, b, c⟩ := this
    have e : Lib.bitLen x = Lib.bitLenAux 64 x := rfl
    rw [e]
    obtain ⟨k, hk⟩ : ∃ k, Lib.bitLenAux 64 x = k + 1 := ⟨Lib.bitLenAux 64 x - 1, by omega⟩
    rw [hk] at b c ⊢
    exact (bl_of b c).symm
theorem bl64 {x : Nat} (h : x < 18446744073709551616) : bl x ≤ 64 := (bl_le x 64).2 h
theorem lt64 {x : Nat} (h : bl x ≤ 64) : x < 18446744073709551616 := (bl_le x 64).1 h
theorem xor64 {a b : Nat} (ha : a < 18446744073709551616) (hb : b < 18446744073709551616) : a ^^^ b < 18446744073709551616 := Nat.xor_lt_two_pow (n := 64) ha hb

set_option maxHeartbeats 400000 in
theorem degree_any (p : Nat) (w : World) (hp : p < 18446744073709551616) :
    Calls Try.prog 25 #[.int .u64 p] w fun e w' => e = .returned (.int .i64 ((bl p : Int) - 1)) ∧ w' = w := by
  have hb := bl64 hp
  have HE : Hid (_ = _) := bitLen_bl p hp
  go_enter Try.func25, Try.ntmps25
  go_wp2_with (go_at_call 32; refine (Try.bits_Len64 _ _ (by omega) (by omega)).mono ?_; rintro e w' ⟨rfl, rfl⟩; rw [Int.toNat_natCast, HE.out])
  go_ret
  exact ⟨rfl, rfl⟩
set_option maxHeartbeats 400000 in
theorem padd_any (p q : Nat) (w : World) (hp : p < 18446744073709551616) (hq : q < 18446744073709551616) :
    Calls Try.prog 28 #[.int .u64 p, .int .u64 q] w fun e w' => e = .returned (.int .u64 (p ^^^ q : Nat)) ∧ w' = w := by
  have h := u64_xor_nat p q hp hq
  go_enter Try.func28, Try.ntmps28
  go_wp2
  go_ret
  exact ⟨rfl, rfl⟩
theorem fitP_iff (m : Nat) : fitP m = true ↔ 2 ≤ bl m ∧ bl m ≤ 63 := by simp [fitP]
theorem fitP_no (m : Nat) : fitP m = false ↔ ¬ (2 ≤ bl m ∧ bl m ≤ 63) := by rw [← fitP_iff]; simp
set_option maxHeartbeats 400000 in
theorem fit_any (m : Nat) (w : World) (hm : m < 18446744073709551616) :
    Calls Try.prog 24 #[.int .u64 m] w fun e w' => e = .returned (.bool (fitP m)) ∧ w' = w := by
  have hb := bl64 hm
  by_cases h1 : 2 ≤ bl m
  · by_cases h2 : bl m ≤ 63
    · have HE : Hid (_ = _) := (fitP_iff m).2 ⟨h1, h2⟩
      have hd : decide ((bl m : Int) - 1 ≤ 62) = true := by simp; omega
      go_enter Try.func24, Try.ntmps24
      go_wp2_with (go_at_call 25; refine (degree_any _ _ hm).mono ?_; rintro e w' ⟨rfl, rfl⟩)
      go_ret
      rw [HE.out]; exact ⟨rfl, rfl⟩
    · have HE : Hid (_ = _) := (fitP_no m).2 (fun h => h2 h.2)
      have hd : decide ((bl m : Int) - 1 ≤ 62) = false := by simp; omega
      go_enter Try.func24, Try.ntmps24
      go_wp2_with (go_at_call 25; refine (degree_any _ _ hm).mono ?_; rintro e w' ⟨rfl, rfl⟩)
      go_ret
      rw [HE.out]; exact ⟨rfl, rfl⟩
  · have HE : Hid (_ = _) := (fitP_no m).2 (fun h => h1 h.1)
    go_enter Try.func24, Try.ntmps24
    go_wp2_with (go_at_call 25; refine (degree_any _ _ hm).mono ?_; rintro e w' ⟨rfl, rfl⟩)
    go_ret
    rw [HE.out]; exact ⟨rfl, rfl⟩

theorem wrap64_id {m k : Nat} (h : m * 2 ^ k < 18446744073709551616) : IntKind.u64.wrap ((m : Int) * 2 ^ k) = ((m * 2 ^ k : Nat) : Int) := by
  have e : ((m : Int) * 2 ^ k) = ((m * 2 ^ k : Nat) : Int) := by simp
  rw [e]
  have : IntKind.u64.wrap ((m * 2 ^ k : Nat) : Int) = (((m * 2 ^ k) % 18446744073709551616 : Nat) : Int) := by simp [IntKind.wrap, IntKind.bits, IntKind.signed]
  rw [this, Nat.mod_eq_of_lt h]
theorem rest_room {q m : Nat} (hm : m ≠ 0) (hq : q < 18446744073709551616) (h : bl m ≤ bl q) : m * 2 ^ (bl q - bl m) < 18446744073709551616 := by
  have := bl_mul_pow m (bl q - bl m) hm
  exact lt64 (by have := bl64 hq; omega)
set_option maxHeartbeats 400000 in
theorem rest_any (p m : Nat) (w : World) (hp : p < 18446744073709551616) (hm : m < 18446744073709551616) (h0 : m ≠ 0) :
    Calls Try.prog 34 #[.int .u64 p, .int .u64 m] w fun e w' => e = .returned (.int .u64 (pm p m : Nat)) ∧ w' = w := by
  have hb := bl64 hm
  have hmp := bl_pos.2 h0
  go_enter Try.func34, Try.ntmps34
  go_wp2_with (go_at_call 25; refine (degree_any _ _ hm).mono ?_; rintro e w' ⟨rfl, rfl⟩)
  go_loop [0] (fun v => ∃ q : Nat, q < 18446744073709551616 ∧ pm q m = pm p m ∧ v = .int .u64 q) (fun v => bl (intOf v).toNat)
  case atStart => exact ⟨p, hp, rfl, rfl⟩
  case round =>
    obtain ⟨q, hq, he, rfl⟩ := hrel
    have HE : Hid (_ = _) := he
    clear he
    have hqb := bl64 hq
    by_cases hlt : bl m ≤ bl q
    · have hr := rest_room h0 hq hlt
      have hx : bits BinOp.xor IntKind.u64 (q : Int) (IntKind.u64.wrap ((m : Int) * 2 ^ (bl q - bl m))) = ((q ^^^ m * 2 ^ (bl q - bl m) : Nat) : Int) := by
        rw [← u64_xor_nat q (m * 2 ^ (bl q - bl m)) hq hr, wrap64_id hr]
      have hl := xor64 hq hr
      have hs := bl_step h0 (show ¬ bl q < bl m by omega)
      have HS : Hid (_ = _) := pm_step h0 (show ¬ bl q < bl m by omega)
      have e1 : ((bl q : Int) - 1 - ((bl m : Int) - 1)) = ((bl q - bl m : Nat) : Int) := by omega
      go_wp2_with (go_at_call 25; refine (degree_any _ _ hq).mono ?_; rintro e w' ⟨rfl, rfl⟩)
      go_round
      case rel => exact ⟨_, hl, HS.out.trans HE.out, rfl⟩
      case measure => simp [intOf]; omega
    · have HS : Hid (_ = _) := pm_small (show bl q < bl m by omega)
      go_wp2_with (go_at_call 25; refine (degree_any _ _ hq).mono ?_; rintro e w' ⟨rfl, rfl⟩)
      go_ret
      rw [← HE.out, HS.out]
      exact ⟨rfl, rfl⟩

theorem or_bit {p b : Nat} (hb : b < 2) (hp : p < 9223372036854775808) : bits .or .u64 ((p : Int) * 2) (b : Int) = ((2 * p + b : Nat) : Int) := by
  have e : ((p : Int) * 2) = ((2 * p : Nat) : Int) := by omega
  rw [e, u64_or_nat _ _ (by omega) (by omega)]
  have := Nat.two_pow_add_eq_or_of_lt (i := 1) (b := b) (by omega) p
  rw [Nat.pow_one] at this
  rw [this]
set_option maxHeartbeats 400000 in
theorem shift_any (p b m : Nat) (w : World) (hb : b < 2) (hm : m < 18446744073709551616) (h2 : 2 ≤ bl m) (h63 : bl m ≤ 63) (hp : bl p < bl m) :
    Calls Try.prog 33 #[.int .u64 p, .int .u64 b, .int .u64 m, .int .i64 ((bl m : Int) - 1)] w fun e w' => e = .returned (.int .u64 (sh m p b : Nat)) ∧ w' = w := by
  have hpl : p < 4611686018427387904 := (bl_le p 62).1 (by omega)
  obtain ⟨t, ht⟩ : ∃ t, t = 2 * p + b := ⟨_, rfl⟩
  have ho : bits .or .u64 ((p : Int) * 2) (b : Int) = (t : Int) := by rw [ht]; exact or_bit hb (by omega)
  have htl : t < 9223372036854775808 := by omega
  have hx := u64_xor_nat t m (by omega) hm
  have h2p : 2 * p + b < 2 * 2 ^ (bl m - 1) := by have := (bl_le p (bl m - 1)).1 (by omega); omega
  have hpp : 0 < 2 ^ (bl m - 1) := Nat.pow_pos (by decide)
  have hc : ((t : Int) / 2 ^ (bl m - 1) == 1) = decide (2 ^ (bl m - 1) ≤ t) := by
    have e : ((t : Int) / 2 ^ (bl m - 1)) = ((t / 2 ^ (bl m - 1) : Nat) : Int) := by simp
    rw [e, Bool.eq_iff_iff]
    simp only [beq_iff_eq, decide_eq_true_eq]
    rw [← ht] at h2p
    constructor
    · intro h
      have h : t / 2 ^ (bl m - 1) = 1 := by omega
      exact Nat.le_of_not_lt fun hl => by rw [Nat.div_eq_of_lt hl] at h; omega
    · intro h
      have : t / 2 ^ (bl m - 1) = 1 := Nat.div_eq_of_lt_le (by omega) (by omega)
      rw [this]; rfl
  have HE : Hid (sh m p b = if 2 ^ (bl m - 1) ≤ t then t ^^^ m else t) := by rw [ht]; rfl
  clear h2p hpp ht
  by_cases h : 2 ^ (bl m - 1) ≤ t
  · have hc' : ((t : Int) / 2 ^ (bl m - 1) == 1) = true := by rw [hc]; simpa using h
    have HE : Hid (sh m p b = t ^^^ m) := by rw [HE.out, if_pos h]; exact rfl
    clear hc h
    go_enter Try.func33, Try.ntmps33
    go_wp2
    go_ret
    rw [HE.out]; exact ⟨rfl, rfl⟩
  · have hc' : ((t : Int) / 2 ^ (bl m - 1) == 1) = false := by rw [hc]; simpa using h
    have HE : Hid (sh m p b = t) := by rw [HE.out, if_neg h]; exact rfl
    clear hc h
    go_enter Try.func33, Try.ntmps33
    go_wp2
    go_ret
    rw [HE.out]; exact ⟨rfl, rfl⟩

/-- What the loop of times has behind it: the product of p and what stands above bit i of q. -/
theorem times_step {m p q i : Nat} (h2 : 2 ≤ bl m) (c : Nat) (hc : c = q / 2 ^ i % 2) :
    tm m p (q / 2 ^ i) = pm (sh m (tm m p (q / 2 ^ (i + 1))) 0 ^^^ c * p) m := by
  have h0 : m ≠ 0 := bl_pos.1 (by omega)
  have hd : q / 2 ^ i = 2 * (q / 2 ^ (i + 1)) + c := by
    rw [Nat.pow_succ, ← Nat.div_div_eq_div_mul]; omega
  have hc2 : c < 2 := by omega
  refine pm_eq ?_ h0
  rw [hd, cm_bit _ _ _ hc2]
  refine Cg.xor ?_ (Cg.refl _ _)
  refine Cg.symm ((sh_cg m _ 0 (by decide) h2 (tm_lt _ _ _ h0)).trans ?_)
  have := (tm_cg m p (q / 2 ^ (i + 1))).bit 0 (by decide)
  exact this
theorem times_step1 {m p q i : Nat} (h2 : 2 ≤ bl m) (hp : bl p < bl m) (hc : q / 2 ^ i % 2 = 1) : tm m p (q / 2 ^ i) = sh m (tm m p (q / 2 ^ (i + 1))) 0 ^^^ p := by
  have h0 : m ≠ 0 := bl_pos.1 (by omega)
  rw [times_step h2 1 hc.symm, Nat.one_mul]
  refine pm_small ?_
  have a : bl (sh m (tm m p (q / 2 ^ (i + 1))) 0) < bl m := by rw [sh_pm _ _ _ (by decide) h2 (tm_lt _ _ _ h0)]; exact pm_lt _ _ h0
  have := bl_xor_le (sh m (tm m p (q / 2 ^ (i + 1))) 0) p (bl m - 1) (by omega) (by omega)
  omega
theorem times_step0 {m p q i : Nat} (h2 : 2 ≤ bl m) (hc : q / 2 ^ i % 2 = 0) : tm m p (q / 2 ^ i) = sh m (tm m p (q / 2 ^ (i + 1))) 0 := by
  have h0 : m ≠ 0 := bl_pos.1 (by omega)
  rw [times_step h2 0 hc.symm, Nat.zero_mul, Nat.xor_zero]
  refine pm_small ?_
  rw [sh_pm _ _ _ (by decide) h2 (tm_lt _ _ _ h0)]; exact pm_lt _ _ h0
theorem and1_u64 (c : Nat) (h : c < 18446744073709551616) : bits .and .u64 (c : Int) 1 = ((c % 2 : Nat) : Int) := by
  have := u64_and_nat c 1 h (by decide)
  rw [Nat.and_one_is_mod] at this
  exact this
set_option maxHeartbeats 1000000 in
theorem times_any (p q m : Nat) (w : World) (hq : q < 18446744073709551616) (hm : m < 18446744073709551616) (h2 : 2 ≤ bl m) (h63 : bl m ≤ 63) (hp : bl p < bl m) :
    Calls Try.prog 26 #[.int .u64 p, .int .u64 q, .int .u64 m] w fun e w' => e = .returned (.int .u64 (tm m p q : Nat)) ∧ w' = w := by
  have h0 : m ≠ 0 := bl_pos.1 (by omega)
  have hqb := bl64 hq
  have hpl : p < 18446744073709551616 := lt64 (by omega)
  go_enter Try.func26, Try.ntmps26
  go_wp2_with (go_at_call 25; refine (degree_any _ _ (by assumption)).mono ?_; rintro e w' ⟨rfl, rfl⟩)
  go_loop [8, 9] (fun o i => ∃ k : Nat, k ≤ bl q ∧ i = .int .i64 ((k : Int) - 1) ∧ o = .int .u64 (tm m p (q / 2 ^ k) : Nat)) (fun _ i => (intOf i + 1).toNat)
  case atStart =>
    refine ⟨bl q, Nat.le_refl _, rfl, ?_⟩
    rw [Nat.div_eq_of_lt (lt_bl q), tm_zero]; rfl
  case round =>
    obtain ⟨k, hk, rfl, rfl⟩ := hrel
    cases k with
    | zero =>
      have HE : Hid (tm m p (q / 2 ^ 0) = tm m p q) := by rw [Nat.pow_zero, Nat.div_one]; exact rfl
      generalize tm m p (q / 2 ^ 0) = T at *
      go_wp2
      go_ret
      rw [HE.out]; exact ⟨rfl, rfl⟩
    | succ i =>
      have hT := tm_lt m p (q / 2 ^ (i + 1)) h0
      have ha := and1_u64 (q / 2 ^ i) (Nat.lt_of_le_of_lt (Nat.div_le_self _ _) hq)
      have hcast : ((q / 2 ^ i : Nat) : Int) = (q : Int) / 2 ^ i := by simp
      rw [hcast] at ha
      have hS : bl (sh m (tm m p (q / 2 ^ (i + 1))) 0) < bl m := by rw [sh_pm _ _ _ (by decide) h2 hT]; exact pm_lt _ _ h0
      have hSl : sh m (tm m p (q / 2 ^ (i + 1))) 0 < 18446744073709551616 := lt64 (by omega)
      have hx := u64_xor_nat _ p hSl hpl
      have e1 : (((i + 1 : Nat) : Int) - 1) = (i : Int) := by omega
      rw [e1]
      have HC : Hid (_ = _) := hcast
      clear hcast e1
      by_cases hc : q / 2 ^ i % 2 = 1
      · have HS : Hid (_ = _) := times_step1 (i := i) h2 hp hc
        rw [hc] at ha
        generalize tm m p (q / 2 ^ (i + 1)) = T at *
        go_wp2_with (go_at_call 33; refine (shift_any T 0 m _ (by decide) hm h2 h63 hT).mono ?_; rintro e w' ⟨rfl, rfl⟩)
        go_round
        case rel => exact ⟨i, by omega, rfl, by rw [HS.out]⟩
        case measure => simp [intOf]
      · have HS : Hid (_ = _) := times_step0 (i := i) (p := p) h2 (show q / 2 ^ i % 2 = 0 by omega)
        rw [show q / 2 ^ i % 2 = 0 by omega] at ha
        generalize tm m p (q / 2 ^ (i + 1)) = T at *
        go_wp2_with (go_at_call 33; refine (shift_any T 0 m _ (by decide) hm h2 h63 hT).mono ?_; rintro e w' ⟨rfl, rfl⟩)
        go_round
        case rel => exact ⟨i, by omega, rfl, by rw [HS.out]⟩
        case measure => simp [intOf]
end Go.Proofs.Ytnfemofighgenab
