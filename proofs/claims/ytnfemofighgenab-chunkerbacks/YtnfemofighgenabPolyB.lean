/- Contracts of poly's Times, next, Append, Of, Common. -/
import Derived.Test.YtnfemofighgenabPolyA
import Derived.Test.YtnfemofighgenabCrcM
namespace Go.Proofs.Ytnfemofighgenab
open Go.RowKit
set_option linter.unusedVariables false

def okP (x : Nat) : Ending := .returned (.tuple #[.int .u64 (x : Int), .int .i64 0])
def badP : Ending := .returned (.tuple #[.int .u64 0, .int .i64 1])

set_option maxHeartbeats 400000 in
theorem ptimes_bad (p q m : Nat) (w : World) (hm : m < 18446744073709551616) (h : fitP m = false) :
    Calls Try.prog 30 #[.int .u64 p, .int .u64 q, .int .u64 m] w fun e w' => e = badP ∧ w' = w := by
  go_enter Try.func30, Try.ntmps30
  go_wp2_with (go_at_call 24; refine (fit_any _ _ hm).mono ?_; rintro e w' ⟨rfl, rfl⟩)
  go_ret2
  exact ⟨rfl, rfl⟩
set_option maxHeartbeats 400000 in
theorem ptimes_good (p q m : Nat) (w : World) (hp : p < 18446744073709551616) (hq : q < 18446744073709551616) (hm : m < 18446744073709551616) (h : fitP m = true) :
    Calls Try.prog 30 #[.int .u64 p, .int .u64 q, .int .u64 m] w fun e w' => e = okP (tm m p q) ∧ w' = w := by
  obtain ⟨h2, h63⟩ := (fitP_iff m).1 h
  have h0 : m ≠ 0 := bl_pos.1 (by omega)
  have hl := pm_lt p m h0
  have HE : Hid (_ = _) := tm_pm m p q h0
  go_enter Try.func30, Try.ntmps30
  go_wp2_with (first | (go_at_call 24; refine (fit_any _ _ hm).mono ?_; rintro e w' ⟨rfl, rfl⟩) | (go_at_call 34; refine (rest_any _ _ _ hp hm h0).mono ?_; rintro e w' ⟨rfl, rfl⟩) | (go_at_call 26; refine (times_any _ _ _ _ hq hm h2 h63 hl).mono ?_; rintro e w' ⟨rfl, rfl⟩))
  go_ret2
  rw [HE.out]
  exact ⟨rfl, rfl⟩

/-- A byte behind a rest. -/
def nxt (m p c : Nat) : Nat := pm (256 * p + c) m
theorem nxt_lt (m p c : Nat) (h0 : m ≠ 0) : bl (nxt m p c) < bl m := pm_lt _ _ h0
theorem next_step {m p c i : Nat} (h2 : 2 ≤ bl m) (hi : i < 8) :
    sh m (pm (p * 2 ^ (8 - (i + 1)) + c / 2 ^ (i + 1)) m) (c / 2 ^ i % 2) = pm (p * 2 ^ (8 - i) + c / 2 ^ i) m := by
  have h0 : m ≠ 0 := bl_pos.1 (by omega)
  have hb : c / 2 ^ i % 2 < 2 := by omega
  rw [sh_pm _ _ _ hb h2 (pm_lt _ _ h0)]
  refine pm_eq ?_ h0
  have e : p * 2 ^ (8 - i) + c / 2 ^ i = 2 * (p * 2 ^ (8 - (i + 1)) + c / 2 ^ (i + 1)) + c / 2 ^ i % 2 := by
    have e1 : 2 ^ (8 - i) = 2 * 2 ^ (8 - (i + 1)) := by rw [← Nat.pow_succ']; congr 1; omega
    have e2 : c / 2 ^ (i + 1) = c / 2 ^ i / 2 := by rw [Nat.pow_succ, ← Nat.div_div_eq_div_mul]
    rw [e1, e2, Nat.mul_left_comm]; omega
  rw [e]
  exact (pm_cg _ _).bit _ hb
theorem and1_u8 (c : Nat) (h : c < 256) : bits .and .u8 (c : Int) 1 = ((c % 2 : Nat) : Int) := by
  have := u8_and_nat c 1 h (by decide)
  rw [Nat.and_one_is_mod] at this
  exact this
set_option maxHeartbeats 1000000 in
theorem next_any (p c m : Nat) (w : World) (hc : c < 256) (hm : m < 18446744073709551616) (h2 : 2 ≤ bl m) (h63 : bl m ≤ 63) (hp : bl p < bl m) :
    Calls Try.prog 29 #[.int .u64 p, .int .u8 c, .int .u64 m] w fun e w' => e = .returned (.int .u64 (nxt m p c : Nat)) ∧ w' = w := by
  have h0 : m ≠ 0 := bl_pos.1 (by omega)
  go_enter Try.func29, Try.ntmps29
  go_wp2_with (go_at_call 25; refine (degree_any _ _ (by assumption)).mono ?_; rintro e w' ⟨rfl, rfl⟩)
  go_loop [0, 8] (fun o i => ∃ k : Nat, k ≤ 8 ∧ i = .int .i64 ((k : Int) - 1) ∧ o = .int .u64 (pm (p * 2 ^ (8 - k) + c / 2 ^ k) m : Nat)) (fun _ i => (intOf i + 1).toNat)
  case atStart =>
    refine ⟨8, Nat.le_refl _, rfl, ?_⟩
    rw [show p * 2 ^ (8 - 8) + c / 2 ^ 8 = p by have : c / 2 ^ 8 = 0 := Nat.div_eq_of_lt hc
                                                rw [this]; omega, pm_small hp]
  case round =>
    obtain ⟨k, hk, rfl, rfl⟩ := hrel
    cases k with
    | zero =>
      have HE : Hid (pm (p * 2 ^ (8 - 0) + c / 2 ^ 0) m = nxt m p c) := by unfold nxt; congr 1; omega
      generalize pm (p * 2 ^ (8 - 0) + c / 2 ^ 0) m = T at *
      go_wp2
      go_ret
      rw [HE.out]; exact ⟨rfl, rfl⟩
    | succ i =>
      have hT := pm_lt (p * 2 ^ (8 - (i + 1)) + c / 2 ^ (i + 1)) m h0
      have ha := and1_u8 (c / 2 ^ i) (Nat.lt_of_le_of_lt (Nat.div_le_self _ _) hc)
      have hcast : ((c / 2 ^ i : Nat) : Int) = (c : Int) / 2 ^ i := by simp
      rw [hcast] at ha
      have e1 : (((i + 1 : Nat) : Int) - 1) = (i : Int) := by omega
      rw [e1]
      have HS : Hid (_ = _) := next_step (i := i) (p := p) (c := c) h2 (by omega)
      have hb : c / 2 ^ i % 2 < 2 := by omega
      clear hcast e1
      generalize c / 2 ^ i % 2 = B at *
      generalize pm (p * 2 ^ (8 - (i + 1)) + c / 2 ^ (i + 1)) m = T at *
      go_wp2_with (go_at_call 33; refine (shift_any T B m _ hb hm h2 h63 hT).mono ?_; rintro e w' ⟨rfl, rfl⟩)
      go_round
      case rel => exact ⟨i, by omega, rfl, by rw [HS.out]⟩
      case measure => simp [intOf]
set_option maxHeartbeats 400000 in
theorem pappend_bad (p c m : Nat) (w : World) (hm : m < 18446744073709551616) (h : fitP m = false) :
    Calls Try.prog 31 #[.int .u64 p, .int .u8 c, .int .u64 m] w fun e w' => e = badP ∧ w' = w := by
  go_enter Try.func31, Try.ntmps31
  go_wp2_with (go_at_call 24; refine (fit_any _ _ hm).mono ?_; rintro e w' ⟨rfl, rfl⟩)
  go_ret2
  exact ⟨rfl, rfl⟩
theorem Cg.byte {m a b : Nat} (h : Cg m a b) (c : Nat) (hc : c < 256) : Cg m (256 * a + c) (256 * b + c) := by
  have e : ∀ x, 256 * x + c = (256 * x) ^^^ c := by
    intro x
    have := Nat.two_pow_add_eq_or_of_lt (i := 8) (b := c) (by omega) x
    rw [show (2 : Nat) ^ 8 = 256 from rfl] at this
    rw [this]
    apply Nat.eq_of_testBit_eq
    intro i
    rw [Nat.testBit_or, Nat.testBit_xor]
    by_cases hi : i < 8
    · have : (256 * x).testBit i = false := by
        rw [show 256 * x = 2 ^ 8 * x from rfl, Nat.testBit_two_pow_mul]; simp; omega
      rw [this]; simp
    · have : c.testBit i = false := Nat.testBit_lt_two_pow (Nat.lt_of_lt_of_le hc (show 2 ^ 8 ≤ 2 ^ i from Nat.pow_le_pow_right (by decide) (by omega)))
      rw [this]; simp
  rw [e, e]
  refine Cg.xor ?_ (Cg.refl _ _)
  have := h.cml (2 ^ 8)
  rw [cm_pow, cm_pow] at this
  rwa [Nat.mul_comm 256, Nat.mul_comm 256]
theorem nxt_pm (m p c : Nat) (h0 : m ≠ 0) (hc : c < 256) : nxt m (pm p m) c = nxt m p c := pm_eq ((pm_cg p m).byte c hc) h0
set_option maxHeartbeats 400000 in
theorem pappend_good (p c m : Nat) (w : World) (hp : p < 18446744073709551616) (hc : c < 256) (hm : m < 18446744073709551616) (h : fitP m = true) :
    Calls Try.prog 31 #[.int .u64 p, .int .u8 c, .int .u64 m] w fun e w' => e = okP (nxt m p c) ∧ w' = w := by
  obtain ⟨h2, h63⟩ := (fitP_iff m).1 h
  have h0 : m ≠ 0 := bl_pos.1 (by omega)
  have hl := pm_lt p m h0
  have HE : Hid (_ = _) := nxt_pm m p c h0 hc
  go_enter Try.func31, Try.ntmps31
  go_wp2_with (first | (go_at_call 24; refine (fit_any _ _ hm).mono ?_; rintro e w' ⟨rfl, rfl⟩) | (go_at_call 34; refine (rest_any _ _ _ hp hm h0).mono ?_; rintro e w' ⟨rfl, rfl⟩) | (go_at_call 29; refine (next_any _ _ _ _ hc hm h2 h63 hl).mono ?_; rintro e w' ⟨rfl, rfl⟩))
  go_ret2
  rw [HE.out]
  exact ⟨rfl, rfl⟩

/-- A text's rest. -/
def ofP (m : Nat) (l : List UInt8) : Nat := l.foldl (fun a b => nxt m a b.toNat) 0
theorem ofP_snoc (m : Nat) (l : List UInt8) (b : UInt8) : ofP m (l ++ [b]) = nxt m (ofP m l) b.toNat := by simp [ofP]
theorem ofP_lt (m : Nat) (l : List UInt8) (h0 : m ≠ 0) : bl (ofP m l) < bl m := by
  rcases List.eq_nil_or_concat l with rfl | ⟨t, b, rfl⟩
  · simp [ofP, bl_zero]; exact bl_pos.2 h0
  · rw [List.concat_eq_append, ofP_snoc]; exact nxt_lt _ _ _ h0
set_option maxHeartbeats 400000 in
theorem of_bad (s : ByteArray) (m : Nat) (w : World) (hm : m < 18446744073709551616) (h : fitP m = false) :
    Calls Try.prog 20 #[.string s, .int .u64 m] w fun e w' => e = badP ∧ w' = w := by
  go_enter Try.func20, Try.ntmps20
  go_wp2_with (go_at_call 24; refine (fit_any _ _ hm).mono ?_; rintro e w' ⟨rfl, rfl⟩)
  go_ret2
  exact ⟨rfl, rfl⟩
set_option maxHeartbeats 1000000 in
theorem of_good (s : ByteArray) (m : Nat) (w : World) (hs : s.size ≤ 140737488351232) (hm : m < 18446744073709551616) (h : fitP m = true) :
    Calls Try.prog 20 #[.string s, .int .u64 m] w fun e w' => e = okP (ofP m s.data.toList) ∧ w' = w := by
  obtain ⟨h2, h63⟩ := (fitP_iff m).1 h
  have h0 : m ≠ 0 := bl_pos.1 (by omega)
  go_enter Try.func20, Try.ntmps20
  go_wp2_with (go_at_call 24; refine (fit_any _ _ hm).mono ?_; rintro e w' ⟨rfl, rfl⟩)
  go_loop [6, 13] (fun o i => ∃ k : Nat, k ≤ s.size ∧ i = .int .i64 k ∧ o = .int .u64 (ofP m (s.data.toList.take k) : Nat)) (fun _ i => s.size - (intOf i).toNat)
  case atStart => exact ⟨0, by omega, rfl, rfl⟩
  case round =>
    obtain ⟨k, hk, rfl, rfl⟩ := hrel
    have hl := ofP_lt m (s.data.toList.take k) h0
    by_cases hlt : k < s.size
    · have HS : Hid (ofP m (s.data.toList.take (k + 1)) = nxt m (ofP m (s.data.toList.take k)) s[k].toNat) := by
        rw [take_snoc s k hlt, ofP_snoc]; exact rfl
      have hb := s[k].toNat_lt
      generalize ofP m (s.data.toList.take k) = T at *
      go_wp2_with (go_at_call 29; refine (next_any T _ m _ hb hm h2 h63 hl).mono ?_; rintro e w' ⟨rfl, rfl⟩)
      go_round
      case rel => exact ⟨k + 1, by omega, by go_num, by rw [HS.out]⟩
      case measure => simp [intOf]; omega
    · have HE : Hid (ofP m s.data.toList = ofP m (s.data.toList.take k)) := by rw [List.take_of_length_le (by simpa using hlt)]; exact rfl
      generalize ofP m (s.data.toList.take k) = T at *
      go_wp2
      go_ret2
      rw [HE.out]
      exact ⟨rfl, rfl⟩

theorem gc64 {a b : Nat} : ∀ (p q : Nat), p < 18446744073709551616 → q < 18446744073709551616 → gc p q < 18446744073709551616 := by
  intro p q
  induction p, q using gc_ind with
  | h0 p => intro h _; exact h
  | h p q hq ih =>
    intro h1 h2
    rw [gc_step p q hq]
    exact ih h2 (lt64 (by have := pm_lt p q hq; have := bl64 h2; omega))
set_option maxHeartbeats 1000000 in
theorem common_any (p q : Nat) (w : World) (hp : p < 18446744073709551616) (hq : q < 18446744073709551616) :
    Calls Try.prog 27 #[.int .u64 p, .int .u64 q] w fun e w' => e = .returned (.int .u64 (gc p q : Nat)) ∧ w' = w := by
  go_enter Try.func27, Try.ntmps27
  go_wp2
  go_loop [0, 1] (fun a b => ∃ A B : Nat, A < 18446744073709551616 ∧ B < 18446744073709551616 ∧ Hid (gc A B = gc p q) ∧ a = .int .u64 A ∧ b = .int .u64 B) (fun _ b => bl (intOf b).toNat)
  case atStart => exact ⟨p, q, hp, hq, rfl, rfl, rfl⟩
  case round =>
    obtain ⟨A, B, hA, hB, H, rfl, rfl⟩ := hrel
    by_cases hz : B = 0
    · subst hz
      have HE : Hid (gc p q = A) := by rw [← H.out, gc_zero]; exact rfl
      go_wp2
      go_ret
      rw [HE.out]; exact ⟨rfl, rfl⟩
    · have hz' : ((B : Int) == 0) = false := by simpa using hz
      have hl := pm_lt A B hz
      have hl64 : pm A B < 18446744073709551616 := lt64 (by have := bl64 hB; omega)
      have HN : Hid (gc B (pm A B) = gc p q) := by rw [← gc_step A B hz]; exact H.out
      have HZ : Hid _ := hz
      clear hz H
      go_wp2_with (go_at_call 34; refine (rest_any _ _ _ hA hB HZ.out).mono ?_; rintro e w' ⟨rfl, rfl⟩)
      go_round
      case rel => exact ⟨_, _, hB, hl64, HN, rfl, rfl⟩
      case measure => simp [intOf]; omega
end Go.Proofs.Ytnfemofighgenab
