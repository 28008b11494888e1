/- The plain mathematics of numbers in groups of seven bits: no program. -/
import Derived.Laws.BitsAllLaws
namespace Go.Proofs.YtkgjepgaekbniaaDoor
set_option linter.unusedVariables false

/-- A number in groups of seven bits, the lowest first. -/
def varN (x : Nat) : List Nat := if h : x < 128 then [x] else (x % 128 + 128) :: varN (x / 128)
  termination_by x
theorem varN_small {x : Nat} (h : x < 128) : varN x = [x] := by rw [varN, dif_pos h]
theorem varN_big {x : Nat} (h : 128 ≤ x) : varN x = (x % 128 + 128) :: varN (x / 128) := by rw [varN, dif_neg (by omega)]
theorem varN_len : ∀ (k x : Nat), x < 128 ^ (k + 1) → (varN x).length ≤ k + 1
  | 0, x, h => by rw [varN_small (by simpa using h)]; simp
  | k + 1, x, h => by
    by_cases hx : x < 128
    · rw [varN_small hx]; simp
    · rw [varN_big (by omega)]
      have := varN_len k (x / 128) (by rw [Nat.pow_succ] at h; omega)
      simp; omega
theorem varN_len64 {x : Nat} (h : x < 18446744073709551616) : (varN x).length ≤ 10 := varN_len 9 x (Nat.lt_of_lt_of_le h (by decide))
theorem varN_pos (x : Nat) : 1 ≤ (varN x).length := by
  by_cases hx : x < 128
  · rw [varN_small hx]; simp
  · rw [varN_big (by omega)]; simp
theorem varN_byte : ∀ (x : Nat), ∀ b ∈ varN x, b < 256 := by
  intro x
  induction x using Nat.strongRecOn with
  | _ x ih =>
    intro b hb
    by_cases hx : x < 128
    · rw [varN_small hx] at hb; simp at hb; omega
    · rw [varN_big (by omega)] at hb
      rcases List.mem_cons.1 hb with rfl | hb
      · omega
      · exact ih (x / 128) (by omega) b hb

/-- What the loop of Var has gathered, and what is left. -/
def VarPre (x0 y : Nat) (pre : List Nat) : Prop := pre ++ varN y = varN x0
theorem varPre_start (x : Nat) : VarPre x x [] := rfl
theorem varPre_step {x0 y : Nat} {pre : List Nat} (h : VarPre x0 y pre) (hy : 128 ≤ y) : VarPre x0 (y / 128) (pre ++ [y % 128 + 128]) := by
  unfold VarPre at *; rw [← h, varN_big hy]; simp
theorem varPre_end {x0 y : Nat} {pre : List Nat} (h : VarPre x0 y pre) (hy : y < 128) : pre ++ [y] = varN x0 := by
  unfold VarPre at *; rw [← h, varN_small hy]
theorem varPre_len {x0 y : Nat} {pre : List Nat} (h : VarPre x0 y pre) (hx : x0 < 18446744073709551616) : pre.length ≤ 9 := by
  have a := varN_len64 hx
  have b := varN_pos y
  unfold VarPre at h
  rw [← h] at a; simp at a; omega
theorem or128 (y : Nat) : Go.bits .or .u8 ((y : Int) % 256) 128 = ((y % 128 + 128 : Nat) : Int) := by
  have h : ∀ a : Fin 256, (a.val ||| 128) = a.val % 128 + 128 := by decide +kernel
  have e : Go.bits .or .u8 ((y : Int) % 256) 128 = ((y % 256 ||| 128 : Nat) : Int) := Go.u8_or_nat (y % 256) 128 (by omega) (by decide)
  rw [e, h ⟨y % 256, by omega⟩]; simp only; omega
/-- 'a | b', where a lies below 2^i and b is a multiple of it. -/
theorem or_join (a b i : Nat) (ha : a < 2 ^ i) (hl : a < 18446744073709551616) (hb : b * 2 ^ i < 18446744073709551616) : Go.bits .or .u64 (a : Int) ((b * 2 ^ i : Nat) : Int) = ((a + b * 2 ^ i : Nat) : Int) := by
  rw [Go.u64_or_nat a _ hl hb, Nat.or_comm, Nat.mul_comm, ← Nat.two_pow_add_eq_or_of_lt ha, Nat.add_comm]
/-- Groups read: the bytes that are left, how many were read, what they say. (0, 0): there is no number. -/
def uv : List UInt8 → Nat → Nat → Nat × Nat
  | [], _, _ => (0, 0)
  | b :: r, i, acc => if i = 9 ∧ 1 < b.toNat then (0, 0) else if 128 ≤ b.toNat then uv r (i + 1) (acc + b.toNat % 128 * 128 ^ i) else if b.toNat = 0 ∧ 0 < i then (0, 0) else (acc + b.toNat % 128 * 128 ^ i, i + 1)
theorem uv_nil (i acc : Nat) : uv [] i acc = (0, 0) := rfl
theorem uv_wide (b : UInt8) (r : List UInt8) (i acc : Nat) (h : i = 9) (hb : 1 < b.toNat) : uv (b :: r) i acc = (0, 0) := by rw [uv, if_pos ⟨h, hb⟩]
theorem uv_more (b : UInt8) (r : List UInt8) (i acc : Nat) (h : i ≠ 9) (hb : 128 ≤ b.toNat) : uv (b :: r) i acc = uv r (i + 1) (acc + b.toNat % 128 * 128 ^ i) := by
  rw [uv, if_neg (by omega), if_pos hb]
theorem uv_nought (b : UInt8) (r : List UInt8) (i acc : Nat) (hb : b.toNat = 0) (h : 0 < i) : uv (b :: r) i acc = (0, 0) := by
  rw [uv, if_neg (by omega), if_neg (by omega), if_pos ⟨hb, h⟩]
theorem uv_last (b : UInt8) (r : List UInt8) (i acc : Nat) (h1 : ¬ (i = 9 ∧ 1 < b.toNat)) (h2 : b.toNat < 128) (h3 : ¬ (b.toNat = 0 ∧ 0 < i)) : uv (b :: r) i acc = (acc + b.toNat % 128 * 128 ^ i, i + 1) := by
  rw [uv, if_neg h1, if_neg (by omega), if_neg h3]
theorem pow_128 (k : Nat) : 2 ^ (7 * k) = 128 ^ k := by rw [Nat.pow_mul]
theorem acc_next (acc b i : Nat) (h : acc < 128 ^ i) : acc + b % 128 * 128 ^ i < 128 ^ (i + 1) := by
  have h1 : b % 128 * 128 ^ i ≤ 127 * 128 ^ i := Nat.mul_le_mul_right _ (by omega)
  rw [Nat.pow_succ]; omega
theorem group_room (b i : Nat) (hi : i ≤ 9) (hb : i = 9 → b ≤ 1) : b % 128 * 128 ^ i < 18446744073709551616 := by
  by_cases h9 : i = 9
  · subst h9
    have := hb rfl
    have h1 : b % 128 * 128 ^ 9 ≤ 1 * 128 ^ 9 := Nat.mul_le_mul_right _ (by omega)
    exact Nat.lt_of_le_of_lt h1 (by decide)
  · have h1 : 128 ^ i ≤ 128 ^ 8 := Nat.pow_le_pow_right (by decide) (by omega)
    have h2 : b % 128 * 128 ^ i ≤ 127 * 128 ^ 8 := Nat.mul_le_mul (by omega) h1
    exact Nat.lt_of_le_of_lt h2 (by decide)
theorem acc_room (acc i : Nat) (hi : i ≤ 9) (h : acc < 128 ^ i) : acc < 9223372036854775808 :=
  Nat.lt_of_lt_of_le h (Nat.le_trans (Nat.pow_le_pow_right (by decide) hi) (by decide))
theorem and127 (b : Nat) (hb : b < 256) : Go.bits .and .u8 (b : Int) 127 = ((b % 128 : Nat) : Int) := by
  have e : Go.bits .and .u8 (b : Int) 127 = ((b &&& 127 : Nat) : Int) := Go.u8_and_nat b 127 hb (by decide)
  have h : ∀ a : Fin 256, (a.val &&& 127) = a.val % 128 := by decide +kernel
  rw [e, h ⟨b, hb⟩]
theorem wrap64_of (n : Nat) : Go.IntKind.u64.wrap (n : Int) = ((n % 18446744073709551616 : Nat) : Int) := by
  simp [Go.IntKind.wrap, Go.IntKind.bits, Go.IntKind.signed]
theorem uv_or (acc b i : Nat) (hi : i ≤ 9) (hb : i = 9 → b ≤ 1) (h : acc < 128 ^ i) :
    Go.bits .or .u64 (acc : Int) (Go.IntKind.u64.wrap (((b % 128 : Nat) : Int) * 2 ^ (7 * i))) = ((acc + b % 128 * 128 ^ i : Nat) : Int) := by
  have hg := group_room b i hi hb
  have ha := acc_room acc i hi h
  have e : (((b % 128 : Nat) : Int) * 2 ^ (7 * i)) = ((b % 128 * 2 ^ (7 * i) : Nat) : Int) := by simp
  rw [e, wrap64_of, pow_128, Nat.mod_eq_of_lt hg, ← pow_128]
  exact or_join _ _ _ (by rw [pow_128]; exact h) (by omega) (by rw [pow_128]; exact hg)

theorem uv_or9 (acc b : Nat) (hb : b ≤ 1) (h : acc < 128 ^ 9) :
    Go.bits .or .u64 (acc : Int) ((b : Int) % 128 * 9223372036854775808) = ((acc + b % 128 * 128 ^ 9 : Nat) : Int) := by
  have ho := uv_or acc b 9 (by omega) (fun _ => hb) h
  rw [← ho]
  have e : Go.IntKind.u64.wrap (((b % 128 : Nat) : Int) * 2 ^ (7 * 9)) = (b : Int) % 128 * 9223372036854775808 := by
    rw [show (2 : Int) ^ (7 * 9) = 9223372036854775808 by decide]
    simp only [Go.IntKind.wrap, Go.IntKind.bits, Go.IntKind.signed]
    simp
    omega
  rw [e]
/-- What uv says lies within 64 bits. -/
theorem uv_lt : ∀ (l : List UInt8) (i acc : Nat), i ≤ 9 → acc < 128 ^ i → (uv l i acc).1 < 18446744073709551616 ∧ (uv l i acc).2 ≤ i + l.length ∧ (uv l i acc).2 ≤ 10
  | [], i, acc, hi, h => by simp [uv]
  | b :: r, i, acc, hi, h => by
    by_cases h1 : i = 9 ∧ 1 < b.toNat
    · rw [uv_wide b r i acc h1.1 h1.2]; simp
    · by_cases h2 : 128 ≤ b.toNat
      · rw [uv_more b r i acc (by omega) h2]
        have := uv_lt r (i + 1) _ (by omega) (acc_next acc b.toNat i h)
        refine ⟨this.1, ?_, this.2.2⟩
        simp only [List.length_cons]; omega
      · by_cases h3 : b.toNat = 0 ∧ 0 < i
        · rw [uv_nought b r i acc h3.1 h3.2]; simp
        · rw [uv_last b r i acc h1 (by omega) h3]
          have hg := group_room b.toNat i hi (by omega)
          have ha := acc_room acc i hi h
          refine ⟨?_, by simp only [List.length_cons]; omega, by simp only; omega⟩
          simp only
          by_cases h9 : i = 9
          · have : b.toNat % 128 * 128 ^ i ≤ 9223372036854775808 := by
              subst h9
              have hb1 : b.toNat ≤ 1 := by omega
              exact Nat.le_trans (Nat.mul_le_mul_right (128 ^ 9) (show b.toNat % 128 ≤ 1 by omega)) (by decide)
            omega
          · have := acc_next acc b.toNat i h
            have h10 : 128 ^ (i + 1) ≤ 128 ^ 9 := Nat.pow_le_pow_right (by decide) (by omega)
            have : (128 : Nat) ^ 9 < 18446744073709551616 := by decide
            omega
/-- uv asks at most the first ten bytes. -/
theorem uv_take : ∀ (l : List UInt8) (i acc m : Nat), i ≤ 9 → 10 ≤ i + m → uv (l.take m) i acc = uv l i acc
  | [], i, acc, m, hi, h => by simp
  | b :: r, i, acc, m, hi, h => by
    obtain ⟨m, rfl⟩ : ∃ k, m = k + 1 := ⟨m - 1, by omega⟩
    rw [List.take_succ_cons]
    by_cases h1 : i = 9 ∧ 1 < b.toNat
    · rw [uv_wide b r i acc h1.1 h1.2, uv_wide b _ i acc h1.1 h1.2]
    · by_cases h2 : 128 ≤ b.toNat
      · rw [uv_more b r i acc (by omega) h2, uv_more b _ i acc (by omega) h2]
        exact uv_take r (i + 1) _ m (by omega) (by omega)
      · by_cases h3 : b.toNat = 0 ∧ 0 < i
        · rw [uv_nought b r i acc h3.1 h3.2, uv_nought b _ i acc h3.1 h3.2]
        · rw [uv_last b r i acc h1 (by omega) h3, uv_last b _ i acc h1 (by omega) h3]

/-- The groups of a number as bytes. -/
def varB (x : Nat) : List UInt8 := (varN x).map UInt8.ofNat
theorem varB_small {x : Nat} (h : x < 128) : varB x = [UInt8.ofNat x] := by rw [varB, varN_small h]; rfl
theorem varB_big {x : Nat} (h : 128 ≤ x) : varB x = UInt8.ofNat (x % 128 + 128) :: varB (x / 128) := by rw [varB, varN_big h]; rfl
theorem varB_len (x : Nat) : (varB x).length = (varN x).length := by simp [varB]
/-- What Var writes is read, whatever follows. -/
theorem uv_varB : ∀ (x : Nat) (i acc : Nat) (r : List UInt8), i ≤ 9 → x * 128 ^ i < 18446744073709551616 → (0 < i → 0 < x) → uv (varB x ++ r) i acc = (acc + x * 128 ^ i, i + (varB x).length) := by
  intro x
  induction x using Nat.strongRecOn with
  | _ x ih =>
    intro i acc r hi hx hp
    have h9 : i = 9 → x ≤ 1 := by
      intro h; subst h
      have : (128 : Nat) ^ 9 = 9223372036854775808 := by decide
      rw [this] at hx; omega
    by_cases hs : x < 128
    · have hb : (UInt8.ofNat x).toNat = x := by rw [UInt8.toNat_ofNat']; exact Nat.mod_eq_of_lt (by omega)
      rw [varB_small hs, List.cons_append, uv_last _ _ _ _ (by rw [hb]; omega) (by rw [hb]; omega) (by rw [hb]; omega), hb, Nat.mod_eq_of_lt hs]; rfl
    · have hb : (UInt8.ofNat (x % 128 + 128)).toNat = x % 128 + 128 := by rw [UInt8.toNat_ofNat']; exact Nat.mod_eq_of_lt (by omega)
      have hi9 : i ≠ 9 := by omega
      have e : x / 128 * 128 ^ (i + 1) + x % 128 * 128 ^ i = x * 128 ^ i := by
        rw [Nat.pow_succ, Nat.mul_comm (128 ^ i) 128, ← Nat.mul_assoc, ← Nat.add_mul]
        congr 1; omega
      rw [varB_big (by omega), List.cons_append, uv_more _ _ _ _ hi9 (by rw [hb]; omega), hb, ih (x / 128) (by omega) (i + 1) _ r (by omega) (by omega) (by omega)]
      simp only [List.length_cons, Prod.mk.injEq]
      refine ⟨?_, by omega⟩
      rw [show (x % 128 + 128) % 128 = x % 128 by omega]
      omega
theorem uv_var (x : Nat) (r : List UInt8) (h : x < 18446744073709551616) : uv (varB x ++ r) 0 0 = (x, (varB x).length) := by
  have := uv_varB x 0 0 r (by omega) (by simpa using h) (by omega)
  simpa using this
/-- What is read was written so. -/
theorem uv_sound : ∀ (l : List UInt8) (i acc : Nat), i ≤ 9 → acc < 128 ^ i → (uv l i acc).2 ≠ 0 →
    ∃ x, uv l i acc = (acc + x * 128 ^ i, i + (varB x).length) ∧ l.take (varB x).length = varB x ∧ (0 < i → 0 < x)
  | [], i, acc, hi, h, hn => by simp [uv] at hn
  | b :: r, i, acc, hi, h, hn => by
    have hb := b.toNat_lt
    by_cases h1 : i = 9 ∧ 1 < b.toNat
    · rw [uv_wide b r i acc h1.1 h1.2] at hn; simp at hn
    · by_cases h2 : 128 ≤ b.toNat
      · rw [uv_more b r i acc (by omega) h2] at hn ⊢
        obtain ⟨x, e, ht, hp⟩ := uv_sound r (i + 1) _ (by omega) (acc_next acc b.toNat i h) hn
        have hx := hp (by omega)
        refine ⟨b.toNat % 128 + 128 * x, ?_, ?_, by omega⟩
        · rw [e, varB_big (x := b.toNat % 128 + 128 * x) (by omega), show (b.toNat % 128 + 128 * x) / 128 = x by omega]
          simp only [List.length_cons, Prod.mk.injEq]
          refine ⟨?_, by omega⟩
          rw [Nat.add_mul, Nat.pow_succ, Nat.mul_comm (128 ^ i) 128, ← Nat.mul_assoc, Nat.mul_comm x 128]; omega
        · rw [varB_big (x := b.toNat % 128 + 128 * x) (by omega), show (b.toNat % 128 + 128 * x) / 128 = x by omega, List.length_cons, List.take_succ_cons, ht, show (b.toNat % 128 + 128 * x) % 128 + 128 = b.toNat by omega]
          simp
      · by_cases h3 : b.toNat = 0 ∧ 0 < i
        · rw [uv_nought b r i acc h3.1 h3.2] at hn; simp at hn
        · rw [uv_last b r i acc h1 (by omega) h3]
          refine ⟨b.toNat, ?_, ?_, by omega⟩
          · rw [varB_small (by omega), Nat.mod_eq_of_lt (by omega)]; rfl
          · rw [varB_small (by omega)]; simp

/-- The sum of groups, whatever they are. -/
def sumG : List UInt8 → Nat
  | [] => 0
  | b :: r => b.toNat % 128 + 128 * sumG r
theorem sumG_snoc : ∀ (l : List UInt8) (b : UInt8), sumG (l ++ [b]) = sumG l + b.toNat % 128 * 128 ^ l.length
  | [], b => by simp [sumG]
  | a :: r, b => by
    simp only [List.cons_append, sumG, sumG_snoc r b, List.length_cons, Nat.pow_succ]
    rw [Nat.mul_add, ← Nat.add_assoc, Nat.mul_comm 128 (b.toNat % 128 * _), Nat.mul_assoc]
theorem sumG_varB : ∀ (x : Nat), sumG (varB x) = x := by
  intro x
  induction x using Nat.strongRecOn with
  | _ x ih =>
    by_cases hs : x < 128
    · have hb : (UInt8.ofNat x).toNat = x := by rw [UInt8.toNat_ofNat']; exact Nat.mod_eq_of_lt (by omega)
      rw [varB_small hs]; simp only [sumG, hb]; omega
    · have hb : (UInt8.ofNat (x % 128 + 128)).toNat = x % 128 + 128 := by rw [UInt8.toNat_ofNat']; exact Nat.mod_eq_of_lt (by omega)
      rw [varB_big (by omega)]; simp only [sumG, hb, ih (x / 128) (by omega)]; omega
/-- By trying each length: the first that fits. -/
theorem try_hit (l : List UInt8) (n : Nat) (hn : varB (sumG (l.take n) % 18446744073709551616) = l.take n) (hl : n ≤ l.length) : uv l 0 0 = (sumG (l.take n) % 18446744073709551616, n) := by
  have h := uv_var (sumG (l.take n) % 18446744073709551616) (l.drop n) (Nat.mod_lt _ (by decide))
  have e : (varB (sumG (l.take n) % 18446744073709551616)).length = n := by rw [hn, List.length_take]; omega
  rw [e] at h
  rw [hn, List.take_append_drop] at h
  exact h
theorem try_none (l : List UInt8) (h : ∀ n, 1 ≤ n → n ≤ 10 → n ≤ l.length → varB (sumG (l.take n) % 18446744073709551616) ≠ l.take n) : uv l 0 0 = (0, 0) := by
  by_cases hz : (uv l 0 0).2 = 0
  · have hl := uv_lt l 0 0 (by omega) (by decide)
    by_cases h1 : (uv l 0 0).1 = 0
    · exact Prod.ext h1 hz
    · exfalso
      revert hz h1
      suffices ∀ (l : List UInt8) (i acc : Nat), (uv l i acc).2 = 0 → (uv l i acc).1 = 0 from fun a b => b (this l 0 0 a)
      intro l
      induction l with
      | nil => intro i acc _; rfl
      | cons b r ih =>
        intro i acc
        unfold uv
        split
        · simp
        · split
          · exact ih _ _
          · split
            · simp
            · simp
  · obtain ⟨x, e, ht, _⟩ := uv_sound l 0 0 (by omega) (by decide) hz
    have hl := uv_lt l 0 0 (by omega) (by decide)
    rw [e] at hl
    simp only [Nat.zero_add, Nat.pow_zero, Nat.mul_one] at hl
    exfalso
    refine h (varB x).length ?_ hl.2.2 hl.2.1 ?_
    · rw [varB_len]; exact varN_pos x
    · rw [ht, sumG_varB, Nat.mod_eq_of_lt hl.1]
end Go.Proofs.YtkgjepgaekbniaaDoor
