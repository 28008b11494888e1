/- Words as rows of 32 bits, the highest first: plain mathematics, no program. -/
import Derived.Test.YtlnagnkiadlfpaaDoorShaM
namespace Go.Proofs.YtlnagnkiadlfpaaDoor
open Go
set_option linter.unusedVariables false

/-- 32 bits as cells. -/
def bl (f : Nat → Bool) : List Value := (List.range 32).map fun j => Value.bool (f j)
def bw (f : Nat → Bool) : Array Value := (bl f).toArray
theorem bl_len (f : Nat → Bool) : (bl f).length = 32 := by simp [bl]
theorem bw_size (f : Nat → Bool) : (bw f).size = 32 := by simp [bw, bl]
theorem bl_at (f : Nat → Bool) (j : Nat) (h : j < 32) : (bl f)[j]? = some (.bool (f j)) := by simp [bl, h]
theorem bw_at (f : Nat → Bool) (j : Nat) (h : j < 32) : (bw f)[j]? = some (.bool (f j)) := by simp [bw, bl, h]
theorem bw_toList (f : Nat → Bool) : (bw f).toList = bl f := by simp [bw]
def updB (f : Nat → Bool) (i : Nat) (v : Bool) : Nat → Bool := fun j => if j = i then v else f j
theorem bw_upd (f : Nat → Bool) (i : Nat) (v : Bool) : (bw f).setIfInBounds i (.bool v) = bw (updB f i v) := by
  apply Array.ext_getElem?
  intro j
  by_cases hj : j < 32
  · rw [bw_at _ _ hj, Array.getElem?_setIfInBounds, bw_at _ _ hj, bw_size]
    unfold updB
    by_cases e : i = j
    · subst e; simp [hj]
    · have e' : ¬ j = i := fun h => e h.symm
      simp [e, e']
  · rw [Array.getElem?_eq_none (by rw [Array.size_setIfInBounds, bw_size]; omega), Array.getElem?_eq_none (by rw [bw_size]; omega)]
theorem bw_one (f : Nat → Bool) : (bw f).all (·.oneCell') = true := by
  rw [Array.all_eq_true']
  intro v hv
  simp [bw, bl] at hv
  obtain ⟨j, _, rfl⟩ := hv
  rfl
theorem bl_congr {f g : Nat → Bool} (h : ∀ j, j < 32 → f j = g j) : bl f = bl g := by
  unfold bl
  apply List.map_congr_left
  intro j hj
  rw [h j (List.mem_range.1 hj)]
theorem bw_congr {f g : Nat → Bool} (h : ∀ j, j < 32 → f j = g j) : bw f = bw g := by unfold bw; rw [bl_congr h]
/-- The bits of a number, the highest of 32 first. -/
def bt (x : Nat) : Nat → Bool := fun j => x.testBit (31 - j)
theorem bt_inj {x y : Nat} (hx : x < 4294967296) (hy : y < 4294967296) (h : ∀ j, j < 32 → bt x j = bt y j) : x = y := by
  apply Nat.eq_of_testBit_eq
  intro i
  by_cases hi : i < 32
  · have := h (31 - i) (by omega)
    unfold bt at this
    rwa [show 31 - (31 - i) = i by omega] at this
  · rw [Nat.testBit_lt_two_pow (Nat.lt_of_lt_of_le hx (Nat.pow_le_pow_right (n := 2) (i := 32) (by decide) (by omega))), Nat.testBit_lt_two_pow (Nat.lt_of_lt_of_le hy (Nat.pow_le_pow_right (n := 2) (i := 32) (by decide) (by omega)))]
/-- The m lowest bits of x are there. -/
def ofF (x m : Nat) : Nat → Bool := fun j => decide (31 - j < m) && x.testBit (31 - j)
theorem ofF_zero (x : Nat) : ofF x 0 = fun _ => false := by funext j; simp [ofF]
theorem ofF_step (x m : Nat) (hm : m < 32) : bw (updB (ofF x m) (31 - m) (x.testBit m)) = bw (ofF x (m + 1)) := by
  apply bw_congr
  intro j hj
  unfold updB ofF
  by_cases e : j = 31 - m
  · subst e
    rw [if_pos rfl, show 31 - (31 - m) = m by omega]
    simp
  · rw [if_neg e]
    by_cases h : 31 - j < m
    · simp [h, show 31 - j < m + 1 by omega]
    · simp [h, show ¬ 31 - j < m + 1 by omega]
theorem ofF_end (x : Nat) : bw (ofF x 32) = bw (bt x) := by
  apply bw_congr
  intro j hj
  unfold ofF bt
  simp [show 31 - j < 32 by omega]
theorem half_bit (x m : Nat) : decide (x / 2 ^ m % 2 = 1) = x.testBit m := by
  rw [Nat.testBit_eq_decide_div_mod_eq]
theorem half_next (x m : Nat) : x / 2 ^ m / 2 = x / 2 ^ (m + 1) := by rw [Nat.pow_succ, Nat.div_div_eq_div_mul]
theorem int_bit (y : Nat) : ((y : Int) % 2 == 1) = decide (y % 2 = 1) := by
  rw [show ((y : Int) % 2 == 1) = decide ((y : Int) % 2 = 1) from rfl]
  apply decide_eq_decide.2; omega
/-! ### Sums -/
/-- The carry into bit m. -/
def car (x y m : Nat) : Bool := decide (2 ^ m ≤ x % 2 ^ m + y % 2 ^ m)
theorem car_zero (x y : Nat) : car x y 0 = false := by simp [car, Nat.mod_one]
theorem mod_succ_bit (x m : Nat) : x % 2 ^ (m + 1) = x % 2 ^ m + 2 ^ m * (x.testBit m).toNat := by
  rw [Nat.mod_pow_succ, Nat.toNat_testBit]
theorem car_succ (x y m : Nat) : car x y (m + 1) = (x.testBit m && y.testBit m || x.testBit m && car x y m || y.testBit m && car x y m) := by
  unfold car
  rw [mod_succ_bit, mod_succ_bit, Nat.pow_succ]
  have h1 := Nat.mod_lt x (Nat.two_pow_pos m)
  have h2 := Nat.mod_lt y (Nat.two_pow_pos m)
  generalize 2 ^ m = p at *
  generalize x % p = a at *
  generalize y % p = b at *
  cases x.testBit m <;> cases y.testBit m <;> simp [Bool.toNat] <;> omega
theorem sum_bit (x y m : Nat) : (x + y).testBit m = ((x.testBit m != y.testBit m) != car x y m) := by
  have e : (x + y) % 2 ^ (m + 1) = (x + y) % 2 ^ m + 2 ^ m * ((x + y).testBit m).toNat := mod_succ_bit _ _
  have e2 : (x + y) % 2 ^ (m + 1) = (x % 2 ^ (m + 1) + y % 2 ^ (m + 1)) % 2 ^ (m + 1) := Nat.add_mod _ _ _
  have e3 : (x + y) % 2 ^ m = (x % 2 ^ m + y % 2 ^ m) % 2 ^ m := Nat.add_mod _ _ _
  unfold car
  rw [e2, mod_succ_bit x, mod_succ_bit y, e3, Nat.pow_succ] at e
  have h1 := Nat.mod_lt x (Nat.two_pow_pos m)
  have h2 := Nat.mod_lt y (Nat.two_pow_pos m)
  generalize 2 ^ m = p at *
  generalize x % p = a at *
  generalize y % p = b at *
  have h3 : (a + b) % p = if p ≤ a + b then a + b - p else a + b := by
    by_cases hp : p ≤ a + b
    · rw [if_pos hp, Nat.mod_eq_sub_mod hp, Nat.mod_eq_of_lt (by omega)]
    · rw [if_neg hp, Nat.mod_eq_of_lt (by omega)]
  have h4 : ∀ z, z < p * 2 → z % (p * 2) = z := fun z hz => Nat.mod_eq_of_lt hz
  have h5 : ∀ z, p * 2 ≤ z → z < 2 * (p * 2) → z % (p * 2) = z - p * 2 := fun z h1 h2 => by rw [Nat.mod_eq_sub_mod h1, Nat.mod_eq_of_lt (by omega)]
  rw [h3] at e
  by_cases hp : p ≤ a + b <;> cases hx : x.testBit m <;> cases hy : y.testBit m <;> cases hz : (x + y).testBit m <;> simp [hp, hx, hy, hz, Bool.toNat] at e ⊢ <;>
    first
    | (rw [h4 _ (by omega)] at e; omega)
    | (rw [h5 _ (by omega) (by omega)] at e; omega)
    | omega
/-- The m lowest bits of the sum are there, the others are x's. -/
def adF (x y m : Nat) : Nat → Bool := fun j => if 31 - j < m then (x + y).testBit (31 - j) else x.testBit (31 - j)
theorem adF_zero (x y : Nat) : bw (bt x) = bw (adF x y 0) := bw_congr fun j hj => by simp [adF, bt]
theorem adF_at (x y m : Nat) (hm : m < 32) : adF x y m (31 - m) = x.testBit m := by
  unfold adF; rw [show 31 - (31 - m) = m by omega]; simp
theorem adF_step (x y m : Nat) (hm : m < 32) : bw (updB (adF x y m) (31 - m) ((x.testBit m != y.testBit m) != car x y m)) = bw (adF x y (m + 1)) := by
  apply bw_congr
  intro j hj
  rw [← sum_bit]
  unfold updB adF
  by_cases e : j = 31 - m
  · subst e
    rw [if_pos rfl, show 31 - (31 - m) = m by omega]
    simp
  · rw [if_neg e]
    by_cases h : 31 - j < m
    · simp [h, show 31 - j < m + 1 by omega]
    · simp [h, show ¬ 31 - j < m + 1 by omega]
theorem adF_end (x y : Nat) : bw (adF x y 32) = bw (bt ((x + y) % 4294967296)) := by
  apply bw_congr
  intro j hj
  unfold adF bt
  rw [if_pos (by omega), show 4294967296 = 2 ^ 32 by rfl, Nat.testBit_mod_two_pow]
  simp [show 31 - j < 32 by omega]
/-- The sum of words. -/
def sumW : List Nat → Nat := fun l => l.foldl (fun s x => (s + x) % 4294967296) 0
end Go.Proofs.YtlnagnkiadlfpaaDoor
