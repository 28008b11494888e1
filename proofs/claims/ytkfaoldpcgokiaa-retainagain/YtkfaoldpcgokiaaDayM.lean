/- The calendar, in numbers: the days ahead of a year and ahead of a month; the month of a day; a date's bytes. Pure. -/
import Derived.Test.YtkfaoldpcgokiaaBase
namespace Go.Proofs.Ytkfaoldpcgokiaa

/-- A leap year has one day more. -/
def lpN (y : Nat) : Nat := if y % 400 = 0 then 1 else if y % 4 = 0 ∧ y % 100 ≠ 0 then 1 else 0
/-- Leap years from the year 1 on, ahead of this one. -/
def laN (y : Nat) : Nat := (y - 1) / 4 - (y - 1) / 100 + (y - 1) / 400
/-- The number of a year's first day. -/
def nyN (y : Nat) : Nat := (y - 1970) * 365 + laN y - 477
/-- How many days a month has. -/
def mdN (y m : Nat) : Nat := if m = 2 then 28 + lpN y else if m = 4 ∨ m = 6 ∨ m = 9 ∨ m = 11 then 30 else 31
def yrN (n : Nat) : Nat := 1970 + n / 12
def moN (n : Nat) : Nat := n % 12 + 1
def MDn (n : Nat) : Nat := mdN (yrN n) (moN n)
/-- Days ahead of the month of this number. -/
def SM : Nat → Nat
  | 0 => 0
  | n + 1 => SM n + MDn n

theorem lpN_le (y : Nat) : lpN y ≤ 1 := by unfold lpN; split; omega; split <;> omega
theorem laN_succ {y : Nat} (h : 1 ≤ y) : laN (y + 1) = laN y + lpN y := by
  unfold laN lpN
  split
  · omega
  · split <;> omega
theorem laN_ge {y : Nat} (h : 1970 ≤ y) : 477 ≤ laN y := by unfold laN; omega
theorem nyN_succ {y : Nat} (h : 1970 ≤ y) : nyN (y + 1) = nyN y + 365 + lpN y := by
  have h1 := laN_succ (y := y) (by omega)
  have h2 := laN_ge h
  unfold nyN
  rw [h1]
  omega
theorem nyN_le {y : Nat} (h : 1970 ≤ y) : nyN y ≤ (y - 1970) * 366 := by
  unfold nyN laN
  omega
theorem nyN_ge {y : Nat} (h : 1970 ≤ y) : (y - 1970) * 365 ≤ nyN y := by
  have := laN_ge h
  unfold nyN
  omega
theorem nyN_mono {x y : Nat} (hx : 1970 ≤ x) (h : x ≤ y) : nyN x ≤ nyN y := by
  induction h with
  | refl => omega
  | step h ih => rename_i m; have h0 : x ≤ m := h; have := nyN_succ (y := m) (by omega); show nyN x ≤ nyN (m + 1); omega
theorem mdN_ge (y m : Nat) : 28 ≤ mdN y m := by unfold mdN; split; omega; split <;> omega
theorem mdN_le (y m : Nat) : mdN y m ≤ 31 := by have := lpN_le y; unfold mdN; split; omega; split <;> omega
theorem MDn_ge (n : Nat) : 28 ≤ MDn n := mdN_ge _ _
theorem MDn_le (n : Nat) : MDn n ≤ 31 := mdN_le _ _
theorem MDn_at (k i : Nat) (h : i < 12) : MDn (12 * k + i) = mdN (1970 + k) (i + 1) := by
  unfold MDn yrN moN
  rw [show (12 * k + i) / 12 = k by omega, show (12 * k + i) % 12 = i by omega]
theorem SM_year : ∀ k : Nat, SM (12 * k) = nyN (1970 + k)
  | 0 => by decide
  | k + 1 => by
    have ih := SM_year k
    have e : ∀ i, i < 12 → SM (12 * k + (i + 1)) = SM (12 * k + i) + mdN (1970 + k) (i + 1) := fun i hi => by
      rw [← MDn_at k i hi]; rfl
    have h0 := e 0 (by omega); have h1 := e 1 (by omega); have h2 := e 2 (by omega); have h3 := e 3 (by omega); have h4 := e 4 (by omega); have h5 := e 5 (by omega)
    have h6 := e 6 (by omega); have h7 := e 7 (by omega); have h8 := e 8 (by omega); have h9 := e 9 (by omega); have h10 := e 10 (by omega); have h11 := e 11 (by omega)
    have hy := nyN_succ (y := 1970 + k) (by omega)
    simp [mdN] at h0 h1 h2 h3 h4 h5 h6 h7 h8 h9 h10 h11
    rw [show 12 * (k + 1) = 12 * k + 12 by omega, show 1970 + (k + 1) = 1970 + k + 1 by omega]
    omega
theorem SM_lt (n : Nat) : SM n + 28 ≤ SM (n + 1) := by have := MDn_ge n; show SM n + 28 ≤ SM n + MDn n; omega
theorem SM_mono {a b : Nat} (h : a ≤ b) : SM a ≤ SM b := by
  induction h with
  | refl => omega
  | step h ih => rename_i m; have := SM_lt m; show SM a ≤ SM (m + 1); omega
/-- The number of the month in which a day lies. -/
def mon : Nat → Nat
  | 0 => 0
  | d + 1 => if d + 1 < SM (mon d + 1) then mon d else mon d + 1
theorem mon_in : ∀ d : Nat, SM (mon d) ≤ d ∧ d < SM (mon d + 1)
  | 0 => by decide
  | d + 1 => by
    have ⟨h1, h2⟩ := mon_in d
    rw [mon]
    split
    · exact ⟨by omega, by assumption⟩
    · have := SM_lt (mon d + 1)
      exact ⟨by omega, by omega⟩
theorem mon_of {n d : Nat} (h1 : SM n ≤ d) (h2 : d < SM (n + 1)) : mon d = n := by
  have ⟨h3, h4⟩ := mon_in d
  rcases Nat.lt_trichotomy (mon d) n with h | h | h
  · have := SM_mono (a := mon d + 1) (b := n) h; omega
  · exact h
  · have := SM_mono (a := n + 1) (b := mon d) h; omega
theorem mon_mono {d e : Nat} (h : d ≤ e) : mon d ≤ mon e := by
  have ⟨h1, h2⟩ := mon_in d
  have ⟨h3, h4⟩ := mon_in e
  rcases Nat.lt_or_ge (mon e) (mon d) with g | g
  · have := SM_mono (a := mon e + 1) (b := mon d) g; omega
  · exact g
theorem mon_next (d : Nat) : mon (d + 1) = mon d ∨ mon (d + 1) = mon d + 1 := by
  rw [mon]; split
  · exact .inl rfl
  · exact .inr rfl
theorem SM_last : SM 96360 = 2932897 := by rw [show 96360 = 12 * 8030 from rfl, SM_year]; decide
theorem mon_le {d : Nat} (h : d ≤ 2932896) : mon d < 96360 := by
  have ⟨h1, h2⟩ := mon_in d
  rcases Nat.lt_or_ge (mon d) 96360 with g | g
  · exact g
  · have := SM_mono g; rw [SM_last] at this; omega
theorem SM_four : ∀ n : Nat, SM (n + 4800) = SM n + 146097
  | 0 => by rw [Nat.zero_add, show 4800 = 12 * 400 from rfl, SM_year]; decide
  | n + 1 => by
    have ih := SM_four n
    have e : MDn (n + 4800) = MDn n := by
      unfold MDn
      have e1 : moN (n + 4800) = moN n := by unfold moN; omega
      have e2 : lpN (yrN (n + 4800)) = lpN (yrN n) := by
        have : yrN (n + 4800) = yrN n + 400 := by unfold yrN; omega
        rw [this]; unfold lpN
        rw [show (yrN n + 400) % 400 = yrN n % 400 by omega, show (yrN n + 400) % 4 = yrN n % 4 by omega, show (yrN n + 400) % 100 = yrN n % 100 by omega]
      unfold mdN; rw [e1, e2]
    rw [show n + 1 + 4800 = (n + 4800) + 1 by omega]
    show SM (n + 4800) + MDn (n + 4800) = SM n + MDn n + 146097
    omega
theorem mon_four (d : Nat) : mon (d + 146097) = mon d + 4800 := by
  have ⟨h1, h2⟩ := mon_in d
  have e1 := SM_four (mon d)
  have e2 := SM_four (mon d + 1)
  rw [show mon d + 1 + 4800 = mon d + 4800 + 1 by omega] at e2
  exact mon_of (by omega) (by omega)
/-- The day of the month, from 1 on. -/
def domN (d : Nat) : Nat := d - SM (mon d) + 1
theorem dom_le (d : Nat) : 1 ≤ domN d ∧ domN d ≤ 31 := by
  have ⟨h1, h2⟩ := mon_in d
  have := MDn_le (mon d)
  have e : SM (mon d + 1) = SM (mon d) + MDn (mon d) := rfl
  unfold domN; omega
theorem dom_four (d : Nat) : domN (d + 146097) = domN d := by
  unfold domN; rw [mon_four, SM_four]; omega
/-- What the program's search for the year finds. -/
theorem year_of {d y : Nat} (hy : 1970 ≤ y) (h1 : nyN y ≤ d) (h2 : d < nyN (y + 1)) : yrN (mon d) = y := by
  have e1 := SM_year (y - 1970)
  have e2 := SM_year (y + 1 - 1970)
  rw [show 1970 + (y - 1970) = y by omega] at e1
  rw [show 1970 + (y + 1 - 1970) = y + 1 by omega] at e2
  have ⟨h3, h4⟩ := mon_in d
  unfold yrN
  rcases Nat.lt_or_ge (mon d) (12 * (y - 1970)) with g | g
  · have := SM_mono (a := mon d + 1) (b := 12 * (y - 1970)) g; omega
  · rcases Nat.lt_or_ge (mon d) (12 * (y + 1 - 1970)) with k | k
    · omega
    · have := SM_mono k; omega
/-- Two numbers' digits. -/
def two (n : Nat) : List Nat := [48 + n / 10 % 10, 48 + n % 10]
/-- The date's bytes. -/
def dateL (y m d : Nat) : List Nat := two (y / 100) ++ two (y % 100) ++ [45] ++ two m ++ [45] ++ two d
def dayL (d : Nat) : List Nat := dateL (yrN (mon d)) (moN (mon d)) (domN d)
theorem dayL_len (d : Nat) : (dayL d).length = 10 := by simp [dayL, dateL, two]
end Go.Proofs.Ytkfaoldpcgokiaa
