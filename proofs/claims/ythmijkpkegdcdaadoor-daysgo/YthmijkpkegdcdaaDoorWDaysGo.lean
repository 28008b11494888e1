/- 'DaysGo' answers true at every two seconds: its walk. -/
import Derived.Test.YthmijkpkegdcdaaDoorDayG
namespace Go.Proofs.YthmijkpkegdcdaaDoor
open Go.RowKit
set_option linter.unusedVariables false

theorem lawDaysGo_walk (t u : Int) (W : World) (b0 : -9223372036854775808 ≤ t ∧ t ≤ 9223372036854775807) (b1 : -9223372036854775808 ≤ u ∧ u ≤ 9223372036854775807) (hL : PT W) :
    Calls Tryd.prog 4 #[.int .i64 t, .int .i64 u] W fun e w' => e = .returned (.bool true) ∧ Below W.heap.size W w' := by
  by_cases ht : 0 ≤ t ∧ t ≤ 253402300799
  · obtain ⟨x, rfl⟩ := Int.eq_ofNat_of_zero_le ht.1
    have hx0 : x ≤ 253402300799 := by omega
    by_cases hu : 0 ≤ u ∧ u ≤ 253402300799
    · obtain ⟨y, rfl⟩ := Int.eq_ofNat_of_zero_le hu.1
      have hy : y ≤ 253402300799 := by omega
      by_cases hb : 253402214399 < x
      · exact go_aw3 _ _ W hL x y rfl rfl hx0 hy hb
      · have hx : x ≤ 253402214399 := by omega
        have e0 : (x + 86400) / 86400 = x / 86400 + 1 := by omega
        have hq : x / 86400 ≤ 2932896 := by omega
        have hp : y / 86400 ≤ 2932896 := by omega
        have A1 := fun w => week_any x w hx0
        have A2 := fun w => week_any (x + 86400) w (by omega)
        have A3 := fun w => month_any x w hx0
        have A4 := fun w => month_any (x + 86400) w (by omega)
        have A5 := fun w => day_any (x + 86400) w (by omega)
        have A6 := fun w => day_any x w hx0
        have D1 := date_any x W hx0 hL
        have D2 : ∀ w, Below W.heap.size W w → _ := fun w h => date_any y w hy (hL.on h)
        have B1 := fun w => week_any y w hy
        have B3 := fun w => month_any y w hy
        have B6 := fun w => day_any y w hy
        simp only [e0, show ((x + 86400 : Nat) : Int) = (x : Int) + 86400 by omega] at A2 A4 A5
        rw [show ((x / 86400 + 1 : Nat) : Int) = ((x / 86400 : Nat) : Int) + 1 by omega] at A5
        have hmq := mon_le hq
        have E2 : (((dateS (x / 86400)).toList == (dateS (y / 86400)).toList)) = decide (x / 86400 = y / 86400) := by
          by_cases h : x / 86400 = y / 86400
          · rw [h]; simp
          · have hn : ¬ (dateS (x / 86400)).toList = (dateS (y / 86400)).toList := fun e1 => h (date_inj hq hp (ba_ext (by rw [← ba_list, ← ba_list, e1])))
            rw [decide_eq_false h]; simpa using hn
        have E1 : x / 86400 < y / 86400 → Op.bytesLess (dateS (x / 86400)).toList (dateS (y / 86400)).toList = true := fun h => date_lt h hp
        have l2 : x / 86400 ≤ y / 86400 → (x / 86400 + 3) / 7 ≤ (y / 86400 + 3) / 7 := fun h => by omega
        have l3 : x / 86400 ≤ y / 86400 → mon (x / 86400) ≤ mon (y / 86400) := fun h => mon_mono h
        have l1 : x ≤ y → x / 86400 ≤ y / 86400 := fun h => Nat.div_le_div_right h
        have g1 : y < x → y / 86400 ≤ x / 86400 := fun h => Nat.div_le_div_right (Nat.le_of_lt h)
        have hk : (x / 86400 + 3) / 7 ≤ 3000000 := by omega
        have h7 := go_next (x / 86400)
        have hm := mon_next (x / 86400)
        generalize dateS (x / 86400) = S at *
        generalize dateS (y / 86400) = T at *
        generalize mon (x / 86400 + 1) = n' at *
        generalize mon (x / 86400) = n at *
        generalize mon (y / 86400) = n2 at *
        generalize (x / 86400 + 1 + 3) / 7 = k' at *
        generalize (x / 86400 + 3) / 7 = k at *
        generalize (y / 86400 + 3) / 7 = k2 at *
        generalize x / 86400 = q at *
        generalize y / 86400 = p at *
        have key : ∀ (o1 : x ≤ y ∨ y < x) (o2 : q = p ∨ q ≠ p), Calls Tryd.prog 4 #[.int .i64 x, .int .i64 y] W fun e w' => e = .returned (.bool true) ∧ Below W.heap.size W w' := by
          intro o1 o2
          rcases h7 with ⟨rfl, h7⟩ | ⟨rfl, h7⟩ <;> rcases hm with rfl | rfl <;> rcases o1 with o1 | o1 <;> rcases o2 with o2 | o2
          · exact go_main00eq x y q p _ _ k2 n2 S T W hL hx hy (by omega) (by omega) (by omega) (by omega) A1 (by simpa using A2) A3 (by simpa using A4) A5 A6 D1 D2 B1 B3 B6 trivial (by rw [E2]; simp; omega) o1 o2 (l1 o1) (l2 (l1 o1)) (l3 (l1 o1))
          · exact go_main00lt x y q p _ _ k2 n2 S T W hL hx hy (by omega) (by omega) (by omega) (by omega) A1 (by simpa using A2) A3 (by simpa using A4) A5 A6 D1 D2 B1 B3 B6 (E1 (by have := l1 o1; omega)) (by rw [E2]; simp; omega) o1 o2 (l1 o1) (l2 (l1 o1)) (l3 (l1 o1))
          · exact go_main00ge x y q p _ _ k2 n2 S T W hL hx hy (by omega) (by omega) (by omega) (by omega) A1 (by simpa using A2) A3 (by simpa using A4) A5 A6 D1 D2 B1 B3 B6 trivial (by rw [E2]; simp; omega) o1 o2
          · exact go_main00gt x y q p _ _ k2 n2 S T W hL hx hy (by omega) (by omega) (by omega) (by omega) A1 (by simpa using A2) A3 (by simpa using A4) A5 A6 D1 D2 B1 B3 B6 trivial (by rw [E2]; simp; omega) o1 o2
          · exact go_main01eq x y q p _ _ k2 n2 S T W hL hx hy (by omega) (by omega) (by omega) (by omega) A1 (by simpa using A2) A3 (by simpa using A4) A5 A6 D1 D2 B1 B3 B6 trivial (by rw [E2]; simp; omega) o1 o2 (l1 o1) (l2 (l1 o1)) (l3 (l1 o1))
          · exact go_main01lt x y q p _ _ k2 n2 S T W hL hx hy (by omega) (by omega) (by omega) (by omega) A1 (by simpa using A2) A3 (by simpa using A4) A5 A6 D1 D2 B1 B3 B6 (E1 (by have := l1 o1; omega)) (by rw [E2]; simp; omega) o1 o2 (l1 o1) (l2 (l1 o1)) (l3 (l1 o1))
          · exact go_main01ge x y q p _ _ k2 n2 S T W hL hx hy (by omega) (by omega) (by omega) (by omega) A1 (by simpa using A2) A3 (by simpa using A4) A5 A6 D1 D2 B1 B3 B6 trivial (by rw [E2]; simp; omega) o1 o2
          · exact go_main01gt x y q p _ _ k2 n2 S T W hL hx hy (by omega) (by omega) (by omega) (by omega) A1 (by simpa using A2) A3 (by simpa using A4) A5 A6 D1 D2 B1 B3 B6 trivial (by rw [E2]; simp; omega) o1 o2
          · exact go_main10eq x y q p _ _ k2 n2 S T W hL hx hy (by omega) (by omega) (by omega) (by omega) A1 (by simpa using A2) A3 (by simpa using A4) A5 A6 D1 D2 B1 B3 B6 trivial (by rw [E2]; simp; omega) o1 o2 (l1 o1) (l2 (l1 o1)) (l3 (l1 o1))
          · exact go_main10lt x y q p _ _ k2 n2 S T W hL hx hy (by omega) (by omega) (by omega) (by omega) A1 (by simpa using A2) A3 (by simpa using A4) A5 A6 D1 D2 B1 B3 B6 (E1 (by have := l1 o1; omega)) (by rw [E2]; simp; omega) o1 o2 (l1 o1) (l2 (l1 o1)) (l3 (l1 o1))
          · exact go_main10ge x y q p _ _ k2 n2 S T W hL hx hy (by omega) (by omega) (by omega) (by omega) A1 (by simpa using A2) A3 (by simpa using A4) A5 A6 D1 D2 B1 B3 B6 trivial (by rw [E2]; simp; omega) o1 o2
          · exact go_main10gt x y q p _ _ k2 n2 S T W hL hx hy (by omega) (by omega) (by omega) (by omega) A1 (by simpa using A2) A3 (by simpa using A4) A5 A6 D1 D2 B1 B3 B6 trivial (by rw [E2]; simp; omega) o1 o2
          · exact go_main11eq x y q p _ _ k2 n2 S T W hL hx hy (by omega) (by omega) (by omega) (by omega) A1 (by simpa using A2) A3 (by simpa using A4) A5 A6 D1 D2 B1 B3 B6 trivial (by rw [E2]; simp; omega) o1 o2 (l1 o1) (l2 (l1 o1)) (l3 (l1 o1))
          · exact go_main11lt x y q p _ _ k2 n2 S T W hL hx hy (by omega) (by omega) (by omega) (by omega) A1 (by simpa using A2) A3 (by simpa using A4) A5 A6 D1 D2 B1 B3 B6 (E1 (by have := l1 o1; omega)) (by rw [E2]; simp; omega) o1 o2 (l1 o1) (l2 (l1 o1)) (l3 (l1 o1))
          · exact go_main11ge x y q p _ _ k2 n2 S T W hL hx hy (by omega) (by omega) (by omega) (by omega) A1 (by simpa using A2) A3 (by simpa using A4) A5 A6 D1 D2 B1 B3 B6 trivial (by rw [E2]; simp; omega) o1 o2
          · exact go_main11gt x y q p _ _ k2 n2 S T W hL hx hy (by omega) (by omega) (by omega) (by omega) A1 (by simpa using A2) A3 (by simpa using A4) A5 A6 D1 D2 B1 B3 B6 trivial (by rw [E2]; simp; omega) o1 o2
        exact key (by omega) (by omega)
    · exact go_aw2 _ u W hL x rfl hx0 hu
  · exact go_aw1 t u W hL ht
end Go.Proofs.YthmijkpkegdcdaaDoor
