/- Contract of (*bitio.Sink).Text. -/
import Derived.Test.YtbkaeibjhnndfaaSnkP
namespace Go.Proofs.Ytbkaeibjhnndfaa
open Go.RowKit
set_option linter.unusedVariables false

theorem put8 (g : Nat) (L : List Bool) (x : Nat) (w : World) (hS : SinkAt w g L) (hx : x < 256) (hL : L.length ≤ 3000000000000000000) :
    Calls Try.prog 20 #[.pointer (some ⟨g, 0, none⟩), .int .u32 (x : Int), .int .i64 8] w fun e w' => e = .returned (.tuple #[]) ∧ SinkAt w' g (L ++ lowB x 8) ∧ w.grownBy w' (some g) :=
  wput_any g L x 8 w hS (by omega) hL (by decide)
theorem rowOf_snoc (l : List UInt8) (b : UInt8) : rowOf (l ++ [b]) = rowOf l ++ lowB b.toNat 8 := by
  apply List.ext_getElem?
  intro i
  by_cases h : i < 8 * l.length
  · rw [List.getElem?_append_left (by rw [rowOf_len]; exact h)]
    unfold rowOf
    rw [List.getElem?_map, List.getElem?_map, List.getElem?_range (by simp; omega), List.getElem?_range h]
    simp only [Option.map_some]
    congr 1
    unfold sbit
    rw [List.getD_eq_getElem?_getD, List.getD_eq_getElem?_getD, List.getElem?_append_left (by omega)]
  · rw [List.getElem?_append_right (by rw [rowOf_len]; omega), rowOf_len]
    by_cases h2 : i < 8 * (l.length + 1)
    · unfold rowOf lowB
      rw [List.getElem?_map, List.getElem?_map, List.getElem?_range (by simp; omega), List.getElem?_range (by omega)]
      simp only [Option.map_some]
      congr 1
      unfold sbit
      rw [List.getD_eq_getElem?_getD, show i / 8 = l.length by omega, List.getElem?_append_right (Nat.le_refl _), Nat.sub_self, show i % 8 = i - 8 * l.length by omega]
      rfl
    · rw [List.getElem?_eq_none (by rw [rowOf_len]; simp; omega), List.getElem?_eq_none (by rw [lowB_len]; omega)]
set_option maxRecDepth 100000 in
set_option maxHeartbeats 400000 in
theorem wtext_any (g : Nat) (L : List Bool) (s : ByteArray) (w : World) (hS : SinkAt w g L) (hL : L.length ≤ 1000000000000000000) (hs : s.size ≤ 140737488351232) :
    Calls Try.prog 25 #[.pointer (some ⟨g, 0, none⟩), .string s] w fun e w' => e = .returned (.tuple #[]) ∧ SinkAt w' g (evenL L ++ rowOf s.data.toList) ∧ w.grownBy w' (some g) := by
  have hE := evenL_len L
  go_enter Try.func25, Try.ntmps25
  go_wp2_with fail
  refine (weven_any g L _ hS (by omega)).mono ?_
  rintro e w1 ⟨rfl, hS1, hG1⟩
  go_wp2
  go_loopw [9] (fun i wr => ∃ k : Nat, k ≤ s.size ∧ i = .int .i64 (k : Int) ∧ SinkAt wr g (evenL L ++ rowOf (s.data.toList.take k)) ∧ w.grownBy wr (some g)) (fun i _ => s.size - (intOf i).toNat)
  case atStart => exact ⟨0, by omega, rfl, by simpa [rowOf] using hS1, hG1⟩
  case round =>
    clear hS hS1 hG1
    obtain ⟨k, hk, rfl, hS, hG⟩ := hrel
    by_cases hlt : k < s.size
    · have HR : Hid (rowOf (s.data.toList.take (k + 1)) = rowOf (s.data.toList.take k) ++ lowB s[k].toNat 8) := by unfold Hid; rw [take_snoc s k hlt, rowOf_snoc]
      have hle : (evenL L ++ rowOf (s.data.toList.take k)).length ≤ 3000000000000000000 := by rw [List.length_append, rowOf_len, List.length_take]; omega
      have hb := s[k].toNat_lt
      have hkl : (k : Int) < (s.size : Int) := by omega
      generalize hBk : s[k].toNat = B at *
      go_wp2_with fail
      refine (put8 g _ B _ hS (by omega) hle).mono ?_
      rintro e w2 ⟨rfl, hS2, hG2⟩
      go_wp2
      go_roundw
      case rel => exact ⟨k + 1, by omega, by go_num, by rw [HR.out, ← List.append_assoc]; exact hS2, gtrans hG hG2⟩
      case measure => simp [intOf]; omega
    · obtain rfl : k = s.size := by omega
      have HT : Hid (s.data.toList.take s.size = s.data.toList) := List.take_of_length_le (by rw [size_toList]; exact Nat.le_refl _)
      go_wp2
      rw [HT.out] at hS
      exact bodyPost_end (results_none rfl _ _ _) rfl ⟨rfl, hS, hG⟩
end Go.Proofs.Ytbkaeibjhnndfaa
