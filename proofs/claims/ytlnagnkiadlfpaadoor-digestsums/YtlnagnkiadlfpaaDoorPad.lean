/- Contract of digest.padding. -/
import Derived.Test.YtlnagnkiadlfpaaDoorOwnB
import Derived.Test.YtlnagnkiadlfpaaDoorShelf
import Derived.Test.YtlnagnkiadlfpaaDoorU8
import Derived.Lib.RepeatB
namespace Go.Proofs.YtlnagnkiadlfpaaDoor
open Go.RowKit
set_option linter.unusedVariables false

/-- A padding's first bytes, and k of the size's. -/
def padK (n k : Nat) : List UInt8 := 128 :: List.replicate ((119 - n % 64) % 64) 0 ++ (List.range k).map fun i => UInt8.ofNat (n * 8 / 2 ^ (56 - 8 * i))
theorem padK_len (n k : Nat) : (padK n k).length = 1 + (119 - n % 64) % 64 + k := by simp [padK]; omega
theorem pad_byte (n k : Nat) : bc [UInt8.ofNat (n * 8 / 2 ^ (56 - 8 * k))] = [.int .u8 ((n : Int) * 8 / 2 ^ (56 - 8 * k) % 256)] := by
  simp [bc]
theorem pad_end (n : Nat) : padK n 8 = padL n := by unfold padK padL; rfl
theorem padK_succ (n k : Nat) : padK n (k + 1) = padK n k ++ [UInt8.ofNat (n * 8 / 2 ^ (56 - 8 * k))] := by simp [padK, List.range_succ]

/-- The noughts, closed to the walk. -/
def noughts (n : Nat) : ByteArray := tx (List.replicate ((119 - n % 64) % 64) 0)
theorem rep0 (n : Nat) (w : World) : Calls Tryd.prog 31 #[.string ⟨#[0]⟩, .int .i64 ((119 - (n : Int)) % 64)] w fun e w' => e = .returned (.string (noughts n)) ∧ Below w.heap.size w w' := by
  have h := Tryd.strings_Repeat ⟨#[0]⟩ ((119 - n % 64) % 64) w (by omega) (by show 1 * _ ≤ _; omega)
  rw [show (((119 - n % 64) % 64 : Nat) : Int) = (119 - (n : Int)) % 64 by omega] at h
  refine h.mono fun e w' ⟨he, hw⟩ => ⟨?_, hw⟩
  rw [he]
  have := Lib.repeatL_replicate 0 1 ((119 - n % 64) % 64)
  rw [Nat.mul_one] at this
  show _ = Ending.returned (.string ⟨(List.replicate _ 0).toArray⟩)
  rw [← this]; rfl
theorem first_data (n : Nat) : ((⟨#[128]⟩ : ByteArray) ++ noughts n).data.toList = padK n 0 := by
  rw [ByteArray.data_append, Array.toList_append]; simp [padK, noughts, tx]
theorem noughts_size (n : Nat) : (noughts n).size ≤ 64 := by show (List.replicate _ (0 : UInt8)).toArray.size ≤ 64; simp; omega

theorem conv_first (w w1 : World) (hb1 : Below w.heap.size w w1) (s : ByteArray) (l : List UInt8) (hl : s.data.toList = l) :
    ∃ v W, (convert 9 40 (.string s)).run Tryd.prog w1 = .ok v W ∧ OwnB w.heap.size W v l ∧ Below w.heap.size w W := by
  subst hl
  have hr := run_bytes_of_string (P := Tryd.prog) w1 9 40 5 s Tryd.underlying9 Tryd.underlying40 Tryd.underlying5
  have ho := OwnB.conv w1 5 s
  have hb := hb1.drew.alloc (o := .cells (bytesRow s (grownCap w1 s.size 0 5)) 5 ((bytesRow s (grownCap w1 s.size 0 5)).size, (bytesRow s (grownCap w1 s.size 0 5)).size + 1)) hb1.size
  exact ⟨_, _, hr, ho.mono hb1.size, hb⟩

set_option maxRecDepth 100000 in
set_option maxHeartbeats 400000 in
theorem padding_any (n : Nat) (w : World) (hn : n ≤ 140737488355328) :
    Calls Tryd.prog 27 #[.int .u64 n] w fun e w' => e = .returned (.string (tx (padL n))) ∧ Below w.heap.size w w' := by
  obtain ⟨i0, hi, hz0, hz1, hz2⟩ := info_parts Tryd.infoU8
  have t1 : (n : Int).tmod 64 = (n : Int) % 64 := Int.tmod_eq_emod_of_nonneg (by omega)
  have t2 : (119 - (n : Int) % 64).tmod 64 = (119 - (n : Int) % 64) % 64 := Int.tmod_eq_emod_of_nonneg (by omega)
  go_enter Tryd.func27, Tryd.ntmps27
  go_wp2_with fail
  refine (rep0 n w).mono ?_
  rintro e w1 ⟨rfl, hb1⟩
  have HF : Hid (_ = _) := first_data n
  have hns := noughts_size n
  generalize noughts n = Z at *
  obtain ⟨v0, W0, hcv, hO, hB0⟩ := conv_first w w1 hb1 (⟨#[128]⟩ ++ Z) (padK n 0) HF.out
  clear t1 t2 HF
  go_wp2
  clear hcv hb1 hns
  go_loopw [4, 5] (fun v i wr => ∃ k : Nat, k ≤ 8 ∧ i = .int .i64 (56 - 8 * (k : Int)) ∧ OwnB w.heap.size wr v (padK n k) ∧ Below w.heap.size w wr) (fun _ i _ => (intOf i + 8).toNat)
  case atStart => exact ⟨0, by omega, by simp, hO, hB0⟩
  case round =>
    clear hO hB0
    obtain ⟨k, hk, rfl, hown, hbel⟩ := hrel
    by_cases hlt : k < 8
    · have HS : Hid (_ = _) := padK_succ n k
      have hl := padK_len n k
      have e1 : (0 : Int) ≤ 56 - 8 * (k : Int) := by omega
      have e2 : (56 - 8 * (k : Int)).toNat = 56 - 8 * k := by omega
      have HV : Hid (bc [UInt8.ofNat (n * 8 / 2 ^ (56 - 8 * k))] = [.int .u8 ((n : Int) * 8 / 2 ^ (56 - 8 * k) % 256)]) := pad_byte n k
      go_wp2_with (at_builtin; refine wpList_append_ownB _ rfl _ _ 40 rfl 5 i0 Tryd.underlying40 hi hz0 hz1 hz2 w.heap.size _ (padK n k) [UInt8.ofNat (n * 8 / 2 ^ (56 - 8 * k))] rfl (hown.alloc _) w (hbel.alloc hbel.size _) ?c1 ⟨wr.heap.size, 0, none⟩ 1 1 rfl rfl ?c2 ?c3 (by decide) ?_)
      case c1 => rw [World.size_alloc]; have := hbel.size; omega
      case c2 => rw [HV.out]; exact cell_one_new _ _ _
      case c3 => omega
      intro v' w2 hown' hb'
      rw [← HS.out] at hown'
      clear hown hbel HV HS hl
      go_wp2
      go_roundw
      case rel => exact ⟨k + 1, by omega, by go_num, hown', hb'⟩
      case measure => simp [intOf]; omega
    · obtain rfl : k = 8 := by omega
      have hc := hown.text (P := Tryd.prog) (dst := 9) Tryd.underlying40 Tryd.underlying5 Tryd.underlying9
      have HP : Hid (padK n 8 = padL n) := pad_end n
      clear hown
      go_wp2
      go_ret
      exact ⟨by rw [← HP.out]; rfl, hbel⟩
end Go.Proofs.YtlnagnkiadlfpaaDoor
