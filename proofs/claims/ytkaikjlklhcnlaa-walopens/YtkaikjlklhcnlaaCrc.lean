/- Contracts of bits.Crc and bits.Crc32: the cyclic sum of a text behind what has the sum c. -/
import Derived.Test.YtkaikjlklhcnlaaTab
import Derived.Laws.DeepBits32
namespace Go.Proofs.Ytkaikjlklhcnlaa
open Go.RowKit
set_option linter.unusedVariables false

theorem not_u32 (n : Nat) (h : n < 4294967296) : bits BinOp.xor IntKind.u32 IntKind.u32.max (n : Int) = ((4294967295 - n : Nat) : Int) := by
  have e : IntKind.u32.max = ((4294967295 : Nat) : Int) := by decide
  rw [e, u32_xor_nat _ _ (by decide) h]
  congr 1
  apply Nat.eq_of_testBit_eq
  intro i
  rw [Nat.testBit_xor, show 4294967295 - n = 2 ^ 32 - (n + 1) by omega, Nat.testBit_two_pow_sub_succ (by omega), show 4294967295 = 2 ^ 32 - 1 by decide, Nat.testBit_two_pow_sub_one]
  by_cases hi : i < 32
  · simp [hi]
  · rw [Nat.testBit_lt_two_pow (Nat.lt_of_lt_of_le (show n < 2 ^ 32 by omega) (Nat.pow_le_pow_right (by decide) (by omega)))]; simp [hi]

set_option maxRecDepth 100000 in
set_option maxHeartbeats 400000 in
theorem crc_any (c : Int) (s : ByteArray) (w : World) (h0 : 0 ≤ c) (h1 : c < 4294967296) (hs : s.size ≤ 140737488351232) :
    Calls Try.prog 52 #[.int .u32 c, .string s] w fun e w' => e = .returned (.int .u32 (crcV c.toNat s.data.toList)) ∧ Below w.heap.size w w' := by
  obtain ⟨n, rfl⟩ := Int.eq_ofNat_of_zero_le h0
  rw [Int.toNat_natCast]
  have hn : n < 4294967296 := by omega
  have hz := (zero_of_info Try.zeroT).1
  have hsz : Hid ((Try.prog.info? 96).map (·.size) = some (tc ent).size) := by rw [tc_size]; exact Try.infoT
  clear h0 h1
  go_enter Try.func52, Try.ntmps52
  go_wp2_with (first | (go_at_call 60; refine (table_any _).mono ?_; rintro e w1 ⟨rfl, hb1⟩) | refine wpList_store_row rfl 96 _ _ rfl _ (tc ent) rfl rfl 96 _ (heap_alloc_new _ _) hsz.out (by rw [tc_size, tc_zero, tc_size]) (tc_one ent) ?_)
  rw [not_u32 n hn]
  have hb : Below w.heap.size w ((w1.alloc (.cells zt 96)).setRow w1.heap.size (tc ent)) := below_setRow (hb1.alloc hb1.size _) hb1.size _
  have hg : ((w1.alloc (.cells zt 96)).setRow w1.heap.size (tc ent)).heap[w1.heap.size]? = some (.cells (tc ent) 96 (0, 0)) := setRow_heap _ _ _ _ _ _ (heap_alloc_new _ _)
  generalize ((w1.alloc (.cells zt 96)).setRow w1.heap.size (tc ent)) = W at *
  have hcell : Hid (∀ j, j < 256 → W.cell? ⟨w1.heap.size, j, none⟩ = some (.int .u32 (ent j))) := fun j hj => by rw [cell_of_row _ _ _ _ _ _ hg, tc_at _ _ hj]
  clear hg hb1 hz hsz
  go_loop [0, 6] (fun c i => ∃ k : Nat, k ≤ s.size ∧ i = .int .i64 k ∧ c = .int .u32 (crcF (4294967295 - n) (s.data.toList.take k))) (fun _ i => s.size - (intOf i).toNat)
  case atStart => exact ⟨0, by omega, rfl, rfl⟩
  case round =>
    obtain ⟨k, hk, rfl, rfl⟩ := hrel
    by_cases hlt : k < s.size
    · have hl := crcF_lt (s.data.toList.take k) (4294967295 - n) (by omega)
      have hts := crcF_snoc (4294967295 - n) (s.data.toList.take k) s[k]
      rw [← take_snoc s k hlt] at hts
      have HTS : Hid (_ = _) := hts
      clear hts
      generalize crcF (4294967295 - n) (s.data.toList.take k) = C at *
      have hb8 := s[k].toNat_lt
      have hx1 : bits BinOp.xor IntKind.u8 ((C : Int) % 256) (s[k].toNat : Int) = ((C % 256 ^^^ s[k].toNat : Nat) : Int) := u8_xor_nat (C % 256) (s[k].toNat) (by omega) hb8
      have hxl := xor_byte (C % 256) (s[k].toNat) (by omega) hb8
      have hc := hcell.out _ hxl
      have hx2 : bits BinOp.xor IntKind.u32 (ent (C % 256 ^^^ s[k].toNat) : Int) ((C : Int) / 256) = ((ent (C % 256 ^^^ s[k].toNat) ^^^ (C / 256) : Nat) : Int) := u32_xor_nat (ent (C % 256 ^^^ s[k].toNat)) (C / 256) (ent_lt _ (by omega)) (by omega)
      have HX : Hid (crcStep C s[k].toNat = (ent (C % 256 ^^^ s[k].toNat) ^^^ (C / 256))) := rfl
      generalize C % 256 ^^^ s[k].toNat = J at *
      generalize (ent J ^^^ (C / 256)) = V at *
      go_wp2
      go_round
      case rel => exact ⟨k + 1, by omega, by go_num, by rw [HTS.out, HX.out]⟩
      case measure => simp [intOf]; omega
    · have hl := crcF_lt (s.data.toList.take k) (4294967295 - n) (by omega)
      have hnot := not_u32 _ hl
      have HE : Hid (crcV n s.data.toList = 4294967295 - crcF (4294967295 - n) (s.data.toList.take k)) := by
        unfold Hid crcV; rw [List.take_of_length_le (by simpa using hlt)]
      generalize crcF (4294967295 - n) (s.data.toList.take k) = C at *
      go_wp2
      go_ret
      refine ⟨?_, hb⟩
      rw [HE.out]; rfl

set_option maxHeartbeats 400000 in
theorem crc32_any (s : ByteArray) (w : World) (hs : s.size ≤ 140737488351232) :
    Calls Try.prog 34 #[.string s] w fun e w' => e = .returned (.int .u32 (crcV 0 s.data.toList)) ∧ Below w.heap.size w w' := by
  go_enter Try.func34, Try.ntmps34
  go_wp2_with (go_at_call 52; refine (crc_any _ _ _ (by omega) (by omega) hs).mono ?_; rintro e w1 ⟨rfl, hb1⟩)
  go_ret
  exact ⟨rfl, hb1⟩
end Go.Proofs.Ytkaikjlklhcnlaa
