/- Contract of bits.Unvar: the number at the front of a text, and how many bytes it has. -/
import Derived.Test.YtkgjepgaekbniaaDoorRows
import Derived.Test.YtkgjepgaekbniaaDoorQBase
import Derived.Test.YtkgjepgaekbniaaDoorQVarM
import Derived.Test.YtkgjepgaekbniaaDoorQCrcM
namespace Go.Proofs.YtkgjepgaekbniaaDoor
open Go.RowKit
set_option linter.unusedVariables false

theorem drop_cons (s : ByteArray) (k : Nat) (h : k < s.size) : s.data.toList.drop k = s[k] :: s.data.toList.drop (k + 1) := by
  rw [List.drop_eq_getElem_cons (by simpa using h)]; rfl

theorem tup2 {k k' : IntKind} {a a' b b' : Int} (h : a = a') (h' : b = b') : Ending.returned (.tuple #[.int k a, .int k' b]) = .returned (.tuple #[.int k a', .int k' b']) := by rw [h, h']

set_option maxRecDepth 100000 in
set_option maxHeartbeats 400000 in
theorem unvar_any (s : ByteArray) (w : World) (hs : s.size ≤ 9223372036854775807) :
    Calls Tryd.prog 47 #[.string s] w fun e w' => e = .returned (.tuple #[.int .u64 (uv s.data.toList 0 0).1, .int .i64 (uv s.data.toList 0 0).2]) ∧ w' = w := by
  go_enter Tryd.func47, Tryd.ntmps47
  go_wp2
  go_loop [4, 5] (fun x i => ∃ k acc : Nat, k ≤ 9 ∧ k ≤ s.size ∧ i = .int .i64 k ∧ x = .int .u64 acc ∧ acc < 128 ^ k ∧ uv (s.data.toList.drop k) k acc = uv s.data.toList 0 0) (fun _ i => 10 - (intOf i).toNat)
  case atStart => exact ⟨0, 0, by omega, by omega, rfl, rfl, by decide, rfl⟩
  case round =>
    obtain ⟨k, acc, hk, hks, rfl, rfl, hacc, huv⟩ := hrel
    by_cases hlt : k < s.size
    · rw [drop_cons s k hlt] at huv
      have hb : s[k].toNat < 256 := s[k].toNat_lt
      have han := and127 s[k].toNat hb
      by_cases h9 : k = 9
      · subst h9
        by_cases h1 : 1 < s[9].toNat
        · rw [uv_wide _ _ _ _ rfl h1] at huv
          have HU : Hid (_ = _) := huv
          clear huv
          go_wp2
          go_ret2
          rw [← HU.out]
          exact ⟨rfl, rfl⟩
        · have ho := uv_or acc s[9].toNat 9 hk (by omega) hacc
          have HO : Hid (_ = _) := uv_or9 acc s[9].toNat (by omega) hacc
          by_cases h0 : s[9].toNat = 0
          · rw [uv_nought _ _ _ _ h0 (by omega)] at huv
            have HU : Hid (_ = _) := huv
            have h0' : s[9].toNat ≤ 0 := by omega
            clear huv h0 ho
            go_wp2
            go_ret2
            rw [← HU.out]
            exact ⟨rfl, rfl⟩
          · rw [uv_last _ _ _ _ (by omega) (by omega) (by omega)] at huv
            have HU : Hid (_ = _) := huv
            have h0' : 1 ≤ s[9].toNat := by omega
            clear huv h0 ho
            go_wp2
            go_ret2
            rw [← HU.out]
            exact ⟨tup2 HO.out rfl, rfl⟩
      · have ho := uv_or acc s[k].toNat k hk (by omega) hacc
        by_cases h128 : 128 ≤ s[k].toNat
        · rw [uv_more _ _ _ _ h9 h128] at huv
          have hnx := acc_next acc s[k].toNat k hacc
          have HU : Hid (_ = _) := huv
          have HN : Hid (_ < _) := hnx
          have hk9 : k < 9 := by omega
          clear huv hnx h9 hacc
          go_wp2
          go_round
          case rel => exact ⟨k + 1, _, by omega, by omega, by go_num, by rw [← ho]; rfl, HN.out, HU.out⟩
          case measure => simp [intOf]; omega
        · have HO : Hid (_ = _) := ho
          have hk9 : k < 9 := by omega
          by_cases h0 : s[k].toNat = 0 ∧ 0 < k
          · rw [uv_nought _ _ _ _ h0.1 h0.2] at huv
            have HU : Hid (_ = _) := huv
            have h0' : s[k].toNat ≤ 0 := by omega
            have h0k := h0.2
            clear huv h0 ho h9
            go_wp2
            go_ret2
            rw [← HU.out]
            exact ⟨rfl, rfl⟩
          · rw [uv_last _ _ _ _ (by omega) (by omega) h0] at huv
            have HU : Hid (_ = _) := huv
            clear huv ho h9
            by_cases hz : s[k].toNat = 0
            · have hk0 : k = 0 := by omega
              subst hk0
              have ha0 : acc = 0 := by simp at hacc; omega
              subst ha0
              have hz' : s[0].toNat ≤ 0 := by omega
              have HZ : Hid (_ = _) := hz
              clear h0 hz HO
              go_wp2
              go_ret2
              rw [← HU.out]
              exact ⟨tup2 (by rw [HZ.out]; decide) rfl, rfl⟩
            · have hz' : 1 ≤ s[k].toNat := by omega
              clear h0 hz
              go_wp2
              go_ret2
              rw [← HU.out]
              exact ⟨tup2 HO.out rfl, rfl⟩
    · rw [List.drop_eq_nil_of_le (by simp; omega), uv_nil] at huv
      have HU : Hid (_ = _) := huv
      clear huv
      go_wp2
      go_ret2
      rw [← HU.out]
      exact ⟨rfl, rfl⟩
end Go.Proofs.YtkgjepgaekbniaaDoor
