/- Contract of the document's Hex. -/
import Derived.Test.YtlnagnkiadlfpaaDoorHexed
import Derived.Test.YtlnagnkiadlfpaaDoorCrcM
import Derived.Laws.IdiomStrings
namespace Go.Proofs.YtlnagnkiadlfpaaDoor
open Go.RowKit
set_option linter.unusedVariables false

theorem hexL_pair (l : List UInt8) (b : UInt8) : bs (hexL l) ++ pairS b.toNat = bs (hexL (l ++ [b])) := by
  rw [hexL_snoc, ← bs_append2]; rfl

/-- '[]byte(s)': new memory that holds the bytes. -/
theorem bytes_of (s : ByteArray) (w : World) : ∃ cap W, (convert 9 40 (.string s)).run Tryd.prog w = .ok (.slice (some ⟨w.heap.size, 0, none⟩) s.size cap) W ∧ Below w.heap.size w W ∧ (∀ (j : Nat) (h : j < s.size), W.cell? ⟨w.heap.size, j, none⟩ = some (.int .u8 (s[j].toNat : Int))) := by
  refine ⟨_, _, run_bytes_of_string (P := Tryd.prog) w 9 40 5 s Tryd.underlying9 Tryd.underlying40 Tryd.underlying5, ((Below.refl _ w).drew).alloc (Nat.le_refl _) _, fun j h => ?_⟩
  exact (World.cell?_alloc_mark w.drew _ _ _ j).trans (bytesRow_at s _ j h)

set_option maxRecDepth 100000 in
set_option maxHeartbeats 1000000 in
theorem rhex_any (s : ByteArray) (w : World) (hs : s.size ≤ 100000) :
    Calls Tryd.prog 9 #[.string s] w fun e w' => e = .returned (.string (bs (hexL s.data.toList))) ∧ Below w.heap.size w w' := by
  go_enter Tryd.func9, Tryd.ntmps9
  go_wp2_with fail
  refine (pairs_any _).mono ?_
  rintro e w1 ⟨g, cap, rfl, hown, hb1⟩
  obtain ⟨capc, W, hcv, hbW, hcW⟩ := bytes_of s w1
  have hgl : g < w1.heap.size := (hown.lt g rfl).2
  have hcP : Hid (∀ m, m < 256 → W.cell? ⟨g, m, none⟩ = some (.string (pairS m))) := fun m hm => by
    rw [hbW.cell (p := ⟨g, m, none⟩) hgl, hown.cellAt m (by omega), prs_at 256 m hm]
  have HCW : Hid _ := hcW
  have hb2 : Below w.heap.size w W := hb1.trans (hbW.mono hb1.size)
  clear hown hb1 hbW hcW
  go_wp2
  go_loop [4, 11] (fun v x => ∃ k : Nat, k ≤ s.size ∧ x = .int .i64 k ∧ v = .string (bs (hexL (s.data.toList.take k)))) (fun _ x => s.size - (intOf x).toNat)
  case atStart => exact ⟨0, by omega, rfl, rfl⟩
  case round =>
    obtain ⟨k, hk, rfl, rfl⟩ := hrel
    by_cases hlt : k < s.size
    · have hc1 := HCW.out k hlt
      have hb : s[k].toNat < 256 := s[k].toNat_lt
      have hc2 := hcP.out _ hb
      have HS : Hid (_ = _) := hexL_pair (s.data.toList.take k) s[k]
      rw [← take_snoc s k hlt] at HS
      have s1 : (bs (hexL (s.data.toList.take k))).size ≤ 200000 := by
        rw [bs_size2, hexL_len, List.length_take, size_toList]; omega
      have s2 : (pairS s[k].toNat).size ≤ 2 := by unfold pairS; rw [bs_size2]; simp
      go_wp2
      go_round
      case rel => exact ⟨k + 1, by omega, by go_num, by rw [← HS.out]⟩
      case measure => simp [intOf]; omega
    · have HE : Hid (s.data.toList.take k = s.data.toList) := List.take_of_length_le (by rw [size_toList]; omega)
      rw [HE.out]
      go_wp2
      go_ret
      exact ⟨rfl, hb2⟩
end Go.Proofs.YtlnagnkiadlfpaaDoor
