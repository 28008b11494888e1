/- Contract of match.Tokens. -/
import Derived.Test.YtibnkpfginffhacMatchT
namespace Go.Proofs.Ytibnkpfginffhac
open Go.RowKit
set_option linter.unusedVariables false

set_option maxRecDepth 100000 in
set_option maxHeartbeats 1000000 in
theorem tokens_arg (s : ByteArray) (lv : Int) (w : World) (h : lv < 0 ∨ 9 < lv) :
    Calls Try.prog 17 #[.string s, .int .i64 lv] w fun e w' => e = .returned (.tuple #[.slice none 0 0, .int .i64 1]) ∧ w' = w := by
  rcases h with h | h
  · go_enter Try.func17, Try.ntmps17
    go_wp2
    go_ret2
    exact ⟨rfl, rfl⟩
  · have h0 : ¬ lv < 0 := by omega
    go_enter Try.func17, Try.ntmps17
    go_wp2
    go_ret2
    exact ⟨rfl, rfl⟩
set_option maxRecDepth 100000 in
set_option maxHeartbeats 1000000 in
theorem tokens_big (s : ByteArray) (lv : Nat) (w : World) (h9 : lv ≤ 9) (hs : 65536 < s.size) :
    Calls Try.prog 17 #[.string s, .int .i64 (lv : Int)] w fun e w' => e = .returned (.tuple #[.slice none 0 0, .int .i64 2]) ∧ w' = w := by
  have h0 : ¬ (lv : Int) < 0 := by omega
  have h1 : ¬ (9 : Int) < (lv : Int) := by omega
  have h2 : (65536 : Int) < (s.size : Int) := by omega
  go_enter Try.func17, Try.ntmps17
  go_wp2
  go_ret2
  exact ⟨rfl, rfl⟩
set_option maxRecDepth 100000 in
set_option maxHeartbeats 1000000 in
theorem tokens_ok (s : ByteArray) (lv : Nat) (w : World) (h9 : lv ≤ 9) (hs : s.size ≤ 65536) :
    Calls Try.prog 17 #[.string s, .int .i64 (lv : Int)] w fun e w' => ∃ v, e = .returned (.tuple #[v, .int .i64 0]) ∧ TR w' v (toks s lv) ∧ Below w.heap.size w w' := by
  have h0 : ¬ (lv : Int) < 0 := by omega
  have h1 : ¬ (9 : Int) < (lv : Int) := by omega
  have h2 : ¬ (65536 : Int) < (s.size : Int) := by omega
  by_cases hl : lv = 0
  · subst hl
    have HC : Hid (Calls _ _ _ _ _) := bytesOf_any s w (by omega)
    go_enter Try.func17, Try.ntmps17
    go_wp2_with fail
    refine (Hid.out HC : Calls _ _ _ _ _).mono ?_
    rintro e w1 ⟨v, rfl, hT, hB⟩
    have HT : Hid (TR w1 v (toks s 0)) := hT
    clear hT HC
    go_wp2
    go_ret2
    exact ⟨v, rfl, HT.out, hB⟩
  · have HC : Hid (Calls _ _ _ _ _) := repeats_any s lv w (by omega) (by omega) h9
    have hli : ((lv : Int) == 0) = false := by simp; omega
    have HE : Hid (toks s lv = (tokK s lv s.size).1) := by unfold Hid toks; rw [if_neg hl]
    go_enter Try.func17, Try.ntmps17
    go_wp2_with fail
    refine (Hid.out HC : Calls _ _ _ _ _).mono ?_
    rintro e w1 ⟨v, rfl, hT, hB⟩
    rw [← HE.out] at hT
    have HT : Hid (TR w1 v (toks s lv)) := hT
    clear hT HC
    go_wp2
    go_ret2
    exact ⟨v, rfl, HT.out, hB⟩
theorem TR.lit (w : World) (ts : List Tok) (n : Nat) (hn : n = ts.length) (ty : TypeId) : TR (w.alloc (.cells (tcs ts).toArray ty)) (.slice (some ⟨w.heap.size, 0, none⟩) n n) ts := by
  subst hn
  refine .inr ⟨w.heap.size, ts.length, rfl, by rw [World.size_alloc]; omega, fun i t ht => ?_⟩
  obtain ⟨a, b, c⟩ := tcs_at ts i t ht
  refine ⟨?_, ?_, ?_⟩ <;> rw [cell_of_row _ _ _ _ _ _ (heap_alloc_new w _), List.getElem?_toArray]
  · exact a
  · exact b
  · exact c
end Go.Proofs.Ytibnkpfginffhac
