/- Contract of match.Tokens, and of the law's own awake of layer 5. -/
import Derived.Test.YtdmnmclhfeoghaaMatchT
namespace Go.Proofs.Ytdmnmclhfeoghaa
open Go.RowKit
set_option linter.unusedVariables false

set_option maxRecDepth 100000 in
set_option maxHeartbeats 1000000 in
theorem tokens_arg (s : ByteArray) (lv : Int) (w : World) (h : lv < 0 ∨ 9 < lv) :
    Calls Try.prog 19 #[.string s, .int .i64 lv] w fun e w' => e = .returned (.tuple #[.slice none 0 0, .int .i64 1]) ∧ w' = w := by
  rcases h with h | h
  · go_enter Try.func19, Try.ntmps19
    go_wp2
    go_ret2
    exact ⟨rfl, rfl⟩
  · have h0 : ¬ lv < 0 := by omega
    go_enter Try.func19, Try.ntmps19
    go_wp2
    go_ret2
    exact ⟨rfl, rfl⟩
set_option maxRecDepth 100000 in
set_option maxHeartbeats 1000000 in
theorem tokens_big (s : ByteArray) (lv : Nat) (w : World) (h9 : lv ≤ 9) (hs : 65536 < s.size) :
    Calls Try.prog 19 #[.string s, .int .i64 (lv : Int)] w fun e w' => e = .returned (.tuple #[.slice none 0 0, .int .i64 2]) ∧ w' = w := by
  have h0 : ¬ (lv : Int) < 0 := by omega
  have h1 : ¬ (9 : Int) < (lv : Int) := by omega
  have h2 : (65536 : Int) < (s.size : Int) := by omega
  go_enter Try.func19, Try.ntmps19
  go_wp2
  go_ret2
  exact ⟨rfl, rfl⟩
set_option maxRecDepth 100000 in
set_option maxHeartbeats 1000000 in
theorem tokens_ok (s : ByteArray) (lv : Nat) (w : World) (h9 : lv ≤ 9) (hs : s.size ≤ 65536) :
    Calls Try.prog 19 #[.string s, .int .i64 (lv : Int)] w fun e w' => ∃ v, e = .returned (.tuple #[v, .int .i64 0]) ∧ TR w' v (toks s lv) ∧ Below w.heap.size w w' := by
  have h0 : ¬ (lv : Int) < 0 := by omega
  have h1 : ¬ (9 : Int) < (lv : Int) := by omega
  have h2 : ¬ (65536 : Int) < (s.size : Int) := by omega
  by_cases hl : lv = 0
  · subst hl
    have HC : Hid (Calls _ _ _ _ _) := bytesOf_any s w (by omega)
    go_enter Try.func19, Try.ntmps19
    go_wp2_with fail
    refine (Hid.out HC : Calls _ _ _ _ _).mono ?_
    rintro e w1 ⟨v, rfl, hT, hB⟩
    have HT : Hid (TR w1 v (toks s 0)) := hT
    clear hT HC
    go_wp2
    go_ret2
    exact ⟨v, rfl, HT.out, hB⟩
  · have HC : Hid (Calls _ _ _ _ _) := repeats_any s lv w (by omega) (by omega) h9
    have hli : ((lv : Int) == 0) = false := by simp; omega
    have HE : Hid (toks s lv = (tokK s lv s.size).1) := by unfold Hid toks; rw [if_neg hl]
    go_enter Try.func19, Try.ntmps19
    go_wp2_with fail
    refine (Hid.out HC : Calls _ _ _ _ _).mono ?_
    rintro e w1 ⟨v, rfl, hT, hB⟩
    rw [← HE.out] at hT
    have HT : Hid (TR w1 v (toks s lv)) := hT
    clear hT HC
    go_wp2
    go_ret2
    exact ⟨v, rfl, HT.out, hB⟩
theorem TR.lit (w : World) (ts : List Tok) (n : Nat) (hn : n = ts.length) (ty : TypeId) : TR (w.alloc (.cells (tcs ts).toArray ty)) (.slice (some ⟨w.heap.size, 0, none⟩) n n) ts := by
  subst hn
  refine .inr ⟨w.heap.size, ts.length, rfl, by rw [World.size_alloc]; omega, fun i t ht => ?_⟩
  obtain ⟨a, b, c⟩ := tcs_at ts i t ht
  refine ⟨?_, ?_, ?_⟩ <;> rw [cell_of_row _ _ _ _ _ _ (heap_alloc_new w _), List.getElem?_toArray]
  · exact a
  · exact b
  · exact c
theorem aw5_ex : expF 4 [⟨97, 0, 0⟩, ⟨0, 3, 1⟩] [] = ([97, 97, 97, 97], 0) := by decide +kernel
theorem aw5_tok : toks ⟨#[97, 98]⟩ 0 = [⟨97, 0, 0⟩, ⟨98, 0, 0⟩] := by rfl
set_option maxRecDepth 100000 in
set_option maxHeartbeats 1000000 in
theorem awake5_any (w : World) : Calls Try.prog 17 #[] w fun e w' => e = .returned (.bool true) ∧ Below w.heap.size w w' := by
  have hT := TR.lit w [⟨97, 0, 0⟩, ⟨0, 3, 1⟩] 2 rfl 35
  have hex := expand_any _ _ 4 _ hT (by decide) (by decide) (by decide)
  rw [aw5_ex] at hex
  have HEX : Hid (Calls _ _ _ _ _) := hex
  have HTK : Hid (∀ W, Calls Try.prog 19 #[.string ⟨#[97, 98]⟩, .int .i64 0] W fun e w' => ∃ v, e = .returned (.tuple #[v, .int .i64 0]) ∧ TR w' v [⟨97, 0, 0⟩, ⟨98, 0, 0⟩] ∧ Below W.heap.size W w') := fun W => tokens_ok ⟨#[97, 98]⟩ 0 W (by decide) (by decide)
  clear hT hex
  go_enter Try.func17, Try.ntmps17
  go_wp2_with fail
  refine (Hid.out HEX : Calls _ _ _ _ _).mono ?_
  rintro e w1 ⟨rfl, hb1⟩
  have hB1 : Below w.heap.size w w1 := ((Below.refl _ w).alloc (Nat.le_refl _) _).trans (hb1.mono (by rw [World.size_alloc]; omega))
  clear hb1 HEX
  go_wp2_with fail
  refine (HTK.out _).mono ?_
  rintro e w2 ⟨v, rfl, hT2, hb2⟩
  have hB2 : Below w.heap.size w w2 := hB1.trans (hb2.mono hB1.size)
  clear hb2 hB1
  rcases hT2 with ⟨h, _⟩ | ⟨g, cap, rfl, hg, hc⟩
  · cases h
  obtain ⟨q0, q1, q2⟩ := hc 1 ⟨98, 0, 0⟩ rfl
  simp only at q0
  have hbs : bs [97, 97, 97, 97] = ⟨#[97, 97, 97, 97]⟩ := by rfl
  rw [hbs]
  go_wp2
  go_ret
  exact ⟨rfl, hB2⟩
end Go.Proofs.Ytdmnmclhfeoghaa
