/- Contracts of Blocks with wrong arguments, and of Inflate. -/
import Derived.Test.YtibnkpfginffhacInfN
namespace Go.Proofs.Ytibnkpfginffhac
open Go.RowKit
set_option linter.unusedVariables false

set_option maxRecDepth 100000 in
set_option maxHeartbeats 2000000 in
theorem blocks_bad (s : ByteArray) (a most : Int) (w : World) (h : a < 0 ∨ (s.size : Int) < a ∨ most < 0 ∨ 65536 < most) :
    Calls Try.prog 31 #[.string s, .int .i64 a, .int .i64 most] w fun e w' => e = .returned (.tuple #[.slice none 0 0, .int .i64 0, .int .i64 1]) ∧ w' = w := by
  by_cases h1 : a < 0
  · go_enter Try.func31, Try.ntmps31
    go_wp2
    exact bodyPost_ret (v := .tuple #[.slice none 0 0, .int .i64 0, .int .i64 1]) (by simp [results, Try.results31, go_sem]) rfl ⟨rfl, rfl⟩
  · by_cases h2 : (s.size : Int) < a
    · go_enter Try.func31, Try.ntmps31
      go_wp2
      exact bodyPost_ret (v := .tuple #[.slice none 0 0, .int .i64 0, .int .i64 1]) (by simp [results, Try.results31, go_sem]) rfl ⟨rfl, rfl⟩
    · by_cases h3 : most < 0
      · go_enter Try.func31, Try.ntmps31
        go_wp2
        exact bodyPost_ret (v := .tuple #[.slice none 0 0, .int .i64 0, .int .i64 1]) (by simp [results, Try.results31, go_sem]) rfl ⟨rfl, rfl⟩
      · have h4 : 65536 < most := by omega
        clear h
        go_enter Try.func31, Try.ntmps31
        go_wp2
        exact bodyPost_ret (v := .tuple #[.slice none 0 0, .int .i64 0, .int .i64 1]) (by simp [results, Try.results31, go_sem]) rfl ⟨rfl, rfl⟩
set_option maxRecDepth 100000 in
set_option maxHeartbeats 2000000 in
theorem inflate_bad (s : ByteArray) (a most : Int) (w : World) (h : a < 0 ∨ (s.size : Int) < a ∨ most < 0 ∨ 65536 < most) :
    Calls Try.prog 16 #[.string s, .int .i64 a, .int .i64 most] w fun e w' => e = .returned (.tuple #[.string ⟨#[]⟩, .int .i64 0, .int .i64 1]) ∧ w' = w := by
  have HB : Hid (Calls _ _ _ _ _) := blocks_bad s a most w h
  clear h
  go_enter Try.func16, Try.ntmps16
  go_wp2_with fail
  refine (Hid.out HB : Calls _ _ _ _ _).mono ?_
  rintro e w1 ⟨rfl, hw1⟩
  obtain rfl : w = w1 := hw1.symm
  clear hw1 HB
  go_wp2
  exact bodyPost_ret (v := .tuple #[.string ⟨#[]⟩, .int .i64 0, .int .i64 1]) (by simp [results, Try.results16, go_sem]) rfl ⟨rfl, rfl⟩
set_option maxRecDepth 100000 in
set_option maxHeartbeats 2000000 in
theorem inflate_good (s S : ByteArray) (a most : Nat) (r : Except Nat (List Blk × Nat)) (w : World) (ha : a ≤ s.size) (hm : most ≤ 65536) (hs : s.size ≤ 100000000) (hS : S = s.extract a s.size) (h : blksF (bF8 S) (8 * S.size) most (8 * S.size + 1) 0 0 [] = r) :
    Calls Try.prog 16 #[.string s, .int .i64 (a : Int), .int .i64 (most : Int)] w fun e w' => (∃ l q, r = .ok (l, q) ∧ e = .returned (.tuple #[.string (bs (expF 9223372036854775807 (jkP l) []).1), .int .i64 (((q + 7) / 8 : Nat) : Int), .int .i64 0]) ∧ q ≤ 8 * S.size ∧ Below w.heap.size w w') ∨ (∃ er, r = .error er ∧ er ≠ 0 ∧ e = .returned (.tuple #[.string ⟨#[]⟩, .int .i64 0, .int .i64 (er : Int)]) ∧ Below w.heap.size w w') := by
  have hSs : S.size ≤ 100000000 := by
    rw [hS, ByteArray.size_extract]; omega
  have HBL : Hid (Calls _ _ _ _ _) := blocks_good s S a most r w ha hm hs hS h
  have HH : Hid (blksF (bF8 S) (8 * S.size) most (8 * S.size + 1) 0 0 [] = r) := h
  clear h hS
  go_enter Try.func16, Try.ntmps16
  go_wp2_with fail
  refine (Hid.out HBL : Calls _ _ _ _ _).mono ?_
  clear HBL
  rintro e w1 (⟨l, q, v, rfl, rfl, hO, hq, hll, hB⟩ | ⟨er, rfl, her, rfl, hB⟩)
  · have hout := blksF_out _ _ _ _ _ _ (Nat.zero_le _) (by simp [jkP]) HH.out
    have hje := jtk_eq hO
    have HJ : Hid (Calls _ _ _ _ _) := join_any w.heap.size v l w1 hO (by rw [hje]; omega) (by omega)
    rw [hje] at HJ
    have HB : Hid (Below w.heap.size w w1) := hB
    clear hO hB hje hout HH
    obtain ⟨x, hx⟩ : ∃ x, x = bs (expF 9223372036854775807 (jkP (l.map Prod.fst)) []).1 := ⟨_, rfl⟩
    rw [← hx] at HJ
    have HX : Hid (x = bs (expF 9223372036854775807 (jkP (l.map Prod.fst)) []).1) := hx
    obtain ⟨n, hn⟩ : ∃ n, n = (((q + 7) / 8 : Nat) : Int) := ⟨_, rfl⟩
    rw [← hn]
    have HNN : Hid (n = (((q + 7) / 8 : Nat) : Int)) := hn
    clear hx hn
    go_wp2_with fail
    refine (Hid.out HJ : Calls _ _ _ _ _).mono ?_
    rintro e w2 ⟨rfl, hb2⟩
    have HB2 : Hid (Below w.heap.size w w2) := HB.out.trans (hb2.mono HB.out.size)
    clear hb2 HJ
    go_wp2
    exact bodyPost_ret (v := .tuple #[.string x, .int .i64 n, .int .i64 0]) (by simp [results, Try.results16, go_sem]) rfl (.inl ⟨_, _, rfl, by rw [HX.out, HNN.out], hq, HB2.out⟩)
  · have HB : Hid (Below w.heap.size w w1) := hB
    have heri : ((er : Int) != 0) = true := by simpa using her
    clear hB HH
    go_wp2
    exact bodyPost_ret (v := .tuple #[.string ⟨#[]⟩, .int .i64 0, .int .i64 (er : Int)]) (by simp [results, Try.results16, go_sem]) rfl (.inr ⟨er, rfl, her, rfl, HB.out⟩)
end Go.Proofs.Ytibnkpfginffhac
