/- Contracts of (*bitio.Sink).Put, Turn, Even, Text, Count, and of the zero Sink. -/
import Derived.Test.YtbkaeibjhnndfaaSnkB
import Derived.Test.YtbkaeibjhnndfaaSrc2
namespace Go.Proofs.Ytbkaeibjhnndfaa
open Go.RowKit
set_option linter.unusedVariables false
set_option linter.unusedSimpArgs false

/-- The zero Sink's cells. -/
def snk0 : Array Value := snkC none noughts64 0
theorem Try.zeroSnk : (Try.prog.info? 41).map (fun i => (i.zero, i.size)) = some (some (.agg snk0), 66) := by kernel_rfl
theorem sink_zero (w : World) : SinkAt (w.alloc (.cells snk0 41)) w.heap.size [] := by
  refine ⟨none, ?_, rfl⟩
  rw [restC_past [] _ (by simp)]
  exact heap_alloc_new w _
theorem count_any (g : Nat) (L : List Bool) (w : World) (hS : SinkAt w g L) :
    Calls Try.prog 26 #[.pointer (some ⟨g, 0, none⟩)] w fun e w' => e = .returned (.int .i64 (L.length : Int)) ∧ w' = w := by
  obtain ⟨p, hI, _⟩ := hS
  have c := hI.count (restC_len _ _)
  clear hI
  go_enter Try.func26, Try.ntmps26
  go_wp2
  go_ret
  exact ⟨rfl, rfl⟩
theorem shr_nat (x k : Nat) : ((x : Int) / 2 ^ k) = ((x / 2 ^ k : Nat) : Int) := by simp
theorem shr_test (x k : Nat) : (x / 2 ^ k).testBit 0 = x.testBit k := by rw [Nat.testBit_div_two_pow, Nat.zero_add]
/-- A shifted number's lowest bit, put. -/
theorem wbit_shr (g : Nat) (L : List Bool) (x k : Nat) (w : World) (hS : SinkAt w g L) (hx : x < 4294967296) (hL : L.length ≤ 4000000000000000000) :
    Calls Try.prog 41 #[.pointer (some ⟨g, 0, none⟩), .int .u32 ((x : Int) / 2 ^ k)] w fun e w' => e = .returned (.tuple #[]) ∧ SinkAt w' g (L ++ [x.testBit k]) ∧ w.grownBy w' (some g) := by
  rw [shr_nat, ← shr_test]
  exact wbit_any g L (x / 2 ^ k) w hS (Nat.lt_of_le_of_lt (Nat.div_le_self _ _) hx) hL
set_option maxRecDepth 100000 in
set_option maxHeartbeats 400000 in
theorem wput_any (g : Nat) (L : List Bool) (x : Nat) (n : Int) (w : World) (hS : SinkAt w g L) (hx : x < 4294967296) (hL : L.length ≤ 3000000000000000000) (hn : -9223372036854775808 ≤ n ∧ n ≤ 9223372036854775807) :
    Calls Try.prog 20 #[.pointer (some ⟨g, 0, none⟩), .int .u32 (x : Int), .int .i64 n] w fun e w' => e = .returned (.tuple #[]) ∧ SinkAt w' g (L ++ lowB x (near n 32)) ∧ w.grownBy w' (some g) := by
  have hm : near n 32 ≤ 32 := near_le n 32
  obtain ⟨m, hme⟩ : ∃ m, m = near n 32 := ⟨_, rfl⟩
  have HN : Hid (∀ W : World, Calls Try.prog 36 #[.int .i64 n, .int .i64 32] W fun e w' => e = .returned (.int .i64 (m : Int)) ∧ w' = W) := fun W => near32 n m W hn hme
  rw [← hme] at hm ⊢
  clear hme
  go_enter Try.func20, Try.ntmps20
  go_wp2_with (go_at_call 36; refine (HN.out _).mono ?_; rintro e w1 ⟨rfl, rfl⟩)
  go_loopw [9] (fun i wr => ∃ k : Nat, k ≤ m ∧ i = .int .i64 (k : Int) ∧ SinkAt wr g (L ++ lowB x k) ∧ w1.grownBy wr (some g)) (fun i _ => m - (intOf i).toNat)
  case atStart => exact ⟨0, by omega, rfl, by simpa [lowB] using hS, grefl _ _⟩
  case round =>
    clear hS
    obtain ⟨k, hk, rfl, hS, hG⟩ := hrel
    by_cases hlt : k < m
    · have HL : Hid (_ = _) := lowB_succ x k
      have hle : (L ++ lowB x k).length ≤ 4000000000000000000 := by rw [List.length_append, lowB_len]; omega
      go_wp2_with fail
      refine (wbit_shr g _ x k _ hS hx hle).mono ?_
      rintro e w2 ⟨rfl, hS2, hG2⟩
      go_wp2
      go_roundw
      case rel => exact ⟨k + 1, by omega, by go_num, by rw [HL.out, ← List.append_assoc]; exact hS2, gtrans hG hG2⟩
      case measure => simp [intOf]; omega
    · obtain rfl : k = m := by omega
      go_wp2
      exact bodyPost_end (results_none rfl _ _ _) rfl ⟨rfl, hS, hG⟩
set_option maxRecDepth 100000 in
set_option maxHeartbeats 400000 in
theorem wturn_any (g : Nat) (L : List Bool) (x : Nat) (n : Int) (w : World) (hS : SinkAt w g L) (hx : x < 4294967296) (hL : L.length ≤ 3000000000000000000) (hn : -9223372036854775808 ≤ n ∧ n ≤ 9223372036854775807) :
    Calls Try.prog 22 #[.pointer (some ⟨g, 0, none⟩), .int .u32 (x : Int), .int .i64 n] w fun e w' => e = .returned (.tuple #[]) ∧ SinkAt w' g (L ++ highB x (near n 32)) ∧ w.grownBy w' (some g) := by
  have hm : near n 32 ≤ 32 := near_le n 32
  obtain ⟨m, hme⟩ : ∃ m, m = near n 32 := ⟨_, rfl⟩
  have HN : Hid (∀ W : World, Calls Try.prog 36 #[.int .i64 n, .int .i64 32] W fun e w' => e = .returned (.int .i64 (m : Int)) ∧ w' = W) := fun W => near32 n m W hn hme
  rw [← hme] at hm ⊢
  clear hme
  go_enter Try.func22, Try.ntmps22
  go_wp2_with (go_at_call 36; refine (HN.out _).mono ?_; rintro e w1 ⟨rfl, rfl⟩)
  go_loopw [6] (fun i wr => ∃ k : Nat, k ≤ m ∧ i = .int .i64 ((m : Int) - 1 - (k : Int)) ∧ SinkAt wr g (L ++ (highB x m).take k) ∧ w1.grownBy wr (some g)) (fun i _ => (intOf i + 1).toNat)
  case atStart => exact ⟨0, by omega, by simp, by simpa using hS, grefl _ _⟩
  case round =>
    clear hS
    obtain ⟨k, hk, rfl, hS, hG⟩ := hrel
    by_cases hlt : k < m
    · have HL : Hid (_ = _) := highK x m k
      have hle : (L ++ (highB x m).take k).length ≤ 4000000000000000000 := by rw [List.length_append, List.length_take, highB_len]; omega
      have i0 : (0 : Int) ≤ (m : Int) - 1 - (k : Int) := by omega
      have i1 : ((m : Int) - 1 - (k : Int)).toNat = m - 1 - k := by omega
      go_wp2_with fail
      refine (wbit_shr g _ x (m - 1 - k) _ hS hx hle).mono ?_
      rintro e w2 ⟨rfl, hS2, hG2⟩
      go_wp2
      go_roundw
      case rel => exact ⟨k + 1, by omega, congrArg _ (by omega), by rw [HL.out, if_pos hlt, ← List.append_assoc]; exact hS2, gtrans hG hG2⟩
      case measure => simp [intOf]; omega
    · obtain rfl : k = m := by omega
      have HT : Hid ((highB x k).take k = highB x k) := List.take_of_length_le (by rw [highB_len]; exact Nat.le_refl _)
      go_wp2
      rw [HT.out] at hS
      exact bodyPost_end (results_none rfl _ _ _) rfl ⟨rfl, hS, hG⟩
theorem put_zero (g : Nat) (L : List Bool) (k : Nat) (w : World) (hS : SinkAt w g L) (hL : L.length ≤ 3000000000000000000) (hk : k ≤ 32) :
    Calls Try.prog 20 #[.pointer (some ⟨g, 0, none⟩), .int .u32 0, .int .i64 (k : Int)] w fun e w' => e = .returned (.tuple #[]) ∧ SinkAt w' g (L ++ List.replicate k false) ∧ w.grownBy w' (some g) := by
  have h := wput_any g L 0 (k : Int) w hS (by decide) hL (by omega)
  have e : near (k : Int) 32 = k := by unfold near; omega
  have e2 : lowB 0 k = List.replicate k false := by unfold lowB; simp [List.map_const']
  rw [e, e2] at h
  exact h
set_option maxRecDepth 100000 in
set_option maxHeartbeats 400000 in
theorem weven_any (g : Nat) (L : List Bool) (w : World) (hS : SinkAt w g L) (hL : L.length ≤ 3000000000000000000) :
    Calls Try.prog 23 #[.pointer (some ⟨g, 0, none⟩)] w fun e w' => e = .returned (.tuple #[]) ∧ SinkAt w' g (evenL L) ∧ w.grownBy w' (some g) := by
  obtain ⟨p, hI, hC⟩ := hS
  have c := hI.count (restC_len _ _)
  have HS : Hid (SinkAt w g L) := ⟨p, hI, hC⟩
  have HE : Hid (L ++ List.replicate ((L.length + 7) / 8 * 8 - L.length) false = evenL L) := rfl
  clear hI hC
  have HPZ : Hid (∀ W : World, SinkAt W g L → Calls Try.prog 20 #[.pointer (some ⟨g, 0, none⟩), .int .u32 0, .int .i64 (((L.length + 7) / 8 * 8 - L.length : Nat) : Int)] W fun e w' => e = .returned (.tuple #[]) ∧ SinkAt w' g (evenL L) ∧ W.grownBy w' (some g)) := fun W h => put_zero g L _ W h hL (by omega)
  generalize hN : L.length = N at *
  have hk : (((N + 7) / 8 * 8 - N : Nat) : Int) = ((N : Int) + 7) / 8 * 8 - (N : Int) := by omega
  go_enter Try.func23, Try.ntmps23
  go_wp2
  have t1 : IntKind.i64.wrap (((N : Int) + 7) / 8 * 8) = ((N : Int) + 7) / 8 * 8 := by rw [IntKind.wrap_i64]; omega
  have t2 : IntKind.i64.wrap (((N : Int) + 7) / 8 * 8 - (N : Int)) = (((N + 7) / 8 * 8 - N : Nat) : Int) := by rw [IntKind.wrap_i64]; omega
  refine wp_region_any (by kernel_rfl) ?_
  change wpAny _ _ _ _ 13 (Array.replicate 13 false) _ (World.drew _)
  refine takeW (i := 0) rfl (by kernel_rfl) (by kernel_rfl) (by kernel_rfl) (fun _ _ _ _ h => h) 2 rfl (.pointer (some ⟨g, 0, none⟩)) (Or.inl ⟨by rfl, by intro w; go_simp⟩) ?_
  simp only [Act.put, List.setIfInBounds_toArray, List.set_cons_zero, List.set_cons_succ]
  refine takeW (i := 1) rfl (by kernel_rfl) (by kernel_rfl) (by kernel_rfl) (fun _ _ _ _ h => h) 3 rfl (.pointer (some ⟨g, 0, none⟩)) (Or.inl ⟨by rfl, by intro w; go_simp⟩) ?_
  simp only [Act.put, List.setIfInBounds_toArray, List.set_cons_zero, List.set_cons_succ]
  refine takeW (i := 2) rfl (by kernel_rfl) (by kernel_rfl) (by kernel_rfl) (fun _ _ _ _ h => h) 4 rfl (.pointer (some ⟨g, 0, none⟩)) (Or.inl ⟨by rfl, by intro w; go_simp⟩) ?_
  simp only [Act.put, List.setIfInBounds_toArray, List.set_cons_zero, List.set_cons_succ]
  refine takeW (i := 3) rfl (by kernel_rfl) (by kernel_rfl) (by kernel_rfl) (fun _ _ _ _ h => h) 5 rfl (.pointer (some ⟨g, 65, none⟩)) (Or.inl ⟨by rfl, by intro w; go_simp⟩) ?_
  simp only [Act.put, List.setIfInBounds_toArray, List.set_cons_zero, List.set_cons_succ]
  refine takeW (i := 7) rfl (by kernel_rfl) (by kernel_rfl) (by kernel_rfl) (fun _ _ _ _ h => h) 9 rfl (.pointer (some ⟨g, 0, none⟩)) (Or.inl ⟨by rfl, by intro w; go_simp⟩) ?_
  simp only [Act.put, List.setIfInBounds_toArray, List.set_cons_zero, List.set_cons_succ]
  refine takeW (i := 8) rfl (by kernel_rfl) (by kernel_rfl) (by kernel_rfl) (fun _ _ _ _ h => h) 10 rfl (.pointer (some ⟨g, 0, none⟩)) (Or.inl ⟨by rfl, by intro w; go_simp⟩) ?_
  simp only [Act.put, List.setIfInBounds_toArray, List.set_cons_zero, List.set_cons_succ]
  refine takeW (i := 9) rfl (by kernel_rfl) (by kernel_rfl) (by kernel_rfl) (fun _ _ _ _ h => h) 11 rfl (.pointer (some ⟨g, 65, none⟩)) (Or.inl ⟨by rfl, by intro w; go_simp⟩) ?_
  simp only [Act.put, List.setIfInBounds_toArray, List.set_cons_zero, List.set_cons_succ]
  refine wpAny_ready (rs := [4, 10]) (by kernel_rfl) (by simp) ?_
  refine AllReady.cons rfl (fun K hK => ?_) (AllReady.cons rfl (fun K hK => ?_) AllReady.nil)
  · refine armW_value rfl (some 6) rfl (v := (.int .i64 (N : Int))) (w' := w.drew) (by go_simp) (hK _ _ ?_)
    clear hK
    simp only [Act.put, List.setIfInBounds_toArray, List.set_cons_zero, List.set_cons_succ]
    refine wpAny_ready (rs := [5, 10]) (by kernel_rfl) (by simp) ?_
    refine AllReady.cons rfl (fun K hK => ?_) (AllReady.cons rfl (fun K hK => ?_) AllReady.nil)
    · refine armW_call rfl (some 7) rfl 39 #[.int .i64 (N : Int)] (by intro w; go_simp) (bytesFor_any N _ (by omega)) ?_
      rintro w1 rfl
      refine hK _ _ ?_
      clear hK
      simp only [Act.put, List.setIfInBounds_toArray, List.set_cons_zero, List.set_cons_succ]
      refine takeW (i := 6) rfl (by kernel_rfl) (by kernel_rfl) (by kernel_rfl) (fun _ _ _ _ h => h) 8 rfl (.int .i64 (((N : Int) + 7) / 8 * 8)) (Or.inl ⟨by rfl, by intro w; go_simp⟩) ?_
      simp only [Act.put, List.setIfInBounds_toArray, List.set_cons_zero, List.set_cons_succ]
      refine wpAny_ready (rs := [10]) (by kernel_rfl) (by simp) ?_
      refine AllReady.cons rfl (fun K hK => ?_) AllReady.nil
      refine armW_value rfl (some 12) rfl (v := (.int .i64 (N : Int))) (w' := w.drew) (by go_simp) (hK _ _ ?_)
      clear hK
      simp only [Act.put, List.setIfInBounds_toArray, List.set_cons_zero, List.set_cons_succ]
      refine takeW (i := 11) rfl (by kernel_rfl) (by kernel_rfl) (by kernel_rfl) (fun _ _ _ _ h => h) 13 rfl (.int .i64 ((((N + 7) / 8 * 8 - N : Nat)) : Int)) (Or.inl ⟨by rfl, by intro w; go_simp⟩) ?_
      simp only [Act.put, List.setIfInBounds_toArray, List.set_cons_zero, List.set_cons_succ]
      refine wpAny_ready (rs := [12]) (by kernel_rfl) (by simp) ?_
      refine AllReady.cons rfl (fun K hK => ?_) AllReady.nil
      refine armW_call rfl (some 14) rfl 20 #[.pointer (some ⟨g, 0, none⟩), .int .u32 0, .int .i64 (((N + 7) / 8 * 8 - N : Nat) : Int)] (by intro w; go_simp) (HPZ.out _ HS.out.drew) ?_
      rintro w2 ⟨hS2, hG2⟩
      refine hK _ _ ?_
      clear hK
      simp only [Act.put, List.setIfInBounds_toArray, List.set_cons_zero, List.set_cons_succ]
      refine wpAny_done (by kernel_rfl) ?_ _
      exact bodyPost_end (results_none rfl _ _ _) rfl ⟨rfl, hS2, gtrans (gdrew (grefl w _)) hG2⟩
    · refine armW_value rfl (some 12) rfl (v := (.int .i64 (N : Int))) (w' := w.drew) (by go_simp) (hK _ _ ?_)
      clear hK
      simp only [Act.put, List.setIfInBounds_toArray, List.set_cons_zero, List.set_cons_succ]
      refine wpAny_ready (rs := [5]) (by kernel_rfl) (by simp) ?_
      refine AllReady.cons rfl (fun K hK => ?_) AllReady.nil
      refine armW_call rfl (some 7) rfl 39 #[.int .i64 (N : Int)] (by intro w; go_simp) (bytesFor_any N _ (by omega)) ?_
      rintro w1 rfl
      refine hK _ _ ?_
      clear hK
      simp only [Act.put, List.setIfInBounds_toArray, List.set_cons_zero, List.set_cons_succ]
      refine takeW (i := 6) rfl (by kernel_rfl) (by kernel_rfl) (by kernel_rfl) (fun _ _ _ _ h => h) 8 rfl (.int .i64 (((N : Int) + 7) / 8 * 8)) (Or.inl ⟨by rfl, by intro w; go_simp⟩) ?_
      simp only [Act.put, List.setIfInBounds_toArray, List.set_cons_zero, List.set_cons_succ]
      refine takeW (i := 11) rfl (by kernel_rfl) (by kernel_rfl) (by kernel_rfl) (fun _ _ _ _ h => h) 13 rfl (.int .i64 ((((N + 7) / 8 * 8 - N : Nat)) : Int)) (Or.inl ⟨by rfl, by intro w; go_simp⟩) ?_
      simp only [Act.put, List.setIfInBounds_toArray, List.set_cons_zero, List.set_cons_succ]
      refine wpAny_ready (rs := [12]) (by kernel_rfl) (by simp) ?_
      refine AllReady.cons rfl (fun K hK => ?_) AllReady.nil
      refine armW_call rfl (some 14) rfl 20 #[.pointer (some ⟨g, 0, none⟩), .int .u32 0, .int .i64 (((N + 7) / 8 * 8 - N : Nat) : Int)] (by intro w; go_simp) (HPZ.out _ HS.out.drew) ?_
      rintro w2 ⟨hS2, hG2⟩
      refine hK _ _ ?_
      clear hK
      simp only [Act.put, List.setIfInBounds_toArray, List.set_cons_zero, List.set_cons_succ]
      refine wpAny_done (by kernel_rfl) ?_ _
      exact bodyPost_end (results_none rfl _ _ _) rfl ⟨rfl, hS2, gtrans (gdrew (grefl w _)) hG2⟩
  · refine armW_value rfl (some 12) rfl (v := (.int .i64 (N : Int))) (w' := w.drew) (by go_simp) (hK _ _ ?_)
    clear hK
    simp only [Act.put, List.setIfInBounds_toArray, List.set_cons_zero, List.set_cons_succ]
    refine wpAny_ready (rs := [4]) (by kernel_rfl) (by simp) ?_
    refine AllReady.cons rfl (fun K hK => ?_) AllReady.nil
    refine armW_value rfl (some 6) rfl (v := (.int .i64 (N : Int))) (w' := w.drew) (by go_simp) (hK _ _ ?_)
    clear hK
    simp only [Act.put, List.setIfInBounds_toArray, List.set_cons_zero, List.set_cons_succ]
    refine wpAny_ready (rs := [5]) (by kernel_rfl) (by simp) ?_
    refine AllReady.cons rfl (fun K hK => ?_) AllReady.nil
    refine armW_call rfl (some 7) rfl 39 #[.int .i64 (N : Int)] (by intro w; go_simp) (bytesFor_any N _ (by omega)) ?_
    rintro w1 rfl
    refine hK _ _ ?_
    clear hK
    simp only [Act.put, List.setIfInBounds_toArray, List.set_cons_zero, List.set_cons_succ]
    refine takeW (i := 6) rfl (by kernel_rfl) (by kernel_rfl) (by kernel_rfl) (fun _ _ _ _ h => h) 8 rfl (.int .i64 (((N : Int) + 7) / 8 * 8)) (Or.inl ⟨by rfl, by intro w; go_simp⟩) ?_
    simp only [Act.put, List.setIfInBounds_toArray, List.set_cons_zero, List.set_cons_succ]
    refine takeW (i := 11) rfl (by kernel_rfl) (by kernel_rfl) (by kernel_rfl) (fun _ _ _ _ h => h) 13 rfl (.int .i64 ((((N + 7) / 8 * 8 - N : Nat)) : Int)) (Or.inl ⟨by rfl, by intro w; go_simp⟩) ?_
    simp only [Act.put, List.setIfInBounds_toArray, List.set_cons_zero, List.set_cons_succ]
    refine wpAny_ready (rs := [12]) (by kernel_rfl) (by simp) ?_
    refine AllReady.cons rfl (fun K hK => ?_) AllReady.nil
    refine armW_call rfl (some 14) rfl 20 #[.pointer (some ⟨g, 0, none⟩), .int .u32 0, .int .i64 (((N + 7) / 8 * 8 - N : Nat) : Int)] (by intro w; go_simp) (HPZ.out _ HS.out.drew) ?_
    rintro w2 ⟨hS2, hG2⟩
    refine hK _ _ ?_
    clear hK
    simp only [Act.put, List.setIfInBounds_toArray, List.set_cons_zero, List.set_cons_succ]
    refine wpAny_done (by kernel_rfl) ?_ _
    exact bodyPost_end (results_none rfl _ _ _) rfl ⟨rfl, hS2, gtrans (gdrew (grefl w _)) hG2⟩
end Go.Proofs.Ytbkaeibjhnndfaa
