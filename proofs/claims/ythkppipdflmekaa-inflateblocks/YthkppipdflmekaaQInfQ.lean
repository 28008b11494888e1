/- Contracts of bits.Mul64, bits.Mul, slices.Repeat of a lone number, inflate.many. -/
import Derived.Test.YthkppipdflmekaaQInfP
import Derived.Laws.MakeOwn
import Derived.OwnWalk
import Derived.Laws.CopyOwn
import Derived.Deep.RegionLaw
import Derived.Deep.DrawnRows
namespace Go.Proofs.Ythkppipdflmekaa
open Go.RowKit
attribute [local go_sem ↓] Go.wp_at_zero Go.wp_at_succ
set_option linter.unusedVariables false

set_option maxRecDepth 100000 in
set_option maxHeartbeats 1000000 in
theorem mul64_one (n : Nat) (w : World) (hn : n < 4294967296) :
    Calls Try.prog 75 #[.int .u64 1, .int .u64 (n : Int)] w fun e w' => e = .returned (.tuple #[.int .u64 0, .int .u64 (n : Int)]) ∧ w' = w := by
  have h1 : bits .and .u64 (n : Int) 4294967295 = (n : Int) := by
    have e : bits .and .u64 (n : Int) 4294967295 = ((n &&& 4294967295 : Nat) : Int) := u64_and_nat n 4294967295 (by omega) (by decide)
    rw [e, show (4294967295 : Nat) = 2 ^ 32 - 1 by decide, Nat.and_two_pow_sub_one_eq_mod]
    omega
  have h2 : (n : Int) / 4294967296 = 0 := by omega
  have h3 : bits .and .u64 1 4294967295 = 1 := by decide +kernel
  have h4 : bits .and .u64 0 4294967295 = 0 := by decide +kernel
  go_enter Try.func75, Try.ntmps75
  go_wp2
  go_ret2
  exact ⟨rfl, rfl⟩
set_option maxRecDepth 100000 in
set_option maxHeartbeats 1000000 in
theorem mul_one (n : Nat) (w : World) (hn : n < 4294967296) :
    Calls Try.prog 72 #[.int .u64 1, .int .u64 (n : Int)] w fun e w' => e = .returned (.tuple #[.int .u64 0, .int .u64 (n : Int)]) ∧ w' = w := by
  have HM : Hid (Calls _ _ _ _ _) := mul64_one n w hn
  go_enter Try.func72, Try.ntmps72
  go_wp2_with fail
  refine (Hid.out HM : Calls _ _ _ _ _).mono ?_
  rintro e w1 ⟨rfl, rfl⟩
  go_wp2
  go_ret2
  exact ⟨rfl, rfl⟩
/-- n cells, the first k of them a. -/
def repL (n a k : Nat) : List Value := List.replicate k (Value.int .i64 (a : Int)) ++ List.replicate (n - k) (Value.int .i64 0)
theorem repL_len (n a k : Nat) (h : k ≤ n) : (repL n a k).length = n := by simp [repL]; omega
theorem repL_splice (n a k m : Nat) (h : k + m ≤ n) : splice (repL n a k) k (List.replicate m (Value.int .i64 (a : Int))) = repL n a (k + m) := by
  unfold splice repL
  rw [List.length_replicate, List.take_append_of_le_length (by simp), List.take_of_length_le (by simp), List.drop_append, List.drop_of_length_le (by simp)]
  simp only [List.length_replicate, List.nil_append, List.drop_replicate]
  rw [← List.append_assoc, List.replicate_append_replicate]
  congr 2
  omega
theorem Try.infoIq : (Try.prog.info? 3).map (fun i => (i.zero, i.size, i.bytes)) = some (some (.int .i64 0), 1, 8) := by kernel_rfl
theorem Try.sizeI : (Try.prog.info? 3).map (·.size) = some 1 := by kernel_rfl
theorem make_ints (n : Nat) (hn : n ≤ 1000) (W : World) : (Instr.makeSlice 63 (.int .i64 (n : Int)) (.int .i64 (n : Int))).run Try.prog W = .ok (.slice (some ⟨W.heap.size, 0, none⟩) n n) (W.alloc (.cells (madeCells #[.int .i64 0] n) 3)) := by
  obtain ⟨i0, hi, hz0, hz1, hz2⟩ := info_parts Try.infoIq
  have h := run_make (P := Try.prog) W 63 3 i0 _ Try.underlying63 hi hz0 .i64 .i64 (n : Int) (n : Int) (by omega) (by omega) (by rw [hz2]; omega) (by omega)
  rw [hz1] at h
  simpa [Value.cells] using h
theorem made_rep (n a : Nat) : madeCells #[Value.int .i64 0] n = (repL n a 0).toArray := by
  apply Array.ext'
  rw [toList_madeCells_one]
  simp [repL]
theorem repL_cell {w : World} {g n a k : Nat} (h : w.heap[g]? = some (.cells (repL n a k).toArray 3 (0, 0))) (i : Nat) (hi : i < k) : w.cell? ⟨g, i, none⟩ = some (.int .i64 (a : Int)) := by
  rw [cell_of_row _ _ _ _ _ _ h, List.getElem?_toArray]
  unfold repL
  rw [List.getElem?_append_left (by simp; exact hi), List.getElem?_replicate, if_pos hi]
theorem rep_src {w : World} {g n a k : Nat} (h : w.heap[g]? = some (.cells (repL n a k).toArray 3 (0, 0))) (m : Nat) (hm : m ≤ k) : ∀ j v, (List.replicate m (Value.int .i64 (a : Int)))[j]? = some v → w.cell? ((⟨g, 0, none⟩ : Addr).add j) = some v := by
  intro j v hv
  have hadd : (⟨g, 0, none⟩ : Addr).add j = ⟨g, j, none⟩ := by unfold Addr.add; split <;> simp_all
  rw [List.getElem?_replicate] at hv
  split at hv
  · rename_i hj
    rw [hadd, repL_cell h j (by omega)]; exact hv
  · cases hv
theorem rep_one (m a : Nat) : ∀ v ∈ List.replicate m (Value.int .i64 (a : Int)), v.oneCell' = true := by
  intro v hv
  rw [List.eq_of_mem_replicate hv]; rfl
theorem copy_run {W : World} {g n a k m : Nat} (hg : W.heap[g]? = some (.cells (repL n a k).toArray 3 (0, 0))) (ad : Addr) (sLen sCap dLen dCap : Nat) (hm : m = Nat.min sLen dLen) (hkm : k + m ≤ n) (hsrc : ∀ j v, (List.replicate m (Value.int .i64 (a : Int)))[j]? = some v → W.cell? (ad.add j) = some v) :
    (Builtin.copy_ #[63, 63] 3 #[.slice (some ⟨g, k, none⟩) dLen dCap, .slice (some ad) sLen sCap]).run Try.prog W = .ok (.int .i64 (m : Int)) (W.setRow g (repL n a (k + m)).toArray) := by
  have h := run_copy_row (P := Try.prog) W 63 63 3 3 g k dLen dCap ad sLen sCap (repL n a k).toArray 3 (List.replicate m (Value.int .i64 (a : Int))) Try.underlying63 Try.sizeI hg (by rw [List.length_replicate]; exact hm) hsrc (by rw [List.size_toArray, repL_len _ _ _ (by omega), List.length_replicate]; exact hkm) (rep_one m a)
  rw [List.append_assoc] at h
  have hs := repL_splice n a k m hkm
  unfold splice at hs
  rw [List.toList_toArray, hs, List.length_replicate] at h
  exact h
set_option maxRecDepth 100000 in
set_option maxHeartbeats 2000000 in
theorem repeat_any (gv n a : Nat) (w : World) (hc : w.cell? ⟨gv, 0, none⟩ = some (.int .i64 (a : Int))) (hg : gv < w.heap.size) (h1 : 1 ≤ n) (hn : n ≤ 1000) :
    Calls Try.prog 68 #[.slice (some ⟨gv, 0, none⟩) 1 1, .int .i64 (n : Int)] w fun e w' => ∃ g, e = .returned (.slice (some ⟨g, 0, none⟩) n n) ∧ w'.ownsRow w.heap.size 3 1 (.slice (some ⟨g, 0, none⟩) n n) n (nc (List.replicate n a)) ∧ Below w.heap.size w w' := by
  have HM : Hid (Calls _ _ _ _ _) := mul_one n w (by omega)
  have hmk := make_ints n hn
  have e1 : IntKind.u64.wrap (n : Int) = (n : Int) := by simp [IntKind.wrap, IntKind.bits, IntKind.signed]; omega
  have e2 : IntKind.i64.wrap (n : Int) = (n : Int) := by simp [IntKind.wrap, IntKind.bits, IntKind.signed]; omega
  have HG0 : Hid ((w.alloc (.cells (madeCells #[.int .i64 0] n) 3)).heap[w.heap.size]? = some (.cells (repL n a 0).toArray 3 (0, 0))) := by
    unfold Hid; rw [← made_rep n a]; exact heap_alloc_new w _
  have HB0 : Hid (Below w.heap.size w (w.alloc (.cells (madeCells #[.int .i64 0] n) 3))) := (Below.refl _ w).alloc (Nat.le_refl _) _
  have HC0 : Hid (∀ o, (w.alloc o).cell? ⟨gv, 0, none⟩ = some (.int .i64 (a : Int))) := fun o => by rw [World.cell?_alloc_lt _ _ _ hg]; exact hc
  have hn0 : ¬ (n : Int) < 0 := by omega
  have hnb : ¬ (9223372036854775807 : Int) < (n : Int) := by omega
  go_enter Try.func68, Try.ntmps68
  go_wp2_with fail
  refine (Hid.out HM : Calls _ _ _ _ _).mono ?_
  rintro e w1 ⟨rfl, hw1⟩
  obtain rfl : w = w1 := hw1.symm
  clear HM hw1
  have hcp := copy_run HG0.out ⟨gv, 0, none⟩ 1 1 n n (m := 1) (Nat.min_eq_left h1).symm (by omega) (fun j v hv => by
    match j with
    | 0 => simp at hv; subst hv; exact HC0.out _
    | j + 1 => simp at hv)
  rw [Nat.zero_add] at hcp
  have HG1 : Hid (((w.alloc (.cells (madeCells #[.int .i64 0] n) 3)).setRow w.heap.size (repL n a 1).toArray).heap[w.heap.size]? = some (.cells (repL n a 1).toArray 3 (0, 0))) := setRow_heap _ _ _ _ _ _ HG0.out
  have HB1 : Hid (Below w.heap.size w ((w.alloc (.cells (madeCells #[.int .i64 0] n) 3)).setRow w.heap.size (repL n a 1).toArray)) := below_setRow HB0.out (Nat.le_refl _) _
  generalize hW2 : World.setRow (World.alloc w _) _ _ = W2 at *
  go_wp2
  clear hcp hmk HG0 HB0 HC0 hW2
  go_loopw [8] (fun i wr => ∃ k : Nat, 1 ≤ k ∧ k ≤ n ∧ i = .int .i64 (k : Int) ∧ wr.heap[w.heap.size]? = some (.cells (repL n a k).toArray 3 (0, 0)) ∧ Below w.heap.size w wr) (fun i _ => n - (intOf i).toNat)
  case atStart => exact ⟨1, Nat.le_refl _, h1, rfl, HG1.out, HB1.out⟩
  case round =>
    clear HG1 HB1
    obtain ⟨k, hk1, hkn, rfl, hG, hB⟩ := hrel
    by_cases hlt : k < n
    · have hki : (k : Int) < (n : Int) := by omega
      have hk0 : (0 : Int) ≤ (k : Int) := by omega
      have hkle : (k : Int) ≤ (n : Int) := by omega
      obtain ⟨m, hm⟩ : ∃ m, m = Nat.min k (n - k) := ⟨_, rfl⟩
      have hm1 : m ≤ k := by rw [hm]; exact Nat.min_le_left _ _
      have hm2 : m ≤ n - k := by rw [hm]; exact Nat.min_le_right _ _
      have hm3 : 1 ≤ m := by rw [hm]; exact Nat.le_min.2 ⟨hk1, by omega⟩
      have hcp := copy_run (W := wr.drew) hG ⟨w.heap.size, 0, none⟩ k n (n - k) (n - k) hm (by omega) (rep_src (w := wr.drew) hG m hm1)
      have HG1 : Hid ((wr.drew.setRow w.heap.size (repL n a (k + m)).toArray).heap[w.heap.size]? = some (.cells (repL n a (k + m)).toArray 3 (0, 0))) := setRow_heap wr.drew _ _ _ _ _ hG
      have HB1 : Hid (Below w.heap.size w (wr.drew.setRow w.heap.size (repL n a (k + m)).toArray)) := below_setRow hB.drew (Nat.le_refl _) _
      clear hG hB hm
      generalize hW3 : World.setRow wr.drew _ _ = W3 at *
      go_wp2
      go_region
      all_goals
        clear hcp hW3
        go_wp2
        go_roundw
        case rel => exact ⟨k + m, by omega, by omega, by go_num, HG1.out, HB1.out⟩
        case measure => simp [intOf]; omega
    · obtain rfl : k = n := by omega
      have HO : Hid (wr.ownsRow w.heap.size 3 1 (.slice (some ⟨w.heap.size, 0, none⟩) k k) k (nc (List.replicate k a))) := by
        refine ⟨by rw [nc_len, List.length_replicate]; omega, .inr ⟨w.heap.size, k, _, rfl, Nat.le_refl _, hG, Nat.le_refl _, by unfold maxLen; omega, by rw [List.size_toArray, repL_len _ _ _ (Nat.le_refl _)]; omega, ?_⟩⟩
        rw [List.toList_toArray, List.take_of_length_le (by rw [repL_len _ _ _ (Nat.le_refl _)]; omega)]
        simp [repL, nc]
      clear hG
      go_wp2
      go_ret
      exact ⟨w.heap.size, rfl, HO.out, hB⟩
theorem many_any (a n : Nat) (w : World) (h1 : 1 ≤ n) (hn : n ≤ 1000) :
    Calls Try.prog 61 #[.int .i64 (a : Int), .int .i64 (n : Int)] w fun e w' => ∃ g, e = .returned (.slice (some ⟨g, 0, none⟩) n n) ∧ w'.ownsRow w.heap.size 3 1 (.slice (some ⟨g, 0, none⟩) n n) n (nc (List.replicate n a)) ∧ Below w.heap.size w w' := by
  have hc : (w.alloc (.cells #[.int .i64 (a : Int)] 3)).cell? ⟨w.heap.size, 0, none⟩ = some (.int .i64 (a : Int)) := by rw [cell_of_row _ _ _ _ _ _ (heap_alloc_new w _)]; rfl
  have HR : Hid (Calls _ _ _ _ _) := repeat_any w.heap.size n a (w.alloc (.cells #[.int .i64 (a : Int)] 3)) hc (by rw [World.size_alloc]; omega) h1 hn
  clear hc
  go_enter Try.func61, Try.ntmps61
  go_wp2_with fail
  refine (Hid.out HR : Calls _ _ _ _ _).mono ?_
  rintro e w1 ⟨g, rfl, hO, hB⟩
  have HO : Hid (w1.ownsRow w.heap.size 3 1 (.slice (some ⟨g, 0, none⟩) n n) n (nc (List.replicate n a))) := by
    refine ⟨hO.1, ?_⟩
    rcases hO.2 with ⟨h, _⟩ | ⟨g', cap, cur, h, h2, h3⟩
    · cases h
    · exact .inr ⟨g', cap, cur, h, by rw [World.size_alloc] at h2; omega, h3⟩
  have HB : Hid (Below w.heap.size w w1) := ((Below.refl _ w).alloc (Nat.le_refl _) _).trans (hB.mono (by rw [World.size_alloc]; omega))
  clear hO hB HR
  go_wp2
  go_ret
  exact ⟨g, rfl, HO.out, HB.out⟩
end Go.Proofs.Ythkppipdflmekaa
