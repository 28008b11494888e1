/- Contract of the reader's firstCodes. -/
import Derived.Test.YthkppipdflmekaaGreatQInfP
import Derived.Laws.MakeOwn
import Derived.OwnWalk
import Derived.Laws.CopyOwn
import Derived.Deep.RegionLaw
import Derived.Deep.DrawnRows
import Derived.Lib.AppendZeros
set_option maxRecDepth 100000
set_option maxHeartbeats 4000000
namespace Go.Proofs.YthkppipdflmekaaGreat
open Go.RowKit
attribute [local go_sem ↓] Go.wp_at_zero Go.wp_at_succ
set_option linter.unusedVariables false
theorem qv9 (n : Nat) (w : World) (hn : n < 4294967296) :
    Calls Tryz.prog 118 #[.int .u64 1, .int .u64 (n : Int)] w fun e w' => e = .returned (.tuple #[.int .u64 0, .int .u64 (n : Int)]) ∧ w' = w := by
 have h1 : bits .and .u64 (n : Int) 4294967295 = (n : Int) := by
  have e : bits .and .u64 (n : Int) 4294967295 = ((n &&& 4294967295 : Nat) : Int) := u64_and_nat n 4294967295 (by omega) (by decide)
  rw [e, show (4294967295 : Nat) = 2 ^ 32 - 1 by decide, Nat.and_two_pow_sub_one_eq_mod]
  omega
 have h2 : (n : Int) / 4294967296 = 0 := by omega
 have h3 : bits .and .u64 1 4294967295 = 1 := by decide +kernel
 have h4 : bits .and .u64 0 4294967295 = 0 := by decide +kernel
 go_enter Tryz.func118, Tryz.ntmps118
 go_wp2
 go_ret2
 exact ⟨rfl, rfl⟩
theorem mul_one (n : Nat) (w : World) (hn : n < 4294967296) :
    Calls Tryz.prog 107 #[.int .u64 1, .int .u64 (n : Int)] w fun e w' => e = .returned (.tuple #[.int .u64 0, .int .u64 (n : Int)]) ∧ w' = w := by
 have HM : Hid (Calls _ _ _ _ _) := qv9 n w hn
 go_enter Tryz.func107, Tryz.ntmps107
 go_wp2_with fail
 refine (Hid.out HM : Calls _ _ _ _ _).mono ?_
 rintro e w1 ⟨rfl, rfl⟩
 go_wp2
 go_ret2
 exact ⟨rfl, rfl⟩
def repL (n a k : Nat) : List Value := List.replicate k (Value.int .i64 (a : Int)) ++ List.replicate (n - k) (Value.int .i64 0)
theorem qle (n a k : Nat) (h : k ≤ n) : (repL n a k).length = n := by simp [repL]; omega
theorem qo0 (n a k m : Nat) (h : k + m ≤ n) : splice (repL n a k) k (List.replicate m (Value.int .i64 (a : Int))) = repL n a (k + m) := by
 unfold splice repL
 rw [List.length_replicate, List.take_append_of_le_length (by simp), List.take_of_length_le (by simp), List.drop_append, List.drop_of_length_le (by simp)]
 simp only [List.length_replicate, List.nil_append, List.drop_replicate]
 rw [← List.append_assoc, List.replicate_append_replicate]
 congr 2
 omega
theorem Tryz.infoIq : (Tryz.prog.info? 3).map (fun i => (i.zero, i.size, i.bytes)) = some (some (.int .i64 0), 1, 8) := by kernel_rfl
theorem Tryz.sizeI : (Tryz.prog.info? 3).map (·.size) = some 1 := by kernel_rfl
theorem qix (n : Nat) (hn : n ≤ 1000) (W : World) : (Instr.makeSlice 39 (.int .i64 (n : Int)) (.int .i64 (n : Int))).run Tryz.prog W = .ok (.slice (some ⟨W.heap.size, 0, none⟩) n n) (W.alloc (.cells (madeCells #[.int .i64 0] n) 3)) := by
 obtain ⟨i0, hi, hz0, hz1, hz2⟩ := info_parts Tryz.infoIq
 have h := run_make (P := Tryz.prog) W 39 3 i0 _ Tryz.underlying39 hi hz0 .i64 .i64 (n : Int) (n : Int) (by omega) (by omega) (by rw [hz2]; omega) (by omega)
 rw [hz1] at h
 simpa [Value.cells] using h
theorem qzj (n a : Nat) : madeCells #[Value.int .i64 0] n = (repL n a 0).toArray := by
 apply Array.ext'
 rw [toList_madeCells_one]
 simp [repL]
theorem qvi {w : World} {g n a k : Nat} (h : w.heap[g]? = some (.cells (repL n a k).toArray 3 (0, 0))) (i : Nat) (hi : i < k) : w.cell? ⟨g, i, none⟩ = some (.int .i64 (a : Int)) := by
 rw [cell_of_row _ _ _ _ _ _ h, List.getElem?_toArray]
 unfold repL
 rw [List.getElem?_append_left (by simp; exact hi), List.getElem?_replicate, if_pos hi]
theorem q2e {w : World} {g n a k : Nat} (h : w.heap[g]? = some (.cells (repL n a k).toArray 3 (0, 0))) (m : Nat) (hm : m ≤ k) : ∀ j v, (List.replicate m (Value.int .i64 (a : Int)))[j]? = some v → w.cell? ((⟨g, 0, none⟩ : Addr).add j) = some v := by
 intro j v hv
 have hadd : (⟨g, 0, none⟩ : Addr).add j = ⟨g, j, none⟩ := by unfold Addr.add; split <;> simp_all
 rw [List.getElem?_replicate] at hv
 split at hv
 · rename_i hj
   rw [hadd, qvi h j (by omega)]; exact hv
 · cases hv
theorem q2f (m a : Nat) : ∀ v ∈ List.replicate m (Value.int .i64 (a : Int)), v.oneCell' = true := by
 intro v hv
 rw [List.eq_of_mem_replicate hv]; rfl
theorem qsa {W : World} {g n a k m : Nat} (hg : W.heap[g]? = some (.cells (repL n a k).toArray 3 (0, 0))) (ad : Addr) (sLen sCap dLen dCap : Nat) (hm : m = Nat.min sLen dLen) (hkm : k + m ≤ n) (hsrc : ∀ j v, (List.replicate m (Value.int .i64 (a : Int)))[j]? = some v → W.cell? (ad.add j) = some v) :
    (Builtin.copy_ #[39, 39] 3 #[.slice (some ⟨g, k, none⟩) dLen dCap, .slice (some ad) sLen sCap]).run Tryz.prog W = .ok (.int .i64 (m : Int)) (W.setRow g (repL n a (k + m)).toArray) := by
 have h := run_copy_row (P := Tryz.prog) W 39 39 3 3 g k dLen dCap ad sLen sCap (repL n a k).toArray 3 (List.replicate m (Value.int .i64 (a : Int))) Tryz.underlying39 Tryz.sizeI hg (by rw [List.length_replicate]; exact hm) hsrc (by rw [List.size_toArray, qle _ _ _ (by omega), List.length_replicate]; exact hkm) (q2f m a)
 rw [List.append_assoc] at h
 have hs := qo0 n a k m hkm
 unfold splice at hs
 rw [List.toList_toArray, hs, List.length_replicate] at h
 exact h
theorem qtc (gv n a : Nat) (w : World) (hc : w.cell? ⟨gv, 0, none⟩ = some (.int .i64 (a : Int))) (hg : gv < w.heap.size) (h1 : 1 ≤ n) (hn : n ≤ 1000) :
    Calls Tryz.prog 95 #[.slice (some ⟨gv, 0, none⟩) 1 1, .int .i64 (n : Int)] w fun e w' => ∃ g, e = .returned (.slice (some ⟨g, 0, none⟩) n n) ∧ w'.ownsRow w.heap.size 3 1 (.slice (some ⟨g, 0, none⟩) n n) n (nc (List.replicate n a)) ∧ Below w.heap.size w w' := by
 have HM : Hid (Calls _ _ _ _ _) := mul_one n w (by omega)
 have hmk := qix n hn
 have e1 : IntKind.u64.wrap (n : Int) = (n : Int) := by simp [IntKind.wrap, IntKind.bits, IntKind.signed]; omega
 have e2 : IntKind.i64.wrap (n : Int) = (n : Int) := by simp [IntKind.wrap, IntKind.bits, IntKind.signed]; omega
 have HG0 : Hid ((w.alloc (.cells (madeCells #[.int .i64 0] n) 3)).heap[w.heap.size]? = some (.cells (repL n a 0).toArray 3 (0, 0))) := by
  unfold Hid; rw [← qzj n a]; exact heap_alloc_new w _
 have HB0 : Hid (Below w.heap.size w (w.alloc (.cells (madeCells #[.int .i64 0] n) 3))) := (Below.refl _ w).alloc (Nat.le_refl _) _
 have HC0 : Hid (∀ o, (w.alloc o).cell? ⟨gv, 0, none⟩ = some (.int .i64 (a : Int))) := fun o => by rw [World.cell?_alloc_lt _ _ _ hg]; exact hc
 have hn0 : ¬ (n : Int) < 0 := by omega
 have hnb : ¬ (9223372036854775807 : Int) < (n : Int) := by omega
 go_enter Tryz.func95, Tryz.ntmps95
 go_wp2_with fail
 refine (Hid.out HM : Calls _ _ _ _ _).mono ?_
 rintro e w1 ⟨rfl, hw1⟩
 obtain rfl : w = w1 := hw1.symm
 clear HM hw1
 have hcp := qsa HG0.out ⟨gv, 0, none⟩ 1 1 n n (m := 1) (Nat.min_eq_left h1).symm (by omega) (fun j v hv => by
  match j with
  | 0 => simp at hv; subst hv; exact HC0.out _
  | j + 1 => simp at hv)
 rw [Nat.zero_add] at hcp
 have HG1 : Hid (((w.alloc (.cells (madeCells #[.int .i64 0] n) 3)).setRow w.heap.size (repL n a 1).toArray).heap[w.heap.size]? = some (.cells (repL n a 1).toArray 3 (0, 0))) := setRow_heap _ _ _ _ _ _ HG0.out
 have HB1 : Hid (Below w.heap.size w ((w.alloc (.cells (madeCells #[.int .i64 0] n) 3)).setRow w.heap.size (repL n a 1).toArray)) := below_setRow HB0.out (Nat.le_refl _) _
 generalize hW2 : World.setRow (World.alloc w _) _ _ = W2 at *
 go_wp2
 clear hcp hmk HG0 HB0 HC0 hW2
 go_loopw [8] (fun i wr => ∃ k : Nat, 1 ≤ k ∧ k ≤ n ∧ i = .int .i64 (k : Int) ∧ wr.heap[w.heap.size]? = some (.cells (repL n a k).toArray 3 (0, 0)) ∧ Below w.heap.size w wr) (fun i _ => n - (intOf i).toNat)
 case atStart => exact ⟨1, Nat.le_refl _, h1, rfl, HG1.out, HB1.out⟩
 case round =>
  clear HG1 HB1
  obtain ⟨k, hk1, hkn, rfl, hG, hB⟩ := hrel
  by_cases hlt : k < n
  · have hki : (k : Int) < (n : Int) := by omega
    have hk0 : (0 : Int) ≤ (k : Int) := by omega
    have hkle : (k : Int) ≤ (n : Int) := by omega
    obtain ⟨m, hm⟩ : ∃ m, m = Nat.min k (n - k) := ⟨_, rfl⟩
    have hm1 : m ≤ k := by rw [hm]; exact Nat.min_le_left _ _
    have hm2 : m ≤ n - k := by rw [hm]; exact Nat.min_le_right _ _
    have hm3 : 1 ≤ m := by rw [hm]; exact Nat.le_min.2 ⟨hk1, by omega⟩
    have hcp := qsa (W := wr.drew) hG ⟨w.heap.size, 0, none⟩ k n (n - k) (n - k) hm (by omega) (q2e (w := wr.drew) hG m hm1)
    have HG1 : Hid ((wr.drew.setRow w.heap.size (repL n a (k + m)).toArray).heap[w.heap.size]? = some (.cells (repL n a (k + m)).toArray 3 (0, 0))) := setRow_heap wr.drew _ _ _ _ _ hG
    have HB1 : Hid (Below w.heap.size w (wr.drew.setRow w.heap.size (repL n a (k + m)).toArray)) := below_setRow hB.drew (Nat.le_refl _) _
    clear hG hB hm
    generalize hW3 : World.setRow wr.drew _ _ = W3 at *
    go_wp2
    go_region
    all_goals
     clear hcp hW3
     go_wp2
     go_roundw
     case rel => exact ⟨k + m, by omega, by omega, by go_num, HG1.out, HB1.out⟩
     case measure => simp [intOf]; omega
  · obtain rfl : k = n := by omega
    have HO : Hid (wr.ownsRow w.heap.size 3 1 (.slice (some ⟨w.heap.size, 0, none⟩) k k) k (nc (List.replicate k a))) := by
     refine ⟨by rw [qel, List.length_replicate]; omega, .inr ⟨w.heap.size, k, _, rfl, Nat.le_refl _, hG, Nat.le_refl _, by unfold maxLen; omega, by rw [List.size_toArray, qle _ _ _ (Nat.le_refl _)]; omega, ?_⟩⟩
     rw [List.toList_toArray, List.take_of_length_le (by rw [qle _ _ _ (Nat.le_refl _)]; omega)]
     simp [repL, nc]
    clear hG
    go_wp2
    go_ret
    exact ⟨w.heap.size, rfl, HO.out, hB⟩
theorem qe4 (a n : Nat) (w : World) (h1 : 1 ≤ n) (hn : n ≤ 1000) :
    Calls Tryz.prog 76 #[.int .i64 (a : Int), .int .i64 (n : Int)] w fun e w' => ∃ g, e = .returned (.slice (some ⟨g, 0, none⟩) n n) ∧ w'.ownsRow w.heap.size 3 1 (.slice (some ⟨g, 0, none⟩) n n) n (nc (List.replicate n a)) ∧ Below w.heap.size w w' := by
 have hc : (w.alloc (.cells #[.int .i64 (a : Int)] 3)).cell? ⟨w.heap.size, 0, none⟩ = some (.int .i64 (a : Int)) := by rw [cell_of_row _ _ _ _ _ _ (heap_alloc_new w _)]; rfl
 have HR : Hid (Calls _ _ _ _ _) := qtc w.heap.size n a (w.alloc (.cells #[.int .i64 (a : Int)] 3)) hc (by rw [World.size_alloc]; omega) h1 hn
 clear hc
 go_enter Tryz.func76, Tryz.ntmps76
 go_wp2_with fail
 refine (Hid.out HR : Calls _ _ _ _ _).mono ?_
 rintro e w1 ⟨g, rfl, hO, hB⟩
 have HO : Hid (w1.ownsRow w.heap.size 3 1 (.slice (some ⟨g, 0, none⟩) n n) n (nc (List.replicate n a))) := by
  refine ⟨hO.1, ?_⟩
  rcases hO.2 with ⟨h, _⟩ | ⟨g', cap, cur, h, h2, h3⟩
  · cases h
  · exact .inr ⟨g', cap, cur, h, by rw [World.size_alloc] at h2; omega, h3⟩
 have HB : Hid (Below w.heap.size w w1) := ((Below.refl _ w).alloc (Nat.le_refl _) _).trans (hB.mono (by rw [World.size_alloc]; omega))
 clear hO hB HR
 go_wp2
 go_ret
 exact ⟨g, rfl, HO.out, HB.out⟩
theorem qrn (n : Nat) (w : World) (h1 : 1 ≤ n) (hn : n ≤ 1000) :
    Calls Tryz.prog 81 #[.slice none 0 0, .int .i64 (n : Int)] w fun e w' => ∃ v, e = .returned v ∧ w'.ownsRow w.heap.size 3 1 v 0 [] ∧ Below w.heap.size w w' := by
 obtain ⟨i0, hi, hz0, hz1, hz2⟩ := info_parts Tryz.infoIq
 have happ := Lib.run_append_nil_zeros (P := Tryz.prog) w 39 3 39 3 i0 (.int .i64 0) .i64 .i64 Tryz.underlying39 Tryz.underlying3 hi hz0 n (by omega) (by omega) (by omega) (by rw [hz2]; omega)
 generalize hcap : grownCap w n 0 3 = cap2 at happ
 have hcapge : n ≤ cap2 := by rw [← hcap]; exact grownCap_ge w _ 0 3
 have hcaple : cap2 ≤ maxLen := by rw [← hcap]; exact grownCap_le_maxLen w _ 0 3 (by unfold maxLen; omega)
 generalize hZ : (Builtin.zeroCells (Value.int .i64 0).cells n ++ Builtin.zeroCells (Value.int .i64 0).cells (cap2 - n)) = Z at happ
 have hZs : Z.size = cap2 := by rw [← hZ]; simp [size_zeroCells, Value.cells]; omega
 have HO : Hid ((w.drew.alloc (.cells Z 3)).ownsRow w.heap.size 3 1 (.slice (some ⟨w.heap.size, 0, none⟩) 0 cap2) 0 []) := World.ownsRow_made w.drew Z cap2 (Nat.le_refl _) hcaple (by omega)
 have HB : Hid (Below w.heap.size w (w.drew.alloc (.cells Z 3))) := (Below.refl _ w).drew.alloc (Nat.le_refl _) _
 have hn0 : ¬ (n : Int) < 0 := by omega
 have hn1 : (0 : Int) < (n : Int) := by omega
 have hc0 : (0 : Int) ≤ (cap2 : Int) := by omega
 unfold maxLen at hcaple
 clear hcap hZ
 go_enter Tryz.func81, Tryz.ntmps81
 go_wp2_with (at_builtin; refine Lib.wpList_append_run _ rfl _ _ _ _ rfl _ _ rfl rfl _ _ happ ?_)
 go_ret
 exact ⟨_, rfl, HO.out, HB.out⟩
def catN (Ls : Nat → List Nat) : Nat → List Nat
 | 0 => []
 | k + 1 => catN Ls k ++ Ls k
theorem qsf (Ls : Nat → List Nat) (h : ∀ i, i < 4 → (Ls i).length ≤ 200) : ∀ k, k ≤ 4 → (catN Ls k).length ≤ 200 * k
 | 0, _ => Nat.le_refl _
 | k + 1, hk => by
  have := qsf Ls h k (by omega)
  have := h k (by omega)
  rw [catN, List.length_append]; omega
theorem q3f (gp B : Nat) (P : Nat → Value) (Ls : Nat → List Nat) (w : World) (hg : gp < w.heap.size) (hc : ∀ i, i < 4 → w.cell? ⟨gp, i, none⟩ = some (P i)) (hO : ∀ i, i < 4 → w.ownsRow B 3 1 (P i) (Ls i).length (nc (Ls i))) (hl : ∀ i, i < 4 → 1 ≤ (Ls i).length ∧ (Ls i).length ≤ 200) :
    Calls Tryz.prog 51 #[.slice (some ⟨gp, 0, none⟩) 4 4] w fun e w' => ∃ v, e = .returned v ∧ w'.ownsRow w.heap.size 3 1 v (catN Ls 4).length (nc (catN Ls 4)) ∧ Below w.heap.size w w' := by
 obtain ⟨i0, hi, hz0, hz1, hz2⟩ := info_parts Tryz.infoIq
 have HC : Hid (∀ i, i < 4 → w.cell? ⟨gp, i, none⟩ = some (P i)) := hc
 have HO : Hid (∀ i, i < 4 → w.ownsRow B 3 1 (P i) (Ls i).length (nc (Ls i))) := hO
 have HL : Hid (∀ i, i < 4 → 1 ≤ (Ls i).length ∧ (Ls i).length ≤ 200) := hl
 have HCL : Hid (∀ k, k ≤ 4 → (catN Ls k).length ≤ 200 * k) := qsf Ls (fun i hi => (hl i hi).2)
 clear hc hO hl
 go_enter Tryz.func51, Tryz.ntmps51
 go_wp2
 go_loop [3, 11] (fun sz i => ∃ k : Nat, k ≤ 4 ∧ i = .int .i64 (k : Int) ∧ sz = .int .i64 ((catN Ls k).length : Int)) (fun _ i => 4 - (intOf i).toNat)
 case atStart => exact ⟨0, by omega, rfl, rfl⟩
 case round =>
  obtain ⟨k, hk, rfl, rfl⟩ := hrel
  have hcl := HCL.out k hk
  by_cases hlt : k < 4
  · have ck := HC.out k hlt
    have hlk := HL.out k hlt
    obtain ⟨a, cap, hv⟩ := qam (HO.out k hlt)
    rw [hv] at ck
    have HS : Hid ((catN Ls (k + 1)).length = (catN Ls k).length + (Ls k).length) := by unfold Hid; rw [catN, List.length_append]
    have hki : (k : Int) < 4 := by omega
    have hki0 : (0 : Int) ≤ (k : Int) := by omega
    clear hv
    generalize (catN Ls k).length = X at *
    generalize (Ls k).length = Y at *
    go_wp2
    go_round
    case rel => exact ⟨k + 1, by omega, by go_num, by rw [HS.out]; go_num⟩
    case measure => simp [intOf]; omega
  · obtain rfl : k = 4 := by omega
    have h4 : 1 ≤ (catN Ls 4).length := by
     rw [catN, List.length_append]
     have := (HL.out 3 (by decide)).1
     omega
    have HG : Hid (Calls _ _ _ _ _) := qrn (catN Ls 4).length w h4 (by omega)
    go_wp2_with fail
    refine (Hid.out HG : Calls _ _ _ _ _).mono ?_
    rintro e w1 ⟨v1, rfl, hO1, hB1⟩
    have HO1 : Hid (w1.ownsRow w.heap.size 3 1 v1 0 []) := hO1
    have HB1 : Hid (Below w.heap.size w w1) := hB1
    clear HG hO1 hB1
    go_wp2
    go_loopw [6, 27] (fun v i wr => ∃ k : Nat, k ≤ 4 ∧ i = .int .i64 (k : Int) ∧ wr.ownsRow w.heap.size 3 1 v (catN Ls k).length (nc (catN Ls k)) ∧ Below w.heap.size w wr) (fun _ i _ => 4 - (intOf i).toNat)
    case atStart => exact ⟨0, by omega, rfl, HO1.out, HB1.out⟩
    case round =>
     clear HO1 HB1
     obtain ⟨k, hk, rfl, hO, hB⟩ := hrel
     have hck := HCL.out k hk
     have hsz := hB.size
     by_cases hlt : k < 4
     · have ck := HC.out k hlt
       rw [← hB.cell (p := ⟨gp, k, none⟩) hg] at ck
       have hlk := HL.out k hlt
       have hOk := HO.out k hlt
       obtain ⟨g, cap, hv, _, _, hgl⟩ := qch hOk (by omega)
       rw [hv] at ck hOk
       have HN : Hid (∀ j u, (nc (Ls k))[j]? = some u → wr.cell? ((⟨g, 0, none⟩ : Addr).add j) = some u) := fun j u hu => by
        have hadd : (⟨g, 0, none⟩ : Addr).add j = ⟨g, j, none⟩ := by unfold Addr.add; split <;> simp_all
        have hj : j < (Ls k).length := by have := (List.getElem?_eq_some_iff.1 hu).1; rwa [qel] at this
        rw [hadd, hB.cell (p := ⟨g, j, none⟩) hgl, hOk.cellAt j (by omega)]; exact hu
       have HONE : Hid (∀ u ∈ nc (Ls k), u.oneCell' = true) := qv6 _
       have HLN : Hid ((nc (Ls k)).length = (Ls k).length * 1) := by unfold Hid; rw [qel, Nat.mul_one]
       have hki : (k : Int) < 4 := by omega
       have hki0 : (0 : Int) ≤ (k : Int) := by omega
       clear hv
       go_wp2_with (at_builtin; refine wpList_append_own _ rfl _ _ 39 rfl w.heap.size 3 i0 (.int .i64 0) 1 8 Tryz.underlying39 hi hz0 hz1 hz2 rfl (by decide) _ _ _ rfl hO ⟨g, 0, none⟩ (Ls k).length cap (nc (Ls k)) rfl HLN.out HN.out HONE.out (by unfold maxLen; omega) (by omega) hsz ?_)
       intro v8 w8 hown8 hg8 _
       have HO8 : Hid (w8.ownsRow w.heap.size 3 1 v8 (catN Ls (k + 1)).length (nc (catN Ls (k + 1)))) := by unfold Hid; rw [catN, qv7, List.length_append]; exact hown8
       have HB8 : Hid (Below w.heap.size w w8) := hB.grown hg8 hsz (fun q hq => (hO.lt q hq).1)
       clear hown8 hg8 hO hB hOk HN ck
       go_wp2
       go_roundw
       case rel => exact ⟨k + 1, by omega, by go_num, HO8.out, HB8.out⟩
       case measure => simp [intOf]; omega
     · obtain rfl : k = 4 := by omega
       go_wp2
       go_ret
       exact ⟨_, rfl, hO, hB⟩
theorem qra {w : World} {B n : Nat} {v : Value} {ns : List Nat} (h : w.ownsRow B 3 1 v n (nc ns)) (h0 : 0 < n) : IQ w v (zz ns) := by
 have hl := h.1
 rw [qel, Nat.mul_one] at hl
 subst hl
 obtain ⟨g, cap, rfl, _, _, hg⟩ := qch h h0
 refine ⟨g, 0, cap, by rw [qa4], hg, fun i hi => ?_⟩
 rw [qa4] at hi
 rw [Nat.zero_add, h.cellAt i (by omega), qlp ns i hi, qmi]
def fixP : Nat → List Nat
 | 0 => List.replicate 144 8
 | 1 => List.replicate 112 9
 | 2 => List.replicate 24 7
 | _ => List.replicate 8 8
theorem qzq : catN fixP 4 = fixL := by unfold fixL; simp only [catN, fixP, List.nil_append]
theorem qiz (w : World) : Calls Tryz.prog 47 #[] w fun e w' => ∃ v u, e = .returned (.tuple #[v, u]) ∧ w'.ownsRow w.heap.size 3 1 v 288 (nc fixL) ∧ w'.ownsRow w.heap.size 3 1 u 32 (nc fixD) ∧ Below w.heap.size w w' := by
 have H1 : Hid (∀ W, Calls Tryz.prog 76 #[.int .i64 8, .int .i64 144] W fun e w' => ∃ g, e = .returned (.slice (some ⟨g, 0, none⟩) 144 144) ∧ w'.ownsRow W.heap.size 3 1 (.slice (some ⟨g, 0, none⟩) 144 144) 144 (nc (List.replicate 144 8)) ∧ Below W.heap.size W w') := fun W => qe4 8 144 W (by decide) (by decide)
 have H2 : Hid (∀ W, Calls Tryz.prog 76 #[.int .i64 9, .int .i64 112] W fun e w' => ∃ g, e = .returned (.slice (some ⟨g, 0, none⟩) 112 112) ∧ w'.ownsRow W.heap.size 3 1 (.slice (some ⟨g, 0, none⟩) 112 112) 112 (nc (List.replicate 112 9)) ∧ Below W.heap.size W w') := fun W => qe4 9 112 W (by decide) (by decide)
 have H3 : Hid (∀ W, Calls Tryz.prog 76 #[.int .i64 7, .int .i64 24] W fun e w' => ∃ g, e = .returned (.slice (some ⟨g, 0, none⟩) 24 24) ∧ w'.ownsRow W.heap.size 3 1 (.slice (some ⟨g, 0, none⟩) 24 24) 24 (nc (List.replicate 24 7)) ∧ Below W.heap.size W w') := fun W => qe4 7 24 W (by decide) (by decide)
 have H4 : Hid (∀ W, Calls Tryz.prog 76 #[.int .i64 8, .int .i64 8] W fun e w' => ∃ g, e = .returned (.slice (some ⟨g, 0, none⟩) 8 8) ∧ w'.ownsRow W.heap.size 3 1 (.slice (some ⟨g, 0, none⟩) 8 8) 8 (nc (List.replicate 8 8)) ∧ Below W.heap.size W w') := fun W => qe4 8 8 W (by decide) (by decide)
 have H5 : Hid (∀ W, Calls Tryz.prog 76 #[.int .i64 5, .int .i64 32] W fun e w' => ∃ g, e = .returned (.slice (some ⟨g, 0, none⟩) 32 32) ∧ w'.ownsRow W.heap.size 3 1 (.slice (some ⟨g, 0, none⟩) 32 32) 32 (nc (List.replicate 32 5)) ∧ Below W.heap.size W w') := fun W => qe4 5 32 W (by decide) (by decide)
 go_enter Tryz.func47, Tryz.ntmps47
 go_wp2_with fail
 refine (H1.out _).mono ?_
 rintro e w1 ⟨g1, rfl, o1, b1⟩
 go_wp2_with fail
 refine (H2.out _).mono ?_
 rintro e w2 ⟨g2, rfl, o2, b2⟩
 go_wp2_with fail
 refine (H3.out _).mono ?_
 rintro e w3 ⟨g3, rfl, o3, b3⟩
 go_wp2_with fail
 refine (H4.out _).mono ?_
 rintro e w4 ⟨g4, rfl, o4, b4⟩
 have hA : Below w4.heap.size w4 (w4.alloc (.cells #[.slice (some ⟨g1, 0, none⟩) 144 144, .slice (some ⟨g2, 0, none⟩) 112 112, .slice (some ⟨g3, 0, none⟩) 24 24, .slice (some ⟨g4, 0, none⟩) 8 8] 39)) := (Below.refl _ w4).alloc (Nat.le_refl _) _
 have bb2 : Below w.heap.size w w2 := b1.trans (b2.mono b1.size)
 have bb3 : Below w.heap.size w w3 := bb2.trans (b3.mono bb2.size)
 have bb4 : Below w.heap.size w w4 := bb3.trans (b4.mono bb3.size)
 have low : ∀ {W W' : World} {v : Value} {n : Nat} {xs : List Value}, W'.ownsRow W.heap.size 3 1 v n xs → w.heap.size ≤ W.heap.size → W'.ownsRow w.heap.size 3 1 v n xs := fun h hle => ⟨h.1, by
  rcases h.2 with h | ⟨g', cap, cur, h1, h2, h3⟩
  · exact .inl h
  · exact .inr ⟨g', cap, cur, h1, by omega, h3⟩⟩
 have q1 := (qa0 (qa0 (qa0 (qa0 o1 b2) b3) b4) hA)
 have q2 := low (qa0 (qa0 (qa0 o2 b3) b4) hA) b1.size
 have q3 := low (qa0 (qa0 o3 b4) hA) bb2.size
 have q4 := low (qa0 o4 hA) bb3.size
 have hcc := q3f w4.heap.size w.heap.size (fun i => match i with | 0 => .slice (some ⟨g1, 0, none⟩) 144 144 | 1 => .slice (some ⟨g2, 0, none⟩) 112 112 | 2 => .slice (some ⟨g3, 0, none⟩) 24 24 | _ => .slice (some ⟨g4, 0, none⟩) 8 8) fixP (w4.alloc (.cells #[.slice (some ⟨g1, 0, none⟩) 144 144, .slice (some ⟨g2, 0, none⟩) 112 112, .slice (some ⟨g3, 0, none⟩) 24 24, .slice (some ⟨g4, 0, none⟩) 8 8] 39)) (by rw [World.size_alloc]; omega)
  (fun i hi => by rcases (show i = 0 ∨ i = 1 ∨ i = 2 ∨ i = 3 by omega) with rfl | rfl | rfl | rfl <;> (rw [cell_of_row _ _ _ _ _ _ (heap_alloc_new w4 _)]; rfl))
  (fun i hi => by
   rcases (show i = 0 ∨ i = 1 ∨ i = 2 ∨ i = 3 by omega) with rfl | rfl | rfl | rfl
   · exact q1
   · exact q2
   · exact q3
   · exact q4)
  (fun i hi => by rcases (show i = 0 ∨ i = 1 ∨ i = 2 ∨ i = 3 by omega) with rfl | rfl | rfl | rfl <;> (simp only [fixP, List.length_replicate]; decide))
 rw [qzq] at hcc
 have HCC : Hid (Calls _ _ _ _ _) := hcc
 have HB4 : Hid (Below w.heap.size w (w4.alloc (.cells #[.slice (some ⟨g1, 0, none⟩) 144 144, .slice (some ⟨g2, 0, none⟩) 112 112, .slice (some ⟨g3, 0, none⟩) 24 24, .slice (some ⟨g4, 0, none⟩) 8 8] 39))) := bb4.alloc bb4.size _
 clear o1 o2 o3 o4 q1 q2 q3 q4 b1 b2 b3 b4 bb2 bb3 bb4 hA hcc low H1 H2 H3 H4
 go_wp2_with fail
 refine (Hid.out HCC : Calls _ _ _ _ _).mono ?_
 rintro e w5 ⟨v5, rfl, o5, b5⟩
 have HB5 : Hid (Below w.heap.size w w5) := HB4.out.trans (b5.mono HB4.out.size)
 have HO5 : Hid (w5.ownsRow w.heap.size 3 1 v5 288 (nc fixL)) := by
  refine ⟨by rw [qel]; rfl, ?_⟩
  rcases o5.2 with ⟨h, h2⟩ | ⟨g', cap, cur, h1, h2, h3⟩
  · exact absurd h2 (by decide)
  · have := HB4.out.size
    exact .inr ⟨g', cap, cur, h1, by omega, h3⟩
 clear HCC o5 b5 HB4
 go_wp2_with fail
 refine (H5.out _).mono ?_
 rintro e w6 ⟨g6, rfl, o6, b6⟩
 have HO6 : Hid (w6.ownsRow w.heap.size 3 1 v5 288 (nc fixL)) := qa0 HO5.out b6
 have HO7 : Hid (w6.ownsRow w.heap.size 3 1 (.slice (some ⟨g6, 0, none⟩) 32 32) 32 (nc fixD)) := by
  refine ⟨o6.1, ?_⟩
  rcases o6.2 with ⟨h, _⟩ | ⟨g', cap, cur, h1, h2, h3⟩
  · cases h
  · have := HB5.out.size
    exact .inr ⟨g', cap, cur, h1, by omega, h3⟩
 have HB6 : Hid (Below w.heap.size w w6) := HB5.out.trans (b6.mono HB5.out.size)
 clear o6 b6 HO5 HB5 H5
 go_wp2
 go_ret2
 exact ⟨v5, _, rfl, HO6.out, HO7.out, HB6.out⟩
theorem ql2 : fitE fixL = true := by decide +kernel
theorem ql4 : fitE fixD = true := by decide +kernel
theorem qgc : Lens fixL := (qbx ql2).2
theorem qgd : Lens fixD := (qbx ql4).2
theorem RdAt.fixed {w : World} {B gr gx gc : Nat} {s : ByteArray} {p most out : Nat} (h : RdAt w B gr gx s p most out) (hc : qbl w gc fixL fixD) : RdAt (w.setCell ⟨gr, 3, none⟩ (.pointer (some ⟨gc, 0, none⟩))) B gr gx s p most out ∧ KS w (w.setCell ⟨gr, 3, none⟩ (.pointer (some ⟨gc, 0, none⟩))) ∧ Below B w (w.setCell ⟨gr, 3, none⟩ (.pointer (some ⟨gc, 0, none⟩))) ∧ (w.setCell ⟨gr, 3, none⟩ (.pointer (some ⟨gc, 0, none⟩))).cell? ⟨gr, 3, none⟩ = some (.pointer (some ⟨gc, 0, none⟩)) := by
 have hne := h.ne
 obtain ⟨h1, h2, h3, fp, h4, h5⟩ := h
 have hg : w.grownBy (w.setCell ⟨gr, 3, none⟩ (.pointer (some ⟨gc, 0, none⟩))) (some gr) := gset (qcj w _) 3 _
 have hk : KS w (w.setCell ⟨gr, 3, none⟩ (.pointer (some ⟨gc, 0, none⟩))) := qlw hg h4 (.inr rfl)
 have h6 : (w.setCell ⟨gr, 3, none⟩ (.pointer (some ⟨gc, 0, none⟩))).heap[gr]? = some (.cells #[.pointer (some ⟨gx, 0, none⟩), .int .i64 (most : Int), .int .i64 (out : Int), .pointer (some ⟨gc, 0, none⟩)] 89 (0, 0)) := by rw [heap_setCell_same _ _ _ _ _ _ h4]; rfl
 refine ⟨⟨h1, h2, (hg.block gx h3.lt (fun e => hne (by cases e; rfl))).trans h3, _, h6, .inr ⟨gc, rfl, hc.ks hk⟩⟩, hk, (Below.refl _ w).setCell h1 _, ?_⟩
 rw [cell_of_row _ _ _ _ _ _ h6]; rfl
theorem qjr (B gr gx : Nat) (s : ByteArray) (p most out : Nat) (w : World) (hR : RdAt w B gr gx s p most out) :
    Calls Tryz.prog 102 #[.pointer (some ⟨gr, 0, none⟩)] w fun e w' => ∃ gc, e = .returned (.tuple #[.pointer (some ⟨gc, 0, none⟩), .int .i64 0]) ∧ qbl w' gc fixL fixD ∧ RdAt w' B gr gx s p most out ∧ KS w w' ∧ Below B w w' := by
 obtain ⟨h1, h2, h3, fp, h4, h5⟩ := id hR
 have c3 : w.cell? ⟨gr, 3, none⟩ = some (.pointer fp) := by rw [cell_of_row _ _ _ _ _ _ h4]; rfl
 have hB0 := hR.size
 rcases h5 with rfl | ⟨gc, rfl, hc⟩
 · have HL : Hid (Calls _ _ _ _ _) := qiz w
   have HR : Hid (RdAt w B gr gx s p most out) := hR
   clear hR h3 h4
   go_enter Tryz.func102, Tryz.ntmps102
   go_wp2_with fail
   refine (Hid.out HL : Calls _ _ _ _ _).mono ?_
   rintro e w1 ⟨v, u, rfl, o1, o2, b1⟩
   have HP : Hid (Calls _ _ _ _ _) := qkf v u fixL fixD w1 (qra o1 (by decide)) (qra o2 (by decide)) ql2 ql4
   clear HL o1 o2 c3
   go_wp2_with fail
   refine (Hid.out HP : Calls _ _ _ _ _).mono ?_
   rintro e w2 ⟨gc, rfl, hc, b2⟩
   have hb2 : Below w.heap.size w w2 := b1.trans (b2.mono b1.size)
   have hR2 := HR.out.below hb2
   obtain ⟨k1, k2, k3, k4⟩ := hR2.fixed hc
   have f3 : w2.frozen? ⟨gr, 3, none⟩ = false := by
    obtain ⟨_, _, _, fp', h4', _⟩ := hR2
    exact frozen_of_row _ _ _ _ _ h4'
   obtain ⟨x3, c3⟩ : ∃ x3, w2.cell? ⟨gr, 3, none⟩ = some x3 := by
    obtain ⟨_, _, _, fp', h4', _⟩ := hR2
    exact ⟨_, by rw [cell_of_row _ _ _ _ _ _ h4']; rfl⟩
   have HC : Hid _ := hc.ks k2
   have HK : Hid _ := (qbd hb2).trans k2
   have HB : Hid (Below B w _) := (hb2.mono hB0).trans k3
   have HR2 : Hid _ := k1
   clear HP hc b1 b2 hb2 hR2 k1 k2 k3
   go_wp2
   go_ret2
   exact ⟨gc, rfl, HC.out, HR2.out, HK.out, HB.out⟩
 · clear h3 h4
   go_enter Tryz.func102, Tryz.ntmps102
   go_wp2
   go_ret2
   exact ⟨gc, rfl, hc, hR, KS.refl _, Below.refl _ _⟩
theorem qiu (w : World) : Calls Tryz.prog 82 #[] w fun e w' => e = .returned (.slice (some ⟨w.heap.size, 0, none⟩) 19 19) ∧ w' = w.alloc (.cells (nc ordL).toArray 3) := by
 go_enter Tryz.func82, Tryz.ntmps82
 go_wp2
 go_ret
 exact ⟨rfl, rfl⟩
theorem qrb : ∀ k : Fin 19, ordL.idxOf (ordL.getD k.val 0) = k.val ∧ ordL.getD k.val 0 < 19 := by decide +kernel
theorem qze : ∀ k t : Fin 19, (ordL.idxOf t.val < k.val + 1) = (ordL.idxOf t.val < k.val ∨ t.val = ordL.getD k.val 0) := by
 have h : ∀ k t : Fin 19, (ordL.idxOf t.val < k.val + 1) ↔ (ordL.idxOf t.val < k.val ∨ t.val = ordL.getD k.val 0) := by decide +kernel
 intro k t
 exact propext (h k t)
theorem qd4 (f : Nat → Bool) (p k : Nat) : (fstL f p k).length = 19 := by simp [fstL]
theorem qrt (f : Nat → Bool) (p k : Nat) (hk : k < 19) : (nc (fstL f p k)).set (ordL.getD k 0) (.int .i64 (qal (fun i => f (p + 3 * k + i)) 3 : Int)) = nc (fstL f p (k + 1)) := by
 apply List.ext_getElem?
 intro i
 rw [List.getElem?_set]
 unfold nc fstL
 by_cases hi : i < 19
 · simp only [List.map_map, List.length_map, List.length_range, List.getElem?_map, List.getElem?_range hi, Option.map_some, Function.comp_apply]
   have hn := qze ⟨k, hk⟩ ⟨i, hi⟩
   have ha := qrb ⟨k, hk⟩
   simp only at hn ha
   by_cases e : ordL.getD k 0 = i
   · rw [if_pos e, if_pos ha.2]
     have h1 : ordL.idxOf i = k := by rw [← e]; exact ha.1
     rw [if_pos (by rw [h1]; omega), h1]
   · rw [if_neg e]
     by_cases h2 : ordL.idxOf i < k
     · rw [if_pos h2, if_pos (by omega)]
     · rw [if_neg h2, if_neg (fun h => by rw [hn] at h; exact h.elim h2 (fun q => e q.symm))]
 · rw [List.getElem?_eq_none (by simp; omega), List.getElem?_eq_none (by simp; omega)]
   split
   · rename_i e
     have := (qrb ⟨k, hk⟩).2
     simp only at this
     omega
   · rfl
theorem qnr (f : Nat → Bool) (p : Nat) : madeCells #[Value.int .i64 0] 19 = (nc (fstL f p 0)).toArray := by
 apply Array.ext'
 rw [toList_madeCells_one]
 unfold nc fstL
 rw [List.map_map]
 rfl
theorem qhw {w : World} {g : Nat} {ns : List Nat} (h : w.heap[g]? = some (.cells (nc ns).toArray 3 (0, 0))) (n : Nat) (hn : n = ns.length) : IQ w (.slice (some ⟨g, 0, none⟩) n n) (zz ns) := by
 subst hn
 refine ⟨g, 0, ns.length, by rw [qa4], (Array.getElem?_eq_some_iff.1 h).1, fun i hi => ?_⟩
 rw [qa4] at hi
 rw [Nat.zero_add, cell_of_row _ _ _ _ _ _ h, List.getElem?_toArray, qlp ns i hi, qmi]
theorem qrv : qdo 3 := by unfold qdo; decide
theorem qwp (B gr gx : Nat) (s : ByteArray) (p most out n : Nat) (w : World) (hR : RdAt w B gr gx s p most out) (hs : s.size ≤ 100000000) (hp : p ≤ 8 * s.size) (hn : n ≤ 19) :
    Calls Tryz.prog 114 #[.pointer (some ⟨gr, 0, none⟩), .int .i64 (n : Int)] w fun e w' => (8 * s.size < p + 3 * n ∧ e = .returned (.tuple #[.pointer none, .int .i64 6]) ∧ KS w w' ∧ Below B w w') ∨ (p + 3 * n ≤ 8 * s.size ∧ fitE (fstL (bF8 s) p n) = false ∧ e = .returned (.tuple #[.pointer none, .int .i64 3]) ∧ KS w w' ∧ Below B w w') ∨ (p + 3 * n ≤ 8 * s.size ∧ fitE (fstL (bF8 s) p n) = true ∧ ∃ B1 t, e = .returned (.tuple #[.pointer (some ⟨t, 0, none⟩), .int .i64 0]) ∧ qao w' B1 t (fstL (bF8 s) p n) 19 ∧ RdAt w' B gr gx s (p + 3 * n) most out ∧ KS w w' ∧ Below B w w') := by
 have hB0 := hR.size
 have hmk : ∀ W : World, (Instr.makeSlice 39 (.int .i64 19) (.int .i64 19)).run Tryz.prog W = .ok (.slice (some ⟨W.heap.size, 0, none⟩) 19 19) (W.alloc (.cells (madeCells #[.int .i64 0] 19) 3)) := qix 19 (by decide)
 have hA1 : Below w.heap.size w (w.alloc (.cells (nc ordL).toArray 3)) := (Below.refl _ w).alloc (Nat.le_refl _) _
 have hA2 : Below w.heap.size w ((w.alloc (.cells (nc ordL).toArray 3)).alloc (.cells (madeCells #[.int .i64 0] 19) 3)) := hA1.alloc hA1.size _
 have HA2 : Hid (Below w.heap.size w ((w.alloc (.cells (nc ordL).toArray 3)).alloc (.cells (madeCells #[.int .i64 0] 19) 3))) := hA2
 have HR2 : Hid (RdAt ((w.alloc (.cells (nc ordL).toArray 3)).alloc (.cells (madeCells #[.int .i64 0] 19) 3)) B gr gx s p most out) := hR.below hA2
 have HO2 : Hid (((w.alloc (.cells (nc ordL).toArray 3)).alloc (.cells (madeCells #[.int .i64 0] 19) 3)).heap[w.heap.size]? = some (.cells (nc ordL).toArray 3 (0, 0))) := (heap_alloc_old _ _ (by rw [World.size_alloc]; omega)).trans (heap_alloc_new w _)
 have HL2 : Hid (((w.alloc (.cells (nc ordL).toArray 3)).alloc (.cells (madeCells #[.int .i64 0] 19) 3)).heap[w.heap.size + 1]? = some (.cells (nc (fstL (bF8 s) p 0)).toArray 3 (0, 0))) := by
  unfold Hid
  rw [← qnr]
  have := heap_alloc_new (w.alloc (.cells (nc ordL).toArray 3)) (.cells (madeCells #[.int .i64 0] 19) 3)
  rw [World.size_alloc] at this; exact this
 have hni : (n : Int) ≤ 19 := by omega
 have hni0 : (0 : Int) ≤ (n : Int) := by omega
 clear hA1 hA2 hR
 go_enter Tryz.func114, Tryz.ntmps114
 go_wp2_with fail
 refine (qiu w).mono ?_
 rintro e w1 ⟨rfl, rfl⟩
 go_wp2
 generalize World.alloc (World.alloc w _) _ = W2 at *
 clear hmk
 go_loopw [20] (fun i wr => ∃ k : Nat, k ≤ n ∧ i = .int .i64 (k : Int) ∧ p + 3 * k ≤ 8 * s.size ∧ wr.heap[w.heap.size]? = some (.cells (nc ordL).toArray 3 (0, 0)) ∧ wr.heap[w.heap.size + 1]? = some (.cells (nc (fstL (bF8 s) p k)).toArray 3 (0, 0)) ∧ RdAt wr B gr gx s (p + 3 * k) most out ∧ KS w wr ∧ Below B w wr) (fun i _ => n - (intOf i).toNat)
 case atStart => exact ⟨0, by omega, rfl, by omega, HO2.out, HL2.out, HR2.out, qbd HA2.out, HA2.out.mono hB0⟩
 case round =>
  clear HA2 HR2 HO2 HL2
  obtain ⟨k, hk, rfl, hpk, hO, hL, hR, hK, hB⟩ := hrel
  by_cases hlt : k < n
  · have hki : (k : Int) < (n : Int) := by omega
    have hki0 : (0 : Int) ≤ (k : Int) := by omega
    obtain ⟨_, hs19⟩ := qrb ⟨k, by omega⟩
    simp only at hs19
    have co : wr.cell? ⟨w.heap.size, k, none⟩ = some (.int .i64 (ordL.getD k 0 : Int)) := by
     rw [cell_of_row _ _ _ _ _ _ hO, List.getElem?_toArray, qlp ordL k (by show k < 19; omega)]
    have HFS : Hid _ := qrt (bF8 s) p k (by omega)
    have HR : Hid (RdAt wr B gr gx s (p + 3 * k) most out) := hR
    have HO : Hid (wr.heap[w.heap.size]? = some (.cells (nc ordL).toArray 3 (0, 0))) := hO
    have HL : Hid (wr.heap[w.heap.size + 1]? = some (.cells (nc (fstL (bF8 s) p k)).toArray 3 (0, 0))) := hL
    have HK : Hid (KS w wr) := hK
    have HB : Hid (Below B w wr) := hB
    clear hO hL hR hK hB
    generalize ordL.getD k 0 = sy at *
    cases ht : tkF (bF8 s) (8 * s.size) (p + 3 * k) 3 with
    | error er =>
     have hte := qcu ht
     obtain ⟨hsh, rfl⟩ := hte
     have HT : Hid (Calls _ _ _ _ _) := qcb B gr gx s (p + 3 * k) most out 3 6 wr HR.out hs (by decide) hpk ht
     clear ht
     go_wp2_with fail
     refine (Hid.out HT : Calls _ _ _ _ _).mono ?_
     rintro e w3 ⟨rfl, hK3, hB3⟩
     have HK3 : Hid (KS w w3) := HK.out.trans hK3
     have HB3 : Hid (Below B w w3) := HB.out.trans hB3
     clear hK3 hB3 HT co
     go_wp2
     go_ret2
     exact .inl ⟨by omega, rfl, HK3.out, HB3.out⟩
    | ok x =>
     have hto := qcg ht
     obtain ⟨hle, hxv⟩ := hto
     have HT : Hid (Calls _ _ _ _ _) := qcn B gr gx s (p + 3 * k) most out 3 x wr HR.out hs (by decide) ht
     rw [← hxv] at HFS
     clear ht hxv
     go_wp2_with fail
     refine (Hid.out HT : Calls _ _ _ _ _).mono ?_
     rintro e w3 ⟨rfl, hR3, hK3, hB3⟩
     have hO3 := hK3.2 _ _ _ _ HO.out (by decide) (by decide)
     have hL3 := hK3.2 _ _ _ _ HL.out (by decide) (by decide)
     have hg3 : w3.grownBy (w3.setCell ⟨w.heap.size + 1, sy, none⟩ (.int .i64 (x : Int))) (some (w.heap.size + 1)) := gset (qcj w3 _) sy _
     have hL4 : (w3.setCell ⟨w.heap.size + 1, sy, none⟩ (.int .i64 (x : Int))).heap[w.heap.size + 1]? = some (.cells (nc (fstL (bF8 s) p (k + 1))).toArray 3 (0, 0)) := by
      rw [heap_setCell_same _ _ _ _ _ _ hL3, List.setIfInBounds_toArray, HFS.out]
     obtain ⟨y, cy⟩ : ∃ y, w3.cell? ⟨w.heap.size + 1, sy, none⟩ = some y := by
      refine ⟨(nc (fstL (bF8 s) p k))[sy]'(by rw [qel, qd4]; exact hs19), ?_⟩
      rw [cell_of_row _ _ _ _ _ _ hL3, List.getElem?_toArray, List.getElem?_eq_getElem (by rw [qel, qd4]; exact hs19)]
     have fy : w3.frozen? ⟨w.heap.size + 1, sy, none⟩ = false := frozen_of_row _ _ _ _ _ hL3
     have HL4 : Hid _ := hL4
     have HO4 : Hid ((w3.setCell ⟨w.heap.size + 1, sy, none⟩ (.int .i64 (x : Int))).heap[w.heap.size]? = some (.cells (nc ordL).toArray 3 (0, 0))) := (hg3.block w.heap.size (Array.getElem?_eq_some_iff.1 hO3).1 (fun e => by have := Option.some.inj e; omega)).trans hO3
     have HR4 : Hid (RdAt (w3.setCell ⟨w.heap.size + 1, sy, none⟩ (.int .i64 (x : Int))) B gr gx s (p + 3 * k + 3) most out) := hR3.k1 (qf7 hg3 hL3) qrv
     have HK4 : Hid (KS w (w3.setCell ⟨w.heap.size + 1, sy, none⟩ (.int .i64 (x : Int)))) := qg8 (HK.out.trans hK3) hg3 (by omega)
     have HB4 : Hid (Below B w (w3.setCell ⟨w.heap.size + 1, sy, none⟩ (.int .i64 (x : Int)))) := (HB.out.trans hB3).setCell (by show B ≤ w.heap.size + 1; omega) _
     have hsyi : (sy : Int) < 19 := by omega
     have hsyi0 : (0 : Int) ≤ (sy : Int) := by omega
     clear hR3 hK3 hB3 hO3 hL3 hg3 hL4 HT co HR HO HL HK HB HFS
     go_wp2
     go_roundw
     case rel => exact ⟨k + 1, by omega, by go_num, by omega, HO4.out, HL4.out, HR4.out, HK4.out, HB4.out⟩
     case measure => simp [intOf]; omega
  · obtain rfl : k = n := by omega
    have hIO := qhw hL 19 (by rw [qd4])
    cases hft : fitE (fstL (bF8 s) p k)
    · have HT : Hid (Calls _ _ _ _ _) := qkx _ _ wr hIO (by rw [qd4]; decide) hft
      clear hO hL hIO
      have HK : Hid (KS w wr) := hK
      have HB : Hid (Below B w wr) := hB
      clear hK hB hR
      go_wp2_with fail
      refine (Hid.out HT : Calls _ _ _ _ _).mono ?_
      rintro e w3 ⟨rfl, hw3⟩
      obtain rfl : wr = w3 := hw3.symm
      clear HT hw3
      go_wp2
      go_ret2
      exact .inr (.inl ⟨hpk, hft, rfl, HK.out, HB.out⟩)
    · have HT : Hid (Calls _ _ _ _ _) := qkw _ _ wr hIO hft
      have HR : Hid (RdAt wr B gr gx s (p + 3 * k) most out) := hR
      have HK : Hid (KS w wr) := hK
      have HB : Hid (Below B w wr) := hB
      have hsz := hR.size
      clear hO hL hIO hR hK hB
      go_wp2_with fail
      refine (Hid.out HT : Calls _ _ _ _ _).mono ?_
      rintro e w3 ⟨B1, t, rfl, hP, hB3⟩
      rw [qd4] at hP
      have HP : Hid (qao w3 B1 t (fstL (bF8 s) p k) 19) := hP
      have HR3 : Hid (RdAt w3 B gr gx s (p + 3 * k) most out) := HR.out.below hB3
      have HK3 : Hid (KS w w3) := HK.out.trans (qbd hB3)
      have HB3 : Hid (Below B w w3) := HB.out.trans (hB3.mono hsz)
      clear HT hP hB3 HR HK HB
      go_wp2
      go_ret2
      exact .inr (.inr ⟨hpk, hft, B1, t, rfl, HP.out, HR3.out, HK3.out, HB3.out⟩)
end Go.Proofs.YthkppipdflmekaaGreat
