/- Contracts of chunker.Check and chunker.New. -/
import Derived.Test.YtnfemofighgenabChkS
import Derived.Laws.Tables
import Derived.Deep.WholeRow
namespace Go.Proofs.Ytnfemofighgenab
open Go.RowKit
set_option linter.unusedVariables false

/-- The cells of a new chunker. -/
def NCr : List Value := List.replicate 16 (.int .u8 0) ++ ([.int .i64 0, .int .u64 0] ++ (List.replicate 4096 (.int .u8 0) ++ [.int .i64 0, .bool false]))
def NC (a b c : Value) : List Value := a :: b :: c :: NCr
theorem NC_eq (a b c : Value) : NC a b c = [a, b, c] ++ List.replicate 16 (.int .u8 0) ++ [.int .i64 0, .int .u64 0] ++ List.replicate 4096 (.int .u8 0) ++ [.int .i64 0, .bool false] := by
  rw [List.append_assoc, List.append_assoc, List.append_assoc]; rfl
def ZC : List Value := NC (.int .i64 0) (.int .i64 0) (.int .i64 0)
theorem Try.zeroC : (Try.prog.info? 51).map (fun i => (i.zero, i.size)) = some (some (.agg ZC.toArray), 4119) := by kernel_rfl
theorem ZC_set (a b c : Value) : ((ZC.toArray.setIfInBounds 0 a).setIfInBounds 1 b).setIfInBounds 2 c = (NC a b c).toArray := by
  unfold ZC NC
  generalize NCr = R
  simp
theorem NC_len (a b c : Value) : (NC a b c).length = 4119 := by rw [NC_eq]; simp only [List.length_append, List.length_replicate, List.length_cons, List.length_nil]
def fN (a b c : Value) (j : Nat) : Value := (NC a b c).getD j (.int .u8 0)
theorem NC_row (w : World) (a b c : Value) : (w.alloc (.cells (NC a b c).toArray 51)).rowIs w.heap.size 51 4119 (fN a b c) :=
  ⟨(NC a b c).toArray, heap_alloc_new w _, by rw [List.size_toArray, NC_len], fun i hi => by
    rw [List.getElem?_toArray, List.getElem?_eq_getElem (by rw [NC_len]; exact hi)]
    unfold fN
    rw [List.getD_eq_getElem?_getD, List.getElem?_eq_getElem (by rw [NC_len]; exact hi)]; rfl⟩
theorem fN_zero (a b c : Value) (j : Nat) (h : (3 ≤ j ∧ j < 19) ∨ (21 ≤ j ∧ j < 4117)) : fN a b c j = .int .u8 0 := by
  unfold fN
  rw [NC_eq]
  rw [List.getD_eq_getElem?_getD]
  rcases h with h | h
  · rw [List.append_assoc, List.append_assoc, List.append_assoc, List.getElem?_append_right (by simp; omega), List.getElem?_append_left (by rw [List.length_replicate]; simp; omega), List.getElem?_replicate, if_pos (by simp; omega)]; rfl
  · rw [List.append_assoc, List.getElem?_append_right (by simp only [List.length_append, List.length_replicate, List.length_cons, List.length_nil]; omega), List.getElem?_append_left (by simp only [List.length_append, List.length_replicate, List.length_cons, List.length_nil]; omega), List.getElem?_replicate, if_pos (by simp only [List.length_append, List.length_replicate, List.length_cons, List.length_nil]; omega)]; rfl
theorem fN_at (a b c : Value) : fN a b c 0 = a ∧ fN a b c 1 = b ∧ fN a b c 2 = c ∧ fN a b c 19 = .int .i64 0 ∧ fN a b c 20 = .int .u64 0 ∧ fN a b c 4117 = .int .i64 0 ∧ fN a b c 4118 = .bool false := by
  refine ⟨rfl, rfl, rfl, rfl, rfl, ?_, ?_⟩
  · unfold fN
    rw [NC_eq]
    rw [List.getD_eq_getElem?_getD, List.getElem?_append_right (by simp only [List.length_append, List.length_replicate, List.length_cons, List.length_nil]; omega)]
    simp only [List.length_append, List.length_replicate, List.length_cons, List.length_nil]; rfl
  · unfold fN
    rw [NC_eq]
    rw [List.getD_eq_getElem?_getD, List.getElem?_append_right (by simp only [List.length_append, List.length_replicate, List.length_cons, List.length_nil]; omega)]
    simp only [List.length_append, List.length_replicate, List.length_cons, List.length_nil]; rfl
theorem fpr_nil : fpr [] = 0 := by
  unfold fpr
  rw [L16_nil, show beN (zs 16) = 0 by have := beN_zeros 16 []; rw [List.append_nil] at this; rw [this]; rfl, pm_small (by rw [bl_zero, PR_bl]; decide)]
theorem CF_new (mn bt mx : Nat) : CF (fN (.int .i64 (mn : Int)) (.int .i64 (bt : Int)) (.int .i64 (mx : Int))) mn bt mx [] [] false := by
  obtain ⟨h0, h1, h2, h3, h4, h5, h6⟩ := fN_at (.int .i64 (mn : Int)) (.int .i64 (bt : Int)) (.int .i64 (mx : Int))
  refine ⟨h0, h1, h2, ⟨_, WI.start, fun j hj => ?_⟩, h3, by rw [h4, fpr_nil]; rfl, fun j hj => ⟨0, ?_⟩, fun j hj => by simp at hj, h5, h6⟩
  · rw [fN_zero _ _ _ _ (by omega)]; rfl
  · rw [fN_zero _ _ _ _ (by omega)]; rfl
theorem CK_new (w : World) (mn bt mx : Nat) : CK (w.alloc (.cells (NC (.int .i64 (mn : Int)) (.int .i64 (bt : Int)) (.int .i64 (mx : Int))).toArray 51)) w.heap.size mn bt mx [] [] false := ⟨_, NC_row w _ _ _, CF_new mn bt mx⟩

def cfV (mn bt mx : Int) : Value := .agg #[.int .i64 mn, .int .i64 bt, .int .i64 mx]
set_option maxHeartbeats 1000000 in
theorem check_any (mn bt mx : Int) (w : World) :
    Calls Try.prog 19 #[.agg #[.int .i64 mn, .int .i64 bt, .int .i64 mx]] w fun e w' => e = .returned (.int .i64 (errC mn bt mx : Nat)) ∧ Below w.heap.size w w' := by
  have hB : Below w.heap.size w (w.alloc (.cells #[.int .i64 mn, .int .i64 bt, .int .i64 mx] 24)) := (Below.refl _ w).alloc (Nat.le_refl _) _
  have HE : Hid (errC mn bt mx = if mn < 1 ∨ mx < mn ∨ bt < 0 ∨ 20 < bt then 1 else if 4096 < mx then 2 else 0) := rfl
  by_cases h1 : mn < 1
  · have HE : Hid (errC mn bt mx = 1) := by rw [HE.out, if_pos (Or.inl h1)]; exact rfl
    go_enter Try.func19, Try.ntmps19
    go_wp2
    go_ret
    rw [HE.out]; exact ⟨rfl, hB⟩
  have d1 : decide (mn < 1) = false := by simpa using h1
  by_cases h2 : mx < mn
  · have HE : Hid (errC mn bt mx = 1) := by rw [HE.out, if_pos (Or.inr (Or.inl h2))]; exact rfl
    go_enter Try.func19, Try.ntmps19
    go_wp2
    go_ret
    rw [HE.out]; exact ⟨rfl, hB⟩
  have d2 : decide (mx < mn) = false := by simpa using h2
  by_cases h3 : bt < 0
  · have HE : Hid (errC mn bt mx = 1) := by rw [HE.out, if_pos (Or.inr (Or.inr (Or.inl h3)))]; exact rfl
    go_enter Try.func19, Try.ntmps19
    go_wp2
    go_ret
    rw [HE.out]; exact ⟨rfl, hB⟩
  have d3 : decide (bt < 0) = false := by simpa using h3
  by_cases h4 : 20 < bt
  · have HE : Hid (errC mn bt mx = 1) := by rw [HE.out, if_pos (Or.inr (Or.inr (Or.inr h4)))]; exact rfl
    go_enter Try.func19, Try.ntmps19
    go_wp2
    go_ret
    rw [HE.out]; exact ⟨rfl, hB⟩
  have d4 : decide (20 < bt) = false := by simpa using h4
  by_cases h5 : 4096 < mx
  · have HE : Hid (errC mn bt mx = 2) := by rw [HE.out, if_neg (by omega), if_pos h5]; exact rfl
    go_enter Try.func19, Try.ntmps19
    go_wp2
    go_ret
    rw [HE.out]; exact ⟨rfl, hB⟩
  · have HE : Hid (errC mn bt mx = 0) := by rw [HE.out, if_neg (by omega), if_neg h5]; exact rfl
    go_enter Try.func19, Try.ntmps19
    go_wp2
    go_ret
    rw [HE.out]; exact ⟨rfl, hB⟩
theorem errC_zero {mn bt mx : Int} (h : errC mn bt mx = 0) : 1 ≤ mn ∧ mn ≤ mx ∧ 0 ≤ bt ∧ bt ≤ 20 ∧ mx ≤ 4096 := by
  unfold errC at h
  split at h
  · omega
  · split at h
    · omega
    · omega
set_option maxRecDepth 100000 in
set_option maxHeartbeats 1000000 in
theorem new_bad (mn bt mx : Int) (w : World) (h : errC mn bt mx ≠ 0) :
    Calls Try.prog 9 #[.agg #[.int .i64 mn, .int .i64 bt, .int .i64 mx]] w fun e w' => e = .returned (.tuple #[.pointer none, .int .i64 (errC mn bt mx : Nat)]) ∧ Below w.heap.size w w' := by
  have hB : Below w.heap.size w (w.alloc (.cells #[.int .i64 mn, .int .i64 bt, .int .i64 mx] 24)) := (Below.refl _ w).alloc (Nat.le_refl _) _
  have hn : (((errC mn bt mx : Nat) : Int) == 0) = false := by rw [beq_eq_false_iff_ne]; omega
  clear h
  go_enter Try.func9, Try.ntmps9
  go_wp2_with fail
  refine (check_any mn bt mx _).mono ?_
  rintro e w1 ⟨rfl, hB1⟩
  have hB1 := hB.trans (hB1.mono hB.size)
  go_wp2
  go_ret2
  exact ⟨rfl, hB1⟩
set_option maxRecDepth 100000 in
set_option maxHeartbeats 1000000 in
theorem new_good (mn bt mx : Nat) (w : World) (h : errC mn bt mx = 0) :
    Calls Try.prog 9 #[.agg #[.int .i64 (mn : Int), .int .i64 (bt : Int), .int .i64 (mx : Int)]] w fun e w' => ∃ g, e = .returned (.tuple #[.pointer (some ⟨g, 0, none⟩), .int .i64 0]) ∧ CK w' g mn bt mx [] [] false ∧ w.heap.size ≤ g ∧ Below w.heap.size w w' := by
  have hB : Below w.heap.size w (w.alloc (.cells #[.int .i64 (mn : Int), .int .i64 (bt : Int), .int .i64 (mx : Int)] 24)) := (Below.refl _ w).alloc (Nat.le_refl _) _
  have HC : Hid (∀ o, (w.alloc (.cells #[.int .i64 (mn : Int), .int .i64 (bt : Int), .int .i64 (mx : Int)] 24)).cell? ⟨w.heap.size, o, none⟩ = (#[Value.int .i64 (mn : Int), .int .i64 (bt : Int), .int .i64 (mx : Int)])[o]?) := fun o => by rw [cell_of_row _ _ _ _ _ _ (heap_alloc_new w _)]
  have hz := (zero_of_info Try.zeroC).1
  have hZs : ZC.toArray.size = 4119 := by rw [List.size_toArray]; exact NC_len _ _ _
  have HZ : Hid (_ = _) := ZC_set (.int .i64 (mn : Int)) (.int .i64 (bt : Int)) (.int .i64 (mx : Int))
  generalize ZC.toArray = Z at *
  go_enter Try.func9, Try.ntmps9
  go_wp2_with fail
  refine (check_any mn bt mx _).mono ?_
  rintro e w1 ⟨rfl, hB1⟩
  rw [h]
  have hc0 : w1.cell? ⟨w.heap.size, 0, none⟩ = some (.int .i64 (mn : Int)) := by rw [hB1.cell (p := ⟨w.heap.size, 0, none⟩) (by simp), HC.out]; rfl
  have hc1 : w1.cell? ⟨w.heap.size, 1, none⟩ = some (.int .i64 (bt : Int)) := by rw [hB1.cell (p := ⟨w.heap.size, 1, none⟩) (by simp), HC.out]; rfl
  have hc2 : w1.cell? ⟨w.heap.size, 2, none⟩ = some (.int .i64 (mx : Int)) := by rw [hB1.cell (p := ⟨w.heap.size, 2, none⟩) (by simp), HC.out]; rfl
  have hB1 := hB.trans (hB1.mono hB.size)
  have HCK : Hid _ := CK_new w1 mn bt mx
  have HB2 : Hid (Below w.heap.size w (w1.alloc (.cells (NC (.int .i64 (mn : Int)) (.int .i64 (bt : Int)) (.int .i64 (mx : Int))).toArray 51))) := hB1.alloc hB1.size _
  rw [← HZ.out] at HCK HB2
  clear HC HZ
  go_wp2
  go_ret2
  exact ⟨_, rfl, HCK.out, hB1.size, HB2.out⟩
end Go.Proofs.Ytnfemofighgenab
