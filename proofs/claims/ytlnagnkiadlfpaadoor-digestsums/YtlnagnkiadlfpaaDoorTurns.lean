/- Contract of the document's turns. -/
import Derived.Test.YtlnagnkiadlfpaaDoorOf
import Derived.Test.YtlnagnkiadlfpaaDoorSched
namespace Go.Proofs.YtlnagnkiadlfpaaDoor
open Go.RowKit
set_option linter.unusedVariables false

/-- A word turned by a, by b and by c (the last one a shift), xor one another. -/
def tnF (f : Nat → Bool) (a b c : Nat) (sh : Bool) : Nat → Bool := fun i =>
  if (!sh || decide (c ≤ i)) = true then ((f ((i + 32 - a) % 32) != f ((i + 32 - b) % 32)) != f ((i + 32 - c) % 32)) else (f ((i + 32 - a) % 32) != f ((i + 32 - b) % 32))
/-- The first k bits are there. -/
def tkF (g : Nat → Bool) (k : Nat) : Nat → Bool := fun i => decide (i < k) && g i
theorem tkF_zero (g : Nat → Bool) : tkF g 0 = fun _ => false := by funext j; simp [tkF]
theorem tkF_step (g : Nat → Bool) (k : Nat) : bw (updB (tkF g k) k (g k)) = bw (tkF g (k + 1)) := by
  apply bw_congr
  intro j hj
  unfold updB tkF
  by_cases e : j = k
  · subst e; simp
  · rw [if_neg e]
    by_cases h : j < k
    · simp [h, show j < k + 1 by omega]
    · simp [h, show ¬ j < k + 1 by omega]
theorem tkF_end (g : Nat → Bool) : bw (tkF g 32) = bw g := bw_congr fun j hj => by simp [tkF, hj]
/-- Three blocks of a call: the word's, the result's (noughts) and that of the word at hand. -/
def TN (w : World) (f h : Nat → Bool) (wr : World) : Prop :=
  wr.heap[w.heap.size]? = some (.cells (bw f) 33 (0, 0)) ∧ wr.heap[w.heap.size + 1]? = some (.cells (bw fun _ => false) 33 (0, 0)) ∧ wr.heap[w.heap.size + 1 + 1]? = some (.cells (bw h) 33 (0, 0)) ∧ Below w.heap.size w wr
theorem TN.start (w : World) (f : Nat → Bool) : TN w f (fun _ => false) ((((w.alloc (.cells (bw f) 33)).alloc (.cells zw 33)).alloc (.cells zw 33)).setRow (w.heap.size + 1 + 1) (bw fun _ => false)) := by
  rw [zw_bc]
  have h2 := heap_alloc2_new (w.alloc (.cells (bw f) 33)) (.cells (bw fun _ => false) 33) (.cells (bw fun _ => false) 33)
  have h1 := heap_alloc2_old (w.alloc (.cells (bw f) 33)) (.cells (bw fun _ => false) 33) (.cells (bw fun _ => false) 33)
  have h0 : ((((w.alloc (.cells (bw f) 33)).alloc (.cells (bw fun _ => false) 33)).alloc (.cells (bw fun _ => false) 33))).heap[w.heap.size]? = some (.cells (bw f) 33 (0, 0)) := by
    rw [heap_alloc_old _ _ (by simp; omega)]; exact heap_alloc2_old w _ _
  rw [World.size_alloc] at h1 h2
  refine ⟨by rw [setRow_other _ _ _ _ (by omega)]; exact h0, by rw [setRow_other _ _ _ _ (by omega)]; exact h1, setRow_heap _ _ _ _ _ _ h2, below_setRow ((((Below.refl _ w).alloc (Nat.le_refl _) _).alloc (by simp) _).alloc (by simp; omega) _) (by omega) _⟩
theorem TN.store {w wr : World} {f h : Nat → Bool} (hh : TN w f h wr) (j : Nat) (v : Bool) : TN w f (updB h j v) (wr.setCell ⟨w.heap.size + 1 + 1, j, none⟩ (.bool v)) := by
  refine ⟨?_, ?_, ?_, hh.2.2.2.setCell (by show w.heap.size ≤ w.heap.size + 1 + 1; omega) _⟩
  · rw [heap_setCell_other _ _ _ _ (by simp; omega)]; exact hh.1
  · rw [heap_setCell_other _ _ _ _ (by simp)]; exact hh.2.1
  · rw [heap_setCell_same _ _ _ _ _ _ hh.2.2.1, bw_upd]
theorem TN.congr {w wr : World} {f g h : Nat → Bool} (hh : TN w f g wr) (e : bw g = bw h) : TN w f h wr := ⟨hh.1, hh.2.1, by rw [← e]; exact hh.2.2.1, hh.2.2.2⟩
theorem TN.drewN {w wr : World} {f g : Nat → Bool} (hh : TN w f g wr) (n : Nat) : TN w f g (wr.drewN n) := ⟨hh.1, hh.2.1, hh.2.2.1, below_drewN hh.2.2.2 n⟩
theorem TN.drew {w wr : World} {f g : Nat → Bool} (hh : TN w f g wr) : TN w f g wr.drew := ⟨hh.1, hh.2.1, hh.2.2.1, hh.2.2.2.drew⟩

set_option maxRecDepth 100000 in
set_option maxHeartbeats 1000000 in
theorem turns_any (f : Nat → Bool) (a b c : Nat) (sh : Bool) (w : World) (ha : a ≤ 31) (hb : b ≤ 31) (hc : c ≤ 31) :
    Calls Tryd.prog 16 #[.agg (bw f), .int .i64 (a : Int), .int .i64 (b : Int), .int .i64 (c : Int), .bool sh] w fun e w' => e = .returned (.agg (bw (tnF f a b c sh))) ∧ Below w.heap.size w w' := by
  have hz := (zero_of_info Tryd.zeroW).1
  have HST : Hid (TN _ _ _ _) := TN.start w f
  have HN : Hid (_ = _) := zw_bc
  have hal : ∀ o, ((w.alloc (.cells (bw f) 33)).alloc o).heap.size = w.heap.size + 1 + 1 := fun o => by simp
  have HAL : Hid ((((w.alloc (.cells (bw f) 33)).alloc (.cells zw 33)).alloc (.cells zw 33)).heap[w.heap.size + 1 + 1]? = some (.cells zw 33 (0, 0))) := by
    have := heap_alloc2_new (w.alloc (.cells (bw f) 33)) (.cells zw 33) (.cells zw 33)
    rw [World.size_alloc] at this
    exact this
  clear hal
  go_enter Tryd.func16, Tryd.ntmps16
  go_wp2_with (refine wpList_store_row rfl 33 _ _ rfl (w.heap.size + 1 + 1) (bw fun _ => false) rfl (congrArg Value.agg HN.out) 33 zw HAL.out (iW _) (by rw [HN.out]) (bw_one _) ?_)
  clear hz HAL
  generalize ((((w.alloc (.cells (bw f) 33)).alloc (.cells zw 33)).alloc (.cells zw 33)).setRow (w.heap.size + 1 + 1) (bw fun _ => false)) = W0 at *
  go_loopw [15] (fun i wr => ∃ k : Nat, k ≤ 32 ∧ i = .int .i64 (k : Int) ∧ TN w f (tkF (tnF f a b c sh) k) wr) (fun i _ => 32 - (intOf i).toNat)
  case atStart => exact ⟨0, by omega, rfl, by rw [tkF_zero]; exact HST.out⟩
  case round =>
    clear HST
    obtain ⟨k, hk, rfl, hW⟩ := hrel
    by_cases hlt : k < 32
    · have cell : ∀ p, p < 32 → wr.cell? ⟨w.heap.size, p, none⟩ = some (.bool (f p)) := fun p hp => by rw [cell_of_row _ _ _ _ _ _ hW.1, bw_at _ _ hp]
      have hf : wr.frozen? ⟨w.heap.size + 1 + 1, k, none⟩ = false := frozen_of_row _ _ _ _ _ hW.2.2.1
      have hc0 : wr.cell? ⟨w.heap.size + 1 + 1, k, none⟩ = some (.bool (tkF (tnF f a b c sh) k k)) := by rw [cell_of_row _ _ _ _ _ _ hW.2.2.1, bw_at _ _ hlt]
      have HS : Hid (∀ n v, v = tnF f a b c sh k → TN w f (tkF (tnF f a b c sh) (k + 1)) ((wr.drewN n).setCell ⟨w.heap.size + 1 + 1, k, none⟩ (.bool v))) := fun n v hv => by
        rw [hv]; exact ((hW.drewN n).store k _).congr (tkF_step _ k)
      have HV : Hid (tnF f a b c sh k = if (!sh || decide (c ≤ k)) = true then ((f ((k + 32 - a) % 32) != f ((k + 32 - b) % 32)) != f ((k + 32 - c) % 32)) else (f ((k + 32 - a) % 32) != f ((k + 32 - b) % 32))) := rfl
      have c1 := cell ((k + 32 - a) % 32) (Nat.mod_lt _ (by decide))
      have c2 := cell ((k + 32 - b) % 32) (Nat.mod_lt _ (by decide))
      have c3 := cell ((k + 32 - c) % 32) (Nat.mod_lt _ (by decide))
      have e0 : IntKind.i64.wrap ((k : Int) + 32) = (k : Int) + 32 := by rw [IntKind.wrap_i64]; omega
      have e1 : IntKind.i64.wrap ((k : Int) + 32 - (a : Int)) = (k : Int) + 32 - a := by rw [IntKind.wrap_i64]; omega
      have e2 : IntKind.i64.wrap ((k : Int) + 32 - (b : Int)) = (k : Int) + 32 - b := by rw [IntKind.wrap_i64]; omega
      have e3 : IntKind.i64.wrap ((k : Int) + 32 - (c : Int)) = (k : Int) + 32 - c := by rw [IntKind.wrap_i64]; omega
      have g1 : ((k : Int) + 32 - (a : Int)).tmod 32 = (((k + 32 - a) % 32 : Nat) : Int) := by rw [Int.tmod_eq_emod_of_nonneg (by omega)]; omega
      have g2 : ((k : Int) + 32 - (b : Int)).tmod 32 = (((k + 32 - b) % 32 : Nat) : Int) := by rw [Int.tmod_eq_emod_of_nonneg (by omega)]; omega
      have g3 : ((k : Int) + 32 - (c : Int)).tmod 32 = (((k + 32 - c) % 32 : Nat) : Int) := by rw [Int.tmod_eq_emod_of_nonneg (by omega)]; omega
      have l1 : (((k + 32 - a) % 32 : Nat) : Int) < 32 := by omega
      have l2 : (((k + 32 - b) % 32 : Nat) : Int) < 32 := by omega
      have l3 : (((k + 32 - c) % 32 : Nat) : Int) < 32 := by omega
      have n1 : (0 : Int) ≤ (((k + 32 - a) % 32 : Nat) : Int) := by omega
      have n2 : (0 : Int) ≤ (((k + 32 - b) % 32 : Nat) : Int) := by omega
      have n3 : (0 : Int) ≤ (((k + 32 - c) % 32 : Nat) : Int) := by omega
      clear cell hW
      generalize (k + 32 - a) % 32 = p at *
      generalize (k + 32 - b) % 32 = q at *
      generalize (k + 32 - c) % 32 = r at *
      go_wp2
      go_quiet (fail)
      cases sh with
      | false =>
        go_wp2
        go_roundw
        case rel => exact ⟨k + 1, by omega, by go_num, HS.out nq _ (by rw [HV.out]; simp [bne])⟩
        case measure => simp [intOf]; omega
      | true =>
        by_cases hck : c ≤ k
        · go_wp2
          go_roundw
          case rel => exact ⟨k + 1, by omega, by go_num, HS.out nq _ (by rw [HV.out]; simp [bne, hck])⟩
          case measure => simp [intOf]; omega
        · go_wp2
          go_roundw
          case rel => exact ⟨k + 1, by omega, by go_num, HS.out nq _ (by rw [HV.out]; simp [bne, hck])⟩
          case measure => simp [intOf]; omega
    · have hm32 : k = 32 := by omega
      subst hm32
      have HG1 : Hid _ := hW.2.2.1
      have HG0 : Hid _ := hW.2.1
      have HR : Hid ((wr.setRow (w.heap.size + 1) (bw (tkF (tnF f a b c sh) 32))).heap[w.heap.size + 1]? = some (.cells (bw (tkF (tnF f a b c sh) 32)) 33 (0, 0))) := setRow_heap _ _ _ _ _ _ hW.2.1
      have HB : Hid _ := below_setRow hW.2.2.2 (Nat.le_succ _) (bw (tkF (tnF f a b c sh) 32))
      have HE : Hid (_ = _) := tkF_end (tnF f a b c sh)
      clear hW
      go_wp2_with (first | refine wpList_load_row rfl 33 _ rfl (w.heap.size + 1 + 1) rfl 33 _ (0, 0) _ HG1.out Tryd.underlying33 rfl (iW _) ?_ | refine wpList_store_row rfl 33 _ _ rfl (w.heap.size + 1) (bw (tkF (tnF f a b c sh) 32)) rfl rfl 33 _ HG0.out (iW _) (oW _ _) (bw_one _) ?_ | exact bodyPost_ret (results_cell_row rfl _ _ (w.heap.size + 1) 33 (bw (tkF (tnF f a b c sh) 32)) (0, 0) _ rfl HR.out Tryd.underlying33 rfl (iW _)) rfl ⟨by rw [HE.out], HB.out⟩)
end Go.Proofs.YtlnagnkiadlfpaaDoor
