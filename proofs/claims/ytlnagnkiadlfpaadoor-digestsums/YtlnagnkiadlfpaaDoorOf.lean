/- Contract of the document's Of: a number as a word of bits. -/
import Derived.Test.YtlnagnkiadlfpaaDoorRows
import Derived.Test.YtlnagnkiadlfpaaDoorBase
import Derived.Test.YtlnagnkiadlfpaaDoorWordM
import Derived.Deep.WholeRow
import Derived.Laws.CopyOwn
namespace Go.Proofs.YtlnagnkiadlfpaaDoor
open Go.RowKit
set_option linter.unusedVariables false

def zw : Array Value := (List.replicate 32 (Value.bool false)).toArray
theorem Tryd.zeroW : (Tryd.prog.info? 33).map (fun i => (i.zero, i.size)) = some (some (.agg zw), 32) := by kernel_rfl
theorem Tryd.infoW : (Tryd.prog.info? 33).map (·.size) = some 32 := by kernel_rfl
theorem zw_bc : zw = bw fun _ => false := by
  unfold zw bw bl; rw [List.map_const']; simp
theorem iW (f : Nat → Bool) : (Tryd.prog.info? 33).map (·.size) = some (bw f).size := by rw [bw_size]; exact Tryd.infoW
theorem oW (f g : Nat → Bool) : (bw f).size = (bw g).size := by rw [bw_size, bw_size]
/-- Two blocks of a call: the result's (noughts) and the word's at hand. -/
def OW (w : World) (f : Nat → Bool) (wr : World) : Prop :=
  wr.heap[w.heap.size]? = some (.cells (bw fun _ => false) 33 (0, 0)) ∧ wr.heap[w.heap.size + 1]? = some (.cells (bw f) 33 (0, 0)) ∧ Below w.heap.size w wr
theorem OW.start (w : World) : OW w (fun _ => false) (((w.alloc (.cells zw 33)).alloc (.cells zw 33)).setRow (w.heap.size + 1) (bw fun _ => false)) := by
  rw [zw_bc]
  refine ⟨?_, setRow_heap _ _ _ _ _ _ (heap_alloc2_new w _ _), below_setRow (((Below.refl _ w).alloc (Nat.le_refl _) _).alloc (by simp) _) (Nat.le_succ _) _⟩
  rw [setRow_other _ _ _ _ (by omega)]; exact heap_alloc2_old w _ _
theorem OW.store {w wr : World} {f : Nat → Bool} (h : OW w f wr) (j : Nat) (v : Bool) : OW w (updB f j v) (wr.setCell ⟨w.heap.size + 1, j, none⟩ (.bool v)) := by
  refine ⟨?_, ?_, h.2.2.setCell (by simp) _⟩
  · rw [heap_setCell_other _ _ _ _ (by simp)]; exact h.1
  · rw [heap_setCell_same _ _ _ _ _ _ h.2.1, bw_upd]
theorem OW.congr {w wr : World} {f g : Nat → Bool} (h : OW w f wr) (e : bw f = bw g) : OW w g wr := ⟨h.1, by rw [← e]; exact h.2.1, h.2.2⟩

set_option maxRecDepth 100000 in
set_option maxHeartbeats 400000 in
theorem of_any (x : Nat) (w : World) (hx : x < 18446744073709551616) :
    Calls Tryd.prog 13 #[.int .u64 (x : Int)] w fun e w' => e = .returned (.agg (bw (bt x))) ∧ Below w.heap.size w w' := by
  have hz := (zero_of_info Tryd.zeroW).1
  have HST : Hid (OW _ _ _) := OW.start w
  have HN : Hid (_ = _) := zw_bc
  go_enter Tryd.func13, Tryd.ntmps13
  go_wp2_with (refine wpList_store_row rfl 33 _ _ rfl (w.heap.size + 1) (bw fun _ => false) rfl (congrArg Value.agg HN.out) 33 zw (heap_alloc2_new _ _ _) (iW _) (by rw [HN.out]) (bw_one _) ?_)
  clear hz
  generalize (((w.alloc (.cells zw 33)).alloc (.cells zw 33)).setRow (w.heap.size + 1) (bw fun _ => false)) = W0 at *
  go_loopw [0, 4] (fun v i wr => ∃ m : Nat, m ≤ 32 ∧ v = .int .u64 ((x / 2 ^ m : Nat) : Int) ∧ i = .int .i64 (31 - (m : Int)) ∧ OW w (ofF x m) wr) (fun _ i _ => (intOf i + 1).toNat)
  case atStart => exact ⟨0, by omega, by simp, rfl, by rw [ofF_zero]; exact HST.out⟩
  case round =>
    clear HST
    obtain ⟨m, hm, rfl, rfl, hW⟩ := hrel
    by_cases hlt : m < 32
    · have hc1 : wr.cell? ⟨w.heap.size + 1, 31 - m, none⟩ = some (.bool (ofF x m (31 - m))) := by
        rw [cell_of_row _ _ _ _ _ _ hW.2.1, bw_at _ _ (by omega)]
      have hf : wr.frozen? ⟨w.heap.size + 1, 31 - m, none⟩ = false := frozen_of_row _ _ _ _ _ hW.2.1
      have hle : x / 2 ^ m < 18446744073709551616 := Nat.lt_of_le_of_lt (Nat.div_le_self _ _) hx
      have HB : Hid (decide (x / 2 ^ m % 2 = 1) = x.testBit m) := half_bit x m
      have HS : Hid (OW _ _ _) := (hW.store (31 - m) (x.testBit m)).congr (ofF_step x m hlt)
      have HX : Hid (_ = _) := half_next x m
      have hi : (31 - (m : Int)).toNat = 31 - m := by omega
      have hi0 : (0 : Int) ≤ 31 - (m : Int) := by omega
      have hi1 : 31 - (m : Int) < 32 := by omega
      clear hW
      generalize x / 2 ^ m = y at *
      go_wp2
      refine ⟨⟨m + 1, by omega, by rw [← HX.out]; rfl, congrArg _ (by omega), ?_⟩, by simp [intOf]; omega⟩
      rw [int_bit, HB.out]; exact HS.out
    · have hm32 : m = 32 := by omega
      subst hm32
      have HG1 : Hid _ := hW.2.1
      have HG0 : Hid _ := hW.1
      have HR : Hid ((wr.setRow w.heap.size (bw (ofF x 32))).heap[w.heap.size]? = some (.cells (bw (ofF x 32)) 33 (0, 0))) := setRow_heap _ _ _ _ _ _ hW.1
      have HB : Hid _ := below_setRow hW.2.2 (Nat.le_refl _) (bw (ofF x 32))
      have HE : Hid (_ = _) := ofF_end x
      clear hW
      go_wp2_with (first | refine wpList_load_row rfl 33 _ rfl (w.heap.size + 1) rfl 33 _ (0, 0) _ HG1.out Tryd.underlying33 rfl (iW _) ?_ | refine wpList_store_row rfl 33 _ _ rfl w.heap.size (bw (ofF x 32)) rfl rfl 33 _ HG0.out (iW _) (oW _ _) (bw_one _) ?_ | exact bodyPost_ret (results_cell_row rfl _ _ w.heap.size 33 (bw (ofF x 32)) (0, 0) _ rfl HR.out Tryd.underlying33 rfl (iW _)) rfl ⟨by rw [HE.out], HB.out⟩)
end Go.Proofs.YtlnagnkiadlfpaaDoor
