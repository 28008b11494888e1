/- Contract of the document's add: a row of words, summed bit by bit. -/
import Derived.Test.YtlnagnkiadlfpaaDoorTurns
import Derived.Deep.MidRow
namespace Go.Proofs.YtlnagnkiadlfpaaDoor
open Go.RowKit
set_option linter.unusedVariables false

/-- A row of words in memory. -/
def WordsAt (w : World) (g : Nat) (xs : List Nat) : Prop := ∀ k, k < xs.length → w.rangeAt g (k * 32) (bl (bt (xs.getD k 0)))
theorem WordsAt.below {w w1 : World} {g : Nat} {xs : List Nat} (h : WordsAt w g xs) {B : Nat} (hb : Below B w w1) (hg : g < B) : WordsAt w1 g xs := fun k hk j v hv => by
  rw [World.cell?_of_block (hb.block g hg)]; exact h k hk j v hv
theorem WordsAt.drew {w : World} {g : Nat} {xs : List Nat} (h : WordsAt w g xs) : WordsAt w.drew g xs := h
/-- The blocks of a call: the result's, the sum's so far. -/
def AD (w : World) (f : Nat → Bool) (wr : World) : Prop :=
  wr.heap[w.heap.size]? = some (.cells (bw fun _ => false) 33 (0, 0)) ∧ wr.heap[w.heap.size + 1]? = some (.cells (bw f) 33 (0, 0)) ∧ Below w.heap.size w wr
theorem AD.start (w : World) : AD w (bt 0) (((w.alloc (.cells zw 33)).alloc (.cells zw 33)).setRow (w.heap.size + 1) (bw fun _ => false)) := by
  obtain ⟨h0, h1, h2⟩ := OW.start w
  exact ⟨h0, h1.trans (by rw [show (bw fun _ => false) = bw (bt 0) from bw_congr fun j hj => by simp [bt]]), h2⟩
theorem AD.lt {w wr : World} {f : Nat → Bool} (h : AD w f wr) : w.heap.size + 1 < wr.heap.size := by
  rcases Nat.lt_or_ge (w.heap.size + 1) wr.heap.size with hl | hl
  · exact hl
  · have := h.2.1; rw [Array.getElem?_eq_none hl] at this; cases this
/-- And, at D, the word that is added. -/
def AI (w : World) (D : Nat) (x : Nat → Bool) (f : Nat → Bool) (wr : World) : Prop := AD w f wr ∧ wr.heap[D]? = some (.cells (bw x) 33 (0, 0)) ∧ w.heap.size + 1 < D
theorem AD.word {w wr : World} {f : Nat → Bool} (h : AD w f wr) (x : Nat → Bool) : AI w wr.heap.size x f ((wr.alloc (.cells zw 33)).setRow wr.heap.size (bw x)) := by
  have hl := h.lt
  refine ⟨⟨?_, ?_, below_setRow (h.2.2.alloc (by omega) _) (by omega) _⟩, setRow_heap _ _ _ _ _ _ (heap_alloc_new _ _), hl⟩
  · rw [setRow_other _ _ _ _ (by omega), heap_alloc_old _ _ (by omega)]; exact h.1
  · rw [setRow_other _ _ _ _ (by omega), heap_alloc_old _ _ (by omega)]; exact h.2.1
theorem AI.store {w wr : World} {D : Nat} {x f : Nat → Bool} (h : AI w D x f wr) (j : Nat) (v : Bool) : AI w D x (updB f j v) (wr.setCell ⟨w.heap.size + 1, j, none⟩ (.bool v)) := by
  have hl := h.2.2
  refine ⟨⟨?_, ?_, h.1.2.2.setCell (by simp) _⟩, ?_, hl⟩
  · rw [heap_setCell_other _ _ _ _ (by simp)]; exact h.1.1
  · rw [heap_setCell_same _ _ _ _ _ _ h.1.2.1, bw_upd]
  · rw [heap_setCell_other _ _ _ _ (by simp; omega)]; exact h.2.1
theorem AI.congr {w wr : World} {D : Nat} {x f g : Nat → Bool} (h : AI w D x f wr) (e : bw f = bw g) : AI w D x g wr := ⟨⟨h.1.1, by rw [← e]; exact h.1.2.1, h.1.2.2⟩, h.2⟩
theorem AI.drewN {w wr : World} {D : Nat} {x f : Nat → Bool} (h : AI w D x f wr) (n : Nat) : AI w D x f (wr.drewN n) := ⟨⟨h.1.1, h.1.2.1, below_drewN h.1.2.2 n⟩, h.2⟩
theorem sumW_take (xs : List Nat) (k : Nat) (h : k < xs.length) : (sumW (xs.take k) + xs.getD k 0) % 4294967296 = sumW (xs.take (k + 1)) := by
  unfold sumW
  rw [List.take_add_one, List.getElem?_eq_getElem h, List.getD_eq_getElem?_getD, List.getElem?_eq_getElem h, List.foldl_append]
  rfl

set_option maxRecDepth 100000 in
set_option maxHeartbeats 2000000 in
theorem add_any (g cap : Nat) (xs : List Nat) (w : World) (hx : WordsAt w g xs) (hg : g < w.heap.size) (hn : xs.length ≤ 100) :
    Calls Tryd.prog 15 #[.slice (some ⟨g, 0, none⟩) xs.length cap] w fun e w' => e = .returned (.agg (bw (bt (sumW xs)))) ∧ Below w.heap.size w w' := by
  have hz := (zero_of_info Tryd.zeroW).1
  have HST : Hid (AD _ _ _) := AD.start w
  have HN : Hid (_ = _) := zw_bc
  have HX : Hid (WordsAt w g xs) := hx
  have hcl : Tryd.prog.cellsOf 33 = 32 := by kernel_rfl
  generalize hlen : xs.length = n at *
  have HL : Hid (xs.length = n) := hlen
  clear hx hlen
  go_enter Tryd.func15, Tryd.ntmps15
  go_wp2_with (refine wpList_store_row rfl 33 _ _ rfl (w.heap.size + 1) (bw fun _ => false) rfl (congrArg Value.agg HN.out) 33 zw (heap_alloc2_new _ _ _) (iW _) (by rw [HN.out]) (bw_one _) ?_)
  generalize (((w.alloc (.cells zw 33)).alloc (.cells zw 33)).setRow (w.heap.size + 1) (bw fun _ => false)) = W0 at *
  go_loopw [13] (fun i wr => ∃ k : Nat, k ≤ n ∧ i = .int .i64 (k : Int) ∧ AD w (bt (sumW (xs.take k))) wr) (fun i _ => n - (intOf i).toNat)
  case atStart => exact ⟨0, by omega, rfl, HST.out⟩
  case round =>
    clear HST
    obtain ⟨k, hk, rfl, hW⟩ := hrel
    by_cases hlt : k < n
    · have HW : Hid (AD w (bt (sumW (xs.take k))) wr) := hW
      have hSn := sumW_take xs k (by rw [HL.out]; exact hlt)
      have HR : Hid (wr.rangeAt g (k * 32) (bl (bt (xs.getD k 0)))) := (HX.out.below hW.2.2 hg) k (by rw [HL.out]; exact hlt)
      have HSN : Hid (_ = _) := hSn
      clear hSn hW
      generalize xs.getD k 0 = x at *
      generalize sumW (xs.take k) = s at *
      have hTy := Tryd.underlying33
      have HTy : Hid _ := hTy
      have HSI : Hid ((Tryd.prog.info? 33).map (·.size) = some (bl (bt x)).length) := by unfold Hid; rw [bl_len]; exact Tryd.infoW
      have HWD : Hid (AI w wr.heap.size (bt x) (bt s) ((wr.alloc (.cells zw 33)).setRow wr.heap.size (bw (bt x)))) := HW.out.word (bt x)
      clear hTy hcl
      go_wp2_with (first | refine wpList_load_mid rfl 33 _ rfl g (k * 32) rfl (bl (bt x)) _ HR.out HTy.out rfl HSI.out ?_ | refine wpList_store_row rfl 33 _ _ rfl wr.heap.size (bw (bt x)) rfl rfl 33 zw (heap_alloc_new _ _) (iW _) (by rw [HN.out]; exact oW _ _) (bw_one _) ?_)
      generalize ((wr.alloc (.cells zw 33)).setRow wr.heap.size (bw (bt x))) = W1 at *
      generalize wr.heap.size = D at *
      clear HW HR hz HSI
      go_loopw [6, 7] (fun c i wr => ∃ m : Nat, m ≤ 32 ∧ c = .bool (car s x m) ∧ i = .int .i64 (31 - (m : Int)) ∧ AI w D (bt x) (adF s x m) wr) (fun _ i _ => (intOf i + 1).toNat)
      case atStart => exact ⟨0, by omega, by rw [car_zero], rfl, HWD.out.congr (adF_zero s x)⟩
      case round =>
        clear HWD
        obtain ⟨m, hm, rfl, rfl, hW⟩ := hrel
        by_cases hm32 : m < 32
        · have c1 : wr.cell? ⟨w.heap.size + 1, 31 - m, none⟩ = some (.bool (s.testBit m)) := by
            rw [cell_of_row _ _ _ _ _ _ hW.1.2.1, bw_at _ _ (by omega), adF_at _ _ _ hm32]
          have c2 : wr.cell? ⟨D, 31 - m, none⟩ = some (.bool (x.testBit m)) := by
            rw [cell_of_row _ _ _ _ _ _ hW.2.1, bw_at _ _ (by omega)]; unfold bt; rw [show 31 - (31 - m) = m by omega]
          have hf : wr.frozen? ⟨w.heap.size + 1, 31 - m, none⟩ = false := frozen_of_row _ _ _ _ _ hW.1.2.1
          have HS : Hid (∀ n v, v = ((s.testBit m != x.testBit m) != car s x m) → AI w D (bt x) (adF s x (m + 1)) ((wr.drewN n).setCell ⟨w.heap.size + 1, 31 - m, none⟩ (.bool v))) := fun n v hv => by
            rw [hv]; exact ((hW.drewN n).store _ _).congr (adF_step s x m hm32)
          have HC : Hid (_ = _) := car_succ s x m
          have hi : (31 - (m : Int)).toNat = 31 - m := by omega
          have hi0 : (0 : Int) ≤ 31 - (m : Int) := by omega
          have hi1 : 31 - (m : Int) < 32 := by omega
          have hw1 : IntKind.i64.wrap (31 - (m : Int) - 1) = 31 - (m : Int) - 1 := by rw [IntKind.wrap_i64]; omega
          clear hW
          go_wp2
          go_quiet (fail)
          generalize s.testBit m = sb at *
          generalize x.testBit m = xb at *
          generalize car s x m = cb at *
          cases sb <;> cases xb <;> cases cb
          all_goals
            go_wp2
            refine ⟨⟨m + 1, by omega, by rw [HC.out]; rfl, congrArg _ (by omega), HS.out _ _ (by rfl)⟩, by simp [intOf]; omega⟩
        · have hme : m = 32 := by omega
          subst hme
          have HE : Hid (AD w (bt (sumW (xs.take (k + 1)))) wr) := by
            have := (hW.congr (adF_end s x)).1
            rw [HSN.out] at this
            exact this
          clear hW
          go_wp2
          go_roundw
          case rel => exact ⟨k + 1, by omega, by go_num, HE.out⟩
          case measure => simp [intOf]; omega
    · have hke : k = n := by omega
      subst hke
      have e1 : xs.take k = xs := by rw [← HL.out, List.take_length]
      rw [e1] at hW
      have HG1 : Hid (wr.heap[w.heap.size + 1]? = some (.cells (bw (bt (sumW xs))) 33 (0, 0))) := hW.2.1
      have HG0 : Hid (wr.heap[w.heap.size]? = some (.cells (bw fun _ => false) 33 (0, 0))) := hW.1
      have HR : Hid ((wr.setRow w.heap.size (bw (bt (sumW xs)))).heap[w.heap.size]? = some (.cells (bw (bt (sumW xs))) 33 (0, 0))) := setRow_heap _ _ _ _ _ _ hW.1
      have HB : Hid (Below w.heap.size w (wr.setRow w.heap.size (bw (bt (sumW xs))))) := below_setRow hW.2.2 (Nat.le_refl _) _
      clear hW hz
      generalize hF : bt (sumW xs) = F at HG1 HG0 HR HB
      have HF : Hid (bt (sumW xs) = F) := hF
      clear hF
      go_wp2_with (first | refine wpList_load_row rfl 33 _ rfl (w.heap.size + 1) rfl 33 _ (0, 0) _ HG1.out Tryd.underlying33 rfl (iW _) ?_ | refine wpList_store_row rfl 33 _ _ rfl w.heap.size (bw F) rfl rfl 33 _ HG0.out (iW _) (oW _ _) (bw_one _) ?_ | exact bodyPost_ret (results_cell_row rfl _ _ w.heap.size 33 (bw F) (0, 0) _ rfl HR.out Tryd.underlying33 rfl (iW _)) rfl ⟨by rw [HF.out], HB.out⟩)
end Go.Proofs.YtlnagnkiadlfpaaDoor
