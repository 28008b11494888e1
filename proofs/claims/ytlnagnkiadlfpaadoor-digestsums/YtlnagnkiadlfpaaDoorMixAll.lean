/- Contracts of digest.start and digest.mixAll. -/
import Derived.Test.YtlnagnkiadlfpaaDoorMix
import Derived.Test.YtlnagnkiadlfpaaDoorHashM
import Derived.Test.YtlnagnkiadlfpaaDoorSteps
namespace Go.Proofs.YtlnagnkiadlfpaaDoor
open Go.RowKit
attribute [local go_sem ↓] Go.wp_at_zero Go.wp_at_succ
set_option linter.unusedVariables false

theorem i8_of (s : S8) : (Tryd.prog.info? 42).map (·.size) = some (wl s.list).size := by rw [wl_size]; exact Tryd.info8
theorem o8_of (s t : S8) : (wl s.list).size = (wl t.list).size := by rw [wl_size, wl_size]; rfl
theorem z8_of (s : S8) : z8.size = (wl s.list).size := by unfold z8; rw [wl_size, wl_size]; rfl

set_option maxRecDepth 100000 in
set_option maxHeartbeats 400000 in
theorem start_any (w : World) : Calls Tryd.prog 30 #[] w fun e w' => e = .returned (.agg (wl iv.list)) ∧ Below w.heap.size w w' := by
  have hz := (zero_of_info Tryd.zero8).1
  have HI : Hid _ := i8_of iv
  have HO : Hid _ := z8_of iv
  have H1 : Hid _ := wl_one iv.list
  have HE : Hid ((#[.int .u32 1779033703, .int .u32 3144134277, .int .u32 1013904242, .int .u32 2773480762, .int .u32 1359893119, .int .u32 2600822924, .int .u32 528734635, .int .u32 1541459225] : Array Value) = wl iv.list) := rfl
  go_enter Tryd.func30, Tryd.ntmps30
  generalize wl iv.list = E at *
  go_wp2_with (first | refine wpList_store_row rfl 42 _ _ rfl w.heap.size E rfl (congrArg Value.agg HE.out) 42 _ (heap_alloc_new _ _) HI.out HO.out H1.out ?_ | exact bodyPost_ret (results_cell_row rfl _ _ w.heap.size 42 E (0, 0) _ rfl (setRow_heap _ _ _ _ _ _ (heap_alloc_new _ _)) Tryd.underlying42 rfl HI.out) rfl ⟨rfl, below_setRow ((Below.refl _ w).alloc (Nat.le_refl _) _) (Nat.le_refl _) _⟩)

/-- The blocks of a call of mixAll: the words so far, the result's; the roots. -/
def AW (w : World) (s : S8) (wr : World) : Prop :=
  wr.heap[w.heap.size]? = some (.cells (wl s.list) 42 (0, 0)) ∧ wr.heap[w.heap.size + 1]? = some (.cells z8 42 (0, 0)) ∧ Roots wr ∧ Below w.heap.size w wr
theorem AW.start (w : World) (s : S8) (hR : Roots w) : AW w s ((w.alloc (.cells (wl s.list) 42)).alloc (.cells z8 42)) :=
  ⟨heap_alloc2_old w _ _, heap_alloc2_new w _ _, hR.below (((Below.refl _ w).alloc (Nat.le_refl _) _).alloc (by simp) _), ((Below.refl _ w).alloc (Nat.le_refl _) _).alloc (by simp) _⟩
theorem AW.drew {w wr : World} {s : S8} (h : AW w s wr) : AW w s wr.drew := ⟨h.1, h.2.1, h.2.2.1, h.2.2.2.drew⟩
theorem AW.lt {w wr : World} {s : S8} (h : AW w s wr) : w.heap.size + 1 < wr.heap.size := by
  rcases Nat.lt_or_ge (w.heap.size + 1) wr.heap.size with hl | hl
  · exact hl
  · have := h.2.1; rw [Array.getElem?_eq_none hl] at this; cases this
theorem AW.below {w wr w1 : World} {s : S8} (h : AW w s wr) (hb : Below wr.heap.size wr w1) : AW w s w1 := by
  have hl := h.lt
  exact ⟨by rw [hb.block _ (by omega)]; exact h.1, by rw [hb.block _ (by omega)]; exact h.2.1, h.2.2.1.below hb, h.2.2.2.trans (hb.mono (by omega))⟩
theorem AW.set {w wr : World} {s : S8} (h : AW w s wr) (t : S8) (hp : 0 < w.heap.size) : AW w t (wr.setRow w.heap.size (wl t.list)) := by
  have hb := below_setRow h.2.2.2 (Nat.le_refl _) (wl t.list)
  refine ⟨setRow_heap _ _ _ _ _ _ h.1, by rw [setRow_other _ _ _ _ (by omega)]; exact h.2.1, ?_, hb⟩
  obtain ⟨t', fr, hr⟩ := h.2.2.1
  exact ⟨t', fr, by rw [setRow_other _ _ _ _ (by omega)]; exact hr⟩


theorem mix_wl (s0 : S8) (s : ByteArray) (w : World) (h0 : s0.ok) (hs : s.size = 64) (hR : Roots w) :
    Calls Tryd.prog 29 #[.agg (wl s0.list), .string s] w fun e w' => e = .returned (.agg (wl (mixN s0 s.data.toList).list)) ∧ Below w.heap.size w w' := mix_any s0 s w h0 hs hR
/-- The text that a value is. -/
def txOf : Value → ByteArray | .string t => t | _ => ByteArray.empty

set_option maxRecDepth 100000 in
set_option maxHeartbeats 1000000 in
theorem mixAll_any (s0 : S8) (s : ByteArray) (w : World) (h0 : s0.ok) (hs : s.size ≤ 140737488355328) (hR : Roots w) :
    Calls Tryd.prog 24 #[.agg (wl s0.list), .string s] w fun e w' => e = .returned (.tuple #[.agg (wl (mixL s0 s.data.toList).1.list), .string (tx (mixL s0 s.data.toList).2)]) ∧ Below w.heap.size w w' := by
  have hz := (zero_of_info Tryd.zero8).1
  have hpos := hR.pos
  have HST : Hid (AW _ _ _) := AW.start w s0 hR
  clear hR
  go_enter Tryd.func24, Tryd.ntmps24
  go_wp2
  clear hz
  go_loopw [1] (fun vs wr => ∃ (t : ByteArray) (st : S8), vs = .string t ∧ st.ok ∧ t.size ≤ s.size ∧ mixL st t.data.toList = mixL s0 s.data.toList ∧ AW w st wr) (fun vs _ => (txOf vs).size)
  case atStart => exact ⟨s, s0, rfl, h0, Nat.le_refl _, rfl, HST.out⟩
  case round =>
    clear HST
    obtain ⟨t, st, rfl, hok, hts, hm, hA⟩ := hrel
    by_cases hlt : 64 ≤ t.size
    · have hts' : t.size ≤ 140737488355328 := Nat.le_trans hts hs
      have h64 : (t.extract 0 64).size = 64 := by rw [← size_data, ext_data]; simp; omega
      have HM : Hid (mixL (mixN st (t.extract 0 64).data.toList) (t.extract 64 t.size).data.toList = mixL s0 s.data.toList) := by
        unfold Hid
        rw [← hm, mixL_step st _ (by exact hlt), ext_data, ext_data, List.take_of_length_le (l := t.data.toList.drop 64) (by simp)]
        simp
      have HS : Hid ((t.extract 64 t.size).size + 64 = t.size) := by
        unfold Hid; rw [← size_data, ext_data]; simp; omega
      have HA : Hid (AW w st wr) := hA
      have HTS : Hid (t.size ≤ s.size) := hts
      clear hm hA hts
      go_wp2
      refine wp_region_any (by kernel_rfl) ?_
      change wpAny _ _ _ _ _ _ _ (World.drew _)
      refine wpAny_take (i := 1) (v := .string t) rfl (by kernel_rfl) (by kernel_rfl) (by kernel_rfl) (fun _ _ _ h => h) (Or.inl ⟨by rfl, by intro w; go_simp⟩) ?_
      refine wpAny_take (i := 2) (v := .string (t.extract 0 64)) rfl (by kernel_rfl) (by kernel_rfl) (by kernel_rfl) (fun _ _ _ h => h) (Or.inl ⟨by rfl, by intro w; go_simp⟩) ?_
      refine wpAny_ready (rs := [0]) (by kernel_rfl) (by simp) ?_
      refine AllReady.cons rfl (fun K hK => ?_) AllReady.nil
      refine step_load_row rfl 42 _ rfl w.heap.size rfl 42 (wl st.list) (0, 0) _ HA.out.1 Tryd.underlying42 rfl (i8_of st) ?_
      refine hK _ _ ?_
      clear hK K
      change wpAny _ _ _ _ 2 _ ⟨#[.agg (wl s0.list), .string t, .pointer (some ⟨w.heap.size, 0, none⟩), undef, .pointer (some ⟨w.heap.size + 1, 0, none⟩), .string ⟨#[]⟩, .string t, .int .i64 t.size, _, .agg (wl st.list), .string t, .string (t.extract 0 64), u12, u13, u14, undef, undef], []⟩ _
      refine wpAny_ready (rs := [3]) (by kernel_rfl) (by simp) ?_
      refine AllReady.cons rfl (fun K hK => ?_) AllReady.nil
      go_simp
      refine (mix_wl st _ _ hok h64 HA.out.drew.2.2.1).mono ?_
      rintro e w1 ⟨rfl, hb1⟩
      refine hK _ _ ?_
      clear hK K
      have HA1 : Hid (AW w st w1) := HA.out.drew.below hb1
      have HA2 : Hid (AW w (mixN st (t.extract 0 64).data.toList) (w1.setRow w.heap.size (wl (mixN st (t.extract 0 64).data.toList).list))) := HA1.out.set _ hpos
      have HO : Hid _ := mixN_ok st (t.extract 0 64).data.toList
      clear hb1 HA hok
      generalize mixN st (t.extract 0 64).data.toList = M at *
      refine wpAny_ready (rs := [4]) (by kernel_rfl) (by simp) ?_
      refine AllReady.cons rfl (fun K hK => ?_) AllReady.nil
      refine step_store_row rfl 42 _ _ rfl w.heap.size (wl M.list) rfl rfl 42 (wl st.list) HA1.out.1 (i8_of M) (o8_of st M) (wl_one _) ?_
      refine hK _ _ ?_
      clear hK K
      refine wpAny_done (by kernel_rfl) ?_ _
      clear HA1
      generalize w1.setRow w.heap.size (wl M.list) = w2 at *
      go_wp2
      go_roundw
      case rel => exact ⟨t.extract 64 t.size, M, rfl, HO.out, by have := HS.out; have := HTS.out; omega, HM.out, HA2.out⟩
      case measure => have := HS.out; show (t.extract 64 t.size).size < t.size; omega
    · have HA : Hid (AW w st wr) := hA
      have HE : Hid (mixL s0 s.data.toList = (st, t.data.toList)) := by unfold Hid; rw [← hm]; exact mixL_end _ _ (by rw [size_data]; omega)
      have HI : Hid _ := i8_of st
      have HO : Hid _ := z8_of st
      have H1 : Hid _ := wl_one st.list
      have hts' : t.size ≤ 140737488355328 := Nat.le_trans hts hs
      clear hA hm hts
      go_wp2_with (first | refine wpList_load_row rfl 42 _ rfl w.heap.size rfl 42 _ (0, 0) _ HA.out.1 Tryd.underlying42 rfl HI.out ?_ | refine wpList_store_row rfl 42 _ _ rfl (w.heap.size + 1) (wl st.list) rfl rfl 42 _ HA.out.2.1 HI.out HO.out H1.out ?_)
      refine bodyPost_ret (results_row_tmp rfl _ _ (w.heap.size + 1) 42 (wl st.list) (0, 0) _ rfl (.string t) rfl (setRow_heap _ _ _ _ _ _ HA.out.2.1) Tryd.underlying42 rfl HI.out) rfl ⟨?_, below_setRow HA.out.2.2.2 (Nat.le_succ _) _⟩
      rw [HE.out]; rfl
end Go.Proofs.YtlnagnkiadlfpaaDoor
