/- A digest.Hash as it lies in memory, and the contracts of its two inner methods, mixed and pending. -/
import Derived.Test.YtlnagnkiadlfpaaDoorMixAll
import Derived.Lib.LazyBuf
namespace Go.Proofs.YtlnagnkiadlfpaaDoor
open Go.RowKit
attribute [local go_sem ↓] Go.wp_at_zero Go.wp_at_succ
set_option linter.unusedVariables false

/-- The cells of a Hash: eight words, 64 bytes, the size. -/
def hc (st : S8) (rs : List UInt8) (n : Nat) : List Value := st.list.map (fun x : Nat => Value.int .u32 (x : Int)) ++ (rs.map (fun x : UInt8 => Value.int .u8 (x.toNat : Int)) ++ [.int .u64 (n : Int)])
theorem hc_len (st : S8) (rs : List UInt8) (n : Nat) (h : rs.length = 64) : (hc st rs n).length = 73 := by simp [hc, S8.list, h]
theorem hc_word (st : S8) (rs : List UInt8) (n j : Nat) (hj : j < 8) : (hc st rs n)[j]? = (st.list.map (fun x : Nat => Value.int .u32 (x : Int)))[j]? := by
  unfold hc; rw [List.getElem?_append_left (by simpa [S8.list] using hj)]
theorem hc_byte (st : S8) (rs : List UInt8) (n j : Nat) (h : rs.length = 64) (hj : j < 64) : (hc st rs n)[8 + j]? = some (.int .u8 ((rs.getD j 0).toNat : Int)) := by
  unfold hc
  rw [List.getElem?_append_right (by simp [S8.list]), List.getElem?_append_left (by simp [S8.list]; omega)]
  simp [S8.list, List.getElem?_eq_getElem (show j < rs.length by omega)]
theorem hc_size (st : S8) (rs : List UInt8) (n : Nat) (h : rs.length = 64) : (hc st rs n)[72]? = some (.int .u64 (n : Int)) := by
  unfold hc
  rw [List.getElem?_append_right (by simp [S8.list]), List.getElem?_append_right (by simp [S8.list]; omega)]
  simp [S8.list, h]
/-- The Hash in block g: of the text t. -/
def HashIn (w : World) (g : Nat) (t : List UInt8) (st : S8) (rs : List UInt8) : Prop :=
  w.heap[g]? = some (.cells (hc st rs t.length).toArray 45 (0, 0)) ∧ rs.length = 64 ∧ (64 ≤ t.length → st = (mixL iv t).1) ∧ rs.take (t.length % 64) = (mixL iv t).2
def HashAt (w : World) (g : Nat) (t : List UInt8) : Prop := ∃ st rs, HashIn w g t st rs
theorem HashAt.drew {w : World} {g : Nat} {t : List UInt8} (h : HashAt w g t) : HashAt w.drew g t := h
theorem HashAt.lt {w : World} {g : Nat} {t : List UInt8} (h : HashAt w g t) : g < w.heap.size := by
  obtain ⟨st, rs, h, _⟩ := h
  rcases Nat.lt_or_ge g w.heap.size with hl | hl
  · exact hl
  · rw [Array.getElem?_eq_none hl] at h; cases h
theorem HashAt.below {w w' : World} {g : Nat} {t : List UInt8} (h : HashAt w g t) (hb : Below w.heap.size w w') : HashAt w' g t := by
  have hl := h.lt
  obtain ⟨st, rs, h, h'⟩ := h
  exact ⟨st, rs, by rw [hb.block g hl]; exact h, h'⟩
theorem HashIn.cell {w : World} {g : Nat} {t : List UInt8} {st : S8} {rs : List UInt8} (h : HashIn w g t st rs) (j : Nat) : w.cell? ⟨g, j, none⟩ = (hc st rs t.length)[j]? := by
  rw [cell_of_row _ _ _ _ _ _ h.1]; simp
theorem HashIn.size {w : World} {g : Nat} {t : List UInt8} {st : S8} {rs : List UInt8} (h : HashIn w g t st rs) : w.cell? ⟨g, 72, none⟩ = some (.int .u64 (t.length : Int)) := by
  rw [h.cell, hc_size _ _ _ h.2.1]
theorem HashIn.words {w : World} {g : Nat} {t : List UInt8} {st : S8} {rs : List UInt8} (h : HashIn w g t st rs) : w.rangeAt g 0 (st.list.map (fun x : Nat => Value.int .u32 (x : Int))) := fun j v hv => by
  have hj : j < 8 := by have := (List.getElem?_eq_some_iff.1 hv).1; simpa [S8.list] using this
  rw [Nat.zero_add, h.cell, hc_word _ _ _ _ hj, hv]
theorem mixL_few (t : List UInt8) (h : t.length < 64) : mixL iv t = (iv, t) := mixL_end _ _ h
theorem wl_eq (l : List Nat) : wl l = (l.map (fun x : Nat => Value.int .u32 (x : Int))).toArray := rfl

theorem new8 {w w1 : World} (hb1 : Below (w.alloc (.cells z8 42)).heap.size (w.alloc (.cells z8 42)) w1) : Hid (w1.heap[w.heap.size]? = some (.cells z8 42 (0, 0))) ∧ Hid (Below w.heap.size w w1) :=
  ⟨by show _ = _; rw [hb1.block w.heap.size (by rw [World.size_alloc]; omega)]; exact heap_alloc_new w _, ((Below.refl _ w).alloc (Nat.le_refl _) _).trans (hb1.mono (by rw [World.size_alloc]; omega))⟩

set_option maxRecDepth 100000 in
set_option maxHeartbeats 400000 in
theorem mixed_any (g : Nat) (t : List UInt8) (w : World) (hH : HashAt w g t) (ht : t.length ≤ 140737488355328) :
    Calls Tryd.prog 25 #[.pointer (some ⟨g, 0, none⟩)] w fun e w' => e = .returned (.agg (wl (mixL iv t).1.list)) ∧ Below w.heap.size w w' := by
  have hz := (zero_of_info Tryd.zero8).1
  have hgl := hH.lt
  obtain ⟨st, rs, hI⟩ := hH
  have hsz : (w.alloc (.cells z8 42)).cell? ⟨g, 72, none⟩ = some (.int .u64 (t.length : Int)) := by
    rw [World.cell?_alloc_lt _ _ _ hgl]; exact hI.size
  by_cases hlt : t.length < 64
  · have HI : Hid _ := i8_of iv
    have HO : Hid _ := z8_of iv
    have H1 : Hid _ := wl_one iv.list
    have HM : Hid ((mixL iv t).1 = iv) := congrArg Prod.fst (mixL_few t hlt)
    clear hI
    go_enter Tryd.func25, Tryd.ntmps25
    go_wp2_with (first | (go_at_call 30; refine (start_any _).mono ?_; rintro e w1 ⟨rfl, hb1⟩; obtain ⟨HZ1, HB1⟩ := new8 hb1) | refine wpList_store_row rfl 42 _ _ rfl w.heap.size (wl iv.list) rfl rfl 42 _ HZ1.out HI.out HO.out H1.out ?_ | exact bodyPost_ret (results_cell_row rfl _ _ w.heap.size 42 (wl iv.list) (0, 0) _ rfl (setRow_heap _ _ _ _ _ _ HZ1.out) Tryd.underlying42 rfl HI.out) rfl ⟨by rw [HM.out], below_setRow HB1.out (Nat.le_refl _) _⟩)
  · have hst : st = (mixL iv t).1 := hI.2.2.1 (by omega)
    have HI : Hid _ := i8_of st
    have HO : Hid _ := z8_of st
    have H1 : Hid _ := wl_one st.list
    have HR : Hid ((w.alloc (.cells z8 42)).rangeAt g 0 (st.list.map (fun x : Nat => Value.int .u32 (x : Int)))) := World.rangeAt_alloc hI.words _
    have HL : Hid ((Tryd.prog.info? 42).map (·.size) = some (st.list.map (fun x : Nat => Value.int .u32 (x : Int))).length) := Tryd.info8
    have HM : Hid ((mixL iv t).1 = st) := hst.symm
    clear hI hst
    go_enter Tryd.func25, Tryd.ntmps25
    go_wp2_with (first | refine wpList_load_mid rfl 42 _ rfl g 0 rfl _ _ HR.out Tryd.underlying42 rfl HL.out ?_ | refine wpList_store_row rfl 42 _ _ rfl w.heap.size (wl st.list) rfl rfl 42 _ (heap_alloc_new _ _) HI.out HO.out H1.out ?_ | exact bodyPost_ret (results_cell_row rfl _ _ w.heap.size 42 (wl st.list) (0, 0) _ rfl (setRow_heap _ _ _ _ _ _ (heap_alloc_new _ _)) Tryd.underlying42 rfl HI.out) rfl ⟨by rw [HM.out], below_setRow ((Below.refl _ w).alloc (Nat.le_refl _) _) (Nat.le_refl _) _⟩)

/-- The bytes at the front of a Hash's rest, as a text. -/
theorem pend_conv {w : World} {g : Nat} {t : List UInt8} {st : S8} {rs : List UInt8} (h : HashIn w g t st rs) (n : Nat) (hn : n = t.length % 64) :
    (convert 40 9 (.slice (some ⟨g, 8, none⟩) n 64)).run Tryd.prog w = .ok (.string (tx (mixL iv t).2)) w := by
  have hl : ((rs.take n).map fun x : UInt8 => (x.toNat : Int)).length = n := by simp; have := h.2.1; omega
  have := run_convert_bytes_arg (P := Tryd.prog) w 40 5 Tryd.underlying40 Tryd.underlying5 g 8 n 64 ((rs.take n).map fun x : UInt8 => (x.toNat : Int)) hl (fun i hi => by
    rw [h.cell, hc_byte _ _ _ _ h.2.1 (by omega)]
    simp [List.getD, List.getElem?_map, hi, List.getElem?_eq_getElem (show i < rs.length by have := h.2.1; omega)]) 9 Tryd.underlying9
  rw [this, ← h.2.2.2, ← hn]
  congr 2
  unfold strOfNums tx
  rw [List.map_map]
  have e : ((fun n : Int => UInt8.ofNat n.toNat) ∘ fun x : UInt8 => (x.toNat : Int)) = id := by funext x; simp
  rw [e, List.map_id]

set_option maxRecDepth 100000 in
set_option maxHeartbeats 400000 in
theorem pending_any (g : Nat) (t : List UInt8) (w : World) (hH : HashAt w g t) (ht : t.length ≤ 140737488355328) :
    Calls Tryd.prog 26 #[.pointer (some ⟨g, 0, none⟩)] w fun e w' => e = .returned (.string (tx (mixL iv t).2)) ∧ Below w.heap.size w w' := by
  obtain ⟨st, rs, hI⟩ := hH
  have hsz := hI.size
  have hcv : ∀ n, (convert 40 9 (.slice (some ⟨g, 8, none⟩) (t.length % 64) 64)).run Tryd.prog (w.drewN n) = .ok (.string (tx (mixL iv t).2)) (w.drewN n) := fun n => pend_conv (w := w.drewN n) hI (t.length % 64) rfl
  have t1 : (t.length : Int).tmod 64 = (t.length : Int) % 64 := Int.tmod_eq_emod_of_nonneg (by omega)
  have t2 : ((t.length : Int) % 64).toNat = t.length % 64 := by omega
  have t3 : (0 : Int) ≤ (t.length : Int) % 64 := by omega
  have t4 : (t.length : Int) % 64 ≤ 64 := by omega
  have t5 : t.length % 64 ≤ 64 := by omega
  go_enter Tryd.func26, Tryd.ntmps26
  go_wp2
  go_quiet (fail)
  go_wp2
  go_ret
  exact ⟨rfl, below_drewN (Below.refl _ _) _⟩
end Go.Proofs.YtlnagnkiadlfpaaDoor
