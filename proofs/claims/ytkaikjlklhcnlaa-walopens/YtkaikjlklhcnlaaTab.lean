/- Contracts of bits.shifted and bits.Table. -/
import Derived.Test.YtkaikjlklhcnlaaRows
import Derived.Test.YtkaikjlklhcnlaaBase
import Derived.Test.YtkaikjlklhcnlaaCrcM
import Derived.Deep.WholeRow
import Derived.Laws.CopyOwn
namespace Go.Proofs.Ytkaikjlklhcnlaa
open Go.RowKit
set_option linter.unusedVariables false

set_option maxHeartbeats 400000 in
theorem shifted_any (c : Nat) (w : World) (h : c < 4294967296) :
    Calls Try.prog 65 #[.int .u32 c] w fun e w' => e = .returned (.int .u32 (shf c)) ∧ w' = w := by
  have h1 := and1_u32 c h
  have h2 := shf_u32 c h
  by_cases hc : c % 2 = 1
  · have e : shf c = (c / 2) ^^^ 3988292384 := by unfold shf; rw [if_pos hc]
    rw [hc] at h1
    have E : Hid (_ = _) := e
    clear e hc
    go_enter Try.func65, Try.ntmps65
    go_wp2
    go_ret
    rw [E.out, ← h2]
    exact ⟨rfl, rfl⟩
  · have e : shf c = c / 2 := by unfold shf; rw [if_neg hc]
    have h1' : bits BinOp.and IntKind.u32 (c : Int) 1 = 0 := by rw [h1]; omega
    have E : Hid (_ = _) := e
    clear e hc h1
    go_enter Try.func65, Try.ntmps65
    go_wp2
    go_ret
    rw [E.out]
    exact ⟨rfl, rfl⟩

def zt : Array Value := (List.replicate 256 (Value.int .u32 0)).toArray
theorem Try.zeroT : (Try.prog.info? 96).map (fun i => (i.zero, i.size)) = some (some (.agg zt), 256) := by kernel_rfl
def tc (T : Nat → Nat) : Array Value := ((List.range 256).map fun j => Value.int .u32 (T j)).toArray
theorem Try.infoT : (Try.prog.info? 96).map (·.size) = some 256 := by kernel_rfl
theorem tc_size (T : Nat → Nat) : (tc T).size = 256 := by simp [tc]
theorem tc_zero : zt = tc fun _ => 0 := by
  have h : (List.replicate 256 (Value.int .u32 0)) = (List.range 256).map fun _ => Value.int .u32 0 := by rw [List.map_const']; simp
  unfold zt tc; rw [h]; rfl
theorem tc_at (T : Nat → Nat) (j : Nat) (h : j < 256) : (tc T)[j]? = some (.int .u32 (T j)) := by
  simp [tc, h]
theorem tc_upd (T : Nat → Nat) (i v : Nat) : (tc T).setIfInBounds i (.int .u32 v) = tc (upd T i v) := by
  apply Array.ext_getElem?
  intro j
  by_cases hj : j < 256
  · rw [tc_at _ _ hj, Array.getElem?_setIfInBounds, tc_at _ _ hj, tc_size]
    unfold upd
    by_cases e : i = j
    · subst e; simp [hj]
    · have e' : ¬ j = i := fun h => e h.symm
      simp [e, e']
  · rw [Array.getElem?_eq_none (by rw [Array.size_setIfInBounds, tc_size]; omega), Array.getElem?_eq_none (by rw [tc_size]; omega)]

theorem tc_one (T : Nat → Nat) : (tc T).all (·.oneCell') = true := by
  rw [Array.all_eq_true']
  intro v hv
  simp [tc] at hv
  obtain ⟨j, _, rfl⟩ := hv
  rfl

/-- The two blocks that the call makes: the result's (still noughts) and the table's. -/
def TW (w : World) (T : Nat → Nat) (wr : World) : Prop :=
  wr.heap[w.heap.size]? = some (.cells (tc fun _ => 0) 96 (0, 0)) ∧ wr.heap[w.heap.size + 1]? = some (.cells (tc T) 96 (0, 0)) ∧ Below w.heap.size w wr
theorem TW.start (w : World) : TW w (fun _ => 0) ((w.alloc (.cells zt 96)).alloc (.cells zt 96)) := by
  rw [tc_zero]
  exact ⟨heap_alloc2_old w _ _, heap_alloc2_new w _ _, ((Below.refl _ w).alloc (Nat.le_refl _) _).alloc (by simp) _⟩
theorem TW.store {w wr : World} {T : Nat → Nat} (h : TW w T wr) (j v : Nat) : TW w (upd T j v) (wr.setCell ⟨w.heap.size + 1, j, none⟩ (.int .u32 v)) := by
  refine ⟨?_, ?_, h.2.2.setCell (by simp) _⟩
  · rw [heap_setCell_other _ _ _ _ (by simp)]; exact h.1
  · rw [heap_setCell_same _ _ _ _ _ _ h.2.1, tc_upd]

set_option maxRecDepth 100000 in
set_option maxHeartbeats 400000 in
theorem table_any (w : World) :
    Calls Try.prog 60 #[] w fun e w' => e = .returned (.agg (tc ent)) ∧ Below w.heap.size w w' := by
  have hz := (zero_of_info Try.zeroT).1
  go_enter Try.func60, Try.ntmps60
  go_wp2
  clear hz
  have hst := TW.start w
  generalize (w.alloc (.cells zt 96)).alloc (.cells zt 96) = W0 at *
  go_loopw [2, 3] (fun c b wr => ∃ (m : Nat) (T : Nat → Nat), m ≤ 8 ∧ c = .int .u32 (cOf m) ∧ b = .int .i64 (2 ^ m / 2 : Nat) ∧ TabAt (2 ^ m) T ∧ TW w T wr)
    (fun _ b _ => (intOf b).toNat)
  case atStart => exact ⟨8, _, by omega, rfl, rfl, tabAt_start, hst⟩
  case round =>
    clear hst
    obtain ⟨m, T, hm, rfl, rfl, hT, hW⟩ := hrel
    cases m with
    | zero =>
      have hsz : (Try.prog.info? 96).map (·.size) = some (tc T).size := by rw [tc_size]; exact Try.infoT
      have hb2 : Below w.heap.size w (wr.setRow w.heap.size (tc T)) := below_setRow hW.2.2 (Nat.le_refl _) _
      have hgR : (wr.setRow w.heap.size (tc T)).heap[w.heap.size]? = some (.cells (tc T) 96 (0, 0)) := setRow_heap _ _ _ _ _ _ hW.1
      have hTE : tc T = tc ent := by
        apply Array.ext_getElem?
        intro j
        by_cases hj : j < 256
        · rw [tc_at _ _ hj, tc_at _ _ hj, hT j hj (by simp; omega)]
        · rw [Array.getElem?_eq_none (by rw [tc_size]; omega), Array.getElem?_eq_none (by rw [tc_size]; omega)]
      have HG1 : Hid _ := hW.2.1
      have HG0 : Hid _ := hW.1
      have HSZ : Hid _ := hsz
      have HTE : Hid _ := hTE
      have HR : Hid _ := hgR
      clear hsz hT hTE hgR hW
      rw [show ((2 ^ 0 / 2 : Nat) : Int) = 0 from rfl]
      generalize cOf 0 = c0
      go_wp2_with (first | refine wpList_load_row rfl 96 _ rfl (w.heap.size + 1) rfl 96 _ (0, 0) _ HG1.out Try.underlying96 rfl HSZ.out ?_ | refine wpList_store_row rfl 96 _ _ rfl w.heap.size (tc T) rfl rfl 96 _ HG0.out HSZ.out (by rw [tc_size, tc_size]) (tc_one T) ?_ | exact bodyPost_ret (results_cell_row rfl _ _ w.heap.size 96 (tc T) (0, 0) _ rfl HR.out Try.underlying96 rfl HSZ.out) rfl ⟨by rw [HTE.out], hb2⟩)
    | succ m =>
      have hd : 1 ≤ 2 ^ m ∧ 2 ^ m ≤ 128 := ⟨Nat.pow_pos (by decide), (Nat.pow_le_pow_right (by decide) (show m ≤ 7 by omega))⟩
      have e0 : 2 ^ (m + 1) / 2 = 2 ^ m := by rw [Nat.pow_succ]; omega
      have hS := cOf_shf m (by omega)
      have hl := cOf_lt (m + 1) hm
      obtain ⟨d, ed⟩ : ∃ d, d = 2 ^ m := ⟨_, rfl⟩
      rw [e0, ← ed]
      rw [← ed] at hd
      have HS : Hid (_ = _) := hS
      have ED : Hid (_ = _) := ed
      have HT : Hid _ := hT
      have HW : Hid _ := hW
      clear hS ed e0 hT hW
      go_wp2_with (go_at_call 65; refine (shifted_any _ _ (by omega)).mono ?_; rintro e w' ⟨rfl, rfl⟩)
      rw [HS.out]
      have hcl := cOf_lt m (by omega)
      go_loopw [4] (fun b wr => ∃ (i : Nat) (S : Nat → Nat), 2 ^ (m + 1) * i ≤ 256 ∧ b = .int .i64 (2 ^ (m + 1) * i : Nat) ∧ TabIn (2 ^ m) (2 ^ (m + 1) * i) S ∧ TW w S wr)
        (fun b _ => 256 - (intOf b).toNat)
      case atStart => exact ⟨0, T, by omega, rfl, tabIn_zero m T HT.out, HW.out⟩
      case round =>
        clear HT HW
        obtain ⟨i, S, hi, rfl, hS, hW⟩ := hrel
        by_cases hlt : 2 ^ (m + 1) * i < 256
        · obtain ⟨r1, r2, r3⟩ := pow_room m i (by omega) hlt
          have st := tabIn_step m i (by omega) S hlt hS
          have eb : 2 ^ (m + 1) * (i + 1) = 2 ^ (m + 1) * i + 2 * 2 ^ m := by rw [Nat.mul_add, Nat.pow_succ]; omega
          have sv : S (2 ^ (m + 1) * i) < 4294967296 := by
            rw [hS.1 _ hlt (by rw [Nat.pow_succ, Nat.mul_comm (2 ^ m) 2]; simp)]
            exact ent_lt _ (by omega)
          have e3 : 2 ^ (m + 1) * i + 2 * d = 2 ^ (m + 1) * (i + 1) := by rw [eb, ED.out]
          have r1' : 2 ^ (m + 1) * i + d < 256 := by rw [ED.out]; exact r1
          have hx := u32_xor_nat (S (2 ^ (m + 1) * i)) (cOf m) sv hcl
          have hc1 : wr.cell? ⟨w.heap.size + 1, 2 ^ (m + 1) * i, none⟩ = some (.int .u32 (S (2 ^ (m + 1) * i))) := by
            rw [cell_of_row _ _ _ _ _ _ hW.2.1, tc_at _ _ hlt]
          have hc2 : wr.cell? ⟨w.heap.size + 1, 2 ^ (m + 1) * i + d, none⟩ = some (.int .u32 (S (2 ^ (m + 1) * i + d))) := by
            rw [cell_of_row _ _ _ _ _ _ hW.2.1, tc_at _ _ r1']
          have hf2 : wr.frozen? ⟨w.heap.size + 1, 2 ^ (m + 1) * i + d, none⟩ = false := frozen_of_row _ _ _ _ _ hW.2.1
          have st2 := hW.store (2 ^ (m + 1) * i + d) (S (2 ^ (m + 1) * i) ^^^ cOf m)
          have E3 : Hid _ := e3
          have HST : Hid (TabIn _ _ _) := st
          have R2 : Hid (_ ≤ _) := r2
          have HS2 : Hid (TW _ _ _) := st2
          clear e3 st st2 eb sv hS r1 r2 r3 hi hW
          generalize hB : 2 ^ (m + 1) * i = B at *
          have HB : Hid _ := hB
          clear hB
          generalize hC : cOf m = C at *
          have HC : Hid _ := hC
          clear hC
          go_wp2
          go_roundw
          case rel =>
            refine ⟨i + 1, _, R2.out, ?_, HST.out, ?_⟩
            · rw [← E3.out]; rfl
            · rw [← ED.out]; exact HS2.out
          case measure => simp [intOf]; omega
        · have he := pow_all m i (by omega) hlt hi
          rw [he]
          have hE := tabIn_end m S (by rw [← he]; exact hS)
          have HE : Hid (TabAt _ _) := hE
          have HW : Hid (TW _ _ _) := hW
          clear hE hW hS he hlt hi
          have hm' : Hid (m + 1 ≤ 8) := hm
          generalize hC : cOf m = C at *
          have HC : Hid _ := hC
          clear hC hm
          go_wp2
          go_roundw
          case rel => exact ⟨m, S, by have := hm'.out; omega, by rw [HC.out], by rw [← ED.out]; rfl, HE.out, HW.out⟩
          case measure => simp [intOf]; omega
end Go.Proofs.Ytkaikjlklhcnlaa
