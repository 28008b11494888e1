/- Contract of digest.schedule: a word for each round. -/
import Derived.Test.YtlnagnkiadlfpaaDoorRor
import Derived.Deep.WholeRow
import Derived.Laws.CopyOwn
import Derived.Deep.RegionHeld
import Derived.Deep.QuietTactic
import Derived.BigQuiet
import Derived.Deep.DrawnRows
namespace Go.Proofs.YtlnagnkiadlfpaaDoor
open Go.RowKit
attribute [local go_sem ↓] Go.wp_at_zero Go.wp_at_succ
set_option linter.unusedVariables false

def z64 : Array Value := wl (List.replicate 64 0)
theorem Tryd.zero64 : (Tryd.prog.info? 62).map (fun i => (i.zero, i.size)) = some (some (.agg z64), 64) := by kernel_rfl
theorem Tryd.info64 : (Tryd.prog.info? 62).map (·.size) = some 64 := by kernel_rfl
/-- The two blocks of the call: the result's, and the words'. -/
def SW (w : World) (l : List Nat) (wr : World) : Prop :=
  wr.heap[w.heap.size]? = some (.cells z64 62 (0, 0)) ∧ wr.heap[w.heap.size + 1]? = some (.cells (wl l) 62 (0, 0)) ∧ Below w.heap.size w wr
theorem SW.start (w : World) : SW w (List.replicate 64 0) ((w.alloc (.cells z64 62)).alloc (.cells z64 62)) :=
  ⟨heap_alloc2_old w _ _, heap_alloc2_new w _ _, ((Below.refl _ w).alloc (Nat.le_refl _) _).alloc (by simp) _⟩
theorem SW.store {w wr : World} {l : List Nat} (h : SW w l wr) (j v : Nat) : SW w (l.set j v) (wr.setCell ⟨w.heap.size + 1, j, none⟩ (.int .u32 (v : Int))) := by
  refine ⟨?_, ?_, h.2.2.setCell (by simp) _⟩
  · rw [heap_setCell_other _ _ _ _ (by simp)]; exact h.1
  · rw [heap_setCell_same _ _ _ _ _ _ h.2.1, wl_set]
theorem SW.cell {w wr : World} {l : List Nat} (h : SW w l wr) {j : Nat} (hj : j < l.length) : wr.cell? ⟨w.heap.size + 1, j, none⟩ = some (.int .u32 (l.getD j 0 : Int)) := by
  rw [cell_of_row _ _ _ _ _ _ h.2.1, wl_at l j hj]
theorem SW.free {w wr : World} {l : List Nat} (h : SW w l wr) (j : Nat) : wr.frozen? ⟨w.heap.size + 1, j, none⟩ = false := frozen_of_row _ _ _ _ _ h.2.1
theorem SW.drew {w wr : World} {l : List Nat} (h : SW w l wr) : SW w l wr.drew := ⟨h.1, h.2.1, h.2.2.drew⟩

theorem SW.drewN {w wr : World} {l : List Nat} (h : SW w l wr) (n : Nat) : SW w l (wr.drewN n) := ⟨h.1, h.2.1, below_drewN h.2.2 n⟩

set_option maxRecDepth 100000 in
set_option maxHeartbeats 1000000 in
theorem schedule_any (s : ByteArray) (w : World) (hs : s.size = 64) :
    Calls Tryd.prog 32 #[.string s] w fun e w' => e = .returned (.agg (wl (sched s.data.toList))) ∧ Below w.heap.size w w' := by
  have hz := (zero_of_info Tryd.zero64).1
  go_enter Tryd.func32, Tryd.ntmps32
  go_wp2
  clear hz
  have hst := SW.start w
  generalize (w.alloc (.cells z64 62)).alloc (.cells z64 62) = W0 at *
  go_loopw [10] (fun i wr => ∃ k : Nat, k ≤ 64 ∧ i = .int .i64 k ∧ SW w (loadB s.data.toList k) wr) (fun i _ => 64 - (intOf i).toNat)
  case atStart => exact ⟨0, by omega, rfl, hst⟩
  case round =>
    clear hst
    obtain ⟨k, hk, rfl, hW⟩ := hrel
    by_cases hlt : k < 64
    · have hl := loadB_len s.data.toList k
      have hc := hW.cell (j := k / 4) (by omega)
      have hf := hW.free (k / 4)
      have hsm := (loadB_small s.data.toList k).getD (k / 4)
      have hks : k < s.size := by omega
      have hb : s[k].toNat < 256 := s[k].toNat_lt
      have e0 : (s.data.toList.getD k 0).toNat = s[k].toNat := by
        rw [List.getD_eq_getElem?_getD, List.getElem?_eq_getElem (by simpa using hks)]; rfl
      have hst := hW.store (k / 4) (((loadB s.data.toList k).getD (k / 4) 0 * 256 % 4294967296) ||| s[k].toNat)
      have HST : Hid (SW w (loadB s.data.toList (k + 1)) (wr.setCell ⟨w.heap.size + 1, k / 4, none⟩ (.int .u32 ((((loadB s.data.toList k).getD (k / 4) 0 * 256 % 4294967296) ||| s[k].toNat : Nat) : Int)))) := by
        unfold Hid; rw [loadB, e0]; exact hst
      have HW : Hid (SW _ _ _) := hW
      generalize (loadB s.data.toList k).getD (k / 4) 0 = V at *
      have ho : bits BinOp.or IntKind.u32 ((V : Int) * 256 % 4294967296) (s[k].toNat : Int) = (((V * 256 % 4294967296) ||| s[k].toNat : Nat) : Int) := u32_or_nat (V * 256 % 4294967296) s[k].toNat (Nat.mod_lt _ (by decide)) (by omega)
      have i0 : (0 : Int) ≤ (k : Int) / 4 := by omega
      have i1 : (k : Int) / 4 < 64 := by omega
      have i2 : (0 : Int) ≤ (k : Int) := by omega
      have i3 : (k : Int) < (s.size : Int) := by omega
      have t1 : (k : Int).tdiv 4 = (k : Int) / 4 := Int.tdiv_eq_ediv_of_nonneg (by omega)
      have t2 : IntKind.i64.wrap ((k : Int) / 4) = (k : Int) / 4 := by rw [IntKind.wrap_i64]; omega
      have t3 : ((k : Int) / 4).toNat = k / 4 := by omega
      clear hW hst e0 hs hl
      go_wp2
      have t4 : IntKind.u32.wrap ((V : Int) * 256) = (V : Int) * 256 % 4294967296 := IntKind.wrap_u32 _
      have t5 : IntKind.u32.wrap (s[k].toNat : Int) = (s[k].toNat : Int) := by rw [IntKind.wrap_u32]; omega
      go_region
      have HD : Hid (SW _ _ _) := HST.out.drew
      clear HST HW hc hf
      go_wp2
      go_roundw
      case rel => exact ⟨k + 1, by omega, by go_num, HD.out⟩
      case measure => simp [intOf]; omega
    · obtain rfl : k = 64 := by omega
      have HW : Hid (SW w (expand s.data.toList 0) wr) := hW
      clear hW
      go_wp2
      go_loopw [5] (fun i wr => ∃ n : Nat, 16 ≤ n ∧ n ≤ 64 ∧ i = .int .i64 (n : Int) ∧ SW w (expand s.data.toList (n - 16)) wr) (fun i _ => 64 - (intOf i).toNat)
      case atStart => exact ⟨16, by omega, by omega, rfl, HW.out⟩
      case round =>
        clear HW
        obtain ⟨n, h16, h64, rfl, hW⟩ := hrel
        by_cases hlt : n < 64
        · have hl := expand_len s.data.toList (n - 16)
          have sm := expand_small s.data.toList (n - 16)
          have c1 := hW.cell (j := n - 15) (by omega)
          have c2 := hW.cell (j := n - 2) (by omega)
          have c3 := hW.cell (j := n - 16) (by omega)
          have c4 := hW.cell (j := n - 7) (by omega)
          have hf := hW.free n
          have c5 := hW.cell (j := n) (by omega)
          have HE : Hid (expand s.data.toList (n + 1 - 16) = (expand s.data.toList (n - 16)).set n (wnext (expand s.data.toList (n - 16)) n)) := by
            unfold Hid; rw [show n + 1 - 16 = (n - 16) + 1 by omega, expand, show 16 + (n - 16) = n by omega]
          have HW : Hid (SW _ _ _) := hW
          have HWN : Hid (_ = _) := wnext_eq (expand s.data.toList (n - 16)) n
          have a1 := sm.getD (n - 15)
          have a2 := sm.getD (n - 2)
          clear hW sm hl
          generalize (expand s.data.toList (n - 16)).getD (n - 15) 0 = x at *
          generalize (expand s.data.toList (n - 16)).getD (n - 2) 0 = y at *
          generalize (expand s.data.toList (n - 16)).getD (n - 16) 0 = p at *
          generalize (expand s.data.toList (n - 16)).getD (n - 7) 0 = q at *
          have x1 := u32_xor_nat (ror x 7) (ror x 18) (ror_lt _ _ a1) (ror_lt _ _ a1)
          have x2 : bits BinOp.xor IntKind.u32 ((ror x 7 ^^^ ror x 18 : Nat) : Int) ((x : Int) / 8) = (sg0 x : Int) := u32_xor_nat (ror x 7 ^^^ ror x 18) (x / 8) (xor_lt32 (ror_lt _ _ a1) (ror_lt _ _ a1)) (div_lt32 _ a1)
          have y1 := u32_xor_nat (ror y 17) (ror y 19) (ror_lt _ _ a2) (ror_lt _ _ a2)
          have y2 : bits BinOp.xor IntKind.u32 ((ror y 17 ^^^ ror y 19 : Nat) : Int) ((y : Int) / 1024) = (sg1 y : Int) := u32_xor_nat (ror y 17 ^^^ ror y 19) (y / 1024) (xor_lt32 (ror_lt _ _ a2) (ror_lt _ _ a2)) (div_lt32 _ a2)
          have e1 := wrap32_sum p (sg0 x)
          have e2 := wrap32_sum ((p + sg0 x) % 4294967296) q
          have e3 := wrap32_sum (((p + sg0 x) % 4294967296 + q) % 4294967296) (sg1 y)
          rw [← HWN.out] at e3
          generalize (p + sg0 x) % 4294967296 = A1 at *
          generalize (A1 + q) % 4294967296 = A2 at *
          generalize wnext (expand s.data.toList (n - 16)) n = A3 at *
          have t1 : IntKind.i64.wrap ((n : Int) - 15) = (n : Int) - 15 := by rw [IntKind.wrap_i64]; omega
          have t2 : IntKind.i64.wrap ((n : Int) - 2) = (n : Int) - 2 := by rw [IntKind.wrap_i64]; omega
          have t3 : IntKind.i64.wrap ((n : Int) - 16) = (n : Int) - 16 := by rw [IntKind.wrap_i64]; omega
          have t4 : IntKind.i64.wrap ((n : Int) - 7) = (n : Int) - 7 := by rw [IntKind.wrap_i64]; omega
          have u1 : ((n : Int) - 15).toNat = n - 15 := by omega
          have u2' : ((n : Int) - 2).toNat = n - 2 := by omega
          have u3' : ((n : Int) - 16).toNat = n - 16 := by omega
          have u4' : ((n : Int) - 7).toNat = n - 7 := by omega
          have v1 : (0 : Int) ≤ (n : Int) - 15 := by omega
          have v2 : (0 : Int) ≤ (n : Int) - 2 := by omega
          have v3 : (0 : Int) ≤ (n : Int) - 16 := by omega
          have v4 : (0 : Int) ≤ (n : Int) - 7 := by omega
          have v5 : (n : Int) - 15 < 64 := by omega
          have v6 : (n : Int) - 2 < 64 := by omega
          have v7 : (n : Int) - 16 < 64 := by omega
          have v8 : (n : Int) - 7 < 64 := by omega
          have v9 : (n : Int) < 64 := by omega
          go_wp2
          go_quiet (fail)
          go_wp2_with (go_at_call 33; refine (right_any _ _ _ (by assumption) (by decide) (by decide)).mono ?_; rintro e w3 ⟨rfl, rfl⟩)
          have HS : Hid (∀ m, SW w (expand s.data.toList (n + 1 - 16)) ((wr.setCell ⟨w.heap.size + 1, n, none⟩ (.int .u32 (A3 : Int))).drewN m)) := by
            intro m; rw [HE.out]; exact (HW.out.store n A3).drewN m
          have u5' : ((n : Int)).toNat = n := by omega
          have v0 : (0 : Int) ≤ (n : Int) := by omega
          go_region
          clear c1 c2 c3 c4 c5 hf
          go_wp2
          go_roundw
          case rel => first | exact ⟨n + 1, by omega, by omega, by go_num, HS.out _⟩ | ((repeat apply Exists.intro); exact ⟨⟨n + 1, by omega, by omega, by go_num, HS.out _⟩, rfl⟩)
          case measure => simp [intOf]; omega
        · obtain rfl : n = 64 := by omega
          have hsz : (Tryd.prog.info? 62).map (·.size) = some (wl (expand s.data.toList (64 - 16))).size := by rw [wl_size, expand_len]; exact Tryd.info64
          have hb2 : Below w.heap.size w (wr.setRow w.heap.size (wl (expand s.data.toList (64 - 16)))) := below_setRow hW.2.2 (Nat.le_refl _) _
          have hgR : (wr.setRow w.heap.size (wl (expand s.data.toList (64 - 16)))).heap[w.heap.size]? = some (.cells (wl (expand s.data.toList (64 - 16))) 62 (0, 0)) := setRow_heap _ _ _ _ _ _ hW.1
          have hold : z64.size = (wl (expand s.data.toList (64 - 16))).size := by unfold z64; rw [wl_size, wl_size, expand_len]; simp
          have H1 : Hid (wl (expand s.data.toList (64 - 16)) = wl (sched s.data.toList)) := congrArg (fun k => wl (expand s.data.toList k)) (show 64 - 16 = 48 by decide)
          have hone := wl_one (expand s.data.toList (64 - 16))
          have hg1 : wr.heap[w.heap.size + 1]? = some (.cells (wl (expand s.data.toList (64 - 16))) 62 (0, 0)) := hW.2.1
          have HG0 : Hid _ := hW.1
          clear hW
          generalize wl (expand s.data.toList (64 - 16)) = E at *
          have HG1 : Hid _ := hg1
          have HSZ : Hid _ := hsz
          have HR : Hid _ := hgR
          have HON : Hid _ := hone
          clear hsz hgR hg1 hone
          go_wp2_with (first | refine wpList_load_row rfl 62 _ rfl (w.heap.size + 1) rfl 62 _ (0, 0) _ HG1.out Tryd.underlying62 rfl HSZ.out ?_ | refine wpList_store_row rfl 62 _ _ rfl w.heap.size E rfl rfl 62 _ HG0.out HSZ.out hold HON.out ?_ | exact bodyPost_ret (results_cell_row rfl _ _ w.heap.size 62 E (0, 0) _ rfl HR.out Tryd.underlying62 rfl HSZ.out) rfl ⟨by rw [H1.out], hb2⟩)
end Go.Proofs.YtlnagnkiadlfpaaDoor
