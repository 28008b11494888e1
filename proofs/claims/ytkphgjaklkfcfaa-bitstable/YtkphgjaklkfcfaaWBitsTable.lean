/- The walk of the law BitsTable: it returns true at every input. -/
import Derived.Test.YtkphgjaklkfcfaaAwake
import Derived.Test.YtkphgjaklkfcfaaEntry
import Derived.Deep.RegionHeld
import Derived.Deep.QuietTactic
import Derived.BigQuiet
import Derived.Deep.DrawnRows
namespace Go.Proofs.Ytkphgjaklkfcfaa
open Go.RowKit
attribute [local go_sem ↓] Go.wp_at_zero Go.wp_at_succ
set_option linter.unusedVariables false

/-- The law's own table lies in block g. -/
def HasTab (w : World) (g : Nat) (wr : World) : Prop := wr.heap[g]? = some (.cells (tc ent) 40 (0, 0)) ∧ Below w.heap.size w wr
theorem HasTab.cell {w wr : World} {g : Nat} (h : HasTab w g wr) {j : Nat} (hj : j < 256) : wr.cell? ⟨g, j, none⟩ = some (.int .u32 (ent j)) := by rw [cell_of_row _ _ _ _ _ _ h.1, tc_at _ _ hj]
theorem heap_drewN (w : World) : ∀ n, (w.drewN n).heap = w.heap
  | 0 => rfl
  | n + 1 => heap_drewN w.drew n
theorem HasTab.drewN {w wr : World} {g : Nat} (h : HasTab w g wr) (n : Nat) : HasTab w g (wr.drewN n) := by
  exact ⟨by rw [heap_drewN]; exact h.1, below_drewN h.2 n⟩
theorem HasTab.below {w wr w1 : World} {g : Nat} (h : HasTab w g wr) (hw : w.heap.size ≤ wr.heap.size) (k : Below wr.heap.size wr w1) : HasTab w g w1 := by
  have hg : g < wr.heap.size := by
    rcases Nat.lt_or_ge g wr.heap.size with hl | hl
    · exact hl
    · have := h.1; rw [Array.getElem?_eq_none hl] at this; cases this
  exact ⟨by rw [k.block g hg]; exact h.1, h.2.trans (k.mono hw)⟩

theorem HasTab.lt {w wr : World} {g : Nat} (h : HasTab w g wr) : g < wr.heap.size := by
  rcases Nat.lt_or_ge g wr.heap.size with hl | hl
  · exact hl
  · have := h.1; rw [Array.getElem?_eq_none hl] at this; cases this
theorem crc_one (c x : Nat) (hc : c < 4294967296) (hx : x < 256) (W : World) :
    Calls Try.prog 26 #[.int .u32 ((4294967295 - c : Nat) : Int), .string (bs [x])] W fun e w' => e = .returned (.int .u32 ((4294967295 - crcStep c x : Nat) : Int)) ∧ Below W.heap.size W w' := by
  have h := crc_any ((4294967295 - c : Nat) : Int) (bs [x]) W (by omega) (by omega) (by simp [bs, strOfNums, ByteArray.size])
  rw [Int.toNat_natCast] at h
  have e : crcV (4294967295 - c) (bs [x]).data.toList = 4294967295 - crcStep c x := by
    have e1 : (bs [x]).data.toList = [UInt8.ofNat x] := by simp [bs, strOfNums]
    have e2 : (UInt8.ofNat x).toNat = x := by rw [UInt8.toNat_ofNat']; exact Nat.mod_eq_of_lt hx
    rw [e1]; unfold crcV crcF
    rw [show 4294967295 - (4294967295 - c) = c by omega]
    simp only [List.foldl_cons, List.foldl_nil, e2]
  rw [e] at h
  exact h
theorem conv_one (x : Nat) (hx : x < 256) (W : World) : (convert 43 9 (.slice (some ⟨W.heap.size, 0, none⟩) 1 1)).run Try.prog (W.alloc (.cells #[.int .u8 x] 5)) = .ok (.string (bs [x])) (W.alloc (.cells #[.int .u8 x] 5)) :=
  conv_bs (base := W.heap.size) (n := 1) (l := [x]) Try.underlying43 Try.underlying5 Try.underlying9 (World.ownsRow_lit W #[.int .u8 x] 1 (Nat.le_refl _) (by decide) rfl)

theorem tab_after {wr w2 : World} {a : Addr} {v : Value} (h : wr.cell? a = some v) (hg : a.block < wr.heap.size) (hb : Below wr.drew.heap.size wr.drew w2) :
    w2.cell? a = some v ∧ (∀ o, (w2.alloc o).cell? a = some v) ∧ a.block < w2.heap.size := by
  have h2 : w2.cell? a = some v := by rw [hb.cell (p := a) hg]; exact h
  have hl : a.block < w2.heap.size := Nat.lt_of_lt_of_le hg hb.size
  exact ⟨h2, fun o => by rw [((Below.refl _ w2).alloc (Nat.le_refl _) o).cell (p := a) hl]; exact h2, hl⟩
theorem tab_last {W w3 : World} {a : Addr} {v : Value} (h : ∀ o, (W.alloc o).cell? a = some v) {o : Obj} (hb : Below (W.alloc o).heap.size (W.alloc o) w3) : w3.cell? a = some v := by
  have h1 := h o
  rw [hb.cell (p := a) (block_lt_of_cell h1)]; exact h1

set_option maxRecDepth 100000 in
set_option maxHeartbeats 1000000 in
theorem lawBitsTable_walk (c x : Int) (w : World) (hc : 0 ≤ c ∧ c ≤ 4294967295) (hx : 0 ≤ x ∧ x ≤ 255) :
    Calls Try.prog 7 #[.int .u32 c, .int .u8 x] w fun e w' => e = .returned (.bool true) ∧ Below w.heap.size w w' := by
  obtain ⟨hc0, hc1⟩ := hc
  obtain ⟨hx0, hx1⟩ := hx
  obtain ⟨c, rfl⟩ := Int.eq_ofNat_of_zero_le hc0
  obtain ⟨x, rfl⟩ := Int.eq_ofNat_of_zero_le hx0
  have hc : c < 4294967296 := by omega
  have hx : x < 256 := by omega
  clear hc0 hc1 hx0 hx1
  have hz := (zero_of_info Try.zeroT).1
  have hsz : Hid ((Try.prog.info? 40).map (·.size) = some (tc ent).size) := by rw [tc_size]; exact Try.infoT
  go_enter Try.func7, Try.ntmps7
  go_wp2_with (first | (go_at_call 27; refine (table_any _).mono ?_; rintro e w1 ⟨rfl, hb1⟩) | refine wpList_store_row rfl 40 _ _ rfl _ (tc ent) rfl rfl 40 _ (heap_alloc_new _ _) hsz.out (by rw [tc_size, tc_zero, tc_size]) (tc_one ent) ?_)
  have hst : HasTab w w1.heap.size ((w1.alloc (.cells zt 40)).setRow w1.heap.size (tc ent)) := ⟨setRow_heap _ _ _ _ _ _ (heap_alloc_new _ _), below_setRow (hb1.alloc hb1.size _) hb1.size _⟩
  generalize ((w1.alloc (.cells zt 40)).setRow w1.heap.size (tc ent)) = W at *
  have hwg : w.heap.size ≤ w1.heap.size := hb1.size
  clear hz hsz hb1
  generalize w1.heap.size = g at *
  go_loopw [6] (fun i wr => ∃ k : Nat, k ≤ 256 ∧ i = .int .i64 k ∧ HasTab w g wr) (fun i _ => 256 - (intOf i).toNat)
  case atStart => exact ⟨0, by omega, rfl, hst⟩
  case round =>
    clear hst
    obtain ⟨k, hk, rfl, hT⟩ := hrel
    by_cases hlt : k < 256
    · have hcell := hT.cell hlt
      have hlt' : (k : Int) < 256 := by omega
      go_wp2
      go_quiet ((go_at_call 28; exact Calls.quiet_of_same (entry_any _ _ hlt)))
      go_wp2
      go_roundw
      case rel => exact ⟨k + 1, by omega, by go_num, hT.drewN _⟩
      case measure => simp [intOf]; omega
    · have hge : ¬ (k : Int) < 256 := by omega
      have hJ := xor_byte (c % 256) x (by omega) hx
      have n1 := not_u32 c hc
      have x1 : bits BinOp.xor IntKind.u8 ((c : Int) % 256) (x : Int) = ((c % 256 ^^^ x : Nat) : Int) := u8_xor_nat (c % 256) x (by omega) hx
      have x2 : bits BinOp.xor IntKind.u32 (ent (c % 256 ^^^ x) : Int) ((c : Int) / 256) = ((crcStep c x : Nat) : Int) := u32_xor_nat (ent (c % 256 ^^^ x)) (c / 256) (ent_lt _ (by omega)) (by omega)
      have hV := crcStep_lt c x hc hx
      have n2 := not_u32 _ hV
      have hcell := hT.cell hJ
      have hone := crc_one c x hc hx
      have hgl : g < wr.heap.size := hT.lt
      have hwr : w.heap.size ≤ wr.heap.size := hT.2.size
      have hbel := hT.2
      have hconv := conv_one x hx
      generalize c % 256 ^^^ x = J at *
      generalize crcStep c x = V at *
      have HONE : Hid _ := hone
      have hsg : IntKind.u32.signed = false := rfl
      have hJ0 : (0 : Int) ≤ (J : Int) := by omega
      have hJ1 : (J : Int) < 256 := by omega
      have hw8 : IntKind.u8.wrap (c : Int) = (c : Int) % 256 := by simp [IntKind.wrap, IntKind.bits, IntKind.signed]
      clear hone hT
      go_wp2
      go_region_held (fun w' => w'.cell? ⟨g, J, none⟩ = some (.int .u32 (ent J))) (first | assumption | (rw [hb2.cell (p := ⟨g, J, none⟩) hgl]; exact hcell) | (exact q2 _) | (rw [hb3.cell (p := ⟨g, J, none⟩) (Nat.lt_of_lt_of_le q3 (by simp))]; exact q2 _)) (first | (go_at_call 9; refine (awake_any _).mono ?_; rintro e w2 ⟨rfl, hb2⟩; obtain ⟨q1, q2, q3⟩ := tab_after hcell hgl hb2) | (go_at_call 26; refine (HONE.out _).mono ?_; rintro e w3 ⟨rfl, hb3⟩))
      have hz := ((hbel.drew.trans (hb2.mono hwr)).alloc (Nat.le_trans hwr hb2.size) (.cells #[.int .u8 (x : Int)] 5)).trans (hb3.mono (by rw [World.size_alloc]; exact Nat.le_succ_of_le (Nat.le_trans hwr hb2.size)))
      clear hbel hb2 hb3 hconv q2
      go_wp2
      go_ret
      exact ⟨rfl, hz⟩
end Go.Proofs.Ytkphgjaklkfcfaa
