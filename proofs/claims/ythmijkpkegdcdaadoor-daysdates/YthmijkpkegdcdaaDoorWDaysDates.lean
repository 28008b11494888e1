/- 'DaysDates' answers true at every second: its walk. -/
import Derived.Test.YthmijkpkegdcdaaDoorDayE
namespace Go.Proofs.YthmijkpkegdcdaaDoor
open Go.RowKit
set_option linter.unusedVariables false

theorem dateL_byte (d j : Nat) (h : j < 10) : ∃ c, (dayL d)[j]? = some c ∧ c < 256 := by
  obtain ⟨c, hc⟩ : ∃ c, (dayL d)[j]? = some c := ⟨(dayL d)[j]'(by rw [dayL_len]; exact h), List.getElem?_eq_getElem _⟩
  exact ⟨c, hc, dateL_lt _ _ _ c (List.mem_of_getElem? hc)⟩
theorem index_date {d j c : Nat} (h : (dayL d)[j]? = some c) (w : World) : (Instr.index 9 (.string (dateS d)) (.int .i64 (j : Int))).run Tryd.prog w = .ok (.int .u8 (c : Int)) w := by
  have hj : j < (dayL d).length := (List.getElem?_eq_some_iff.1 h).1
  rw [dayL_len] at hj
  have hs := dateS_size d
  have hc : c < 256 := dateL_lt _ _ _ c (List.mem_of_getElem? h)
  have hd : (dateS d).data.toList[j]? = some (UInt8.ofNat c) := by rw [dateS_data, List.getElem?_map, h]; rfl
  have hb : (dateS d)[j]'(by rw [hs]; exact hj) = UInt8.ofNat c := by
    have h2 : (dateS d).data[j]? = some (UInt8.ofNat c) := by rw [← Array.getElem?_toList]; exact hd
    exact (Array.getElem?_eq_some_iff.1 h2).2
  have hn : (UInt8.ofNat c).toNat = c := by rw [UInt8.toNat_ofNat']; omega
  generalize dateS d = S at *
  simp [go_sem, hs, hb, hn]
  intro h9
  omega
/-- What has been read of a date behind its first j bytes. -/
def kAt (j : Nat) : Nat := if j ≤ 4 then 0 else if j ≤ 7 then 1 else 2
def v0At (a b c d j : Nat) : Nat := if j = 0 then 0 else if j = 1 then a else if j = 2 then 10 * a + b else if j = 3 then 10 * (10 * a + b) + c else 10 * (10 * (10 * a + b) + c) + d
def v1At (a b j : Nat) : Nat := if j ≤ 5 then 0 else if j = 6 then a else 10 * a + b
def v2At (a b j : Nat) : Nat := if j ≤ 8 then 0 else if j = 9 then a else 10 * a + b
theorem Tryd.infoI3 : (Tryd.prog.info? 3).map (fun i => (i.zero, i.size, i.bytes)) = some (some (.int .i64 0), 1, 8) := by kernel_rfl
theorem make3 (W : World) : (Instr.makeSlice 33 (.int .i64 3) (.int .i64 3)).run Tryd.prog W = .ok (.slice (some ⟨W.heap.size, 0, none⟩) 3 3) (W.alloc (.cells #[.int .i64 0, .int .i64 0, .int .i64 0] 3)) := by
  obtain ⟨i0, hi, hz0, hz1, hz2⟩ := info_parts Tryd.infoI3
  have h := run_makeSlice (P := Tryd.prog) (w := W) 33 3 i0 (.int .i64 0) Tryd.underlying33 hi hz0 .i64 .i64 3 3 (by omega) (by omega) (by rw [hz1]; decide) (by rw [hz2]; decide) (by decide)
  rw [hz1, show madeCells (Value.int .i64 0).cells (Int.toNat 3 * 1) = #[.int .i64 0, .int .i64 0, .int .i64 0] from by kernel_rfl] at h
  exact h
theorem three_cell {w : World} {b : Nat} {x y z : Value} {ty : TypeId} (h : w.heap[b]? = some (.cells #[x, y, z] ty (0, 0))) : (w.cell? ⟨b, 0, none⟩ = some x ∧ w.cell? ⟨b, 1, none⟩ = some y ∧ w.cell? ⟨b, 2, none⟩ = some z) ∧ (w.frozen? ⟨b, 0, none⟩ = false ∧ w.frozen? ⟨b, 1, none⟩ = false ∧ w.frozen? ⟨b, 2, none⟩ = false) := by
  refine ⟨⟨?_, ?_, ?_⟩, frozen_of_row _ _ _ _ _ h, frozen_of_row _ _ _ _ _ h, frozen_of_row _ _ _ _ _ h⟩ <;> (rw [cell_of_row _ _ _ _ _ _ h]; rfl)
set_option maxRecDepth 100000 in
set_option maxHeartbeats 2000000 in
theorem dates_good (x : Nat) (W : World) (hx : x ≤ 253402300799) (hL : PT W) :
    Calls Tryd.prog 5 #[.int .i64 x] W fun e w' => e = .returned (.bool true) ∧ Below W.heap.size W w' := by
  have hq : x / 86400 ≤ 2932896 := by omega
  have H1 := date_any x W hx hL
  have H5 : Hid (∀ w, _) := fun w => month_any x w hx
  have HT : Hid (∀ w', Below W.heap.size W w' → PT w') := fun w' h => hL.on h
  have z1 := dateS_size (x / 86400)
  have hm := mon_le hq
  have hd := dom_le (x / 86400)
  have hY : yrN (mon (x / 86400)) ≤ 9999 ∧ 1970 ≤ yrN (mon (x / 86400)) := by unfold yrN; omega
  have hM : 1 ≤ moN (mon (x / 86400)) ∧ moN (mon (x / 86400)) ≤ 12 := by unfold moN; omega
  have HMN : Hid ((mon (x / 86400) : Int) = 12 * ((yrN (mon (x / 86400)) : Int) - 1970) + (moN (mon (x / 86400)) : Int) - 1) := by show _ = _; unfold yrN moN; omega
  have I0 : ∀ w, (Instr.index 9 (.string (dateS (x / 86400))) (.int .i64 0)).run Tryd.prog w = .ok (.int .u8 (48 + ((yrN (mon (x / 86400)) / 100 / 10 % 10 : Nat) : Int))) w := fun w => by have h := index_date (d := x / 86400) (j := 0) (c := 48 + yrN (mon (x / 86400)) / 100 / 10 % 10) rfl w; simpa using h
  have I1 : ∀ w, (Instr.index 9 (.string (dateS (x / 86400))) (.int .i64 1)).run Tryd.prog w = .ok (.int .u8 (48 + ((yrN (mon (x / 86400)) / 100 % 10 : Nat) : Int))) w := fun w => by have h := index_date (d := x / 86400) (j := 1) (c := 48 + yrN (mon (x / 86400)) / 100 % 10) rfl w; simpa using h
  have I2 : ∀ w, (Instr.index 9 (.string (dateS (x / 86400))) (.int .i64 2)).run Tryd.prog w = .ok (.int .u8 (48 + ((yrN (mon (x / 86400)) % 100 / 10 % 10 : Nat) : Int))) w := fun w => by have h := index_date (d := x / 86400) (j := 2) (c := 48 + yrN (mon (x / 86400)) % 100 / 10 % 10) rfl w; simpa using h
  have I3 : ∀ w, (Instr.index 9 (.string (dateS (x / 86400))) (.int .i64 3)).run Tryd.prog w = .ok (.int .u8 (48 + ((yrN (mon (x / 86400)) % 100 % 10 : Nat) : Int))) w := fun w => by have h := index_date (d := x / 86400) (j := 3) (c := 48 + yrN (mon (x / 86400)) % 100 % 10) rfl w; simpa using h
  have I4 : ∀ w, (Instr.index 9 (.string (dateS (x / 86400))) (.int .i64 4)).run Tryd.prog w = .ok (.int .u8 (45)) w := fun w => by have h := index_date (d := x / 86400) (j := 4) (c := 45) rfl w; simpa using h
  have I5 : ∀ w, (Instr.index 9 (.string (dateS (x / 86400))) (.int .i64 5)).run Tryd.prog w = .ok (.int .u8 (48 + ((moN (mon (x / 86400)) / 10 % 10 : Nat) : Int))) w := fun w => by have h := index_date (d := x / 86400) (j := 5) (c := 48 + moN (mon (x / 86400)) / 10 % 10) rfl w; simpa using h
  have I6 : ∀ w, (Instr.index 9 (.string (dateS (x / 86400))) (.int .i64 6)).run Tryd.prog w = .ok (.int .u8 (48 + ((moN (mon (x / 86400)) % 10 : Nat) : Int))) w := fun w => by have h := index_date (d := x / 86400) (j := 6) (c := 48 + moN (mon (x / 86400)) % 10) rfl w; simpa using h
  have I7 : ∀ w, (Instr.index 9 (.string (dateS (x / 86400))) (.int .i64 7)).run Tryd.prog w = .ok (.int .u8 (45)) w := fun w => by have h := index_date (d := x / 86400) (j := 7) (c := 45) rfl w; simpa using h
  have I8 : ∀ w, (Instr.index 9 (.string (dateS (x / 86400))) (.int .i64 8)).run Tryd.prog w = .ok (.int .u8 (48 + ((domN (x / 86400) / 10 % 10 : Nat) : Int))) w := fun w => by have h := index_date (d := x / 86400) (j := 8) (c := 48 + domN (x / 86400) / 10 % 10) rfl w; simpa using h
  have I9 : ∀ w, (Instr.index 9 (.string (dateS (x / 86400))) (.int .i64 9)).run Tryd.prog w = .ok (.int .u8 (48 + ((domN (x / 86400) % 10 : Nat) : Int))) w := fun w => by have h := index_date (d := x / 86400) (j := 9) (c := 48 + domN (x / 86400) % 10) rfl w; simpa using h
  generalize dateS (x / 86400) = S at *
  generalize moN (mon (x / 86400)) = M at *
  generalize yrN (mon (x / 86400)) = Y at *
  generalize domN (x / 86400) = D at *
  generalize mon (x / 86400) = n at *
  obtain ⟨a0, ha0⟩ : ∃ a, Y / 100 / 10 % 10 = a := ⟨_, rfl⟩
  obtain ⟨a1, ha1⟩ : ∃ a, Y / 100 % 10 = a := ⟨_, rfl⟩
  obtain ⟨a2, ha2⟩ : ∃ a, Y % 100 / 10 % 10 = a := ⟨_, rfl⟩
  obtain ⟨a3, ha3⟩ : ∃ a, Y % 100 % 10 = a := ⟨_, rfl⟩
  obtain ⟨a5, ha5⟩ : ∃ a, M / 10 % 10 = a := ⟨_, rfl⟩
  obtain ⟨a6, ha6⟩ : ∃ a, M % 10 = a := ⟨_, rfl⟩
  obtain ⟨a8, ha8⟩ : ∃ a, D / 10 % 10 = a := ⟨_, rfl⟩
  obtain ⟨a9, ha9⟩ : ∃ a, D % 10 = a := ⟨_, rfl⟩
  rw [ha0] at I0; rw [ha1] at I1; rw [ha2] at I2; rw [ha3] at I3; rw [ha5] at I5; rw [ha6] at I6; rw [ha8] at I8; rw [ha9] at I9
  have hYe : Hid (Y = 10 * (10 * (10 * a0 + a1) + a2) + a3) := by show _ = _; omega
  have hMe : Hid (M = 10 * a5 + a6) := by show _ = _; omega
  have hDe : Hid (D = 10 * a8 + a9) := by show _ = _; omega
  have l0 : a0 ≤ 9 := by omega
  have l1 : a1 ≤ 9 := by omega
  have l2 : a2 ≤ 9 := by omega
  have l3 : a3 ≤ 9 := by omega
  have l5 : a5 ≤ 9 := by omega
  have l6 : a6 ≤ 9 := by omega
  have l8 : a8 ≤ 9 := by omega
  have l9 : a9 ≤ 9 := by omega
  have HYb : Hid (Y ≤ 9999 ∧ 1970 ≤ Y) := hY
  have HMb : Hid (1 ≤ M ∧ M ≤ 12) := hM
  have HDb : Hid (1 ≤ D ∧ D ≤ 31) := hd
  clear ha0 ha1 ha2 ha3 ha5 ha6 ha8 ha9 hY hM hd hm hq
  generalize x / 86400 = q at *
  go_enter Tryd.func5, Tryd.ntmps5
  go_wp2_with fail
  refine H1.mono ?_
  rintro e w1 ⟨rfl, hb1⟩
  clear H1
  have HB1 : Hid (_) := hb1
  clear hb1
  have HMK := make3 w1
  go_wp2
  clear HMK
  have HN0 : Hid (_ = _) := heap_alloc_new w1 (.cells #[.int .i64 0, .int .i64 0, .int .i64 0] 3)
  have HB2 : Hid (Below W.heap.size W _) := HB1.out.alloc HB1.out.size (.cells #[.int .i64 0, .int .i64 0, .int .i64 0] 3)
  have hbW : W.heap.size ≤ w1.heap.size := HB1.out.size
  clear HB1
  generalize World.alloc w1 _ = W2 at *
  generalize w1.heap.size = b at *
  go_loopw [6, 7] (fun k i wr => ∃ j : Nat, j ≤ 10 ∧ i = .int .i64 (j : Int) ∧ k = .int .i64 (kAt j : Nat) ∧ wr.heap[b]? = some (.cells #[.int .i64 (v0At a0 a1 a2 a3 j : Nat), .int .i64 (v1At a5 a6 j : Nat), .int .i64 (v2At a8 a9 j : Nat)] 3 (0, 0)) ∧ Below W.heap.size W wr) (fun _ i _ => (10 - intOf i).toNat)
  case atStart => exact ⟨0, by omega, rfl, rfl, HN0.out, HB2.out⟩
  case round =>
    clear HN0 HB2
    obtain ⟨j, hj, rfl, rfl, hh, hbl⟩ := hrel
    have HBL : Hid (_) := hbl
    clear hbl
    rcases (by omega : j = 0 ∨ j = 1 ∨ j = 2 ∨ j = 3 ∨ j = 4 ∨ j = 5 ∨ j = 6 ∨ j = 7 ∨ j = 8 ∨ j = 9 ∨ j = 10) with rfl | rfl | rfl | rfl | rfl | rfl | rfl | rfl | rfl | rfl | rfl
    · have hh2 : wr.heap[b]? = some (.cells #[.int .i64 (0), .int .i64 (0), .int .i64 (0)] 3 (0, 0)) := by rw [hh]; simp [v0At, v1At, v2At]
      rw [show ((kAt 0 : Nat) : Int) = 0 from rfl]
      have HH : Hid (_ = _) := hh2
      obtain ⟨⟨c0, c1, c2⟩, f0, f1, f2⟩ := three_cell hh2
      clear hh hh2
      go_upto_region 15 with fail
      go_region
      all_goals
        go_wp2
        go_roundw
        case rel => exact ⟨1, by omega, rfl, rfl, by show (World.setCell wr _ _).heap[b]? = _; rw [heap_setCell_same _ _ _ _ _ _ HH.out]; simp [v0At, v1At, v2At]; omega, (HBL.out.setCell hbW _).drew⟩
        case measure => simp [intOf]
    · have hh2 : wr.heap[b]? = some (.cells #[.int .i64 ((a0 : Int)), .int .i64 (0), .int .i64 (0)] 3 (0, 0)) := by rw [hh]; simp [v0At, v1At, v2At]
      rw [show ((kAt 1 : Nat) : Int) = 0 from rfl]
      have HH : Hid (_ = _) := hh2
      obtain ⟨⟨c0, c1, c2⟩, f0, f1, f2⟩ := three_cell hh2
      clear hh hh2
      go_upto_region 15 with fail
      go_region
      all_goals
        go_wp2
        go_roundw
        case rel => exact ⟨2, by omega, rfl, rfl, by show (World.setCell wr _ _).heap[b]? = _; rw [heap_setCell_same _ _ _ _ _ _ HH.out]; simp [v0At, v1At, v2At]; omega, (HBL.out.setCell hbW _).drew⟩
        case measure => simp [intOf]
    · have hh2 : wr.heap[b]? = some (.cells #[.int .i64 (10 * (a0 : Int) + (a1 : Int)), .int .i64 (0), .int .i64 (0)] 3 (0, 0)) := by rw [hh]; simp [v0At, v1At, v2At]
      rw [show ((kAt 2 : Nat) : Int) = 0 from rfl]
      have HH : Hid (_ = _) := hh2
      obtain ⟨⟨c0, c1, c2⟩, f0, f1, f2⟩ := three_cell hh2
      clear hh hh2
      go_upto_region 15 with fail
      go_region
      all_goals
        go_wp2
        go_roundw
        case rel => exact ⟨3, by omega, rfl, rfl, by show (World.setCell wr _ _).heap[b]? = _; rw [heap_setCell_same _ _ _ _ _ _ HH.out]; simp [v0At, v1At, v2At]; omega, (HBL.out.setCell hbW _).drew⟩
        case measure => simp [intOf]
    · have hh2 : wr.heap[b]? = some (.cells #[.int .i64 (10 * (10 * (a0 : Int) + (a1 : Int)) + (a2 : Int)), .int .i64 (0), .int .i64 (0)] 3 (0, 0)) := by rw [hh]; simp [v0At, v1At, v2At]
      rw [show ((kAt 3 : Nat) : Int) = 0 from rfl]
      have HH : Hid (_ = _) := hh2
      obtain ⟨⟨c0, c1, c2⟩, f0, f1, f2⟩ := three_cell hh2
      clear hh hh2
      go_upto_region 15 with fail
      go_region
      all_goals
        go_wp2
        go_roundw
        case rel => exact ⟨4, by omega, rfl, rfl, by show (World.setCell wr _ _).heap[b]? = _; rw [heap_setCell_same _ _ _ _ _ _ HH.out]; simp [v0At, v1At, v2At]; omega, (HBL.out.setCell hbW _).drew⟩
        case measure => simp [intOf]
    · have hh2 : wr.heap[b]? = some (.cells #[.int .i64 (10 * (10 * (10 * (a0 : Int) + (a1 : Int)) + (a2 : Int)) + (a3 : Int)), .int .i64 (0), .int .i64 (0)] 3 (0, 0)) := by rw [hh]; simp [v0At, v1At, v2At]
      rw [show ((kAt 4 : Nat) : Int) = 0 from rfl]
      have HH : Hid (_ = _) := hh2
      obtain ⟨⟨c0, c1, c2⟩, f0, f1, f2⟩ := three_cell hh2
      clear hh hh2
      go_wp2
      go_roundw
      case rel => exact ⟨5, by omega, rfl, rfl, by rw [HH.out]; simp [v0At, v1At, v2At], HBL.out⟩
      case measure => simp [intOf]
    · have hh2 : wr.heap[b]? = some (.cells #[.int .i64 (10 * (10 * (10 * (a0 : Int) + (a1 : Int)) + (a2 : Int)) + (a3 : Int)), .int .i64 (0), .int .i64 (0)] 3 (0, 0)) := by rw [hh]; simp [v0At, v1At, v2At]
      rw [show ((kAt 5 : Nat) : Int) = 1 from rfl]
      have HH : Hid (_ = _) := hh2
      obtain ⟨⟨c0, c1, c2⟩, f0, f1, f2⟩ := three_cell hh2
      clear hh hh2
      go_upto_region 15 with fail
      go_region
      all_goals
        go_wp2
        go_roundw
        case rel => exact ⟨6, by omega, rfl, rfl, by show (World.setCell wr _ _).heap[b]? = _; rw [heap_setCell_same _ _ _ _ _ _ HH.out]; simp [v0At, v1At, v2At]; omega, (HBL.out.setCell hbW _).drew⟩
        case measure => simp [intOf]
    · have hh2 : wr.heap[b]? = some (.cells #[.int .i64 (10 * (10 * (10 * (a0 : Int) + (a1 : Int)) + (a2 : Int)) + (a3 : Int)), .int .i64 ((a5 : Int)), .int .i64 (0)] 3 (0, 0)) := by rw [hh]; simp [v0At, v1At, v2At]
      rw [show ((kAt 6 : Nat) : Int) = 1 from rfl]
      have HH : Hid (_ = _) := hh2
      obtain ⟨⟨c0, c1, c2⟩, f0, f1, f2⟩ := three_cell hh2
      clear hh hh2
      go_upto_region 15 with fail
      go_region
      all_goals
        go_wp2
        go_roundw
        case rel => exact ⟨7, by omega, rfl, rfl, by show (World.setCell wr _ _).heap[b]? = _; rw [heap_setCell_same _ _ _ _ _ _ HH.out]; simp [v0At, v1At, v2At]; omega, (HBL.out.setCell hbW _).drew⟩
        case measure => simp [intOf]
    · have hh2 : wr.heap[b]? = some (.cells #[.int .i64 (10 * (10 * (10 * (a0 : Int) + (a1 : Int)) + (a2 : Int)) + (a3 : Int)), .int .i64 (10 * (a5 : Int) + (a6 : Int)), .int .i64 (0)] 3 (0, 0)) := by rw [hh]; simp [v0At, v1At, v2At]
      rw [show ((kAt 7 : Nat) : Int) = 1 from rfl]
      have HH : Hid (_ = _) := hh2
      obtain ⟨⟨c0, c1, c2⟩, f0, f1, f2⟩ := three_cell hh2
      clear hh hh2
      go_wp2
      go_roundw
      case rel => exact ⟨8, by omega, rfl, rfl, by rw [HH.out]; simp [v0At, v1At, v2At], HBL.out⟩
      case measure => simp [intOf]
    · have hh2 : wr.heap[b]? = some (.cells #[.int .i64 (10 * (10 * (10 * (a0 : Int) + (a1 : Int)) + (a2 : Int)) + (a3 : Int)), .int .i64 (10 * (a5 : Int) + (a6 : Int)), .int .i64 (0)] 3 (0, 0)) := by rw [hh]; simp [v0At, v1At, v2At]
      rw [show ((kAt 8 : Nat) : Int) = 2 from rfl]
      have HH : Hid (_ = _) := hh2
      obtain ⟨⟨c0, c1, c2⟩, f0, f1, f2⟩ := three_cell hh2
      clear hh hh2
      go_upto_region 15 with fail
      go_region
      all_goals
        go_wp2
        go_roundw
        case rel => exact ⟨9, by omega, rfl, rfl, by show (World.setCell wr _ _).heap[b]? = _; rw [heap_setCell_same _ _ _ _ _ _ HH.out]; simp [v0At, v1At, v2At]; omega, (HBL.out.setCell hbW _).drew⟩
        case measure => simp [intOf]
    · have hh2 : wr.heap[b]? = some (.cells #[.int .i64 (10 * (10 * (10 * (a0 : Int) + (a1 : Int)) + (a2 : Int)) + (a3 : Int)), .int .i64 (10 * (a5 : Int) + (a6 : Int)), .int .i64 ((a8 : Int))] 3 (0, 0)) := by rw [hh]; simp [v0At, v1At, v2At]
      rw [show ((kAt 9 : Nat) : Int) = 2 from rfl]
      have HH : Hid (_ = _) := hh2
      obtain ⟨⟨c0, c1, c2⟩, f0, f1, f2⟩ := three_cell hh2
      clear hh hh2
      go_upto_region 15 with fail
      go_region
      all_goals
        go_wp2
        go_roundw
        case rel => exact ⟨10, by omega, rfl, rfl, by show (World.setCell wr _ _).heap[b]? = _; rw [heap_setCell_same _ _ _ _ _ _ HH.out]; simp [v0At, v1At, v2At]; omega, (HBL.out.setCell hbW _).drew⟩
        case measure => simp [intOf]
    · have hh2 : wr.heap[b]? = some (.cells #[.int .i64 (10 * (10 * (10 * (a0 : Int) + (a1 : Int)) + (a2 : Int)) + (a3 : Int)), .int .i64 (10 * (a5 : Int) + (a6 : Int)), .int .i64 (10 * (a8 : Int) + (a9 : Int))] 3 (0, 0)) := by rw [hh]; simp [v0At, v1At, v2At]
      rw [show ((kAt 10 : Nat) : Int) = 2 from rfl]
      have HH : Hid (_ = _) := hh2
      obtain ⟨⟨c0, c1, c2⟩, f0, f1, f2⟩ := three_cell hh2
      clear hh hh2
      rw [show 10 * (10 * (10 * (a0 : Int) + (a1 : Int)) + (a2 : Int)) + (a3 : Int) = (Y : Int) by have := hYe.out; omega] at c0
      rw [show 10 * (a5 : Int) + (a6 : Int) = (M : Int) by have := hMe.out; omega] at c1
      rw [show 10 * (a8 : Int) + (a9 : Int) = (D : Int) by have := hDe.out; omega] at c2
      obtain ⟨y1, y2⟩ := HYb.out
      obtain ⟨m1, m2⟩ := HMb.out
      obtain ⟨d1, d2⟩ := HDb.out
      have h5 := H5.out
      rw [HMN.out] at h5
      have HH5 : Hid (∀ w, _) := h5
      have hlt : b < wr.heap.size := (Array.getElem?_eq_some_iff.1 HH.out).1
      have t1 : IntKind.i64.wrap ((Y : Int) - 1970) = (Y : Int) - 1970 := by rw [IntKind.wrap_i64]; omega
      have t2 : IntKind.i64.wrap (12 * ((Y : Int) - 1970)) = 12 * ((Y : Int) - 1970) := by rw [IntKind.wrap_i64]; omega
      have t3 : IntKind.i64.wrap (12 * ((Y : Int) - 1970) + (M : Int)) = 12 * ((Y : Int) - 1970) + (M : Int) := by rw [IntKind.wrap_i64]; omega
      have t4 : IntKind.i64.wrap (12 * ((Y : Int) - 1970) + (M : Int) - 1) = 12 * ((Y : Int) - 1970) + (M : Int) - 1 := by rw [IntKind.wrap_i64]; omega
      have i1 : (1 : Int) ≤ (M : Int) := by omega
      have i2 : (M : Int) ≤ 12 := by omega
      have i3 : (1 : Int) ≤ (D : Int) := by omega
      have i4 : (D : Int) ≤ 31 := by omega
      clear m1 m2 d1 d2
      have HKE : Hid (∀ w', Below wr.drew.heap.size wr.drew w' → w'.cell? ⟨b, 0, none⟩ = some (.int .i64 (Y : Int)) ∧ w'.cell? ⟨b, 1, none⟩ = some (.int .i64 (M : Int)) ∧ w'.cell? ⟨b, 2, none⟩ = some (.int .i64 (D : Int))) := fun w' hb => ⟨(hb.cell (p := ⟨b, 0, none⟩) hlt).trans c0, (hb.cell (p := ⟨b, 1, none⟩) hlt).trans c1, (hb.cell (p := ⟨b, 2, none⟩) hlt).trans c2⟩
      have HAW : Hid (Calls _ _ _ _ _) := awake20_any wr.drew (HT.out _ HBL.out.drew)
      clear h5 H5 HMN HH I0 I1 I2 I3 I4 I5 I6 I7 I8 I9 l0 l1 l2 l3 l5 l6 l8 l9 hYe hMe hDe HYb HMb HDb hlt f0 f1 f2 HT hL
      go_upto_region 16 with fail
      go_region_held3 (fun w' : World => w'.cell? ⟨b, 0, none⟩ = some (.int .i64 (Y : Int)) ∧ w'.cell? ⟨b, 1, none⟩ = some (.int .i64 (M : Int)) ∧ w'.cell? ⟨b, 2, none⟩ = some (.int .i64 (D : Int)))
        (first | exact ⟨c0, c1, c2⟩ | exact HKE.out _ hb4)
        ((first | (go_at_call 9; refine HAW.out.mono ?_; rintro e w4 ⟨rfl, hb4⟩) | (go_at_call 12; refine (HH5.out _).mono ?_; rintro e w5 ⟨rfl, e5⟩; have e6 := e5.symm; subst e6)))
      all_goals
        have HF : Hid (Below W.heap.size W w4) := HBL.out.drew.trans (hb4.mono HBL.out.drew.size)
        clear HKE HAW HH5 hb4
        go_wp2
        go_ret
        exact ⟨rfl, HF.out⟩
set_option maxRecDepth 100000 in
set_option maxHeartbeats 1000000 in
theorem lawDaysDates_walk (t : Int) (W : World) (b0 : -9223372036854775808 ≤ t ∧ t ≤ 9223372036854775807) (hL : PT W) :
    Calls Tryd.prog 5 #[.int .i64 t] W fun e w' => e = .returned (.bool true) ∧ Below W.heap.size W w' := by
  by_cases hf : 0 ≤ t ∧ t ≤ 253402300799
  · obtain ⟨x, rfl⟩ := Int.eq_ofNat_of_zero_le hf.1
    exact dates_good x W (by omega) hL
  · have HF : Hid (_) := hf
    clear hf b0
    go_enter Tryd.func5, Tryd.ntmps5
    go_wp2_with fail
    refine (date_no t W HF.out).mono ?_
    rintro e w1 ⟨rfl, rfl⟩
    go_wp2_with fail
    refine (awake20_any _ hL).mono ?_
    rintro e w3 ⟨rfl, hb3⟩
    go_wp2
    go_ret
    exact ⟨rfl, hb3⟩
end Go.Proofs.YthmijkpkegdcdaaDoor
