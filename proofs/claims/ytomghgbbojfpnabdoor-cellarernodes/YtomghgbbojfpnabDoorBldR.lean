/- Contract of strings.Builder's WriteRune at this program. -/
import Derived.Test.YtomghgbbojfpnabDoorBldF
import Derived.Lib.RuneBytes
namespace Go.Proofs.YtomghgbbojfpnabDoor
open Go.RowKit
set_option linter.unusedVariables false

set_option maxHeartbeats 2000000 in
set_option maxRecDepth 100000 in
theorem bruneF (B b : Nat) (l : List UInt8) (r : Int) (hr0 : -2147483648 ≤ r) (hr1 : r ≤ 2147483647) (w : World) (h : BF B b l w) (hlen : l.length + 4 ≤ 140737488355328) (hBw : B ≤ w.heap.size) :
    Calls Tryd.prog 24 #[.pointer (some ⟨b, 0, none⟩), .int .i32 r] w fun e w' => (∃ r, e = .returned r) ∧ BF B b (l ++ Lib.encodeRune r) w' ∧ Below B w w' ∧ Lib.OthersKept 5 (some b) w w' := by
  have hk4 := Lib.runeCells_le r
  have HCK : Hid (Calls _ _ _ _ _) := bcheckF B b l w h
  clear h
  go_enter Tryd.func24, Tryd.ntmps24
  go_wp2_with fail
  refine (Hid.out HCK : Calls _ _ _ _ _).mono ?_
  rintro e w1 ⟨rfl, h1, hb1, hk1⟩
  have hlt := h1.lt
  obtain ⟨hB, v, hbk, hown, hne⟩ := h1
  rw [Lib.byteCells_length] at hown
  obtain ⟨ao, cap, rfl⟩ : ∃ ao cap, v = .slice ao l.length cap := by
    rcases hown.2 with ⟨hv, h0⟩ | ⟨g, cap, cur, fz, hv, _⟩
    · exact ⟨none, 0, by rw [hv, h0]⟩
    · exact ⟨_, _, hv⟩
  have c0 : w1.cell? ⟨b, 0, none⟩ = some (.pointer (some ⟨b, 0, none⟩)) := by rw [Lib.cell_of_heap hbk]; rfl
  have c1 : w1.cell? ⟨b, 1, none⟩ = some (.slice ao l.length cap) := by rw [Lib.cell_of_heap hbk]; rfl
  have hsz1 := hb1.size
  have HB1 : Hid (Below B w w1) := hb1
  have HK1 : Hid (Lib.OthersKept 5 (some b) w w1) := hk1
  have HA : Hid (Calls _ _ _ _ _) := Tryd.utf8_AppendRune_row B (.slice ao l.length cap) l.length (Lib.byteCells l) r hr0 hr1 w1 hown (by omega) (by omega)
  clear hb1 HCK hk1
  go_wp2_with fail
  refine (Hid.out HA : Calls _ _ _ _ _).mono ?_
  rintro e w2 ⟨v', rfl, hown', o, hgrow⟩
  have hb2 : w2.heap[b]? = some (.cells #[.pointer (some ⟨b, 0, none⟩), .slice ao l.length cap] 45 (0, 0)) := by
    rw [hgrow.block b (by simp; omega) (fun e => hne e.symm), Lib.alloc_old w1 _ b hlt]
    exact hbk
  have d0 : w2.cell? ⟨b, 0, none⟩ = some (.pointer (some ⟨b, 0, none⟩)) := by rw [Lib.cell_of_heap hb2]; rfl
  have d1 : w2.cell? ⟨b, 1, none⟩ = some (.slice ao l.length cap) := by rw [Lib.cell_of_heap hb2]; rfl
  have f1 : w2.frozen? ⟨b, 1, none⟩ = false := Lib.frozen_of_heap hb2 1
  obtain ⟨g, cap', rfl⟩ : ∃ g cap', v' = .slice (some ⟨g, 0, none⟩) (l.length + (Lib.runeCells r).length) cap' := by
    rcases hown'.2 with ⟨_, h0⟩ | ⟨g, cap', cur, fz, hv, _⟩
    · omega
    · exact ⟨g, cap', hv⟩
  have HP : Hid (BF B b (l ++ Lib.encodeRune r) (w2.setCell ⟨b, 1, none⟩ (.slice (some ⟨g, 0, none⟩) (l.length + (Lib.runeCells r).length) cap'))) := .inr (Lib.BuilderAtF.put hB hb2 (bs' := Lib.byteCells (l ++ Lib.encodeRune r)) (by
    rw [Lib.byteCells_append, List.length_append, Lib.byteCells_encodeRune, Lib.byteCells_length]; exact hown') (by decide))
  have HB2 : Hid (Below B w (w2.setCell ⟨b, 1, none⟩ (.slice (some ⟨g, 0, none⟩) (l.length + (Lib.runeCells r).length) cap'))) := ((HB1.out.alloc (by omega) _).grown hgrow (by simp; omega) (fun k hk => (hown.lt k hk).1)).setCell (p := ⟨b, 1, none⟩) hB _
  have HK2 : Hid (Lib.OthersKept 5 (some b) w (w2.setCell ⟨b, 1, none⟩ (.slice (some ⟨g, 0, none⟩) (l.length + (Lib.runeCells r).length) cap'))) := ((HK1.out.alloc _).grown hgrow (Lib.ownsRowF_kind (hown.alloc _))).setCell ⟨b, 1, none⟩ rfl _
  clear hown' hgrow hown hbk HA
  generalize l.length + (Lib.runeCells r).length = n9 at *
  go_wp2
  go_ret2
  exact ⟨⟨_, rfl⟩, HP.out, HB2.out, HK2.out⟩
end Go.Proofs.YtomghgbbojfpnabDoor
