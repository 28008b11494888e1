/- Contract: a disk's List. -/
import Derived.Test.YtmjfcneofpddiaaDoorQDskH
import Derived.Test.YtmjfcneofpddiaaDoorQStrT
namespace Go.Proofs.YtmjfcneofpddiaaDoor
open Go.RowKit Go.Maps
set_option linter.unusedVariables false
set_option linter.unusedSimpArgs false

theorem encS_eq (F : Fo) : (nms F).map encStr = sc (nms F) := by
  unfold sc
  apply List.map_congr_left
  intro x _
  rfl
theorem nms_len (F : Fo) : (nms F).length = F.length := by unfold nms; rw [List.length_mergeSort, List.length_map]
set_option maxRecDepth 100000 in
set_option maxHeartbeats 1000000 in
theorem list_any {d : Nat} {S : DS} {K : Nat → Prop} {gs : List Nat} (w : World) (h : DK w d S K gs) (hd : S.dead = false) (hl : S.now.length ≤ 1000000) :
    Calls Tryd.prog 23 #[.pointer (some ⟨d, 0, none⟩)] w fun e w' => ∃ v, e = .returned (.tuple #[v, .int .i64 0]) ∧ OS w' w.heap.size v (nms S.now) ∧ Below w.heap.size w w' := by
  obtain ⟨bn, bs, sv, fv, hc1⟩ := h
  obtain ⟨_, c1, _, _, _, c5⟩ := hc1.cells
  rw [hd] at c5
  have HN : Hid (Calls Tryd.prog _ _ _ _) := names_any hc1.now hl
  have HL : Hid ((nms S.now).length = S.now.length) := nms_len _
  have HE : Hid ((nms S.now).map encStr = sc (nms S.now)) := encS_eq _
  clear hc1
  go_enter Tryd.func23, Tryd.ntmps23
  go_wp2_with fail
  refine HN.out.mono ?_
  rintro e w1 ⟨v, rfl, hO, hb⟩
  have HO : Hid (OS w1 w.heap.size v (nms S.now)) := by unfold Hid OS; rw [HL.out, ← HE.out]; exact hO
  have HB : Hid (Below w.heap.size w w1) := hb
  obtain ⟨a, c, rfl⟩ := HO.out.shape
  clear hO hb
  go_wp2
  go_ret2
  exact ⟨_, rfl, HO.out, HB.out⟩
end Go.Proofs.YtmjfcneofpddiaaDoor
