/- The law's Told: the record of a node. -/
import Derived.Test.YtkgjepgaekbniaaDoorQNodAm
import Derived.Laws.Tables
namespace Go.Proofs.YtkgjepgaekbniaaDoor
open Go.RowKit
set_option linter.unusedVariables false
set_option linter.unusedSimpArgs false

/-- The record of a node. -/
def tdRc : Nd → Rc
  | .fol a m t => ⟨1, a, m, t, 0, [], []⟩
  | .pla a m t s c => ⟨2, a, m, t, s, c, []⟩
  | .sym a m t g => ⟨3, a, m, t, 0, [], g⟩
  | .ptr _ _ _ => ⟨0, [], 0, 0, 0, [], []⟩
  | .non => ⟨0, [], 0, 0, 0, [], []⟩
theorem OT.nil (w : World) (B : Nat) : OT w B (.slice none 0 0) [] := World.ownsRow_nil _ _ _ _
theorem first_heap (w : World) (o1 o2 : Obj) : ((w.alloc o1).alloc o2).heap[w.heap.size]? = some o1 := by
  rw [Lib.alloc_old (w.alloc o1) o2 w.heap.size (by simp)]; exact heap_alloc_new w o1
set_option maxRecDepth 100000 in
set_option maxHeartbeats 2000000 in
/-- The record of what is no file (a file's is still to be walked: its region draws around an append and a store of a whole record). -/
theorem told12_nofile (n : Nd) (v : Value) (w : World) (h : NV w v n) (hk : kindN n ≠ 2) :
    Calls Tryd.prog 9 #[v] w fun e w' => ∃ u, e = .returned (.agg ((tdRc n).cells u).toArray) ∧ OT w' w.heap.size u (tdRc n).ch ∧ Below w.heap.size w w' := by
  cases n with
  | fol a m t =>
    obtain rfl := h
    have q1 := taFF
    go_enter Tryd.func9, Tryd.ntmps9
    go_wp2
    refine bodyPost_ret (results_cell_row rfl _ _ w.heap.size 24 _ (0, 0) _ rfl (first_heap w _ _) Tryd.underlying24 rfl (by kernel_rfl)) rfl ⟨_, rfl, OT.nil _ _, ((Below.refl _ _).alloc (Nat.le_refl _) _).alloc (by simp) _⟩
  | pla a m t s c => exact absurd rfl hk
  | sym a m t g =>
    obtain rfl := h
    have q1 := taSF
    have q2 := taSP
    have q3 := taSS
    go_enter Tryd.func9, Tryd.ntmps9
    go_wp2
    refine bodyPost_ret (results_cell_row rfl _ _ w.heap.size 24 _ (0, 0) _ rfl (first_heap w _ _) Tryd.underlying24 rfl (by kernel_rfl)) rfl ⟨_, rfl, OT.nil _ _, ((Below.refl _ _).alloc (Nat.le_refl _) _).alloc (by simp) _⟩
  | ptr a m t =>
    obtain ⟨x, rfl, _⟩ := h
    have q1 := taXF
    have q2 := taXP
    have q3 := taXS
    go_enter Tryd.func9, Tryd.ntmps9
    go_wp2
    refine bodyPost_ret (results_cell_row rfl _ _ w.heap.size 24 _ (0, 0) _ rfl (heap_alloc_new w _) Tryd.underlying24 rfl (by kernel_rfl)) rfl ⟨_, rfl, OT.nil _ _, (Below.refl _ _).alloc (Nat.le_refl _) _⟩
  | non =>
    obtain rfl := h
    have q1 := taNF
    have q2 := taNP
    have q3 := taNS
    go_enter Tryd.func9, Tryd.ntmps9
    go_wp2
    refine bodyPost_ret (results_cell_row rfl _ _ w.heap.size 24 _ (0, 0) _ rfl (heap_alloc_new w _) Tryd.underlying24 rfl (by kernel_rfl)) rfl ⟨_, rfl, OT.nil _ _, (Below.refl _ _).alloc (Nat.le_refl _) _⟩
end Go.Proofs.YtkgjepgaekbniaaDoor
