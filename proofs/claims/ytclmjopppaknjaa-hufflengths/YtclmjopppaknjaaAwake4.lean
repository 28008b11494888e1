/- Contract of the law's own 'awake' of layer 4: it returns true. -/
import Derived.Test.YtclmjopppaknjaaHuffD
import Derived.Laws.StructEq
namespace Go.Proofs.Ytclmjopppaknjaa
open Go.RowKit
set_option linter.unusedVariables false

theorem aw4_ok : errN [2, 1, 3, 3] = 0 := by decide +kernel
theorem aw4_bad : errN [2, 2] = 4 := by decide +kernel
theorem aw4_cd0 : cdOf (toN [2, 1, 3, 3]) 0 = 2 ∧ ln (toN [2, 1, 3, 3]) 0 = 2 ∧ cdOf (toN [2, 1, 3, 3]) 3 = 7 ∧ ln (toN [2, 1, 3, 3]) 3 = 3 := by decide +kernel
theorem below_trans {a b c : World} (h : Below a.heap.size a b) (k : Below b.heap.size b c) : Below a.heap.size a c := h.trans (k.mono h.size)
theorem IR.lit (w : World) (zs : List Int) (n : Nat) (hn : n = zs.length) : IR (w.alloc (.cells (ic zs).toArray 3)) (.slice (some ⟨w.heap.size, 0, none⟩) n n) zs := by
  subst hn
  refine ⟨w.heap.size, zs.length, rfl, by rw [World.size_alloc]; omega, fun i hi => ?_⟩
  rw [cell_of_row _ _ _ _ _ _ (heap_alloc_new w _), List.getElem?_toArray, ic_at _ _ hi]
set_option maxRecDepth 100000 in
set_option maxHeartbeats 1000000 in
theorem awake4_any (w : World) : Calls Try.prog 9 #[] w fun e w' => e = .returned (.bool true) ∧ Below w.heap.size w w' := by
  have hI1 := IR.lit w [2, 1, 3, 3] 4 rfl
  go_enter Try.func9, Try.ntmps9
  go_wp2_with fail
  refine (codes_ok _ [2, 1, 3, 3] _ hI1 aw4_ok).mono ?_
  rintro e w1 ⟨rfl, hR1, hb1⟩
  have hB1 : Below w.heap.size w w1 := ((Below.refl _ w).alloc (Nat.le_refl _) _).trans (hb1.mono (by simp))
  have hI2 := IR.lit w1 [2, 2] 2 rfl
  have hlt := hR1.lt
  rw [World.size_alloc] at hlt
  have hsz : (w.alloc (.cells (ic [2, 1, 3, 3]).toArray 3)).heap.size = w.heap.size + 1 := World.size_alloc _ _
  obtain ⟨e0, e1, e2, e3⟩ := aw4_cd0
  have c0 : w1.cell? ⟨w.heap.size + 1, 0, none⟩ = some (.int .u32 2) := by rw [← hsz, hR1.cell (i := 0) (by decide)]; simp only [codeF, e0, e1]; rfl
  have c1 : w1.cell? ⟨w.heap.size + 1, 1, none⟩ = some (.int .i64 2) := by rw [← hsz, hR1.cell (i := 1) (by decide)]; simp only [codeF, e0, e1]; rfl
  have c6 : w1.cell? ⟨w.heap.size + 1, 6, none⟩ = some (.int .u32 7) := by rw [← hsz, hR1.cell (i := 6) (by decide)]; simp only [codeF, e2, e3]; rfl
  have c7 : w1.cell? ⟨w.heap.size + 1, 7, none⟩ = some (.int .i64 3) := by rw [← hsz, hR1.cell (i := 7) (by decide)]; simp only [codeF, e2, e3]; rfl
  clear hsz
  clear hR1 hb1 hI1 e0 e1 e2 e3
  go_wp2_with fail
  refine (codes_bad _ [2, 2] _ hI2 (by decide) (by rw [aw4_bad]; decide)).mono ?_
  rw [aw4_bad]
  rintro e w2 ⟨rfl, rfl⟩
  have hB2 : Below w.heap.size w (w1.alloc (.cells (ic [2, 2]).toArray 3)) := hB1.alloc hB1.size _
  clear hI2
  have c0' : (w1.alloc (.cells (ic [2, 2]).toArray 3)).cell? ⟨w.heap.size + 1, 0, none⟩ = some (.int .u32 2) := by rw [World.cell?_alloc_lt _ _ _ hlt]; exact c0
  have c1' : (w1.alloc (.cells (ic [2, 2]).toArray 3)).cell? ⟨w.heap.size + 1, 1, none⟩ = some (.int .i64 2) := by rw [World.cell?_alloc_lt _ _ _ hlt]; exact c1
  have c6' : (w1.alloc (.cells (ic [2, 2]).toArray 3)).cell? ⟨w.heap.size + 1, 6, none⟩ = some (.int .u32 7) := by rw [World.cell?_alloc_lt _ _ _ hlt]; exact c6
  have c7' : (w1.alloc (.cells (ic [2, 2]).toArray 3)).cell? ⟨w.heap.size + 1, 7, none⟩ = some (.int .i64 3) := by rw [World.cell?_alloc_lt _ _ _ hlt]; exact c7
  have hOut : ∀ x : World, x = w1.alloc (.cells (ic [2, 2]).toArray 3) → Below w.heap.size w x := fun x hx => by rw [hx]; exact hB2
  go_wp2
  go_ret
  exact ⟨rfl, hB2⟩
end Go.Proofs.Ytclmjopppaknjaa
