/- What the laid package variables give a walk, and a world for the witness. -/
import Derived.Test.YtlnagnkiadlfpaaDoorCards
import Derived.Test.YtlnagnkiadlfpaaDoorMix
import Derived.Lib.LaidTab
import Derived.LaidLaws
namespace Go.Proofs.YtlnagnkiadlfpaaDoor
open Go.RowKit

def rootsZ : List Int := rootsL.map fun n : Nat => (n : Int)
theorem gRoots : Tryd.prog.globalNamed "cellarer/digest.roots" = some 0 := by kernel_rfl
theorem gRootsT : (Tryd.prog.globals[0]?).map (·.type) = some 62 := by kernel_rfl
theorem cellsRoots : Tryd.prog.cellsOf 62 = 64 := by kernel_rfl
theorem cellsWord : Tryd.prog.cellsOf 41 = 1 := by kernel_rfl
theorem laid_of {W : World} (h : laidMetH Tryd.prog [("cellarer/digest.roots", Rows.laid_cellarer_digest_roots)] W) : Roots W := by
  have ht : Lib.TabIs Tryd.prog W "cellarer/digest.roots" .u32 rootsZ := Lib.tabIs_of_head (rest := []) gRoots gRootsT Tryd.underlying62 Tryd.underlying41 cellsWord cellsRoots h
  unfold Lib.TabIs World.var? at ht
  rw [gRoots] at ht
  simp only [Option.bind_some] at ht
  split at ht
  · rename_i cs t fr hh
    cases ht
    exact ⟨t, fr, by rw [hh]; congr 2⟩
  · cases ht
/-- The settled world, the roots as the text lays them. -/
noncomputable def laidWorld (os : Os) : World :=
  { World.holding Tryd.prog os ⟨#[], #[], []⟩ with heap := (World.holding Tryd.prog os ⟨#[], #[], []⟩).heap.modify 0 fun
      | .cells _ t frozen => .cells (wl rootsL) t frozen
      | o => o }
end Go.Proofs.YtlnagnkiadlfpaaDoor
