/- What the laid package variables of the library (the table of powers of ten) give a walk, and a world for the witness. -/
import Derived.Test.YthmijkpkegdcdaaDoorCards
import Derived.Test.YthmijkpkegdcdaaDoorDayC
import Derived.Lib.LaidU8
import Derived.Lib.LaidTab
import Derived.LaidLaws
namespace Go.Proofs.YthmijkpkegdcdaaDoor
open Go.RowKit

theorem pow_data : (Rows.laid_internal_strconv_uint64pow10 : DataW Unit) = Lib.tabData .u64 Lib.pow10Tab := by kernel_rfl
theorem gPow : Tryd.prog.globalNamed "internal/strconv.uint64pow10" = some 0 := by kernel_rfl
theorem gPowT : (Tryd.prog.globals[0]?).map (·.type) = some 71 := by kernel_rfl
theorem laid_of {W : World} (h : laidMetH Tryd.prog [("math/bits.deBruijn32tab", Rows.laid_math_bits_deBruijn32tab), ("math/bits.deBruijn64tab", Rows.laid_math_bits_deBruijn64tab), ("internal/strconv.uint64pow10", Rows.laid_internal_strconv_uint64pow10)] W) (_ : W.ShapedOpen Tryd.prog) : PT W := by
  obtain ⟨g, t, cs, fuel, p, h1, h2, h3, h4⟩ := Lib.laidMet.reads h (.tail _ (.tail _ (.head _)))
  obtain rfl := Option.some.inj (gPow.symm.trans h1)
  obtain rfl := Option.some.inj (gPowT.symm.trans h2)
  rw [pow_data] at h4
  unfold PT Lib.TabIs
  rw [h3, ← Lib.cells_of_tab Tryd.underlying71 Tryd.underlying58 (by kernel_rfl) (by kernel_rfl) h4]
/-- The cells that a table's datum lays. -/
def cellsD (d : DataW Unit) : Array Value := match d with
  | .agg l => (l.map fun
    | .lit (.int k z) => Value.int k z
    | _ => Value.int .i64 0).toArray
  | _ => #[]
/-- The settled world, the tables as the library's text lays them. -/
noncomputable def laidWorld (os : Os) : World :=
  let w0 := World.holding Tryd.prog os ⟨#[], #[], []⟩
  let put (h : Array Obj) (g : Nat) (cs : Array Value) : Array Obj := h.modify g fun
    | .cells _ t frozen => .cells cs t frozen
    | o => o
  let h1 := put w0.heap 2 (cellsD Rows.laid_math_bits_deBruijn32tab)
  let h2 := put h1 3 (cellsD Rows.laid_math_bits_deBruijn64tab)
  let h3 := put h2 0 (cellsD Rows.laid_internal_strconv_uint64pow10)
  { w0 with heap := h3 }
end Go.Proofs.YthmijkpkegdcdaaDoor
