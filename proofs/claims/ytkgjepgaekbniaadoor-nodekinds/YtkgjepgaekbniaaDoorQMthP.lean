/- Path of a pointer to a folder. -/
import Derived.Test.YtkgjepgaekbniaaDoorQNodAs
namespace Go.Proofs.YtkgjepgaekbniaaDoor
open Go.RowKit
set_option linter.unusedVariables false
set_option linter.unusedSimpArgs false
set_option maxRecDepth 100000 in
theorem method_ptrF (b : Nat) (a : List UInt8) (m t : Int) (w : World) (h0 : w.cell? ⟨b, 0, none⟩ = some (.string (mkB a))) (h1 : w.cell? ⟨b, 1, none⟩ = some (.int .i64 m)) (h2 : w.cell? ⟨b, 2, none⟩ = some (.int .i64 t)) (n : Nat) :
    (method (n + 1) 45 (.pointer (some ⟨b, 0, none⟩)) "Path").run Tryd.prog w = .ok (95, .agg #[.string (mkB a), .int .i64 m, .int .i64 t]) w := by
  have hi : (typeInfo 45).run Tryd.prog w = .ok ((Tryd.prog.info? 45).get!) w := by kernel_rfl
  have hs : (((Tryd.prog.info? 45).get!).methods.find? (fun x => x.name == "Path")).map (fun m => (m.path.toList, m.path.isEmpty, m.func)) = some ([], true, some (95, false)) := by kernel_rfl
  generalize ((Tryd.prog.info? 45).get!) = I at *
  unfold method
  simp only [Sem.run_bind, hi, Result.andThen_ok]
  cases hf : I.methods.find? (fun x => x.name == "Path") with
  | none => rw [hf] at hs; cases hs
  | some M =>
    rw [hf] at hs
    simp only [Option.map_some, Option.some.injEq, Prod.mk.injEq] at hs
    obtain ⟨e1, e2, e3⟩ := hs
    simp only [e1, e2, e3, follow, Sem.run_bind, Sem.run_pure, Result.andThen_ok, if_true, receiverAt]
    have hu : Tryd.prog.underlying 45 = some (.pointer 42) := by kernel_rfl
    simp only [run_underlying hu, Place.get, Sem.run_bind, Sem.run_pure, Result.andThen_ok]
    generalize (("Path".splitOn ".").getLastD "Path") = S
    have hw : (Builtin.ssaWrapNilChk_ #[45] 45 #[.pointer (some ⟨b, 0, none⟩), strVal "", strVal S]).run Tryd.prog w = .ok (.pointer (some ⟨b, 0, none⟩)) w := by kernel_rfl
    rw [hw]
    simp only [Result.andThen_ok, asAddr, Sem.run_pure]
    go_simp
end Go.Proofs.YtkgjepgaekbniaaDoor
