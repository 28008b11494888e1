/- Two items are held against each other. -/
import Derived.Test.YtmjfcneofpddiaaDoorQWkN
namespace Go.Proofs.YtmjfcneofpddiaaDoor
open Go.RowKit Go.Maps
set_option linter.unusedVariables false
set_option linter.unusedSimpArgs false

theorem IO.nilZ (w : World) : IO (w.alloc (.cells #[] 25)) w.heap.size (.slice (some ⟨w.heap.size, 0, none⟩) 0 0) [] := ⟨rfl, .inr ⟨w.heap.size, 0, #[], rfl, Nat.le_refl _, heap_alloc_new w _, Nat.le_refl _, by decide, rfl, rfl⟩⟩
def eqT (d : Nat) (xs ys : Array Value) : List (Bool × TypeId × Nat) → Sem Bool
  | [] => pure true
  | (b, t, o) :: r =>
    if b = true then do
      let u ← part t xs o
      let v ← part t ys o
      let q ← Op.equalIn d t u v
      if (!q) = true then pure false else eqT d xs ys r
    else eqT d xs ys r
theorem eqF_T (d : Nat) (xs ys : Array Value) : ∀ fs : List Field, Op.eqFields d xs ys fs = eqT d xs ys (fs.map fun f => (decide (f.name ≠ "_"), f.type, f.offset))
  | [] => rfl
  | f :: fs => by
    rw [List.map_cons, Op.eqFields, eqT, eqF_T d xs ys fs]
    by_cases h : f.name ≠ "_"
    · rw [if_pos h, if_pos (by exact decide_eq_true h)]
    · rw [if_neg h, if_neg (by rw [decide_eq_false h]; decide)]
theorem fieldsIt : (Tryd.prog.fieldsOf 25).toList.map (fun f => (decide (f.name ≠ "_"), f.type, f.offset)) = [(true, 9, 0), (true, 3, 1), (true, 3, 2), (true, 3, 3), (true, 9, 4)] := by kernel_rfl
theorem str_it (a b : List UInt8) (w : World) : (Op.equalIn 9999 9 (.string (mkB a)) (.string (mkB b))).run Tryd.prog w = .ok (decide (a = b)) w := by
  rw [run_equalIn_string _ _ _ _ _ Tryd.underlying9]
  congr 1
  exact mkB_beq a b
theorem int_it (a b : Int) (w : World) : (Op.equalIn 9999 3 (.int .i64 a) (.int .i64 b)).run Tryd.prog w = .ok (decide (a = b)) w := by
  rw [run_equalIn_int _ _ _ _ _ _ _ Tryd.underlying3]
  congr 1
theorem eql_it (x y : It) (w : World) : (binOp .eql 25 (.agg #[.string (mkB x.p), .int .i64 x.k, .int .i64 x.m, .int .i64 x.t, .string (mkB x.d)]) (.agg #[.string (mkB y.p), .int .i64 y.k, .int .i64 y.m, .int .i64 y.t, .string (mkB y.d)])).run Tryd.prog w = .ok (.bool (decide (x = y))) w := by
  rw [run_eql_struct, run_equalIn_agg _ _ _ _ _ Tryd.undIt Tryd.stoodIt, eqF_T, fieldsIt]
  have p0 : ∀ (z : It), (part 9 #[.string (mkB z.p), .int .i64 z.k, .int .i64 z.m, .int .i64 z.t, .string (mkB z.d)] 0).run Tryd.prog w = .ok (.string (mkB z.p)) w := fun z => by kernel_rfl
  have p1 : ∀ (z : It), (part 3 #[.string (mkB z.p), .int .i64 z.k, .int .i64 z.m, .int .i64 z.t, .string (mkB z.d)] 1).run Tryd.prog w = .ok (.int .i64 z.k) w := fun z => by kernel_rfl
  have p2 : ∀ (z : It), (part 3 #[.string (mkB z.p), .int .i64 z.k, .int .i64 z.m, .int .i64 z.t, .string (mkB z.d)] 2).run Tryd.prog w = .ok (.int .i64 z.m) w := fun z => by kernel_rfl
  have p3 : ∀ (z : It), (part 3 #[.string (mkB z.p), .int .i64 z.k, .int .i64 z.m, .int .i64 z.t, .string (mkB z.d)] 3).run Tryd.prog w = .ok (.int .i64 z.t) w := fun z => by kernel_rfl
  have p4 : ∀ (z : It), (part 9 #[.string (mkB z.p), .int .i64 z.k, .int .i64 z.m, .int .i64 z.t, .string (mkB z.d)] 4).run Tryd.prog w = .ok (.string (mkB z.d)) w := fun z => by kernel_rfl
  have h := @it_eq x y
  simp only [eqT, if_true, Sem.run_bind, p0, p1, p2, p3, p4, Result.andThen_ok, str_it, int_it, Sem.run_ite, Sem.run_pure]
  by_cases h0 : x.p = y.p <;> by_cases h1 : x.k = y.k <;> by_cases h2 : x.m = y.m <;> by_cases h3 : x.t = y.t <;> by_cases h4 : x.d = y.d <;> simp [h0, h1, h2, h3, h4, h]
end Go.Proofs.YtmjfcneofpddiaaDoor
