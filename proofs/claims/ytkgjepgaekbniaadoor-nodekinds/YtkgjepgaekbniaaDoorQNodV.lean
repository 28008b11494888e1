/- A tree's nodes as values in memory; contracts of kindOf, Path, asked. -/
import Derived.Test.YtkgjepgaekbniaaDoorRows
import Derived.Test.YtkgjepgaekbniaaDoorQBase
import Derived.Test.YtkgjepgaekbniaaDoorQStrR
namespace Go.Proofs.YtkgjepgaekbniaaDoor
open Go.RowKit
set_option linter.unusedVariables false

/-- A node; 'ptr': a pointer to a folder, which is none. -/
inductive Nd where
  | fol (at' : List UInt8) (mode time : Int)
  | pla (at' : List UInt8) (mode time size : Int) (ch : List (List UInt8))
  | sym (at' : List UInt8) (mode time : Int) (tg : List UInt8)
  | ptr (at' : List UInt8) (mode time : Int)
  | non
/-- v is a slice that shows these texts. -/
def TR (w : World) (v : Value) (l : List (List UInt8)) : Prop :=
  ∃ a cap, v = .slice a l.length cap ∧ l.length ≤ cap ∧ ∀ i, i < l.length → ∃ x, a = some x ∧ w.cell? (x.add i) = some (.string (mkB (l.getD i [])))
/-- v is this node, as a value behind the interface. -/
def NV (w : World) (v : Value) : Nd → Prop
  | .fol a m t => v = .iface 42 (.agg #[.string (mkB a), .int .i64 m, .int .i64 t])
  | .pla a m t s c => ∃ u, v = .iface 29 (.agg #[.string (mkB a), .int .i64 m, .int .i64 t, .int .i64 s, u]) ∧ TR w u c
  | .sym a m t g => v = .iface 44 (.agg #[.string (mkB a), .int .i64 m, .int .i64 t, .string (mkB g)])
  | .ptr a m t => ∃ x : Addr, v = .iface 45 (.pointer (some x)) ∧ w.cell? x = some (.string (mkB a)) ∧ w.cell? (x.add 1) = some (.int .i64 m) ∧ w.cell? (x.add 2) = some (.int .i64 t)
  | .non => v = .nilIface
def kindN : Nd → Int
  | .fol .. => 1
  | .pla .. => 2
  | .sym .. => 3
  | .ptr .. => 0
  | .non => 0
def atN : Nd → List UInt8
  | .fol a _ _ => a
  | .pla a _ _ _ _ => a
  | .sym a _ _ _ => a
  | .ptr a _ _ => a
  | .non => []
theorem ta_hit {P : Program} {t : TypeId} {fs : Array Field} (h : P.underlying t = some (.struct fs)) (v : Value) (xT : TypeId) (w : World) : (Instr.typeAssert (.iface t v) xT t true).run P w = .ok (.tuple #[v, .bool true]) w := by
  simp [Instr.typeAssert, run_underlying h, go_sem, Result.andThen]
theorem ta_miss {P : Program} {t t' : TypeId} {fs : Array Field} {z : Value} (h : P.underlying t' = some (.struct fs)) (hne : t ≠ t') (hz : ∀ w, (zeroValue t').run P w = .ok z w) (v : Value) (xT : TypeId) (w : World) : (Instr.typeAssert (.iface t v) xT t' true).run P w = .ok (.tuple #[z, .bool false]) w := by
  simp [Instr.typeAssert, run_underlying h, go_sem, Result.andThen, hne, hz]
theorem ta_nil {P : Program} {t' : TypeId} {fs : Array Field} {z : Value} (h : P.underlying t' = some (.struct fs)) (hz : ∀ w, (zeroValue t').run P w = .ok z w) (xT : TypeId) (w : World) : (Instr.typeAssert .nilIface xT t' true).run P w = .ok (.tuple #[z, .bool false]) w := by
  simp [Instr.typeAssert, run_underlying h, go_sem, Result.andThen, hz]
/-- The zero values of the three types. -/
def zF : Value := .agg #[.string ⟨#[]⟩, .int .i64 0, .int .i64 0]
def zP : Value := .agg #[.string ⟨#[]⟩, .int .i64 0, .int .i64 0, .int .i64 0, .slice none 0 0]
def zS : Value := .agg #[.string ⟨#[]⟩, .int .i64 0, .int .i64 0, .string ⟨#[]⟩]
theorem taFF (v : Value) (xT : TypeId) (w : World) : (Instr.typeAssert (.iface 42 v) xT 42 true).run Tryd.prog w = .ok (.tuple #[v, .bool true]) w := ta_hit Tryd.underlying42 v xT w
theorem taPF (v : Value) (xT : TypeId) (w : World) : (Instr.typeAssert (.iface 29 v) xT 42 true).run Tryd.prog w = .ok (.tuple #[zF, .bool false]) w := ta_miss Tryd.underlying42 (by decide) Tryd.zeroValue42 v xT w
theorem taSF (v : Value) (xT : TypeId) (w : World) : (Instr.typeAssert (.iface 44 v) xT 42 true).run Tryd.prog w = .ok (.tuple #[zF, .bool false]) w := ta_miss Tryd.underlying42 (by decide) Tryd.zeroValue42 v xT w
theorem taXF (v : Value) (xT : TypeId) (w : World) : (Instr.typeAssert (.iface 45 v) xT 42 true).run Tryd.prog w = .ok (.tuple #[zF, .bool false]) w := ta_miss Tryd.underlying42 (by decide) Tryd.zeroValue42 v xT w
theorem taNF (xT : TypeId) (w : World) : (Instr.typeAssert .nilIface xT 42 true).run Tryd.prog w = .ok (.tuple #[zF, .bool false]) w := ta_nil Tryd.underlying42 Tryd.zeroValue42 xT w
theorem taFP (v : Value) (xT : TypeId) (w : World) : (Instr.typeAssert (.iface 42 v) xT 29 true).run Tryd.prog w = .ok (.tuple #[zP, .bool false]) w := ta_miss Tryd.underlying29 (by decide) Tryd.zeroValue29 v xT w
theorem taPP (v : Value) (xT : TypeId) (w : World) : (Instr.typeAssert (.iface 29 v) xT 29 true).run Tryd.prog w = .ok (.tuple #[v, .bool true]) w := ta_hit Tryd.underlying29 v xT w
theorem taSP (v : Value) (xT : TypeId) (w : World) : (Instr.typeAssert (.iface 44 v) xT 29 true).run Tryd.prog w = .ok (.tuple #[zP, .bool false]) w := ta_miss Tryd.underlying29 (by decide) Tryd.zeroValue29 v xT w
theorem taXP (v : Value) (xT : TypeId) (w : World) : (Instr.typeAssert (.iface 45 v) xT 29 true).run Tryd.prog w = .ok (.tuple #[zP, .bool false]) w := ta_miss Tryd.underlying29 (by decide) Tryd.zeroValue29 v xT w
theorem taNP (xT : TypeId) (w : World) : (Instr.typeAssert .nilIface xT 29 true).run Tryd.prog w = .ok (.tuple #[zP, .bool false]) w := ta_nil Tryd.underlying29 Tryd.zeroValue29 xT w
theorem taFS (v : Value) (xT : TypeId) (w : World) : (Instr.typeAssert (.iface 42 v) xT 44 true).run Tryd.prog w = .ok (.tuple #[zS, .bool false]) w := ta_miss Tryd.underlying44 (by decide) Tryd.zeroValue44 v xT w
theorem taPS (v : Value) (xT : TypeId) (w : World) : (Instr.typeAssert (.iface 29 v) xT 44 true).run Tryd.prog w = .ok (.tuple #[zS, .bool false]) w := ta_miss Tryd.underlying44 (by decide) Tryd.zeroValue44 v xT w
theorem taSS (v : Value) (xT : TypeId) (w : World) : (Instr.typeAssert (.iface 44 v) xT 44 true).run Tryd.prog w = .ok (.tuple #[v, .bool true]) w := ta_hit Tryd.underlying44 v xT w
theorem taXS (v : Value) (xT : TypeId) (w : World) : (Instr.typeAssert (.iface 45 v) xT 44 true).run Tryd.prog w = .ok (.tuple #[zS, .bool false]) w := ta_miss Tryd.underlying44 (by decide) Tryd.zeroValue44 v xT w
theorem taNS (xT : TypeId) (w : World) : (Instr.typeAssert .nilIface xT 44 true).run Tryd.prog w = .ok (.tuple #[zS, .bool false]) w := ta_nil Tryd.underlying44 Tryd.zeroValue44 xT w
set_option maxRecDepth 100000 in
set_option maxHeartbeats 400000 in
theorem kindOf_any (n : Nd) (v : Value) (w : World) (h : NV w v n) :
    Calls Tryd.prog 18 #[v] w fun e w' => e = .returned (.int .i64 (kindN n)) ∧ w' = w := by
  cases n with
  | fol a m t =>
    obtain rfl := h
    have q1 := taFF
    go_enter Tryd.func18, Tryd.ntmps18
    go_wp2
    go_ret
    exact ⟨rfl, rfl⟩
  | pla a m t s c =>
    obtain ⟨u, rfl, hu⟩ := h
    have q1 := taPF
    have q2 := taPP
    go_enter Tryd.func18, Tryd.ntmps18
    go_wp2
    go_ret
    exact ⟨rfl, rfl⟩
  | sym a m t g =>
    obtain rfl := h
    have q1 := taSF
    have q2 := taSP
    have q3 := taSS
    go_enter Tryd.func18, Tryd.ntmps18
    go_wp2
    go_ret
    exact ⟨rfl, rfl⟩
  | ptr a m t =>
    obtain ⟨x, rfl, hx⟩ := h
    have q1 := taXF
    have q2 := taXP
    have q3 := taXS
    go_enter Tryd.func18, Tryd.ntmps18
    go_wp2
    go_ret
    exact ⟨rfl, rfl⟩
  | non =>
    obtain rfl := h
    have q1 := taNF
    have q2 := taNP
    have q3 := taNS
    go_enter Tryd.func18, Tryd.ntmps18
    go_wp2
    go_ret
    exact ⟨rfl, rfl⟩
end Go.Proofs.YtkgjepgaekbniaaDoor
