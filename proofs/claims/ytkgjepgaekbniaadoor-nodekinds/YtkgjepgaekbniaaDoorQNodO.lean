/- The law's builder of nodes: Of. -/
import Derived.Test.YtkgjepgaekbniaaDoorRows
import Derived.Test.YtkgjepgaekbniaaDoorQNodG
import Derived.Test.YtkgjepgaekbniaaDoorQRecs
import Derived.Deep.AppendLies
import Derived.Deep.RegionHeld3
namespace Go.Proofs.YtkgjepgaekbniaaDoor
open Go.RowKit
set_option linter.unusedVariables false
set_option linter.unusedSimpArgs false

/-- The node of a record. -/
def ndOf (r : Rc) : Nd :=
  if r.kind = 1 then .fol r.at' r.mode r.time else if r.kind = 2 then .pla r.at' r.mode r.time r.size r.ch
  else if r.kind = 3 then .sym r.at' r.mode r.time r.tg else if r.kind = 4 then .ptr r.at' r.mode r.time else .non
theorem ndOf_NB {r : Rc} (h : r.ok) : NB (ndOf r) := by
  obtain ⟨_, _, _, h4, h5, h6, h7, h8⟩ := h
  unfold ndOf
  split
  · exact h5
  · split
    · exact ⟨h5, h4.1, h4.2, h7, h8⟩
    · split
      · exact ⟨h5, h6⟩
      · split
        · exact h5
        · trivial
theorem tc_app (a b : List (List UInt8)) : tc (a ++ b) = tc a ++ tc b := by unfold tc; simp
set_option maxRecDepth 100000 in
theorem run_append_texts {w : World} {B : Nat} {v u : Value} {l c : List (List UInt8)} (ty : TypeId) (hO : OT w B v l) (hU : TR w u c) (hl : l.length + c.length ≤ 8796093022208) (hB : B ≤ w.heap.size) :
    ∃ a' cap' w', (Builtin.append_ #[22, 22] ty #[v, u]).run Tryd.prog w = .ok (.slice a' (l ++ c).length cap') w' ∧ OT w' B (.slice a' (l ++ c).length cap') (l ++ c) ∧ w.grownBy w' v.ownBlock := by
  obtain ⟨i0, hi, hz0, hz1, hz2⟩ := info_parts Tryd.infoTx
  have ht := Tryd.underlying22
  obtain ⟨a, cap, rfl, hle, hc⟩ := hU
  have shape : ∀ (w' : World) (v' : Value) (m : List (List UInt8)), OT w' B v' m → ∃ a' cap', v' = .slice a' m.length cap' := fun w' v' m h => by
    rcases h.2 with ⟨rfl, h0⟩ | ⟨g', cap, cur, rfl, _⟩
    · exact ⟨none, 0, by rw [h0]⟩
    · exact ⟨_, cap, rfl⟩
  cases a with
  | none =>
    have h0 : c.length = 0 := by
      rcases Nat.eq_zero_or_pos c.length with h | h
      · exact h
      · obtain ⟨x, hx, _⟩ := hc 0 h; cases hx
    obtain rfl := List.length_eq_zero_iff.1 h0
    obtain ⟨a', cap', rfl⟩ := shape _ _ _ hO
    rw [List.append_nil]
    refine ⟨a', cap', w, ?_, hO, World.grownBy.refl w _⟩
    rcases hO.2 with ⟨he, h0⟩ | ⟨g, cap, cur, he, _, _, hnc, _⟩
    · injection he with e1 e2 e3
      subst e1 e3
      rw [h0]
      simp [Builtin.append_, run_underlying ht, sizeOf, typeInfo, hi, Builtin.lenOf, Builtin.firstCells]
    · injection he with e1 e2 e3
      subst e1 e3
      simp [Builtin.append_, run_underlying ht, sizeOf, typeInfo, hi, Builtin.lenOf, Builtin.firstCells, hnc, storeCells]
  | some ad =>
    have hN : ∀ j y, (tc c)[j]? = some y → w.cell? (ad.add j) = some y := fun j y hy => by
      have hj : j < (tc c).length := (List.getElem?_eq_some_iff.1 hy).1
      rw [tc_len] at hj
      obtain ⟨x, hx, hxc⟩ := hc j hj
      obtain rfl := Option.some.inj hx
      rw [hxc, ← hy, tc_get c j hj]
    have H1 : ∀ y ∈ tc c, y.oneCell' = true := by
      intro y hy
      simp [tc] at hy
      obtain ⟨_, _, rfl⟩ := hy; rfl
    obtain ⟨v', w', hr, hown, hgr, _⟩ := run_append_own_at (P := Tryd.prog) w B 22 ty 9 i0 (.string ⟨#[]⟩) 1 16 ht hi hz0 hz1 hz2 rfl (by decide) v _ _ hO ad c.length cap (tc c) (by rw [tc_len, Nat.mul_one]) hN H1 (by unfold maxLen; omega) (by omega) hB
    have hO' : OT w' B v' (l ++ c) := by
      unfold OT
      rw [tc_app, List.length_append]; exact hown
    obtain ⟨a', cap', rfl⟩ := shape _ _ _ hO'
    exact ⟨a', cap', w', hr, hO', hgr⟩
theorem step_append_texts {w : World} {ops : Array Oper} {o : Oper} {a : Act} {K : Act → World → Prop} {Q : Exit → Act → World → Prop} {E : Prop} (hgd : o.guard = none) (s x : Operand)
    (ho : o.op = .call { callee := .builtin .append, args := #[s, x], argTypes := #[22, 22] })
    (B : Nat) (v u : Value) (l c : List (List UInt8)) (hs : a.eval s = v) (hx : a.eval x = u) (hO : OT w B v l) (hU : TR w u c) (hl : l.length + c.length ≤ 8796093022208) (hB : B ≤ w.heap.size)
    (h : ∀ a' cap' w', OT w' B (.slice a' (l ++ c).length cap') (l ++ c) → w.grownBy w' v.ownBlock → K (a.put o.dst (.slice a' (l ++ c).length cap')) w') :
    if Region.wanted o (yielded ops a.tmps) = true then Oper.wp Tryd.prog o a w K Q else E := by
  have hw : Region.wanted o (yielded ops a.tmps) = true := by simp [Region.wanted, hgd]
  rw [if_pos hw]
  obtain ⟨a', cap', w', hr, h2, h3⟩ := run_append_texts o.type hO hU hl hB
  unfold Oper.wp execOp
  simp only [ho, resolve, invoke, builtin, Sem.run_bind, Sem.run_pure, Result.andThen_ok, List.map_toArray, List.map_cons, List.map_nil, hs, hx, hr]
  exact h a' cap' w' h2 h3
set_option maxRecDepth 100000 in
set_option maxHeartbeats 2000000 in
theorem of_any (r : Rc) (u : Value) (w : World) (hu : TR w u r.ch) (hl : r.ch.length ≤ 8796093022208) :
    Calls Tryd.prog 4 #[.agg (r.cells u).toArray] w fun e w' => ∃ v, e = .returned v ∧ NO w' w.heap.size v (ndOf r) ∧ Below w.heap.size w w' := by
  obtain ⟨kind, at', mode, time, size, ch, tg⟩ := r
  obtain ⟨ua, uc, rfl⟩ : ∃ a c, u = .slice a ch.length c := by obtain ⟨a, c, hv, _⟩ := hu; exact ⟨a, c, hv⟩
  simp only [Rc.cells] at *
  have HU : Hid (TR w (.slice ua ch.length uc) ch) := hu
  clear hu
  have hal : ∀ o : Obj, Below w.heap.size w (w.alloc o) := fun o => (Below.refl _ _).alloc (Nat.le_refl _) o
  by_cases k1 : kind = 1
  · subst k1
    rw [show ndOf ⟨1, at', mode, time, size, ch, tg⟩ = .fol at' mode time from rfl]
    go_enter Tryd.func4, Tryd.ntmps4
    go_wp2
    go_ret
    exact ⟨_, rfl, rfl, hal _⟩
  by_cases k3 : kind = 3
  · subst k3
    rw [show ndOf ⟨3, at', mode, time, size, ch, tg⟩ = .sym at' mode time tg from rfl]
    go_enter Tryd.func4, Tryd.ntmps4
    go_wp2
    go_ret
    exact ⟨_, rfl, rfl, hal _⟩
  by_cases k4 : kind = 4
  · subst k4
    rw [show ndOf ⟨4, at', mode, time, size, ch, tg⟩ = .ptr at' mode time from rfl]
    go_enter Tryd.func4, Tryd.ntmps4
    go_wp2
    go_ret
    refine ⟨_, rfl, ⟨w.heap.size + 1, by omega, rfl, ?_⟩, (hal _).alloc (by simp) _⟩
    have := heap_alloc_new (w.alloc (Obj.cells #[Value.int IntKind.i64 4, Value.string (mkB at'), Value.int IntKind.i64 mode, Value.int IntKind.i64 time, Value.int IntKind.i64 size, Value.slice ua ch.length uc, Value.string (mkB tg)] 24)) (Obj.cells #[Value.string (mkB at'), Value.int IntKind.i64 mode, Value.int IntKind.i64 time] 42)
    rw [show (w.alloc (Obj.cells #[Value.int IntKind.i64 4, Value.string (mkB at'), Value.int IntKind.i64 mode, Value.int IntKind.i64 time, Value.int IntKind.i64 size, Value.slice ua ch.length uc, Value.string (mkB tg)] 24)).heap.size = w.heap.size + 1 by simp] at this
    exact this
  by_cases k2 : kind = 2
  · subst k2
    rw [show ndOf ⟨2, at', mode, time, size, ch, tg⟩ = .pla at' mode time size ch from rfl]
    go_enter Tryd.func4, Tryd.ntmps4
    go_wp2
    obtain ⟨w1, hw1⟩ : ∃ w1, w1 = w.alloc (Obj.cells #[Value.int IntKind.i64 2, Value.string (mkB at'), Value.int IntKind.i64 mode, Value.int IntKind.i64 time, Value.int IntKind.i64 size, Value.slice ua ch.length uc, Value.string (mkB tg)] 24) := ⟨_, rfl⟩
    have HB1 : Hid (Below w.heap.size w w1) := by rw [hw1]; exact hal _
    have hbk : w1.heap[w.heap.size]? = some (Obj.cells #[Value.int IntKind.i64 2, Value.string (mkB at'), Value.int IntKind.i64 mode, Value.int IntKind.i64 time, Value.int IntKind.i64 size, Value.slice ua ch.length uc, Value.string (mkB tg)] 24 (0, 0)) := by rw [hw1]; exact heap_alloc_new w _
    have hsz : w1.heap.size = w.heap.size + 1 := by rw [hw1]; simp
    rw [← hw1]
    have HT : Hid (TR w1 (.slice ua ch.length uc) ch) := HU.out.below HB1.out
    clear hw1 hal HU
    have HS : Hid (∀ w2 : World, w2.heap[w.heap.size]? = w1.heap[w.heap.size]? → w2.cell? ⟨w.heap.size, 1, none⟩ = some (.string (mkB at')) ∧ w2.cell? ⟨w.heap.size, 2, none⟩ = some (.int .i64 mode) ∧ w2.cell? ⟨w.heap.size, 3, none⟩ = some (.int .i64 time) ∧ w2.cell? ⟨w.heap.size, 4, none⟩ = some (.int .i64 size) ∧ w2.cell? ⟨w.heap.size, 5, none⟩ = some (.slice ua ch.length uc)) := fun w2 h2 => by
      rw [hbk] at h2
      exact ⟨by rw [Lib.cell_of_heap h2]; rfl, by rw [Lib.cell_of_heap h2]; rfl, by rw [Lib.cell_of_heap h2]; rfl, by rw [Lib.cell_of_heap h2]; rfl, by rw [Lib.cell_of_heap h2]; rfl⟩
    have HSZ : Hid (w1.heap.size = w.heap.size + 1) := hsz
    clear hbk hsz
    generalize hg : w.heap.size = g at *
    have HAL : Hid (∀ n : Nat, ((w1.alloc (.cells #[] 9)).drew).heap[g]? = w1.heap[g]?) := fun _ => Lib.alloc_old w1 _ g (by rw [HSZ.out]; omega)
    have HBA : Hid (Below w1.heap.size w1 ((w1.alloc (.cells #[] 9)).drew)) := ((Below.refl _ _).alloc (Nat.le_refl _) _).drew
    have HOT : Hid (OT ((w1.alloc (.cells #[] 9)).drew) g (.slice (some ⟨w1.heap.size, 0, none⟩) 0 0) []) :=
      World.ownsRow.drew (World.ownsRow_made (base := g) (e := 9) (size := 1) w1 #[] 0 (by rw [HSZ.out]; omega) (by decide) rfl)
    have HTT : Hid (TR ((w1.alloc (.cells #[] 9)).drew) (.slice ua ch.length uc) ch) := HT.out.below HBA.out
    have HLE : Hid (g ≤ ((w1.alloc (.cells #[] 9)).drew).heap.size) := by
      have := HBA.out.size; have := HSZ.out; unfold Hid; omega
    have HLT : Hid (g < ((w1.alloc (.cells #[] 9)).drew).heap.size ∧ some g ≠ some w1.heap.size) := by
      have := HBA.out.size; have := HSZ.out; exact ⟨by omega, fun e => by have := Option.some.inj e; omega⟩
    go_region_held3 (fun (w' : World) => w'.heap[g]? = w1.heap[g]? ∧ w'.cell? ⟨g, 1, none⟩ = some (.string (mkB at')) ∧ w'.cell? ⟨g, 2, none⟩ = some (.int .i64 mode) ∧ w'.cell? ⟨g, 3, none⟩ = some (.int .i64 time) ∧ w'.cell? ⟨g, 4, none⟩ = some (.int .i64 size) ∧ w'.cell? ⟨g, 5, none⟩ = some (.slice ua ch.length uc)) (first | exact ⟨rfl, HS.out _ rfl⟩ | exact ⟨HAL.out 0, HS.out _ (HAL.out 0)⟩ | exact ⟨(hgr2.block g HLT.out.1 HLT.out.2).trans (HAL.out 0), HS.out _ ((hgr2.block g HLT.out.1 HLT.out.2).trans (HAL.out 0))⟩ | assumption | go_keep) ((refine step_append_texts (by rfl) _ _ (by rfl) g (.slice (some ⟨w1.heap.size, 0, none⟩) 0 0) (.slice ua ch.length uc) [] ch (by rfl) (by rfl) HOT.out HTT.out (by simp; omega) HLE.out ?_; intro a' cap' w2 hO2 hgr2))
    go_wp2
    go_ret
    subst hg
    have hb := HB1.out.trans (HBA.out.mono (by rw [HSZ.out]; omega))
    exact ⟨_, rfl, ⟨_, rfl, hO2⟩, hb.grown hgr2 HLE.out (fun k hk => by have e : w1.heap.size = k := Option.some.inj hk; have := HSZ.out; omega)⟩
  · have q1 : (kind == 1) = false := beq_eq_false_iff_ne.2 k1
    have q2 : (kind == 2) = false := beq_eq_false_iff_ne.2 k2
    have q3 : (kind == 3) = false := beq_eq_false_iff_ne.2 k3
    have q4 : (kind == 4) = false := beq_eq_false_iff_ne.2 k4
    rw [show ndOf ⟨kind, at', mode, time, size, ch, tg⟩ = .non by unfold ndOf; simp [k1, k2, k3, k4]]
    go_enter Tryd.func4, Tryd.ntmps4
    go_wp2
    go_ret
    exact ⟨_, rfl, rfl, hal _⟩
end Go.Proofs.YtkgjepgaekbniaaDoor
