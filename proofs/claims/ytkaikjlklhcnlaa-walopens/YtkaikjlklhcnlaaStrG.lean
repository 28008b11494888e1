/- append(s, x) for one text x, behind a guard. -/
import Derived.Test.YtkaikjlklhcnlaaStrT
namespace Go.Proofs.Ytkaikjlklhcnlaa
open Go.RowKit
set_option linter.unusedVariables false
set_option linter.unusedSimpArgs false

theorem append_one_g {w : World} {ops : Array Oper} {rest : List Oper} {o : Oper} {a : Act} {Q : Exit → Act → World → Prop} (hgw : Region.wanted o (yielded ops a.tmps) = true) (s x : Operand)
    (ho : o.op = .call { callee := .builtin .append, args := #[s, x], argTypes := #[23, 23] })
    (B : Nat) (v : Value) (l : List (List UInt8)) (X : List UInt8) (hs : a.eval s = v) (hx : a.eval x = .slice (some ⟨w.heap.size, 0, none⟩) 1 1) (hO : OS w B v l) (hl : l.length + 1 ≤ 1000000) (hB : B ≤ w.heap.size)
    (h : ∀ a' c' w', OS w' B (.slice a' (l.length + 1) c') (l ++ [X]) → w.grownBy w' v.ownBlock → (∀ r, (Value.slice a' (l.length + 1) c').ownBlock = some r → v.ownBlock = some r ∨ w.heap.size ≤ r ∧ r < w'.heap.size) → wpList Try.prog ops Q rest (a.put o.dst (.slice a' (l.length + 1) c')) w') : wpList Try.prog ops Q (o :: rest) a (w.alloc (.cells #[.string (mkT X)] 9)) := by
  obtain ⟨i0, hi, hz0, hz1, hz2⟩ := info_parts Try.infoStr
  have hb : Below w.heap.size w (w.alloc (.cells #[.string (mkT X)] 9)) := (Below.refl _ _).alloc (Nat.le_refl _) _
  have hN : ∀ j y, (sc [X])[j]? = some y → (w.alloc (.cells #[.string (mkT X)] 9)).cell? ((⟨w.heap.size, 0, none⟩ : Addr).add j) = some y := fun j y hy => by
    have hj : j < (sc [X]).length := (List.getElem?_eq_some_iff.1 hy).1
    rw [sc_len] at hj
    rw [Addr.add_lit, Nat.zero_add, World.ownsRow.cellAt (OS.made w X) j (by simpa using hj)]; exact hy
  have H1 : ∀ y ∈ sc [X], y.oneCell' = true := by
    intro y hy
    simp [sc] at hy
    subst hy; rfl
  obtain ⟨v', w', hr, hown, hgr, _, hat⟩ := run_append_own_at (P := Try.prog) (w.alloc (.cells #[.string (mkT X)] 9)) B 23 o.type 9 i0 (.string ⟨#[]⟩) 1 16 Try.underlying23 hi hz0 hz1 hz2 rfl (by decide) v _ _ (hO.below hb) ⟨w.heap.size, 0, none⟩ 1 1 (sc [X]) (by rw [sc_len]; rfl) hN H1 (by unfold maxLen; omega) (by omega) (by rw [World.size_alloc]; omega)
  have hO' : OS w' B v' (l ++ [X]) := by
    unfold OS
    rw [sc_append, List.length_append]; exact hown
  obtain ⟨a', c', rfl⟩ := hO'.shape
  have e : (l ++ [X]).length = l.length + 1 := by simp
  rw [e] at hO' hr hat
  refine wpList_step fun K hK => ?_
  rw [if_pos hgw]
  unfold Oper.wp execOp
  simp only [ho, resolve, invoke, builtin, Sem.run_bind, Sem.run_pure, Result.andThen_ok, List.map_toArray, List.map_cons, List.map_nil, hs, hx, hr]
  refine hK _ _ (h a' c' w' hO' (gtrans (gbelow hb) hgr) (fun r hrr => ?_))
  rcases hat with hat | hat
  · exact .inl (hat ▸ hrr)
  · rw [hat] at hrr
    cases hrr
    exact .inr ⟨by simp, (hO'.lt _ hat).2⟩
end Go.Proofs.Ytkaikjlklhcnlaa
