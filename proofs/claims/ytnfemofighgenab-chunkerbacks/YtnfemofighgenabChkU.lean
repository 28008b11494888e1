/- append(a, b...) of texts of one's own. -/
import Derived.Test.YtnfemofighgenabChkQ
namespace Go.Proofs.Ytnfemofighgenab
open Go.RowKit
set_option linter.unusedVariables false

theorem append_os {w : World} {ops : Array Oper} {rest : List Oper} {o : Oper} {a : Act} {Q : Exit → Act → World → Prop} (hgd : o.guard = none) (s x : Operand)
    (ho : o.op = .call { callee := .builtin .append, args := #[s, x], argTypes := #[22, 22] })
    (B C : Nat) (v u : Value) (l m : List (List UInt8)) (hs : a.eval s = v) (hx : a.eval x = u) (hO : OS w B v l) (hU : OS w C u m) (hl : l.length + m.length ≤ 1000000) (hB : B ≤ w.heap.size)
    (h : ∀ v' w', OS w' B v' (l ++ m) → w.grownBy w' v.ownBlock → wpList Try.prog ops Q rest (a.put o.dst v') w') : wpList Try.prog ops Q (o :: rest) a w := by
  obtain ⟨i0, hi, hz0, hz1, hz2⟩ := info_parts Try.infoStr
  have hU' := hU
  rcases hU.2 with ⟨rfl, h0⟩ | ⟨g, cap, cur, rfl, _, _⟩
  · have hm : m = [] := List.length_eq_zero_iff.1 h0
    subst hm
    refine wpList_append_own_none hgd s x 22 ho B 9 i0 1 Try.underlying22 hi v _ _ hs hO hx ?_
    exact h v w (by rw [List.append_nil]; exact hO) (World.grownBy.refl w _)
  · have hN : ∀ j y, (sc m)[j]? = some y → w.cell? ((⟨g, 0, none⟩ : Addr).add j) = some y := fun j y hy => by
      have hj : j < (sc m).length := (List.getElem?_eq_some_iff.1 hy).1
      rw [sc_len] at hj
      rw [Addr.add_lit, Nat.zero_add, World.ownsRow.cellAt hU' j (by omega)]; exact hy
    have H1 : ∀ y ∈ sc m, y.oneCell' = true := by
      intro y hy
      simp [sc] at hy
      obtain ⟨_, _, rfl⟩ := hy; rfl
    refine wpList_append_own _ hgd s x 22 ho B 9 i0 (.string ⟨#[]⟩) 1 16 Try.underlying22 hi hz0 hz1 hz2 rfl (by decide) v _ _ hs hO ⟨g, 0, none⟩ m.length cap (sc m) hx (by rw [sc_len, Nat.mul_one]) hN H1 (by unfold maxLen; omega) (by omega) hB ?_
    intro v' w' hown' hgrow' _
    refine h v' w' ?_ hgrow'
    unfold OS
    rw [sc_append, List.length_append]; exact hown'
theorem OS.shape {w : World} {B : Nat} {v : Value} {l : List (List UInt8)} (h : OS w B v l) : ∃ a c, v = .slice a l.length c := by
  rcases h.2 with ⟨rfl, h0⟩ | ⟨g', cap, cur, rfl, _⟩
  · exact ⟨none, 0, by rw [h0]⟩
  · exact ⟨_, cap, rfl⟩
end Go.Proofs.Ytnfemofighgenab
