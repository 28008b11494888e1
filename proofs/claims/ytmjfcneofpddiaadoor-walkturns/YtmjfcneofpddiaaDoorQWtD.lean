/- Contracts: walk.Diff of two trees; the law's turned; items put ahead of others. -/
import Derived.Test.YtmjfcneofpddiaaDoorQWtC
namespace Go.Proofs.YtmjfcneofpddiaaDoor
open Go.RowKit Go.Maps
set_option linter.unusedVariables false
set_option linter.unusedSimpArgs false

theorem IO.base {w : World} {B B' : Nat} {v : Value} {l : List It} (h : IO w B v l) (hB : B' ≤ B) : IO w B' v l := by
  refine ⟨h.1, ?_⟩
  rcases h.2 with h2 | ⟨g, c, cur, h1, h2, h3⟩
  · exact .inl h2
  · exact .inr ⟨g, c, cur, h1, Nat.le_trans hB h2, h3⟩
/-- append(s, t...) of two rows of items. -/
theorem append_its {w : World} {ops : Array Oper} {rest : List Oper} {o : Oper} {a : Act} {Q : Exit → Act → World → Prop} (hgd : o.guard = none) (s y : Operand)
    (ho : o.op = .call { callee := .builtin .append, args := #[s, y], argTypes := #[22, 22] })
    (B B2 : Nat) (v u : Value) (l m : List It) (hs : a.eval s = v) (hx : a.eval y = u) (hO : IO w B v l) (hM : IO w B2 u m) (hl : l.length + m.length ≤ 1000000) (hB : B ≤ w.heap.size)
    (h : ∀ a' c' w', IO w' B (.slice a' (l ++ m).length c') (l ++ m) → w.grownBy w' v.ownBlock → wpList Tryd.prog ops Q rest (a.put o.dst (.slice a' (l ++ m).length c')) w') : wpList Tryd.prog ops Q (o :: rest) a w := by
  obtain ⟨i0, hi, hz0, hz1, hz2⟩ := info_parts Tryd.infoIt
  rcases id hM.2 with ⟨rfl, h0⟩ | ⟨g, cap, cur, rfl, _, _, hcc, _⟩
  · obtain rfl : m = [] := List.length_eq_zero_iff.1 h0
    rw [List.append_nil] at h
    refine wpList_append_own_none hgd s y 22 ho B 25 i0 5 Tryd.underlying22 hi _ _ _ hs hO hx ?_
    obtain ⟨a', c', rfl⟩ := hO.shape
    exact h a' c' w hO ⟨rfl, rfl, rfl, Nat.le_refl _, fun _ _ _ => rfl⟩
  · have hN : ∀ j u, (itsC m)[j]? = some u → w.cell? ((⟨g, 0, none⟩ : Addr).add j) = some u := fun j u hu => World.ownsRow.cells hM (g := g) rfl j u hu
    refine wpList_append_own_at _ hgd s y 22 ho B 25 i0 (.agg #[.string ⟨#[]⟩, .int .i64 0, .int .i64 0, .int .i64 0, .string ⟨#[]⟩]) 5 56 Tryd.underlying22 hi hz0 hz1 hz2 rfl (by decide) v _ _ hs hO ⟨g, 0, none⟩ m.length cap (itsC m) hx (by rw [itsC_len]) hN (itsC_one _) (by unfold maxLen; omega) (by omega) hB ?_
    intro v' w' hown hg _ _
    have hO' : IO w' B v' (l ++ m) := by unfold IO; rw [itsC_append, List.length_append]; exact hown
    obtain ⟨a', c', rfl⟩ := hO'.shape
    exact h a' c' w' hO' hg
theorem CO.at {w : World} {B : Nat} {a : Option Addr} {n cap : Nat} {l : List Chg} (h : CO w B (.slice a n cap) l) {i : Nat} {x : Chg} (hi : l[i]? = some x) : ∃ g, a = some ⟨g, 0, Option.none⟩ ∧ g < w.heap.size ∧ n = l.length ∧ w.cell? ⟨g, i * 2, Option.none⟩ = some (.string (mkB x.p)) ∧ w.cell? ⟨g, i * 2 + 1, Option.none⟩ = some (.int .i64 x.w) := by
  have hlt := (List.getElem?_eq_some_iff.1 hi).1
  have h' := h
  rcases h.2 with ⟨e, h0⟩ | ⟨g, c, cur, e, _, h4, _⟩
  · omega
  · injection e with e1 e2 e3
    subst e1
    refine ⟨g, rfl, (Array.getElem?_eq_some_iff.1 h4).1, e2, ?_, ?_⟩
    · have := World.ownsRow.cells h' (g := g) rfl (i * 2 + 0) _ (chsC_at l i x hi 0 (by omega))
      rw [Addr.add_mid, Nat.zero_add, Nat.add_zero] at this; exact this
    · have := World.ownsRow.cells h' (g := g) rfl (i * 2 + 1) _ (chsC_at l i x hi 1 (by omega))
      rw [Addr.add_mid, Nat.zero_add] at this; exact this
theorem turned_any (a b : Int) (w : World) (h : trn a b) : Calls Tryd.prog 10 #[.int .i64 a, .int .i64 b] w fun e w' => e = .returned (.bool true) ∧ w' = w := by
  rcases h with ⟨rfl, rfl⟩ | ⟨rfl, rfl⟩ | ⟨rfl, rfl⟩
  all_goals
    go_enter Tryd.func10, Tryd.ntmps10
    go_wp2
    go_ret
    exact ⟨rfl, rfl⟩
theorem WalkP.good {w w' : World} {l : List It} {e : Ending} (h : WalkP w w' l e) (ht : IsTree l) : ∃ v' l', e = .returned (.tuple #[v', .int .i64 0]) ∧ l'.Perm l ∧ Srt l' ∧ IV w' v' l' ∧ NewV w.heap.size v' := by
  rcases h with ⟨z, hz, hc, _⟩ | ⟨_, h⟩
  · exact absurd ((chk_tree hc).2 ht) hz
  · exact h
set_option maxRecDepth 100000 in
set_option maxHeartbeats 4000000 in
theorem diff_any (u v : Value) (a b : List It) (w : World) (hu : IV w u a) (hv : IV w v b) (ba : ItB a) (bb : ItB b) (hL : Lay11 w) (ta : IsTree a) (tb : IsTree b) :
    Calls Tryd.prog 9 #[u, v] w fun e w' => ∃ la lb a' c', la.Perm a ∧ Srt la ∧ lb.Perm b ∧ Srt lb ∧ e = .returned (.tuple #[.slice a' (chgN la lb).length c', .int .i64 0]) ∧ CO w' w.heap.size (.slice a' (chgN la lb).length c') (chgN la lb) ∧ Below w.heap.size w w' := by
  have HV : Hid (IV w v b) := hv
  have HBB : Hid (ItB b) := bb
  have HL : Hid (Lay11 w) := hL
  have HTA : Hid (IsTree a) := ta
  have HTB : Hid (IsTree b) := tb
  have HW1 : Hid (Calls Tryd.prog _ _ _ _) := walk_any u a w hu ba hL (by have := ta.1; omega)
  clear hu hv ba bb hL ta tb
  go_enter Tryd.func9, Tryd.ntmps9
  go_wp2_with fail
  refine HW1.out.mono ?_
  rintro e w1 ⟨hw, hb1⟩
  obtain ⟨v1, la, rfl, p1, s1, i1, -⟩ := hw.good HTA.out
  obtain ⟨a1, c1, rfl, -, -, -⟩ := id i1
  have HB1 : Hid (Below w.heap.size w w1) := hb1
  have HI1 : Hid (IV w1 (.slice a1 la.length c1) la) := i1
  have HP1 : Hid (la.Perm a ∧ Srt la) := ⟨p1, s1⟩
  have HW2 : Hid (Calls Tryd.prog _ _ _ _) := walk_any v b w1 (HV.out.below hb1) HBB.out (HL.out.below hb1) (by have := HTB.out.1; omega)
  clear hw hb1 p1 s1 i1 HW1
  go_wp2_with fail
  refine HW2.out.mono ?_
  rintro e w2 ⟨hw, hb2⟩
  obtain ⟨v2, lb, rfl, p2, s2, i2, -⟩ := hw.good HTB.out
  obtain ⟨a2, c2, rfl, -, -, -⟩ := id i2
  have HB2 : Hid (Below w.heap.size w w2) := HB1.out.trans (hb2.mono HB1.out.size)
  have HP2 : Hid (lb.Perm b ∧ Srt lb) := ⟨p2, s2⟩
  have HCH : Hid (Calls Tryd.prog _ _ _ _) := changes_any (.slice a1 la.length c1) (.slice a2 lb.length c2) la lb w2 (HI1.out.below hb2) i2 (by rw [HP1.out.1.length_eq]; exact HTA.out.1) (by rw [p2.length_eq]; exact HTB.out.1) (fun x hx => by have := (fit_len (HTA.out.2.1 x (HP1.out.1.mem_iff.1 hx))).1; omega) (fun x hx => by have := (fit_len (HTB.out.2.1 x (p2.mem_iff.1 hx))).1; omega) (HL.out.below HB2.out)
  clear hw hb2 p2 s2 i2 HW2
  go_wp2_with fail
  refine HCH.out.mono ?_
  rintro e w3 ⟨a3, c3, rfl, hc, hb3⟩
  have HC : Hid (CO w3 w2.heap.size (.slice a3 (chgN la lb).length c3) (chgN la lb)) := hc
  have HB3 : Hid (Below w.heap.size w w3) := HB2.out.trans (hb3.mono HB2.out.size)
  have HCL : Hid (w.heap.size ≤ w2.heap.size) := HB2.out.size
  clear hc hb3 HCH
  go_wp2
  go_ret2
  refine ⟨la, lb, a3, c3, HP1.out.1, HP1.out.2, HP2.out.1, HP2.out.2, rfl, ⟨HC.out.1, ?_⟩, HB3.out⟩
  rcases HC.out.2 with h2 | ⟨g, c, cur, h1, h2, h3⟩
  · exact .inl h2
  · exact .inr ⟨g, c, cur, h1, Nat.le_trans HCL.out h2, h3⟩
end Go.Proofs.YtmjfcneofpddiaaDoor
