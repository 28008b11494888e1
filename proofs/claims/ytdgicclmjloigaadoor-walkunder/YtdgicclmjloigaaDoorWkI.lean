/- Contracts: the law's Few, the document's Same. -/
import Derived.Test.YtdgicclmjloigaaDoorWkH
import Derived.Laws.StructEq
import Derived.Deep.QuietTactic
namespace Go.Proofs.YtdgicclmjloigaaDoor
open Go.RowKit Go.Maps
set_option linter.unusedVariables false
set_option linter.unusedSimpArgs false

theorem it_eq {x y : It} : x = y ↔ x.p = y.p ∧ x.k = y.k ∧ x.m = y.m ∧ x.t = y.t ∧ x.d = y.d := by
  cases x; cases y; simp
theorem itsC_take (l : List It) (n : Nat) : itsC (l.take n) = (itsC l).take (n * 5) := by
  induction l generalizing n with
  | nil => simp [itsC]
  | cons x l ih =>
    cases n with
    | zero => simp [itsC]
    | succ n =>
      have := ih n
      unfold itsC at this ⊢
      rw [List.take_succ_cons, List.flatMap_cons, List.flatMap_cons, this, List.take_append, List.take_of_length_le (l := itC x) (by rw [itC_len]; omega), itC_len, show (n + 1) * 5 - 5 = n * 5 by omega]
theorem IV.cut {w : World} {a : Option Addr} {len cap : Nat} {l : List It} (h : IV w (.slice a len cap) l) (n : Nat) (hn : n ≤ len) : IV w (.slice a n cap) (l.take n) := by
  obtain ⟨a', cap', e, hc, hz, hf⟩ := h
  injection e with e1 e2 e3
  subst e1 e3
  have hl : (l.take n).length = n := by rw [List.length_take]; omega
  refine ⟨a, cap, by rw [hl], by rw [hl]; omega, hz, fun hne => ?_⟩
  obtain ⟨g, o, rfl, hg, hcl⟩ := hf (fun e => hne (by rw [e]; simp))
  refine ⟨g, o, rfl, hg, fun j u hu => hcl j u ?_⟩
  rw [itsC_take, List.getElem?_take] at hu
  split at hu
  · exact hu
  · cases hu
set_option maxRecDepth 100000 in
set_option maxHeartbeats 2000000 in
/-- append([]api.Item{}, v...). -/
theorem few_copy {w : World} {ops : Array Oper} {rest : List Oper} {o : Oper} {a : Act} {Q : Exit → Act → World → Prop} (hgd : o.guard = none) (s y : Operand)
    (ho : o.op = .call { callee := .builtin .append, args := #[s, y], argTypes := #[22, 22] })
    (v : Value) (l : List It) (hs : a.eval s = .slice (some ⟨w.heap.size, 0, none⟩) 0 0) (hx : a.eval y = v) (hV : IV w v l) (hl : l.length ≤ 1000000)
    (h : ∀ a' c' w', IO w' w.heap.size (.slice a' l.length c') l → Below w.heap.size w w' → wpList Tryd.prog ops Q rest (a.put o.dst (.slice a' l.length c')) w') : wpList Tryd.prog ops Q (o :: rest) a (w.alloc (.cells #[] 25)) := by
  obtain ⟨i0, hi, hz0, hz1, hz2⟩ := info_parts Tryd.infoIt
  have hb : Below w.heap.size w (w.alloc (.cells #[] 25)) := (Below.refl _ _).alloc (Nat.le_refl _) _
  have hO : (w.alloc (.cells #[] 25)).ownsRow w.heap.size 25 5 (.slice (some ⟨w.heap.size, 0, none⟩) 0 0) 0 [] := ⟨rfl, .inr ⟨w.heap.size, 0, #[], rfl, Nat.le_refl _, heap_alloc_new w _, Nat.le_refl _, by decide, rfl, rfl⟩⟩
  obtain ⟨ad, cap, rfl, hc, hzn, hf⟩ := hV.below hb
  cases ad with
  | none =>
    obtain rfl := hzn rfl
    have h0 : l = [] := List.length_eq_zero_iff.1 (by omega)
    subst h0
    refine wpList_append_own_none hgd s y 22 ho w.heap.size 25 i0 5 Tryd.underlying22 hi _ _ _ hs hO hx ?_
    exact h _ 0 _ hO hb
  | some x =>
    have hN : ∀ j u, (itsC l)[j]? = some u → (w.alloc (.cells #[] 25)).cell? (x.add j) = some u := fun j u hu => by
      obtain ⟨g, o, e, _, hcl⟩ := hf (fun e => by rw [e] at hu; simp [itsC] at hu)
      cases e
      rw [Addr.add_mid]; exact hcl j u hu
    refine wpList_append_own_at _ hgd s y 22 ho w.heap.size 25 i0 (.agg #[.string ⟨#[]⟩, .int .i64 0, .int .i64 0, .int .i64 0, .string ⟨#[]⟩]) 5 56 Tryd.underlying22 hi hz0 hz1 hz2 rfl (by decide) _ _ _ hs hO x l.length cap (itsC l) hx (itsC_len l) hN (itsC_one _) (by unfold maxLen; omega) (by omega) (by simp) ?_
    intro v' w' hown hg _ _
    rw [Nat.zero_add, List.nil_append] at hown
    have hO' : IO w' w.heap.size v' l := hown
    obtain ⟨a', c', rfl⟩ := hO'.shape
    exact h a' c' w' hO' (hb.grown hg (by simp) (fun k hk => by cases hk; exact Nat.le_refl _))
set_option maxRecDepth 100000 in
set_option maxHeartbeats 2000000 in
theorem few13_any (a : Option Addr) (len cap : Nat) (l : List It) (n : Nat) (w : World) (hV : IV w (.slice a len cap) l) (hll : l.length = len) (hn : n ≤ 1000) (hl63 : len ≤ 9223372036854775807) :
    Calls Tryd.prog 8 #[.slice a len cap, .int .i64 (n : Int)] w fun e w' => ∃ a' c', e = .returned (.slice a' (l.take n).length c') ∧ IO w' w.heap.size (.slice a' (l.take n).length c') (l.take n) ∧ Below w.heap.size w w' := by
  have hcap : len ≤ cap := by obtain ⟨_, _, e, h, _⟩ := hV; cases e; omega
  by_cases hlt : n < len
  · have hli : (n : Int) < (len : Int) := by omega
    have HV2 : Hid (IV w (.slice a n cap) (l.take n)) := hV.cut n (by omega)
    have HLN : Hid ((l.take n).length = n) := by unfold Hid; rw [List.length_take]; omega
    clear hV hll
    generalize l.take n = l' at HV2 HLN ⊢
    go_enter Tryd.func8, Tryd.ntmps8
    go_wp2_with (at_builtin; refine few_copy rfl _ _ rfl (.slice a n cap) l' rfl rfl HV2.out (by rw [HLN.out]; omega) ?_; intro a' c' w' hO hb)
    have HO : Hid _ := hO
    have HB : Hid _ := hb
    clear hO hb
    go_wp2
    go_ret
    exact ⟨a', c', rfl, HO.out, HB.out⟩
  · have hli : ¬ (n : Int) < (len : Int) := by omega
    have HT : Hid (l.take n = l) := by unfold Hid; rw [List.take_of_length_le (by omega)]
    have HV2 : Hid (IV w (.slice a len cap) l) := hV
    have HLN : Hid (l.length = len) := hll
    clear hV hll
    rw [HT.out]
    go_enter Tryd.func8, Tryd.ntmps8
    go_wp2_with (at_builtin; refine few_copy rfl _ _ rfl (.slice a len cap) l rfl rfl HV2.out (by rw [HLN.out]; omega) ?_; intro a' c' w' hO hb)
    have HO : Hid _ := hO
    have HB : Hid _ := hb
    clear hO hb
    go_wp2
    go_ret
    exact ⟨a', c', rfl, HO.out, HB.out⟩
end Go.Proofs.YtdgicclmjloigaaDoor
