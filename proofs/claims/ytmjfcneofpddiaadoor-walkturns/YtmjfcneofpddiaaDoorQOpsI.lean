/- Contracts: the law's Few, the document's Same. Items (api.Item) that came in: what a walk is told of them. -/
import Derived.Test.YtmjfcneofpddiaaDoorQWkH
import Derived.Laws.StructEq
import Derived.Deep.QuietTactic
import Derived.Deep.Slices
import Derived.ProofKit
import Derived.OpenShut
namespace Go.Proofs.YtmjfcneofpddiaaDoor
open Go.RowKit Go.Maps
set_option linter.unusedVariables false
set_option linter.unusedSimpArgs false

theorem it_eq {x y : It} : x = y ↔ x.p = y.p ∧ x.k = y.k ∧ x.m = y.m ∧ x.t = y.t ∧ x.d = y.d := by
  cases x; cases y; simp
theorem itsC_take (l : List It) (n : Nat) : itsC (l.take n) = (itsC l).take (n * 5) := by
  induction l generalizing n with
  | nil => simp [itsC]
  | cons x l ih =>
    cases n with
    | zero => simp [itsC]
    | succ n =>
      have := ih n
      unfold itsC at this ⊢
      rw [List.take_succ_cons, List.flatMap_cons, List.flatMap_cons, this, List.take_append, List.take_of_length_le (l := itC x) (by rw [itC_len]; omega), itC_len, show (n + 1) * 5 - 5 = n * 5 by omega]
theorem IV.cut {w : World} {a : Option Addr} {len cap : Nat} {l : List It} (h : IV w (.slice a len cap) l) (n : Nat) (hn : n ≤ len) : IV w (.slice a n cap) (l.take n) := by
  obtain ⟨a', cap', e, hc, hz, hf⟩ := h
  injection e with e1 e2 e3
  subst e1 e3
  have hl : (l.take n).length = n := by rw [List.length_take]; omega
  refine ⟨a, cap, by rw [hl], by rw [hl]; omega, hz, fun hne => ?_⟩
  obtain ⟨g, o, rfl, hg, hcl⟩ := hf (fun e => hne (by rw [e]; simp))
  refine ⟨g, o, rfl, hg, fun j u hu => hcl j u ?_⟩
  rw [itsC_take, List.getElem?_take] at hu
  split at hu
  · exact hu
  · cases hu
set_option maxRecDepth 100000 in
set_option maxHeartbeats 2000000 in
/-- append([]api.Item{}, v...). -/
theorem few_copy {w : World} {ops : Array Oper} {rest : List Oper} {o : Oper} {a : Act} {Q : Exit → Act → World → Prop} (hgd : o.guard = none) (s y : Operand)
    (ho : o.op = .call { callee := .builtin .append, args := #[s, y], argTypes := #[22, 22] })
    (v : Value) (l : List It) (hs : a.eval s = .slice (some ⟨w.heap.size, 0, none⟩) 0 0) (hx : a.eval y = v) (hV : IV w v l) (hl : l.length ≤ 1000000)
    (h : ∀ a' c' w', IO w' w.heap.size (.slice a' l.length c') l → Below w.heap.size w w' → wpList Tryd.prog ops Q rest (a.put o.dst (.slice a' l.length c')) w') : wpList Tryd.prog ops Q (o :: rest) a (w.alloc (.cells #[] 25)) := by
  obtain ⟨i0, hi, hz0, hz1, hz2⟩ := info_parts Tryd.infoIt
  have hb : Below w.heap.size w (w.alloc (.cells #[] 25)) := (Below.refl _ _).alloc (Nat.le_refl _) _
  have hO : (w.alloc (.cells #[] 25)).ownsRow w.heap.size 25 5 (.slice (some ⟨w.heap.size, 0, none⟩) 0 0) 0 [] := ⟨rfl, .inr ⟨w.heap.size, 0, #[], rfl, Nat.le_refl _, heap_alloc_new w _, Nat.le_refl _, by decide, rfl, rfl⟩⟩
  obtain ⟨ad, cap, rfl, hc, hzn, hf⟩ := hV.below hb
  cases ad with
  | none =>
    obtain rfl := hzn rfl
    have h0 : l = [] := List.length_eq_zero_iff.1 (by omega)
    subst h0
    refine wpList_append_own_none hgd s y 22 ho w.heap.size 25 i0 5 Tryd.underlying22 hi _ _ _ hs hO hx ?_
    exact h _ 0 _ hO hb
  | some x =>
    have hN : ∀ j u, (itsC l)[j]? = some u → (w.alloc (.cells #[] 25)).cell? (x.add j) = some u := fun j u hu => by
      obtain ⟨g, o, e, _, hcl⟩ := hf (fun e => by rw [e] at hu; simp [itsC] at hu)
      cases e
      rw [Addr.add_mid]; exact hcl j u hu
    refine wpList_append_own_at _ hgd s y 22 ho w.heap.size 25 i0 (.agg #[.string ⟨#[]⟩, .int .i64 0, .int .i64 0, .int .i64 0, .string ⟨#[]⟩]) 5 56 Tryd.underlying22 hi hz0 hz1 hz2 rfl (by decide) _ _ _ hs hO x l.length cap (itsC l) hx (itsC_len l) hN (itsC_one _) (by unfold maxLen; omega) (by omega) (by simp) ?_
    intro v' w' hown hg _ _
    rw [Nat.zero_add, List.nil_append] at hown
    have hO' : IO w' w.heap.size v' l := hown
    obtain ⟨a', c', rfl⟩ := hO'.shape
    exact h a' c' w' hO' (hb.grown hg (by simp) (fun k hk => by cases hk; exact Nat.le_refl _))
set_option maxRecDepth 100000 in
set_option maxHeartbeats 2000000 in
theorem few13_any (a : Option Addr) (len cap : Nat) (l : List It) (n : Nat) (w : World) (hV : IV w (.slice a len cap) l) (hll : l.length = len) (hn : n ≤ 1000) (hl63 : len ≤ 9223372036854775807) :
    Calls Tryd.prog 6 #[.slice a len cap, .int .i64 (n : Int)] w fun e w' => ∃ a' c', e = .returned (.slice a' (l.take n).length c') ∧ IO w' w.heap.size (.slice a' (l.take n).length c') (l.take n) ∧ Below w.heap.size w w' := by
  have hcap : len ≤ cap := by obtain ⟨_, _, e, h, _⟩ := hV; cases e; omega
  by_cases hlt : n < len
  · have hli : (n : Int) < (len : Int) := by omega
    have HV2 : Hid (IV w (.slice a n cap) (l.take n)) := hV.cut n (by omega)
    have HLN : Hid ((l.take n).length = n) := by unfold Hid; rw [List.length_take]; omega
    clear hV hll
    generalize l.take n = l' at HV2 HLN ⊢
    go_enter Tryd.func6, Tryd.ntmps6
    go_wp2_with (at_builtin; refine few_copy rfl _ _ rfl (.slice a n cap) l' rfl rfl HV2.out (by rw [HLN.out]; omega) ?_; intro a' c' w' hO hb)
    have HO : Hid _ := hO
    have HB : Hid _ := hb
    clear hO hb
    go_wp2
    go_ret
    exact ⟨a', c', rfl, HO.out, HB.out⟩
  · have hli : ¬ (n : Int) < (len : Int) := by omega
    have HT : Hid (l.take n = l) := by unfold Hid; rw [List.take_of_length_le (by omega)]
    have HV2 : Hid (IV w (.slice a len cap) l) := hV
    have HLN : Hid (l.length = len) := hll
    clear hV hll
    rw [HT.out]
    go_enter Tryd.func6, Tryd.ntmps6
    go_wp2_with (at_builtin; refine few_copy rfl _ _ rfl (.slice a len cap) l rfl rfl HV2.out (by rw [HLN.out]; omega) ?_; intro a' c' w' hO hb)
    have HO : Hid _ := hO
    have HB : Hid _ := hb
    clear hO hb
    go_wp2
    go_ret
    exact ⟨a', c', rfl, HO.out, HB.out⟩
end Go.Proofs.YtmjfcneofpddiaaDoor
namespace Go.Proofs.YtmjfcneofpddiaaDoor
open Go.ChangeShapes Go.WideShapes Go.ChangeAt Go.RowKit
set_option linter.unusedVariables false

def It.ok (x : It) : Prop := (-9223372036854775808 ≤ x.k ∧ x.k ≤ 9223372036854775807) ∧ (-9223372036854775808 ≤ x.m ∧ x.m ≤ 9223372036854775807) ∧ (-9223372036854775808 ≤ x.t ∧ x.t ≤ 9223372036854775807) ∧ x.p.length ≤ 9223372036854775807 ∧ x.d.length ≤ 9223372036854775807
def IsIts (w : World) (a : Option Addr) (len cap : Nat) (l : List It) : Prop := l.length = len ∧ len ≤ 9223372036854775807 ∧ (∀ x ∈ l, x.ok) ∧ IV w (.slice a len cap) l
theorem Tryd.cellsIt : Tryd.prog.cellsOf 25 = 5 := by kernel_rfl
theorem mkB_of (s : ByteArray) : s = mkB s.data.toList := by cases s; rfl
set_option maxRecDepth 100000 in
theorem open_item {H : Type} {enc : TypeId × Value → H} {w : World} {base fuel : Nat} {cs : List Value} {y : DataW H × List MemPlace}
    (hlen : cs.length = 5) (h2 : DataW.trod enc Tryd.prog w base (fun _ => true) true fuel 25 cs = some y) : ∃ r : It, r.ok ∧ cs = itC r := by
  obtain ⟨xs, k, hk, hxy, _, hxl, hf⟩ := DataW.trod_struct Tryd.underlying25 h2
  match cs, hlen with
  | [v0, v1, v2, v3, v4], _ =>
    have hxl' : xs.length = 5 := hxl
    have g0 : DataW.trod enc Tryd.prog w base (fun _ => true) true k 9 (([v0, v1, v2, v3, v4].drop 0).take (Tryd.prog.cellsOf 9)) = xs[0]? := hf 0 _ rfl
    have g1 : DataW.trod enc Tryd.prog w base (fun _ => true) true k 3 (([v0, v1, v2, v3, v4].drop 1).take (Tryd.prog.cellsOf 3)) = xs[1]? := hf 1 _ rfl
    have g2 : DataW.trod enc Tryd.prog w base (fun _ => true) true k 3 (([v0, v1, v2, v3, v4].drop 2).take (Tryd.prog.cellsOf 3)) = xs[2]? := hf 2 _ rfl
    have g3 : DataW.trod enc Tryd.prog w base (fun _ => true) true k 3 (([v0, v1, v2, v3, v4].drop 3).take (Tryd.prog.cellsOf 3)) = xs[3]? := hf 3 _ rfl
    have g4 : DataW.trod enc Tryd.prog w base (fun _ => true) true k 9 (([v0, v1, v2, v3, v4].drop 4).take (Tryd.prog.cellsOf 9)) = xs[4]? := hf 4 _ rfl
    rw [List.getElem?_eq_getElem (by omega), show Tryd.prog.cellsOf 3 = 1 by kernel_rfl] at g1 g2 g3
    rw [List.getElem?_eq_getElem (by omega), show Tryd.prog.cellsOf 9 = 1 by kernel_rfl] at g0 g4
    simp only [List.drop_zero, List.drop_succ_cons, List.take_succ_cons, List.take_zero] at g0 g1 g2 g3 g4
    obtain ⟨s0, e0, _, w0⟩ := DataW.trod_string Tryd.underlying9 g0
    obtain ⟨n1, e1, _, w1⟩ := DataW.trod_int Tryd.underlying3 g1
    obtain ⟨n2, e2, _, w2⟩ := DataW.trod_int Tryd.underlying3 g2
    obtain ⟨n3, e3, _, w3⟩ := DataW.trod_int Tryd.underlying3 g3
    obtain ⟨s4, e4, _, w4⟩ := DataW.trod_string Tryd.underlying9 g4
    have b1 := bounds_i64 w1
    have b2 := bounds_i64 w2
    have b3 := bounds_i64 w3
    unfold maxLen at w0 w4
    simp only [List.cons.injEq, and_true] at e0 e1 e2 e3 e4
    subst e0 e1 e2 e3 e4
    have z0 : s0.data.toList.length = s0.size := by simp
    have z4 : s4.data.toList.length = s4.size := by simp
    refine ⟨⟨s0.data.toList, n1, n2, n3, s4.data.toList⟩, ⟨b1, b2, b3, by show s0.data.toList.length ≤ _; omega, by show s4.data.toList.length ≤ _; omega⟩, ?_⟩
    simp only [itC, ← mkB_of]
set_option maxRecDepth 100000 in
theorem open_items {H : Type} {enc : TypeId × Value → H} {w : World} {base : Nat} {a : Option Addr} {len cap : Nat} {d : DataW H} {p : List MemPlace}
    (h : DataW.Trod enc Tryd.prog w base (fun _ => true) true 22 (.slice a len cap) d p) : ∃ l, IsIts w a len cap l := by
  obtain ⟨fuel, hf⟩ := h
  rcases Go.Deep.open_slice Tryd.underlying22 hf with ⟨hcs, _⟩ | ⟨x, l, c, m, n, D, Pl, hcs, hb, hl, hm, hmm, _, hx⟩
  · simp [Value.cells] at hcs
    obtain ⟨rfl, rfl, rfl⟩ := hcs
    exact ⟨[], rfl, by omega, fun x hx => (by cases hx), none, 0, rfl, Nat.le_refl _, fun _ => rfl, fun h => absurd rfl h⟩
  · simp [Value.cells] at hcs
    obtain ⟨rfl, rfl, rfl⟩ := hcs
    simp only [if_true] at hmm
    subst hmm
    unfold maxLen at hm
    have each : ∀ i, i < len → ∃ R : It, R.ok ∧ ∀ j v, (itC R)[j]? = some v → w.cell? (x.add (i * 5 + j)) = some v := by
      intro i hi
      obtain ⟨cs', h1, h2⟩ := hx i (by omega)
      rw [Tryd.cellsIt] at h1
      obtain ⟨_, hlen, hcell⟩ := World.cells?_some h1
      obtain ⟨r, r1, r3⟩ := open_item hlen h2
      refine ⟨r, r1, fun j v hv => ?_⟩
      have hj : j < 5 := by have := (List.getElem?_eq_some_iff.1 hv).1; simpa [itC] using this
      have hc := hcell j hj
      rw [Go.Deep.add_add] at hc
      rw [hc, r3]
      exact hv
    obtain ⟨A, hA⟩ := Go.Deep.choose_lt each
    have hlen : ((List.range len).map A).length = len := by simp
    refine ⟨(List.range len).map A, hlen, by omega, fun y hy => ?_, some x, m, by rw [hlen], by rw [hlen]; exact hl, fun e => (by cases e), fun hne => ?_⟩
    · obtain ⟨i, hi, rfl⟩ := List.mem_map.1 hy
      exact (hA i (List.mem_range.1 hi)).1
    · have h0 : 0 < len := by
        rcases Nat.eq_zero_or_pos len with e | e
        · subst e; simp at hne
        · exact e
      obtain ⟨b, o, s⟩ := x
      have hs : s = none := by
        have c0 : w.cell? ⟨b, o, s⟩ = some _ := (hA 0 h0).2 0 _ rfl
        cases s with
        | none => rfl
        | some s => unfold World.cell? at c0; split at c0 <;> simp at c0
      subst hs
      have hcell : ∀ j u, (itsC ((List.range len).map A))[j]? = some u → w.cell? ⟨b, o + j, none⟩ = some u := fun j u hu => by
        have hj := (List.getElem?_eq_some_iff.1 hu).1
        rw [itsC_len, hlen] at hj
        have h5 : j / 5 < len := by omega
        have hx5 : ((List.range len).map A)[j / 5]? = some (A (j / 5)) := by rw [List.getElem?_map, List.getElem?_range h5]; rfl
        have e := itsC_at _ _ _ hx5 (j % 5) (by omega)
        rw [show j / 5 * 5 + j % 5 = j by omega, hu] at e
        have := (hA (j / 5) h5).2 (j % 5) u e.symm
        rw [show j / 5 * 5 + j % 5 = j by omega, Addr.add_mid] at this
        exact this
      refine ⟨b, o, rfl, ?_, hcell⟩
      exact World.block_lt_of_cell? _ _ (hcell 0 _ (List.getElem?_eq_getElem (by rw [itsC_len, hlen]; omega)))
end Go.Proofs.YtmjfcneofpddiaaDoor
