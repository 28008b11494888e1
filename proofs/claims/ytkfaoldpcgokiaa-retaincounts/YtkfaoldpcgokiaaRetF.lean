/- Contracts: the laws' Few and awake. -/
import Derived.Test.YtkfaoldpcgokiaaRetE
import Derived.Deep.MidRow
namespace Go.Proofs.Ytkfaoldpcgokiaa
open Go.RowKit
set_option linter.unusedVariables false
set_option linter.unusedSimpArgs false

/-- Snapshots in a row of one's own. -/
def SO (w : World) (B : Nat) (v : Value) (l : List Sn) : Prop := w.ownsRow B 39 3 v l.length (snsC l)
theorem SO.sv {w : World} {B : Nat} {v : Value} {l : List Sn} (h : SO w B v l) : SV w w.heap.size v l := by
  have hlt := World.ownsRow.lt h
  have h' := h
  rcases h.2 with ⟨rfl, h0⟩ | ⟨g, cap, cur, rfl, _, _, hc, _⟩
  · exact ⟨none, 0, by rw [h0], by omega, fun _ => rfl, fun hne => absurd (List.length_eq_zero_iff.1 h0) hne⟩
  · refine ⟨_, cap, rfl, hc, fun e => (by cases e), fun _ => ⟨g, 0, rfl, (hlt g rfl).2, (hlt g rfl).2, fun j u hu => ?_⟩⟩
    have := World.ownsRow.cells h' (g := g) rfl j u hu
    rwa [Addr.add_mid] at this
theorem SO.below {w w' : World} {B : Nat} {v : Value} {l : List Sn} (h : SO w B v l) (hb : Below w.heap.size w w') : SO w' B v l := by
  refine World.ownsRow.kept h (row := none) ⟨hb.os, hb.tape, hb.output, hb.size, fun k hk _ => hb.block k hk⟩ ?_
  cases hv : v.ownBlock
  · exact .inl rfl
  · exact .inr (by simp)
theorem SO.shape {w : World} {B : Nat} {v : Value} {l : List Sn} (h : SO w B v l) : ∃ a c, v = .slice a l.length c := by
  rcases h.2 with ⟨rfl, h0⟩ | ⟨g', cap, cur, rfl, _⟩
  · exact ⟨none, 0, by rw [h0]⟩
  · exact ⟨_, cap, rfl⟩
set_option maxRecDepth 100000 in
set_option maxHeartbeats 2000000 in
/-- append([]api.Snap{}, v...). -/
theorem few_copy {w : World} {ops : Array Oper} {rest : List Oper} {o : Oper} {a : Act} {Q : Exit → Act → World → Prop} (hgd : o.guard = none) (s y : Operand)
    (ho : o.op = .call { callee := .builtin .append, args := #[s, y], argTypes := #[25, 25] })
    (v : Value) (l : List Sn) (hs : a.eval s = .slice (some ⟨w.heap.size, 0, none⟩) 0 0) (hx : a.eval y = v) (hV : SV w w.heap.size v l) (hl : l.length ≤ 1000000)
    (h : ∀ a' c' w', SO w' w.heap.size (.slice a' l.length c') l → Below w.heap.size w w' → wpList Try.prog ops Q rest (a.put o.dst (.slice a' l.length c')) w') : wpList Try.prog ops Q (o :: rest) a (w.alloc (.cells #[] 39)) := by
  obtain ⟨i0, hi, hz0, hz1, hz2⟩ := info_parts Try.infoSn
  have hb : Below w.heap.size w (w.alloc (.cells #[] 39)) := (Below.refl _ _).alloc (Nat.le_refl _) _
  have hO : (w.alloc (.cells #[] 39)).ownsRow w.heap.size 39 3 (.slice (some ⟨w.heap.size, 0, none⟩) 0 0) 0 [] := ⟨rfl, .inr ⟨w.heap.size, 0, #[], rfl, Nat.le_refl _, heap_alloc_new w _, Nat.le_refl _, by decide, rfl, rfl⟩⟩
  obtain ⟨ad, cap, rfl, hc, hzn, hf⟩ := hV.below hb
  cases ad with
  | none =>
    obtain rfl := hzn rfl
    have h0 : l = [] := List.length_eq_zero_iff.1 (by omega)
    subst h0
    refine wpList_append_own_none hgd s y 25 ho w.heap.size 39 i0 3 Try.underlying25 hi _ _ _ hs hO hx ?_
    exact h _ 0 _ hO hb
  | some x =>
    have hN : ∀ j u, (snsC l)[j]? = some u → (w.alloc (.cells #[] 39)).cell? (x.add j) = some u := fun j u hu => by
      obtain ⟨g, o, e, _, _, hcl⟩ := hf (fun e => by rw [e] at hu; simp [snsC] at hu)
      cases e
      rw [Addr.add_mid]; exact hcl j u hu
    refine wpList_append_own_at _ hgd s y 25 ho w.heap.size 39 i0 (.agg #[.string ⟨#[]⟩, .int .i64 0, .string ⟨#[]⟩]) 3 40 Try.underlying25 hi hz0 hz1 hz2 rfl (by decide) _ _ _ hs hO x l.length cap (snsC l) hx (snsC_len l) hN (snsC_one _) (by unfold maxLen; omega) (by omega) (by simp) ?_
    intro v' w' hown hg _ _
    rw [Nat.zero_add, List.nil_append] at hown
    have hO' : SO w' w.heap.size v' l := hown
    obtain ⟨a', c', rfl⟩ := hO'.shape
    exact h a' c' w' hO' (hb.grown hg (by simp) (fun k hk => by cases hk; exact Nat.le_refl _))
set_option maxRecDepth 100000 in
set_option maxHeartbeats 2000000 in
theorem few21_any (a : Option Addr) (len cap : Nat) (l : List Sn) (w : World) (hV : SV w w.heap.size (.slice a len cap) l) (hll : l.length = len) (hl63 : len ≤ 9223372036854775807) :
    Calls Try.prog 7 #[.slice a len cap] w fun e w' => ∃ a' c', e = .returned (.slice a' (l.take 25).length c') ∧ SO w' w.heap.size (.slice a' (l.take 25).length c') (l.take 25) ∧ Below w.heap.size w w' := by
  have hcap : len ≤ cap := by obtain ⟨_, _, e, h, _⟩ := hV; cases e; omega
  by_cases hlt : 25 < len
  · have hli : (25 : Int) < (len : Int) := by omega
    have HV2 : Hid (SV w w.heap.size (.slice a 25 cap) (l.take 25)) := hV.cut 25 (by omega)
    have HLN : Hid ((l.take 25).length = 25) := by unfold Hid; rw [List.length_take]; omega
    clear hV hll
    generalize l.take 25 = l' at HV2 HLN ⊢
    go_enter Try.func7, Try.ntmps7
    go_wp2_with (at_builtin; refine few_copy rfl _ _ rfl (.slice a 25 cap) l' rfl rfl HV2.out (by rw [HLN.out]; omega) ?_; intro a' c' w' hO hb)
    have HO : Hid _ := hO
    have HB : Hid _ := hb
    clear hO hb
    go_wp2
    go_ret
    exact ⟨a', c', rfl, HO.out, HB.out⟩
  · have hli : ¬ (25 : Int) < (len : Int) := by omega
    have HT : Hid (l.take 25 = l) := by unfold Hid; rw [List.take_of_length_le (by omega)]
    have HV2 : Hid (SV w w.heap.size (.slice a len cap) l) := hV
    have HLN : Hid (l.length = len) := hll
    clear hV hll
    rw [HT.out]
    go_enter Try.func7, Try.ntmps7
    go_wp2_with (at_builtin; refine few_copy rfl _ _ rfl (.slice a len cap) l rfl rfl HV2.out (by rw [HLN.out]; omega) ?_; intro a' c' w' hO hb)
    have HO : Hid _ := hO
    have HB : Hid _ := hb
    clear hO hb
    go_wp2
    go_ret
    exact ⟨a', c', rfl, HO.out, HB.out⟩
theorem kS_zero (l : List Nat) : kS 0 l = false := by
  cases l with
  | nil => rfl
  | cons v r => rw [kS, Bool.and_eq_false_iff]; right; apply decide_eq_false; omega
def awP : Pol := ⟨0, 2, 0, 0, []⟩
def awL : List Sn := [⟨[97], 0, []⟩, ⟨[98], 100, []⟩, ⟨[99], 86400, []⟩, ⟨[100], 86500, []⟩]
theorem aw_gone : goneP awP awL 4 = [[97], [99]] := by
  simp only [goneP, awP, awL, kpL, kp, kS_zero]
  simp [bF, dyN, kS, dv]
theorem aw_err : errR awP awL = 0 := by decide
theorem aw_n : gnN awP awL 4 = 2 := by unfold gnN; rw [aw_gone]; rfl
theorem zeroPol (w : World) : (zeroValue 24).run Try.prog w = .ok (.agg #[.int .i64 0, .int .i64 0, .int .i64 0, .int .i64 0, .slice none 0 0]) w := by kernel_rfl
set_option maxRecDepth 100000 in
set_option maxHeartbeats 2000000 in
theorem awake21_any (w : World) : Calls Try.prog 11 #[] w fun e w' => e = .returned (.bool true) ∧ Below w.heap.size w w' := by
  obtain ⟨W1, hW1⟩ : ∃ W1, W1 = w.alloc (.cells #[.string ⟨#[97]⟩, .int .i64 0, .string ⟨#[]⟩, .string ⟨#[98]⟩, .int .i64 100, .string ⟨#[]⟩, .string ⟨#[99]⟩, .int .i64 86400, .string ⟨#[]⟩, .string ⟨#[100]⟩, .int .i64 86500, .string ⟨#[]⟩] 39) := ⟨_, rfl⟩
  have hB1 : Below w.heap.size w W1 := by rw [hW1]; exact (Below.refl _ w).alloc (Nat.le_refl _) _
  have hN1 : W1.heap[w.heap.size]? = some (.cells #[.string ⟨#[97]⟩, .int .i64 0, .string ⟨#[]⟩, .string ⟨#[98]⟩, .int .i64 100, .string ⟨#[]⟩, .string ⟨#[99]⟩, .int .i64 86400, .string ⟨#[]⟩, .string ⟨#[100]⟩, .int .i64 86500, .string ⟨#[]⟩] 39 (0, 0)) := by rw [hW1]; exact heap_alloc_new w _
  have hz : w.heap.size < W1.heap.size := (Array.getElem?_eq_some_iff.1 hN1).1
  have hV : SV W1 W1.heap.size (.slice (some ⟨w.heap.size, 0, none⟩) 4 4) awL := by
    refine ⟨_, 4, rfl, Nat.le_refl _, fun e => (by cases e), fun _ => ⟨_, _, rfl, hz, hz, fun j u hu => ?_⟩⟩
    rw [Nat.zero_add]
    rw [cell_of_row _ _ _ _ _ _ hN1]
    simpa [snsC, snC, awL, mkB] using hu
  have HC := gone_good awP (.slice none 0 0) _ awL W1 ⟨⟨by decide, by decide, by decide, by decide, by decide, fun x hx => (by cases hx)⟩, TV.nil _ _⟩ hV (by decide) (by decide) aw_err
  rw [show awL.length = 4 from rfl, aw_n, aw_gone] at HC
  have HB1 : Hid (Below w.heap.size w W1) := hB1
  rw [hW1] at HC
  have HW1 : Hid (w.alloc (.cells #[.string ⟨#[97]⟩, .int .i64 0, .string ⟨#[]⟩, .string ⟨#[98]⟩, .int .i64 100, .string ⟨#[]⟩, .string ⟨#[99]⟩, .int .i64 86400, .string ⟨#[]⟩, .string ⟨#[100]⟩, .int .i64 86500, .string ⟨#[]⟩] 39) = W1) := hW1.symm
  have hzs := zeroSn
  have hzp := zeroPol
  unfold polV awP at HC
  clear hV hN1 hB1 hW1 hz
  go_enter Try.func11, Try.ntmps11
  go_wp2_with fail
  refine HC.mono ?_
  rintro e w2 ⟨a, c, rfl, hO, hb2⟩
  rw [show w.alloc (.cells #[.string ⟨#[97]⟩, .int .i64 0, .string ⟨#[]⟩, .string ⟨#[98]⟩, .int .i64 100, .string ⟨#[]⟩, .string ⟨#[99]⟩, .int .i64 86400, .string ⟨#[]⟩, .string ⟨#[100]⟩, .int .i64 86500, .string ⟨#[]⟩] 39) = W1 from HW1.out] at hb2
  have HB2 : Hid (Below w.heap.size w w2) := HB1.out.trans (hb2.mono HB1.out.size)
  obtain ⟨g, cap, e, hg1, hg2⟩ := hO.form (by decide)
  cases e
  have c0 : w2.cell? ⟨g, 0, none⟩ = some (.string ⟨#[97]⟩) := hO.cell 0 (by decide) rfl
  have c1 : w2.cell? ⟨g, 1, none⟩ = some (.string ⟨#[99]⟩) := hO.cell 1 (by decide) rfl
  clear hb2 hO hg1
  go_wp2
  go_ret
  exact ⟨rfl, HB2.out⟩
end Go.Proofs.Ytkfaoldpcgokiaa
