/- Changes in a row of one's own; walk.all. -/
import Derived.Test.YtmjfcneofpddiaaDoorQWtA
import Derived.Test.YtmjfcneofpddiaaDoorQWpE
namespace Go.Proofs.YtmjfcneofpddiaaDoor
open Go.RowKit Go.Maps
set_option linter.unusedVariables false
set_option linter.unusedSimpArgs false

def chC (c : Chg) : List Value := [.string (mkB c.p), .int .i64 c.w]
def chsC (l : List Chg) : List Value := l.flatMap chC
def chR (c : Chg) : Array Value := #[.string (mkB c.p), .int .i64 c.w]
theorem chsC_len : ∀ l : List Chg, (chsC l).length = l.length * 2
  | [] => rfl
  | x :: l => by
    have := chsC_len l
    unfold chsC at this ⊢
    rw [List.flatMap_cons, List.length_append, this, List.length_cons]; simp [chC]; omega
theorem chsC_append (a b : List Chg) : chsC (a ++ b) = chsC a ++ chsC b := by simp [chsC]
theorem chsC_one (l : List Chg) : ∀ v ∈ chsC l, v.oneCell' = true := by
  intro v hv
  obtain ⟨x, _, hx⟩ := List.mem_flatMap.1 hv
  simp only [chC, List.mem_cons, List.not_mem_nil, or_false] at hx
  rcases hx with rfl | rfl <;> rfl
theorem chsC_at : ∀ (l : List Chg) (i : Nat) (x : Chg), l[i]? = some x → ∀ j, j < 2 → (chsC l)[i * 2 + j]? = (chC x)[j]?
  | [], i, x, h, _, _ => by simp at h
  | y :: l, 0, x, h, j, hj => by
    simp at h; subst h
    unfold chsC
    rw [List.flatMap_cons, List.getElem?_append_left (by simp [chC]; omega)]; simp
  | y :: l, i + 1, x, h, j, hj => by
    have ih := chsC_at l i x (by simpa using h) j hj
    unfold chsC at ih ⊢
    rw [List.flatMap_cons, List.getElem?_append_right (by simp [chC]; omega), ← ih]
    congr 1; simp [chC]; omega
theorem Tryd.infoCh : (Tryd.prog.info? 33).map (fun i => (i.zero, i.size, i.bytes)) = some (some (.agg #[.string ⟨#[]⟩, .int .i64 0]), 2, 24) := by kernel_rfl
/-- Changes in a row of one's own. -/
def CO (w : World) (B : Nat) (v : Value) (l : List Chg) : Prop := w.ownsRow B 33 2 v l.length (chsC l)
theorem CO.below {w w' : World} {B : Nat} {v : Value} {l : List Chg} (h : CO w B v l) (hb : Below w.heap.size w w') : CO w' B v l := by
  refine World.ownsRow.kept h (row := none) ⟨hb.os, hb.tape, hb.output, hb.size, fun k hk _ => hb.block k hk⟩ ?_
  cases hv : v.ownBlock
  · exact .inl rfl
  · exact .inr (by simp)
theorem CO.shape {w : World} {B : Nat} {v : Value} {l : List Chg} (h : CO w B v l) : ∃ a c, v = .slice a l.length c := by
  rcases h.2 with ⟨rfl, h0⟩ | ⟨g', cap, cur, rfl, _⟩
  · exact ⟨none, 0, by rw [h0]⟩
  · exact ⟨_, cap, rfl⟩
theorem CO.lt {w : World} {B : Nat} {v : Value} {l : List Chg} (h : CO w B v l) (k : Nat) (hk : v.ownBlock = some k) : B ≤ k ∧ k < w.heap.size := World.ownsRow.lt h k hk
theorem CO.made (w : World) (x : Chg) : CO (w.alloc (.cells (chR x) 33)) w.heap.size (.slice (some ⟨w.heap.size, 0, none⟩) 1 1) [x] :=
  ⟨rfl, .inr ⟨w.heap.size, 1, chR x, rfl, Nat.le_refl _, heap_alloc_new w _, Nat.le_refl _, by decide, rfl, rfl⟩⟩
theorem CO.none (w : World) (B : Nat) : CO w B (.slice none 0 0) [] := ⟨rfl, .inl ⟨rfl, rfl⟩⟩
/-- append(s, x) for one change x. -/
theorem append_ch {w : World} {ops : Array Oper} {rest : List Oper} {o : Oper} {a : Act} {Q : Exit → Act → World → Prop} (hgd : o.guard = none) (s y : Operand)
    (ho : o.op = .call { callee := .builtin .append, args := #[s, y], argTypes := #[29, 29] })
    (B : Nat) (v : Value) (l : List Chg) (x : Chg) (hs : a.eval s = v) (hx : a.eval y = .slice (some ⟨w.heap.size, 0, none⟩) 1 1) (hO : CO w B v l) (hl : l.length + 1 ≤ 1000000) (hB : B ≤ w.heap.size)
    (h : ∀ a' c' w', CO w' B (.slice a' (l.length + 1) c') (l ++ [x]) → w.grownBy w' v.ownBlock → wpList Tryd.prog ops Q rest (a.put o.dst (.slice a' (l.length + 1) c')) w') : wpList Tryd.prog ops Q (o :: rest) a (w.alloc (.cells (chR x) 33)) := by
  obtain ⟨i0, hi, hz0, hz1, hz2⟩ := info_parts Tryd.infoCh
  have hb : Below w.heap.size w (w.alloc (.cells (chR x) 33)) := (Below.refl _ _).alloc (Nat.le_refl _) _
  have hN : ∀ j u, (chsC [x])[j]? = some u → (w.alloc (.cells (chR x) 33)).cell? ((⟨w.heap.size, 0, none⟩ : Addr).add j) = some u := fun j u hu => World.ownsRow.cells (CO.made w x) (g := w.heap.size) rfl j u hu
  refine wpList_append_own_at _ hgd s y 29 ho B 33 i0 (.agg #[.string ⟨#[]⟩, .int .i64 0]) 2 24 Tryd.underlying29 hi hz0 hz1 hz2 rfl (by decide) v _ _ hs (hO.below hb) ⟨w.heap.size, 0, Option.none⟩ 1 1 (chsC [x]) hx (by rw [chsC_len]; rfl) hN (chsC_one _) (by unfold maxLen; omega) (by omega) (by rw [World.size_alloc]; omega) ?_
  intro v' w' hown hg _ _
  have hO' : CO w' B v' (l ++ [x]) := by unfold CO; rw [chsC_append, List.length_append]; exact hown
  obtain ⟨a', c', rfl⟩ := hO'.shape
  have e : (l ++ [x]).length = l.length + 1 := by simp
  rw [e] at hO' ⊢
  have hgb : w.grownBy (w.alloc (.cells (chR x) 33)) v.ownBlock := ⟨hb.os, hb.tape, hb.output, hb.size, fun k hk _ => hb.block k hk⟩
  exact h a' c' w' hO' ⟨hg.os.trans hgb.os, hg.tape.trans hgb.tape, hg.output.trans hgb.output, Nat.le_trans hgb.size hg.size, fun i hi hn => (hg.block i (Nat.lt_of_lt_of_le hi hgb.size) hn).trans (hgb.block i hi hn)⟩
/-- append(s, t...) of two rows. -/
theorem append_chs {w : World} {ops : Array Oper} {rest : List Oper} {o : Oper} {a : Act} {Q : Exit → Act → World → Prop} (hgd : o.guard = none) (s y : Operand)
    (ho : o.op = .call { callee := .builtin .append, args := #[s, y], argTypes := #[29, 29] })
    (B B2 : Nat) (v u : Value) (l m : List Chg) (hs : a.eval s = v) (hx : a.eval y = u) (hO : CO w B v l) (hM : CO w B2 u m) (hl : l.length + m.length ≤ 1000000) (hB : B ≤ w.heap.size)
    (h : ∀ a' c' w', CO w' B (.slice a' (l ++ m).length c') (l ++ m) → w.grownBy w' v.ownBlock → wpList Tryd.prog ops Q rest (a.put o.dst (.slice a' (l ++ m).length c')) w') : wpList Tryd.prog ops Q (o :: rest) a w := by
  obtain ⟨i0, hi, hz0, hz1, hz2⟩ := info_parts Tryd.infoCh
  rcases id hM.2 with ⟨rfl, h0⟩ | ⟨g, cap, cur, rfl, _, _, hcc, _⟩
  · obtain rfl : m = [] := List.length_eq_zero_iff.1 h0
    rw [List.append_nil] at h
    refine wpList_append_own_none hgd s y 29 ho B 33 i0 2 Tryd.underlying29 hi _ _ _ hs hO hx ?_
    obtain ⟨a', c', rfl⟩ := hO.shape
    exact h a' c' w hO ⟨rfl, rfl, rfl, Nat.le_refl _, fun _ _ _ => rfl⟩
  · have hN : ∀ j u, (chsC m)[j]? = some u → w.cell? ((⟨g, 0, Option.none⟩ : Addr).add j) = some u := fun j u hu => World.ownsRow.cells hM (g := g) rfl j u hu
    refine wpList_append_own_at _ hgd s y 29 ho B 33 i0 (.agg #[.string ⟨#[]⟩, .int .i64 0]) 2 24 Tryd.underlying29 hi hz0 hz1 hz2 rfl (by decide) v _ _ hs hO ⟨g, 0, Option.none⟩ m.length cap (chsC m) hx (by rw [chsC_len]) hN (chsC_one _) (by unfold maxLen; omega) (by omega) hB ?_
    intro v' w' hown hg _ _
    have hO' : CO w' B v' (l ++ m) := by unfold CO; rw [chsC_append, List.length_append]; exact hown
    obtain ⟨a', c', rfl⟩ := hO'.shape
    exact h a' c' w' hO' hg
set_option maxRecDepth 100000 in
set_option maxHeartbeats 2000000 in
theorem all_any (v : Value) (l : List It) (z : Int) (w : World) (hR : IV w v l) (hl : l.length ≤ 1000) :
    Calls Tryd.prog 43 #[v, .int .i64 z] w fun e w' => ∃ a' c', e = .returned (.slice a' (allC l z).length c') ∧ CO w' w.heap.size (.slice a' (allC l z).length c') (allC l z) ∧ Below w.heap.size w w' := by
  have HIV : Hid (IV w v l) := hR
  obtain ⟨a0, cap, rfl, -, -, -⟩ := hR
  obtain ⟨n, hn⟩ : ∃ n, n = l.length := ⟨_, rfl⟩
  have HN : Hid (n = l.length) := hn
  rw [← hn] at hl HIV
  rw [← hn]
  clear hn
  go_enter Tryd.func43, Tryd.ntmps43
  go_wp2
  go_loopw [5, 10] (fun s i wr => ∃ (k : Nat) (ua : Option Addr) (uc : Nat), k ≤ n ∧ i = .int .i64 (k : Int) ∧ s = .slice ua (allC (l.take k) z).length uc ∧ CO wr w.heap.size (.slice ua (allC (l.take k) z).length uc) (allC (l.take k) z) ∧ Below w.heap.size w wr) (fun _ i _ => n - (intOf i).toNat)
  case atStart => exact ⟨0, none, 0, Nat.zero_le _, rfl, rfl, CO.none _ _, Below.refl _ _⟩
  case round =>
    obtain ⟨k, ua, uc, hk, rfl, rfl, hO, hb⟩ := hrel
    have hLL : (allC (l.take k) z).length ≤ k := by unfold allC; rw [List.length_map, List.length_take]; omega
    have HO : Hid (CO wr w.heap.size (.slice ua (allC (l.take k) z).length uc) (allC (l.take k) z)) := hO
    have HB : Hid (Below w.heap.size w wr) := hb
    clear hO hb
    by_cases hlt : k < n
    · obtain ⟨x, hx⟩ : ∃ x, l[k]? = some x := ⟨_, List.getElem?_eq_getElem (by rw [← HN.out]; exact hlt)⟩
      have hlti : (k : Int) < (n : Int) := by omega
      obtain ⟨g, o, rfl, hg, -, hcap, c0, c1, c2, c3, c4⟩ := (HIV.out.below HB.out).at hx
      have HT : Hid (allC (l.take (k + 1)) z = allC (l.take k) z ++ [⟨x.p, z⟩]) := by unfold Hid allC; rw [List.take_add_one, hx]; simp
      generalize allC (l.take k) z = F at *
      have hzo := zeroIt
      obtain ⟨W2, hW2⟩ : ∃ W2, W2 = wr.alloc (.cells #[.string (mkB x.p), .int .i64 x.k, .int .i64 x.m, .int .i64 x.t, .string (mkB x.d)] 25) := ⟨_, rfl⟩
      have hb2 : Below wr.heap.size wr W2 := by rw [hW2]; exact (Below.refl _ _).alloc (Nat.le_refl _) _
      have HX2 : Hid (W2.heap[wr.heap.size]? = some (.cells #[.string (mkB x.p), .int .i64 x.k, .int .i64 x.m, .int .i64 x.t, .string (mkB x.d)] 25 (0, 0))) := by unfold Hid; rw [hW2]; exact heap_alloc_new wr _
      have HB2 : Hid (Below w.heap.size w W2) := HB.out.trans (hb2.mono HB.out.size)
      have HO2 : Hid (CO W2 w.heap.size (.slice ua F.length uc) F) := HO.out.below hb2
      have HW2 : Hid (wr.alloc (.cells #[.string (mkB x.p), .int .i64 x.k, .int .i64 x.m, .int .i64 x.t, .string (mkB x.d)] 25) = W2) := hW2.symm
      have hz2 : w.heap.size ≤ W2.heap.size := HB2.out.size
      have hF1 : F.length + 1 ≤ 1000000 := by omega
      clear hW2 hb2 hx
      go_upto_region 5 with fail
      rw [HW2.out]
      clear c0 c1 c2 c3 c4 hzo
      obtain ⟨x0, x1, x2, x3, x4⟩ := cells5 HX2.out
      go_wp2_with (at_builtin; refine append_ch rfl _ _ rfl w.heap.size (.slice ua F.length uc) F ⟨x.p, z⟩ rfl rfl HO2.out hF1 hz2 ?_; intro a' c' w5 hO5 hg5)
      have HO5 : Hid (CO w5 w.heap.size (.slice a' (F.length + 1) c') (F ++ [⟨x.p, z⟩])) := hO5
      have HB5 : Hid (Below w.heap.size w w5) := HB2.out.grown hg5 hz2 (fun k hk => (HO2.out.lt k hk).1)
      have HL5 : Hid ((allC (l.take (k + 1)) z).length = F.length + 1) := by unfold Hid; rw [HT.out]; simp
      clear hO5 hg5
      go_wp2
      go_roundw
      case rel => exact ⟨k + 1, a', c', by omega, by go_num, by rw [HL5.out], by rw [HL5.out, HT.out]; exact HO5.out, HB5.out⟩
      case measure => simp [intOf]; omega
    · have hkn : k = n := by omega
      subst hkn
      have HTA : Hid (l.take k = l) := by unfold Hid; rw [HN.out, List.take_length]
      rw [HTA.out] at HO ⊢
      go_wp2
      go_ret
      exact ⟨ua, uc, rfl, HO.out, HB.out⟩
end Go.Proofs.YtmjfcneofpddiaaDoor
