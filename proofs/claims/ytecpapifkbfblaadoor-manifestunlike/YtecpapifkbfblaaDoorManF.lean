/- Contract: the law's Few of a manifest. -/
import Derived.Test.YtecpapifkbfblaaDoorManE
import Derived.Laws.AppendOwnNone
namespace Go.Proofs.YtecpapifkbfblaaDoor
open Go.RowKit
set_option linter.unusedVariables false
set_option linter.unusedSimpArgs false

theorem Tryd.infoSt : (Tryd.prog.info? 9).map (fun i => (i.zero, i.size, i.bytes)) = some (some (.string ⟨#[]⟩), 1, 16) := by kernel_rfl
theorem OT.tx {w : World} {B : Nat} {v : Value} {l : List (List UInt8)} (h : OT w B v l) : TX w v l := by
  rcases h.2 with ⟨rfl, h0⟩ | ⟨g, cap, cur, rfl, hB, hh, hc, _⟩
  · have : l = [] := List.length_eq_zero_iff.1 h0
    subst this
    exact ⟨none, 0, rfl, Nat.le_refl _, fun hne => absurd rfl hne⟩
  · refine ⟨some ⟨g, 0, none⟩, cap, rfl, hc, fun _ => ⟨g, 0, rfl, (World.ownsRow.lt h g rfl).2, fun i hi => ?_⟩⟩
    rw [Nat.zero_add]
    exact h.cell i hi rfl
theorem tc_one (l : List (List UInt8)) : ∀ v ∈ tc l, v.oneCell' = true := by
  intro v hv
  obtain ⟨x, _, rfl⟩ := List.mem_map.1 hv
  rfl
/-- A slice's first n. -/
theorem TX.cut {w : World} {a : Option Addr} {len cap : Nat} {l : List (List UInt8)} (h : TX w (.slice a len cap) l) (n : Nat) (hn : n ≤ len) : TX w (.slice a n cap) (l.take n) := by
  obtain ⟨a', cap', e, hc, hf⟩ := h
  injection e with e1 e2 e3
  subst e1 e3
  have hl : (l.take n).length = n := by rw [List.length_take]; omega
  refine ⟨a, cap, by rw [hl], by rw [hl]; omega, fun hne => ?_⟩
  obtain ⟨g, o, rfl, hg, hcl⟩ := hf (fun e => hne (by rw [e]; simp))
  refine ⟨g, o, rfl, hg, fun j hj => ?_⟩
  rw [hl] at hj
  rw [hcl j (by omega), List.getD_eq_getElem?_getD, List.getD_eq_getElem?_getD, List.getElem?_take, if_pos hj]
set_option maxRecDepth 100000 in
set_option maxHeartbeats 2000000 in
/-- append([]string{}, v...). -/
theorem copy_tx {w : World} {ops : Array Oper} {rest : List Oper} {o : Oper} {a : Act} {Q : Exit → Act → World → Prop} (hgd : o.guard = none) (s y : Operand)
    (ho : o.op = .call { callee := .builtin .append, args := #[s, y], argTypes := #[35, 35] })
    (v : Value) (l : List (List UInt8)) (hs : a.eval s = .slice (some ⟨w.heap.size, 0, none⟩) 0 0) (hx : a.eval y = v) (hV : TX w v l) (hnil : ∀ n c, v = .slice none n c → c = 0) (hl : l.length ≤ 1000000)
    (h : ∀ a' c' w', OT w' w.heap.size (.slice a' l.length c') l → Below w.heap.size w w' → wpList Tryd.prog ops Q rest (a.put o.dst (.slice a' l.length c')) w') : wpList Tryd.prog ops Q (o :: rest) a (w.alloc (.cells #[] 9)) := by
  obtain ⟨i0, hi, hz0, hz1, hz2⟩ := info_parts Tryd.infoSt
  have hb : Below w.heap.size w (w.alloc (.cells #[] 9)) := (Below.refl _ _).alloc (Nat.le_refl _) _
  have hO : (w.alloc (.cells #[] 9)).ownsRow w.heap.size 9 1 (.slice (some ⟨w.heap.size, 0, none⟩) 0 0) 0 [] := ⟨rfl, .inr ⟨w.heap.size, 0, #[], rfl, Nat.le_refl _, heap_alloc_new w _, Nat.le_refl _, by decide, rfl, rfl⟩⟩
  obtain ⟨ad, cap, rfl, hc, hf⟩ := hV.below hb
  cases ad with
  | none =>
    obtain rfl := hnil _ _ rfl
    have h0 : l = [] := List.length_eq_zero_iff.1 (by omega)
    subst h0
    refine wpList_append_own_none hgd s y 35 ho w.heap.size 9 i0 1 Tryd.underlying35 hi _ _ _ hs hO hx ?_
    exact h _ 0 _ hO hb
  | some x =>
    have hN : ∀ j u, (tc l)[j]? = some u → (w.alloc (.cells #[] 9)).cell? (x.add j) = some u := fun j u hu => by
      have hj : j < l.length := by rw [← tc_len]; exact (List.getElem?_eq_some_iff.1 hu).1
      obtain ⟨g, o, e, _, hcl⟩ := hf (fun e => by rw [e] at hj; simp at hj)
      cases e
      rw [Addr.add_mid, hcl j hj]
      unfold tc at hu
      rw [List.getElem?_map] at hu
      rw [List.getD_eq_getElem?_getD]
      cases hq : l[j]? with
      | none => rw [hq] at hu; cases hu
      | some q => rw [hq] at hu; exact hu
    refine wpList_append_own_at _ hgd s y 35 ho w.heap.size 9 i0 (.string ⟨#[]⟩) 1 16 Tryd.underlying35 hi hz0 hz1 hz2 rfl (by decide) _ _ _ hs hO x l.length cap (tc l) hx (by rw [tc_len, Nat.mul_one]) hN (tc_one _) (by unfold maxLen; omega) (by omega) (by simp) ?_
    intro v' w' hown hg _ _
    rw [Nat.zero_add, List.nil_append] at hown
    have hO' : OT w' w.heap.size v' l := hown
    have hsh : ∃ a' c', v' = .slice a' l.length c' := by
      rcases hO'.2 with ⟨rfl, h0⟩ | ⟨g', cap, cur, rfl, _⟩
      · exact ⟨none, 0, by rw [h0]⟩
      · exact ⟨_, cap, rfl⟩
    obtain ⟨a', c', rfl⟩ := hsh
    exact h a' c' w' hO' (hb.grown hg (by simp) (fun k hk => by cases hk; exact Nat.le_refl _))
theorem Tryd.zeroMf (w : World) : (zeroValue 37).run Tryd.prog w = .ok (.agg #[.int .i64 0, .string ⟨#[]⟩, .string ⟨#[]⟩, .int .i64 0, .slice none 0 0]) w := by kernel_rfl
/-- A manifest in block bx, the result's cell in block rx. -/
structure FB (w W : World) (bx rx : Nat) (cs : Array Value) : Prop where
  bxh : W.heap[bx]? = some (.cells cs 37 (0, 0))
  rxh : W.heap[rx]? = some (.cells #[.int .i64 0, .string ⟨#[]⟩, .string ⟨#[]⟩, .int .i64 0, .slice none 0 0] 37 (0, 0))
  bel : Below w.heap.size w W
  lo : w.heap.size ≤ bx ∧ w.heap.size ≤ rx ∧ bx ≠ rx
theorem FB.below {w W W' : World} {bx rx : Nat} {cs : Array Value} (h : FB w W bx rx cs) (hb : Below W.heap.size W W') : FB w W' bx rx cs :=
  ⟨(hb.block _ (Array.getElem?_eq_some_iff.1 h.bxh).1).trans h.bxh, (hb.block _ (Array.getElem?_eq_some_iff.1 h.rxh).1).trans h.rxh, h.bel.trans (hb.mono h.bel.size), h.lo⟩
theorem FB.set4 {w W : World} {bx rx : Nat} {v0 v1 v2 v3 v4 : Value} (h : FB w W bx rx #[v0, v1, v2, v3, v4]) (v : Value) : FB w (W.setCell ⟨bx, 4, none⟩ v) bx rx #[v0, v1, v2, v3, v] :=
  ⟨by rw [heap_setCell_same _ _ _ _ _ _ h.bxh]; rfl, by rw [Below.heap_setCell _ _ _ _ (by intro e; exact h.lo.2.2 e.symm)]; exact h.rxh, h.bel.setCell h.lo.1 _, h.lo⟩
theorem FB.done {w W : World} {bx rx : Nat} {cs : Array Value} (h : FB w W bx rx cs) (v0 v1 v2 v3 v4 : Value) : (((((W.setCell ⟨rx, 0, none⟩ v0).setCell ⟨rx, 1, none⟩ v1).setCell ⟨rx, 2, none⟩ v2).setCell ⟨rx, 3, none⟩ v3).setCell ⟨rx, 4, none⟩ v4).heap[rx]? = some (.cells #[v0, v1, v2, v3, v4] 37 (0, 0)) ∧ W.grownBy (((((W.setCell ⟨rx, 0, none⟩ v0).setCell ⟨rx, 1, none⟩ v1).setCell ⟨rx, 2, none⟩ v2).setCell ⟨rx, 3, none⟩ v3).setCell ⟨rx, 4, none⟩ v4) (some rx) ∧ Below w.heap.size w (((((W.setCell ⟨rx, 0, none⟩ v0).setCell ⟨rx, 1, none⟩ v1).setCell ⟨rx, 2, none⟩ v2).setCell ⟨rx, 3, none⟩ v3).setCell ⟨rx, 4, none⟩ v4) := by
  refine ⟨?_, gset (gset (gset (gset (gset (grefl W _) 0 v0) 1 v1) 2 v2) 3 v3) 4 v4, ((((h.bel.setCell h.lo.2.1 _).setCell h.lo.2.1 _).setCell h.lo.2.1 _).setCell h.lo.2.1 _).setCell h.lo.2.1 _⟩
  rw [heap_setCell_same _ _ _ _ _ _ (heap_setCell_same _ _ _ _ _ _ (heap_setCell_same _ _ _ _ _ _ (heap_setCell_same _ _ _ _ _ _ (heap_setCell_same _ _ _ _ _ _ h.rxh))))]; rfl
/-- A slice's texts stay, where another block is written. -/
theorem OT.tx_grown {w w' : World} {B : Nat} {v : Value} {l : List (List UInt8)} {r : Nat} (h : OT w B v l) (hg : w.grownBy w' (some r)) (hr : r < B) : TX w' v l := by
  have hO : OT w' B v l := World.ownsRow.kept h hg (by
    cases hv : v.ownBlock with
    | none => exact .inl rfl
    | some k => exact .inr (fun e => by have := (World.ownsRow.lt h k hv).1; cases e; omega))
  exact hO.tx
/-- At most sixty chunks. -/
def fewM (m : Mf) : Mf := { m with ch := m.ch.take 60 }
set_option maxRecDepth 100000 in
set_option maxHeartbeats 2000000 in
theorem few19_any (m : Mf) (v : Value) (w : World) (hT : TX w v m.ch) (hnil : ∀ n c, v = .slice none n c → c = 0) (hn : m.ch.length ≤ 9223372036854775807) :
    Calls Tryd.prog 11 #[mfV m v] w fun e w' => ∃ v', e = .returned (mfV (fewM m) v') ∧ TX w' v' (fewM m).ch ∧ (∀ g o n c, v' = .slice (some ⟨g, o, none⟩) n c → w.heap.size ≤ g) ∧ Below w.heap.size w w' := by
  have hzm := Tryd.zeroMf
  obtain ⟨a, cap, rfl, hcap, hf⟩ := id hT
  obtain ⟨t, g, p, s, ch⟩ := m
  unfold mfV fewM
  simp only at *
  generalize mkB g = G at *
  generalize mkB p = P at *
  obtain ⟨X, hX⟩ : ∃ X, X = (w.alloc (.cells #[.int .i64 t, .string G, .string P, .int .i64 s, .slice a ch.length cap] 37)).alloc (.cells #[.int .i64 0, .string ⟨#[]⟩, .string ⟨#[]⟩, .int .i64 0, .slice none 0 0] 37) := ⟨_, rfl⟩
  have hbX : Below w.heap.size w X := by rw [hX]; exact ((Below.refl _ w).alloc (Nat.le_refl _) _).alloc (by rw [World.size_alloc]; omega) _
  have hFB : FB w X w.heap.size (w.heap.size + 1) #[.int .i64 t, .string G, .string P, .int .i64 s, .slice a ch.length cap] := by
    refine ⟨?_, ?_, hbX, ⟨Nat.le_refl _, by omega, by omega⟩⟩
    · rw [hX, heap_alloc_old _ _ (by rw [World.size_alloc]; omega)]; exact heap_alloc_new w _
    · rw [hX]
      have := heap_alloc_new (w.alloc (.cells #[.int .i64 t, .string G, .string P, .int .i64 s, .slice a ch.length cap] 37)) (.cells #[.int .i64 0, .string ⟨#[]⟩, .string ⟨#[]⟩, .int .i64 0, .slice none 0 0] 37)
      rw [World.size_alloc] at this; exact this
  have HFB : Hid (FB w X w.heap.size (w.heap.size + 1) #[.int .i64 t, .string G, .string P, .int .i64 s, .slice a ch.length cap]) := hFB
  obtain ⟨⟨c0, c1, c2, c3, c4⟩, -⟩ := five_cell hFB.bxh
  have HTX : Hid (TX X (.slice a ch.length cap) ch) := hT.below hbX
  have hsz : w.heap.size + 2 ≤ X.heap.size := by rw [hX, World.size_alloc, World.size_alloc]; omega
  clear hf hFB
  by_cases hlt : 60 < ch.length
  · have hli : (60 : Int) < (ch.length : Int) := by omega
    have HT2 : Hid (TX X (.slice a 60 cap) (ch.take 60)) := HTX.out.cut 60 (by omega)
    have HLN : Hid ((ch.take 60).length = 60) := by unfold Hid; rw [List.length_take]; omega
    have HNL : Hid (∀ n c, Value.slice a 60 cap = .slice none n c → c = 0) := fun n c e => by
      injection e with e1 e2 e3
      subst e1 e3
      exact hnil _ _ rfl
    have hc60 : (60 : Int) ≤ (cap : Int) := by omega
    clear HTX hnil hT
    generalize ch.take 60 = L at *
    generalize ch.length = n at *
    clear c0 c1 c2 c3
    go_enter Tryd.func11, Tryd.ntmps11
    go_upto_region 1 with fail
    rw [← hX]
    clear hX
    go_upto_region 5 with (at_builtin; refine copy_tx rfl _ _ rfl (.slice a 60 cap) L rfl rfl HT2.out HNL.out (by have := HLN.out; omega) ?_; intro a' c' w' hO hb; obtain ⟨⟨d0, d1, d2, d3, d4⟩, e0, e1, e2, e3, e4⟩ := five_cell (HFB.out.below hb).bxh; obtain ⟨⟨f0, f1, f2, f3, f4⟩, h0, h1, h2, h3, h4⟩ := five_cell (HFB.out.below hb).rxh)
    have HF2 := (HFB.out.below hb).set4 (.slice a' L.length c')
    have HOO : Hid (OT w' X.heap.size (.slice a' L.length c') L) := hO
    have hg2 : w'.grownBy (w'.setCell ⟨w.heap.size, 4, none⟩ (.slice a' L.length c')) (some w.heap.size) := gset (grefl w' _) 4 _
    have HO2 : Hid (OT (w'.setCell ⟨w.heap.size, 4, none⟩ (.slice a' L.length c')) X.heap.size (.slice a' L.length c') L) := World.ownsRow.kept hO hg2 (by
      cases hv : (Value.slice a' L.length c').ownBlock with
      | none => exact .inl rfl
      | some k => exact .inr (fun e => by have := (World.ownsRow.lt hO k hv).1; cases e; omega))
    have HF3 : Hid (FB w _ w.heap.size (w.heap.size + 1) _) := HF2
    clear HF2 hg2 hO hb d0 d1 d2 d3 d4 e0 e1 e2 e3 e4 f0 f1 f2 f3 f4 h0 h1 h2 h3 h4 c4 HFB HOO
    generalize World.setCell w' _ _ = W2 at *
    obtain ⟨⟨d0, d1, d2, d3, d4⟩, e0, e1, e2, e3, e4⟩ := five_cell HF3.out.bxh
    obtain ⟨⟨f0, f1, f2, f3, f4⟩, h0, h1, h2, h3, h4⟩ := five_cell HF3.out.rxh
    have hne := HF3.out.lo.2.2
    go_wp2
    obtain ⟨q1, q2, q3⟩ := HF3.out.done (.int .i64 t) (.string G) (.string P) (.int .i64 s) (.slice a' L.length c')
    have q4 := OT.tx_grown HO2.out q2 (by omega)
    generalize World.setCell (World.setCell (World.setCell (World.setCell (World.setCell W2 _ _) _ _) _ _) _ _) _ _ = W3 at *
    obtain ⟨⟨k0, k1, k2, k3, k4⟩, -⟩ := five_cell q1
    exact bodyPost_ret (v := .agg #[.int .i64 t, .string G, .string P, .int .i64 s, .slice a' L.length c']) (by simp [results, Tryd.results11, go_sem, k0, k1, k2, k3, k4]) rfl ⟨_, rfl, q4, fun g o n c e => by cases e; exact Nat.le_trans (show w.heap.size ≤ X.heap.size by omega) (World.ownsRow.lt HO2.out g rfl).1, q3⟩
  · have hli : ¬ (60 : Int) < (ch.length : Int) := by omega
    have HT2 : Hid (TX X (.slice a ch.length cap) ch) := HTX.out
    have HLN : Hid (ch.length ≤ 60) := by unfold Hid; omega
    have HNL : Hid (∀ n c, Value.slice a ch.length cap = .slice none n c → c = 0) := hnil
    rw [List.take_of_length_le (show ch.length ≤ 60 by omega)]
    clear HTX hnil hT
    clear c0 c1 c2 c3
    go_enter Tryd.func11, Tryd.ntmps11
    go_upto_region 1 with fail
    rw [← hX]
    clear hX
    go_upto_region 5 with (at_builtin; refine copy_tx rfl _ _ rfl (.slice a ch.length cap) ch rfl rfl HT2.out HNL.out (by have := HLN.out; omega) ?_; intro a' c' w' hO hb; obtain ⟨⟨d0, d1, d2, d3, d4⟩, e0, e1, e2, e3, e4⟩ := five_cell (HFB.out.below hb).bxh; obtain ⟨⟨f0, f1, f2, f3, f4⟩, h0, h1, h2, h3, h4⟩ := five_cell (HFB.out.below hb).rxh)
    have HF2 := (HFB.out.below hb).set4 (.slice a' ch.length c')
    have HOO : Hid (OT w' X.heap.size (.slice a' ch.length c') ch) := hO
    have hg2 : w'.grownBy (w'.setCell ⟨w.heap.size, 4, none⟩ (.slice a' ch.length c')) (some w.heap.size) := gset (grefl w' _) 4 _
    have HO2 : Hid (OT (w'.setCell ⟨w.heap.size, 4, none⟩ (.slice a' ch.length c')) X.heap.size (.slice a' ch.length c') ch) := World.ownsRow.kept hO hg2 (by
      cases hv : (Value.slice a' ch.length c').ownBlock with
      | none => exact .inl rfl
      | some k => exact .inr (fun e => by have := (World.ownsRow.lt hO k hv).1; cases e; omega))
    have HF3 : Hid (FB w _ w.heap.size (w.heap.size + 1) _) := HF2
    clear HF2 hg2 hO hb d0 d1 d2 d3 d4 e0 e1 e2 e3 e4 f0 f1 f2 f3 f4 h0 h1 h2 h3 h4 c4 HFB HOO
    generalize World.setCell w' _ _ = W2 at *
    obtain ⟨⟨d0, d1, d2, d3, d4⟩, e0, e1, e2, e3, e4⟩ := five_cell HF3.out.bxh
    obtain ⟨⟨f0, f1, f2, f3, f4⟩, h0, h1, h2, h3, h4⟩ := five_cell HF3.out.rxh
    have hne := HF3.out.lo.2.2
    go_wp2
    obtain ⟨q1, q2, q3⟩ := HF3.out.done (.int .i64 t) (.string G) (.string P) (.int .i64 s) (.slice a' ch.length c')
    have q4 := OT.tx_grown HO2.out q2 (by omega)
    generalize World.setCell (World.setCell (World.setCell (World.setCell (World.setCell W2 _ _) _ _) _ _) _ _) _ _ = W3 at *
    obtain ⟨⟨k0, k1, k2, k3, k4⟩, -⟩ := five_cell q1
    exact bodyPost_ret (v := .agg #[.int .i64 t, .string G, .string P, .int .i64 s, .slice a' ch.length c']) (by simp [results, Tryd.results11, go_sem, k0, k1, k2, k3, k4]) rfl ⟨_, rfl, q4, fun g o n c e => by cases e; exact Nat.le_trans (show w.heap.size ≤ X.heap.size by omega) (World.ownsRow.lt HO2.out g rfl).1, q3⟩
end Go.Proofs.YtecpapifkbfblaaDoor
