/- Contract: retain's Gone. -/
import Derived.Test.YtkfaoldpcgokiaaRetD
import Derived.Test.YtkfaoldpcgokiaaGrow
namespace Go.Proofs.Ytkfaoldpcgokiaa
open Go.RowKit
set_option linter.unusedVariables false
set_option linter.unusedSimpArgs false

theorem tc_append (l m : List (List UInt8)) : tc (l ++ m) = tc l ++ tc m := by simp [tc]
theorem OT.shape {w : World} {B : Nat} {v : Value} {l : List (List UInt8)} (h : OT w B v l) : ∃ a c, v = .slice a l.length c := by
  rcases h.2 with ⟨rfl, h0⟩ | ⟨g', cap, cur, rfl, _⟩
  · exact ⟨none, 0, by rw [h0]⟩
  · exact ⟨_, cap, rfl⟩
theorem OT.made (w : World) (X : List UInt8) : OT (w.alloc (.cells #[.string (mkB X)] 9)) w.heap.size (.slice (some ⟨w.heap.size, 0, none⟩) 1 1) [X] :=
  ⟨rfl, .inr ⟨w.heap.size, 1, #[.string (mkB X)], rfl, Nat.le_refl _, heap_alloc_new w _, Nat.le_refl _, by decide, rfl, rfl⟩⟩
/-- append(s, x) for one text x. -/
theorem append_ot {w : World} {ops : Array Oper} {rest : List Oper} {o : Oper} {a : Act} {Q : Exit → Act → World → Prop} (hgd : o.guard = none) (s x : Operand)
    (ho : o.op = .call { callee := .builtin .append, args := #[s, x], argTypes := #[22, 22] })
    (B : Nat) (v : Value) (l : List (List UInt8)) (X : List UInt8) (hs : a.eval s = v) (hx : a.eval x = .slice (some ⟨w.heap.size, 0, none⟩) 1 1) (hO : OT w B v l) (hl : l.length + 1 ≤ 1000000) (hB : B ≤ w.heap.size)
    (h : ∀ a' c' w', OT w' B (.slice a' (l.length + 1) c') (l ++ [X]) → w.grownBy w' v.ownBlock → wpList Try.prog ops Q rest (a.put o.dst (.slice a' (l.length + 1) c')) w') : wpList Try.prog ops Q (o :: rest) a (w.alloc (.cells #[.string (mkB X)] 9)) := by
  obtain ⟨i0, hi, hz0, hz1, hz2⟩ := info_parts Try.infoTx
  have hb : Below w.heap.size w (w.alloc (.cells #[.string (mkB X)] 9)) := (Below.refl _ _).alloc (Nat.le_refl _) _
  have hN : ∀ j u, (tc [X])[j]? = some u → (w.alloc (.cells #[.string (mkB X)] 9)).cell? ((⟨w.heap.size, 0, none⟩ : Addr).add j) = some u := fun j u hu => World.ownsRow.cells (OT.made w X) (g := w.heap.size) rfl j u hu
  have H1 : ∀ y ∈ tc [X], y.oneCell' = true := by intro y hy; simp [tc] at hy; subst hy; rfl
  refine wpList_append_own_at _ hgd s x 22 ho B 9 i0 (.string ⟨#[]⟩) 1 16 Try.underlying22 hi hz0 hz1 hz2 rfl (by decide) v _ _ hs (hO.below hb) ⟨w.heap.size, 0, none⟩ 1 1 (tc [X]) hx (by rw [tc_len]; rfl) hN H1 (by unfold maxLen; omega) (by omega) (by rw [World.size_alloc]; omega) ?_
  intro v' w' hown hg _ hat
  have hO' : OT w' B v' (l ++ [X]) := by unfold OT; rw [tc_append, List.length_append]; exact hown
  obtain ⟨a', c', rfl⟩ := hO'.shape
  have e : (l ++ [X]).length = l.length + 1 := by simp
  rw [e] at hO' hat ⊢
  exact h a' c' w' hO' (gtrans (gbelow hb) hg)
/-- The names of those among the first k that aren't kept. -/
def goneP (p : Pol) (l : List Sn) : Nat → List (List UInt8)
  | 0 => []
  | k + 1 => if bF (kpL p l) k = true then goneP p l k else goneP p l k ++ [(l.getD k default).i]
theorem goneP_len (p : Pol) (l : List Sn) : ∀ k, (goneP p l k).length ≤ k
  | 0 => Nat.le_refl _
  | k + 1 => by
    have := goneP_len p l k
    unfold goneP; split
    · omega
    · rw [List.length_append]; simp; omega
theorem goneP_yes {p : Pol} {l : List Sn} {k : Nat} (h : bF (kpL p l) k = true) : goneP p l (k + 1) = goneP p l k := if_pos h
theorem goneP_no {p : Pol} {l : List Sn} {k : Nat} (h : bF (kpL p l) k = false) : goneP p l (k + 1) = goneP p l k ++ [(l.getD k default).i] := if_neg (by rw [h]; simp)
/-- Of the names of those that aren't kept: how many. -/
def gnN (p : Pol) (l : List Sn) (k : Nat) : Nat := (goneP p l k).length
set_option maxRecDepth 100000 in
set_option maxHeartbeats 1000000 in
theorem gone_bad (p : Pol) (tv v : Value) (l : List Sn) (w : World) (hP : PolIn w w.heap.size p tv) (hV : SV w w.heap.size v l) (hl : l.length ≤ 1000) (hb : errR p l ≠ 0) :
    Calls Try.prog 9 #[polV p tv, v] w fun e w' => e = .returned (.tuple #[.slice none 0 0, .int .i64 (errR p l)]) ∧ Below w.heap.size w w' := by
  obtain ⟨W1, hW1⟩ : ∃ W1, W1 = w.alloc (.cells #[.int .i64 p.a, .int .i64 p.d, .int .i64 p.k, .int .i64 p.m, tv] 24) := ⟨_, rfl⟩
  have hB1 : Below w.heap.size w W1 := by rw [hW1]; exact (Below.refl _ w).alloc (Nat.le_refl _) _
  have HC := keep_bad p tv v l W1 ((hP.below hB1).mono hB1.size) ((hV.below hB1).mono hB1.size) (by omega) hb
  have HB1 : Hid (Below w.heap.size w W1) := hB1
  have hbe : (errR p l == 0) = false := by rw [beq_eq_false_iff_ne]; exact hb
  obtain ⟨ta, tc, rfl, _, _⟩ := hP.tv
  unfold polV at HC ⊢
  generalize errR p l = E at *
  rw [hW1] at HC
  have HW1 : Hid (w.alloc (.cells #[.int .i64 p.a, .int .i64 p.d, .int .i64 p.k, .int .i64 p.m, .slice ta p.tg.length tc] 24) = W1) := hW1.symm
  clear hb hV hP hW1 hB1
  go_enter Try.func9, Try.ntmps9
  go_wp2_with fail
  refine HC.mono ?_
  rintro e w2 ⟨rfl, hb2⟩
  rw [show w.alloc (.cells #[.int .i64 p.a, .int .i64 p.d, .int .i64 p.k, .int .i64 p.m, .slice ta p.tg.length tc] 24) = W1 from HW1.out] at hb2
  have HB2 : Hid (Below w.heap.size w w2) := HB1.out.trans (hb2.mono HB1.out.size)
  clear hb2
  go_wp2
  go_ret2
  exact ⟨rfl, HB2.out⟩
set_option maxRecDepth 100000 in
set_option maxHeartbeats 2000000 in
theorem gone_good (p : Pol) (tv v : Value) (l : List Sn) (w : World) (hP : PolIn w w.heap.size p tv) (hV : SV w w.heap.size v l) (hl : l.length ≤ 1000) (hlg : ∀ x ∈ l, x.g.length ≤ 9223372036854775807) (hb : errR p l = 0) :
    Calls Try.prog 9 #[polV p tv, v] w fun e w' => ∃ a c, e = .returned (.tuple #[.slice a (gnN p l l.length) c, .int .i64 0]) ∧ OT w' w.heap.size (.slice a (gnN p l l.length) c) (goneP p l l.length) ∧ Below w.heap.size w w' := by
  obtain ⟨W1, hW1⟩ : ∃ W1, W1 = w.alloc (.cells #[.int .i64 p.a, .int .i64 p.d, .int .i64 p.k, .int .i64 p.m, tv] 24) := ⟨_, rfl⟩
  have hB1 : Below w.heap.size w W1 := by rw [hW1]; exact (Below.refl _ w).alloc (Nat.le_refl _) _
  have HC := keep_good p tv v l W1 ((hP.below hB1).mono hB1.size) ((hV.below hB1).mono hB1.size) (by omega) hlg hb
  have HB1 : Hid (Below w.heap.size w W1) := hB1
  have HV : Hid (SV w w.heap.size v l) := hV
  obtain ⟨n, hn⟩ : ∃ n, n = l.length := ⟨_, rfl⟩
  have HN : Hid (n = l.length) := hn
  have hn2 : n ≤ 1000 := by omega
  obtain ⟨ta, tc, rfl, -, -⟩ := hP.tv
  obtain ⟨va, vc, rfl, -, -⟩ := hV
  rw [← hn] at HC HV
  rw [← hn]
  unfold polV at HC ⊢
  rw [hW1] at HC
  have HW1 : Hid (w.alloc (.cells #[.int .i64 p.a, .int .i64 p.d, .int .i64 p.k, .int .i64 p.m, .slice ta p.tg.length tc] 24) = W1) := hW1.symm
  have hzs := zeroSn
  clear hb hP hW1 hB1 hn hl hlg
  go_enter Try.func9, Try.ntmps9
  go_wp2_with fail
  refine HC.mono ?_
  rintro e w2 ⟨g, rfl, hgw, hR, hb2⟩
  rw [show w.alloc (.cells #[.int .i64 p.a, .int .i64 p.d, .int .i64 p.k, .int .i64 p.m, .slice ta p.tg.length tc] 24) = W1 from HW1.out] at hb2
  have HR : Hid (BR w2 g n (bF (kpL p l))) := hR
  have HB2 : Hid (Below w.heap.size w w2) := HB1.out.trans (hb2.mono HB1.out.size)
  have hgl := hR.lt
  clear hb2 hR hgw
  go_wp2
  go_loopw [22, 8] (fun i s wr => ∃ (k : Nat) (ua : Option Addr) (uc : Nat), k ≤ n ∧ i = .int .i64 (k : Int) ∧ s = .slice ua (gnN p l k) uc ∧ OT wr w2.heap.size (.slice ua (gnN p l k) uc) (goneP p l k) ∧ Below w2.heap.size w2 wr) (fun i _ _ => n - (intOf i).toNat)
  case atStart => exact ⟨0, none, 0, Nat.zero_le _, rfl, rfl, ⟨rfl, .inl ⟨rfl, rfl⟩⟩, Below.refl _ _⟩
  case round =>
    obtain ⟨k, ua, uc, hk, rfl, rfl, hO, hb⟩ := hrel
    have HO : Hid (OT wr w2.heap.size (.slice ua (gnN p l k) uc) (goneP p l k)) := hO
    have HB : Hid (Below w2.heap.size w2 wr) := hb
    clear hO hb
    by_cases hlt : k < n
    · have hlti : (k : Int) < (n : Int) := by omega
      obtain ⟨x, hx⟩ : ∃ x, l[k]? = some x := ⟨_, List.getElem?_eq_getElem (by rw [← HN.out]; exact hlt)⟩
      obtain ⟨gg, o, rfl, hgB, hg, -, hcap, c0, c1, c2⟩ := ((HV.out.below HB2.out).below (HB.out.mono HB2.out.size)).at hx
      have HX : Hid ((l.getD k default).i = x.i) := by unfold Hid; rw [List.getD_eq_getElem?_getD, hx]; rfl
      obtain ⟨W3, hW3⟩ : ∃ W3, W3 = wr.alloc (.cells #[.string (mkB x.i), .int .i64 x.t, .string (mkB x.g)] 39) := ⟨_, rfl⟩
      have hb3 : Below wr.heap.size wr W3 := by rw [hW3]; exact (Below.refl _ _).alloc (Nat.le_refl _) _
      have hnew : W3.heap[wr.heap.size]? = some (.cells #[.string (mkB x.i), .int .i64 x.t, .string (mkB x.g)] 39 (0, 0)) := by rw [hW3]; exact heap_alloc_new wr _
      have b0 : W3.cell? ⟨wr.heap.size, 0, none⟩ = some (.string (mkB x.i)) := by unfold World.cell?; rw [hnew]; rfl
      have hsz3 : wr.heap.size < W3.heap.size := (Array.getElem?_eq_some_iff.1 hnew).1
      have HB3 : Hid (Below w2.heap.size w2 W3) := HB.out.trans (hb3.mono HB.out.size)
      have HO3 : Hid (OT W3 w2.heap.size (.slice ua (gnN p l k) uc) (goneP p l k)) := HO.out.below hb3
      have hR3 : BR W3 g n (bF (kpL p l)) := HR.out.keep (HB3.out.block g hgl)
      have kc := hR3.cell k hlt
      have hgl3 := hR3.lt
      have HW3 : Hid (wr.alloc (.cells #[.string (mkB x.i), .int .i64 x.t, .string (mkB x.g)] 39) = W3) := hW3.symm
      have hgn := goneP_len p l k
      have hs2 := HB3.out.size
      have HYES : Hid (bF (kpL p l) k = true → goneP p l (k + 1) = goneP p l k) := goneP_yes
      have HNO : Hid (bF (kpL p l) k = false → goneP p l (k + 1) = goneP p l k ++ [x.i]) := fun h => (goneP_no h).trans (by rw [HX.out])
      clear hb3 hnew hW3 hR3 hx
      generalize bF (kpL p l) k = bk at *
      cases bk with
      | true =>
        have HE : Hid (goneP p l (k + 1) = goneP p l k) := HYES.out rfl
        go_upto_region 8 with fail
        rw [show wr.alloc (.cells #[.string (mkB x.i), .int .i64 x.t, .string (mkB x.g)] 39) = W3 from HW3.out]
        clear c0 c1 c2
        go_wp2
        go_roundw
        case rel => exact ⟨k + 1, ua, uc, by omega, by go_num, by unfold gnN; rw [HE.out], by unfold gnN; rw [HE.out]; exact HO3.out, HB3.out⟩
        case measure => simp [intOf]; omega
      | false =>
        have HE : Hid (goneP p l (k + 1) = goneP p l k ++ [x.i]) := HNO.out rfl
        have HEN : Hid (gnN p l (k + 1) = gnN p l k + 1) := by unfold Hid gnN; rw [HE.out]; simp
        have HGN : Hid ((goneP p l k).length = gnN p l k) := rfl
        generalize gnN p l k = q at *
        go_upto_region 8 with fail
        rw [show wr.alloc (.cells #[.string (mkB x.i), .int .i64 x.t, .string (mkB x.g)] 39) = W3 from HW3.out]
        clear c0 c1 c2
        go_wp2_with (at_builtin; refine append_ot rfl _ _ rfl w2.heap.size (.slice ua q uc) (goneP p l k) x.i rfl rfl HO3.out (by omega) hs2 ?_; intro a' c' w4 hO4 hg4)
        have HO4 : Hid (OT w4 w2.heap.size (.slice a' ((goneP p l k).length + 1) c') (goneP p l k ++ [x.i])) := hO4
        have HB4 : Hid (Below w2.heap.size w2 w4) := HB3.out.grown hg4 hs2 (fun r hr => (World.ownsRow.lt HO3.out r hr).1)
        clear hO4 hg4
        go_wp2
        go_roundw
        case rel => exact ⟨k + 1, a', c', by omega, by go_num, by rw [HEN.out, HGN.out], by rw [HEN.out, HE.out, ← HGN.out]; exact HO4.out, HB4.out⟩
        case measure => simp [intOf]; omega
    · have hlti : ¬ (k : Int) < (n : Int) := by omega
      obtain rfl : k = n := by omega
      have HB3 : Hid (Below w.heap.size w wr) := HB2.out.trans (HB.out.mono HB2.out.size)
      have HO3 : Hid (OT wr w.heap.size (.slice ua (gnN p l k) uc) (goneP p l k)) := by
        obtain ⟨h1, h2⟩ := HO.out
        refine ⟨h1, ?_⟩
        rcases h2 with h2 | ⟨g', cap', cur, e, hB', r⟩
        · exact .inl h2
        · exact .inr ⟨g', cap', cur, e, Nat.le_trans HB2.out.size hB', r⟩
      go_wp2
      go_ret2
      exact ⟨ua, uc, rfl, HO3.out, HB3.out⟩
end Go.Proofs.Ytkfaoldpcgokiaa
