/- Contracts: the document's span, one. -/
import Derived.Test.YtkfaoldpcgokiaaRetE
import Derived.Test.YtkfaoldpcgokiaaDayO
import Derived.Deep.MidRow
namespace Go.Proofs.Ytkfaoldpcgokiaa
open Go.RowKit
set_option linter.unusedVariables false
set_option linter.unusedSimpArgs false

theorem dv_snoc (x : Nat) : ∀ l : List Nat, dv (l ++ [x]) = if x ∈ l then dv l else dv l + 1
  | [] => by simp [dv]
  | y :: r => by
    have ih := dv_snoc x r
    rw [List.cons_append, dv, dv, ih]
    by_cases hx : x ∈ r
    · have h1 : x ∈ y :: r := by simp [hx]
      rw [if_pos hx, if_pos h1]
      by_cases hy : y ∈ r
      · rw [if_pos hy, if_pos (by simp [hy])]
      · have hyx : y ≠ x := fun e => hy (e ▸ hx)
        rw [if_neg hy, if_neg (by simp [hy, hyx])]
    · rw [if_neg hx]
      by_cases hyx : y = x
      · subst hyx
        rw [if_pos (by simp), if_neg hx, if_pos (by simp)]
      · have h1 : ¬ x ∈ y :: r := by simp [hx]; exact fun e => hyx e.symm
        rw [if_neg h1]
        by_cases hy : y ∈ r
        · rw [if_pos hy, if_pos (by simp [hy])]
        · rw [if_neg hy, if_neg (by simp [hy, hyx])]
/-- A span's number. -/
def spF (k : Nat) (x : Sn) : Nat := if k = 1 then dyN x else if k = 2 then wkN x else moF x
def tOk (x : Sn) : Prop := 0 ≤ x.t ∧ x.t ≤ 253402300799
set_option maxRecDepth 100000 in
theorem field_n (v0 v1 v2 v3 v4 : Int) (W : World) : (Instr.field 56 (.agg #[.int .i64 v0, .int .i64 v1, .int .i64 v2, .int .i64 v3, .int .i64 v4]) 0).run Try.prog W = .ok (.int .i64 v0) W := by kernel_rfl
set_option maxRecDepth 100000 in
set_option maxHeartbeats 1000000 in
theorem span_any (k : Nat) (x : Sn) (w : World) (hx : tOk x) (hk : k = 1 ∨ k = 2 ∨ k = 3) :
    Calls Try.prog 24 #[.int .i64 (k : Int), .int .i64 x.t] w fun e w' => e = .returned (.int .i64 (spF k x : Nat)) ∧ Below w.heap.size w w' := by
  obtain ⟨h1, h2⟩ := hx
  obtain ⟨t, ht⟩ : ∃ t : Nat, x.t = (t : Int) := ⟨x.t.toNat, by omega⟩
  have htn : t ≤ 253402300799 := by omega
  have hd := rday_any t w htn
  have hw := rweek_any t w htn
  have ho := of_any (t / 86400) w (by omega)
  have E1 : dyN x = t / 86400 := by unfold dyN; rw [ht]; rfl
  have E2 : wkN x = (t / 86400 + 3) / 7 := by unfold wkN; rw [ht]; rfl
  have E3 : moF x = mon (t / 86400) := by unfold moF; rw [ht]; rfl
  rw [ht]
  clear h1 h2 ht
  unfold mC at ho
  rcases hk with rfl | rfl | rfl
  · have e : spF 1 x = t / 86400 := by unfold spF; rw [if_pos rfl, E1]
    rw [e]
    clear E1 E2 E3 e hw ho
    generalize t / 86400 = q at *
    go_enter Try.func24, Try.ntmps24
    go_wp2_with fail
    refine hd.mono ?_
    rintro e w2 ⟨rfl, rfl⟩
    go_wp2
    go_ret
    exact ⟨rfl, Below.refl _ _⟩
  · have e : spF 2 x = (t / 86400 + 3) / 7 := by unfold spF; rw [if_neg (by decide), if_pos rfl, E2]
    rw [e]
    clear E1 E2 E3 e hd ho
    generalize (t / 86400 + 3) / 7 = q at *
    go_enter Try.func24, Try.ntmps24
    go_wp2_with fail
    refine hw.mono ?_
    rintro e w2 ⟨rfl, rfl⟩
    go_wp2
    go_ret
    exact ⟨rfl, Below.refl _ _⟩
  · have e : spF 3 x = mon (t / 86400) := by unfold spF; rw [if_neg (by decide), if_neg (by decide), E3]
    rw [e]
    clear E1 E2 E3 e hw
    generalize mon (t / 86400) = m at *
    generalize t / 86400 = q at *
    go_enter Try.func24, Try.ntmps24
    go_wp2_with fail
    refine hd.mono ?_
    rintro e w2 ⟨rfl, rfl⟩
    go_wp2_with fail
    refine ho.mono ?_
    rintro e w3 ⟨rfl, hb⟩
    have HB : Hid (Below w2.heap.size w2 w3) := hb
    have hf := field_n (m : Int) (yrN m : Nat) (moN m : Nat) (SM m : Nat) (MDn m : Nat)
    clear hb
    go_wp2
    go_ret
    exact ⟨rfl, HB.out⟩
/-- Numbers in a row of one's own. -/
def nC (l : List Nat) : List Value := l.map fun n : Nat => Value.int .i64 (n : Int)
theorem nC_len (l : List Nat) : (nC l).length = l.length := by simp [nC]
theorem nC_one (l : List Nat) : ∀ v ∈ nC l, v.oneCell' = true := by
  intro v hv
  obtain ⟨x, _, rfl⟩ := List.mem_map.1 hv
  rfl
def NO (w : World) (B : Nat) (v : Value) (l : List Nat) : Prop := w.ownsRow B 3 1 v l.length (nC l)
theorem NO.shape {w : World} {B : Nat} {v : Value} {l : List Nat} (h : NO w B v l) : ∃ a c, v = .slice a l.length c := by
  rcases h.2 with ⟨rfl, h0⟩ | ⟨g', cap, cur, rfl, _⟩
  · exact ⟨none, 0, by rw [h0]⟩
  · exact ⟨_, cap, rfl⟩
theorem NO.below {w w' : World} {B : Nat} {v : Value} {l : List Nat} (h : NO w B v l) (hb : Below w.heap.size w w') : NO w' B v l := by
  refine World.ownsRow.kept h (row := none) ⟨hb.os, hb.tape, hb.output, hb.size, fun k hk _ => hb.block k hk⟩ ?_
  cases hv : v.ownBlock
  · exact .inl rfl
  · exact .inr (by simp)
theorem NO.at {w : World} {B : Nat} {v : Value} {l : List Nat} (h : NO w B v l) {i : Nat} (hi : i < l.length) : ∃ g c, v = .slice (some ⟨g, 0, none⟩) l.length c ∧ l.length ≤ c ∧ g < w.heap.size ∧ w.cell? ⟨g, i, none⟩ = some (.int .i64 (l.getD i 0 : Nat)) := by
  have hlt := World.ownsRow.lt h
  rcases h.2 with ⟨rfl, h0⟩ | ⟨g, cap, cur, rfl, _, _, hc, _⟩
  · omega
  · refine ⟨g, cap, rfl, hc, (hlt g rfl).2, ?_⟩
    have := World.ownsRow.cells h (g := g) rfl i (.int .i64 (l.getD i 0 : Nat)) (by
      unfold nC
      rw [List.getElem?_map, List.getD_eq_getElem?_getD, List.getElem?_eq_getElem hi]; rfl)
    rwa [Addr.add_mid, Nat.zero_add] at this
theorem NO.made (w : World) (x : Nat) : NO (w.alloc (.cells #[.int .i64 (x : Int)] 3)) w.heap.size (.slice (some ⟨w.heap.size, 0, none⟩) 1 1) [x] :=
  ⟨rfl, .inr ⟨w.heap.size, 1, #[.int .i64 (x : Int)], rfl, Nat.le_refl _, heap_alloc_new w _, Nat.le_refl _, by decide, rfl, rfl⟩⟩
theorem Try.infoIn : (Try.prog.info? 3).map (fun i => (i.zero, i.size, i.bytes)) = some (some (.int .i64 0), 1, 8) := by kernel_rfl
/-- append(s, x) for one number x. -/
theorem append_no {w : World} {ops : Array Oper} {rest : List Oper} {o : Oper} {a : Act} {Q : Exit → Act → World → Prop} (hgd : o.guard = none) (s x : Operand)
    (ho : o.op = .call { callee := .builtin .append, args := #[s, x], argTypes := #[42, 42] })
    (B : Nat) (v : Value) (l : List Nat) (X : Nat) (hs : a.eval s = v) (hx : a.eval x = .slice (some ⟨w.heap.size, 0, none⟩) 1 1) (hO : NO w B v l) (hl : l.length + 1 ≤ 1000000) (hB : B ≤ w.heap.size)
    (h : ∀ a' c' w', NO w' B (.slice a' (l.length + 1) c') (l ++ [X]) → w.grownBy w' v.ownBlock → wpList Try.prog ops Q rest (a.put o.dst (.slice a' (l.length + 1) c')) w') : wpList Try.prog ops Q (o :: rest) a (w.alloc (.cells #[.int .i64 (X : Int)] 3)) := by
  obtain ⟨i0, hi, hz0, hz1, hz2⟩ := info_parts Try.infoIn
  have hb : Below w.heap.size w (w.alloc (.cells #[.int .i64 (X : Int)] 3)) := (Below.refl _ _).alloc (Nat.le_refl _) _
  have hN : ∀ j u, (nC [X])[j]? = some u → (w.alloc (.cells #[.int .i64 (X : Int)] 3)).cell? ((⟨w.heap.size, 0, none⟩ : Addr).add j) = some u := fun j u hu => World.ownsRow.cells (NO.made w X) (g := w.heap.size) rfl j u hu
  refine wpList_append_own_at _ hgd s x 42 ho B 3 i0 (.int .i64 0) 1 8 Try.underlying42 hi hz0 hz1 hz2 rfl (by decide) v _ _ hs (hO.below hb) ⟨w.heap.size, 0, none⟩ 1 1 (nC [X]) hx (by rw [nC_len]; rfl) hN (nC_one _) (by unfold maxLen; omega) (by omega) (by rw [World.size_alloc]; omega) ?_
  intro v' w' hown hg _ hat
  have hO' : NO w' B v' (l ++ [X]) := by unfold NO nC; rw [List.map_append, List.length_append]; exact hown
  obtain ⟨a', c', rfl⟩ := hO'.shape
  have e : (l ++ [X]).length = l.length + 1 := by simp
  rw [e] at hO' hat ⊢
  exact h a' c' w' hO' (gtrans (gbelow hb) hg)
theorem Try.undSnp : Try.prog.underlying 25 = some (.slice (Try.prog.elem 25)) := by kernel_rfl
theorem Try.szSnp (W : World) : (sizeOf (Try.prog.elem 25)).run Try.prog W = .ok 3 W := by kernel_rfl
/-- v[m:] -/
theorem cut_snp {w : World} {B : Nat} {a : Option Addr} {N cap : Nat} {l : List Sn} (h : SV w B (.slice a N cap) l) (m : Nat) (hm : m ≤ N) :
    ∃ a2, (∀ W, (Instr.slice 25 (.slice a N cap) (some (.int .i64 (m : Int))) none none).run Try.prog W = .ok (.slice a2 (N - m) (cap - m)) W) ∧ SV w B (.slice a2 (N - m) (cap - m)) (l.drop m) := by
  obtain ⟨a', cap', e, hc, hz, hf⟩ := h
  injection e with e1 e2 e3
  subst e1 e3
  refine ⟨if cap = m then a else a.map (·.add (m * 3)), fun W => ?_, _, _, by rw [List.length_drop, e2], by rw [List.length_drop]; omega, fun hn => ?_, fun hne => ?_⟩
  · rw [run_slice_l (ht := Try.undSnp) (h0 := by omega) (h1 := by omega), Try.szSnp]
    simp [Result.andThen, sliced]
  · split at hn
    · omega
    · cases a with
      | none => have := hz rfl; omega
      | some x => cases hn
  · have hlt : m < l.length := by
      rcases Nat.lt_or_ge m l.length with h | h
      · exact h
      · exact absurd (List.drop_eq_nil_of_le h) hne
    obtain ⟨g, o, rfl, hg, hgs, hcl⟩ := hf (fun e => by rw [e] at hlt; simp at hlt)
    refine ⟨g, o + m * 3, ?_, hg, hgs, fun j u hu => ?_⟩
    · rw [if_neg (by omega), Option.map_some, Addr.add_mid]
    · rw [snsC_drop, List.getElem?_drop] at hu
      have := hcl _ u hu
      rwa [← Nat.add_assoc] at this
/-- Is it among the first j? -/
def inN (L : List Nat) (j x : Nat) : Bool := decide (x ∈ L.take j)
theorem inN_succ (L : List Nat) (j x : Nat) (h : j < L.length) : inN L (j + 1) x = (inN L j x || decide (x = L.getD j 0)) := by
  unfold inN
  rw [← Bool.decide_or]
  apply decide_eq_decide.2
  rw [List.take_add_one, List.getElem?_eq_getElem h, List.mem_append, List.getD_eq_getElem?_getD, List.getElem?_eq_getElem h]
  simp
set_option maxRecDepth 100000 in
set_option maxHeartbeats 2000000 in
theorem one_any (k : Nat) (a : Option Addr) (N cap : Nat) (l : List Sn) (i : Nat) (c : Int) (w : World) (hk : k = 1 ∨ k = 2 ∨ k = 3) (hV : SV w w.heap.size (.slice a N cap) l) (hN : N = l.length) (hi : i < N) (hN2 : N ≤ 1000) (ht : ∀ x ∈ l, tOk x) :
    Calls Try.prog 21 #[.slice a N cap, .int .i64 (i : Int), .int .i64 (k : Int), .int .i64 c] w fun e w' => e = .returned (.bool (kAt c (spF k) l i)) ∧ Below w.heap.size w w' := by
  obtain ⟨x, hx⟩ : ∃ x, l[i]? = some x := ⟨_, List.getElem?_eq_getElem (by rw [← hN]; exact hi)⟩
  have HN : Hid (N = l.length) := hN
  have HT : Hid (∀ x ∈ l, tOk x) := ht
  have hxm := List.mem_of_getElem? hx
  have HSP := span_any k x w (ht x hxm) hk
  obtain ⟨g, o, rfl, -, hg, -, hcap, c0, c1, c2⟩ := hV.at hx
  have HV : Hid (SV w w.heap.size (.slice (some ⟨g, o, none⟩) N cap) l) := hV
  obtain ⟨a2, hrun, hV2⟩ := cut_snp hV (i + 1) (by omega)
  obtain ⟨r, hr⟩ : ∃ r, r = l.drop (i + 1) := ⟨_, rfl⟩
  obtain ⟨M, hM⟩ : ∃ M, M = N - (i + 1) := ⟨_, rfl⟩
  rw [← hr, ← hM] at hV2
  rw [← hM] at hrun
  have HM : Hid (M = r.length) := by unfold Hid; rw [hr, List.length_drop, hM, ← hN]
  have HV2 : Hid (SV w w.heap.size (.slice a2 M (cap - (i + 1))) r) := hV2
  have HRT : Hid (∀ x ∈ r, tOk x) := fun y hy => ht y (by rw [hr] at hy; exact List.mem_of_mem_drop hy)
  have HK : Hid (kAt c (spF k) l i = (decide (spF k x ∉ r.map (spF k)) && decide ((dv (r.map (spF k)) : Int) < c))) := by
    unfold Hid kAt
    rw [List.drop_eq_getElem_cons (by rw [← hN]; exact hi), List.map_cons, kS, hr]
    rw [List.getElem?_eq_getElem (by rw [← hN]; exact hi)] at hx
    injection hx with hx
    rw [hx]
  have hM2 : M ≤ 1000 := by omega
  have hwi : IntKind.i64.wrap ((i : Int) + 1) = (i : Int) + 1 := by rw [IntKind.wrap_i64]; omega
  rw [show ((i + 1 : Nat) : Int) = (i : Int) + 1 by omega] at hrun
  have HKK : Hid (k = 1 ∨ k = 2 ∨ k = 3) := hk
  have hk4 : k ≤ 3 := by omega
  generalize cap - (i + 1) = cap2 at *
  have hzs := zeroSn
  have HZ : Hid (∀ W, Below w.heap.size w W → NO (W.alloc (.cells #[] 3)) w.heap.size (.slice (some ⟨W.heap.size, 0, none⟩) 0 0) []) := fun W hb => ⟨rfl, .inr ⟨W.heap.size, 0, #[], rfl, hb.size, heap_alloc_new W _, Nat.le_refl _, by decide, rfl, rfl⟩⟩
  obtain ⟨m, hm⟩ : ∃ m, m = spF k x := ⟨_, rfl⟩
  rw [← hm] at HSP HK
  clear hV hV2 hN hr hM ht hxm hx hm hk
  go_enter Try.func21, Try.ntmps21
  go_wp2_with fail
  refine HSP.mono ?_
  rintro e w1 ⟨rfl, hb1⟩
  have HB1 : Hid (Below w.heap.size w w1) := hb1
  clear hb1 c0 c1 c2
  go_upto_region 3 with fail
  obtain ⟨W2, hW2⟩ : ∃ W2, W2 = w1.alloc (.cells #[] 3) := ⟨_, rfl⟩
  rw [← hW2]
  have HO2 : Hid (NO W2 w.heap.size (.slice (some ⟨w1.heap.size, 0, none⟩) 0 0) []) := by rw [hW2]; exact HZ.out w1 HB1.out
  have HB2 : Hid (Below w.heap.size w W2) := by rw [hW2]; exact HB1.out.alloc HB1.out.size _
  clear hW2 HZ
  go_wp2
  go_loopw [30, 10] (fun j s wr => ∃ (q n : Nat) (L : List Nat) (ua : Option Addr) (uc : Nat), q ≤ M ∧ j = .int .i64 (q : Int) ∧ s = .slice ua n uc ∧ n ≤ q ∧ Hid (n = L.length) ∧ Hid (n = dv ((r.map (spF k)).take q)) ∧ Hid (∀ y, y ∈ L ↔ y ∈ (r.map (spF k)).take q) ∧ Hid (m ∉ (r.map (spF k)).take q) ∧ NO wr w.heap.size (.slice ua n uc) L ∧ Below w.heap.size w wr) (fun j _ _ => M - (intOf j).toNat)
  case atStart => exact ⟨0, 0, [], _, 0, Nat.zero_le _, rfl, rfl, Nat.le_refl _, rfl, rfl, (fun y => by simp), (by unfold Hid; simp), HO2.out, HB2.out⟩
  case round =>
    obtain ⟨q, n, L, ua, uc, hq, rfl, rfl, hnq, HL, HD, HY, HMM, hO, hb⟩ := hrel
    have HO : Hid (NO wr w.heap.size (.slice ua n uc) L) := hO
    have HB : Hid (Below w.heap.size w wr) := hb
    have hs := hb.size
    clear hO hb
    by_cases hlt : q < M
    · have hlti : (q : Int) < (M : Int) := by omega
      obtain ⟨y, hy⟩ : ∃ y, r[q]? = some y := ⟨_, List.getElem?_eq_getElem (by rw [← HM.out]; exact hlt)⟩
      obtain ⟨gg, oo, rfl, -, hgg, -, hcap2, s0, s1, s2⟩ := (HV2.out.below HB.out).at hy
      have HTK : Hid ((r.map (spF k)).take (q + 1) = (r.map (spF k)).take q ++ [spF k y]) := by
        unfold Hid
        rw [List.take_add_one, List.getElem?_map, hy]; rfl
      obtain ⟨W3, hW3⟩ : ∃ W3, W3 = wr.alloc (.cells #[.string (mkB y.i), .int .i64 y.t, .string (mkB y.g)] 39) := ⟨_, rfl⟩
      have hb3 : Below wr.heap.size wr W3 := by rw [hW3]; exact (Below.refl _ _).alloc (Nat.le_refl _) _
      have hn3 : W3.heap[wr.heap.size]? = some (.cells #[.string (mkB y.i), .int .i64 y.t, .string (mkB y.g)] 39 (0, 0)) := by rw [hW3]; exact heap_alloc_new wr _
      have HSY := span_any k y W3 (HRT.out y (List.mem_of_getElem? hy)) HKK.out
      have HB3 : Hid (Below w.heap.size w W3) := HB.out.trans (hb3.mono HB.out.size)
      have HO3 : Hid (NO W3 w.heap.size (.slice ua n uc) L) := HO.out.below hb3
      have HMY : Hid (m ∈ (r.map (spF k)) ∨ m ≠ spF k y) := by
        by_cases e : m = spF k y
        · exact .inl (by rw [e]; exact List.mem_map.2 ⟨y, List.mem_of_getElem? hy, rfl⟩)
        · exact .inr e
      have e1 : W3.cell? ⟨wr.heap.size, 1, none⟩ = some (.int .i64 y.t) := by unfold World.cell?; rw [hn3]; rfl
      have HW3 : Hid (wr.alloc (.cells #[.string (mkB y.i), .int .i64 y.t, .string (mkB y.g)] 39) = W3) := hW3.symm
      clear hb3 hn3 hW3 hy
      obtain ⟨z, hz⟩ : ∃ z, z = spF k y := ⟨_, rfl⟩
      rw [← hz] at HSY HTK HMY
      clear hz
      go_upto_region 6 with fail
      rw [show wr.alloc (.cells #[.string (mkB y.i), .int .i64 y.t, .string (mkB y.g)] 39) = W3 from HW3.out]
      clear s0 s1 s2
      go_wp2_with fail
      refine HSY.mono ?_
      rintro e w4 ⟨rfl, hb4⟩
      have HB4 : Hid (Below w.heap.size w w4) := HB3.out.trans (hb4.mono HB3.out.size)
      have HO4 : Hid (NO w4 w.heap.size (.slice ua n uc) L) := HO3.out.below hb4
      have hs4 := HB4.out.size
      clear hb4 HSY e1
      by_cases hzm : z = m
      · have HF : Hid (kAt c (spF k) l i = false) := by
          rcases HMY.out with h | h
          · unfold Hid; rw [HK.out, decide_eq_false (by simpa using h), Bool.false_and]
          · exact absurd hzm.symm h
        have hzi : (z : Int) = (m : Int) := by omega
        clear hzm
        go_wp2
        go_ret
        exact ⟨by rw [HF.out]; rfl, HB4.out⟩
      · have hzi : ¬ (z : Int) = (m : Int) := by omega
        go_wp2
        go_loopw [43, 14, 16] (fun j s _ wx => ∃ (p : Nat), p ≤ n ∧ j = .int .i64 (p : Int) ∧ s = .bool (inN L p z) ∧ wx = w4) (fun j _ _ _ => n - (intOf j).toNat)
        case atStart => exact ⟨0, Nat.zero_le _, rfl, by simp [inN], rfl⟩
        case round =>
          obtain ⟨p, hp, rfl, rfl, hw⟩ := hrel
          rw [hw]
          clear hw
          by_cases hpl : p < n
          · have hpi : (p : Int) < (n : Int) := by omega
            obtain ⟨ga, ca, he, hca, hga, k0⟩ := HO4.out.at (i := p) (by rw [← HL.out]; exact hpl)
            injection he with he1 he2 he3
            have hcan : n ≤ ca := by rw [he2]; exact hca
            clear he2 hca
            subst he1 he3
            have HIN : Hid (inN L (p + 1) z = (inN L p z || decide (z = L.getD p 0))) := inN_succ L p z (by rw [← HL.out]; exact hpl)
            generalize L.getD p 0 = u at *
            generalize inN L p z = b at *
            cases b with
            | true =>
              go_wp2
              go_roundw
              case rel => exact ⟨p + 1, by omega, by go_num, by rw [HIN.out]; rfl, by first | rfl | trivial⟩
              case measure => simp [intOf]; omega
            | false =>
              have hdi : decide ((z : Int) = (u : Int)) = decide (z = u) := decide_eq_decide.2 (by omega)
              by_cases hzu : z = u
              · have hzi : (z : Int) = (u : Int) := by omega
                have HX : Hid (inN L (p + 1) z = true) := by unfold Hid; rw [HIN.out, decide_eq_true hzu]; rfl
                clear hzu hdi
                go_wp2
                go_roundw
                case rel => exact ⟨p + 1, by omega, by go_num, by rw [HX.out], by first | rfl | trivial⟩
                case measure => simp [intOf]; omega
              · have hzi : ¬ (z : Int) = (u : Int) := by omega
                have hzb : ((z : Int) == (u : Int)) = false := beq_eq_false_iff_ne.2 hzi
                have HX : Hid (inN L (p + 1) z = false) := by unfold Hid; rw [HIN.out, decide_eq_false hzu]; rfl
                clear hdi
                go_wp2
                go_roundw
                case rel => exact ⟨p + 1, by omega, by go_num, by rw [HX.out], by first | rfl | trivial⟩
                case measure => simp [intOf]; omega
          · have hpi : ¬ (p : Int) < (n : Int) := by omega
            obtain rfl : p = n := by omega
            have HIL : Hid (inN L p z = decide (z ∈ (r.map (spF k)).take q)) := by
              unfold Hid inN
              rw [HL.out, List.take_length]
              exact decide_eq_decide.2 (HY.out z)
            have HM2 : Hid (m ∉ (r.map (spF k)).take (q + 1)) := by
              unfold Hid
              rw [HTK.out, List.mem_append, List.mem_singleton]
              rintro (h | h)
              · exact HMM.out h
              · exact hzm h.symm
            have HDS := dv_snoc z ((r.map (spF k)).take q)
            rw [← HTK.out, ← HD.out] at HDS
            have HDV : Hid (_ = _) := HDS
            clear HDS
            rw [HIL.out]
            by_cases hin : z ∈ (r.map (spF k)).take q
            · have HD2 : Hid (p = dv ((r.map (spF k)).take (q + 1))) := by unfold Hid; rw [HDV.out, if_pos hin]
              have HY2 : Hid (∀ y, y ∈ L ↔ y ∈ (r.map (spF k)).take (q + 1)) := fun y => by
                rw [HY.out y, HTK.out, List.mem_append, List.mem_singleton]
                exact ⟨.inl, fun h => h.elim id (fun e => e ▸ hin)⟩
              rw [decide_eq_true hin]
              clear hin hzm
              go_wp2
              go_roundw
              case rel => exact ⟨q + 1, p, L, ua, uc, by omega, by go_num, rfl, by omega, HL.out, HD2.out, HY2.out, HM2.out, HO4.out, HB4.out⟩
              case measure => simp [intOf]; omega
            · have HD2 : Hid (p + 1 = dv ((r.map (spF k)).take (q + 1))) := by unfold Hid; rw [HDV.out, if_neg hin]
              have HY2 : Hid (∀ y, y ∈ L ++ [z] ↔ y ∈ (r.map (spF k)).take (q + 1)) := fun y => by
                rw [HTK.out, List.mem_append, List.mem_append, HY.out y]
              have HL2 : Hid (L.length + 1 = (L ++ [z]).length) := by unfold Hid; simp
              have HLP : Hid (L.length = p) := HL.out.symm
              have HD3 : Hid (L.length + 1 = dv ((r.map (spF k)).take (q + 1))) := by unfold Hid; rw [HLP.out]; exact HD2.out
              have hLl : L.length + 1 ≤ 1000000 := by have := HLP.out; omega
              have hLq : L.length + 1 ≤ q + 1 := by have := HLP.out; omega
              rw [decide_eq_false hin]
              clear hin hzm
              go_wp2_with (at_builtin; refine append_no rfl _ _ rfl w.heap.size (.slice ua p uc) L z rfl rfl HO4.out hLl hs4 ?_; intro a' c' w5 hO5 hg5)
              have HO5 : Hid (NO w5 w.heap.size (.slice a' (L.length + 1) c') (L ++ [z])) := hO5
              have HB5 : Hid (Below w.heap.size w w5) := HB4.out.grown hg5 hs4 (fun r hr => (World.ownsRow.lt HO4.out r hr).1)
              clear hO5 hg5
              go_wp2
              go_roundw
              case rel => exact ⟨q + 1, L.length + 1, L ++ [z], a', c', by omega, by go_num, rfl, hLq, HL2.out, HD3.out, HY2.out, HM2.out, HO5.out, HB5.out⟩
              case measure => simp [intOf]; omega
    · have hlti : ¬ (q : Int) < (M : Int) := by omega
      obtain rfl : q = M := by omega
      have HE : Hid (kAt c (spF k) l i = decide ((n : Int) < c)) := by
        have h1 := HMM.out
        have h2 := HD.out
        rw [List.take_of_length_le (by rw [List.length_map, ← HM.out]; exact Nat.le_refl _)] at h1 h2
        unfold Hid
        rw [HK.out, decide_eq_true h1, Bool.true_and, ← h2]
      go_wp2
      go_ret
      exact ⟨by rw [HE.out]; rfl, HB.out⟩
end Go.Proofs.Ytkfaoldpcgokiaa
