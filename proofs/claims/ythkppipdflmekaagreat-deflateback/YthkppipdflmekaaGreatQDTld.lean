/- deflate's toldFirsts. -/
import Derived.Test.YthkppipdflmekaaGreatQDCnt
import Derived.Test.YthkppipdflmekaaGreatQDSt
import Derived.Test.YthkppipdflmekaaGreatQInfG
import Derived.Maps.AppendAt
set_option maxRecDepth 100000
set_option maxHeartbeats 4000000
namespace Go.Proofs.YthkppipdflmekaaGreat
open Go.RowKit
set_option linter.unusedVariables false
set_option linter.unusedSimpArgs false
def StS (w : World) (v : Value) (st : List Stp) : Prop := ∃ a cap, v = .slice a st.length cap ∧ st.length ≤ cap ∧ (st ≠ [] → ∃ g, a = some ⟨g, 0, none⟩ ∧ g < w.heap.size ∧ ∀ i s, st[i]? = some s → w.cell? ⟨g, i * 2, none⟩ = some (.int .i64 s.sym) ∧ w.cell? ⟨g, i * 2 + 1, none⟩ = some (.int .i64 s.more))
theorem quy : ∀ (l : List Stp) (i : Nat) (s : Stp), l[i]? = some s → (stc l)[i * 2]? = some (.int .i64 s.sym) ∧ (stc l)[i * 2 + 1]? = some (.int .i64 s.more)
 | [], i, s, h => by simp at h
 | y :: l, 0, s, h => by
  simp at h; subst h
  exact ⟨rfl, rfl⟩
 | y :: l, i + 1, s, h => by
  have := quy l i s (by simpa using h)
  have e : stc (y :: l) = [.int .i64 y.sym, .int .i64 y.more] ++ stc l := by simp [stc]
  rw [e, List.getElem?_append_right (by simp; omega), List.getElem?_append_right (by simp; omega)]
  rw [show (i + 1) * 2 - [Value.int .i64 y.sym, .int .i64 y.more].length = i * 2 by simp; omega, show (i + 1) * 2 + 1 - [Value.int .i64 y.sym, .int .i64 y.more].length = i * 2 + 1 by simp; omega]
  exact this
theorem StS.own {w : World} {B : Nat} {v : Value} {st : List Stp} (h : w.ownsRow B 41 2 v st.length (stc st)) : StS w v st := by
 have hlt := h.lt
 rcases h.2 with ⟨rfl, h0⟩ | ⟨g, cap, cur, rfl, _, _, hc, _⟩
 · exact ⟨none, 0, by rw [h0], by omega, fun hne => absurd (List.eq_nil_of_length_eq_zero h0) hne⟩
 · refine ⟨_, cap, rfl, hc, fun _ => ⟨g, rfl, (hlt g rfl).2, fun i s hs => ?_⟩⟩
   obtain ⟨h1, h2⟩ := quy st i s hs
   have k1 := World.ownsRow.cells h (g := g) rfl _ _ h1
   have k2 := World.ownsRow.cells h (g := g) rfl _ _ h2
   rw [Addr.add_mid, Nat.zero_add] at k1 k2
   exact ⟨k1, k2⟩
theorem StS.below {w w' : World} {v : Value} {st : List Stp} (h : StS w v st) (hb : Below w.heap.size w w') : StS w' v st := by
 obtain ⟨a, cap, rfl, hc, hf⟩ := h
 refine ⟨a, cap, rfl, hc, fun hne => ?_⟩
 obtain ⟨g, rfl, hg, hcl⟩ := hf hne
 refine ⟨g, rfl, Nat.lt_of_lt_of_le hg hb.size, fun i s hs => ?_⟩
 obtain ⟨h1, h2⟩ := hcl i s hs
 exact ⟨by rw [hb.cell (p := ⟨g, i * 2, none⟩) hg]; exact h1, by rw [hb.cell (p := ⟨g, i * 2 + 1, none⟩) hg]; exact h2⟩
theorem StS.at {w : World} {a : Option Addr} {n cap : Nat} {st : List Stp} (h : StS w (.slice a n cap) st) {i : Nat} {s : Stp} (hi : st[i]? = some s) : ∃ g, a = some ⟨g, 0, none⟩ ∧ g < w.heap.size ∧ n = st.length ∧ n ≤ cap ∧ w.cell? ⟨g, i * 2, none⟩ = some (.int .i64 s.sym) ∧ w.cell? ⟨g, i * 2 + 1, none⟩ = some (.int .i64 s.more) := by
 obtain ⟨a', cap', e, hc, hf⟩ := h
 injection e with e1 e2 e3
 subst e1 e3
 obtain ⟨g, rfl, hg, hcl⟩ := hf (fun q => by rw [q] at hi; simp at hi)
 exact ⟨g, rfl, hg, e2, by rw [e2]; exact hc, hcl i s hi⟩
theorem qzd {w : World} {B B' n s : Nat} {E : TypeId} {v : Value} {xs : List Value} (h : w.ownsRow B E s v n xs) (hB : B' ≤ B) : w.ownsRow B' E s v n xs := by
 refine ⟨h.1, ?_⟩
 rcases h.2 with h | ⟨g, cap, cur, h1, h2, h3⟩
 · exact .inl h
 · exact .inr ⟨g, cap, cur, h1, Nat.le_trans hB h2, h3⟩
def stC (l : List Stp) (i : Nat) : Nat := l.countP fun s => s.sym.toNat == i
def fstF (l : List Stp) : List Nat := qjt ((List.range 19).map fun i => (stC l i : Int)) 7
theorem qym (l : List Stp) (s : Stp) (i : Nat) : stC (l ++ [s]) i = if i = s.sym.toNat then stC l i + 1 else stC l i := by
 unfold stC
 rw [List.countP_append]
 by_cases h : i = s.sym.toNat
 · subst h; simp
 · have : (s.sym.toNat == i) = false := beq_eq_false_iff_ne.2 (fun e => h e.symm)
   simp [h, this]
theorem q0s (l : List Stp) (i : Nat) : stC l i ≤ l.length := List.countP_le_length
def StIn (st : List Stp) : Prop := ∀ s ∈ st, ∃ y m : Nat, s.sym = (y : Int) ∧ s.more = (m : Int) ∧ y < 19 ∧ m < 128
theorem qhf (v : Value) (st : List Stp) (w : World) (hS : StS w v st) (hl : st.length ≤ 1000) (hk : StIn st) :
    Calls Tryz.prog 52 #[v] w fun e w' => ∃ (g : Nat) (fs : List Nat), e = .returned (.slice (some ⟨g, 0, none⟩) 19 19) ∧ fs.length = 19 ∧ LnOk (fstF st) fs 19 19 7 (fun i => ∃ s ∈ st, s.sym.toNat = i) ∧
     w'.ownsRow w.heap.size 3 1 (.slice (some ⟨g, 0, none⟩) 19 19) 19 (nch fs) ∧ Below w.heap.size w w' := by
 have HSG : Hid (StS w v st) := hS
 have HK : Hid (StIn st) := hk
 have HOR := qiu w
 obtain ⟨a, cap, rfl, hcap, -⟩ := hS
 obtain ⟨n, hn⟩ : ∃ n, n = st.length := ⟨_, rfl⟩
 have HN : Hid (n = st.length) := hn
 rw [← hn] at HSG hcap hl ⊢
 have hm1 := qpd 19 (by omega)
 rw [show ((19 : Nat) : Int) = 19 from rfl] at hm1
 have hz2 : ∀ W : World, (zeroValue 41).run Tryz.prog W = .ok (.agg #[.int .i64 0, .int .i64 0]) W := fun W => by kernel_rfl
 clear hn hk
 go_enter Tryz.func52, Tryz.ntmps52
 go_wp2_with fail
 refine HOR.mono ?_
 rintro e w1 ⟨rfl, hw1⟩
 have HB1 : Hid (Below w.heap.size w w1) := by rw [hw1]; exact (Below.refl _ w).alloc (Nat.le_refl _) _
 clear hw1 HOR
 go_upto_region 2 with fail
 obtain ⟨w2, hw2⟩ : ∃ w2, w2 = w1.alloc (.cells (qc7 19) 3) := ⟨_, rfl⟩
 rw [← hw2]
 have HN2 : Hid (NRw w2 w1.heap.size 19 (fun _ => 0)) := by rw [hw2]; exact NRw.made w1 19
 have HB2 : Hid (Below w.heap.size w w2) := by rw [hw2]; exact HB1.out.alloc HB1.out.size _
 have hg1 := HB1.out.size
 generalize w1.heap.size = g1 at *
 clear hw2 hm1 HB1
 go_wp2
 go_loopw [11] (fun i wr => ∃ k : Nat, k ≤ n ∧ i = .int .i64 (k : Int) ∧ NRw wr g1 19 (stC (st.take k)) ∧ Below w.heap.size w wr) (fun i _ => n - (intOf i).toNat)
 case atStart => exact ⟨0, Nat.zero_le _, rfl, HN2.out.eq (fun i _ => rfl), HB2.out⟩
 case round =>
  clear HN2 HB2
  obtain ⟨k, hk, rfl, hn1, hb⟩ := hrel
  have HN1 : Hid (NRw wr g1 19 (stC (st.take k))) := hn1
  have HB : Hid (Below w.heap.size w wr) := hb
  have hl1 := hn1.lt
  have hsr := hb.size
  clear hn1 hb
  by_cases hlt : k < n
  · have hki : (k : Int) < (n : Int) := by omega
    obtain ⟨s, hs⟩ : ∃ s, st[k]? = some s := ⟨_, List.getElem?_eq_getElem (by rw [← HN.out]; exact hlt)⟩
    obtain ⟨g, rfl, hg, -, hcap2, c0, c1⟩ := (HSG.out.below HB.out).at hs
    have HT1 : Hid (st.take (k + 1) = st.take k ++ [s]) := by unfold Hid; rw [List.take_add_one, hs]; rfl
    obtain ⟨y, m, hy, hm, hy19, hm128⟩ := HK.out s (List.mem_of_getElem? hs)
    have HYT : Hid (s.sym.toNat = y) := by unfold Hid; omega
    have hyi : (y : Int) < 19 := by omega
    rw [hy] at c0
    rw [hm] at c1
    have hc1 : stC (st.take k) y ≤ k := Nat.le_trans (q0s _ _) (by rw [List.length_take]; omega)
    have HSC : Hid (∀ i, stC (st.take (k + 1)) i = if i = y then stC (st.take k) y + 1 else stC (st.take k) i) := fun i => by
     rw [HT1.out, qym, HYT.out]
     split
     · rename_i e; rw [e]
     · rfl
    obtain ⟨W3, hW3⟩ : ∃ W3, W3 = wr.alloc (.cells #[.int .i64 (y : Int), .int .i64 (m : Int)] 41) := ⟨_, rfl⟩
    have hs3 : W3.heap[wr.heap.size]? = some (.cells #[.int .i64 (y : Int), .int .i64 (m : Int)] 41 (0, 0)) := by rw [hW3]; exact heap_alloc_new wr _
    have hb3 : Below wr.heap.size wr W3 := by rw [hW3]; exact (Below.refl _ _).alloc (Nat.le_refl _) _
    have HB3 : Hid (Below w.heap.size w W3) := HB.out.trans (hb3.mono hsr)
    have HN13 : Hid (NRw W3 g1 19 (stC (st.take k))) := HN1.out.keep (hb3.block _ hl1)
    have hsz3 : wr.heap.size < W3.heap.size := (Array.getElem?_eq_some_iff.1 hs3).1
    have hl13 := HN13.out.lt
    have e0 : W3.cell? ⟨wr.heap.size, 0, none⟩ = some (.int .i64 (y : Int)) := by rw [cell_of_row _ _ _ _ _ _ hs3]; rfl
    have e1 := HN13.out.cell y hy19
    have e2 := HN13.out.fz y
    have hw1 : IntKind.i64.wrap ((stC (st.take k) y : Int) + 1) = ((stC (st.take k) y + 1 : Nat) : Int) := by rw [IntKind.wrap_i64]; omega
    have HW3 : Hid (wr.alloc (.cells #[.int .i64 (y : Int), .int .i64 (m : Int)] 41) = W3) := hW3.symm
    clear hW3 hb3 hs3 hs hy hm
    generalize hcc : stC (st.take k) y = c at *
    clear hcc
    go_upto_region 5 with fail
    rw [show wr.alloc (.cells #[.int .i64 (y : Int), .int .i64 (m : Int)] 41) = W3 from HW3.out]
    clear c0 c1 HW3
    go_upto_region 6 with fail
    obtain ⟨W4, hW4⟩ : ∃ W4, W4 = W3.setCell ⟨g1, y, none⟩ (.int .i64 ((c : Int) + 1)) := ⟨_, rfl⟩
    rw [← hW4]
    have HN14 : Hid (NRw W4 g1 19 (stC (st.take (k + 1)))) := by rw [hW4]; exact HN13.out.set y (c + 1) _ (fun i _ => HSC.out i)
    have HB4 : Hid (Below w.heap.size w W4) := by rw [hW4]; exact HB3.out.setCell hg1 _
    clear hW4 e0 e1 e2 hw1 HSC HN13 HB3
    go_wp2
    go_roundw
    case rel => exact ⟨k + 1, by omega, by go_num, HN14.out, HB4.out⟩
    case measure => simp [intOf]; omega
  · have hki : ¬ (k : Int) < (n : Int) := by omega
    obtain rfl : k = n := by omega
    rw [List.take_of_length_le (by rw [← HN.out]; exact Nat.le_refl _)] at HN1
    obtain ⟨zs, hz⟩ : ∃ zs, zs = (List.range 19).map fun i => (stC st i : Int) := ⟨_, rfl⟩
    have hzl : zs.length = 19 := by rw [hz]; simp
    have hzg : ∀ i, i < 19 → zs.getD i 0 = (stC st i : Int) := fun i hi => by rw [hz, List.getD_eq_getElem?_getD, List.getElem?_map, List.getElem?_range hi]; rfl
    have hq1 : IQ wr (.slice (some ⟨g1, 0, none⟩) 19 19) zs := by rw [hz]; exact HN1.out.iq
    have hck1 : chkC zs ((7 : Nat) : Int) = 0 := qmb (by omega) (by omega) (fun i hi => by rw [hzg i (by omega)]; have := q0s st i; have := HN.out; omega)
    have HU1 : Hid (∀ i, (∃ s ∈ st, s.sym.toNat = i) → i < zs.length ∧ 0 < zs.getD i 0) := fun i ⟨s, hs, hi⟩ => by
     obtain ⟨y, m, hy, hm, hy19, hm128⟩ := HK.out s hs
     have h19 : i < 19 := by omega
     refine ⟨by omega, ?_⟩
     rw [hzg i h19]
     have : 0 < stC st i := by unfold stC; exact List.countP_pos_iff.2 ⟨s, hs, by simp [hi]⟩
     omega
    have HB1 := qjd _ zs 7 wr hq1 hck1 (by rw [hzl]; decide)
    rw [hzl, show ((7 : Nat) : Int) = 7 from rfl] at HB1
    have HZL : Hid (zs.length = 19) := hzl
    have HSF : Hid (qjt zs 7 = fstF st) := by unfold Hid fstF; rw [hz]
    clear hz hzl hzg hq1 hck1
    go_wp2_with fail
    refine HB1.mono ?_
    rintro e w3 ⟨p1, fs, rfl, hle, hlp, ho3, hb3⟩
    have HE1 : Hid (fs = fstF st) := hle.trans HSF.out
    have HLP : Hid (LenP zs 7 fs) := hlp
    have HO3 : Hid (w3.ownsRow w.heap.size 3 1 (.slice (some ⟨p1, 0, none⟩) 19 19) 19 (nch fs)) := qzd ho3 hsr
    have HB3 : Hid (Below w.heap.size w w3) := HB.out.trans (hb3.mono hsr)
    have HFL : Hid (fs.length = 19) := HLP.out.len.trans HZL.out
    have HOK : Hid (LnOk (fstF st) fs 19 19 7 (fun i => ∃ s ∈ st, s.sym.toNat = i)) := ⟨HE1.out, fun x hx => by
        obtain ⟨i, hi, rfl⟩ := List.mem_iff_getElem.1 hx
        have := HLP.out.le i
        rwa [List.getD_eq_getElem?_getD, List.getElem?_eq_getElem hi] at this, HLP.out.fit, by rw [HFL.out]; exact Nat.le_refl _, by rw [HFL.out]; exact Nat.le_refl _, fun i hi => by
        obtain ⟨h1, h2⟩ := HU1.out i hi
        exact ⟨by rw [HFL.out, ← HZL.out]; exact h1, HLP.out.yes i h1 h2⟩⟩
    clear HB1 hle hlp ho3 hb3
    go_wp2
    go_ret
    exact ⟨p1, fs, rfl, HFL.out, HOK.out, HO3.out, HB3.out⟩
theorem q2s (l : List Nat) : ∀ v ∈ nch l, v.oneCell' = true := by
 intro v hv
 obtain ⟨x, _, rfl⟩ := List.mem_map.1 hv
 rfl
theorem q2t (w : World) (x : Nat) : ∀ j u, (nch [x])[j]? = some u → (w.alloc (.cells #[.int .i64 (x : Int)] 3)).cell? ((⟨w.heap.size, 0, none⟩ : Addr).add j) = some u :=
 World.news_of_block (heap_alloc_new w _)
theorem qzp {w : World} {B n : Nat} {v : Value} {xs : List Value} (h : w.ownsRow B 3 1 v n xs) : ∃ a c, v = .slice a n c := by
 rcases h.2 with ⟨rfl, h0⟩ | ⟨g', cap, cur, rfl, _⟩
 · exact ⟨none, 0, by rw [h0]⟩
 · exact ⟨_, cap, rfl⟩
theorem qxm {w : World} {ops : Array Oper} {rest : List Oper} {o : Oper} {a : Act} {Q : Exit → Act → World → Prop} (hgd : o.guard = none) (s x : Operand)
    (ho : o.op = .call { callee := .builtin .append, args := #[s, x], argTypes := #[39, 39] })
    (B : Nat) (v : Value) (n : Nat) (l : List Nat) (X : Nat) (hs : a.eval s = v) (hx : a.eval x = .slice (some ⟨w.heap.size, 0, none⟩) 1 1) (hO : w.ownsRow B 3 1 v n (nch l)) (hl : n + 1 ≤ 1000000) (hB : B ≤ w.heap.size)
    (h : ∀ a' c' w', w'.ownsRow B 3 1 (.slice a' (n + 1) c') (n + 1) (nch (l ++ [X])) → w.grownBy w' v.ownBlock → wpList Tryz.prog ops Q rest (a.put o.dst (.slice a' (n + 1) c')) w') : wpList Tryz.prog ops Q (o :: rest) a (w.alloc (.cells #[.int .i64 (X : Int)] 3)) := by
 obtain ⟨i0, hi, hz0, hz1, hz2⟩ := info_parts Tryz.infoIz
 have hb : Below w.heap.size w (w.alloc (.cells #[.int .i64 (X : Int)] 3)) := (Below.refl _ _).alloc (Nat.le_refl _) _
 refine wpList_append_own_at _ hgd s x 39 ho B 3 i0 (.int .i64 0) 1 8 Tryz.underlying39 hi hz0 hz1 hz2 rfl (by decide) v _ _ hs (qa0 hO hb) ⟨w.heap.size, 0, none⟩ 1 1 (nch [X]) hx rfl (q2t w X) (q2s _) (by unfold maxLen; omega) (by omega) (by rw [World.size_alloc]; omega) ?_
 intro v' w' hown hg _ hat
 have hO' : w'.ownsRow B 3 1 v' (n + 1) (nch (l ++ [X])) := by
  have e : nch (l ++ [X]) = nch l ++ nch [X] := by simp [nch]
  rw [e]; exact hown
 obtain ⟨a', c', rfl⟩ := qzp hO'
 exact h a' c' w' hO' (qdl (qrq hb) hg)
def tldL (fs : List Nat) : List Nat := ordL.map fun t => fs.getD t 0
theorem qcm (fs : List Nat) : (tldL fs).length = 19 := by simp [tldL, ordL]
theorem q2n (i : Nat) (h : i < 19) : ordL.getD i 0 < 19 := by
 have key : ∀ k : Fin 19, ordL.getD k.val 0 < 19 := by decide
 exact key ⟨i, h⟩
theorem quf (fs : List Nat) (k : Nat) (h : k < 19) : (tldL fs).take (k + 1) = (tldL fs).take k ++ [fs.getD (ordL.getD k 0) 0] := by
 rw [List.take_add_one]
 congr 1
 have hk : k < ordL.length := h
 have e : ordL.getD k 0 = ordL[k] := by rw [List.getD_eq_getElem?_getD, List.getElem?_eq_getElem hk]; rfl
 rw [e]
 unfold tldL
 rw [List.getElem?_map, List.getElem?_eq_getElem hk]
 rfl
theorem qjo (g B : Nat) (fs : List Nat) (w : World) (hO : w.ownsRow B 3 1 (.slice (some ⟨g, 0, none⟩) 19 19) 19 (nch fs)) (hf : fs.length = 19) :
    Calls Tryz.prog 53 #[.slice (some ⟨g, 0, none⟩) 19 19] w fun e w' => ∃ (p c : Nat), e = .returned (.slice (some ⟨p, 0, none⟩) (qbc (tldL fs) 4).length c) ∧
     IQ w' (.slice (some ⟨p, 0, none⟩) (qbc (tldL fs) 4).length c) (zL (qbc (tldL fs) 4)) ∧ Below w.heap.size w w' := by
 have HF : Hid (w.ownsRow B 3 1 (.slice (some ⟨g, 0, none⟩) 19 19) 19 (nch fs)) := hO
 have hgl := (World.ownsRow.lt hO g rfl).2
 have HFL : Hid (fs.length = 19) := hf
 have HOR := qiu w
 clear hO hf
 go_enter Tryz.func53, Tryz.ntmps53
 go_wp2_with fail
 refine HOR.mono ?_
 rintro e w1 ⟨rfl, hw1⟩
 have hn1 : w1.heap[w.heap.size]? = some (.cells (nc ordL).toArray 3 (0, 0)) := by rw [hw1]; exact heap_alloc_new w _
 have HB1 : Hid (Below w.heap.size w w1) := by rw [hw1]; exact (Below.refl _ w).alloc (Nat.le_refl _) _
 have HN1 : Hid (w1.heap[w.heap.size]? = some (.cells (nc ordL).toArray 3 (0, 0))) := hn1
 have hz1 : w.heap.size < w1.heap.size := (Array.getElem?_eq_some_iff.1 hn1).1
 have hs1 := HB1.out.size
 clear hw1 HOR hn1
 go_wp2
 go_loopw [8, 3, 5] (fun i o _ wr => ∃ (k : Nat) (qa : Option Addr) (qc : Nat), k ≤ 19 ∧ i = .int .i64 (k : Int) ∧ o = .slice qa k qc ∧ wr.ownsRow w1.heap.size 3 1 (.slice qa k qc) k (nch ((tldL fs).take k)) ∧ Below w1.heap.size w1 wr) (fun i _ _ _ => 19 - (intOf i).toNat)
 case atStart => exact ⟨0, none, 0, Nat.zero_le _, rfl, rfl, ⟨rfl, .inl ⟨rfl, rfl⟩⟩, Below.refl _ _⟩
 case round =>
  obtain ⟨k, qa, qc, hk, rfl, rfl, hO, hb⟩ := hrel
  have HO : Hid (wr.ownsRow w1.heap.size 3 1 (.slice qa k qc) k (nch ((tldL fs).take k))) := hO
  have HB : Hid (Below w1.heap.size w1 wr) := hb
  have hsr := hb.size
  clear hO hb
  by_cases hlt : k < 19
  · have hki : (k : Int) < 19 := by omega
    have HTK : Hid ((tldL fs).take (k + 1) = (tldL fs).take k ++ [fs.getD (ordL.getD k 0) 0]) := quf fs k hlt
    have hy := q2n k hlt
    have e0 : wr.cell? ⟨w.heap.size, k, none⟩ = some (.int .i64 (ordL.getD k 0 : Int)) := by
     rw [cell_of_row _ _ _ _ _ _ ((HB.out.block _ hz1).trans HN1.out)]
     have := qlp ordL k hlt
     simpa using this
    have e1 : wr.cell? ⟨g, ordL.getD k 0, none⟩ = some (.int .i64 (fs.getD (ordL.getD k 0) 0 : Int)) := by
     rw [HB.out.cell (p := ⟨g, ordL.getD k 0, none⟩) (by have := HB1.out.size; show g < _; omega), HB1.out.cell (p := ⟨g, ordL.getD k 0, none⟩) hgl]
     exact qe3 HF.out _ (by rw [HFL.out]; exact hy)
    have hwz : w.heap.size < wr.heap.size := by omega
    have hgr : g < wr.heap.size := by omega
    generalize ordL.getD k 0 = y at *
    generalize fs.getD y 0 = x at *
    have hyi : (y : Int) < 19 := by omega
    go_wp2_with (at_builtin; refine qxm rfl _ _ rfl w1.heap.size (.slice qa k qc) k ((tldL fs).take k) x rfl rfl HO.out (by omega) hsr ?_; intro a' c' w5 hO5 hg5)
    have HO5 : Hid (w5.ownsRow w1.heap.size 3 1 (.slice a' (k + 1) c') (k + 1) (nch ((tldL fs).take (k + 1)))) := by unfold Hid; rw [HTK.out]; exact hO5
    have HB5 : Hid (Below w1.heap.size w1 w5) := HB.out.grown hg5 hsr (fun r hr => (World.ownsRow.lt HO.out r hr).1)
    clear hO5 hg5 e0 e1
    go_wp2
    go_roundw
    case rel => exact ⟨k + 1, a', c', by omega, by go_num, rfl, HO5.out, HB5.out⟩
    case measure => simp [intOf]; omega
  · have hki : ¬ (k : Int) < 19 := by omega
    obtain rfl : k = 19 := by omega
    rw [List.take_of_length_le (by rw [qcm]; exact Nat.le_refl _)] at HO
    obtain ⟨p, rfl, hcap⟩ : ∃ p, qa = some ⟨p, 0, none⟩ ∧ 19 ≤ qc := by
     rcases HO.out.2 with ⟨h, h0⟩ | ⟨p, cap, cur, h, _, _, hc, _⟩
     · omega
     · injection h with h1 h2 h3
       exact ⟨p, h1, by omega⟩
    have hpl := (World.ownsRow.lt HO.out p rfl).2
    have hz : (zL (tldL fs)).length = 19 := by rw [qa9, qcm]
    have HCU := qw3 p 0 qc (zL (tldL fs)) 4 wr hpl (fun i hi => by rw [Nat.zero_add, qe3 HO.out i (by rw [qa9] at hi; exact hi), qgi]) (by omega) (by omega) (by omega)
    rw [hz] at HCU
    have HLC : Hid ((qbc (tldL fs) 4).length = cutN (zL (tldL fs)) 4 19) := by unfold Hid; rw [qbk, qcm]
    have HI : Hid (IQ wr (.slice (some ⟨p, 0, none⟩) (qbc (tldL fs) 4).length qc) (zL (qbc (tldL fs) 4))) := qwg HO.out 4 (qcm fs)
    have HBF : Hid (Below w.heap.size w wr) := HB1.out.trans (HB.out.mono hs1)
    rw [show ((4 : Nat) : Int) = 4 from rfl] at HCU
    generalize cutN (zL (tldL fs)) 4 19 = cn at *
    go_wp2_with fail
    refine HCU.mono ?_
    rintro e w6 ⟨rfl, rfl⟩
    go_wp2
    go_ret
    exact ⟨p, qc, by rw [HLC.out]; rfl, HI.out, HBF.out⟩
end Go.Proofs.YthkppipdflmekaaGreat
