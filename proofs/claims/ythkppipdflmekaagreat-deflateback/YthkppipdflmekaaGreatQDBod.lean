/- deflate's body. -/
import Derived.Test.YthkppipdflmekaaGreatQDSgn
import Derived.Test.YthkppipdflmekaaGreatQFindM
import Derived.Laws.MakeOwn
import Derived.Great.BuildSlice
import Derived.Deep.MidRow
import Derived.Test.YthkppipdflmekaaGreatQDCut
import Derived.Test.YthkppipdflmekaaGreatQTreeP
import Derived.Deep.RegionHeld3
import Derived.Maps.AppendAt
set_option maxRecDepth 100000
set_option maxHeartbeats 4000000
namespace Go.Proofs.YthkppipdflmekaaGreat
open Go.RowKit
set_option linter.unusedVariables false
set_option linter.unusedSimpArgs false
def sgsC (l : List Sgn) : List Value := l.flatMap sgC
theorem qfi (s : Sgn) : (sgC s).length = 9 := rfl
theorem qk9 (s : Sgn) : ∀ v ∈ sgC s, v.oneCell' = true := by
 intro v hv
 simp only [sgC, List.mem_cons, List.not_mem_nil, or_false] at hv
 rcases hv with rfl | rfl | rfl | rfl | rfl | rfl | rfl | rfl | rfl <;> rfl
theorem qqt : ∀ l : List Sgn, (sgsC l).length = l.length * 9
 | [] => rfl
 | s :: l => by
  have ih := qqt l
  unfold sgsC at ih ⊢
  rw [List.flatMap_cons, List.length_append, ih, qfi, List.length_cons]; omega
theorem qms (l : List Sgn) (s : Sgn) : sgsC (l ++ [s]) = sgsC l ++ sgC s := by simp [sgsC]
theorem qu3 : ∀ (l : List Sgn) (i : Nat) (s : Sgn), l[i]? = some s → ∀ j, j < 9 → (sgsC l)[i * 9 + j]? = (sgC s)[j]?
 | [], i, s, h, j, hj => by simp at h
 | y :: l, 0, s, h, j, hj => by
  simp at h; subst h
  unfold sgsC
  rw [List.flatMap_cons, List.getElem?_append_left (by rw [qfi]; omega)]
  simp
 | y :: l, i + 1, s, h, j, hj => by
  have := qu3 l i s (by simpa using h) j hj
  unfold sgsC at this ⊢
  rw [List.flatMap_cons, List.getElem?_append_right (by rw [qfi]; omega), qfi, show (i + 1) * 9 + j - 9 = i * 9 + j by omega]
  exact this
def SgS (w : World) (v : Value) (l : List Sgn) : Prop := ∃ a cap, v = .slice a l.length cap ∧ l.length ≤ cap ∧ (l ≠ [] → ∃ g, a = some ⟨g, 0, none⟩ ∧ g < w.heap.size ∧ ∀ j u, (sgsC l)[j]? = some u → w.cell? ⟨g, j, none⟩ = some u)
theorem SgS.own {w : World} {B n : Nat} {v : Value} {l : List Sgn} (h : w.ownsRow B 121 9 v n (sgsC l)) : SgS w v l := by
 have hl := h.1
 rw [qqt] at hl
 obtain rfl : l.length = n := by omega
 have hlt := h.lt
 rcases h.2 with ⟨rfl, h0⟩ | ⟨g, cap, cur, rfl, _, _, hc, _⟩
 · exact ⟨none, 0, by rw [h0], by omega, fun hne => absurd (List.eq_nil_of_length_eq_zero h0) hne⟩
 · refine ⟨_, cap, rfl, hc, fun _ => ⟨g, rfl, (hlt g rfl).2, fun j u hu => ?_⟩⟩
   have := World.ownsRow.cells h (g := g) rfl j u hu
   rwa [Addr.add_mid, Nat.zero_add] at this
theorem SgS.below {w w' : World} {v : Value} {l : List Sgn} (h : SgS w v l) (hb : Below w.heap.size w w') : SgS w' v l := by
 obtain ⟨a, cap, rfl, hc0, hf⟩ := h
 refine ⟨a, cap, rfl, hc0, fun hne => ?_⟩
 obtain ⟨g, rfl, hg, hc⟩ := hf hne
 exact ⟨g, rfl, Nat.lt_of_lt_of_le hg hb.size, fun j u hu => by rw [hb.cell (p := ⟨g, j, none⟩) hg]; exact hc j u hu⟩
theorem SgS.at {w : World} {a : Option Addr} {n cap : Nat} {l : List Sgn} (h : SgS w (.slice a n cap) l) {i : Nat} {s : Sgn} (hi : l[i]? = some s) : ∃ g, a = some ⟨g, 0, none⟩ ∧ g < w.heap.size ∧ n = l.length ∧ n ≤ cap ∧ w.rangeAt g (i * 9) (sgC s) := by
 obtain ⟨a', cap', e, hc0, hf⟩ := h
 injection e with e1 e2 e3
 subst e1 e3
 obtain ⟨g, rfl, hg, hc⟩ := hf (fun q => by rw [q] at hi; simp at hi)
 refine ⟨g, rfl, hg, e2, by rw [e2]; exact hc0, fun j u hu => hc _ u ?_⟩
 have hj : j < 9 := by have := (List.getElem?_eq_some_iff.1 hu).1; rwa [qfi] at this
 rw [qu3 l i s hi j hj]; exact hu
def TRO (w : World) (v : Value) (ts : List Tok) : Prop := ∃ a cap, v = .slice a ts.length cap ∧ ts.length ≤ cap ∧ (a = none → cap = 0) ∧ (ts ≠ [] → ∃ g o, a = some ⟨g, o, none⟩ ∧ g < w.heap.size ∧ ∀ i t, ts[i]? = some t → w.cell? ⟨g, o + i * 3, none⟩ = some (.int .u8 (t.b : Int)) ∧ w.cell? ⟨g, o + i * 3 + 1, none⟩ = some (.int .i64 t.l) ∧ w.cell? ⟨g, o + i * 3 + 2, none⟩ = some (.int .i64 t.d))
theorem TRO.below {w w' : World} {v : Value} {ts : List Tok} (h : TRO w v ts) (hb : Below w.heap.size w w') : TRO w' v ts := by
 obtain ⟨a, cap, rfl, hc, hz, hf⟩ := h
 refine ⟨a, cap, rfl, hc, hz, fun hne => ?_⟩
 obtain ⟨g, o, rfl, hg, h3⟩ := hf hne
 refine ⟨g, o, rfl, Nat.lt_of_lt_of_le hg hb.size, fun i t ht => ?_⟩
 obtain ⟨x, y, z⟩ := h3 i t ht
 exact ⟨by rw [hb.cell (p := ⟨g, o + i * 3, none⟩) hg]; exact x, by rw [hb.cell (p := ⟨g, o + i * 3 + 1, none⟩) hg]; exact y, by rw [hb.cell (p := ⟨g, o + i * 3 + 2, none⟩) hg]; exact z⟩
theorem TRO.at {w : World} {a : Option Addr} {n cap : Nat} {ts : List Tok} (h : TRO w (.slice a n cap) ts) {i : Nat} {t : Tok} (hi : ts[i]? = some t) : ∃ g o, a = some ⟨g, o, none⟩ ∧ g < w.heap.size ∧ n = ts.length ∧ n ≤ cap ∧ w.cell? ⟨g, o + i * 3, none⟩ = some (.int .u8 (t.b : Int)) ∧ w.cell? ⟨g, o + i * 3 + 1, none⟩ = some (.int .i64 t.l) ∧ w.cell? ⟨g, o + i * 3 + 2, none⟩ = some (.int .i64 t.d) := by
 obtain ⟨a', cap', e, hc, hz, hf⟩ := h
 injection e with e1 e2 e3
 subst e1 e3
 obtain ⟨g, o, rfl, hg, h3⟩ := hf (fun q => by rw [q] at hi; simp at hi)
 exact ⟨g, o, rfl, hg, e2, by rw [e2]; exact hc, h3 i t hi⟩
theorem Tryz.infoSg : (Tryz.prog.info? 121).map (fun i => (i.zero, i.size, i.bytes)) = some (some (.agg sg0), 9, 72) := by kernel_rfl
theorem qt7 (W : World) : (zeroValue 121).run Tryz.prog W = .ok (.agg sg0) W := by kernel_rfl
theorem q33 (W : World) : (zeroValue 95).run Tryz.prog W = .ok (.agg #[.int .u8 0, .int .i64 0, .int .i64 0]) W := by kernel_rfl
theorem q12 (s : Sgn) : Instr.fill (fun i => some (i * 9, 9)) ((Array.range (1 * 9)).map ((Value.agg sg0).cells[· % (Value.agg sg0).cells.size]!)) [(0, sgV s)] = some (sgC s).toArray := by
 kernel_rfl
theorem qyq (s : Sgn) (W : World) : (Instr.buildSlice 66 1 #[(0, sgV s)]).run Tryz.prog W = .ok (.slice (some ⟨W.heap.size, 0, none⟩) 1 1) (W.alloc (.cells (sgC s).toArray 121)) := by
 obtain ⟨i0, hi, hz0, hz1, hz2⟩ := info_parts Tryz.infoSg
 exact run_buildSlice W 66 121 1 #[(0, sgV s)] (sgC s).toArray i0 (.agg sg0) Tryz.underlying66 hi hz0 (by rw [hz1]; decide) (by rw [hz1]; decide) (by rw [hz1]; exact q12 s)
theorem qxc {P : Program} {ops : Array Oper} {rest : List Oper} {o : Oper} {a : Act} {w : World} {Q : Exit → Act → World → Prop} (hg : o.guard = none) (T : TypeId) (x : Operand) (ho : o.op = .buildSlice T 1 #[(0, x)]) (V : Value) (O : Obj) (hx : a.eval x = V)
    (hr : (Instr.buildSlice T 1 #[(0, V)]).run P w = .ok (.slice (some ⟨w.heap.size, 0, none⟩) 1 1) (w.alloc O))
    (h : wpList P ops Q rest (a.put o.dst (.slice (some ⟨w.heap.size, 0, none⟩) 1 1)) (w.alloc O)) : wpList P ops Q (o :: rest) a w := by
 refine wpList_plain hg fun K hK => ?_
 have hm : (#[(0, x)] : Array (Nat × Operand)).map (fun (i, x) => (i, a.eval x)) = #[(0, V)] := by simp [hx]
 unfold Oper.wp execOp
 simp only [ho, hm, Sem.run_bind, hr, Result.andThen_ok]
 exact hK _ _ h
theorem qqu {w : World} {B n : Nat} {v : Value} {xs : List Value} (h : w.ownsRow B 121 9 v n xs) : ∃ a c, v = .slice a n c := by
 rcases h.2 with ⟨rfl, h0⟩ | ⟨g', cap, cur, rfl, _⟩
 · exact ⟨none, 0, by rw [h0]⟩
 · exact ⟨_, cap, rfl⟩
def qf0 : Sgn := ⟨256, prt0, false, 0, prt0⟩
def qah (ts : List Tok) : List Sgn := ts.map sgT ++ [qf0]
theorem q0t (w : World) (s : Sgn) : ∀ j u, (sgC s)[j]? = some u → (w.alloc (.cells (sgC s).toArray 121)).cell? ((⟨w.heap.size, 0, none⟩ : Addr).add j) = some u :=
 World.news_of_block (heap_alloc_new w _)
def TkIn (ts : List Tok) : Prop := ∀ t ∈ ts, qbr t = true ∧ t.b < 256
theorem qot (v : Value) (ts : List Tok) (w : World) (hT : TRO w v ts) (hk : TkIn ts) (hl : ts.length ≤ 100000) :
    Calls Tryz.prog 22 #[v] w fun e w' => ∃ v', e = .returned v' ∧ SgS w' v' (qah ts) ∧ Below w.heap.size w w' := by
 obtain ⟨i0, hi, hz0, hz1, hz2⟩ := info_parts Tryz.infoSg
 have HT : Hid (TRO w v ts) := hT
 have HK : Hid (TkIn ts) := hk
 obtain ⟨a, cap, rfl, hcap, -, -⟩ := hT
 obtain ⟨n, hn⟩ : ∃ n, n = ts.length := ⟨_, rfl⟩
 have HN : Hid (n = ts.length) := hn
 rw [← hn] at HT hcap hl ⊢
 have hzt := q33
 have hwn : IntKind.i64.wrap ((n : Int) + 1) = ((n + 1 : Nat) : Int) := by rw [IntKind.wrap_i64]; omega
 clear hn hk
 go_enter Tryz.func22, Tryz.ntmps22
 go_wp2_with (at_make; refine wpList_make_own _ rfl _ _ 66 rfl w.heap.size 121 i0 (.agg sg0) 9 Tryz.underlying66 hi hz0 hz1 .i64 .i64 _ (n + 1) rfl rfl (by omega) (by rw [hz2]; omega) (by unfold maxLen; omega) (Nat.le_refl _) ?_; intro w1 hown hgrow)
 have hb1 : Below w.heap.size w w1 := (Below.refl _ w).grown hgrow (Nat.le_refl _) (fun k hk => by cases hk)
 have HB1 : Hid (Below w.heap.size w w1) := hb1
 have HO1 : Hid (w1.ownsRow w.heap.size 121 9 (.slice (some ⟨w.heap.size, 0, none⟩) 0 (n + 1)) 0 (sgsC [])) := hown
 clear hb1 hown hgrow hwn
 go_loopw [12, 3] (fun i v wr => ∃ (k : Nat) (qa : Option Addr) (qc : Nat), k ≤ n ∧ i = .int .i64 (k : Int) ∧ v = .slice qa k qc ∧ wr.ownsRow w.heap.size 121 9 (.slice qa k qc) k (sgsC ((ts.take k).map sgT)) ∧ Below w.heap.size w wr) (fun i _ _ => n - (intOf i).toNat)
 case atStart => exact ⟨0, _, _, by omega, rfl, rfl, HO1.out, HB1.out⟩
 case round =>
  clear HB1 HO1
  obtain ⟨k, qa, qc, hk, rfl, rfl, hO, hB⟩ := hrel
  have HO : Hid (wr.ownsRow w.heap.size 121 9 (.slice qa k qc) k (sgsC ((ts.take k).map sgT))) := hO
  have HB : Hid (Below w.heap.size w wr) := hB
  have hsz := hB.size
  clear hO hB
  by_cases hlt : k < n
  · have hki : (k : Int) < (n : Int) := by omega
    obtain ⟨t, ht⟩ : ∃ t, ts[k]? = some t := ⟨_, List.getElem?_eq_getElem (by rw [← HN.out]; exact hlt)⟩
    obtain ⟨g, o, rfl, hg, -, hcap2, c0, c1, c2⟩ := (HT.out.below HB.out).at ht
    have HTK : Hid (sgsC ((ts.take (k + 1)).map sgT) = sgsC ((ts.take k).map sgT) ++ sgC (sgT t)) := by
     unfold Hid; rw [List.take_add_one, ht, List.map_append]; exact qms _ _
    have hkt := HK.out t (List.mem_of_getElem? ht)
    obtain ⟨W2, hW2⟩ : ∃ W2, W2 = wr.alloc (.cells #[.int .u8 (t.b : Int), .int .i64 t.l, .int .i64 t.d] 95) := ⟨_, rfl⟩
    have hb2 : Below wr.heap.size wr W2 := by rw [hW2]; exact (Below.refl _ _).alloc (Nat.le_refl _) _
    have hn2 : W2.heap[wr.heap.size]? = some (.cells #[.int .u8 (t.b : Int), .int .i64 t.l, .int .i64 t.d] 95 (0, 0)) := by rw [hW2]; exact heap_alloc_new wr _
    have HSG := qs5 t W2 hkt.1 hkt.2
    have HB2 : Hid (Below w.heap.size w W2) := HB.out.trans (hb2.mono HB.out.size)
    have HO2 : Hid (W2.ownsRow w.heap.size 121 9 (.slice qa k qc) k (sgsC ((ts.take k).map sgT))) := by rw [hW2]; exact HO.out.alloc _
    have e0 : W2.cell? ⟨wr.heap.size, 0, none⟩ = some (.int .u8 (t.b : Int)) := by unfold World.cell?; rw [hn2]; rfl
    have e1 : W2.cell? ⟨wr.heap.size, 1, none⟩ = some (.int .i64 t.l) := by unfold World.cell?; rw [hn2]; rfl
    have e2 : W2.cell? ⟨wr.heap.size, 2, none⟩ = some (.int .i64 t.d) := by unfold World.cell?; rw [hn2]; rfl
    have hsw : wr.heap.size < W2.heap.size := (Array.getElem?_eq_some_iff.1 hn2).1
    have HW2 : Hid (wr.alloc (.cells #[.int .u8 (t.b : Int), .int .i64 t.l, .int .i64 t.d] 95) = W2) := hW2.symm
    clear hb2 hn2 hW2 ht hkt
    generalize sgT t = s at *
    obtain ⟨tb, tl, td⟩ := t
    simp only at c0 c1 c2 e0 e1 e2 HSG HW2
    go_upto_region 5 with fail
    rw [show wr.alloc (.cells #[.int .u8 (tb : Int), .int .i64 tl, .int .i64 td] 95) = W2 from HW2.out]
    clear c0 c1 c2 HW2
    go_wp2_with fail
    refine HSG.mono ?_
    rintro e w3 ⟨rfl, hb3⟩
    have HB3 : Hid (Below w.heap.size w w3) := HB2.out.trans (hb3.mono HB2.out.size)
    have HO3 : Hid (w3.ownsRow w.heap.size 121 9 (.slice qa k qc) k (sgsC ((ts.take k).map sgT))) := qa0 HO2.out hb3
    have hs3 := HB3.out.size
    have HN3 : Hid (∀ j u, (sgC s)[j]? = some u → (w3.alloc (.cells (sgC s).toArray 121)).cell? ((⟨w3.heap.size, 0, none⟩ : Addr).add j) = some u) := q0t w3 s
    clear hb3 e0 e1 e2 HSG
    have hbs := qyq s
    go_wp2_with (first | (with_reducible refine qxc rfl 66 (Operand.tmp 18) rfl (sgV s) _ rfl (hbs _) ?_) | (at_builtin; refine wpList_append_own _ rfl _ _ 66 rfl w.heap.size 121 i0 (.agg sg0) 9 72 Tryz.underlying66 hi hz0 hz1 hz2 rfl (by decide) (.slice qa k qc) k _ rfl (HO3.out.alloc _) ⟨w3.heap.size, 0, none⟩ 1 1 (sgC s) rfl (qfi s) HN3.out (qk9 s) (by unfold maxLen; omega) (by omega) (by rw [World.size_alloc]; omega) ?_; intro v8 w8 hown hg _))
    obtain ⟨a8, c8, rfl⟩ := qqu hown
    have HO8 : Hid (w8.ownsRow w.heap.size 121 9 (.slice a8 (k + 1) c8) (k + 1) (sgsC ((ts.take (k + 1)).map sgT))) := by unfold Hid; rw [HTK.out]; exact hown
    have HB8 : Hid (Below w.heap.size w w8) := (HB3.out.alloc hs3 _).grown hg (by rw [World.size_alloc]; omega) (fun r hr => (World.ownsRow.lt HO3.out r hr).1)
    clear hown hg hbs
    go_wp2
    go_roundw
    case rel => exact ⟨k + 1, a8, c8, by omega, by go_num, rfl, HO8.out, HB8.out⟩
    case measure => simp [intOf]; omega
  · have hki : ¬ (k : Int) < (n : Int) := by omega
    obtain rfl : k = n := by omega
    rw [List.take_of_length_le (by rw [← HN.out]; exact Nat.le_refl _)] at HO
    have HNE : Hid (∀ j u, (sgC qf0)[j]? = some u → (wr.alloc (.cells (sgC qf0).toArray 121)).cell? ((⟨wr.heap.size, 0, none⟩ : Addr).add j) = some u) := q0t wr qf0
    have HSN : Hid (sgsC (qah ts) = sgsC (ts.map sgT) ++ sgC qf0) := qms _ _
    have hzs := qt7
    go_wp2_with (at_builtin; refine wpList_append_own _ rfl _ _ 66 rfl w.heap.size 121 i0 (.agg sg0) 9 72 Tryz.underlying66 hi hz0 hz1 hz2 rfl (by decide) (.slice qa k qc) k _ rfl (HO.out.alloc _) ⟨wr.heap.size, 0, none⟩ 1 1 (sgC qf0) rfl (qfi qf0) HNE.out (qk9 qf0) (by unfold maxLen; omega) (by omega) (by rw [World.size_alloc]; omega) ?_; intro v8 w8 hown hg _)
    obtain ⟨a8, c8, rfl⟩ := qqu hown
    have HO8 : Hid (SgS w8 (.slice a8 (k + 1) c8) (qah ts)) := by unfold Hid; refine SgS.own (B := w.heap.size) (n := k + 1) ?_; rw [HSN.out]; exact hown
    have HB8 : Hid (Below w.heap.size w w8) := (HB.out.alloc hsz _).grown hg (by rw [World.size_alloc]; omega) (fun r hr => (World.ownsRow.lt HO.out r hr).1)
    clear hown hg
    go_wp2
    go_ret
    exact ⟨_, rfl, HO8.out, HB8.out⟩
def PO (w : World) (B : Nat) (v : Value) (l : List Prt) : Prop := w.ownsRow B 119 3 v l.length (prsC l)
theorem PO.shape {w : World} {B : Nat} {v : Value} {l : List Prt} (h : PO w B v l) : ∃ a c, v = .slice a l.length c := by
 rcases h.2 with ⟨rfl, h0⟩ | ⟨g', cap, cur, rfl, _⟩
 · exact ⟨none, 0, by rw [h0]⟩
 · exact ⟨_, cap, rfl⟩
theorem PO.below {w w' : World} {B : Nat} {v : Value} {l : List Prt} (h : PO w B v l) (hb : Below w.heap.size w w') : PO w' B v l := qa0 h hb
theorem PO.base {w : World} {B B' : Nat} {v : Value} {l : List Prt} (h : PO w B v l) (hB : B' ≤ B) : PO w B' v l := by
 refine ⟨h.1, ?_⟩
 rcases h.2 with h | ⟨g, cap, cur, h1, h2, h3⟩
 · exact .inl h
 · exact .inr ⟨g, cap, cur, h1, Nat.le_trans hB h2, h3⟩
theorem PO.nil (w : World) (B : Nat) : PO w B (.slice none 0 0) [] := ⟨rfl, .inl ⟨rfl, rfl⟩⟩
theorem PO.ps {w : World} {B : Nat} {v : Value} {l : List Prt} (h : PO w B v l) : PS w v l := PS.own h
theorem q2k (p : Prt) : ∀ v ∈ prC p, v.oneCell' = true := by
 intro v hv
 simp only [prC, List.mem_cons, List.not_mem_nil, or_false] at hv
 rcases hv with rfl | rfl | rfl <;> rfl
theorem qq3 (l : List Prt) : ∀ v ∈ prsC l, v.oneCell' = true := by
 intro v hv
 obtain ⟨x, _, hx⟩ := List.mem_flatMap.1 hv
 exact q2k x v hx
theorem qq4 (l m : List Prt) : prsC (l ++ m) = prsC l ++ prsC m := by simp [prsC]
theorem qc0 (l m : List Prt) : prsB (l ++ m) = prsB l ++ prsB m := by simp [prsB]
theorem Tryz.infoPr : (Tryz.prog.info? 119).map (fun i => (i.zero, i.size, i.bytes)) = some (some (.agg #[.int .u32 0, .int .i64 0, .bool false]), 3, 24) := by kernel_rfl
theorem qjq {w : World} (x : TypeId) {B : Nat} {v : Value} {l : List Prt} (p q : Prt) (hO : PO w B v l) (hl : l.length + 2 ≤ 1000000) (hB : B ≤ w.heap.size) :
    ∃ a' c' w', (Builtin.append_ #[68, 68] x #[v, .slice (some ⟨w.heap.size, 0, none⟩) 2 2]).run Tryz.prog (w.alloc (.cells (prC p ++ prC q).toArray 119)) = .ok (.slice a' (l.length + 2) c') w' ∧ PO w' B (.slice a' (l.length + 2) c') (l ++ [p, q]) ∧ w.grownBy w' v.ownBlock := by
 obtain ⟨i0, hi, hz0, hz1, hz2⟩ := info_parts Tryz.infoPr
 have hb : Below w.heap.size w (w.alloc (.cells (prC p ++ prC q).toArray 119)) := (Below.refl _ _).alloc (Nat.le_refl _) _
 have e : prsC [p, q] = prC p ++ prC q := by simp [prsC]
 have hN : ∀ j u, (prsC [p, q])[j]? = some u → (w.alloc (.cells (prC p ++ prC q).toArray 119)).cell? ((⟨w.heap.size, 0, none⟩ : Addr).add j) = some u := by
  rw [e]; exact World.news_of_block (heap_alloc_new w _)
 obtain ⟨v', w', hr, hown, hgr, _⟩ := run_append_own_at (P := Tryz.prog) (w.alloc (.cells (prC p ++ prC q).toArray 119)) B 68 x 119 i0 (.agg #[.int .u32 0, .int .i64 0, .bool false]) 3 24 Tryz.underlying68 hi hz0 hz1 hz2 rfl (by decide) v _ _ (hO.below hb) ⟨w.heap.size, 0, none⟩ 2 2 (prsC [p, q]) (qhp [p, q]) hN (qq3 _) (by unfold maxLen; omega) (by omega) (by rw [World.size_alloc]; omega)
 have hO' : PO w' B v' (l ++ [p, q]) := by unfold PO; rw [qq4, List.length_append]; exact hown
 obtain ⟨a', c', rfl⟩ := hO'.shape
 have e2 : (l ++ [p, q]).length = l.length + 2 := by simp
 rw [e2] at hO' hr
 exact ⟨a', c', w', hr, hO', qdl (qrq hb) hgr⟩
theorem qc8 {w : World} {ops : Array Oper} {o : Oper} {a : Act} {K : Act → World → Prop} {Q : Exit → Act → World → Prop} {E : Prop} (hgd : o.guard = none) (s x : Operand)
    (ho : o.op = .call { callee := .builtin .append, args := #[s, x], argTypes := #[68, 68] })
    (B : Nat) (v : Value) (l : List Prt) (p q : Prt) (hs : a.eval s = v) (hx : a.eval x = .slice (some ⟨w.heap.size, 0, none⟩) 2 2) (hO : PO w B v l) (hl : l.length + 2 ≤ 1000000) (hB : B ≤ w.heap.size)
    (h : ∀ a' cap' w', PO w' B (.slice a' (l.length + 2) cap') (l ++ [p, q]) → w.grownBy w' v.ownBlock → K (a.put o.dst (.slice a' (l.length + 2) cap')) w') :
    if Region.wanted o (yielded ops a.tmps) = true then Oper.wp Tryz.prog o a (w.alloc (.cells #[.int .u32 (p.b : Int), .int .i64 (p.c : Int), .bool p.code, .int .u32 (q.b : Int), .int .i64 (q.c : Int), .bool q.code] 119)) K Q else E := by
 have hw : Region.wanted o (yielded ops a.tmps) = true := by simp [Region.wanted, hgd]
 rw [if_pos hw]
 obtain ⟨a', cap', w', hr, h2, h3⟩ := qjq o.type p q hO hl hB
 have hr' : (Builtin.append_ #[68, 68] o.type #[v, .slice (some ⟨w.heap.size, 0, none⟩) 2 2]).run Tryz.prog (w.alloc (.cells #[.int .u32 (p.b : Int), .int .i64 (p.c : Int), .bool p.code, .int .u32 (q.b : Int), .int .i64 (q.c : Int), .bool q.code] 119)) = .ok (.slice a' (l.length + 2) cap') w' := hr
 unfold Oper.wp execOp
 simp only [ho, resolve, invoke, builtin, Sem.run_bind, Sem.run_pure, Result.andThen_ok, List.map_toArray, List.map_cons, List.map_nil, hs, hx, hr']
 exact h a' cap' w' h2 h3
def qfe (ls ds : List Nat) (s : Sgn) : List Prt := if s.rep then [⟨cdOf ls s.sym, ln ls s.sym, true⟩, s.more, ⟨cdOf ds s.far, ln ds s.far, true⟩, s.fmore] else [⟨cdOf ls s.sym, ln ls s.sym, true⟩, s.more]
def qaj (ls ds : List Nat) (l : List Sgn) : List Prt := l.flatMap (qfe ls ds)
theorem qxd (ls ds : List Nat) (s : Sgn) : (qfe ls ds s).length ≤ 4 := by unfold qfe; split <;> simp
theorem qc6 (ls ds : List Nat) : ∀ l, (qaj ls ds l).length ≤ 4 * l.length
 | [] => Nat.zero_le _
 | s :: l => by
  have := qc6 ls ds l
  have := qxd ls ds s
  unfold qaj at *
  rw [List.flatMap_cons, List.length_append, List.length_cons]; omega
theorem qpz (ls ds : List Nat) (l : List Sgn) (s : Sgn) : qaj ls ds (l ++ [s]) = qaj ls ds l ++ qfe ls ds s := by simp [qaj]
theorem qnv (v vs vf : Value) (l : List Sgn) (zs fs : List Int) (w : World) (hS : SgS w v l) (hs : IQ w vs zs) (hf : IQ w vf fs) (es : errN zs = 0) (ef : errN fs = 0) (hl : l.length ≤ 10000)
    (hk : ∀ s ∈ l, s.sym < zs.length ∧ (s.rep = true → s.far < fs.length)) :
    Calls Tryz.prog 49 #[v, vs, vf] w fun e w' => ∃ v', e = .returned v' ∧ PO w' w.heap.size v' (qaj (toN zs) (toN fs) l) ∧ Below w.heap.size w w' := by
 have HSG : Hid (SgS w v l) := hS
 have HK : Hid (∀ s ∈ l, s.sym < zs.length ∧ (s.rep = true → s.far < fs.length)) := hk
 have HC1 := qen vs zs w hs es
 have HC2 : Hid (∀ W, Below w.heap.size w W → Calls Tryz.prog 77 #[vf] W fun e w' => e = .returned (.slice (some ⟨W.heap.size, 0, none⟩) fs.length fs.length) ∧ CR w' W.heap.size fs.length (cdOf (toN fs)) (ln (toN fs)) ∧ Below W.heap.size W w') := fun W hW => qen vf fs W (hf.below hW) ef
 obtain ⟨a, cap, rfl, hcap, -⟩ := hS
 obtain ⟨n, hn⟩ : ∃ n, n = l.length := ⟨_, rfl⟩
 have HN : Hid (n = l.length) := hn
 rw [← hn] at HSG hcap hl ⊢
 have hzsz : zs.length ≤ 320 := (qdu es).1
 have hfsz : fs.length ≤ 320 := (qdu ef).1
 obtain ⟨zn, hzn⟩ : ∃ zn, zn = zs.length := ⟨_, rfl⟩
 obtain ⟨fn, hfn⟩ : ∃ fn, fn = fs.length := ⟨_, rfl⟩
 rw [← hzn] at HC1 HK hzsz
 rw [← hfn] at HC2 HK hfsz
 obtain ⟨gs, os, cs, rfl, -, -⟩ := hs
 obtain ⟨gf, of, cf, rfl, -, -⟩ := hf
 rw [← hzn] at HC1 ⊢
 rw [← hfn] at HC2 ⊢
 generalize toN zs = ls at *
 generalize toN fs = ds at *
 clear hn hk es ef hzn hfn
 go_enter Tryz.func49, Tryz.ntmps49
 go_wp2_with fail
 refine HC1.mono ?_
 rintro e w1 ⟨rfl, hc1, hb1⟩
 have HB1 : Hid (Below w.heap.size w w1) := hb1
 have HCR1 : Hid (CR w1 w.heap.size zn (cdOf ls) (ln ls)) := hc1
 have hw1 := hc1.lt
 clear hb1 hc1 HC1
 go_wp2_with fail
 refine (HC2.out w1 HB1.out).mono ?_
 rintro e w2 ⟨rfl, hc2, hb2⟩
 have HB2 : Hid (Below w.heap.size w w2) := HB1.out.trans (hb2.mono HB1.out.size)
 have HCR2 : Hid (CR w2 w1.heap.size fn (cdOf ds) (ln ds)) := hc2
 have HCR3 : Hid (CR w2 w.heap.size zn (cdOf ls) (ln ls)) := HCR1.out.since hb2
 have hw2 := hc2.lt
 have hw3 := HCR3.out.lt
 have hs2 := HB2.out.size
 clear hb2 hc2 HC2 HCR1
 have hzg := qt7
 have hz9 : (Tryz.prog.info? 121).map (·.size) = some 9 := by kernel_rfl
 have HZ9 : Hid ((Tryz.prog.info? 121).map (·.size) = some 9) := hz9
 clear hz9
 go_wp2
 go_loopw [18, 9] (fun i o wr => ∃ (k q : Nat) (qa : Option Addr) (qc : Nat), k ≤ n ∧ i = .int .i64 (k : Int) ∧ o = .slice qa q qc ∧ Hid (q = (qaj ls ds (l.take k)).length) ∧ PO wr w2.heap.size (.slice qa q qc) (qaj ls ds (l.take k)) ∧ Below w2.heap.size w2 wr) (fun i _ _ => n - (intOf i).toNat)
 case atStart => exact ⟨0, 0, none, 0, Nat.zero_le _, rfl, rfl, rfl, PO.nil _ _, Below.refl _ _⟩
 case round =>
  obtain ⟨k, q, qa, qc, hk, rfl, rfl, HQ, hO, hb⟩ := hrel
  have HO : Hid (PO wr w2.heap.size (.slice qa q qc) (qaj ls ds (l.take k))) := hO
  have HB : Hid (Below w2.heap.size w2 wr) := hb
  have hsr := hb.size
  clear hO hb
  by_cases hlt : k < n
  · have hki : (k : Int) < (n : Int) := by omega
    obtain ⟨s, hs⟩ : ∃ s, l[k]? = some s := ⟨_, List.getElem?_eq_getElem (by rw [← HN.out]; exact hlt)⟩
    obtain ⟨g, rfl, hg, -, hcap2, hrg⟩ := (HSG.out.below (HB2.out.trans (HB.out.mono hs2))).at hs
    have HRG : Hid (wr.rangeAt g (k * 9) (sgC s)) := hrg
    have HTK : Hid (qaj ls ds (l.take (k + 1)) = qaj ls ds (l.take k) ++ qfe ls ds s) := by
     unfold Hid; rw [List.take_add_one, hs]; exact qpz _ _ _ _
    have hsk := HK.out s (List.mem_of_getElem? hs)
    have HBL : Hid ((qaj ls ds (l.take k)).length ≤ 4 * k) := by
     unfold Hid
     have := qc6 ls ds (l.take k)
     rw [List.length_take] at this; omega
    clear hrg hs
    go_upto_region 6 with (first | (refine wpList_load_mid rfl 121 (Operand.tmp 20) rfl g (k * 9) rfl (sgC s) _ HRG.out Tryz.underlying121 rfl HZ9.out ?_) | (refine wpList_store_row rfl 121 (Operand.tmp 11) (Operand.tmp 21) rfl wr.heap.size (sgC s).toArray rfl rfl 121 sg0 (heap_alloc_new wr _) HZ9.out rfl (all_oneCell_toArray (qk9 s)) ?_))
    have hpn : ∀ a : Act, a.put none undef = a := fun _ => rfl
    rw [hpn]
    obtain ⟨W3, hW3⟩ : ∃ W3, W3 = (wr.alloc (.cells sg0 121)).setRow wr.heap.size (sgC s).toArray := ⟨_, rfl⟩
    rw [← hW3]
    have hs3 : W3.heap[wr.heap.size]? = some (.cells (sgC s).toArray 121 (0, 0)) := by rw [hW3]; exact setRow_heap _ _ _ _ _ _ (heap_alloc_new wr _)
    have hb3 : Below wr.heap.size wr W3 := by rw [hW3]; exact below_setRow ((Below.refl _ _).alloc (Nat.le_refl _) _) (Nat.le_refl _) _
    have HB3 : Hid (Below w2.heap.size w2 W3) := HB.out.trans (hb3.mono hsr)
    have HO3 : Hid (PO W3 w2.heap.size (.slice qa q qc) (qaj ls ds (l.take k))) := HO.out.below hb3
    have hc3 := HCR3.out.cell (i := s.sym * 2) (by omega)
    have hc4 := HCR3.out.cell (i := s.sym * 2 + 1) (by omega)
    rw [qc5] at hc3
    rw [qdw] at hc4
    have hsz3 : wr.heap.size < W3.heap.size := (Array.getElem?_eq_some_iff.1 hs3).1
    have hwz : w.heap.size < W3.heap.size := Nat.lt_of_lt_of_le hw3 HB3.out.size
    have HSB : Hid (∀ W : World, W.heap[wr.heap.size]? = W3.heap[wr.heap.size]? → W.heap[w.heap.size]? = W3.heap[w.heap.size]? → W.cell? ⟨wr.heap.size, 0, none⟩ = some (.int .i64 (s.sym : Int)) ∧ W.cell? ⟨wr.heap.size, 1, none⟩ = some (.int .u32 (s.more.b : Int)) ∧ W.cell? ⟨wr.heap.size, 2, none⟩ = some (.int .i64 (s.more.c : Int)) ∧ W.cell? ⟨wr.heap.size, 3, none⟩ = some (.bool s.more.code) ∧ W.cell? ⟨w.heap.size, s.sym * 2, none⟩ = some (.int .u32 (cdOf ls s.sym : Int)) ∧ W.cell? ⟨w.heap.size, s.sym * 2 + 1, none⟩ = some (.int .i64 (ln ls s.sym : Int))) := fun W h1 h2 => by
     have h := h1.trans hs3
     have hcc := h2.trans (HB3.out.block _ hw3)
     refine ⟨?_, ?_, ?_, ?_, ?_, ?_⟩
     · rw [cell_of_row _ _ _ _ _ _ h]; rfl
     · rw [cell_of_row _ _ _ _ _ _ h]; rfl
     · rw [cell_of_row _ _ _ _ _ _ h]; rfl
     · rw [cell_of_row _ _ _ _ _ _ h]; rfl
     · have : W.cell? ⟨w.heap.size, s.sym * 2, none⟩ = w2.cell? ⟨w.heap.size, s.sym * 2, none⟩ := by unfold World.cell?; rw [hcc]
       rw [this]; exact hc3
     · have : W.cell? ⟨w.heap.size, s.sym * 2 + 1, none⟩ = w2.cell? ⟨w.heap.size, s.sym * 2 + 1, none⟩ := by unfold World.cell?; rw [hcc]
       rw [this]; exact hc4
    have HS3 : Hid (∀ W, Below W3.heap.size W3 W → W.cell? ⟨wr.heap.size, 0, none⟩ = some (.int .i64 (s.sym : Int)) ∧ W.cell? ⟨wr.heap.size, 1, none⟩ = some (.int .u32 (s.more.b : Int)) ∧ W.cell? ⟨wr.heap.size, 2, none⟩ = some (.int .i64 (s.more.c : Int)) ∧ W.cell? ⟨wr.heap.size, 3, none⟩ = some (.bool s.more.code) ∧ W.cell? ⟨w.heap.size, s.sym * 2, none⟩ = some (.int .u32 (cdOf ls s.sym : Int)) ∧ W.cell? ⟨w.heap.size, s.sym * 2 + 1, none⟩ = some (.int .i64 (ln ls s.sym : Int))) := fun W hW => HSB.out W (hW.block _ hsz3) (hW.block _ hwz)
    have hne : ∀ g', (Value.slice qa q qc).ownBlock = some g' → w2.heap.size ≤ g' ∧ g' < wr.heap.size := fun g' h => World.ownsRow.lt HO.out g' h
    have HS7 : Hid (∀ W W' : World, Below W3.heap.size W3 W → W.grownBy W' (Value.slice qa q qc).ownBlock → W'.cell? ⟨wr.heap.size, 0, none⟩ = some (.int .i64 (s.sym : Int)) ∧ W'.cell? ⟨wr.heap.size, 1, none⟩ = some (.int .u32 (s.more.b : Int)) ∧ W'.cell? ⟨wr.heap.size, 2, none⟩ = some (.int .i64 (s.more.c : Int)) ∧ W'.cell? ⟨wr.heap.size, 3, none⟩ = some (.bool s.more.code) ∧ W'.cell? ⟨w.heap.size, s.sym * 2, none⟩ = some (.int .u32 (cdOf ls s.sym : Int)) ∧ W'.cell? ⟨w.heap.size, s.sym * 2 + 1, none⟩ = some (.int .i64 (ln ls s.sym : Int))) := fun W W' hW hg => HSB.out W' ((hg.block _ (Nat.lt_of_lt_of_le hsz3 hW.size) (fun e => by have := (hne _ e.symm).2; omega)).trans (hW.block _ hsz3)) ((hg.block _ (Nat.lt_of_lt_of_le hwz hW.size) (fun e => by have := (hne _ e.symm).1; omega)).trans (hW.block _ hwz))
    have HS8 : Hid (∀ W W' : World, Below W3.heap.size W3 W → W.grownBy W' (Value.slice qa q qc).ownBlock → W'.heap[wr.heap.size]? = some (.cells (sgC s).toArray 121 (0, 0))) := fun W W' hW hg => ((hg.block _ (Nat.lt_of_lt_of_le hsz3 hW.size) (fun e => by have := (hne _ e.symm).2; omega)).trans (hW.block _ hsz3)).trans hs3
    have HB7F : Hid (∀ W W' : World, Below W3.heap.size W3 W → W.grownBy W' (Value.slice qa q qc).ownBlock → Below w2.heap.size w2 W') := fun W W' hW hg => (HB3.out.trans (hW.mono HB3.out.size)).grown hg (Nat.le_trans HB3.out.size hW.size) (fun j hj => (hne j hj).1)
    have HBL3 : Hid ((qaj ls ds (l.take k)).length + 2 ≤ 1000000) := by have := HBL.out; unfold Hid; omega
    have hsym : s.sym < zn := hsk.1
    have hch0 : Below W3.heap.size W3 W3.drew := (Below.refl _ _).drew
    have hS0 := HS3.out _ hch0
    have HCP := fun W => qeq (cdOf ls s.sym) (ln ls s.sym) W
    have HPP : Hid (∀ W, Calls Tryz.prog 78 #[.agg #[.int .u32 (cdOf ls s.sym : Int), .int .i64 (ln ls s.sym : Int)]] W fun e w' => e = .returned (pv ⟨cdOf ls s.sym, ln ls s.sym, true⟩) ∧ Below W.heap.size W w') := HCP
    obtain ⟨S, hS⟩ : ∃ S, S = wr.heap.size := ⟨_, rfl⟩
    clear hW3 hb3 hc3 hc4 HCP hne
    unfold pv at HPP
    go_region_held3 (fun W : World => W.cell? ⟨wr.heap.size, 0, none⟩ = some (.int .i64 (s.sym : Int)) ∧ W.cell? ⟨wr.heap.size, 1, none⟩ = some (.int .u32 (s.more.b : Int)) ∧ W.cell? ⟨wr.heap.size, 2, none⟩ = some (.int .i64 (s.more.c : Int)) ∧ W.cell? ⟨wr.heap.size, 3, none⟩ = some (.bool s.more.code) ∧ W.cell? ⟨w.heap.size, s.sym * 2, none⟩ = some (.int .u32 (cdOf ls s.sym : Int)) ∧ W.cell? ⟨w.heap.size, s.sym * 2 + 1, none⟩ = some (.int .i64 (ln ls s.sym : Int))) (first | exact hS0 | exact HS3.out _ hb5 | exact HS3.out _ (hb6 _) | exact HS7.out _ _ hb5 hg7 | assumption | go_keep) (first | (go_at_call 78; refine (HPP.out _).mono ?_; rintro e w5 ⟨rfl, hb5'⟩; have hb5 : Below W3.heap.size W3 w5 := hch0.trans (hb5'.mono hch0.size); have HO5 : Hid (PO w5 w2.heap.size (.slice qa q qc) (qaj ls ds (l.take k))) := HO3.out.below hb5; have hb6 : ∀ o, Below W3.heap.size W3 (w5.alloc o) := fun o => hb5.alloc hb5.size o; have HLE5 : Hid (w2.heap.size ≤ w5.heap.size) := Nat.le_trans HB3.out.size hb5.size) | (refine qc8 (by rfl) _ _ (by rfl) w2.heap.size (.slice qa q qc) (qaj ls ds (l.take k)) ⟨cdOf ls s.sym, ln ls s.sym, true⟩ s.more (by rfl) (by rfl) HO5.out HBL3.out HLE5.out ?_; intro a' c' w7 hO7 hg7))
    have HB7 : Hid (Below w2.heap.size w2 w7) := HB7F.out w5 w7 hb5 hg7
    have h7S : w7.heap[wr.heap.size]? = some (.cells (sgC s).toArray 121 (0, 0)) := HS8.out w5 w7 hb5 hg7
    have hsz7 : wr.heap.size < w7.heap.size := (Array.getElem?_eq_some_iff.1 h7S).1
    have HO7 : Hid (PO w7 w2.heap.size (.slice a' ((qaj ls ds (l.take k)).length + 2) c') (qaj ls ds (l.take k) ++ [⟨cdOf ls s.sym, ln ls s.sym, true⟩, s.more])) := hO7
    have d4 : w7.cell? ⟨wr.heap.size, 4, none⟩ = some (.bool s.rep) := by rw [cell_of_row _ _ _ _ _ _ h7S]; rfl
    have HH7 : Hid (w7.heap[wr.heap.size]? = some (.cells (sgC s).toArray 121 (0, 0))) := h7S
    have hfr := hsk.2
    have HFR : Hid (s.rep = true → s.far < fn) := hfr
    have hs27 := HB7.out.size
    have HLQ : Hid ((qaj ls ds (l.take k) ++ [⟨cdOf ls s.sym, ln ls s.sym, true⟩, s.more]).length = (qaj ls ds (l.take k)).length + 2) := by unfold Hid; simp
    have HBP0 : Hid (s.rep = false → qfe ls ds s = [⟨cdOf ls s.sym, ln ls s.sym, true⟩, s.more]) := fun h => by unfold qfe; rw [h]; rfl
    have HBP1 : Hid (s.rep = true → qfe ls ds s = [⟨cdOf ls s.sym, ln ls s.sym, true⟩, s.more] ++ [⟨cdOf ds s.far, ln ds s.far, true⟩, s.fmore]) := fun h => by unfold qfe; rw [h]; rfl
    clear hO7 hg7 hb5 hb5' hb6 h7S hS0 hch0 hS hsk hfr
    obtain ⟨L7, hL7⟩ : ∃ L7, L7 = qaj ls ds (l.take k) ++ [⟨cdOf ls s.sym, ln ls s.sym, true⟩, s.more] := ⟨_, rfl⟩
    have HL7E : Hid (qaj ls ds (l.take k) ++ [⟨cdOf ls s.sym, ln ls s.sym, true⟩, s.more] = L7) := hL7.symm
    rw [← hL7] at HO7 HLQ
    clear hL7
    have HLk : Hid ((qaj ls ds (l.take k)).length + 2 = L7.length) := HLQ.out.symm
    have HL7 : Hid (L7.length + 2 ≤ 1000000) := by have := HBL.out; have := HLQ.out; unfold Hid; omega
    clear HS3 HSB HS7 HS8 HB7F HPP HBL3 HO3 HRG
    by_cases hr : s.rep = true
    · have HEQ : Hid (qaj ls ds (l.take (k + 1)) = L7 ++ [⟨cdOf ds s.far, ln ds s.far, true⟩, s.fmore]) := by
        unfold Hid; rw [HTK.out, HBP1.out hr, ← List.append_assoc, HL7E.out]
      have hfar : s.far < fn := HFR.out hr
      rw [hr] at d4
      go_upto_region 8 with fail
      clear d4
      have hc3 := HCR2.out.cell (i := s.far * 2) (by omega)
      have hc4 := HCR2.out.cell (i := s.far * 2 + 1) (by omega)
      rw [qc5] at hc3
      rw [qdw] at hc4
      have hwz : w1.heap.size < w7.heap.size := Nat.lt_of_lt_of_le hw2 hs27
      have HSB : Hid (∀ W : World, W.heap[wr.heap.size]? = w7.heap[wr.heap.size]? → W.heap[w1.heap.size]? = w7.heap[w1.heap.size]? → W.cell? ⟨wr.heap.size, 5, none⟩ = some (.int .i64 (s.far : Int)) ∧ W.cell? ⟨wr.heap.size, 6, none⟩ = some (.int .u32 (s.fmore.b : Int)) ∧ W.cell? ⟨wr.heap.size, 7, none⟩ = some (.int .i64 (s.fmore.c : Int)) ∧ W.cell? ⟨wr.heap.size, 8, none⟩ = some (.bool s.fmore.code) ∧ W.cell? ⟨w1.heap.size, s.far * 2, none⟩ = some (.int .u32 (cdOf ds s.far : Int)) ∧ W.cell? ⟨w1.heap.size, s.far * 2 + 1, none⟩ = some (.int .i64 (ln ds s.far : Int))) := fun W h1 h2 => by
       have h := h1.trans HH7.out
       have hcc := h2.trans (HB7.out.block _ hw2)
       refine ⟨?_, ?_, ?_, ?_, ?_, ?_⟩
       · rw [cell_of_row _ _ _ _ _ _ h]; rfl
       · rw [cell_of_row _ _ _ _ _ _ h]; rfl
       · rw [cell_of_row _ _ _ _ _ _ h]; rfl
       · rw [cell_of_row _ _ _ _ _ _ h]; rfl
       · have : W.cell? ⟨w1.heap.size, s.far * 2, none⟩ = w2.cell? ⟨w1.heap.size, s.far * 2, none⟩ := by unfold World.cell?; rw [hcc]
         rw [this]; exact hc3
       · have : W.cell? ⟨w1.heap.size, s.far * 2 + 1, none⟩ = w2.cell? ⟨w1.heap.size, s.far * 2 + 1, none⟩ := by unfold World.cell?; rw [hcc]
         rw [this]; exact hc4
      have HS3 : Hid (∀ W, Below w7.heap.size w7 W → W.cell? ⟨wr.heap.size, 5, none⟩ = some (.int .i64 (s.far : Int)) ∧ W.cell? ⟨wr.heap.size, 6, none⟩ = some (.int .u32 (s.fmore.b : Int)) ∧ W.cell? ⟨wr.heap.size, 7, none⟩ = some (.int .i64 (s.fmore.c : Int)) ∧ W.cell? ⟨wr.heap.size, 8, none⟩ = some (.bool s.fmore.code) ∧ W.cell? ⟨w1.heap.size, s.far * 2, none⟩ = some (.int .u32 (cdOf ds s.far : Int)) ∧ W.cell? ⟨w1.heap.size, s.far * 2 + 1, none⟩ = some (.int .i64 (ln ds s.far : Int))) := fun W hW => HSB.out W (hW.block _ hsz7) (hW.block _ hwz)
      have hne : ∀ g', (Value.slice a' ((qaj ls ds (l.take k)).length + 2) c').ownBlock = some g' → w2.heap.size ≤ g' := fun g' h => (World.ownsRow.lt HO7.out g' h).1
      have hne2 : (Value.slice a' ((qaj ls ds (l.take k)).length + 2) c').ownBlock ≠ some wr.heap.size := fun e => qcd HO7.out HH7.out (by decide) e.symm
      have HS7 : Hid (∀ W W' : World, Below w7.heap.size w7 W → W.grownBy W' (Value.slice a' ((qaj ls ds (l.take k)).length + 2) c').ownBlock → W'.cell? ⟨wr.heap.size, 5, none⟩ = some (.int .i64 (s.far : Int)) ∧ W'.cell? ⟨wr.heap.size, 6, none⟩ = some (.int .u32 (s.fmore.b : Int)) ∧ W'.cell? ⟨wr.heap.size, 7, none⟩ = some (.int .i64 (s.fmore.c : Int)) ∧ W'.cell? ⟨wr.heap.size, 8, none⟩ = some (.bool s.fmore.code) ∧ W'.cell? ⟨w1.heap.size, s.far * 2, none⟩ = some (.int .u32 (cdOf ds s.far : Int)) ∧ W'.cell? ⟨w1.heap.size, s.far * 2 + 1, none⟩ = some (.int .i64 (ln ds s.far : Int))) := fun W W' hW hg => HSB.out W' ((hg.block _ (Nat.lt_of_lt_of_le hsz7 hW.size) (fun e => hne2 e.symm)).trans (hW.block _ hsz7)) ((hg.block _ (Nat.lt_of_lt_of_le hwz hW.size) (fun e => by have := hne _ e.symm; omega)).trans (hW.block _ hwz))
      have HB7F : Hid (∀ W W' : World, Below w7.heap.size w7 W → W.grownBy W' (Value.slice a' ((qaj ls ds (l.take k)).length + 2) c').ownBlock → Below w2.heap.size w2 W') := fun W W' hW hg => (HB7.out.trans (hW.mono HB7.out.size)).grown hg (Nat.le_trans HB7.out.size hW.size) (fun j hj => hne j hj)
      have hch0 : Below w7.heap.size w7 w7.drew := (Below.refl _ _).drew
      have hS0 := HS3.out _ hch0
      have HPP : Hid (∀ W, Calls Tryz.prog 78 #[.agg #[.int .u32 (cdOf ds s.far : Int), .int .i64 (ln ds s.far : Int)]] W fun e w' => e = .returned (pv ⟨cdOf ds s.far, ln ds s.far, true⟩) ∧ Below W.heap.size W w') := fun W => qeq (cdOf ds s.far) (ln ds s.far) W
      unfold pv at HPP
      have HOX : Hid (PO w7 w2.heap.size (.slice a' ((qaj ls ds (l.take k)).length + 2) c') L7) := HO7.out
      clear hc3 hc4 hne hne2
      go_region_held3 (fun W : World => W.cell? ⟨wr.heap.size, 5, none⟩ = some (.int .i64 (s.far : Int)) ∧ W.cell? ⟨wr.heap.size, 6, none⟩ = some (.int .u32 (s.fmore.b : Int)) ∧ W.cell? ⟨wr.heap.size, 7, none⟩ = some (.int .i64 (s.fmore.c : Int)) ∧ W.cell? ⟨wr.heap.size, 8, none⟩ = some (.bool s.fmore.code) ∧ W.cell? ⟨w1.heap.size, s.far * 2, none⟩ = some (.int .u32 (cdOf ds s.far : Int)) ∧ W.cell? ⟨w1.heap.size, s.far * 2 + 1, none⟩ = some (.int .i64 (ln ds s.far : Int))) (first | exact hS0 | exact HS3.out _ hb8 | exact HS3.out _ (hb9 _) | exact HS7.out _ _ hb8 hg9 | assumption | go_keep) (first | (go_at_call 78; refine (HPP.out _).mono ?_; rintro e w8 ⟨rfl, hb8'⟩; have hb8 : Below w7.heap.size w7 w8 := hch0.trans (hb8'.mono hch0.size); have HO8 : Hid (PO w8 w2.heap.size (.slice a' ((qaj ls ds (l.take k)).length + 2) c') L7) := HOX.out.below hb8; have hb9 : ∀ o, Below w7.heap.size w7 (w8.alloc o) := fun o => hb8.alloc hb8.size o; have HLE8 : Hid (w2.heap.size ≤ w8.heap.size) := Nat.le_trans HB7.out.size hb8.size) | (refine qc8 (by rfl) _ _ (by rfl) w2.heap.size (.slice a' ((qaj ls ds (l.take k)).length + 2) c') L7 ⟨cdOf ds s.far, ln ds s.far, true⟩ s.fmore (by rfl) (by rfl) HO8.out HL7.out HLE8.out ?_; intro a9 c9 w9 hO9 hg9))
      have HB9 : Hid (Below w2.heap.size w2 w9) := HB7F.out w8 w9 hb8 hg9
      have HO9 : Hid (PO w9 w2.heap.size (.slice a9 (L7.length + 2) c9) (qaj ls ds (l.take (k + 1)))) := by unfold Hid; rw [HEQ.out]; exact hO9
      have HQ9 : Hid (L7.length + 2 = (qaj ls ds (l.take (k + 1))).length) := by unfold Hid; rw [HEQ.out]; simp
      clear hO9 hg9 hb8 hb8' hb9 hS0 hch0
      go_wp2
      go_roundw
      case rel => exact ⟨k + 1, L7.length + 2, a9, c9, by omega, by go_num, rfl, HQ9.out, HO9.out, HB9.out⟩
      case measure => simp [intOf]; omega
    · have hr' : s.rep = false := by cases h : s.rep <;> simp_all
      have HEQ : Hid (qaj ls ds (l.take (k + 1)) = L7) := by
       unfold Hid; rw [HTK.out, HBP0.out hr', HL7E.out]
      rw [hr'] at d4
      have HO9 : Hid (PO w7 w2.heap.size (.slice a' ((qaj ls ds (l.take k)).length + 2) c') (qaj ls ds (l.take (k + 1)))) := by unfold Hid; rw [HEQ.out]; exact HO7.out
      have HQ9 : Hid ((qaj ls ds (l.take k)).length + 2 = (qaj ls ds (l.take (k + 1))).length) := by unfold Hid; rw [HEQ.out]; exact HLk.out
      clear hr hr'
      go_wp2
      go_roundw
      case rel => exact ⟨k + 1, (qaj ls ds (l.take k)).length + 2, a', c', by omega, by go_num, rfl, HQ9.out, HO9.out, HB7.out⟩
      case measure => simp [intOf]; omega
  · have hki : ¬ (k : Int) < (n : Int) := by omega
    obtain rfl : k = n := by omega
    rw [List.take_of_length_le (by rw [← HN.out]; exact Nat.le_refl _)] at HO
    have HD : Hid (PO wr w.heap.size (.slice qa q qc) (qaj ls ds l)) := HO.out.base hs2
    have HBF : Hid (Below w.heap.size w wr) := HB2.out.trans (HB.out.mono hs2)
    go_wp2
    go_ret
    exact ⟨_, rfl, HD.out, HBF.out⟩
end Go.Proofs.YthkppipdflmekaaGreat
