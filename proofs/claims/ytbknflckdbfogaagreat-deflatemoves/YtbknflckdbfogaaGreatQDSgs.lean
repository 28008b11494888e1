/- deflate's signsOf. -/
import Derived.Test.YtbknflckdbfogaaGreatQDSgn
import Derived.Test.YtbknflckdbfogaaGreatQFindM
import Derived.Laws.MakeOwn
import Derived.Great.BuildSlice
import Derived.Deep.MidRow
namespace Go.Proofs.YtbknflckdbfogaaGreat
open Go.RowKit
set_option linter.unusedVariables false
set_option linter.unusedSimpArgs false

def sgsC (l : List Sgn) : List Value := l.flatMap sgC
theorem sgC_len (s : Sgn) : (sgC s).length = 9 := rfl
theorem sgC_one (s : Sgn) : ∀ v ∈ sgC s, v.oneCell' = true := by
  intro v hv
  simp only [sgC, List.mem_cons, List.not_mem_nil, or_false] at hv
  rcases hv with rfl | rfl | rfl | rfl | rfl | rfl | rfl | rfl | rfl <;> rfl
theorem sgsC_len : ∀ l : List Sgn, (sgsC l).length = l.length * 9
  | [] => rfl
  | s :: l => by
    have ih := sgsC_len l
    unfold sgsC at ih ⊢
    rw [List.flatMap_cons, List.length_append, ih, sgC_len, List.length_cons]; omega
theorem sgsC_snoc (l : List Sgn) (s : Sgn) : sgsC (l ++ [s]) = sgsC l ++ sgC s := by simp [sgsC]
theorem sgsC_at : ∀ (l : List Sgn) (i : Nat) (s : Sgn), l[i]? = some s → ∀ j, j < 9 → (sgsC l)[i * 9 + j]? = (sgC s)[j]?
  | [], i, s, h, j, hj => by simp at h
  | y :: l, 0, s, h, j, hj => by
    simp at h; subst h
    unfold sgsC
    rw [List.flatMap_cons, List.getElem?_append_left (by rw [sgC_len]; omega)]
    simp
  | y :: l, i + 1, s, h, j, hj => by
    have := sgsC_at l i s (by simpa using h) j hj
    unfold sgsC at this ⊢
    rw [List.flatMap_cons, List.getElem?_append_right (by rw [sgC_len]; omega), sgC_len, show (i + 1) * 9 + j - 9 = i * 9 + j by omega]
    exact this
/-- v is a slice of these signs, at the head of its row. -/
def SgS (w : World) (v : Value) (l : List Sgn) : Prop := ∃ a cap, v = .slice a l.length cap ∧ l.length ≤ cap ∧ (l ≠ [] → ∃ g, a = some ⟨g, 0, none⟩ ∧ g < w.heap.size ∧ ∀ j u, (sgsC l)[j]? = some u → w.cell? ⟨g, j, none⟩ = some u)
theorem SgS.own {w : World} {B n : Nat} {v : Value} {l : List Sgn} (h : w.ownsRow B 122 9 v n (sgsC l)) : SgS w v l := by
  have hl := h.1
  rw [sgsC_len] at hl
  obtain rfl : l.length = n := by omega
  have hlt := h.lt
  rcases h.2 with ⟨rfl, h0⟩ | ⟨g, cap, cur, rfl, _, _, hc, _⟩
  · exact ⟨none, 0, by rw [h0], by omega, fun hne => absurd (List.eq_nil_of_length_eq_zero h0) hne⟩
  · refine ⟨_, cap, rfl, hc, fun _ => ⟨g, rfl, (hlt g rfl).2, fun j u hu => ?_⟩⟩
    have := World.ownsRow.cells h (g := g) rfl j u hu
    rwa [Addr.add_mid, Nat.zero_add] at this
theorem SgS.below {w w' : World} {v : Value} {l : List Sgn} (h : SgS w v l) (hb : Below w.heap.size w w') : SgS w' v l := by
  obtain ⟨a, cap, rfl, hc0, hf⟩ := h
  refine ⟨a, cap, rfl, hc0, fun hne => ?_⟩
  obtain ⟨g, rfl, hg, hc⟩ := hf hne
  exact ⟨g, rfl, Nat.lt_of_lt_of_le hg hb.size, fun j u hu => by rw [hb.cell (p := ⟨g, j, none⟩) hg]; exact hc j u hu⟩
/-- One of them. -/
theorem SgS.at {w : World} {a : Option Addr} {n cap : Nat} {l : List Sgn} (h : SgS w (.slice a n cap) l) {i : Nat} {s : Sgn} (hi : l[i]? = some s) : ∃ g, a = some ⟨g, 0, none⟩ ∧ g < w.heap.size ∧ n = l.length ∧ n ≤ cap ∧ w.rangeAt g (i * 9) (sgC s) := by
  obtain ⟨a', cap', e, hc0, hf⟩ := h
  injection e with e1 e2 e3
  subst e1 e3
  obtain ⟨g, rfl, hg, hc⟩ := hf (fun q => by rw [q] at hi; simp at hi)
  refine ⟨g, rfl, hg, e2, by rw [e2]; exact hc0, fun j u hu => hc _ u ?_⟩
  have hj : j < 9 := by have := (List.getElem?_eq_some_iff.1 hu).1; rwa [sgC_len] at this
  rw [sgsC_at l i s hi j hj]; exact hu
/-- v is a slice of these tokens, wherever it begins. -/
def TRO (w : World) (v : Value) (ts : List Tok) : Prop := ∃ a cap, v = .slice a ts.length cap ∧ ts.length ≤ cap ∧ (a = none → cap = 0) ∧ (ts ≠ [] → ∃ g o, a = some ⟨g, o, none⟩ ∧ g < w.heap.size ∧ ∀ i t, ts[i]? = some t → w.cell? ⟨g, o + i * 3, none⟩ = some (.int .u8 (t.b : Int)) ∧ w.cell? ⟨g, o + i * 3 + 1, none⟩ = some (.int .i64 t.l) ∧ w.cell? ⟨g, o + i * 3 + 2, none⟩ = some (.int .i64 t.d))
theorem TRO.below {w w' : World} {v : Value} {ts : List Tok} (h : TRO w v ts) (hb : Below w.heap.size w w') : TRO w' v ts := by
  obtain ⟨a, cap, rfl, hc, hz, hf⟩ := h
  refine ⟨a, cap, rfl, hc, hz, fun hne => ?_⟩
  obtain ⟨g, o, rfl, hg, h3⟩ := hf hne
  refine ⟨g, o, rfl, Nat.lt_of_lt_of_le hg hb.size, fun i t ht => ?_⟩
  obtain ⟨x, y, z⟩ := h3 i t ht
  exact ⟨by rw [hb.cell (p := ⟨g, o + i * 3, none⟩) hg]; exact x, by rw [hb.cell (p := ⟨g, o + i * 3 + 1, none⟩) hg]; exact y, by rw [hb.cell (p := ⟨g, o + i * 3 + 2, none⟩) hg]; exact z⟩
theorem TRO.at {w : World} {a : Option Addr} {n cap : Nat} {ts : List Tok} (h : TRO w (.slice a n cap) ts) {i : Nat} {t : Tok} (hi : ts[i]? = some t) : ∃ g o, a = some ⟨g, o, none⟩ ∧ g < w.heap.size ∧ n = ts.length ∧ n ≤ cap ∧ w.cell? ⟨g, o + i * 3, none⟩ = some (.int .u8 (t.b : Int)) ∧ w.cell? ⟨g, o + i * 3 + 1, none⟩ = some (.int .i64 t.l) ∧ w.cell? ⟨g, o + i * 3 + 2, none⟩ = some (.int .i64 t.d) := by
  obtain ⟨a', cap', e, hc, hz, hf⟩ := h
  injection e with e1 e2 e3
  subst e1 e3
  obtain ⟨g, o, rfl, hg, h3⟩ := hf (fun q => by rw [q] at hi; simp at hi)
  exact ⟨g, o, rfl, hg, e2, by rw [e2]; exact hc, h3 i t hi⟩
theorem Tryz.infoSg : (Tryz.prog.info? 122).map (fun i => (i.zero, i.size, i.bytes)) = some (some (.agg sg0), 9, 72) := by kernel_rfl
theorem zeroSg (W : World) : (zeroValue 122).run Tryz.prog W = .ok (.agg sg0) W := by kernel_rfl
theorem zeroTk (W : World) : (zeroValue 96).run Tryz.prog W = .ok (.agg #[.int .u8 0, .int .i64 0, .int .i64 0]) W := by kernel_rfl
theorem sg_fill (s : Sgn) : Instr.fill (fun i => some (i * 9, 9)) ((Array.range (1 * 9)).map ((Value.agg sg0).cells[· % (Value.agg sg0).cells.size]!)) [(0, sgV s)] = some (sgC s).toArray := by
  kernel_rfl
theorem sg_build (s : Sgn) (W : World) : (Instr.buildSlice 67 1 #[(0, sgV s)]).run Tryz.prog W = .ok (.slice (some ⟨W.heap.size, 0, none⟩) 1 1) (W.alloc (.cells (sgC s).toArray 122)) := by
  obtain ⟨i0, hi, hz0, hz1, hz2⟩ := info_parts Tryz.infoSg
  exact run_buildSlice W 67 122 1 #[(0, sgV s)] (sgC s).toArray i0 (.agg sg0) Tryz.underlying67 hi hz0 (by rw [hz1]; decide) (by rw [hz1]; decide) (by rw [hz1]; exact sg_fill s)
/-- A slice literal of one value. -/
theorem build_one {P : Program} {ops : Array Oper} {rest : List Oper} {o : Oper} {a : Act} {w : World} {Q : Exit → Act → World → Prop} (hg : o.guard = none) (T : TypeId) (x : Operand) (ho : o.op = .buildSlice T 1 #[(0, x)]) (V : Value) (O : Obj) (hx : a.eval x = V)
    (hr : (Instr.buildSlice T 1 #[(0, V)]).run P w = .ok (.slice (some ⟨w.heap.size, 0, none⟩) 1 1) (w.alloc O))
    (h : wpList P ops Q rest (a.put o.dst (.slice (some ⟨w.heap.size, 0, none⟩) 1 1)) (w.alloc O)) : wpList P ops Q (o :: rest) a w := by
  refine wpList_plain hg fun K hK => ?_
  have hm : (#[(0, x)] : Array (Nat × Operand)).map (fun (i, x) => (i, a.eval x)) = #[(0, V)] := by simp [hx]
  unfold Oper.wp execOp
  simp only [ho, hm, Sem.run_bind, hr, Result.andThen_ok]
  exact hK _ _ h
theorem sg_shape {w : World} {B n : Nat} {v : Value} {xs : List Value} (h : w.ownsRow B 122 9 v n xs) : ∃ a c, v = .slice a n c := by
  rcases h.2 with ⟨rfl, h0⟩ | ⟨g', cap, cur, rfl, _⟩
  · exact ⟨none, 0, by rw [h0]⟩
  · exact ⟨_, cap, rfl⟩
def sgEnd : Sgn := ⟨256, prt0, false, 0, prt0⟩
def signsN (ts : List Tok) : List Sgn := ts.map sgT ++ [sgEnd]
theorem sg_new (w : World) (s : Sgn) : ∀ j u, (sgC s)[j]? = some u → (w.alloc (.cells (sgC s).toArray 122)).cell? ((⟨w.heap.size, 0, none⟩ : Addr).add j) = some u :=
  World.news_of_block (heap_alloc_new w _)
/-- What a token must be. -/
def TkIn (ts : List Tok) : Prop := ∀ t ∈ ts, isTok t = true ∧ t.b < 256
set_option maxRecDepth 100000 in
set_option maxHeartbeats 2000000 in
theorem signsOf_any (v : Value) (ts : List Tok) (w : World) (hT : TRO w v ts) (hk : TkIn ts) (hl : ts.length ≤ 100000) :
    Calls Tryz.prog 24 #[v] w fun e w' => ∃ v', e = .returned v' ∧ SgS w' v' (signsN ts) ∧ Below w.heap.size w w' := by
  obtain ⟨i0, hi, hz0, hz1, hz2⟩ := info_parts Tryz.infoSg
  have HT : Hid (TRO w v ts) := hT
  have HK : Hid (TkIn ts) := hk
  obtain ⟨a, cap, rfl, hcap, -, -⟩ := hT
  obtain ⟨n, hn⟩ : ∃ n, n = ts.length := ⟨_, rfl⟩
  have HN : Hid (n = ts.length) := hn
  rw [← hn] at HT hcap hl ⊢
  have hzt := zeroTk
  have hwn : IntKind.i64.wrap ((n : Int) + 1) = ((n + 1 : Nat) : Int) := by rw [IntKind.wrap_i64]; omega
  clear hn hk
  go_enter Tryz.func24, Tryz.ntmps24
  go_wp2_with (at_make; refine wpList_make_own _ rfl _ _ 67 rfl w.heap.size 122 i0 (.agg sg0) 9 Tryz.underlying67 hi hz0 hz1 .i64 .i64 _ (n + 1) rfl rfl (by omega) (by rw [hz2]; omega) (by unfold maxLen; omega) (Nat.le_refl _) ?_; intro w1 hown hgrow)
  have hb1 : Below w.heap.size w w1 := (Below.refl _ w).grown hgrow (Nat.le_refl _) (fun k hk => by cases hk)
  have HB1 : Hid (Below w.heap.size w w1) := hb1
  have HO1 : Hid (w1.ownsRow w.heap.size 122 9 (.slice (some ⟨w.heap.size, 0, none⟩) 0 (n + 1)) 0 (sgsC [])) := hown
  clear hb1 hown hgrow hwn
  go_loopw [12, 3] (fun i v wr => ∃ (k : Nat) (qa : Option Addr) (qc : Nat), k ≤ n ∧ i = .int .i64 (k : Int) ∧ v = .slice qa k qc ∧ wr.ownsRow w.heap.size 122 9 (.slice qa k qc) k (sgsC ((ts.take k).map sgT)) ∧ Below w.heap.size w wr) (fun i _ _ => n - (intOf i).toNat)
  case atStart => exact ⟨0, _, _, by omega, rfl, rfl, HO1.out, HB1.out⟩
  case round =>
    clear HB1 HO1
    obtain ⟨k, qa, qc, hk, rfl, rfl, hO, hB⟩ := hrel
    have HO : Hid (wr.ownsRow w.heap.size 122 9 (.slice qa k qc) k (sgsC ((ts.take k).map sgT))) := hO
    have HB : Hid (Below w.heap.size w wr) := hB
    have hsz := hB.size
    clear hO hB
    by_cases hlt : k < n
    · have hki : (k : Int) < (n : Int) := by omega
      obtain ⟨t, ht⟩ : ∃ t, ts[k]? = some t := ⟨_, List.getElem?_eq_getElem (by rw [← HN.out]; exact hlt)⟩
      obtain ⟨g, o, rfl, hg, -, hcap2, c0, c1, c2⟩ := (HT.out.below HB.out).at ht
      have HTK : Hid (sgsC ((ts.take (k + 1)).map sgT) = sgsC ((ts.take k).map sgT) ++ sgC (sgT t)) := by
        unfold Hid; rw [List.take_add_one, ht, List.map_append]; exact sgsC_snoc _ _
      have hkt := HK.out t (List.mem_of_getElem? ht)
      obtain ⟨W2, hW2⟩ : ∃ W2, W2 = wr.alloc (.cells #[.int .u8 (t.b : Int), .int .i64 t.l, .int .i64 t.d] 96) := ⟨_, rfl⟩
      have hb2 : Below wr.heap.size wr W2 := by rw [hW2]; exact (Below.refl _ _).alloc (Nat.le_refl _) _
      have hn2 : W2.heap[wr.heap.size]? = some (.cells #[.int .u8 (t.b : Int), .int .i64 t.l, .int .i64 t.d] 96 (0, 0)) := by rw [hW2]; exact heap_alloc_new wr _
      have HSG := signOf_any t W2 hkt.1 hkt.2
      have HB2 : Hid (Below w.heap.size w W2) := HB.out.trans (hb2.mono HB.out.size)
      have HO2 : Hid (W2.ownsRow w.heap.size 122 9 (.slice qa k qc) k (sgsC ((ts.take k).map sgT))) := by rw [hW2]; exact HO.out.alloc _
      have e0 : W2.cell? ⟨wr.heap.size, 0, none⟩ = some (.int .u8 (t.b : Int)) := by unfold World.cell?; rw [hn2]; rfl
      have e1 : W2.cell? ⟨wr.heap.size, 1, none⟩ = some (.int .i64 t.l) := by unfold World.cell?; rw [hn2]; rfl
      have e2 : W2.cell? ⟨wr.heap.size, 2, none⟩ = some (.int .i64 t.d) := by unfold World.cell?; rw [hn2]; rfl
      have hsw : wr.heap.size < W2.heap.size := (Array.getElem?_eq_some_iff.1 hn2).1
      have HW2 : Hid (wr.alloc (.cells #[.int .u8 (t.b : Int), .int .i64 t.l, .int .i64 t.d] 96) = W2) := hW2.symm
      clear hb2 hn2 hW2 ht hkt
      generalize sgT t = s at *
      obtain ⟨tb, tl, td⟩ := t
      simp only at c0 c1 c2 e0 e1 e2 HSG HW2
      go_upto_region 5 with fail
      rw [show wr.alloc (.cells #[.int .u8 (tb : Int), .int .i64 tl, .int .i64 td] 96) = W2 from HW2.out]
      clear c0 c1 c2 HW2
      go_wp2_with fail
      refine HSG.mono ?_
      rintro e w3 ⟨rfl, hb3⟩
      have HB3 : Hid (Below w.heap.size w w3) := HB2.out.trans (hb3.mono HB2.out.size)
      have HO3 : Hid (w3.ownsRow w.heap.size 122 9 (.slice qa k qc) k (sgsC ((ts.take k).map sgT))) := own_below HO2.out hb3
      have hs3 := HB3.out.size
      have HN3 : Hid (∀ j u, (sgC s)[j]? = some u → (w3.alloc (.cells (sgC s).toArray 122)).cell? ((⟨w3.heap.size, 0, none⟩ : Addr).add j) = some u) := sg_new w3 s
      clear hb3 e0 e1 e2 HSG
      have hbs := sg_build s
      go_wp2_with (first | (with_reducible refine build_one rfl 67 (Operand.tmp 18) rfl (sgV s) _ rfl (hbs _) ?_) | (at_builtin; refine wpList_append_own _ rfl _ _ 67 rfl w.heap.size 122 i0 (.agg sg0) 9 72 Tryz.underlying67 hi hz0 hz1 hz2 rfl (by decide) (.slice qa k qc) k _ rfl (HO3.out.alloc _) ⟨w3.heap.size, 0, none⟩ 1 1 (sgC s) rfl (sgC_len s) HN3.out (sgC_one s) (by unfold maxLen; omega) (by omega) (by rw [World.size_alloc]; omega) ?_; intro v8 w8 hown hg _))
      obtain ⟨a8, c8, rfl⟩ := sg_shape hown
      have HO8 : Hid (w8.ownsRow w.heap.size 122 9 (.slice a8 (k + 1) c8) (k + 1) (sgsC ((ts.take (k + 1)).map sgT))) := by unfold Hid; rw [HTK.out]; exact hown
      have HB8 : Hid (Below w.heap.size w w8) := (HB3.out.alloc hs3 _).grown hg (by rw [World.size_alloc]; omega) (fun r hr => (World.ownsRow.lt HO3.out r hr).1)
      clear hown hg hbs
      go_wp2
      go_roundw
      case rel => exact ⟨k + 1, a8, c8, by omega, by go_num, rfl, HO8.out, HB8.out⟩
      case measure => simp [intOf]; omega
    · have hki : ¬ (k : Int) < (n : Int) := by omega
      obtain rfl : k = n := by omega
      rw [List.take_of_length_le (by rw [← HN.out]; exact Nat.le_refl _)] at HO
      have HNE : Hid (∀ j u, (sgC sgEnd)[j]? = some u → (wr.alloc (.cells (sgC sgEnd).toArray 122)).cell? ((⟨wr.heap.size, 0, none⟩ : Addr).add j) = some u) := sg_new wr sgEnd
      have HSN : Hid (sgsC (signsN ts) = sgsC (ts.map sgT) ++ sgC sgEnd) := sgsC_snoc _ _
      have hzs := zeroSg
      go_wp2_with (at_builtin; refine wpList_append_own _ rfl _ _ 67 rfl w.heap.size 122 i0 (.agg sg0) 9 72 Tryz.underlying67 hi hz0 hz1 hz2 rfl (by decide) (.slice qa k qc) k _ rfl (HO.out.alloc _) ⟨wr.heap.size, 0, none⟩ 1 1 (sgC sgEnd) rfl (sgC_len sgEnd) HNE.out (sgC_one sgEnd) (by unfold maxLen; omega) (by omega) (by rw [World.size_alloc]; omega) ?_; intro v8 w8 hown hg _)
      obtain ⟨a8, c8, rfl⟩ := sg_shape hown
      have HO8 : Hid (SgS w8 (.slice a8 (k + 1) c8) (signsN ts)) := by unfold Hid; refine SgS.own (B := w.heap.size) (n := k + 1) ?_; rw [HSN.out]; exact hown
      have HB8 : Hid (Below w.heap.size w w8) := (HB.out.alloc hsz _).grown hg (by rw [World.size_alloc]; omega) (fun r hr => (World.ownsRow.lt HO.out r hr).1)
      clear hown hg
      go_wp2
      go_ret
      exact ⟨_, rfl, HO8.out, HB8.out⟩
end Go.Proofs.YtbknflckdbfogaaGreat
