/- deflate's body. -/
import Derived.Test.YtbknflckdbfogaaGreatQDSgs
import Derived.Test.YtbknflckdbfogaaGreatQDCut
import Derived.Test.YtbknflckdbfogaaGreatQTreeP
import Derived.Deep.RegionHeld3
import Derived.Maps.AppendAt
namespace Go.Proofs.YtbknflckdbfogaaGreat
open Go.RowKit
set_option linter.unusedVariables false
set_option linter.unusedSimpArgs false

/-- Parts in a row of one's own. -/
def PO (w : World) (B : Nat) (v : Value) (l : List Prt) : Prop := w.ownsRow B 120 3 v l.length (prsC l)
theorem PO.shape {w : World} {B : Nat} {v : Value} {l : List Prt} (h : PO w B v l) : ∃ a c, v = .slice a l.length c := by
  rcases h.2 with ⟨rfl, h0⟩ | ⟨g', cap, cur, rfl, _⟩
  · exact ⟨none, 0, by rw [h0]⟩
  · exact ⟨_, cap, rfl⟩
theorem PO.below {w w' : World} {B : Nat} {v : Value} {l : List Prt} (h : PO w B v l) (hb : Below w.heap.size w w') : PO w' B v l := own_below h hb
theorem PO.base {w : World} {B B' : Nat} {v : Value} {l : List Prt} (h : PO w B v l) (hB : B' ≤ B) : PO w B' v l := by
  refine ⟨h.1, ?_⟩
  rcases h.2 with h | ⟨g, cap, cur, h1, h2, h3⟩
  · exact .inl h
  · exact .inr ⟨g, cap, cur, h1, Nat.le_trans hB h2, h3⟩
theorem PO.nil (w : World) (B : Nat) : PO w B (.slice none 0 0) [] := ⟨rfl, .inl ⟨rfl, rfl⟩⟩
theorem PO.ps {w : World} {B : Nat} {v : Value} {l : List Prt} (h : PO w B v l) : PS w v l := PS.own h
theorem prC_one (p : Prt) : ∀ v ∈ prC p, v.oneCell' = true := by
  intro v hv
  simp only [prC, List.mem_cons, List.not_mem_nil, or_false] at hv
  rcases hv with rfl | rfl | rfl <;> rfl
theorem prsC_one (l : List Prt) : ∀ v ∈ prsC l, v.oneCell' = true := by
  intro v hv
  obtain ⟨x, _, hx⟩ := List.mem_flatMap.1 hv
  exact prC_one x v hx
theorem prsC_app (l m : List Prt) : prsC (l ++ m) = prsC l ++ prsC m := by simp [prsC]
theorem prsB_app (l m : List Prt) : prsB (l ++ m) = prsB l ++ prsB m := by simp [prsB]
theorem Tryz.infoPr : (Tryz.prog.info? 120).map (fun i => (i.zero, i.size, i.bytes)) = some (some (.agg #[.int .u32 0, .int .i64 0, .bool false]), 3, 24) := by kernel_rfl
/-- append(s, p, q). -/
theorem run_append_two {w : World} (x : TypeId) {B : Nat} {v : Value} {l : List Prt} (p q : Prt) (hO : PO w B v l) (hl : l.length + 2 ≤ 1000000) (hB : B ≤ w.heap.size) :
    ∃ a' c' w', (Builtin.append_ #[69, 69] x #[v, .slice (some ⟨w.heap.size, 0, none⟩) 2 2]).run Tryz.prog (w.alloc (.cells (prC p ++ prC q).toArray 120)) = .ok (.slice a' (l.length + 2) c') w' ∧ PO w' B (.slice a' (l.length + 2) c') (l ++ [p, q]) ∧ w.grownBy w' v.ownBlock := by
  obtain ⟨i0, hi, hz0, hz1, hz2⟩ := info_parts Tryz.infoPr
  have hb : Below w.heap.size w (w.alloc (.cells (prC p ++ prC q).toArray 120)) := (Below.refl _ _).alloc (Nat.le_refl _) _
  have e : prsC [p, q] = prC p ++ prC q := by simp [prsC]
  have hN : ∀ j u, (prsC [p, q])[j]? = some u → (w.alloc (.cells (prC p ++ prC q).toArray 120)).cell? ((⟨w.heap.size, 0, none⟩ : Addr).add j) = some u := by
    rw [e]; exact World.news_of_block (heap_alloc_new w _)
  obtain ⟨v', w', hr, hown, hgr, _⟩ := run_append_own_at (P := Tryz.prog) (w.alloc (.cells (prC p ++ prC q).toArray 120)) B 69 x 120 i0 (.agg #[.int .u32 0, .int .i64 0, .bool false]) 3 24 Tryz.underlying69 hi hz0 hz1 hz2 rfl (by decide) v _ _ (hO.below hb) ⟨w.heap.size, 0, none⟩ 2 2 (prsC [p, q]) (prsC_len [p, q]) hN (prsC_one _) (by unfold maxLen; omega) (by omega) (by rw [World.size_alloc]; omega)
  have hO' : PO w' B v' (l ++ [p, q]) := by unfold PO; rw [prsC_app, List.length_append]; exact hown
  obtain ⟨a', c', rfl⟩ := hO'.shape
  have e2 : (l ++ [p, q]).length = l.length + 2 := by simp
  rw [e2] at hO' hr
  exact ⟨a', c', w', hr, hO', gtrans (gbelow hb) hgr⟩
theorem step_append_two {w : World} {ops : Array Oper} {o : Oper} {a : Act} {K : Act → World → Prop} {Q : Exit → Act → World → Prop} {E : Prop} (hgd : o.guard = none) (s x : Operand)
    (ho : o.op = .call { callee := .builtin .append, args := #[s, x], argTypes := #[69, 69] })
    (B : Nat) (v : Value) (l : List Prt) (p q : Prt) (hs : a.eval s = v) (hx : a.eval x = .slice (some ⟨w.heap.size, 0, none⟩) 2 2) (hO : PO w B v l) (hl : l.length + 2 ≤ 1000000) (hB : B ≤ w.heap.size)
    (h : ∀ a' cap' w', PO w' B (.slice a' (l.length + 2) cap') (l ++ [p, q]) → w.grownBy w' v.ownBlock → K (a.put o.dst (.slice a' (l.length + 2) cap')) w') :
    if Region.wanted o (yielded ops a.tmps) = true then Oper.wp Tryz.prog o a (w.alloc (.cells #[.int .u32 (p.b : Int), .int .i64 (p.c : Int), .bool p.code, .int .u32 (q.b : Int), .int .i64 (q.c : Int), .bool q.code] 120)) K Q else E := by
  have hw : Region.wanted o (yielded ops a.tmps) = true := by simp [Region.wanted, hgd]
  rw [if_pos hw]
  obtain ⟨a', cap', w', hr, h2, h3⟩ := run_append_two o.type p q hO hl hB
  have hr' : (Builtin.append_ #[69, 69] o.type #[v, .slice (some ⟨w.heap.size, 0, none⟩) 2 2]).run Tryz.prog (w.alloc (.cells #[.int .u32 (p.b : Int), .int .i64 (p.c : Int), .bool p.code, .int .u32 (q.b : Int), .int .i64 (q.c : Int), .bool q.code] 120)) = .ok (.slice a' (l.length + 2) cap') w' := hr
  unfold Oper.wp execOp
  simp only [ho, resolve, invoke, builtin, Sem.run_bind, Sem.run_pure, Result.andThen_ok, List.map_toArray, List.map_cons, List.map_nil, hs, hx, hr']
  exact h a' cap' w' h2 h3
/-- What a sign becomes. -/
def bodyP (ls ds : List Nat) (s : Sgn) : List Prt := if s.rep then [⟨cdOf ls s.sym, ln ls s.sym, true⟩, s.more, ⟨cdOf ds s.far, ln ds s.far, true⟩, s.fmore] else [⟨cdOf ls s.sym, ln ls s.sym, true⟩, s.more]
def bodyPs (ls ds : List Nat) (l : List Sgn) : List Prt := l.flatMap (bodyP ls ds)
theorem bodyP_len (ls ds : List Nat) (s : Sgn) : (bodyP ls ds s).length ≤ 4 := by unfold bodyP; split <;> simp
theorem bodyPs_len (ls ds : List Nat) : ∀ l, (bodyPs ls ds l).length ≤ 4 * l.length
  | [] => Nat.zero_le _
  | s :: l => by
    have := bodyPs_len ls ds l
    have := bodyP_len ls ds s
    unfold bodyPs at *
    rw [List.flatMap_cons, List.length_append, List.length_cons]; omega
theorem bodyPs_snoc (ls ds : List Nat) (l : List Sgn) (s : Sgn) : bodyPs ls ds (l ++ [s]) = bodyPs ls ds l ++ bodyP ls ds s := by simp [bodyPs]
set_option maxRecDepth 100000 in
set_option maxHeartbeats 4000000 in
theorem dbody_any (v vs vf : Value) (l : List Sgn) (zs fs : List Int) (w : World) (hS : SgS w v l) (hs : IQ w vs zs) (hf : IQ w vf fs) (es : errN zs = 0) (ef : errN fs = 0) (hl : l.length ≤ 10000)
    (hk : ∀ s ∈ l, s.sym < zs.length ∧ (s.rep = true → s.far < fs.length)) :
    Calls Tryz.prog 51 #[v, vs, vf] w fun e w' => ∃ v', e = .returned v' ∧ PO w' w.heap.size v' (bodyPs (toN zs) (toN fs) l) ∧ Below w.heap.size w w' := by
  have HSG : Hid (SgS w v l) := hS
  have HK : Hid (∀ s ∈ l, s.sym < zs.length ∧ (s.rep = true → s.far < fs.length)) := hk
  have HC1 := dcodesOf_any vs zs w hs es
  have HC2 : Hid (∀ W, Below w.heap.size w W → Calls Tryz.prog 79 #[vf] W fun e w' => e = .returned (.slice (some ⟨W.heap.size, 0, none⟩) fs.length fs.length) ∧ CR w' W.heap.size fs.length (cdOf (toN fs)) (ln (toN fs)) ∧ Below W.heap.size W w') := fun W hW => dcodesOf_any vf fs W (hf.below hW) ef
  obtain ⟨a, cap, rfl, hcap, -⟩ := hS
  obtain ⟨n, hn⟩ : ∃ n, n = l.length := ⟨_, rfl⟩
  have HN : Hid (n = l.length) := hn
  rw [← hn] at HSG hcap hl ⊢
  have hzsz : zs.length ≤ 320 := (errN_zero es).1
  have hfsz : fs.length ≤ 320 := (errN_zero ef).1
  obtain ⟨zn, hzn⟩ : ∃ zn, zn = zs.length := ⟨_, rfl⟩
  obtain ⟨fn, hfn⟩ : ∃ fn, fn = fs.length := ⟨_, rfl⟩
  rw [← hzn] at HC1 HK hzsz
  rw [← hfn] at HC2 HK hfsz
  obtain ⟨gs, os, cs, rfl, -, -⟩ := hs
  obtain ⟨gf, of, cf, rfl, -, -⟩ := hf
  rw [← hzn] at HC1 ⊢
  rw [← hfn] at HC2 ⊢
  generalize toN zs = ls at *
  generalize toN fs = ds at *
  clear hn hk es ef hzn hfn
  go_enter Tryz.func51, Tryz.ntmps51
  go_wp2_with fail
  refine HC1.mono ?_
  rintro e w1 ⟨rfl, hc1, hb1⟩
  have HB1 : Hid (Below w.heap.size w w1) := hb1
  have HCR1 : Hid (CR w1 w.heap.size zn (cdOf ls) (ln ls)) := hc1
  have hw1 := hc1.lt
  clear hb1 hc1 HC1
  go_wp2_with fail
  refine (HC2.out w1 HB1.out).mono ?_
  rintro e w2 ⟨rfl, hc2, hb2⟩
  have HB2 : Hid (Below w.heap.size w w2) := HB1.out.trans (hb2.mono HB1.out.size)
  have HCR2 : Hid (CR w2 w1.heap.size fn (cdOf ds) (ln ds)) := hc2
  have HCR3 : Hid (CR w2 w.heap.size zn (cdOf ls) (ln ls)) := HCR1.out.since hb2
  have hw2 := hc2.lt
  have hw3 := HCR3.out.lt
  have hs2 := HB2.out.size
  clear hb2 hc2 HC2 HCR1
  have hzg := zeroSg
  have hz9 : (Tryz.prog.info? 122).map (·.size) = some 9 := by kernel_rfl
  have HZ9 : Hid ((Tryz.prog.info? 122).map (·.size) = some 9) := hz9
  clear hz9
  go_wp2
  go_loopw [18, 9] (fun i o wr => ∃ (k q : Nat) (qa : Option Addr) (qc : Nat), k ≤ n ∧ i = .int .i64 (k : Int) ∧ o = .slice qa q qc ∧ Hid (q = (bodyPs ls ds (l.take k)).length) ∧ PO wr w2.heap.size (.slice qa q qc) (bodyPs ls ds (l.take k)) ∧ Below w2.heap.size w2 wr) (fun i _ _ => n - (intOf i).toNat)
  case atStart => exact ⟨0, 0, none, 0, Nat.zero_le _, rfl, rfl, rfl, PO.nil _ _, Below.refl _ _⟩
  case round =>
    obtain ⟨k, q, qa, qc, hk, rfl, rfl, HQ, hO, hb⟩ := hrel
    have HO : Hid (PO wr w2.heap.size (.slice qa q qc) (bodyPs ls ds (l.take k))) := hO
    have HB : Hid (Below w2.heap.size w2 wr) := hb
    have hsr := hb.size
    clear hO hb
    by_cases hlt : k < n
    · have hki : (k : Int) < (n : Int) := by omega
      obtain ⟨s, hs⟩ : ∃ s, l[k]? = some s := ⟨_, List.getElem?_eq_getElem (by rw [← HN.out]; exact hlt)⟩
      obtain ⟨g, rfl, hg, -, hcap2, hrg⟩ := (HSG.out.below (HB2.out.trans (HB.out.mono hs2))).at hs
      have HRG : Hid (wr.rangeAt g (k * 9) (sgC s)) := hrg
      have HTK : Hid (bodyPs ls ds (l.take (k + 1)) = bodyPs ls ds (l.take k) ++ bodyP ls ds s) := by
        unfold Hid; rw [List.take_add_one, hs]; exact bodyPs_snoc _ _ _ _
      have hsk := HK.out s (List.mem_of_getElem? hs)
      have HBL : Hid ((bodyPs ls ds (l.take k)).length ≤ 4 * k) := by
        unfold Hid
        have := bodyPs_len ls ds (l.take k)
        rw [List.length_take] at this; omega
      clear hrg hs
      go_upto_region 6 with (first | (refine wpList_load_mid rfl 122 (Operand.tmp 20) rfl g (k * 9) rfl (sgC s) _ HRG.out Tryz.underlying122 rfl HZ9.out ?_) | (refine wpList_store_row rfl 122 (Operand.tmp 11) (Operand.tmp 21) rfl wr.heap.size (sgC s).toArray rfl rfl 122 sg0 (heap_alloc_new wr _) HZ9.out rfl (all_oneCell_toArray (sgC_one s)) ?_))
      have hpn : ∀ a : Act, a.put none undef = a := fun _ => rfl
      rw [hpn]
      obtain ⟨W3, hW3⟩ : ∃ W3, W3 = (wr.alloc (.cells sg0 122)).setRow wr.heap.size (sgC s).toArray := ⟨_, rfl⟩
      rw [← hW3]
      have hs3 : W3.heap[wr.heap.size]? = some (.cells (sgC s).toArray 122 (0, 0)) := by rw [hW3]; exact setRow_heap _ _ _ _ _ _ (heap_alloc_new wr _)
      have hb3 : Below wr.heap.size wr W3 := by rw [hW3]; exact below_setRow ((Below.refl _ _).alloc (Nat.le_refl _) _) (Nat.le_refl _) _
      have HB3 : Hid (Below w2.heap.size w2 W3) := HB.out.trans (hb3.mono hsr)
      have HO3 : Hid (PO W3 w2.heap.size (.slice qa q qc) (bodyPs ls ds (l.take k))) := HO.out.below hb3
      have hc3 := HCR3.out.cell (i := s.sym * 2) (by omega)
      have hc4 := HCR3.out.cell (i := s.sym * 2 + 1) (by omega)
      rw [codeF_even] at hc3
      rw [codeF_odd] at hc4
      have hsz3 : wr.heap.size < W3.heap.size := (Array.getElem?_eq_some_iff.1 hs3).1
      have hwz : w.heap.size < W3.heap.size := Nat.lt_of_lt_of_le hw3 HB3.out.size
      have HSB : Hid (∀ W : World, W.heap[wr.heap.size]? = W3.heap[wr.heap.size]? → W.heap[w.heap.size]? = W3.heap[w.heap.size]? → W.cell? ⟨wr.heap.size, 0, none⟩ = some (.int .i64 (s.sym : Int)) ∧ W.cell? ⟨wr.heap.size, 1, none⟩ = some (.int .u32 (s.more.b : Int)) ∧ W.cell? ⟨wr.heap.size, 2, none⟩ = some (.int .i64 (s.more.c : Int)) ∧ W.cell? ⟨wr.heap.size, 3, none⟩ = some (.bool s.more.code) ∧ W.cell? ⟨w.heap.size, s.sym * 2, none⟩ = some (.int .u32 (cdOf ls s.sym : Int)) ∧ W.cell? ⟨w.heap.size, s.sym * 2 + 1, none⟩ = some (.int .i64 (ln ls s.sym : Int))) := fun W h1 h2 => by
        have h := h1.trans hs3
        have hcc := h2.trans (HB3.out.block _ hw3)
        refine ⟨?_, ?_, ?_, ?_, ?_, ?_⟩
        · rw [cell_of_row _ _ _ _ _ _ h]; rfl
        · rw [cell_of_row _ _ _ _ _ _ h]; rfl
        · rw [cell_of_row _ _ _ _ _ _ h]; rfl
        · rw [cell_of_row _ _ _ _ _ _ h]; rfl
        · have : W.cell? ⟨w.heap.size, s.sym * 2, none⟩ = w2.cell? ⟨w.heap.size, s.sym * 2, none⟩ := by unfold World.cell?; rw [hcc]
          rw [this]; exact hc3
        · have : W.cell? ⟨w.heap.size, s.sym * 2 + 1, none⟩ = w2.cell? ⟨w.heap.size, s.sym * 2 + 1, none⟩ := by unfold World.cell?; rw [hcc]
          rw [this]; exact hc4
      have HS3 : Hid (∀ W, Below W3.heap.size W3 W → W.cell? ⟨wr.heap.size, 0, none⟩ = some (.int .i64 (s.sym : Int)) ∧ W.cell? ⟨wr.heap.size, 1, none⟩ = some (.int .u32 (s.more.b : Int)) ∧ W.cell? ⟨wr.heap.size, 2, none⟩ = some (.int .i64 (s.more.c : Int)) ∧ W.cell? ⟨wr.heap.size, 3, none⟩ = some (.bool s.more.code) ∧ W.cell? ⟨w.heap.size, s.sym * 2, none⟩ = some (.int .u32 (cdOf ls s.sym : Int)) ∧ W.cell? ⟨w.heap.size, s.sym * 2 + 1, none⟩ = some (.int .i64 (ln ls s.sym : Int))) := fun W hW => HSB.out W (hW.block _ hsz3) (hW.block _ hwz)
      have hne : ∀ g', (Value.slice qa q qc).ownBlock = some g' → w2.heap.size ≤ g' ∧ g' < wr.heap.size := fun g' h => World.ownsRow.lt HO.out g' h
      have HS7 : Hid (∀ W W' : World, Below W3.heap.size W3 W → W.grownBy W' (Value.slice qa q qc).ownBlock → W'.cell? ⟨wr.heap.size, 0, none⟩ = some (.int .i64 (s.sym : Int)) ∧ W'.cell? ⟨wr.heap.size, 1, none⟩ = some (.int .u32 (s.more.b : Int)) ∧ W'.cell? ⟨wr.heap.size, 2, none⟩ = some (.int .i64 (s.more.c : Int)) ∧ W'.cell? ⟨wr.heap.size, 3, none⟩ = some (.bool s.more.code) ∧ W'.cell? ⟨w.heap.size, s.sym * 2, none⟩ = some (.int .u32 (cdOf ls s.sym : Int)) ∧ W'.cell? ⟨w.heap.size, s.sym * 2 + 1, none⟩ = some (.int .i64 (ln ls s.sym : Int))) := fun W W' hW hg => HSB.out W' ((hg.block _ (Nat.lt_of_lt_of_le hsz3 hW.size) (fun e => by have := (hne _ e.symm).2; omega)).trans (hW.block _ hsz3)) ((hg.block _ (Nat.lt_of_lt_of_le hwz hW.size) (fun e => by have := (hne _ e.symm).1; omega)).trans (hW.block _ hwz))
      have HS8 : Hid (∀ W W' : World, Below W3.heap.size W3 W → W.grownBy W' (Value.slice qa q qc).ownBlock → W'.heap[wr.heap.size]? = some (.cells (sgC s).toArray 122 (0, 0))) := fun W W' hW hg => ((hg.block _ (Nat.lt_of_lt_of_le hsz3 hW.size) (fun e => by have := (hne _ e.symm).2; omega)).trans (hW.block _ hsz3)).trans hs3
      have HB7F : Hid (∀ W W' : World, Below W3.heap.size W3 W → W.grownBy W' (Value.slice qa q qc).ownBlock → Below w2.heap.size w2 W') := fun W W' hW hg => (HB3.out.trans (hW.mono HB3.out.size)).grown hg (Nat.le_trans HB3.out.size hW.size) (fun j hj => (hne j hj).1)
      have HBL3 : Hid ((bodyPs ls ds (l.take k)).length + 2 ≤ 1000000) := by have := HBL.out; unfold Hid; omega
      have hsym : s.sym < zn := hsk.1
      have hch0 : Below W3.heap.size W3 W3.drew := (Below.refl _ _).drew
      have hS0 := HS3.out _ hch0
      have HCP := fun W => codePart_any (cdOf ls s.sym) (ln ls s.sym) W
      have HPP : Hid (∀ W, Calls Tryz.prog 80 #[.agg #[.int .u32 (cdOf ls s.sym : Int), .int .i64 (ln ls s.sym : Int)]] W fun e w' => e = .returned (pv ⟨cdOf ls s.sym, ln ls s.sym, true⟩) ∧ Below W.heap.size W w') := HCP
      obtain ⟨S, hS⟩ : ∃ S, S = wr.heap.size := ⟨_, rfl⟩
      clear hW3 hb3 hc3 hc4 HCP hne
      unfold pv at HPP
      go_region_held3 (fun W : World => W.cell? ⟨wr.heap.size, 0, none⟩ = some (.int .i64 (s.sym : Int)) ∧ W.cell? ⟨wr.heap.size, 1, none⟩ = some (.int .u32 (s.more.b : Int)) ∧ W.cell? ⟨wr.heap.size, 2, none⟩ = some (.int .i64 (s.more.c : Int)) ∧ W.cell? ⟨wr.heap.size, 3, none⟩ = some (.bool s.more.code) ∧ W.cell? ⟨w.heap.size, s.sym * 2, none⟩ = some (.int .u32 (cdOf ls s.sym : Int)) ∧ W.cell? ⟨w.heap.size, s.sym * 2 + 1, none⟩ = some (.int .i64 (ln ls s.sym : Int))) (first | exact hS0 | exact HS3.out _ hb5 | exact HS3.out _ (hb6 _) | exact HS7.out _ _ hb5 hg7 | assumption | go_keep) (first | (go_at_call 80; refine (HPP.out _).mono ?_; rintro e w5 ⟨rfl, hb5'⟩; have hb5 : Below W3.heap.size W3 w5 := hch0.trans (hb5'.mono hch0.size); have HO5 : Hid (PO w5 w2.heap.size (.slice qa q qc) (bodyPs ls ds (l.take k))) := HO3.out.below hb5; have hb6 : ∀ o, Below W3.heap.size W3 (w5.alloc o) := fun o => hb5.alloc hb5.size o; have HLE5 : Hid (w2.heap.size ≤ w5.heap.size) := Nat.le_trans HB3.out.size hb5.size) | (refine step_append_two (by rfl) _ _ (by rfl) w2.heap.size (.slice qa q qc) (bodyPs ls ds (l.take k)) ⟨cdOf ls s.sym, ln ls s.sym, true⟩ s.more (by rfl) (by rfl) HO5.out HBL3.out HLE5.out ?_; intro a' c' w7 hO7 hg7))
      have HB7 : Hid (Below w2.heap.size w2 w7) := HB7F.out w5 w7 hb5 hg7
      have h7S : w7.heap[wr.heap.size]? = some (.cells (sgC s).toArray 122 (0, 0)) := HS8.out w5 w7 hb5 hg7
      have hsz7 : wr.heap.size < w7.heap.size := (Array.getElem?_eq_some_iff.1 h7S).1
      have HO7 : Hid (PO w7 w2.heap.size (.slice a' ((bodyPs ls ds (l.take k)).length + 2) c') (bodyPs ls ds (l.take k) ++ [⟨cdOf ls s.sym, ln ls s.sym, true⟩, s.more])) := hO7
      have d4 : w7.cell? ⟨wr.heap.size, 4, none⟩ = some (.bool s.rep) := by rw [cell_of_row _ _ _ _ _ _ h7S]; rfl
      have HH7 : Hid (w7.heap[wr.heap.size]? = some (.cells (sgC s).toArray 122 (0, 0))) := h7S
      have hfr := hsk.2
      have HFR : Hid (s.rep = true → s.far < fn) := hfr
      have hs27 := HB7.out.size
      have HLQ : Hid ((bodyPs ls ds (l.take k) ++ [⟨cdOf ls s.sym, ln ls s.sym, true⟩, s.more]).length = (bodyPs ls ds (l.take k)).length + 2) := by unfold Hid; simp
      have HBP0 : Hid (s.rep = false → bodyP ls ds s = [⟨cdOf ls s.sym, ln ls s.sym, true⟩, s.more]) := fun h => by unfold bodyP; rw [h]; rfl
      have HBP1 : Hid (s.rep = true → bodyP ls ds s = [⟨cdOf ls s.sym, ln ls s.sym, true⟩, s.more] ++ [⟨cdOf ds s.far, ln ds s.far, true⟩, s.fmore]) := fun h => by unfold bodyP; rw [h]; rfl
      clear hO7 hg7 hb5 hb5' hb6 h7S hS0 hch0 hS hsk hfr
      obtain ⟨L7, hL7⟩ : ∃ L7, L7 = bodyPs ls ds (l.take k) ++ [⟨cdOf ls s.sym, ln ls s.sym, true⟩, s.more] := ⟨_, rfl⟩
      have HL7E : Hid (bodyPs ls ds (l.take k) ++ [⟨cdOf ls s.sym, ln ls s.sym, true⟩, s.more] = L7) := hL7.symm
      rw [← hL7] at HO7 HLQ
      clear hL7
      have HLk : Hid ((bodyPs ls ds (l.take k)).length + 2 = L7.length) := HLQ.out.symm
      have HL7 : Hid (L7.length + 2 ≤ 1000000) := by have := HBL.out; have := HLQ.out; unfold Hid; omega
      clear HS3 HSB HS7 HS8 HB7F HPP HBL3 HO3 HRG
      by_cases hr : s.rep = true
      · have HEQ : Hid (bodyPs ls ds (l.take (k + 1)) = L7 ++ [⟨cdOf ds s.far, ln ds s.far, true⟩, s.fmore]) := by
          unfold Hid; rw [HTK.out, HBP1.out hr, ← List.append_assoc, HL7E.out]
        have hfar : s.far < fn := HFR.out hr
        rw [hr] at d4
        go_upto_region 8 with fail
        clear d4
        have hc3 := HCR2.out.cell (i := s.far * 2) (by omega)
        have hc4 := HCR2.out.cell (i := s.far * 2 + 1) (by omega)
        rw [codeF_even] at hc3
        rw [codeF_odd] at hc4
        have hwz : w1.heap.size < w7.heap.size := Nat.lt_of_lt_of_le hw2 hs27
        have HSB : Hid (∀ W : World, W.heap[wr.heap.size]? = w7.heap[wr.heap.size]? → W.heap[w1.heap.size]? = w7.heap[w1.heap.size]? → W.cell? ⟨wr.heap.size, 5, none⟩ = some (.int .i64 (s.far : Int)) ∧ W.cell? ⟨wr.heap.size, 6, none⟩ = some (.int .u32 (s.fmore.b : Int)) ∧ W.cell? ⟨wr.heap.size, 7, none⟩ = some (.int .i64 (s.fmore.c : Int)) ∧ W.cell? ⟨wr.heap.size, 8, none⟩ = some (.bool s.fmore.code) ∧ W.cell? ⟨w1.heap.size, s.far * 2, none⟩ = some (.int .u32 (cdOf ds s.far : Int)) ∧ W.cell? ⟨w1.heap.size, s.far * 2 + 1, none⟩ = some (.int .i64 (ln ds s.far : Int))) := fun W h1 h2 => by
          have h := h1.trans HH7.out
          have hcc := h2.trans (HB7.out.block _ hw2)
          refine ⟨?_, ?_, ?_, ?_, ?_, ?_⟩
          · rw [cell_of_row _ _ _ _ _ _ h]; rfl
          · rw [cell_of_row _ _ _ _ _ _ h]; rfl
          · rw [cell_of_row _ _ _ _ _ _ h]; rfl
          · rw [cell_of_row _ _ _ _ _ _ h]; rfl
          · have : W.cell? ⟨w1.heap.size, s.far * 2, none⟩ = w2.cell? ⟨w1.heap.size, s.far * 2, none⟩ := by unfold World.cell?; rw [hcc]
            rw [this]; exact hc3
          · have : W.cell? ⟨w1.heap.size, s.far * 2 + 1, none⟩ = w2.cell? ⟨w1.heap.size, s.far * 2 + 1, none⟩ := by unfold World.cell?; rw [hcc]
            rw [this]; exact hc4
        have HS3 : Hid (∀ W, Below w7.heap.size w7 W → W.cell? ⟨wr.heap.size, 5, none⟩ = some (.int .i64 (s.far : Int)) ∧ W.cell? ⟨wr.heap.size, 6, none⟩ = some (.int .u32 (s.fmore.b : Int)) ∧ W.cell? ⟨wr.heap.size, 7, none⟩ = some (.int .i64 (s.fmore.c : Int)) ∧ W.cell? ⟨wr.heap.size, 8, none⟩ = some (.bool s.fmore.code) ∧ W.cell? ⟨w1.heap.size, s.far * 2, none⟩ = some (.int .u32 (cdOf ds s.far : Int)) ∧ W.cell? ⟨w1.heap.size, s.far * 2 + 1, none⟩ = some (.int .i64 (ln ds s.far : Int))) := fun W hW => HSB.out W (hW.block _ hsz7) (hW.block _ hwz)
        have hne : ∀ g', (Value.slice a' ((bodyPs ls ds (l.take k)).length + 2) c').ownBlock = some g' → w2.heap.size ≤ g' := fun g' h => (World.ownsRow.lt HO7.out g' h).1
        have hne2 : (Value.slice a' ((bodyPs ls ds (l.take k)).length + 2) c').ownBlock ≠ some wr.heap.size := fun e => own_ne HO7.out HH7.out (by decide) e.symm
        have HS7 : Hid (∀ W W' : World, Below w7.heap.size w7 W → W.grownBy W' (Value.slice a' ((bodyPs ls ds (l.take k)).length + 2) c').ownBlock → W'.cell? ⟨wr.heap.size, 5, none⟩ = some (.int .i64 (s.far : Int)) ∧ W'.cell? ⟨wr.heap.size, 6, none⟩ = some (.int .u32 (s.fmore.b : Int)) ∧ W'.cell? ⟨wr.heap.size, 7, none⟩ = some (.int .i64 (s.fmore.c : Int)) ∧ W'.cell? ⟨wr.heap.size, 8, none⟩ = some (.bool s.fmore.code) ∧ W'.cell? ⟨w1.heap.size, s.far * 2, none⟩ = some (.int .u32 (cdOf ds s.far : Int)) ∧ W'.cell? ⟨w1.heap.size, s.far * 2 + 1, none⟩ = some (.int .i64 (ln ds s.far : Int))) := fun W W' hW hg => HSB.out W' ((hg.block _ (Nat.lt_of_lt_of_le hsz7 hW.size) (fun e => hne2 e.symm)).trans (hW.block _ hsz7)) ((hg.block _ (Nat.lt_of_lt_of_le hwz hW.size) (fun e => by have := hne _ e.symm; omega)).trans (hW.block _ hwz))
        have HB7F : Hid (∀ W W' : World, Below w7.heap.size w7 W → W.grownBy W' (Value.slice a' ((bodyPs ls ds (l.take k)).length + 2) c').ownBlock → Below w2.heap.size w2 W') := fun W W' hW hg => (HB7.out.trans (hW.mono HB7.out.size)).grown hg (Nat.le_trans HB7.out.size hW.size) (fun j hj => hne j hj)
        have hch0 : Below w7.heap.size w7 w7.drew := (Below.refl _ _).drew
        have hS0 := HS3.out _ hch0
        have HPP : Hid (∀ W, Calls Tryz.prog 80 #[.agg #[.int .u32 (cdOf ds s.far : Int), .int .i64 (ln ds s.far : Int)]] W fun e w' => e = .returned (pv ⟨cdOf ds s.far, ln ds s.far, true⟩) ∧ Below W.heap.size W w') := fun W => codePart_any (cdOf ds s.far) (ln ds s.far) W
        unfold pv at HPP
        have HOX : Hid (PO w7 w2.heap.size (.slice a' ((bodyPs ls ds (l.take k)).length + 2) c') L7) := HO7.out
        clear hc3 hc4 hne hne2
        go_region_held3 (fun W : World => W.cell? ⟨wr.heap.size, 5, none⟩ = some (.int .i64 (s.far : Int)) ∧ W.cell? ⟨wr.heap.size, 6, none⟩ = some (.int .u32 (s.fmore.b : Int)) ∧ W.cell? ⟨wr.heap.size, 7, none⟩ = some (.int .i64 (s.fmore.c : Int)) ∧ W.cell? ⟨wr.heap.size, 8, none⟩ = some (.bool s.fmore.code) ∧ W.cell? ⟨w1.heap.size, s.far * 2, none⟩ = some (.int .u32 (cdOf ds s.far : Int)) ∧ W.cell? ⟨w1.heap.size, s.far * 2 + 1, none⟩ = some (.int .i64 (ln ds s.far : Int))) (first | exact hS0 | exact HS3.out _ hb8 | exact HS3.out _ (hb9 _) | exact HS7.out _ _ hb8 hg9 | assumption | go_keep) (first | (go_at_call 80; refine (HPP.out _).mono ?_; rintro e w8 ⟨rfl, hb8'⟩; have hb8 : Below w7.heap.size w7 w8 := hch0.trans (hb8'.mono hch0.size); have HO8 : Hid (PO w8 w2.heap.size (.slice a' ((bodyPs ls ds (l.take k)).length + 2) c') L7) := HOX.out.below hb8; have hb9 : ∀ o, Below w7.heap.size w7 (w8.alloc o) := fun o => hb8.alloc hb8.size o; have HLE8 : Hid (w2.heap.size ≤ w8.heap.size) := Nat.le_trans HB7.out.size hb8.size) | (refine step_append_two (by rfl) _ _ (by rfl) w2.heap.size (.slice a' ((bodyPs ls ds (l.take k)).length + 2) c') L7 ⟨cdOf ds s.far, ln ds s.far, true⟩ s.fmore (by rfl) (by rfl) HO8.out HL7.out HLE8.out ?_; intro a9 c9 w9 hO9 hg9))
        have HB9 : Hid (Below w2.heap.size w2 w9) := HB7F.out w8 w9 hb8 hg9
        have HO9 : Hid (PO w9 w2.heap.size (.slice a9 (L7.length + 2) c9) (bodyPs ls ds (l.take (k + 1)))) := by unfold Hid; rw [HEQ.out]; exact hO9
        have HQ9 : Hid (L7.length + 2 = (bodyPs ls ds (l.take (k + 1))).length) := by unfold Hid; rw [HEQ.out]; simp
        clear hO9 hg9 hb8 hb8' hb9 hS0 hch0
        go_wp2
        go_roundw
        case rel => exact ⟨k + 1, L7.length + 2, a9, c9, by omega, by go_num, rfl, HQ9.out, HO9.out, HB9.out⟩
        case measure => simp [intOf]; omega
      · have hr' : s.rep = false := by cases h : s.rep <;> simp_all
        have HEQ : Hid (bodyPs ls ds (l.take (k + 1)) = L7) := by
          unfold Hid; rw [HTK.out, HBP0.out hr', HL7E.out]
        rw [hr'] at d4
        have HO9 : Hid (PO w7 w2.heap.size (.slice a' ((bodyPs ls ds (l.take k)).length + 2) c') (bodyPs ls ds (l.take (k + 1)))) := by unfold Hid; rw [HEQ.out]; exact HO7.out
        have HQ9 : Hid ((bodyPs ls ds (l.take k)).length + 2 = (bodyPs ls ds (l.take (k + 1))).length) := by unfold Hid; rw [HEQ.out]; exact HLk.out
        clear hr hr'
        go_wp2
        go_roundw
        case rel => exact ⟨k + 1, (bodyPs ls ds (l.take k)).length + 2, a', c', by omega, by go_num, rfl, HQ9.out, HO9.out, HB7.out⟩
        case measure => simp [intOf]; omega
    · have hki : ¬ (k : Int) < (n : Int) := by omega
      obtain rfl : k = n := by omega
      rw [List.take_of_length_le (by rw [← HN.out]; exact Nat.le_refl _)] at HO
      have HD : Hid (PO wr w.heap.size (.slice qa q qc) (bodyPs ls ds l)) := HO.out.base hs2
      have HBF : Hid (Below w.heap.size w wr) := HB2.out.trans (HB.out.mono hs2)
      go_wp2
      go_ret
      exact ⟨_, rfl, HD.out, HBF.out⟩
end Go.Proofs.YtbknflckdbfogaaGreat
