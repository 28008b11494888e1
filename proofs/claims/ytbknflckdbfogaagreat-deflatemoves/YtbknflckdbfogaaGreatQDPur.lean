/- deflate's moreBits, stepParts. What deflate writes, as bits: the plain mathematics. -/
import Derived.Test.YtbknflckdbfogaaGreatQEncF
import Derived.Test.YtbknflckdbfogaaGreatQDHed
import Derived.Test.YtbknflckdbfogaaGreatQEncB
namespace Go.Proofs.YtbknflckdbfogaaGreat
open Go.RowKit
set_option linter.unusedVariables false
set_option linter.unusedSimpArgs false

set_option maxRecDepth 100000 in
theorem moreBits_any (y : Nat) (w : World) (hy : y < 19) : Calls Tryz.prog 85 #[.int .i64 (y : Int)] w fun e w' => e = .returned (.int .i64 ((tmF y).2 : Nat)) ∧ w' = w := by
  rcases (by omega : y = 16 ∨ y = 17 ∨ y = 18 ∨ y < 16) with rfl | rfl | rfl | h
  · go_enter Tryz.func85, Tryz.ntmps85
    go_wp2
    go_ret
    exact ⟨rfl, rfl⟩
  · go_enter Tryz.func85, Tryz.ntmps85
    go_wp2
    go_ret
    exact ⟨rfl, rfl⟩
  · go_enter Tryz.func85, Tryz.ntmps85
    go_wp2
    go_ret
    exact ⟨rfl, rfl⟩
  · have ht : (tmF y).2 = 0 := by unfold tmF; rw [if_neg (by omega), if_neg (by omega), if_neg (by omega)]
    rw [ht]
    have h1 : ((y : Int) == 16) = false := beq_eq_false_iff_ne.2 (by omega)
    have h2 : ((y : Int) == 17) = false := beq_eq_false_iff_ne.2 (by omega)
    have h3 : ((y : Int) == 18) = false := beq_eq_false_iff_ne.2 (by omega)
    have k1 : ¬ (y : Int) = 16 := by omega
    have k2 : ¬ (y : Int) = 17 := by omega
    have k3 : ¬ (y : Int) = 18 := by omega
    go_enter Tryz.func85, Tryz.ntmps85
    go_wp2
    go_ret
    exact ⟨rfl, rfl⟩
/-- What a symbol of a row of lengths becomes. -/
def stpP (fs : List Nat) (s : Stp) : List Prt := [⟨cdOf fs s.sym.toNat, ln fs s.sym.toNat, true⟩, ⟨s.more.toNat, (tmF s.sym.toNat).2, false⟩]
def stpPs (fs : List Nat) (l : List Stp) : List Prt := l.flatMap (stpP fs)
theorem stpPs_snoc (fs : List Nat) (l : List Stp) (s : Stp) : stpPs fs (l ++ [s]) = stpPs fs l ++ stpP fs s := by simp [stpPs]
theorem stpPs_len (fs : List Nat) : ∀ l, (stpPs fs l).length = 2 * l.length
  | [] => rfl
  | s :: l => by
    have := stpPs_len fs l
    unfold stpPs at *
    rw [List.flatMap_cons, List.length_append, this, List.length_cons]
    show 2 + _ = _; omega
set_option maxRecDepth 100000 in
set_option maxHeartbeats 4000000 in
theorem stepParts_any (v vf : Value) (st : List Stp) (fs : List Nat) (w : World) (hS : StS w v st) (hf : IQ w vf (zL fs)) (ok : OkL fs) (h19 : fs.length = 19) (hl : st.length ≤ 1000) (hk : StIn st) :
    Calls Tryz.prog 57 #[v, vf] w fun e w' => ∃ v', e = .returned v' ∧ PO w' w.heap.size v' (stpPs fs st) ∧ Below w.heap.size w w' := by
  have HSG : Hid (StS w v st) := hS
  have HK : Hid (StIn st) := hk
  have HC1 := dcodesOf_any vf (zL fs) w hf ok.err
  rw [toN_zL, zL_len, h19] at HC1
  obtain ⟨gf, of, cf, rfl, -, -⟩ := hf
  rw [zL_len, h19] at HC1 ⊢
  obtain ⟨a, cap, rfl, hcap, -⟩ := hS
  obtain ⟨n, hn⟩ : ∃ n, n = st.length := ⟨_, rfl⟩
  have HN : Hid (n = st.length) := hn
  rw [← hn] at HSG hcap hl ⊢
  have hz2 : ∀ W : World, (zeroValue 42).run Tryz.prog W = .ok (.agg #[.int .i64 0, .int .i64 0]) W := fun W => by kernel_rfl
  clear hn hk ok h19
  go_enter Tryz.func57, Tryz.ntmps57
  go_wp2_with fail
  refine HC1.mono ?_
  rintro e w2 ⟨rfl, hc1, hb1⟩
  have HB2 : Hid (Below w.heap.size w w2) := hb1
  have HCR : Hid (CR w2 w.heap.size 19 (cdOf fs) (ln fs)) := hc1
  have hw3 := hc1.lt
  have hs2 := hb1.size
  clear hb1 hc1 HC1
  go_wp2
  go_loopw [13, 6] (fun i o wr => ∃ (k q : Nat) (qa : Option Addr) (qc : Nat), k ≤ n ∧ i = .int .i64 (k : Int) ∧ o = .slice qa q qc ∧ Hid (q = (stpPs fs (st.take k)).length) ∧ PO wr w2.heap.size (.slice qa q qc) (stpPs fs (st.take k)) ∧ Below w2.heap.size w2 wr) (fun i _ _ => n - (intOf i).toNat)
  case atStart => exact ⟨0, 0, none, 0, Nat.zero_le _, rfl, rfl, rfl, PO.nil _ _, Below.refl _ _⟩
  case round =>
    obtain ⟨k, q, qa, qc, hk, rfl, rfl, HQ, hO, hb⟩ := hrel
    have HO : Hid (PO wr w2.heap.size (.slice qa q qc) (stpPs fs (st.take k))) := hO
    have HB : Hid (Below w2.heap.size w2 wr) := hb
    have hsr := hb.size
    clear hO hb
    by_cases hlt : k < n
    · have hki : (k : Int) < (n : Int) := by omega
      obtain ⟨s, hs⟩ : ∃ s, st[k]? = some s := ⟨_, List.getElem?_eq_getElem (by rw [← HN.out]; exact hlt)⟩
      obtain ⟨g, rfl, hg, -, hcap2, c0, c1⟩ := (HSG.out.below (HB2.out.trans (HB.out.mono hs2))).at hs
      obtain ⟨y, m, hy, hm, hy19, hm128⟩ := HK.out s (List.mem_of_getElem? hs)
      have HTK : Hid (stpPs fs (st.take (k + 1)) = stpPs fs (st.take k) ++ [⟨cdOf fs y, ln fs y, true⟩, ⟨m, (tmF y).2, false⟩]) := by
        unfold Hid; rw [List.take_add_one, hs]
        have e : stpP fs s = [⟨cdOf fs y, ln fs y, true⟩, ⟨m, (tmF y).2, false⟩] := by unfold stpP; rw [hy, hm]; rfl
        rw [← e]; exact stpPs_snoc _ _ _
      have HBL : Hid ((stpPs fs (st.take k)).length + 2 ≤ 1000000) := by
        unfold Hid
        have := stpPs_len fs (st.take k)
        rw [List.length_take] at this; omega
      rw [hy] at c0
      rw [hm] at c1
      have hyi : (y : Int) < 19 := by omega
      obtain ⟨W3, hW3⟩ : ∃ W3, W3 = wr.alloc (.cells #[.int .i64 (y : Int), .int .i64 (m : Int)] 42) := ⟨_, rfl⟩
      have hs3 : W3.heap[wr.heap.size]? = some (.cells #[.int .i64 (y : Int), .int .i64 (m : Int)] 42 (0, 0)) := by rw [hW3]; exact heap_alloc_new wr _
      have hb3 : Below wr.heap.size wr W3 := by rw [hW3]; exact (Below.refl _ _).alloc (Nat.le_refl _) _
      have HB3 : Hid (Below w2.heap.size w2 W3) := HB.out.trans (hb3.mono hsr)
      have HO3 : Hid (PO W3 w2.heap.size (.slice qa q qc) (stpPs fs (st.take k))) := HO.out.below hb3
      have hc3 := HCR.out.cell (i := y * 2) (by omega)
      have hc4 := HCR.out.cell (i := y * 2 + 1) (by omega)
      rw [codeF_even] at hc3
      rw [codeF_odd] at hc4
      have hsz3 : wr.heap.size < W3.heap.size := (Array.getElem?_eq_some_iff.1 hs3).1
      have hwz : w.heap.size < W3.heap.size := Nat.lt_of_lt_of_le hw3 HB3.out.size
      have HSB : Hid (∀ W : World, W.heap[wr.heap.size]? = W3.heap[wr.heap.size]? → W.heap[w.heap.size]? = W3.heap[w.heap.size]? → W.cell? ⟨wr.heap.size, 0, none⟩ = some (.int .i64 (y : Int)) ∧ W.cell? ⟨wr.heap.size, 1, none⟩ = some (.int .i64 (m : Int)) ∧ W.cell? ⟨w.heap.size, y * 2, none⟩ = some (.int .u32 (cdOf fs y : Int)) ∧ W.cell? ⟨w.heap.size, y * 2 + 1, none⟩ = some (.int .i64 (ln fs y : Int))) := fun W h1 h2 => by
        have h := h1.trans hs3
        have hcc := h2.trans (HB3.out.block _ hw3)
        refine ⟨?_, ?_, ?_, ?_⟩
        · rw [cell_of_row _ _ _ _ _ _ h]; rfl
        · rw [cell_of_row _ _ _ _ _ _ h]; rfl
        · have : W.cell? ⟨w.heap.size, y * 2, none⟩ = w2.cell? ⟨w.heap.size, y * 2, none⟩ := by unfold World.cell?; rw [hcc]
          rw [this]; exact hc3
        · have : W.cell? ⟨w.heap.size, y * 2 + 1, none⟩ = w2.cell? ⟨w.heap.size, y * 2 + 1, none⟩ := by unfold World.cell?; rw [hcc]
          rw [this]; exact hc4
      have HS3 : Hid (∀ W, Below W3.heap.size W3 W → W.cell? ⟨wr.heap.size, 0, none⟩ = some (.int .i64 (y : Int)) ∧ W.cell? ⟨wr.heap.size, 1, none⟩ = some (.int .i64 (m : Int)) ∧ W.cell? ⟨w.heap.size, y * 2, none⟩ = some (.int .u32 (cdOf fs y : Int)) ∧ W.cell? ⟨w.heap.size, y * 2 + 1, none⟩ = some (.int .i64 (ln fs y : Int))) := fun W hW => HSB.out W (hW.block _ hsz3) (hW.block _ hwz)
      have hne : ∀ g', (Value.slice qa q qc).ownBlock = some g' → w2.heap.size ≤ g' ∧ g' < wr.heap.size := fun g' h => World.ownsRow.lt HO.out g' h
      have HS7 : Hid (∀ W W' : World, Below W3.heap.size W3 W → W.grownBy W' (Value.slice qa q qc).ownBlock → W'.cell? ⟨wr.heap.size, 0, none⟩ = some (.int .i64 (y : Int)) ∧ W'.cell? ⟨wr.heap.size, 1, none⟩ = some (.int .i64 (m : Int)) ∧ W'.cell? ⟨w.heap.size, y * 2, none⟩ = some (.int .u32 (cdOf fs y : Int)) ∧ W'.cell? ⟨w.heap.size, y * 2 + 1, none⟩ = some (.int .i64 (ln fs y : Int))) := fun W W' hW hg => HSB.out W' ((hg.block _ (Nat.lt_of_lt_of_le hsz3 hW.size) (fun e => by have := (hne _ e.symm).2; omega)).trans (hW.block _ hsz3)) ((hg.block _ (Nat.lt_of_lt_of_le hwz hW.size) (fun e => by have := (hne _ e.symm).1; omega)).trans (hW.block _ hwz))
      have HB7F : Hid (∀ W W' : World, Below W3.heap.size W3 W → W.grownBy W' (Value.slice qa q qc).ownBlock → Below w2.heap.size w2 W') := fun W W' hW hg => (HB3.out.trans (hW.mono HB3.out.size)).grown hg (Nat.le_trans HB3.out.size hW.size) (fun j hj => (hne j hj).1)
      have HLE : Hid (∀ W, Below W3.heap.size W3 W → w2.heap.size ≤ W.heap.size) := fun W hW => Nat.le_trans HB3.out.size hW.size
      have hch0 : Below W3.heap.size W3 W3.drew := (Below.refl _ _).drew
      have hS0 := HS3.out _ hch0
      have HPP : Hid (∀ W, Calls Tryz.prog 80 #[.agg #[.int .u32 (cdOf fs y : Int), .int .i64 (ln fs y : Int)]] W fun e w' => e = .returned (pv ⟨cdOf fs y, ln fs y, true⟩) ∧ Below W.heap.size W w') := fun W => codePart_any (cdOf fs y) (ln fs y) W
      have HMB : Hid (∀ W, Calls Tryz.prog 85 #[.int .i64 (y : Int)] W fun e w' => e = .returned (.int .i64 ((tmF y).2 : Nat)) ∧ w' = W) := fun W => moreBits_any y W hy19
      have HNU : Hid (∀ W, Calls Tryz.prog 56 #[.int .i64 (m : Int), .int .i64 ((tmF y).2 : Nat)] W fun e w' => e = .returned (pv ⟨m, (tmF y).2, false⟩) ∧ Below W.heap.size W w') := fun W => number_any m (tmF y).2 W (by omega)
      have HW3 : Hid (wr.alloc (.cells #[.int .i64 (y : Int), .int .i64 (m : Int)] 42) = W3) := hW3.symm
      unfold pv at HPP HNU
      clear hW3 hb3 hs3 hs hc3 hc4 hne hy hm
      generalize (tmF y).2 = mb at *
      generalize cdOf fs y = cy at *
      generalize ln fs y = ly at *
      go_upto_region 6 with fail
      rw [show wr.alloc (.cells #[.int .i64 (y : Int), .int .i64 (m : Int)] 42) = W3 from HW3.out]
      clear c0 c1 HW3
      go_region_held3 (fun W : World => W.cell? ⟨wr.heap.size, 0, none⟩ = some (.int .i64 (y : Int)) ∧ W.cell? ⟨wr.heap.size, 1, none⟩ = some (.int .i64 (m : Int)) ∧ W.cell? ⟨w.heap.size, y * 2, none⟩ = some (.int .u32 (cy : Int)) ∧ W.cell? ⟨w.heap.size, y * 2 + 1, none⟩ = some (.int .i64 (ly : Int))) (first | exact hS0 | exact HS3.out _ hb5 | exact HS3.out _ hb6 | exact HS3.out _ (hb7 _) | exact HS7.out _ _ hb6 hg9 | assumption | go_keep) (first | (go_at_call 80; refine (HPP.out _).mono ?_; rintro e w5 ⟨rfl, hb5'⟩; have hb5 : Below W3.heap.size W3 w5 := hch0.trans (hb5'.mono hch0.size)) | (go_at_call 85; refine (HMB.out _).mono ?_; rintro e wm ⟨rfl, rfl⟩) | (go_at_call 56; refine (HNU.out _).mono ?_; rintro e w6 ⟨rfl, hb6'⟩; have hb6 : Below W3.heap.size W3 w6 := hb5.trans (hb6'.mono hb5.size); have HO6 : Hid (PO w6 w2.heap.size (.slice qa q qc) (stpPs fs (st.take k))) := HO3.out.below hb6; have hb7 : ∀ o, Below W3.heap.size W3 (w6.alloc o) := fun o => hb6.alloc hb6.size o; have HLE6 : Hid (w2.heap.size ≤ w6.heap.size) := HLE.out _ hb6) | (refine step_append_two (by rfl) _ _ (by rfl) w2.heap.size (.slice qa q qc) (stpPs fs (st.take k)) ⟨cy, ly, true⟩ ⟨m, mb, false⟩ (by rfl) (by rfl) HO6.out HBL.out HLE6.out ?_; intro a9 c9 w9 hO9 hg9))
      have HB9 : Hid (Below w2.heap.size w2 w9) := HB7F.out _ w9 hb6 hg9
      have HO9 : Hid (PO w9 w2.heap.size (.slice a9 ((stpPs fs (st.take k)).length + 2) c9) (stpPs fs (st.take (k + 1)))) := by unfold Hid; rw [HTK.out]; exact hO9
      have HQ9 : Hid ((stpPs fs (st.take k)).length + 2 = (stpPs fs (st.take (k + 1))).length) := by unfold Hid; rw [HTK.out]; simp
      clear hO9 hg9 hb6 hb7 hb5 hb5' hb6' hS0 hch0
      go_wp2
      go_roundw
      case rel => exact ⟨k + 1, (stpPs fs (st.take k)).length + 2, a9, c9, by omega, by go_num, rfl, HQ9.out, HO9.out, HB9.out⟩
      case measure => simp [intOf]; omega
    · have hki : ¬ (k : Int) < (n : Int) := by omega
      obtain rfl : k = n := by omega
      rw [List.take_of_length_le (by rw [← HN.out]; exact Nat.le_refl _)] at HO
      have HD : Hid (PO wr w.heap.size (.slice qa q qc) (stpPs fs st)) := HO.out.base hs2
      have HBF : Hid (Below w.heap.size w wr) := HB2.out.trans (HB.out.mono hs2)
      go_wp2
      go_ret
      exact ⟨_, rfl, HD.out, HBF.out⟩
end Go.Proofs.YtbknflckdbfogaaGreat
namespace Go.Proofs.YtbknflckdbfogaaGreat
open Go.RowKit
set_option linter.unusedVariables false

theorem cdOf_lt {ls : List Nat} (h : OkL ls) (s : Nat) : cdOf ls s < 32768 := by
  unfold cdOf
  by_cases h0 : 0 < ln ls s
  · rw [if_pos h0]
    have hs : s < ls.length := by
      rcases Nat.lt_or_ge s ls.length with g | g
      · exact g
      · unfold ln at h0; rw [List.getD_eq_getElem?_getD, List.getElem?_eq_none g] at h0; simp at h0
    have h1 := cd_lt ls h.all h.fit s hs h0
    have h2 := h.all.at s
    have : 2 ^ ln ls s ≤ 2 ^ 15 := Nat.pow_le_pow_right (by decide) h2
    omega
  · rw [if_neg h0]; decide
theorem sgT_lit {t : Tok} (h : t.l = 0) : sgT t = ⟨t.b, prt0, false, 0, prt0⟩ := by unfold sgT; rw [if_pos h]
theorem sgT_rep {t : Tok} (h : ¬ t.l = 0) : sgT t = ⟨257 + noF t.l.toNat false, szP t.l.toNat false, true, noF t.d.toNat true, szP t.d.toNat true⟩ := by unfold sgT; rw [if_neg h]
theorem sgT_sym (t : Tok) : (sgT t).sym = symT t := by
  unfold symT
  by_cases h : t.l = 0
  · rw [sgT_lit h, if_pos h]
  · rw [sgT_rep h, if_neg h]
theorem sgT_far {t : Tok} (h : ¬ t.l = 0) : (sgT t).rep = true ∧ (sgT t).far = farT t := by rw [sgT_rep h]; exact ⟨rfl, rfl⟩
/-- What a token becomes, as bits. -/
theorem bodyP_bits (ls ds : List Nat) (t : Tok) : prsB (bodyP ls ds (sgT t)) = encT ls ds t := by
  by_cases h : t.l = 0
  · rw [sgT_lit h]
    unfold bodyP encT symT
    rw [if_neg (by simp), if_pos h, if_pos h]
    simp [prsB, prB, prt0, codeS, lowB]
  · rw [sgT_rep h]
    unfold bodyP encT symT farT
    rw [if_pos rfl, if_neg h, if_neg h]
    simp [prsB, prB, szP, szB, codeS]
theorem bodyEnd_bits (ls ds : List Nat) : prsB (bodyP ls ds sgEnd) = codeS ls 256 := by
  unfold bodyP sgEnd
  rw [if_neg (by simp)]
  simp [prsB, prB, prt0, codeS, lowB]
theorem bodyPs_app (ls ds : List Nat) (a b : List Sgn) : bodyPs ls ds (a ++ b) = bodyPs ls ds a ++ bodyPs ls ds b := by simp [bodyPs]
theorem bodyTs_bits (ls ds : List Nat) : ∀ ts : List Tok, prsB (bodyPs ls ds (ts.map sgT)) = encs ls ds ts
  | [] => rfl
  | t :: ts => by
    have ih := bodyTs_bits ls ds ts
    rw [encs_cons, ← ih, ← bodyP_bits ls ds t, ← prsB_app]
    rfl
theorem body_bits (ls ds : List Nat) (ts : List Tok) : prsB (bodyPs ls ds (signsN ts)) = encs ls ds ts ++ codeS ls 256 := by
  unfold signsN
  rw [bodyPs_app, prsB_app, bodyTs_bits]
  congr 1
  have : bodyPs ls ds [sgEnd] = bodyP ls ds sgEnd := by simp [bodyPs]
  rw [this, bodyEnd_bits]
theorem head_bits (last : Bool) (kind : Nat) : prsB (headP last kind) = lowB (flagN last) 1 ++ lowB kind 2 := by simp [headP, prsB, prB]
theorem stpP_bits (fs : List Nat) (s : Stp) : prsB (stpP fs s) = encS fs s := by simp [stpP, prsB, prB, encS, codeS]
theorem stpPs_bits (fs : List Nat) (zs : List Int) : prsB (stpPs fs (stpsF zs)) = encI fs zs zs.length 0 := by
  unfold encI
  rw [stepsI_all]
  generalize stpsF zs = l
  induction l with
  | nil => rfl
  | cons s l ih =>
    rw [List.flatMap_cons, ← ih, ← stpP_bits, ← prsB_app]
    rfl
/-- Told lengths as parts. -/
def tolP (l : List Nat) : List Prt := l.map fun x => ⟨x, 3, false⟩
theorem tolP_bits : ∀ l : List Nat, prsB (tolP l) = toldB l
  | [] => rfl
  | x :: l => by
    have ih := tolP_bits l
    have e : tolP (x :: l) = [⟨x, 3, false⟩] ++ tolP l := rfl
    rw [e, prsB_app, ih]
    simp [prsB, prB, toldB]
/-- A block of codes that it tells. -/
def dynHd (ls ds fs : List Nat) (last : Bool) : List Prt := headP last 2 ++ [⟨ls.length - 257, 5, false⟩, ⟨ds.length - 1, 5, false⟩, ⟨(lnCut (tldL fs) 4).length - 4, 4, false⟩]
def dynP (ls ds fs : List Nat) (ts : List Tok) (last : Bool) : List Prt := ((dynHd ls ds fs last ++ tolP (lnCut (tldL fs) 4)) ++ stpPs fs (stpsF (zL (ls ++ ds)))) ++ bodyPs ls ds (signsN ts)
def dynB (ls ds fs : List Nat) (ts : List Tok) : PBk := ⟨2, fs, ls, ds, (lnCut (tldL fs) 4).length, ts⟩
theorem dynP_bits (ls ds fs : List Nat) (ts : List Tok) (last : Bool) : prsB (dynP ls ds fs ts last) = (dynB ls ds fs ts).bits (flagN last) := by
  have et : (tldL fs).take (lnCut (tldL fs) 4).length = lnCut (tldL fs) 4 := by
    rw [lnCut_len]; rfl
  have e1 : PBk.head (dynB ls ds fs ts) = encH fs ls ds (lnCut (tldL fs) 4).length := by
    unfold PBk.head dynB; rw [if_neg (show ¬ (2 : Nat) = 1 by decide)]
  unfold PBk.bits
  rw [e1]
  unfold encH
  have e2 : (ordL.map fun t => fs.getD t 0) = tldL fs := rfl
  rw [e2, et]
  have hz : (zL (ls ++ ds)).length = (ls ++ ds).length := zL_len _
  have e3 := stpPs_bits fs (zL (ls ++ ds))
  rw [hz] at e3
  unfold dynP dynHd
  rw [prsB_app, prsB_app, prsB_app, prsB_app, head_bits, tolP_bits, e3, body_bits]
  simp [prsB, prB, dynB, List.append_assoc]
def fixB (ts : List Tok) : PBk := ⟨1, [], fixL, fixD, 0, ts⟩
theorem fixP_bits (ts : List Tok) (last : Bool) : prsB (fixedP ts last) = (fixB ts).bits (flagN last) := by
  have e1 : PBk.head (fixB ts) = [] := by unfold PBk.head fixB; rw [if_pos rfl]
  unfold PBk.bits
  rw [e1]
  unfold fixedP
  rw [prsB_app, head_bits, body_bits]
  simp [fixB, List.append_assoc]
/-! What a Sink takes as it is. -/
def PsOk (l : List Prt) : Prop := ∀ p ∈ l, PrtOk p
theorem PsOk.app {a b : List Prt} (h : PsOk a) (k : PsOk b) : PsOk (a ++ b) := fun p hp => (List.mem_append.1 hp).elim (h p) (k p)
theorem prt0_ok : PrtOk prt0 := ⟨by decide, by decide⟩
theorem szP_ok {x : Nat} {far : Bool} (h : x ≤ 32768) : PrtOk (szP x far) := by
  have := (szF_bd far (noF x far)).2
  exact ⟨by show x - _ < _; omega, by show (szF (noF x far) far).2 ≤ 32; omega⟩
theorem headP_ok (last : Bool) (kind : Nat) (hk : kind < 4) : PsOk (headP last kind) := fun p hp => by
  simp only [headP, List.mem_cons, List.not_mem_nil, or_false] at hp
  have hf : flagN last ≤ 1 := by unfold flagN; cases last <;> simp
  rcases hp with rfl | rfl
  · exact ⟨by show flagN last < _; omega, by show 1 ≤ 32; decide⟩
  · exact ⟨by show kind < _; omega, by show 2 ≤ 32; decide⟩
theorem code_ok {ls : List Nat} (h : OkL ls) (s : Nat) : PrtOk ⟨cdOf ls s, ln ls s, true⟩ := by
  have := cdOf_lt h s
  have := h.all.at s
  exact ⟨by show cdOf ls s < _; omega, by show ln ls s ≤ 32; omega⟩
theorem sgT_ok {t : Tok} (h : isTok t = true) : PrtOk (sgT t).more ∧ PrtOk (sgT t).fmore := by
  by_cases h0 : t.l = 0
  · rw [sgT_lit h0]; exact ⟨prt0_ok, prt0_ok⟩
  · obtain ⟨_, h3, h258, h1, h32⟩ := isTok_rep h0 h
    rw [sgT_rep h0]
    exact ⟨szP_ok (by omega), szP_ok (by omega)⟩
theorem bodyPs_ok {ls ds : List Nat} (hl : OkL ls) (hd : OkL ds) {ts : List Tok} (hk : TkIn ts) : PsOk (bodyPs ls ds (signsN ts)) := fun p hp => by
  obtain ⟨s, hs, hp⟩ := List.mem_flatMap.1 hp
  have hso : PrtOk s.more ∧ PrtOk s.fmore := by
    rcases List.mem_append.1 hs with h | h
    · obtain ⟨t, ht, rfl⟩ := List.mem_map.1 h
      exact sgT_ok (hk t ht).1
    · rw [List.mem_singleton.1 h]; exact ⟨prt0_ok, prt0_ok⟩
  unfold bodyP at hp
  split at hp
  · simp only [List.mem_cons, List.not_mem_nil, or_false] at hp
    rcases hp with rfl | rfl | rfl | rfl
    · exact code_ok hl _
    · exact hso.1
    · exact code_ok hd _
    · exact hso.2
  · simp only [List.mem_cons, List.not_mem_nil, or_false] at hp
    rcases hp with rfl | rfl
    · exact code_ok hl _
    · exact hso.1
theorem fixL_okl : OkL fixL := ⟨by intro x hx; revert x; decide +kernel, by decide +kernel, by decide +kernel⟩
theorem fixD_okl : OkL fixD := ⟨by intro x hx; revert x; decide +kernel, by decide +kernel, by decide +kernel⟩
theorem fixedP_ok {ts : List Tok} (hk : TkIn ts) (last : Bool) : PsOk (fixedP ts last) := (headP_ok last 1 (by decide)).app (bodyPs_ok fixL_okl fixD_okl hk)
theorem fixB_ok {ts : List Tok} (hk : TkIn ts) : (fixB ts).Ok :=
  ⟨.inl ⟨rfl, rfl, rfl⟩, fixL_okl, fixD_okl, by show 256 < fixL.length; decide +kernel, fixL_pos 256 (by decide), fun t ht => fixed_code (hk t ht).1 (hk t ht).2⟩
/-- The symbols of a row of lengths of at most 15. -/
theorem stpsF_in {rs : List Nat} (h15 : ∀ x ∈ rs, x ≤ 15) : StIn (stpsF (zL rs)) := fun s hs => by
  rw [← stepsI_all] at hs
  have key : ∀ (k i : Nat), ∀ s ∈ stepsI (zL rs) k i, ∃ y m : Nat, s.sym = (y : Int) ∧ s.more = (m : Int) ∧ y < 19 ∧ m < 128 := by
    intro k
    induction k with
    | zero => intro i s hs; cases hs
    | succ k ih =>
      intro i s hs
      rw [stepsI] at hs
      split at hs
      · rename_i hi
        rw [zL_len] at hi
        rcases List.mem_cons.1 hs with e | e
        · obtain ⟨sym, more, e1, e2, h1, h2, _⟩ := stp_told rs h15 i hi
          refine ⟨sym, more, by rw [e]; exact e1, by rw [e]; exact e2, h1, ?_⟩
          have : (tmF sym).2 ≤ 7 := by unfold tmF; split; decide; split; decide; split <;> decide
          have : 2 ^ (tmF sym).2 ≤ 2 ^ 7 := Nat.pow_le_pow_right (by decide) this
          omega
        · exact ih _ s e
      · cases hs
  exact key _ _ s hs
theorem stpPs_ok {fs : List Nat} (hf : OkL fs) {st : List Stp} (hs : StIn st) : PsOk (stpPs fs st) := fun p hp => by
  obtain ⟨s, hs', hp⟩ := List.mem_flatMap.1 hp
  obtain ⟨y, m, hy, hm, hy19, hm128⟩ := hs s hs'
  simp only [stpP, List.mem_cons, List.not_mem_nil, or_false] at hp
  rcases hp with rfl | rfl
  · exact code_ok hf _
  · refine ⟨by show s.more.toNat < _; omega, ?_⟩
    show (tmF s.sym.toNat).2 ≤ 32
    unfold tmF; split; decide; split; decide; split <;> decide
theorem tolP_ok {l : List Nat} (h : ∀ x ∈ l, x ≤ 7) : PsOk (tolP l) := fun p hp => by
  obtain ⟨x, hx, rfl⟩ := List.mem_map.1 hp
  have := h x hx
  exact ⟨by show x < _; omega, by show 3 ≤ 32; decide⟩
end Go.Proofs.YtbknflckdbfogaaGreat
