/- deflate's moreBits, stepParts. -/
import Derived.Test.YthkppipdflmekaaGreatQDTld
import Derived.Test.YthkppipdflmekaaGreatQDHed
set_option maxRecDepth 100000
set_option maxHeartbeats 4000000
namespace Go.Proofs.YthkppipdflmekaaGreat
open Go.RowKit
set_option linter.unusedVariables false
set_option linter.unusedSimpArgs false
theorem qnf (y : Nat) (w : World) (hy : y < 19) : Calls Tryz.prog 83 #[.int .i64 (y : Int)] w fun e w' => e = .returned (.int .i64 ((tmF y).2 : Nat)) ∧ w' = w := by
 rcases (by omega : y = 16 ∨ y = 17 ∨ y = 18 ∨ y < 16) with rfl | rfl | rfl | h
 · go_enter Tryz.func83, Tryz.ntmps83
   go_wp2
   go_ret
   exact ⟨rfl, rfl⟩
 · go_enter Tryz.func83, Tryz.ntmps83
   go_wp2
   go_ret
   exact ⟨rfl, rfl⟩
 · go_enter Tryz.func83, Tryz.ntmps83
   go_wp2
   go_ret
   exact ⟨rfl, rfl⟩
 · have ht : (tmF y).2 = 0 := by unfold tmF; rw [if_neg (by omega), if_neg (by omega), if_neg (by omega)]
   rw [ht]
   have h1 : ((y : Int) == 16) = false := beq_eq_false_iff_ne.2 (by omega)
   have h2 : ((y : Int) == 17) = false := beq_eq_false_iff_ne.2 (by omega)
   have h3 : ((y : Int) == 18) = false := beq_eq_false_iff_ne.2 (by omega)
   have k1 : ¬ (y : Int) = 16 := by omega
   have k2 : ¬ (y : Int) = 17 := by omega
   have k3 : ¬ (y : Int) = 18 := by omega
   go_enter Tryz.func83, Tryz.ntmps83
   go_wp2
   go_ret
   exact ⟨rfl, rfl⟩
def stpP (fs : List Nat) (s : Stp) : List Prt := [⟨cdOf fs s.sym.toNat, ln fs s.sym.toNat, true⟩, ⟨s.more.toNat, (tmF s.sym.toNat).2, false⟩]
def qbv (fs : List Nat) (l : List Stp) : List Prt := l.flatMap (stpP fs)
theorem qsu (fs : List Nat) (l : List Stp) (s : Stp) : qbv fs (l ++ [s]) = qbv fs l ++ stpP fs s := by simp [qbv]
theorem qfw (fs : List Nat) : ∀ l, (qbv fs l).length = 2 * l.length
 | [] => rfl
 | s :: l => by
  have := qfw fs l
  unfold qbv at *
  rw [List.flatMap_cons, List.length_append, this, List.length_cons]
  show 2 + _ = _; omega
theorem qk4 (v vf : Value) (st : List Stp) (fs : List Nat) (w : World) (hS : StS w v st) (hf : IQ w vf (zL fs)) (ok : OkL fs) (h19 : fs.length = 19) (hl : st.length ≤ 1000) (hk : StIn st) :
    Calls Tryz.prog 55 #[v, vf] w fun e w' => ∃ v', e = .returned v' ∧ PO w' w.heap.size v' (qbv fs st) ∧ Below w.heap.size w w' := by
 have HSG : Hid (StS w v st) := hS
 have HK : Hid (StIn st) := hk
 have HC1 := qen vf (zL fs) w hf ok.err
 rw [qjx, qa9, h19] at HC1
 obtain ⟨gf, of, cf, rfl, -, -⟩ := hf
 rw [qa9, h19] at HC1 ⊢
 obtain ⟨a, cap, rfl, hcap, -⟩ := hS
 obtain ⟨n, hn⟩ : ∃ n, n = st.length := ⟨_, rfl⟩
 have HN : Hid (n = st.length) := hn
 rw [← hn] at HSG hcap hl ⊢
 have hz2 : ∀ W : World, (zeroValue 41).run Tryz.prog W = .ok (.agg #[.int .i64 0, .int .i64 0]) W := fun W => by kernel_rfl
 clear hn hk ok h19
 go_enter Tryz.func55, Tryz.ntmps55
 go_wp2_with fail
 refine HC1.mono ?_
 rintro e w2 ⟨rfl, hc1, hb1⟩
 have HB2 : Hid (Below w.heap.size w w2) := hb1
 have HCR : Hid (CR w2 w.heap.size 19 (cdOf fs) (ln fs)) := hc1
 have hw3 := hc1.lt
 have hs2 := hb1.size
 clear hb1 hc1 HC1
 go_wp2
 go_loopw [13, 6] (fun i o wr => ∃ (k q : Nat) (qa : Option Addr) (qc : Nat), k ≤ n ∧ i = .int .i64 (k : Int) ∧ o = .slice qa q qc ∧ Hid (q = (qbv fs (st.take k)).length) ∧ PO wr w2.heap.size (.slice qa q qc) (qbv fs (st.take k)) ∧ Below w2.heap.size w2 wr) (fun i _ _ => n - (intOf i).toNat)
 case atStart => exact ⟨0, 0, none, 0, Nat.zero_le _, rfl, rfl, rfl, PO.nil _ _, Below.refl _ _⟩
 case round =>
  obtain ⟨k, q, qa, qc, hk, rfl, rfl, HQ, hO, hb⟩ := hrel
  have HO : Hid (PO wr w2.heap.size (.slice qa q qc) (qbv fs (st.take k))) := hO
  have HB : Hid (Below w2.heap.size w2 wr) := hb
  have hsr := hb.size
  clear hO hb
  by_cases hlt : k < n
  · have hki : (k : Int) < (n : Int) := by omega
    obtain ⟨s, hs⟩ : ∃ s, st[k]? = some s := ⟨_, List.getElem?_eq_getElem (by rw [← HN.out]; exact hlt)⟩
    obtain ⟨g, rfl, hg, -, hcap2, c0, c1⟩ := (HSG.out.below (HB2.out.trans (HB.out.mono hs2))).at hs
    obtain ⟨y, m, hy, hm, hy19, hm128⟩ := HK.out s (List.mem_of_getElem? hs)
    have HTK : Hid (qbv fs (st.take (k + 1)) = qbv fs (st.take k) ++ [⟨cdOf fs y, ln fs y, true⟩, ⟨m, (tmF y).2, false⟩]) := by
     unfold Hid; rw [List.take_add_one, hs]
     have e : stpP fs s = [⟨cdOf fs y, ln fs y, true⟩, ⟨m, (tmF y).2, false⟩] := by unfold stpP; rw [hy, hm]; rfl
     rw [← e]; exact qsu _ _ _
    have HBL : Hid ((qbv fs (st.take k)).length + 2 ≤ 1000000) := by
     unfold Hid
     have := qfw fs (st.take k)
     rw [List.length_take] at this; omega
    rw [hy] at c0
    rw [hm] at c1
    have hyi : (y : Int) < 19 := by omega
    obtain ⟨W3, hW3⟩ : ∃ W3, W3 = wr.alloc (.cells #[.int .i64 (y : Int), .int .i64 (m : Int)] 41) := ⟨_, rfl⟩
    have hs3 : W3.heap[wr.heap.size]? = some (.cells #[.int .i64 (y : Int), .int .i64 (m : Int)] 41 (0, 0)) := by rw [hW3]; exact heap_alloc_new wr _
    have hb3 : Below wr.heap.size wr W3 := by rw [hW3]; exact (Below.refl _ _).alloc (Nat.le_refl _) _
    have HB3 : Hid (Below w2.heap.size w2 W3) := HB.out.trans (hb3.mono hsr)
    have HO3 : Hid (PO W3 w2.heap.size (.slice qa q qc) (qbv fs (st.take k))) := HO.out.below hb3
    have hc3 := HCR.out.cell (i := y * 2) (by omega)
    have hc4 := HCR.out.cell (i := y * 2 + 1) (by omega)
    rw [qc5] at hc3
    rw [qdw] at hc4
    have hsz3 : wr.heap.size < W3.heap.size := (Array.getElem?_eq_some_iff.1 hs3).1
    have hwz : w.heap.size < W3.heap.size := Nat.lt_of_lt_of_le hw3 HB3.out.size
    have HSB : Hid (∀ W : World, W.heap[wr.heap.size]? = W3.heap[wr.heap.size]? → W.heap[w.heap.size]? = W3.heap[w.heap.size]? → W.cell? ⟨wr.heap.size, 0, none⟩ = some (.int .i64 (y : Int)) ∧ W.cell? ⟨wr.heap.size, 1, none⟩ = some (.int .i64 (m : Int)) ∧ W.cell? ⟨w.heap.size, y * 2, none⟩ = some (.int .u32 (cdOf fs y : Int)) ∧ W.cell? ⟨w.heap.size, y * 2 + 1, none⟩ = some (.int .i64 (ln fs y : Int))) := fun W h1 h2 => by
     have h := h1.trans hs3
     have hcc := h2.trans (HB3.out.block _ hw3)
     refine ⟨?_, ?_, ?_, ?_⟩
     · rw [cell_of_row _ _ _ _ _ _ h]; rfl
     · rw [cell_of_row _ _ _ _ _ _ h]; rfl
     · have : W.cell? ⟨w.heap.size, y * 2, none⟩ = w2.cell? ⟨w.heap.size, y * 2, none⟩ := by unfold World.cell?; rw [hcc]
       rw [this]; exact hc3
     · have : W.cell? ⟨w.heap.size, y * 2 + 1, none⟩ = w2.cell? ⟨w.heap.size, y * 2 + 1, none⟩ := by unfold World.cell?; rw [hcc]
       rw [this]; exact hc4
    have HS3 : Hid (∀ W, Below W3.heap.size W3 W → W.cell? ⟨wr.heap.size, 0, none⟩ = some (.int .i64 (y : Int)) ∧ W.cell? ⟨wr.heap.size, 1, none⟩ = some (.int .i64 (m : Int)) ∧ W.cell? ⟨w.heap.size, y * 2, none⟩ = some (.int .u32 (cdOf fs y : Int)) ∧ W.cell? ⟨w.heap.size, y * 2 + 1, none⟩ = some (.int .i64 (ln fs y : Int))) := fun W hW => HSB.out W (hW.block _ hsz3) (hW.block _ hwz)
    have hne : ∀ g', (Value.slice qa q qc).ownBlock = some g' → w2.heap.size ≤ g' ∧ g' < wr.heap.size := fun g' h => World.ownsRow.lt HO.out g' h
    have HS7 : Hid (∀ W W' : World, Below W3.heap.size W3 W → W.grownBy W' (Value.slice qa q qc).ownBlock → W'.cell? ⟨wr.heap.size, 0, none⟩ = some (.int .i64 (y : Int)) ∧ W'.cell? ⟨wr.heap.size, 1, none⟩ = some (.int .i64 (m : Int)) ∧ W'.cell? ⟨w.heap.size, y * 2, none⟩ = some (.int .u32 (cdOf fs y : Int)) ∧ W'.cell? ⟨w.heap.size, y * 2 + 1, none⟩ = some (.int .i64 (ln fs y : Int))) := fun W W' hW hg => HSB.out W' ((hg.block _ (Nat.lt_of_lt_of_le hsz3 hW.size) (fun e => by have := (hne _ e.symm).2; omega)).trans (hW.block _ hsz3)) ((hg.block _ (Nat.lt_of_lt_of_le hwz hW.size) (fun e => by have := (hne _ e.symm).1; omega)).trans (hW.block _ hwz))
    have HB7F : Hid (∀ W W' : World, Below W3.heap.size W3 W → W.grownBy W' (Value.slice qa q qc).ownBlock → Below w2.heap.size w2 W') := fun W W' hW hg => (HB3.out.trans (hW.mono HB3.out.size)).grown hg (Nat.le_trans HB3.out.size hW.size) (fun j hj => (hne j hj).1)
    have HLE : Hid (∀ W, Below W3.heap.size W3 W → w2.heap.size ≤ W.heap.size) := fun W hW => Nat.le_trans HB3.out.size hW.size
    have hch0 : Below W3.heap.size W3 W3.drew := (Below.refl _ _).drew
    have hS0 := HS3.out _ hch0
    have HPP : Hid (∀ W, Calls Tryz.prog 78 #[.agg #[.int .u32 (cdOf fs y : Int), .int .i64 (ln fs y : Int)]] W fun e w' => e = .returned (pv ⟨cdOf fs y, ln fs y, true⟩) ∧ Below W.heap.size W w') := fun W => qeq (cdOf fs y) (ln fs y) W
    have HMB : Hid (∀ W, Calls Tryz.prog 83 #[.int .i64 (y : Int)] W fun e w' => e = .returned (.int .i64 ((tmF y).2 : Nat)) ∧ w' = W) := fun W => qnf y W hy19
    have HNU : Hid (∀ W, Calls Tryz.prog 54 #[.int .i64 (m : Int), .int .i64 ((tmF y).2 : Nat)] W fun e w' => e = .returned (pv ⟨m, (tmF y).2, false⟩) ∧ Below W.heap.size W w') := fun W => qcf m (tmF y).2 W (by omega)
    have HW3 : Hid (wr.alloc (.cells #[.int .i64 (y : Int), .int .i64 (m : Int)] 41) = W3) := hW3.symm
    unfold pv at HPP HNU
    clear hW3 hb3 hs3 hs hc3 hc4 hne hy hm
    generalize (tmF y).2 = mb at *
    generalize cdOf fs y = cy at *
    generalize ln fs y = ly at *
    go_upto_region 6 with fail
    rw [show wr.alloc (.cells #[.int .i64 (y : Int), .int .i64 (m : Int)] 41) = W3 from HW3.out]
    clear c0 c1 HW3
    go_region_held3 (fun W : World => W.cell? ⟨wr.heap.size, 0, none⟩ = some (.int .i64 (y : Int)) ∧ W.cell? ⟨wr.heap.size, 1, none⟩ = some (.int .i64 (m : Int)) ∧ W.cell? ⟨w.heap.size, y * 2, none⟩ = some (.int .u32 (cy : Int)) ∧ W.cell? ⟨w.heap.size, y * 2 + 1, none⟩ = some (.int .i64 (ly : Int))) (first | exact hS0 | exact HS3.out _ hb5 | exact HS3.out _ hb6 | exact HS3.out _ (hb7 _) | exact HS7.out _ _ hb6 hg9 | assumption | go_keep) (first | (go_at_call 78; refine (HPP.out _).mono ?_; rintro e w5 ⟨rfl, hb5'⟩; have hb5 : Below W3.heap.size W3 w5 := hch0.trans (hb5'.mono hch0.size)) | (go_at_call 83; refine (HMB.out _).mono ?_; rintro e wm ⟨rfl, rfl⟩) | (go_at_call 54; refine (HNU.out _).mono ?_; rintro e w6 ⟨rfl, hb6'⟩; have hb6 : Below W3.heap.size W3 w6 := hb5.trans (hb6'.mono hb5.size); have HO6 : Hid (PO w6 w2.heap.size (.slice qa q qc) (qbv fs (st.take k))) := HO3.out.below hb6; have hb7 : ∀ o, Below W3.heap.size W3 (w6.alloc o) := fun o => hb6.alloc hb6.size o; have HLE6 : Hid (w2.heap.size ≤ w6.heap.size) := HLE.out _ hb6) | (refine qc8 (by rfl) _ _ (by rfl) w2.heap.size (.slice qa q qc) (qbv fs (st.take k)) ⟨cy, ly, true⟩ ⟨m, mb, false⟩ (by rfl) (by rfl) HO6.out HBL.out HLE6.out ?_; intro a9 c9 w9 hO9 hg9))
    have HB9 : Hid (Below w2.heap.size w2 w9) := HB7F.out _ w9 hb6 hg9
    have HO9 : Hid (PO w9 w2.heap.size (.slice a9 ((qbv fs (st.take k)).length + 2) c9) (qbv fs (st.take (k + 1)))) := by unfold Hid; rw [HTK.out]; exact hO9
    have HQ9 : Hid ((qbv fs (st.take k)).length + 2 = (qbv fs (st.take (k + 1))).length) := by unfold Hid; rw [HTK.out]; simp
    clear hO9 hg9 hb6 hb7 hb5 hb5' hb6' hS0 hch0
    go_wp2
    go_roundw
    case rel => exact ⟨k + 1, (qbv fs (st.take k)).length + 2, a9, c9, by omega, by go_num, rfl, HQ9.out, HO9.out, HB9.out⟩
    case measure => simp [intOf]; omega
  · have hki : ¬ (k : Int) < (n : Int) := by omega
    obtain rfl : k = n := by omega
    rw [List.take_of_length_le (by rw [← HN.out]; exact Nat.le_refl _)] at HO
    have HD : Hid (PO wr w.heap.size (.slice qa q qc) (qbv fs st)) := HO.out.base hs2
    have HBF : Hid (Below w.heap.size w wr) := HB2.out.trans (HB.out.mono hs2)
    go_wp2
    go_ret
    exact ⟨_, rfl, HD.out, HBF.out⟩
end Go.Proofs.YthkppipdflmekaaGreat
