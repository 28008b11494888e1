/- slices.Concat of two rows of lengths. -/
import Derived.Test.YthkppipdflmekaaGreatQDynE
import Derived.Test.YthkppipdflmekaaGreatQInfG
import Derived.Test.YthkppipdflmekaaGreatQAllM
set_option maxRecDepth 100000
set_option maxHeartbeats 2000000
namespace Go.Proofs.YthkppipdflmekaaGreat
open Go.RowKit
set_option linter.unusedVariables false
theorem q0m (l : List Bool) : qb0 (bF8 (qb8 l)) 0 l := fun i hi => by
 unfold bF8
 rw [qgn, qvu, Nat.zero_add]
theorem ql0 (i : Nat) (h : i < 288) : 0 < ln fixL i := by
 have key : ∀ i : Fin 288, 0 < ln fixL i.val := by decide +kernel
 exact key ⟨i, h⟩
theorem qzr (i : Nat) (h : i < 32) : 0 < ln fixD i := by
 have key : ∀ i : Fin 32, 0 < ln fixD i.val := by decide +kernel
 exact key ⟨i, h⟩
theorem qtt {t : Tok} (h : qbr t = true) (hb : t.b < 256) : qxu fixL fixD t := by
 have l1 : fixL.length = 288 := by decide +kernel
 have l2 : fixD.length = 32 := by decide +kernel
 by_cases h0 : t.l = 0
 · have e : symT t = t.b := by unfold symT; rw [if_pos h0]
   exact ⟨hb, by omega, ql0 _ (by omega), fun h => absurd h0 h⟩
 · obtain ⟨_, h3, h258, h1, h32⟩ := qci h0 h
   have e : symT t = 257 + noF t.l.toNat false := by unfold symT; rw [if_neg h0]
   have n1 := (qhr (x := t.l.toNat) (by omega) (by omega)).1
   have m1 := (qpb (x := t.d.toNat) (by omega) (by omega)).1
   have e2 : farT t = noF t.d.toNat true := rfl
   exact ⟨hb, by omega, ql0 _ (by omega), fun _ => ⟨by omega, qzr _ (by omega)⟩⟩
theorem q38 (sym : Nat) : 1 ≤ (tmF sym).1 ∧ (tmF sym).1 ≤ 11 ∧ (tmF sym).2 ≤ 7 := by
 unfold tmF
 split
 · exact ⟨by decide, by decide, by decide⟩
 · split
   · exact ⟨by decide, by decide, by decide⟩
   · split
     · exact ⟨by decide, by decide, by decide⟩
     · exact ⟨by decide, by decide, by decide⟩
theorem RdAt.appI {w w' : World} {B C gr gx n : Nat} {s : ByteArray} {p most out : Nat} {v : Value} {xs : List Value} (h : RdAt w B gr gx s p most out) (hO : w.ownsRow C 3 1 v n xs) (hg : w.grownBy w' v.ownBlock) : RdAt w' B gr gx s p most out := by
 have hk : K1 3 w w' := by
  refine ⟨hg.size, fun b c t q hc h1 => (hg.block b (Array.getElem?_eq_some_iff.1 hc).1 (qcd hO hc h1)).trans hc⟩
 exact h.k1 hk qrv
theorem q2b (B gr gx Bt gt : Nat) (s : ByteArray) (p most out n F : Nat) (ns : List Nat) (r : Except Nat (List Nat × Nat)) (w : World) (hR : RdAt w B gr gx s p most out) (hP : qao w Bt gt ns ns.length) (hLs : Lens ns) (hs : s.size ≤ 100000000) (hp : p ≤ 8 * s.size) (hn : n ≤ 320) (hF : 8 * s.size < p + F) (h : rowF ns (bF8 s) (8 * s.size) n F p [] = r) :
    Calls Tryz.prog 115 #[.pointer (some ⟨gr, 0, none⟩), .pointer (some ⟨gt, 0, none⟩), .int .i64 (n : Int)] w fun e w' => (∃ row q v, r = .ok (row, q) ∧ e = .returned (.tuple #[v, .int .i64 0]) ∧ row.length = n ∧ w'.ownsRow w.heap.size 3 1 v n (nc row) ∧ q ≤ 8 * s.size ∧ p ≤ q ∧ RdAt w' B gr gx s q most out ∧ KS w w' ∧ Below B w w') ∨ (∃ er, r = .error er ∧ er ≠ 0 ∧ e = .returned (.tuple #[.slice none 0 0, .int .i64 (er : Int)]) ∧ KS w w' ∧ Below B w w') := by
 obtain ⟨i0, hi, hz0, hz1, hz2⟩ := info_parts Tryz.infoIq
 obtain ⟨hL15, hLl, hLf⟩ := hLs
 have hB0 := hR.size
 have HR0 : Hid (RdAt w B gr gx s p most out) := hR
 have HP0 : Hid (qao w Bt gt ns ns.length) := hP
 have HH : Hid (rowF ns (bF8 s) (8 * s.size) n F p [] = r) := h
 clear hR hP h
 go_enter Tryz.func115, Tryz.ntmps115
 go_wp2
 go_loopw [8] (fun v wr => ∃ (p' F' : Nat) (acc : List Nat), rowF ns (bF8 s) (8 * s.size) n F' p' acc = r ∧ 8 * s.size < p' + F' ∧ p' ≤ 8 * s.size ∧ p ≤ p' ∧ acc.length ≤ n + 140 ∧ wr.ownsRow w.heap.size 3 1 v acc.length (nc acc) ∧ RdAt wr B gr gx s p' most out ∧ KS w wr ∧ Below B w wr) (fun v _ => n + 140 - lenV v)
 case atStart => exact ⟨p, F, [], HH.out, hF, hp, Nat.le_refl _, Nat.zero_le _, World.ownsRow_nil _ _ _ _, HR0.out, KS.refl _, Below.refl _ _⟩
 case round =>
  clear HH
  obtain ⟨p', F', acc, hT, hF', hp', hpp, hacc, hO, hR, hK, hB⟩ := hrel
  obtain ⟨av, cv, rfl⟩ := qam hO
  obtain ⟨F2, rfl⟩ : ∃ F2, F' = F2 + 1 := ⟨F' - 1, by omega⟩
  rw [rowF] at hT
  obtain ⟨LEN, hLEN⟩ : ∃ LEN, acc.length = LEN := ⟨_, rfl⟩
  rw [hLEN] at hO hT hacc ⊢
  have HLEN : Hid (acc.length = LEN) := hLEN
  clear hLEN
  have HO : Hid (wr.ownsRow w.heap.size 3 1 (.slice av LEN cv) LEN (nc acc)) := hO
  have HR : Hid (RdAt wr B gr gx s p' most out) := hR
  have HK : Hid (KS w wr) := hK
  have HB : Hid (Below B w wr) := hB
  have r0 := hR.cell0
  clear hO hR hK hB
  by_cases hlt : n ≤ LEN
  · rw [if_pos hlt] at hT
    have hli : ¬ (LEN : Int) < (n : Int) := by omega
    by_cases hgt : n < LEN
    · rw [if_pos hgt] at hT
      have hgi : (n : Int) < (LEN : Int) := by omega
      go_wp2
      go_ret2
      exact .inr ⟨3, hT.symm, by decide, rfl, HK.out, HB.out⟩
    · rw [if_neg hgt] at hT
      have hgi : ¬ (n : Int) < (LEN : Int) := by omega
      obtain rfl : LEN = n := by omega
      go_wp2
      go_ret2
      refine .inl ?_
      exact ⟨acc, p', hT.symm, _, rfl, HLEN.out, HO.out, hp', hpp, HR.out, HK.out, HB.out⟩
  · rw [if_neg hlt] at hT
    have hli : (LEN : Int) < (n : Int) := by omega
    cases hx : nxF ns (bF8 s) (8 * s.size) p' with
    | error er =>
     rw [hx] at hT
     simp only at hT
     have HX : Hid (Calls _ _ _ _ _) := qik B gr gx s p' most out er Bt gt ns wr HR.out hs hp' (HP0.out.ks HK.out) hL15 hLl hLf hx
     clear hx
     go_wp2_with fail
     refine (Hid.out HX : Calls _ _ _ _ _).mono ?_
     rintro e w2 ⟨rfl, her, hK2, hB2, _⟩
     have heri : ((er : Int) != 0) = true := by simpa using her
     have HKE : Hid (KS w w2) := HK.out.trans hK2
     have HBE : Hid (Below B w w2) := HB.out.trans hB2
     clear HX hK2 hB2 r0
     go_wp2
     go_ret2
     exact .inr ⟨er, hT.symm, her, rfl, HKE.out, HBE.out⟩
    | ok r1 =>
     obtain ⟨sym, p1⟩ := r1
     rw [hx] at hT
     simp only at hT
     obtain ⟨hsl, hp1a, hp1b⟩ := qdj hL15 hp' hx
     have HX : Hid (Calls _ _ _ _ _) := qla B gr gx s p' most out sym p1 Bt gt ns wr HR.out hs hp' (HP0.out.ks HK.out) hL15 hLl hLf hx
     clear hx
     go_wp2_with fail
     refine (Hid.out HX : Calls _ _ _ _ _).mono ?_
     rintro e w2 ⟨rfl, hR2, hK2, hB2⟩
     have HK2 : Hid (KS w w2) := HK.out.trans hK2
     have HB2 : Hid (Below B w w2) := HB.out.trans hB2
     have HR2 : Hid (RdAt w2 B gr gx s p1 most out) := hR2
     have HO2 : Hid (w2.ownsRow w.heap.size 3 1 (.slice av LEN cv) LEN (nc acc)) := qf4 HO.out hK2 (by decide) (by decide)
     clear HX hK2 hB2 hR2 r0 HO HR HK HB
     by_cases h16 : sym = 16 ∧ LEN = 0
     · rw [if_pos h16] at hT
       obtain ⟨rfl, h0⟩ := h16
       have h0i : ((LEN : Int) == 0) = true := by rw [h0]; rfl
       go_wp2
       go_ret2
       exact .inr ⟨3, hT.symm, by decide, rfl, HK2.out, HB2.out⟩
     · rw [if_neg h16] at hT
       have htm := q38 sym
       have HTM : Hid (∀ W, Calls Tryz.prog 126 #[.int .i64 (sym : Int)] W fun e w' => e = .returned (.tuple #[.int .i64 ((tmF sym).1 : Int), .int .i64 ((tmF sym).2 : Int)]) ∧ w' = W) := fun W => quk sym W
       have HTD : Hid (∀ W, W.ownsRow w.heap.size 3 1 (.slice av LEN cv) LEN (nc acc) → Calls Tryz.prog 127 #[.slice av LEN cv, .int .i64 (sym : Int)] W fun e w' => e = .returned (.int .i64 (qec acc sym : Int)) ∧ w' = W) := fun W hW => qx1 w.heap.size 0 _ acc sym W (by rw [HLEN.out]; exact hW) (by rw [HLEN.out]; omega) (fun e => by
        rw [HLEN.out]
        rcases Nat.eq_zero_or_pos LEN with h | h
        · exact absurd ⟨e, h⟩ h16
        · exact h)
       have hpick : (sym = 16 ∧ ¬ LEN = 0) ∨ ¬ sym = 16 := by
        by_cases e : sym = 16
        · exact .inl ⟨e, fun h => h16 ⟨e, h⟩⟩
        · exact .inr e
       cases ht : tkF (bF8 s) (8 * s.size) p1 (tmF sym).2 with
       | error er =>
        rw [ht] at hT
        simp only at hT
        have her : er ≠ 0 := by rw [(qcu ht).2]; decide
        have heri : ((er : Int) != 0) = true := by simpa using her
        have HTK : Hid (Calls _ _ _ _ _) := qcb B gr gx s p1 most out (tmF sym).2 er w2 HR2.out hs (by omega) hp1b ht
        clear ht h16 HTD
        generalize (tmF sym).1 = A1 at *
        generalize (tmF sym).2 = A2 at *
        rcases hpick with ⟨hsy, hal⟩ | hsy
        · have hsi : ((sym : Int) == 16) = true := by simp; omega
          clear hsy
          have hai : ((LEN : Int) == 0) = false := by simp; omega
          go_wp2_with fail
          refine (HTM.out _).mono ?_
          rintro e w3 ⟨rfl, hw3⟩
          obtain rfl : w2 = w3 := hw3.symm
          go_wp2_with fail
          refine (Hid.out HTK : Calls _ _ _ _ _).mono ?_
          rintro e w4 ⟨rfl, hK4, hB4⟩
          have HKE : Hid (KS w w4) := HK2.out.trans hK4
          have HBE : Hid (Below B w w4) := HB2.out.trans hB4
          clear HTK HTM hK4 hB4 hw3
          go_wp2
          go_ret2
          exact .inr ⟨er, hT.symm, her, rfl, HKE.out, HBE.out⟩
        · have hsi : ((sym : Int) == 16) = false := by simp; omega
          go_wp2_with fail
          refine (HTM.out _).mono ?_
          rintro e w3 ⟨rfl, hw3⟩
          obtain rfl : w2 = w3 := hw3.symm
          go_wp2_with fail
          refine (Hid.out HTK : Calls _ _ _ _ _).mono ?_
          rintro e w4 ⟨rfl, hK4, hB4⟩
          have HKE : Hid (KS w w4) := HK2.out.trans hK4
          have HBE : Hid (Below B w w4) := HB2.out.trans hB4
          clear HTK HTM hK4 hB4 hw3
          go_wp2
          go_ret2
          exact .inr ⟨er, hT.symm, her, rfl, HKE.out, HBE.out⟩
       | ok m =>
        rw [ht] at hT
        simp only at hT
        obtain ⟨hml, hmv⟩ := qcg ht
        have hm128 : m < 128 := by
         have := qaw (fun i => bF8 s (p1 + i)) (tmF sym).2
         have h7 : 2 ^ (tmF sym).2 ≤ 2 ^ 7 := Nat.pow_le_pow_right (by decide) htm.2.2
         omega
        have HTK : Hid (Calls _ _ _ _ _) := qcn B gr gx s p1 most out (tmF sym).2 m w2 HR2.out hs (by omega) ht
        have HMN : Hid (∀ W, Calls Tryz.prog 76 #[.int .i64 (qec acc sym : Int), .int .i64 (((tmF sym).1 + m : Nat) : Int)] W fun e w' => ∃ g, e = .returned (.slice (some ⟨g, 0, none⟩) ((tmF sym).1 + m) ((tmF sym).1 + m)) ∧ w'.ownsRow W.heap.size 3 1 (.slice (some ⟨g, 0, none⟩) ((tmF sym).1 + m) ((tmF sym).1 + m)) ((tmF sym).1 + m) (nc (List.replicate ((tmF sym).1 + m) (qec acc sym))) ∧ Below W.heap.size W w') := fun W => qe4 (qec acc sym) ((tmF sym).1 + m) W (by omega) (by omega)
        have HRP : Hid ((List.replicate ((tmF sym).1 + m) (qec acc sym)).length = (tmF sym).1 + m) := List.length_replicate
        clear ht h16 hmv
        have hadd : ((tmF sym).1 : Int) + (m : Int) = (((tmF sym).1 + m : Nat) : Int) := by omega
        generalize List.replicate ((tmF sym).1 + m) (qec acc sym) = NW at *
        generalize qec acc sym = TD at *
        generalize hNN : (tmF sym).1 + m = NN at *
        have hNb : 1 ≤ NN ∧ NN ≤ 138 := by omega
        clear hNN
        generalize (tmF sym).1 = A1 at *
        generalize (tmF sym).2 = A2 at *
        have hgate : ∀ b : Bool, ((sym : Int) == 16) = b → b = true → ((LEN : Int) == 0) = false := fun b hb hb2 => by
         rcases hpick with ⟨_, hal⟩ | hsy
         · simp; omega
         · rw [hb2] at hb; simp at hb; omega
        cases hq : ((sym : Int) == 16)
        all_goals
         have hgq := hgate _ hq
         try (have hai := hgq rfl)
         clear hgq hgate hpick
         go_wp2_with fail
         refine (HTM.out _).mono ?_
         rintro e w3 ⟨rfl, hw3⟩
         obtain rfl : w2 = w3 := hw3.symm
         go_wp2_with fail
         refine (Hid.out HTK : Calls _ _ _ _ _).mono ?_
         rintro e w4 ⟨rfl, hR4, hK4, hB4⟩
         have HO4 : Hid (w4.ownsRow w.heap.size 3 1 (.slice av LEN cv) LEN (nc acc)) := qf4 HO2.out hK4 (by decide) (by decide)
         have HK4 : Hid (KS w w4) := HK2.out.trans hK4
         have HB4 : Hid (Below B w w4) := HB2.out.trans hB4
         have HR4 : Hid (RdAt w4 B gr gx s (p1 + A2) most out) := hR4
         clear HTK HTM hR4 hK4 hB4 hw3 HO2 HR2 HK2 HB2
         go_wp2_with fail
         refine (HTD.out _ HO4.out).mono ?_
         rintro e w5 ⟨rfl, hw5⟩
         obtain rfl : w4 = w5 := hw5.symm
         clear hw5 HTD
         go_wp2_with fail
         refine (HMN.out _).mono ?_
         rintro e w6 ⟨g, rfl, hO6, hB6⟩
         have hgl := (hO6.lt g rfl).2
         have HN : Hid (∀ j u, (nc NW)[j]? = some u → w6.cell? ((⟨g, 0, none⟩ : Addr).add j) = some u) := fun j u hu => by
          have hadd : (⟨g, 0, none⟩ : Addr).add j = ⟨g, j, none⟩ := by unfold Addr.add; split <;> simp_all
          have hj : j < NW.length := by have := (List.getElem?_eq_some_iff.1 hu).1; rwa [qel] at this
          rw [hadd, hO6.cellAt j (by rw [HRP.out] at hj; omega)]; exact hu
         have HONE : Hid (∀ u ∈ nc NW, u.oneCell' = true) := qv6 _
         have HLN : Hid ((nc NW).length = NN * 1) := by unfold Hid; rw [qel, HRP.out, Nat.mul_one]
         have HO7 : Hid (w6.ownsRow w.heap.size 3 1 (.slice av LEN cv) LEN (nc acc)) := qa0 HO4.out hB6
         have HK7 : Hid (KS w w6) := HK4.out.trans (qbd hB6)
         have hsw : w.heap.size ≤ w4.heap.size := HB4.out.size
         have hsw6 : w.heap.size ≤ w6.heap.size := Nat.le_trans hsw hB6.size
         have HB7 : Hid (Below B w w6) := HB4.out.trans (hB6.mono (by omega))
         have HR7 : Hid (RdAt w6 B gr gx s (p1 + A2) most out) := HR4.out.below hB6
         clear hO6 hB6 HO4 HK4 HB4 HR4 HMN
         go_wp2_with (at_builtin; refine wpList_append_own _ rfl _ _ 39 rfl w.heap.size 3 i0 (.int .i64 0) 1 8 Tryz.underlying39 hi hz0 hz1 hz2 rfl (by decide) _ _ _ rfl HO7.out ⟨g, 0, none⟩ NN NN (nc NW) rfl HLN.out HN.out HONE.out (by unfold maxLen; omega) (by omega) hsw6 ?_)
         intro v8 w8 hown8 hg8 _
         have hO8 : w8.ownsRow w.heap.size 3 1 v8 (acc ++ NW).length (nc (acc ++ NW)) := by rw [qv7, List.length_append, HRP.out, HLEN.out]; exact hown8
         have HO8 : Hid (w8.ownsRow w.heap.size 3 1 v8 (acc ++ NW).length (nc (acc ++ NW))) := hO8
         have HR8 : Hid (RdAt w8 B gr gx s (p1 + A2) most out) := HR7.out.appI HO7.out hg8
         have HK8 : Hid (KS w w8) := q0y HK7.out HO7.out (Nat.le_refl _) hg8
         have HB8 : Hid (Below B w w8) := HB7.out.grown hg8 (by omega) (fun q hq => by have := (HO7.out.lt q hq).1; omega)
         have HLL : Hid ((acc ++ NW).length = LEN + NN) := by unfold Hid; rw [List.length_append, HRP.out, HLEN.out]
         obtain ⟨a8, c8, rfl⟩ := qam hO8
         clear hown8 hg8 hO8 HO7 HR7 HK7 HB7 HN
         go_wp2
         go_roundw
         case rel => exact ⟨p1 + A2, F2, acc ++ NW, hT, by omega, hml, by omega, by rw [HLL.out]; omega, HO8.out, HR8.out, HK8.out, HB8.out⟩
         case measure => simp only [lenV]; rw [HLL.out]; omega
set_option linter.unusedSimpArgs false
def twoL (a b : List Nat) (i : Nat) : List Nat := if i = 0 then a else b
theorem qse (Ls : Nat → List Nat) (h : ∀ i, i < 2 → (Ls i).length ≤ 300) : ∀ k, k ≤ 2 → (catN Ls k).length ≤ 300 * k
 | 0, _ => Nat.le_refl _
 | k + 1, hk => by
  have := qse Ls h k (by omega)
  have := h k (by omega)
  rw [catN, List.length_append]; omega
theorem q3g (gp : Nat) (P : Nat → Value) (Ls : Nat → List Nat) (w : World) (hg : gp < w.heap.size) (hc : ∀ i, i < 2 → w.cell? ⟨gp, i, none⟩ = some (P i)) (hO : ∀ i, i < 2 → IQ w (P i) (zL (Ls i))) (hl : ∀ i, i < 2 → 1 ≤ (Ls i).length ∧ (Ls i).length ≤ 300) :
    Calls Tryz.prog 51 #[.slice (some ⟨gp, 0, none⟩) 2 2] w fun e w' => ∃ v, e = .returned v ∧ w'.ownsRow w.heap.size 3 1 v (catN Ls 2).length (nc (catN Ls 2)) ∧ Below w.heap.size w w' := by
 obtain ⟨i0, hi, hz0, hz1, hz2⟩ := info_parts Tryz.infoIq
 have HC : Hid (∀ i, i < 2 → w.cell? ⟨gp, i, none⟩ = some (P i)) := hc
 have HO : Hid (∀ i, i < 2 → IQ w (P i) (zL (Ls i))) := hO
 have HL : Hid (∀ i, i < 2 → 1 ≤ (Ls i).length ∧ (Ls i).length ≤ 300) := hl
 have HCL : Hid (∀ k, k ≤ 2 → (catN Ls k).length ≤ 300 * k) := qse Ls (fun i hi => (hl i hi).2)
 clear hc hO hl
 go_enter Tryz.func51, Tryz.ntmps51
 go_wp2
 go_loop [3, 11] (fun sz i => ∃ k : Nat, k ≤ 2 ∧ i = .int .i64 (k : Int) ∧ sz = .int .i64 ((catN Ls k).length : Int)) (fun _ i => 2 - (intOf i).toNat)
 case atStart => exact ⟨0, by omega, rfl, rfl⟩
 case round =>
  obtain ⟨k, hk, rfl, rfl⟩ := hrel
  have hcl := HCL.out k hk
  by_cases hlt : k < 2
  · have ck := HC.out k hlt
    have hlk := HL.out k hlt
    obtain ⟨g, o, cap, hv, -, -⟩ := HO.out k hlt
    rw [hv, qa9] at ck
    have HS : Hid ((catN Ls (k + 1)).length = (catN Ls k).length + (Ls k).length) := by unfold Hid; rw [catN, List.length_append]
    have hki : (k : Int) < 2 := by omega
    have hki0 : (0 : Int) ≤ (k : Int) := by omega
    clear hv
    generalize (catN Ls k).length = X at *
    generalize (Ls k).length = Y at *
    go_wp2
    go_round
    case rel => exact ⟨k + 1, by omega, by go_num, by rw [HS.out]; go_num⟩
    case measure => simp [intOf]; omega
  · obtain rfl : k = 2 := by omega
    have h4 : 1 ≤ (catN Ls 2).length := by
     rw [catN, List.length_append]
     have := (HL.out 1 (by decide)).1
     omega
    have HG : Hid (Calls _ _ _ _ _) := qrn (catN Ls 2).length w h4 (by omega)
    go_wp2_with fail
    refine (Hid.out HG : Calls _ _ _ _ _).mono ?_
    rintro e w1 ⟨v1, rfl, hO1, hB1⟩
    have HO1 : Hid (w1.ownsRow w.heap.size 3 1 v1 0 []) := hO1
    have HB1 : Hid (Below w.heap.size w w1) := hB1
    clear HG hO1 hB1
    go_wp2
    go_loopw [6, 27] (fun v i wr => ∃ k : Nat, k ≤ 2 ∧ i = .int .i64 (k : Int) ∧ wr.ownsRow w.heap.size 3 1 v (catN Ls k).length (nc (catN Ls k)) ∧ Below w.heap.size w wr) (fun _ i _ => 2 - (intOf i).toNat)
    case atStart => exact ⟨0, by omega, rfl, HO1.out, HB1.out⟩
    case round =>
     clear HO1 HB1
     obtain ⟨k, hk, rfl, hO, hB⟩ := hrel
     have hck := HCL.out k hk
     have hsz := hB.size
     by_cases hlt : k < 2
     · have ck := HC.out k hlt
       rw [← hB.cell (p := ⟨gp, k, none⟩) hg] at ck
       have hlk := HL.out k hlt
       obtain ⟨g, o, cap, hv, hgl, hgc⟩ := HO.out k hlt
       rw [hv, qa9] at ck
       have HN : Hid (∀ j u, (nc (Ls k))[j]? = some u → wr.cell? ((⟨g, o, none⟩ : Addr).add j) = some u) := fun j u hu => by
        have hj : j < (Ls k).length := by have := (List.getElem?_eq_some_iff.1 hu).1; rwa [qel] at this
        rw [Addr.add_mid, hB.cell (p := ⟨g, o + j, none⟩) hgl, hgc j (by rw [qa9]; exact hj), qgi]
        rw [qlp _ _ hj] at hu
        exact hu
       have HONE : Hid (∀ u ∈ nc (Ls k), u.oneCell' = true) := qv6 _
       have HLN : Hid ((nc (Ls k)).length = (Ls k).length * 1) := by unfold Hid; rw [qel, Nat.mul_one]
       have hki : (k : Int) < 2 := by omega
       have hki0 : (0 : Int) ≤ (k : Int) := by omega
       clear hv hgc
       go_wp2_with (at_builtin; refine wpList_append_own _ rfl _ _ 39 rfl w.heap.size 3 i0 (.int .i64 0) 1 8 Tryz.underlying39 hi hz0 hz1 hz2 rfl (by decide) _ _ _ rfl hO ⟨g, o, none⟩ (Ls k).length cap (nc (Ls k)) rfl HLN.out HN.out HONE.out (by unfold maxLen; omega) (by omega) hsz ?_)
       intro v8 w8 hown8 hg8 _
       have HO8 : Hid (w8.ownsRow w.heap.size 3 1 v8 (catN Ls (k + 1)).length (nc (catN Ls (k + 1)))) := by unfold Hid; rw [catN, qv7, List.length_append]; exact hown8
       have HB8 : Hid (Below w.heap.size w w8) := hB.grown hg8 hsz (fun q hq => (hO.lt q hq).1)
       clear hown8 hg8 hO hB HN ck
       go_wp2
       go_roundw
       case rel => exact ⟨k + 1, by omega, by go_num, HO8.out, HB8.out⟩
       case measure => simp [intOf]; omega
     · obtain rfl : k = 2 := by omega
       go_wp2
       go_ret
       exact ⟨_, rfl, hO, hB⟩
end Go.Proofs.YthkppipdflmekaaGreat
