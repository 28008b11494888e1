/- Contract of the document's Inflate. -/
import Derived.Test.YthkppipdflmekaaGreatQRTkM
import Derived.Test.YthkppipdflmekaaGreatQRDynM
import Derived.Test.YthkppipdflmekaaGreatQRDyn
import Derived.Test.YthkppipdflmekaaGreatQRSiz
set_option maxRecDepth 100000
set_option maxHeartbeats 40000000
namespace Go.Proofs.YthkppipdflmekaaGreat
open Go.RowKit
set_option linter.unusedVariables false
set_option linter.unusedSimpArgs false
theorem XB.left {w W : World} {g c : Nat} {L : List Bool} {bx p o m e : Nat} {vo : Value} {n : Nat} {xs : List Value} {l : List Item} (h : XB w W g c L bx p o m e vo n xs l) (N : Nat) : qs9 W bx N = if e = 0 then N + 2 - p else 0 := by
 obtain ⟨⟨_, a1, _, _, a4⟩, _⟩ := qaa h.bxh
 unfold qs9
 rw [a4, a1]
 simp
theorem XC.app {w W W' : World} {g c : Nat} {L : List Bool} {bx p o m e : Nat} {vo vo' : Value} {n n' : Nat} {xs xs' : List Value} {l l' : List Item} {bb k : Nat} {t : ByteArray} {tv : Value} (h : XC w W g c L bx p o m e vo n xs l bb k t tv) (x : Obj) (hg : (W.alloc x).grownBy W' vo.ownBlock) (ho : W'.ownsRow w.heap.size 51 3 vo' n' xs') (hl : ∀ y ∈ l', qxv W w.heap.size y) : XB w W' g c L bx p o m e vo' n' xs' l' := by
 have ha := h.xb.alloc x
 have hne : ∀ {ob}, OB (W.alloc x) w.heap.size (.slice (some ⟨g, 0, none⟩) L.length c) ob → OB W' w.heap.size (.slice (some ⟨g, 0, none⟩) L.length c) ob := fun {ob} k => by
  obtain ⟨g', c', e, ho⟩ := k
  exact ⟨g', c', e, qf3 ho ha.out (by decide) hg⟩
 exact ⟨hne ha.ob, (hg.block _ (qay ha.bxh) (qcd ha.out ha.bxh (by decide))).trans ha.bxh, ha.lo, ha.bel.grown hg ha.bel.size (fun q hq => (ha.out.lt q hq).1), ho, fun y hy => ⟨(hl y hy).1, qf3 (qgo (hl y hy).2 ((Below.refl _ W).alloc (Nat.le_refl _) x)) ha.out (by decide) hg⟩⟩
theorem XB.drewN {w W : World} {g c : Nat} {L : List Bool} {bx p o m e : Nat} {vo : Value} {n : Nat} {xs : List Value} {l : List Item} (h : XB w W g c L bx p o m e vo n xs l) (k : Nat) : XB w (W.drewN k) g c L bx p o m e vo n xs l :=
 ⟨by obtain ⟨g', c', e, ho⟩ := h.ob; exact ⟨g', c', e, ho⟩, h.bxh, h.lo, ⟨h.bel.os, h.bel.tape, h.bel.output, h.bel.size, h.bel.block⟩, h.out, h.its⟩
theorem q3l (f : Nat → Bool) (q n : Nat) : ∀ x ∈ bytF f q n, x < 256 := by
 intro x hx
 unfold bytF at hx
 obtain ⟨k, _, rfl⟩ := List.mem_map.1 hx
 exact qaw _ 8
theorem q3o (l : List Nat) (h : ∀ x ∈ l, x < 256) : (bs l).data.toList.map UInt8.toNat = l := by
 rw [qb4]
 rw [List.map_map]
 conv => rhs; rw [← List.map_id l]
 exact List.map_congr_left fun x hx => by
  have := h x hx
  simp only [Function.comp, id]
  exact UInt8.toNat_ofNat_of_lt' (by show x < 256; exact this)
theorem quz {f : Nat → Bool} {L most p out : Nat} {b : List Nat} {q o : Nat} (h : stF f L most p out = .ok (b, q, o)) : (∀ x ∈ b, x < 256) ∧ q ≤ L ∧ o ≤ most := by
 have h2 := qop h
 refine ⟨?_, h2.2.2, h2.2.1⟩
 obtain ⟨n, n2, h1, h2, h3, h4, rfl, rfl, rfl, h5⟩ := qif h
 exact q3l _ _ _
theorem qwf {w : World} {B : Nat} {v : Value} {ns : List Nat} (h : w.ownsRow B 3 1 v ns.length (nc ns)) (hn : 0 < ns.length) : IQ w v (zz ns) := by
 rcases h.2 with ⟨_, hz⟩ | ⟨g, cap, cur, rfl, _⟩
 · omega
 · refine ⟨g, 0, cap, by rw [qa4], (h.lt g rfl).2, fun i hi => ?_⟩
   rw [qa4] at hi
   have := World.ownsRow.cells h (g := g) rfl i (.int .i64 ((ns.getD i 0 : Nat) : Int)) (by unfold nc; rw [List.getElem?_map, List.getD_eq_getElem?_getD, List.getElem?_eq_getElem hi]; rfl)
   rw [Addr.add_mid, Nat.zero_add] at this
   rw [Nat.zero_add, this]
   unfold zz
   simp only [List.getD_eq_getElem?_getD, List.getElem?_map, List.getElem?_eq_getElem hi, Option.getD_some, Option.map_some]
theorem qo1 (s S : ByteArray) (a most : Nat) (r : Except Nat (List Blk × Nat)) (w : World) (ha : a ≤ s.size) (hm : most ≤ 65536) (hs : s.size ≤ 10000) (hS : S = s.extract a s.size) (h : qbt (bF8 S) (8 * S.size) most (8 * S.size + 1) 0 0 [] = r) :
    Calls Tryz.prog 16 #[.string s, .int .i64 (a : Int), .int .i64 (most : Int)] w fun e w' => (∃ l q v, r = .ok (l.map Prod.fst, q) ∧ e = .returned (.tuple #[v, .int .i64 (((q + 7) / 8 : Nat) : Int), .int .i64 0]) ∧ q41 w' w.heap.size v l ∧ q ≤ 8 * S.size ∧ l.length ≤ 8 * S.size ∧ Below w.heap.size w w') ∨ (∃ er, r = .error er ∧ er ≠ 0 ∧ e = .returned (.tuple #[.slice none 0 0, .int .i64 0, .int .i64 (er : Int)]) ∧ Below w.heap.size w w') := by
 obtain ⟨i0, hi, hz0, hz1, hz2⟩ := info_parts Tryz.infoBkR
 have hSs : S.size ≤ 10000 := by
  rw [hS, ByteArray.size_extract]; omega
 have g1 : ¬ (a : Int) < 0 := by omega
 have g2 : ¬ (s.size : Int) < (a : Int) := by omega
 have g3 : ¬ (most : Int) < 0 := by omega
 have g4 : ¬ (65536 : Int) < (most : Int) := by omega
 have g5 : (a : Int) ≤ (s.size : Int) := by omega
 obtain ⟨L, hLd⟩ : ∃ L, L = qow S.data.toList := ⟨_, rfl⟩
 have hLl : 8 * S.size = L.length := by rw [hLd, qii, qad]
 have hff : bF8 S = fun i => L.getD i false := by funext i; rw [hLd, qqy]; rfl
 have HRW : Hid (∀ W, Calls Tryz.prog 36 #[.string S] W fun e w' => ∃ v, e = .returned v ∧ OB w' W.heap.size v L ∧ Below W.heap.size W w') := fun W => by rw [hLd]; exact qyx S W hSs
 have hN : L.length ≤ 80000 := by omega
 rw [hff, hLl] at h
 have HH : Hid (qbt (fun i => L.getD i false) L.length most (L.length + 1) 0 0 [] = r) := h
 have HLL : Hid (8 * S.size = L.length) := hLl
 have hS' := hS.symm
 clear h hS hLd hLl hff
 go_enter Tryz.func16, Tryz.ntmps16
 go_wp2_with fail
 refine (HRW.out w).mono ?_
 rintro e w1 ⟨v, rfl, hO, hb1⟩
 obtain ⟨g, c, rfl, _⟩ := id hO
 have HX0 : Hid (XB w ((w1.alloc (.cells (snC g L.length c 0 0 most 0) 99)).alloc (.cells #[] 51)) g c L w1.heap.size 0 0 most 0 (.slice (some ⟨w1.heap.size + 1, 0, none⟩) 0 0) 0 [] []) := by
  have hw1 := hb1.size
  have hA : Below w1.heap.size w1 ((w1.alloc (.cells (snC g L.length c 0 0 most 0) 99)).alloc (.cells #[] 51)) := bel2 w1 _ _
  refine ⟨hO.below hA, ?_, hw1, hb1.trans (hA.mono hw1), ?_, fun _ h => nomatch h⟩
  · rw [heap_alloc_old _ _ (by rw [World.size_alloc]; omega)]; exact heap_alloc_new w1 _
  · have := World.ownsRow_lit (base := w.heap.size) (e := 51) (size := 3) (w1.alloc (.cells (snC g L.length c 0 0 most 0) 99)) #[] 0 (by rw [World.size_alloc]; omega) (by decide) rfl
    rw [World.size_alloc] at this
    exact this
 unfold snC at HX0
 simp only [show ((0 : Nat) : Int) = 0 from rfl] at HX0
 clear HRW hO hb1 hS' g1 g2 g3 g4 g5
 go_upto_region 5 with fail
 generalize World.alloc (World.alloc w1 _) _ = W1 at *
 generalize w1.heap.size = bx at *
 go_wp2
 go_loopw [10, 11] (fun vo la W => ∃ (k p o e last n : Nat) (xs : List Value) (l : List Item), la = .int .i64 (last : Int) ∧ XB w W g c L bx p o most e vo n xs l ∧ n ≤ 90000 ∧ ((e = 0 ∧ last = 0 ∧ p ≤ L.length ∧ o ≤ most ∧ n = l.length ∧ xs = bcs l ∧ L.length + 1 ≤ k + p ∧ l.length ≤ p ∧ qbt (fun i => L.getD i false) L.length most k p o (l.map Prod.fst) = r) ∨ (e = 0 ∧ last = 1 ∧ p ≤ L.length ∧ n = l.length ∧ l.length ≤ p ∧ xs = bcs l ∧ r = .ok (l.map Prod.fst, p)) ∨ (e ≠ 0 ∧ r = .error e))) (fun _ _ W => qs9 W bx L.length)
 case atStart => exact ⟨L.length + 1, 0, 0, 0, 0, 0, [], [], rfl, HX0.out, by omega, .inl ⟨rfl, rfl, Nat.zero_le _, Nat.zero_le _, rfl, rfl, by omega, Nat.zero_le _, HH.out⟩⟩
 case round =>
  clear HX0 HH
  obtain ⟨k, p, o, e, last, n, xs, l, rfl, hX, hn, hcase⟩ := hrel
  obtain ⟨oa, oc, rfl⟩ := qam hX.out
  have HMS : Hid (_ = _) := hX.left L.length
  have HX : Hid (XB w wr g c L bx p o most e (.slice oa n oc) n xs l) := hX
  generalize hW7 : wr = W7 at *
  clear hW7
  clear hX
  rcases hcase with ⟨rfl, rfl, hp, ho, hnl, hxs, hk, hlp, hr⟩ | ⟨rfl, rfl, hp, hnl, hlp, hxs, hr⟩ | ⟨he, hr⟩
  · obtain ⟨k, rfl⟩ : ∃ k', k = k' + 1 := ⟨k - 1, by omega⟩
    rw [qbt] at hr
    have HR : Hid (_ = r) := hr
    have HNL : Hid (n = l.length) := hnl
    have HXS : Hid (xs = bcs l) := hxs
    clear hr hnl hxs
    have HC0 : Hid (XC w _ g c L bx p o most 0 (.slice oa n oc) n xs l W7.heap.size 0 ⟨#[]⟩ (.slice none 0 0)) := HX.out.blk 0 ⟨#[]⟩ (.slice none 0 0)
    obtain ⟨⟨a0, a1, a2, a3, a4⟩, _⟩ := qaa HX.out.bxh
    simp only [show ((0 : Nat) : Int) = 0 from rfl] at a4 HC0
    clear HX
    go_upto_region 8 with fail
    generalize World.alloc W7 _ = W8 at *
    generalize W7.heap.size = bb at *
    clear a0 a1 a2 a3 a4
    obtain ⟨⟨a0, a1, a2, a3, a4⟩, _⟩ := qaa HC0.out.xb.bxh
    simp only [show ((0 : Nat) : Int) = 0 from rfl] at a4
    go_wp2_with fail
    refine (qcv g c p o most 0 1 w.heap.size 0 rfl 1 rfl L W8 HC0.out.xb.ob (by omega) (by omega) (by decide)).mono ?_
    rintro x V ⟨p1, e1, v1, rfl, hn1, hb⟩
    clear a0 a1 a2 a3 a4
    have hs := HC0.out.call hb
    obtain ⟨⟨a0, a1, a2, a3, a4⟩, b0, b1, b2, b3, b4⟩ := qaa hs.xb.bxh
    have HC1 : Hid (XC w _ g c L bx p1 o most e1 (.slice oa n oc) n xs l bb 0 ⟨#[]⟩ (.slice none 0 0)) := hs.put p1 o most e1
    unfold put5 at HC1
    clear hb hs HC0
    go_upto_region 9 with fail
    generalize World.setCell _ _ _ = W9 at *
    clear a0 a1 a2 a3 a4 b0 b1 b2 b3 b4
    have hp1 : p1 ≤ L.length + p := by rw [hn1.out.1]; unfold nuP; split <;> omega
    obtain ⟨⟨a0, a1, a2, a3, a4⟩, _⟩ := qaa HC1.out.xb.bxh
    go_wp2_with fail
    refine (qcv g c p1 o most e1 2 w.heap.size (e1 : Int) rfl 2 rfl L W9 HC1.out.xb.ob (by omega) (by omega) (by decide)).mono ?_
    rintro x V ⟨p2, e2, v2, rfl, hn2, hb⟩
    clear a0 a1 a2 a3 a4
    have hs := HC1.out.call hb
    have hbb := hs.bbn.1
    have hbb2 : ¬ bx = bb := fun e => hbb e.symm
    obtain ⟨⟨a0, a1, a2, a3, a4⟩, b0, b1, b2, b3, b4⟩ := qaa hs.xb.bxh
    obtain ⟨d0, d1, d2, f0, f1, f2⟩ := qaf hs.bbh
    have HC2 : Hid (XC w _ g c L bx p2 o most e2 (.slice oa n oc) n xs l bb v2 ⟨#[]⟩ (.slice none 0 0)) := (hs.put p2 o most e2).set 0 (.int .i64 (v2 : Int)) v2 ⟨#[]⟩ (.slice none 0 0) rfl
    unfold put5 at HC2
    have HHD : Hid (_ ∧ _) := q2q (m := most) (o := o) hn1.out hn2.out
    clear hb hs HC1 hn1 hn2
    go_upto_region 10 with fail
    generalize World.setCell _ _ _ = W10 at *
    clear a0 a1 a2 a3 a4 b0 b1 b2 b3 b4 d0 d1 d2 f0 f1 f2 hbb hbb2
    have HPL : Hid (∀ {b : Blk} {la q1 o2 : Nat}, blkF (fun i => L.getD i false) L.length most p o = .ok (b, la, q1, o2) → p < q1 ∧ la < 2) := fun h => ⟨q3p h, q0e h⟩
    generalize hbk : blkF (fun i => L.getD i false) L.length most p o = bk at HR HHD HPL
    obtain ⟨d0, _⟩ := qaf HC2.out.bbh
    go_upto_block 2 with fail
    clear d0
    go_cut [] (fun wx => ∃ (q o1 e3 : Nat) (t : ByteArray) (ta : Option Addr) (tn tc : Nat), XC w wx g c L bx q o1 most e3 (.slice oa n oc) n xs l bb v2 t (.slice ta tn tc) ∧ Hid (JB wx w.heap.size L most q o1 e3 v2 v1 t (.slice ta tn tc) bk))
    case first =>
     clear HMS HR HNL HXS
     by_cases he2 : e2 = 0
     · obtain ⟨hp2', hpl, hv1, hv2, hbd⟩ := HHD.out.2 he2
       subst he2
       subst hp2'
       have HBD : Hid (_ = _) := hbd
       clear hbd HHD
       have hv : v2 = 0 ∨ v2 = 1 ∨ v2 = 2 ∨ v2 = 3 := by omega
       rcases hv with h | h | h | h
       · have HV : Hid (v2 = 0) := h
         have k0 : ((v2 : Int) == 0) = true := by rw [h]; rfl
         rw [h] at HBD
         clear h hv1 hv2
         obtain ⟨r0, hr0⟩ : ∃ r0, stF (fun i => L.getD i false) L.length most (p + 3) o = r0 := ⟨_, rfl⟩
         have HR0 : Hid (_ = r0) := hr0
         have HST : Hid (Calls _ _ _ _ _) := qvb g c (p + 3) o most w.heap.size L W10 r0 HC2.out.xb.ob hN hpl (by omega) (by omega) hr0
         clear hr0
         obtain ⟨⟨a0, a1, a2, a3, a4⟩, _⟩ := qaa HC2.out.xb.bxh
         obtain ⟨d0, d1, d2, _⟩ := qaf HC2.out.bbh
         simp only [show ((0 : Nat) : Int) = 0 from rfl] at a4
         unfold sn at HST
         simp only [show ((0 : Nat) : Int) = 0 from rfl] at HST
         go_wp2_with fail
         refine (Hid.out HST : Calls _ _ _ _ _).mono ?_
         clear HST
         rintro x V ⟨hx, hb⟩
         clear a0 a1 a2 a3 a4 d0 d1 d2
         have hs := HC2.out.call hb
         have hbb := hs.bbn.1
         have hbb2 : ¬ bx = bb := fun e => hbb e.symm
         obtain ⟨⟨a0, a1, a2, a3, a4⟩, b0, b1, b2, b3, b4⟩ := qaa hs.xb.bxh
         obtain ⟨d0, d1, d2, f0, f1, f2⟩ := qaf hs.bbh
         rcases hx with ⟨b, q, o1, hok, rfl⟩ | ⟨er, q, o1, t, hno, her, rfl⟩
         · have HC3 : Hid (XC w _ g c L bx q o1 most 0 (.slice oa n oc) n xs l bb v2 (bs b) (.slice none 0 0)) := (hs.put q o1 most 0).set 1 (.string (bs b)) v2 (bs b) (.slice none 0 0) rfl
           unfold put5 at HC3
           simp only [show ((0 : Nat) : Int) = 0 from rfl] at HC3
           have HOK : Hid (r0 = .ok (b, q, o1)) := hok
           clear hok hb hs HC2
           go_wp2
           go_meet
           refine ⟨q, o1, 0, bs b, none, 0, 0, HC3.out, ?_⟩
           have h0 := HR0.out
           rw [HOK.out] at h0
           obtain ⟨k1, k2, k3⟩ := quz h0
           refine .inl ⟨rfl, k2, k3, [], ?_, World.ownsRow_nil _ _ _ _⟩
           rw [HBD.out, HV.out]
           unfold bdF
           rw [if_pos rfl, h0, q3o b k1]
         · have HC3 : Hid (XC w _ g c L bx q o1 most er (.slice oa n oc) n xs l bb v2 t (.slice none 0 0)) := (hs.put q o1 most er).set 1 (.string t) v2 t (.slice none 0 0) rfl
           unfold put5 at HC3
           have HOK : Hid (r0 = .error er) := hno
           clear hno hb hs HC2
           go_wp2
           go_meet
           refine ⟨q, o1, er, t, none, 0, 0, HC3.out, .inr ⟨her, ?_⟩⟩
           have h0 := HR0.out
           rw [HOK.out] at h0
           rw [HBD.out]
           unfold bdF
           rw [if_pos rfl, h0]
       · have HV : Hid (v2 = 1) := h
         have k0 : ((v2 : Int) == 0) = false := by rw [h]; rfl
         have k1 : ((v2 : Int) == 1) = true := by rw [h]; rfl
         rw [h] at HBD
         clear h hv1 hv2
         go_wp2_with fail
         refine (qte W10).mono ?_
         rintro x V ⟨v, u, rfl, hvo, huo, hb⟩
         have HC3 : Hid (XC w V g c L bx (p + 3) o most 0 (.slice oa n oc) n xs l bb v2 ⟨#[]⟩ (.slice none 0 0)) := HC2.out.call hb
         have hvq : IQ V v (zz fixL) := qwf (ns := fixL) hvo (by decide)
         have huq : IQ V u (zz fixD) := qwf (ns := fixD) huo (by decide)
         obtain ⟨r0, hr0⟩ : ∃ r0, tksF fixL fixD (fun i => L.getD i false) L.length most (L.length + 1) (p + 3) o [] = r0 := ⟨_, rfl⟩
         have HR0 : Hid (_ = r0) := hr0
         have HST : Hid (Calls _ _ _ _ _) := qmu g c (p + 3) o most w.heap.size L v u fixL fixD V r0 HC3.out.xb.ob hvq huq ql2 ql4 hN hpl ho hm hr0
         clear hr0 hvq huq hvo huo hb HC2
         obtain ⟨⟨a0, a1, a2, a3, a4⟩, _⟩ := qaa HC3.out.xb.bxh
         simp only [show ((0 : Nat) : Int) = 0 from rfl] at a4
         unfold sn at HST
         simp only [show ((0 : Nat) : Int) = 0 from rfl] at HST
         go_wp2_with fail
         refine (Hid.out HST : Calls _ _ _ _ _).mono ?_
         clear HST
         rintro x V4 ⟨ta, tn, tc, q, o1, e1, rfl, hx, hb⟩
         clear a0 a1 a2 a3 a4
         have hs := HC3.out.call hb
         have hbb := hs.bbn.1
         have hbb2 : ¬ bx = bb := fun e => hbb e.symm
         obtain ⟨⟨a0, a1, a2, a3, a4⟩, b0, b1, b2, b3, b4⟩ := qaa hs.xb.bxh
         obtain ⟨d0, d1, d2, f0, f1, f2⟩ := qaf hs.bbh
         have HC4 : Hid (XC w _ g c L bx q o1 most e1 (.slice oa n oc) n xs l bb v2 ⟨#[]⟩ (.slice ta tn tc)) := (hs.put q o1 most e1).set 2 (.slice ta tn tc) v2 ⟨#[]⟩ (.slice ta tn tc) rfl
         have HJ : Hid (JB ((put5 V4 bx (.slice (some ⟨g, 0, none⟩) L.length c) (.int .i64 (q : Int)) (.int .i64 (o1 : Int)) (.int .i64 (most : Int)) (.int .i64 (e1 : Int))).setCell ⟨bb, 2, none⟩ (.slice ta tn tc)) w.heap.size L most q o1 e1 v2 v1 ⟨#[]⟩ (.slice ta tn tc) bk) := by
          rcases hx with ⟨he, ts, h1, h2, h3⟩ | ⟨he, h1⟩
          · have h0 := HR0.out
            rw [h1] at h0
            have h4 := qft qgc.1 qgd.1 _ _ _ _ _ _ _ hpl ho h0
            refine .inl ⟨he, h4.2.2, h4.2.1, ts, ?_, ?_⟩
            · rw [HBD.out, HV.out]
              unfold bdF
              rw [if_neg (by decide), if_pos rfl, h0]; rfl
            · rw [h2] at h3 ⊢
              have g1 := qf5 h3 HC3.out.xb.bel.size
              have g2 := qan g1 hs.xb.bxh (by decide) (qar V4 bx (.slice (some ⟨g, 0, none⟩) L.length c) (.int .i64 (q : Int)) (.int .i64 (o1 : Int)) (.int .i64 (most : Int)) (.int .i64 (e1 : Int)))
              exact qan g2 (hs.put q o1 most e1).bbh (by decide) (gset (qcj _ (some bb)) 2 _)
          · refine .inr ⟨he, ?_⟩
            have h0 := HR0.out
            rw [h1] at h0
            rw [HBD.out]
            unfold bdF
            rw [if_neg (by decide), if_pos rfl, h0]
         unfold put5 at HC4 HJ
         clear hx hb hs HC3
         go_wp2
         go_meet
         exact ⟨q, o1, e1, ⟨#[]⟩, ta, tn, tc, HC4.out, HJ.out⟩
       · have HV : Hid (v2 = 2) := h
         have k0 : ((v2 : Int) == 0) = false := by rw [h]; rfl
         have k1 : ((v2 : Int) == 1) = false := by rw [h]; rfl
         have k2 : ((v2 : Int) == 2) = true := by rw [h]; rfl
         rw [h] at HBD
         clear h hv1 hv2
         have HST : Hid (Calls _ _ _ _ _) := qy8 g c (p + 3) o most w.heap.size L W10 HC2.out.xb.ob hN hpl ho hm
         obtain ⟨⟨a0, a1, a2, a3, a4⟩, _⟩ := qaa HC2.out.xb.bxh
         simp only [show ((0 : Nat) : Int) = 0 from rfl] at a4
         unfold sn at HST
         simp only [show ((0 : Nat) : Int) = 0 from rfl] at HST
         go_wp2_with fail
         refine (Hid.out HST : Calls _ _ _ _ _).mono ?_
         clear HST
         rintro x V ⟨q, e1, w1', w2', rfl, hx, hb⟩
         clear a0 a1 a2 a3 a4
         have HC3 : Hid (XC w (V.alloc (.cells (snC g L.length c q o most e1) 99)) g c L bx (p + 3) o most 0 (.slice oa n oc) n xs l bb v2 ⟨#[]⟩ (.slice none 0 0)) := HC2.out.call (hb.alloc hb.size _)
         have hy := heap_alloc_new V (.cells (snC g L.length c q o most e1) 99)
         have hbx3 : bx + 1 ≤ W10.heap.size := qay HC2.out.xb.bxh
         have HX3 : Hid ((e1 = 0 ∧ ∃ ls ds : List Nat, dynG (fun i => L.getD i false) L.length (p + 3) = .ok (ls, ds, q) ∧ IG (V.alloc (.cells (snC g L.length c q o most e1) 99)) (bx + 1) w1' (zz ls) ∧ IG (V.alloc (.cells (snC g L.length c q o most e1) 99)) (bx + 1) w2' (zz ds) ∧ ls.length ≤ 320 ∧ ds.length ≤ 320 ∧ q ≤ L.length) ∨ (e1 ≠ 0 ∧ dynG (fun i => L.getD i false) L.length (p + 3) = .error e1 ∧ w1' = .slice none 0 0 ∧ w2' = .slice none 0 0)) := by
          have hal : Below V.heap.size V (V.alloc (.cells (snC g L.length c q o most e1) 99)) := (Below.refl _ V).alloc (Nat.le_refl _) _
          rcases hx with ⟨h0, ls, ds, k1, ⟨k2, k3⟩, ⟨k4, k5⟩, k6⟩ | h
          · exact .inl ⟨h0, ls, ds, k1, ⟨IQ.below k2 hal, fun g o n c e => Nat.le_trans hbx3 (k3 g o n c e)⟩, ⟨IQ.below k4 hal, fun g o n c e => Nat.le_trans hbx3 (k5 g o n c e)⟩, k6⟩
          · exact .inr h
         have HB3 : Hid (Below V.heap.size V (V.alloc (.cells (snC g L.length c q o most e1) 99))) := (Below.refl _ V).alloc (Nat.le_refl _) _
         have HY : Hid (_ = _) := hy
         unfold snC at HY HC3 HX3
         clear hx hb hy HC2 HB3 hbx3
         go_upto_region 19 with fail
         generalize World.alloc V _ = V3 at *
         generalize V.heap.size = yb at *
         obtain ⟨⟨y0, y1, y2, y3, y4⟩, _⟩ := qaa HY.out
         obtain ⟨⟨a0, a1, a2, a3, a4⟩, b0, b1, b2, b3, b4⟩ := qaa HC3.out.xb.bxh
         have HC4 : Hid (XC w _ g c L bx q o most e1 (.slice oa n oc) n xs l bb v2 ⟨#[]⟩ (.slice none 0 0)) := HC3.out.put q o most e1
         have HK4 : Hid (∀ (v : Value) (zs : List Int), IG V3 (bx + 1) v zs → IQ (put5 V3 bx (.slice (some ⟨g, 0, none⟩) L.length c) (.int .i64 (q : Int)) (.int .i64 (o : Int)) (.int .i64 (most : Int)) (.int .i64 (e1 : Int))) v zs) := fun v zs ⟨⟨gq, oq, cq, hv, h1, h2⟩, h3⟩ => by
          have hgr := qar V3 bx (.slice (some ⟨g, 0, none⟩) L.length c) (.int .i64 (q : Int)) (.int .i64 (o : Int)) (.int .i64 (most : Int)) (.int .i64 (e1 : Int))
          have h4 := h3 gq oq _ _ hv
          exact ⟨gq, oq, cq, hv, Nat.lt_of_lt_of_le h1 hgr.size, fun i hi => hgr.cell (h2 i hi) (fun e => by have e2 : gq = bx := Option.some.inj e; omega)⟩
         unfold put5 at HC4 HK4
         clear HY
         go_upto_region 20 with fail
         generalize World.setCell _ _ _ = V4 at *
         clear y0 y1 y2 y3 y4 a0 a1 a2 a3 a4 b0 b1 b2 b3 b4
         rcases HX3.out with ⟨rfl, ls, ds, hdy, hi1, hi2, hl1, hl2, hqL⟩ | ⟨he, hdy, rfl, rfl⟩
         · try simp only [show ((0 : Nat) : Int) = 0 from rfl] at HC4 HK4
           have hvq : IQ V4 w1' (zz ls) := HK4.out _ _ hi1
           have huq : IQ V4 w2' (zz ds) := HK4.out _ _ hi2
           have HDY : Hid (bk = match (if fitE ls = false ∨ fitE ds = false then Except.error 3 else tksF ls ds (fun i => L.getD i false) L.length most (L.length + 1) q o []) with | .error e => .error e | .ok (t, p2, o2) => .ok (⟨2, [], t⟩, v1, p2, o2)) := by
            have h1 := HBD.out
            unfold bdF at h1
            rw [if_neg (by decide), if_neg (by decide), if_pos rfl, q07, hdy] at h1
            simp only at h1
            unfold Hid
            rw [h1]
            by_cases hft : fitE ls = false ∨ fitE ds = false
            · rw [if_pos hft, if_pos hft]
            · rw [if_neg hft, if_neg hft]
              simp only
              cases tksF ls ds (fun i => L.getD i false) L.length most (L.length + 1) q o [] <;> rfl
           have HST : Hid (Calls Tryz.prog 40 #[.agg #[.slice (some ⟨g, 0, none⟩) L.length c, .int .i64 (q : Int), .int .i64 (o : Int), .int .i64 (most : Int), .int .i64 0], w1', w2'] V4 fun x w' => ∃ (ta : Option Addr) (tn tc q1 o1 e3 : Nat), x = .returned (.tuple #[.agg #[.slice (some ⟨g, 0, none⟩) L.length c, .int .i64 (q1 : Int), .int .i64 (o1 : Int), .int .i64 (most : Int), .int .i64 (e3 : Int)], .slice ta tn tc]) ∧ Hid ((e3 = 0 ∧ q1 ≤ L.length ∧ o1 ≤ most ∧ ∃ ts : List Tok, bk = .ok (⟨2, [], ts⟩, v1, q1, o1) ∧ w'.ownsRow V4.heap.size 53 3 (.slice ta tn tc) ts.length (tcs ts)) ∨ (e3 ≠ 0 ∧ bk = .error e3)) ∧ Below V4.heap.size V4 w') := by
            by_cases hft : fitE ls = false ∨ fitE ds = false
            · refine (qou g c q o most w.heap.size L w1' w2' ls ds V4 HC4.out.xb.ob hvq huq hl1 hl2 hft).mono ?_
              rintro x w' ⟨ta, tn, tc, rfl, hb⟩
              have h1 := HDY.out
              rw [if_pos hft] at h1
              exact ⟨ta, tn, tc, q, o, 3, rfl, .inr ⟨by decide, h1⟩, hb⟩
            · have fl : fitE ls = true := by
                cases hh : fitE ls
                · exact absurd (.inl hh) hft
                · rfl
              have fd : fitE ds = true := by
               cases hh : fitE ds
               · exact absurd (.inr hh) hft
               · rfl
              obtain ⟨r0, hr0⟩ : ∃ r0, tksF ls ds (fun i => L.getD i false) L.length most (L.length + 1) q o [] = r0 := ⟨_, rfl⟩
              refine (qmu g c q o most w.heap.size L w1' w2' ls ds V4 r0 HC4.out.xb.ob hvq huq fl fd hN hqL ho hm hr0).mono ?_
              have h1 := HDY.out
              rw [if_neg hft, hr0] at h1
              rintro x w' ⟨ta, tn, tc, q1, o1, e3, rfl, hx, hb⟩
              refine ⟨ta, tn, tc, q1, o1, e3, rfl, ?_, hb⟩
              rcases hx with ⟨he, ts, h2, h3, h4⟩ | ⟨he, h2⟩
              · rw [h2] at h1
                rw [h2] at hr0
                have h5 := qft (qbx fl).2.1 (qbx fd).2.1 _ _ _ _ _ _ _ hqL ho hr0
                exact .inl ⟨he, h5.2.2, h5.2.1, ts, h1, by rw [h3] at h4 ⊢; exact h4⟩
              · rw [h2] at h1
                exact .inr ⟨he, h1⟩
           clear hvq huq hi1 hi2 hdy HX3 HK4 HC3 hl1 hl2
           obtain ⟨⟨a0, a1, a2, a3, a4⟩, _⟩ := qaa HC4.out.xb.bxh
           simp only [show ((0 : Nat) : Int) = 0 from rfl] at a4
           go_wp2_with fail
           refine (Hid.out HST : Calls _ _ _ _ _).mono ?_
           clear HST
           rintro x V5 ⟨ta, tn, tc, q1, o1, e3, rfl, hx, hb⟩
           clear a0 a1 a2 a3 a4
           have hs := HC4.out.call hb
           have hbb := hs.bbn.1
           have hbb2 : ¬ bx = bb := fun e => hbb e.symm
           obtain ⟨⟨a0, a1, a2, a3, a4⟩, b0, b1, b2, b3, b4⟩ := qaa hs.xb.bxh
           obtain ⟨d0, d1, d2, f0, f1, f2⟩ := qaf hs.bbh
           have HC5 : Hid (XC w _ g c L bx q1 o1 most e3 (.slice oa n oc) n xs l bb v2 ⟨#[]⟩ (.slice ta tn tc)) := (hs.put q1 o1 most e3).set 2 (.slice ta tn tc) v2 ⟨#[]⟩ (.slice ta tn tc) rfl
           have HJ : Hid (JB ((put5 V5 bx (.slice (some ⟨g, 0, none⟩) L.length c) (.int .i64 (q1 : Int)) (.int .i64 (o1 : Int)) (.int .i64 (most : Int)) (.int .i64 (e3 : Int))).setCell ⟨bb, 2, none⟩ (.slice ta tn tc)) w.heap.size L most q1 o1 e3 v2 v1 ⟨#[]⟩ (.slice ta tn tc) bk) := by
            rcases hx.out with ⟨he, h1, h2, ts, h3, h4⟩ | h
            · refine .inl ⟨he, h1, h2, ts, by rw [h3, HV.out]; rfl, ?_⟩
              have g1 := qf5 h4 HC4.out.xb.bel.size
              have g2 := qan g1 hs.xb.bxh (by decide) (qar V5 bx (.slice (some ⟨g, 0, none⟩) L.length c) (.int .i64 (q1 : Int)) (.int .i64 (o1 : Int)) (.int .i64 (most : Int)) (.int .i64 (e3 : Int)))
              exact qan g2 (hs.put q1 o1 most e3).bbh (by decide) (gset (qcj _ (some bb)) 2 _)
            · exact .inr h
           unfold put5 at HC5 HJ
           clear hx hb hs HC4
           go_wp2
           go_meet
           exact ⟨q1, o1, e3, ⟨#[]⟩, ta, tn, tc, HC5.out, HJ.out⟩
         · have hei : ((e1 : Int) == 0) = false := by simp; omega
           obtain ⟨⟨a0, a1, a2, a3, a4⟩, _⟩ := qaa HC4.out.xb.bxh
           have HBE : Hid (bk = .error e1) := by
            have h1 := HBD.out
            unfold bdF at h1
            rw [if_neg (by decide), if_neg (by decide), if_pos rfl, q07, hdy] at h1
            exact h1
           clear hdy HX3 HK4 HC3
           go_wp2
           go_meet
           exact ⟨q, o, e1, ⟨#[]⟩, none, 0, 0, HC4.out, .inr ⟨he, HBE.out⟩⟩
       · have HV : Hid (v2 = 3) := h
         have k0 : ((v2 : Int) == 0) = false := by rw [h]; rfl
         have k1 : ((v2 : Int) == 1) = false := by rw [h]; rfl
         have k2 : ((v2 : Int) == 2) = false := by rw [h]; rfl
         rw [h] at HBD
         clear h hv1 hv2
         obtain ⟨⟨a0, a1, a2, a3, a4⟩, _⟩ := qaa HC2.out.xb.bxh
         simp only [show ((0 : Nat) : Int) = 0 from rfl] at a4
         go_wp2_with fail
         refine (qbi g L.length c (p + 3) o most 0 0 rfl true 3 3 rfl W10).mono ?_
         rintro x V ⟨e1, rfl, he1, hb⟩
         clear a0 a1 a2 a3 a4
         have hs := HC2.out.call hb
         obtain ⟨⟨a0, a1, a2, a3, a4⟩, b0, b1, b2, b3, b4⟩ := qaa hs.xb.bxh
         have HC3 : Hid (XC w _ g c L bx (p + 3) o most e1 (.slice oa n oc) n xs l bb v2 ⟨#[]⟩ (.slice none 0 0)) := hs.put (p + 3) o most e1
         unfold put5 at HC3
         clear hb hs HC2
         go_wp2
         go_meet
         refine ⟨p + 3, o, e1, ⟨#[]⟩, none, 0, 0, HC3.out, ?_⟩
         have : e1 = 3 := he1.out.trans (if_pos (by simp))
         subst this
         refine .inr ⟨by decide, ?_⟩
         rw [HBD.out]
         unfold bdF
         rw [if_neg (by decide), if_neg (by decide), if_neg (by decide)]
     · obtain ⟨hv2, hp2l, hbd⟩ := HHD.out.1 he2
       have HV : Hid (v2 = 0) := hv2
       have k0 : ((v2 : Int) == 0) = true := by rw [hv2]; rfl
       have HBD : Hid (_ = _) := hbd
       clear hbd HHD hv2
       have HST : Hid (Calls _ _ _ _ _) := qva g c p2 o most e2 w.heap.size L W10 HC2.out.xb.ob he2 (by omega)
       obtain ⟨⟨a0, a1, a2, a3, a4⟩, _⟩ := qaa HC2.out.xb.bxh
       unfold sn at HST
       go_wp2_with fail
       refine (Hid.out HST : Calls _ _ _ _ _).mono ?_
       clear HST
       rintro x V ⟨⟨q, rfl⟩, hb⟩
       clear a0 a1 a2 a3 a4
       have hs := HC2.out.call hb
       have hbb := hs.bbn.1
       have hbb2 : ¬ bx = bb := fun e => hbb e.symm
       obtain ⟨⟨a0, a1, a2, a3, a4⟩, b0, b1, b2, b3, b4⟩ := qaa hs.xb.bxh
       obtain ⟨d0, d1, d2, f0, f1, f2⟩ := qaf hs.bbh
       have HC3 : Hid (XC w _ g c L bx q o most e2 (.slice oa n oc) n xs l bb v2 ⟨#[]⟩ (.slice none 0 0)) := (hs.put q o most e2).set 1 (.string ⟨#[]⟩) v2 ⟨#[]⟩ (.slice none 0 0) rfl
       unfold put5 at HC3
       clear hb hs HC2
       go_wp2
       go_meet
       exact ⟨q, o, e2, ⟨#[]⟩, none, 0, 0, HC3.out, .inr ⟨he2, HBD.out⟩⟩
    case rest =>
     obtain ⟨q, o1, e3, t, ta, tn, tc, hX, HJ⟩ := hcut
     have HX : Hid (XC w wc g c L bx q o1 most e3 (.slice oa n oc) n xs l bb v2 t (.slice ta tn tc)) := hX
     clear hX HC2 HHD
     have HN3 : Hid _ := qj2 wc (.int .i64 (v2 : Int)) (.string t) (.slice ta tn tc) 51
     have HONE : Hid _ := qj0 (v2 : Int) t ta tn tc
     have HOX : Hid (World.ownsRow _ _ _ _ _ _ _) := HX.out.xb.out.alloc (.cells #[.int .i64 (v2 : Int), .string t, .slice ta tn tc] 51)
     have hszX := HX.out.xb.bel.size
     obtain ⟨d0, d1, d2, _⟩ := qaf HX.out.bbh
     go_wp2_with (at_builtin; refine wpList_append_own _ rfl _ _ 46 rfl w.heap.size 51 i0 (.agg #[.int .i64 0, .string ⟨#[]⟩, .slice none 0 0]) 3 48 Tryz.underlying46 hi hz0 hz1 hz2 rfl (by decide) _ _ _ rfl HOX.out ⟨wc.heap.size, 0, none⟩ 1 1 [.int .i64 (v2 : Int), .string t, .slice ta tn tc] rfl rfl HN3.out HONE.out ?c3 ?c4 ?c5 ?_)
     case c3 => unfold maxLen; omega
     case c4 => omega
     case c5 => first | omega | (rw [World.size_alloc]; omega)
     intro v9 W9' hown9 hg9 _
     have hn1 : n + 1 ≤ 90000 := by have := HNL.out; omega
     rcases HJ.out with ⟨rfl, hqL, hom, ts, hbk, hown⟩ | ⟨he3, hbk⟩
     · have HX9 : Hid (XB w W9' g c L bx q o1 most 0 v9 (l ++ [((⟨v2, t.data.toList.map UInt8.toNat, ts⟩ : Blk), t, (.slice ta tn tc : Value))]).length (bcs (l ++ [((⟨v2, t.data.toList.map UInt8.toNat, ts⟩ : Blk), t, (.slice ta tn tc : Value))])) (l ++ [((⟨v2, t.data.toList.map UInt8.toNat, ts⟩ : Blk), t, (.slice ta tn tc : Value))])) := by
         refine HX.out.app (.cells #[.int .i64 (v2 : Int), .string t, .slice ta tn tc] 51) hg9 ?_ ?_
         · rw [qsj, List.length_append]
           have h1 := HNL.out
           have h2 := HXS.out
           subst h1 h2
           exact hown9
         · intro y hy
           rcases List.mem_append.1 hy with hy | hy
           · exact HX.out.xb.its y hy
           · rw [List.mem_singleton] at hy; subst hy; exact ⟨rfl, hown⟩
       have HT9 : Hid ((if v1 = 1 then Except.ok ((l ++ [((⟨v2, t.data.toList.map UInt8.toNat, ts⟩ : Blk), t, (.slice ta tn tc : Value))]).map Prod.fst, q) else qbt (fun i => L.getD i false) L.length most k q o1 ((l ++ [((⟨v2, t.data.toList.map UInt8.toNat, ts⟩ : Blk), t, (.slice ta tn tc : Value))]).map Prod.fst)) = r) := by
        have h := HR.out
        rw [hbk] at h
        rw [List.map_append]
        exact h
       have HPQ : Hid (p < q ∧ v1 < 2) := HPL.out hbk
       have HMX : Hid (_ = _) := HX9.out.left L.length
       clear hbk hown hown9 hg9 HOX HN3 HONE HX d0 d1 d2
       go_wp2
       go_roundw
       case rel =>
        refine ⟨k, q, o1, 0, v1, _, _, _, rfl, HX9.out, by rw [List.length_append, List.length_singleton, ← HNL.out]; exact hn1, ?_⟩
        have h1 := HPQ.out
        have h2 := HT9.out
        by_cases hv : v1 = 1
        · rw [if_pos hv] at h2
          exact .inr (.inl ⟨rfl, hv, hqL, rfl, by rw [List.length_append, List.length_singleton]; omega, rfl, h2.symm⟩)
        · rw [if_neg hv] at h2
          exact .inl ⟨rfl, by omega, hqL, hom, rfl, rfl, by omega, by rw [List.length_append, List.length_singleton]; omega, h2⟩
       case measure =>
        have h1 := HPQ.out
        rw [HMX.out, HMS.out]
        simp; omega
     · have HX9 : Hid (XB w W9' g c L bx q o1 most e3 v9 (n + 1) _ l) := HX.out.app (.cells #[.int .i64 (v2 : Int), .string t, .slice ta tn tc] 51) hg9 hown9 HX.out.xb.its
       have HT9 : Hid (r = .error e3) := by
        have h := HR.out
        rw [hbk] at h
        exact h.symm
       have HMX : Hid (_ = _) := HX9.out.left L.length
       clear hbk hown9 hg9 HOX HN3 HONE HX d0 d1 d2
       go_wp2
       go_roundw
       case rel => exact ⟨k, q, o1, e3, v1, _, _, l, rfl, HX9.out, hn1, .inr (.inr ⟨he3, HT9.out⟩)⟩
       case measure =>
        rw [HMX.out, HMS.out, if_neg he3]
        simp; omega
  · have HR : Hid (r = .ok (l.map Prod.fst, p)) := hr
    have HNL : Hid (n = l.length) := hnl
    have HXS : Hid (xs = bcs l) := hxs
    have hpi : ((p : Int) + 7) / 8 = (((p + 7) / 8 : Nat) : Int) := by omega
    obtain ⟨P8, hP8⟩ : ∃ P8, P8 = (p + 7) / 8 := ⟨_, rfl⟩
    rw [← hP8] at hpi
    have HP8 : Hid (P8 = (p + 7) / 8) := hP8
    clear hr hnl hxs HMS hP8
    obtain ⟨⟨a0, a1, a2, a3, a4⟩, _⟩ := qaa HX.out.bxh
    simp only [show ((0 : Nat) : Int) = 0 from rfl] at a4
    go_wp2
    go_quiet (fail)
    have HXQ : Hid (XB w (W7.drewN nq) g c L bx p o most 0 (.slice oa n oc) n xs l) := HX.out.drewN nq
    go_wp2
    exact bodyPost_ret (v := .tuple #[.slice oa n oc, .int .i64 (P8 : Int), .int .i64 0]) (by simp [results, Tryz.results16, go_sem, hpi]) rfl (.inl ⟨l, p, _, HR.out, by rw [HP8.out], ⟨by have := HXQ.out.out; rw [HNL.out, HXS.out] at this; rw [HNL.out]; exact this, HXQ.out.its⟩, by rw [HLL.out]; exact hp, by rw [HLL.out]; omega, HXQ.out.bel⟩)
  · have hei : ((e : Int) == 0) = false := by simp; omega
    have hej : ((e : Int) != 0) = true := by simp; omega
    have HR : Hid (r = .error e) := hr
    clear hr HMS
    obtain ⟨⟨a0, a1, a2, a3, a4⟩, _⟩ := qaa HX.out.bxh
    go_wp2
    all_goals
     go_quiet (fail)
     have HXQ : Hid (XB w (W7.drewN nq) g c L bx p o most e (.slice oa n oc) n xs l) := HX.out.drewN nq
     go_wp2
     exact bodyPost_ret (v := .tuple #[.slice none 0 0, .int .i64 0, .int .i64 (e : Int)]) (by simp [results, Tryz.results16, go_sem]) rfl (.inr ⟨e, HR.out, he, rfl, HXQ.out.bel⟩)
theorem qja {M : Int} {t : Tok} {ts : List Tok} {O X : List Nat} (h : expF M (t :: ts) O = (X, 0)) : errT O M t = 0 ∧ expF M ts (sayT O t) = (X, 0) := by
 rw [expF] at h
 by_cases e : errT O M t = 0
 · rw [if_pos e] at h; exact ⟨e, h⟩
 · rw [if_neg e] at h
   simp only [Prod.mk.injEq] at h
   exact absurd h.2 e
theorem qi9 {M : Int} : ∀ (ts : List Tok) (O X : List Nat), expF M ts O = (X, 0) → O.length + ts.length ≤ X.length
 | [], O, X, h => by simp only [expF, Prod.mk.injEq, and_true] at h; subst h; exact Nat.le_refl _
 | t :: ts, O, X, h => by
  obtain ⟨h1, h2⟩ := qja h
  have := qi9 ts _ _ h2
  have h3 := qhl (out := O) (qjc h1).1
  have := qed t
  rw [List.length_cons]
  omega
theorem qkp {M : Int} {ts : List Tok} {X : List Nat} : ∀ (bl : List Nat) (O : List Nat), expF M (bl.map (fun c => (⟨c, 0, 0⟩ : Tok)) ++ ts) O = (X, 0) → expF M ts (O ++ bl) = (X, 0)
 | [], O, h => by simpa using h
 | c :: bl, O, h => by
  rw [List.map_cons, List.cons_append] at h
  obtain ⟨h1, h2⟩ := qja h
  have h3 : sayT O ⟨c, 0, 0⟩ = O ++ [c] := by unfold sayT; rw [if_pos rfl]
  rw [h3] at h2
  have := qkp bl _ h2
  rwa [List.append_assoc] at this
theorem qt1 (x : Nat) (W : World) : (convert 54 9 (.slice (some ⟨W.heap.size, 0, none⟩) 1 1)).run Tryz.prog (W.alloc (.cells #[.int .u8 x] 5)) = .ok (.string (bs [x])) (W.alloc (.cells #[.int .u8 x] 5)) :=
 ql9 (base := W.heap.size) (n := 1) (l := [x]) Tryz.underlying54 Tryz.underlying5 Tryz.underlying9 (World.ownsRow_lit W #[.int .u8 x] 1 (Nat.le_refl _) (by decide) rfl)
theorem q0c (out : List Nat) (d k : Nat) (h1 : 1 ≤ d) (h2 : d ≤ out.length) : bs (sayN out d k) ++ (bs (sayN out d k)).extract (out.length + k - d) (out.length + k - d + 1) = bs (sayN out d (k + 1)) := by
 have hel := qu8 out d k h1 h2
 have e : (bs (sayN out d k)).extract (out.length + k - d) (out.length + k - d + 1) = bs [(sayN out d k).getD ((sayN out d k).length - d) 0] := by
  apply qhc
  rw [qba, qb4, qb4, show out.length + k - d + 1 - (out.length + k - d) = 1 by omega]
  apply List.ext_getElem?
  intro i
  rw [List.getElem?_take]
  match i with
  | 0 => rw [if_pos (by omega), List.getElem?_drop, Nat.add_zero, List.getElem?_map, hel]; rfl
  | i + 1 => rw [if_neg (by omega)]; rfl
 rw [e, qgx]; rfl
def lefJ (l : List Item) (k : Nat) : List Tok := jkP ((l.drop k).map Prod.fst)
theorem q2y {l : List Item} {k : Nat} {x : Item} (h : l[k]? = some x) : lefJ l k = (x.1.bytes.map fun c => (⟨c, 0, 0⟩ : Tok)) ++ (x.1.toks ++ lefJ l (k + 1)) := by
 unfold lefJ jkP
 obtain ⟨hk, e⟩ := List.getElem?_eq_some_iff.1 h
 rw [List.drop_eq_getElem_cons hk, e, List.map_cons, List.flatMap_cons]
 unfold bkP
 rw [List.append_assoc]
theorem qm1 (s S : ByteArray) (a most : Nat) (r : Except Nat (List Blk × Nat)) (w : World) (ha : a ≤ s.size) (hm : most ≤ 65536) (hs : s.size ≤ 10000) (hS : S = s.extract a s.size) (h : qbt (bF8 S) (8 * S.size) most (8 * S.size + 1) 0 0 [] = r) :
    Calls Tryz.prog 8 #[.string s, .int .i64 (a : Int), .int .i64 (most : Int)] w fun e w' => (∃ l q, r = .ok (l, q) ∧ e = .returned (.tuple #[.string (bs (expF 9223372036854775807 (jkP l) []).1), .int .i64 (((q + 7) / 8 : Nat) : Int), .int .i64 0]) ∧ q ≤ 8 * S.size ∧ Below w.heap.size w w') ∨ (∃ er, r = .error er ∧ er ≠ 0 ∧ e = .returned (.tuple #[.string ⟨#[]⟩, .int .i64 0, .int .i64 (er : Int)]) ∧ Below w.heap.size w w') := by
 have HBL : Hid (Calls _ _ _ _ _) := qo1 s S a most r w ha hm hs hS h
 have HH : Hid (qbt (bF8 S) (8 * S.size) most (8 * S.size + 1) 0 0 [] = r) := h
 have hSs : S.size ≤ 10000 := by rw [hS, ByteArray.size_extract]; omega
 clear h hS
 go_enter Tryz.func8, Tryz.ntmps8
 go_wp2_with fail
 refine (Hid.out HBL : Calls _ _ _ _ _).mono ?_
 clear HBL
 rintro e w1 (⟨l, q, v, hr, rfl, hO, hq, hll, hB⟩ | ⟨er, hr, her, rfl, hB⟩)
 · have HR : Hid (r = .ok (l.map Prod.fst, q)) := hr
   obtain ⟨o, new, hnew, hsay, _, hom, _⟩ := qgy (by omega) _ _ _ _ _ _ (Nat.zero_le _) (HH.out.trans hr)
   rw [List.nil_append] at hnew
   subst hnew
   obtain ⟨X, hX, hXl⟩ := hsay [] rfl
   have hXs : X.length ≤ 65536 := by omega
   have HX : Hid (expF 9223372036854775807 (jkP (l.map Prod.fst)) [] = (X, 0)) := hX
   obtain ⟨av, cv, rfl⟩ := qam hO.1
   have HBR : Hid (q41 w1 w.heap.size (.slice av l.length cv) l) := hO
   have HB : Hid (Below w.heap.size w w1) := hB
   have hBs := hB.size
   obtain ⟨Q8, hQ8⟩ : ∃ Q8, Q8 = (q + 7) / 8 := ⟨_, rfl⟩
   rw [← hQ8]
   have HQ8 : Hid (Q8 = (q + 7) / 8) := hQ8
   clear hr hO hB hsay hX hXl hom HH hQ8
   go_wp2
   go_loopw [12, 31] (fun t i wr => ∃ (k : Nat) (O : List Nat), k ≤ l.length ∧ i = .int .i64 (k : Int) ∧ t = .string (bs O) ∧ expF 9223372036854775807 (lefJ l k) O = (X, 0) ∧ Below w1.heap.size w1 wr) (fun _ i _ => l.length - (intOf i).toNat)
   case atStart => exact ⟨0, [], by omega, rfl, rfl, HX.out, Below.refl _ _⟩
   case round =>
    obtain ⟨k, O, hk, rfl, rfl, hE, hBw⟩ := hrel
    by_cases hlt : k < l.length
    · obtain ⟨⟨b, t, tv⟩, hx⟩ : ∃ x, l[k]? = some x := ⟨_, List.getElem?_eq_getElem hlt⟩
      obtain ⟨hbr, hit⟩ := HBR.out
      have hitem := hit _ (List.mem_of_getElem? hx)
      obtain ⟨hby, hto⟩ := hitem
      simp only at hby hto
      obtain ⟨ta, tc, rfl⟩ := qam hto
      obtain ⟨g, cap, hform, hgB, hcap, hgs⟩ := qch hbr (by omega)
      simp only [Value.slice.injEq, true_and] at hform
      obtain ⟨rfl, rfl⟩ := hform
      obtain ⟨c0, c1, c2⟩ := qxk l k _ hx
      rw [← hbr.cellAt (k * 3) (by omega), ← hBw.cell (p := ⟨g, k * 3, none⟩) hgs] at c0
      rw [← hbr.cellAt (k * 3 + 1) (by omega), ← hBw.cell (p := ⟨g, k * 3 + 1, none⟩) hgs] at c1
      rw [← hbr.cellAt (k * 3 + 2) (by omega), ← hBw.cell (p := ⟨g, k * 3 + 2, none⟩) hgs] at c2
      simp only at c0 c1 c2
      rw [q2y hx] at hE
      simp only at hE
      have hE2 := qkp b.bytes O hE
      have hgr := qi9 _ _ _ hE2
      rw [List.length_append, List.length_append] at hgr
      have hts : t.size = b.bytes.length := by rw [← hby, ← qff]; rfl
      have htb : t = bs b.bytes := by rw [← hby]; exact (q3n t).symm
      have HAP : Hid (bs O ++ t = bs (O ++ b.bytes)) := by unfold Hid; rw [htb, qgx]
      have hso := qdm O
      have hsz : ¬ 9223372036854775807 < (bs O).size + t.size := by omega
      have HE2 : Hid (expF 9223372036854775807 (b.toks ++ lefJ l (k + 1)) (O ++ b.bytes) = (X, 0)) := hE2
      have hki : (k : Int) < (l.length : Int) := by omega
      have hki0 : (0 : Int) ≤ (k : Int) := by omega
      have HTR : Hid (TR w1 (.slice ta b.toks.length tc) b.toks) := TR.own hto
      have hwr := hBw.size
      have HB0 : Hid (Below w1.heap.size w1 (wr.alloc (.cells #[.int .i64 (b.kind : Int), .string t, .slice ta b.toks.length tc] 51))) := hBw.alloc hwr _
      have hntb : b.toks.length ≤ 65536 := by omega
      clear hbr hit hby hto hx hBw hE hE2 hgr hts htb
      go_wp2
      rw [HAP.out]
      clear c0 c1 c2
      generalize World.alloc wr _ = W0 at *
      generalize wr.heap.size = gb at *
      obtain ⟨nt, hnt⟩ : ∃ nt, nt = b.toks.length := ⟨_, rfl⟩
      have HNT : Hid (nt = b.toks.length) := hnt
      have HF : Hid (∀ i y, b.toks[i]? = some y → ∃ g, ta = some ⟨g, 0, none⟩ ∧ g < w1.heap.size ∧ w1.cell? ⟨g, i * 3, none⟩ = some (.int .u8 (y.b : Int)) ∧ w1.cell? ⟨g, i * 3 + 1, none⟩ = some (.int .i64 y.l) ∧ w1.cell? ⟨g, i * 3 + 2, none⟩ = some (.int .i64 y.d)) := by
       obtain ⟨a', cap', hv, hf⟩ := HTR.out.form
       simp only [Value.slice.injEq, true_and] at hv
       obtain ⟨rfl, rfl⟩ := hv
       exact hf
      rw [← hnt] at hntb
      rw [← hnt]
      clear HTR hnt HAP
      go_loopw [12, 42] (fun t i wq => ∃ (j : Nat) (P : List Nat), j ≤ nt ∧ i = .int .i64 (j : Int) ∧ t = .string (bs P) ∧ expF 9223372036854775807 (b.toks.drop j ++ lefJ l (k + 1)) P = (X, 0) ∧ Below w1.heap.size w1 wq) (fun _ i _ => nt - (intOf i).toNat)
      case atStart => exact ⟨0, _, by omega, rfl, rfl, HE2.out, HB0.out⟩
      case round =>
       clear HE2 HB0
       obtain ⟨j, P, hj, rfl, rfl, hE, hBw⟩ := hrel
       have hwr := hBw.size
       by_cases hjt : j < nt
       · obtain ⟨y, hy⟩ : ∃ y, b.toks[j]? = some y := ⟨_, List.getElem?_eq_getElem (by rw [← HNT.out]; exact hjt)⟩
         obtain ⟨g2, rfl, hg2, c0, c1, c2⟩ := HF.out j y hy
         rw [← hBw.cell (p := ⟨g2, j * 3, none⟩) hg2] at c0
         rw [← hBw.cell (p := ⟨g2, j * 3 + 1, none⟩) hg2] at c1
         rw [← hBw.cell (p := ⟨g2, j * 3 + 2, none⟩) hg2] at c2
         rw [qpn hy, List.cons_append] at hE
         obtain ⟨he0, hE2⟩ := qja hE
         obtain ⟨hit, hyd, hyw⟩ := qjc he0
         have hgr := qi9 _ _ _ hE2
         have HE3 : Hid (expF 9223372036854775807 (b.toks.drop (j + 1) ++ lefJ l (k + 1)) (sayT P y) = (X, 0)) := hE2
         have hjj : (j : Int) < (nt : Int) := by omega
         have hjj0 : (0 : Int) ≤ (j : Int) := by omega
         have HBX : Hid (∀ c, Below w1.heap.size w1 (wr.alloc (.cells c 53))) := fun c => hBw.alloc hwr _
         obtain ⟨tb, tl, td⟩ := y
         simp only at c0 c1 c2 hyd hyw
         have hps := qdm P
         clear hE hE2 he0 hBw hy
         by_cases hl0 : tl = 0
         · subst hl0
           have HSY : Hid (sayT P ⟨tb, 0, td⟩ = P ++ [tb]) := by unfold Hid sayT; rw [if_pos rfl]
           rw [HSY.out, List.length_append] at hgr
           simp only [List.length_singleton] at hgr
           have hcv := qt1 tb (wr.alloc (.cells #[.int .u8 (tb : Int), .int .i64 0, .int .i64 td] 53))
           rw [World.size_alloc] at hcv
           have hs1 : (bs [tb]).size = 1 := qdm [tb]
           have HBS : Hid (bs P ++ bs [tb] = bs (P ++ [tb])) := qgx _ _
           clear hit hyd hyw
           go_wp2
           rw [HBS.out]
           go_loop [12, 17] (fun s i => s = .string (bs (P ++ [tb])) ∧ i = .int .i64 0) (fun _ _ => 0)
           case atStart => exact ⟨rfl, rfl⟩
           case round =>
            obtain ⟨rfl, rfl⟩ := hrel
            go_wp2
            go_roundw
            case rel => exact ⟨j + 1, P ++ [tb], by omega, by go_num, rfl, by rw [← HSY.out]; exact HE3.out, (HBX.out _).alloc (by rw [World.size_alloc]; omega) _⟩
            case measure => simp [intOf]; omega
         · have hrep := qci hl0 hit
           simp only at hrep
           obtain ⟨rfl, h3, h4, h5, h6⟩ := hrep
           obtain ⟨d, rfl⟩ : ∃ n : Nat, td = (n : Int) := ⟨td.toNat, by omega⟩
           obtain ⟨m, rfl⟩ : ∃ n : Nat, tl = (n : Int) := ⟨tl.toNat, by omega⟩
           have hli : ((m : Int) == 0) = false := by simpa using hl0
           have HSY : Hid (sayT P ⟨0, m, d⟩ = sayN P d m) := by unfold Hid sayT; rw [if_neg hl0]; rfl
           rw [HSY.out, qdy] at hgr
           have HMR : Hid (∀ j, bs (sayN P d j) ++ (bs (sayN P d j)).extract (P.length + j - d) (P.length + j - d + 1) = bs (sayN P d (j + 1))) := fun j => q0c P d j (by omega) (by omega)
           clear hit hyw
           go_wp2
           go_loop [12, 17] (fun s i => ∃ z : Nat, z ≤ m ∧ i = .int .i64 (z : Int) ∧ s = .string (bs (sayN P d z))) (fun _ i => m - (intOf i).toNat)
           case atStart => exact ⟨0, by omega, rfl, rfl⟩
           case round =>
            obtain ⟨z, hz, rfl, rfl⟩ := hrel
            have hsz : (bs (sayN P d z)).size = P.length + z := by rw [qdm, qdy]
            have HMz : Hid (_ = _) := HMR.out z
            have hzi0 : (0 : Int) ≤ (z : Int) := by omega
            by_cases hzm : z < m
            · have hzi : (z : Int) < (m : Int) := by omega
              have hix : ((P.length + z : Nat) : Int) - (d : Int) = ((P.length + z - d : Nat) : Int) := by omega
              generalize bs (sayN P d z) = S1 at *
              go_wp2
              go_round
              case rel => exact ⟨z + 1, by omega, by go_num, by rw [← HMz.out]⟩
              case measure => simp [intOf]; omega
            · obtain rfl : z = m := by omega
              go_wp2
              go_roundw
              case rel => exact ⟨j + 1, sayN P d z, by omega, by go_num, rfl, by rw [← HSY.out]; exact HE3.out, HBX.out _⟩
              case measure => simp [intOf]; omega
       · obtain rfl : j = nt := by omega
         have HE3 : Hid (expF 9223372036854775807 (lefJ l (k + 1)) P = (X, 0)) := by
          rw [HNT.out, List.drop_length, List.nil_append] at hE
          exact hE
         have HB1 : Hid (Below w1.heap.size w1 wr) := hBw
         clear hE hBw
         go_wp2
         go_roundw
         case rel => exact ⟨k + 1, P, by omega, by go_num, rfl, HE3.out, HB1.out⟩
         case measure => simp [intOf]; omega
    · obtain rfl : k = l.length := by omega
      have hXO : O = X := by
       unfold lefJ at hE
       rw [List.drop_length] at hE
       simp only [List.map_nil, jkP, List.flatMap_nil, expF, Prod.mk.injEq, and_true] at hE
       exact hE
      subst hXO
      have HB1 : Hid (Below w.heap.size w wr) := HB.out.trans (hBw.mono hBs)
      clear hE hBw
      go_wp2
      exact bodyPost_ret (v := .tuple #[.string (bs O), .int .i64 (Q8 : Int), .int .i64 0]) (by simp [results, Tryz.results8, go_sem]) rfl (.inl ⟨_, _, HR.out, by rw [HX.out, HQ8.out], hq, HB1.out⟩)
 · have HB : Hid (Below w.heap.size w w1) := hB
   have HR : Hid (r = .error er) := hr
   have heri : ((er : Int) != 0) = true := by simpa using her
   clear hB HH hr
   go_wp2
   exact bodyPost_ret (v := .tuple #[.string ⟨#[]⟩, .int .i64 0, .int .i64 (er : Int)]) (by simp [results, Tryz.results8, go_sem]) rfl (.inr ⟨er, HR.out, her, rfl, HB.out⟩)
end Go.Proofs.YthkppipdflmekaaGreat
