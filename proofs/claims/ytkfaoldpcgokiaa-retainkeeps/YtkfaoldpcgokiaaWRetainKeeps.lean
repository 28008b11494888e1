/- The walk of RetainKeeps: of days, weeks and months just the last snapshot of each is kept, as many as the policy says. -/
import Derived.Test.YtkfaoldpcgokiaaRetH
import Derived.Test.YtkfaoldpcgokiaaWRetainOlder
namespace Go.Proofs.Ytkfaoldpcgokiaa
open Go.RowKit
set_option linter.unusedVariables false
set_option linter.unusedSimpArgs false

theorem goneP_pre (p : Pol) (l : List Sn) (k : Nat) : ∀ n, ∃ t, goneP p l (k + n) = goneP p l k ++ t
  | 0 => ⟨[], by simp⟩
  | n + 1 => by
    obtain ⟨t, ht⟩ := goneP_pre p l k n
    rw [← Nat.add_assoc, goneP, ht]
    split
    · exact ⟨t, rfl⟩
    · exact ⟨t ++ [(l.getD (k + n) default).i], by rw [List.append_assoc]⟩
theorem goneP_at (p : Pol) (l : List Sn) (N k : Nat) (hk : k < N) (x : Sn) (hx : l[k]? = some x) (hb : bF (kpL p l) k = false) : gnN p l k < gnN p l N ∧ (goneP p l N).getD (gnN p l k) [] = x.i := by
  obtain ⟨t, ht⟩ := goneP_pre p l (k + 1) (N - (k + 1))
  rw [show k + 1 + (N - (k + 1)) = N by omega, goneP_no hb] at ht
  have hd : (l.getD k default).i = x.i := by rw [List.getD_eq_getElem?_getD, hx]; rfl
  rw [hd] at ht
  refine ⟨by unfold gnN; rw [ht]; simp, ?_⟩
  rw [ht, List.getD_eq_getElem?_getD]
  unfold gnN
  simp
theorem gnN_yes {p : Pol} {l : List Sn} {k : Nat} (h : bF (kpL p l) k = true) : gnN p l (k + 1) = gnN p l k := by unfold gnN; rw [goneP_yes h]
theorem gnN_no {p : Pol} {l : List Sn} {k : Nat} (h : bF (kpL p l) k = false) : gnN p l (k + 1) = gnN p l k + 1 := by unfold gnN; rw [goneP_no h]; simp
theorem OT.at {w : World} {B : Nat} {v : Value} {l : List (List UInt8)} (h : OT w B v l) {i : Nat} (hi : i < l.length) : ∃ g c, v = .slice (some ⟨g, 0, none⟩) l.length c ∧ l.length ≤ c ∧ g < w.heap.size ∧ w.cell? ⟨g, i, none⟩ = some (.string (mkB (l.getD i []))) := by
  have hlt := World.ownsRow.lt h
  have h' := h
  rcases h.2 with ⟨rfl, h0⟩ | ⟨g, cap, cur, rfl, _, _, hc, _⟩
  · omega
  · exact ⟨g, cap, rfl, hc, (hlt g rfl).2, h'.cell i hi rfl⟩
set_option maxRecDepth 100000 in
set_option maxHeartbeats 4000000 in
theorem lawRetainKeeps_walk (p : Pol) (tv : Value) (a : Option Addr) (len cap : Nat) (l0 : List Sn) (w : World) (hP : PolS w p tv) (hS : IsSns w a len cap l0) :
    Calls Try.prog 3 #[polV p tv, .slice a len cap] w fun e w' => e = .returned (.bool true) ∧ Below w.heap.size w w' := by
  obtain ⟨hll, hl63, hok, hV⟩ := hS
  obtain ⟨W1, hW1⟩ : ∃ W1, W1 = w.alloc (.cells #[.int .i64 p.a, .int .i64 p.d, .int .i64 p.k, .int .i64 p.m, tv] 24) := ⟨_, rfl⟩
  have hB1 : Below w.heap.size w W1 := by rw [hW1]; exact (Below.refl _ w).alloc (Nat.le_refl _) _
  have hN1 : W1.heap[w.heap.size]? = some (.cells #[.int .i64 p.a, .int .i64 p.d, .int .i64 p.k, .int .i64 p.m, tv] 24 (0, 0)) := by rw [hW1]; exact heap_alloc_new w _
  have hzw : w.heap.size < W1.heap.size := (Array.getElem?_eq_some_iff.1 hN1).1
  have HB1 : Hid (Below w.heap.size w W1) := hB1
  have HF := few21_any a len cap l0 W1 ((hV.below hB1).mono hB1.size) hll hl63
  have HG : Hid (∀ x ∈ l0.take 25, x.g.length ≤ 9223372036854775807) := fun x hx => (hok x (List.mem_of_mem_take hx)).2.2
  have hl25 : (l0.take 25).length ≤ 25 := by rw [List.length_take]; omega
  have HPI : Hid (PolIn w w.heap.size p tv) := hP.h
  generalize l0.take 25 = l at *
  obtain ⟨ta, tc, rfl, -, -⟩ := hP.h.tv
  generalize p.tg.length = m at *
  rw [hW1] at HF
  have HW1 : Hid (w.alloc (.cells #[.int .i64 p.a, .int .i64 p.d, .int .i64 p.k, .int .i64 p.m, .slice ta m tc] 24) = W1) := hW1.symm
  have HC : Hid (∀ W, Below W1.heap.size W1 W → (W.cell? ⟨w.heap.size, 0, none⟩ = some (.int .i64 p.a) ∧ W.cell? ⟨w.heap.size, 1, none⟩ = some (.int .i64 p.d) ∧ W.cell? ⟨w.heap.size, 2, none⟩ = some (.int .i64 p.k) ∧ W.cell? ⟨w.heap.size, 3, none⟩ = some (.int .i64 p.m) ∧ W.cell? ⟨w.heap.size, 4, none⟩ = some (.slice ta m tc)) ∧ w.heap.size < W.heap.size) := fun W hW => by
    have h := (hW.block _ hzw).trans hN1
    refine ⟨⟨?_, ?_, ?_, ?_, ?_⟩, (Array.getElem?_eq_some_iff.1 h).1⟩ <;> (unfold World.cell?; rw [h]; rfl)
  have HDONE : Hid (∀ W, Below W1.heap.size W1 W → Below w.heap.size w W) := fun W hW => hB1.trans (hW.mono hB1.size)
  clear hV hok hN1 hB1 hP hW1 hll
  unfold polV
  go_enter Try.func3, Try.ntmps3
  go_wp2_with fail
  refine HF.mono ?_
  rintro e w2 ⟨fa, fc, rfl, hO, hb2⟩
  rw [show w.alloc (.cells #[.int .i64 p.a, .int .i64 p.d, .int .i64 p.k, .int .i64 p.m, .slice ta m tc] 24) = W1 from HW1.out] at hb2
  have HB2 : Hid (Below W1.heap.size W1 w2) := hb2
  obtain ⟨N, hN⟩ : ∃ N, N = l.length := ⟨_, rfl⟩
  have HN : Hid (N = l.length) := hN
  have hV2 : SV w2 w2.heap.size (.slice fa l.length fc) l := hO.sv
  rw [← hN] at hV2 hl25 ⊢
  -- what every later world keeps
  have HVW : Hid (∀ W, Below w2.heap.size w2 W → SV W W.heap.size (.slice fa N fc) l ∧ PolIn W W.heap.size p (.slice ta m tc) ∧ Below W1.heap.size W1 W) := fun W hW => by
    have hb := hb2.trans (hW.mono hb2.size)
    have hbw := HDONE.out W hb
    exact ⟨(hV2.below hW).mono hW.size, (HPI.out.below hbw).mono hbw.size, hb⟩
  obtain ⟨⟨c0, c1, c2, c3, c4⟩, hz2⟩ := HC.out w2 hb2
  have HE1 := rcheck_any p (.slice ta m tc) (.slice fa N fc) l
  have HRC : Hid (∀ W, Below w2.heap.size w2 W → Calls Try.prog 10 #[polV p (.slice ta m tc), .slice fa N fc] W fun e w' => e = .returned (.int .i64 (errR p l)) ∧ Below w2.heap.size w2 w' ∧ Below W.heap.size W w') := fun W hW => (HE1 W (HVW.out W hW).1 (by rw [← hN]; omega)).mono fun e w' ⟨h1, h2⟩ => ⟨h1, hW.trans (h2.mono hW.size), h2⟩
  have HRP : Hid (∀ W, Below w2.heap.size w2 W → Calls Try.prog 12 #[polV p (.slice ta m tc), .slice fa N fc] W fun e w' => e = .returned (.int .i64 (errR p l)) ∧ Below w2.heap.size w2 w' ∧ Below W.heap.size W w') := fun W hW => (check_any p (.slice ta m tc) (.slice fa N fc) l W (HVW.out W hW).1 (by rw [← hN]; omega)).mono fun e w' ⟨h1, h2⟩ => ⟨h1, hW.trans (h2.mono hW.size), h2⟩
  have HAW : Hid (∀ W, Below w2.heap.size w2 W → Calls Try.prog 11 #[] W fun e w' => e = .returned (.bool true) ∧ Below w2.heap.size w2 w' ∧ Below W.heap.size W w') := fun W hW => (awake21_any W).mono fun e w' ⟨h1, h2⟩ => ⟨h1, hW.trans (h2.mono hW.size), h2⟩
  have HB22 : Hid (Below w2.heap.size w2 w2) := Below.refl _ _
  have HS0 := HRC.out
  unfold polV at HRC HRP
  clear hb2 hO HF HW1 HE1 hV2 HS0
  by_cases he : errR p l = 0
  · have HK := keep_good p (.slice ta m tc) (.slice fa N fc) l w2 (HVW.out w2 HB22.out).2.1 (HVW.out w2 HB22.out).1 (by rw [← hN]; omega) HG.out he
    have HGN : Hid (∀ W, Below w2.heap.size w2 W → Calls Try.prog 9 #[polV p (.slice ta m tc), .slice fa N fc] W fun e w' => ∃ a c, e = .returned (.tuple #[.slice a (gnN p l N) c, .int .i64 0]) ∧ OT w' W.heap.size (.slice a (gnN p l N) c) (goneP p l N) ∧ Below w2.heap.size w2 w' ∧ Below W.heap.size W w') := fun W hW => by
      have := gone_good p (.slice ta m tc) (.slice fa N fc) l W (HVW.out W hW).2.1 (HVW.out W hW).1 (by rw [← hN]; omega) HG.out he
      rw [← hN] at this
      exact this.mono fun e w' ⟨a, c, h1, h2, h3⟩ => ⟨a, c, h1, h2, hW.trans (h3.mono hW.size), h3⟩
    have HE : Hid (errR p l = 0) := he
    obtain ⟨hneg, htm⟩ := err_zero he
    have HTO : Hid (∀ x ∈ l, tOk x) := fun x hx => (tmB_all l 0 htm).1 x hx
    have HKP : Hid (∀ W (i : Nat), i < N → Below w2.heap.size w2 W → Calls Try.prog 13 #[polV p (.slice ta m tc), .slice fa N fc, .int .i64 (i : Int)] W fun e w' => e = .returned (.bool (bF (kpL p l) i)) ∧ Below w2.heap.size w2 w' ∧ Below W.heap.size W w') := fun W i hi hW => (rkept_any p (.slice ta m tc) fa N fc l i W (HVW.out W hW).2.1 (HVW.out W hW).1 HN.out hi (by omega) HTO.out).mono fun e w' ⟨h1, h2⟩ => ⟨h1, hW.trans (h2.mono hW.size), h2⟩
    rw [he] at HRC HRP
    rw [← hN] at HK
    unfold polV at HK HGN HKP
    clear he hneg htm hN
    go_wp2_with fail
    refine HK.mono ?_
    rintro e w3 ⟨g, rfl, -, hR, hb3⟩
    have HR : Hid (BR w3 g N (bF (kpL p l))) := hR
    have HB3 : Hid (Below w2.heap.size w2 w3) := hb3
    have hgl := hR.lt
    clear hb3 hR HK c0 c1 c2 c3 c4
    obtain ⟨⟨c0, c1, c2, c3, c4⟩, hz3⟩ := HC.out w3 (HVW.out w3 HB3.out).2.2
    go_wp2_with fail
    refine (HGN.out w3 HB3.out).mono ?_
    rintro e w4 ⟨ga, gc, rfl, hO4, hb4, hb34⟩
    have HB4 : Hid (Below w2.heap.size w2 w4) := hb4
    have HO4 : Hid (OT w4 w3.heap.size (.slice ga (gnN p l N) gc) (goneP p l N)) := hO4
    have HR4 : Hid (BR w4 g N (bF (kpL p l))) := HR.out.keep (hb34.block g hgl)
    have hgl4 := HR4.out.lt
    clear hb4 hO4 hb34 c0 c1 c2 c3 c4
    obtain ⟨⟨c0, c1, c2, c3, c4⟩, hz4⟩ := HC.out w4 (HVW.out w4 HB4.out).2.2
    go_wp2_with fail
    refine (HRC.out w4 HB4.out).mono ?_
    rintro e w5 ⟨rfl, hb5, hb45⟩
    have HB5 : Hid (Below w2.heap.size w2 w5) := hb5
    have HC5 : Hid (Below w4.heap.size w4 w5) := hb45
    clear hb5 hb45 c0 c1 c2 c3 c4
    go_wp2_with fail
    refine (HAW.out w5 HB5.out).mono ?_
    rintro e w6 ⟨rfl, hb6, hb56⟩
    have HB6 : Hid (Below w2.heap.size w2 w6) := hb6
    have HC6 : Hid (Below w4.heap.size w4 w6) := HC5.out.trans (hb56.mono HC5.out.size)
    clear hb6 hb56
    obtain ⟨⟨c0, c1, c2, c3, c4⟩, hz6⟩ := HC.out w6 (HVW.out w6 HB6.out).2.2
    go_wp2_with fail
    refine (HRP.out w6 HB6.out).mono ?_
    rintro e w7 ⟨rfl, hb7, hb67⟩
    have HB7 : Hid (Below w2.heap.size w2 w7) := hb7
    have HC7 : Hid (Below w4.heap.size w4 w7) := HC6.out.trans (hb67.mono HC6.out.size)
    clear hb7 hb67 c0 c1 c2 c3 c4
    go_wp2
    go_loopw [67, 11, 12, 13] (fun i s _ _ wr => ∃ k : Nat, k ≤ N ∧ i = .int .i64 (k : Int) ∧ s = .int .i64 (gnN p l k : Nat) ∧ Below w2.heap.size w2 wr ∧ Below w4.heap.size w4 wr) (fun i _ _ _ _ => N - (intOf i).toNat)
    case atStart => exact ⟨0, Nat.zero_le _, rfl, rfl, HB7.out, HC7.out⟩
    case round =>
      obtain ⟨k, hk, rfl, rfl, hb, hb4⟩ := hrel
      have HB : Hid (Below w2.heap.size w2 wr) := hb
      have HC4 : Hid (Below w4.heap.size w4 wr) := hb4
      clear hb hb4
      by_cases hlt : k < N
      · have hlti : (k : Int) < (N : Int) := by omega
        obtain ⟨x, hx⟩ : ∃ x, l[k]? = some x := ⟨_, List.getElem?_eq_getElem (by rw [← HN.out]; exact hlt)⟩
        have HGA : Hid (bF (kpL p l) k = false → gnN p l k < gnN p l N ∧ (goneP p l N).getD (gnN p l k) [] = x.i) := fun h => goneP_at p l N k hlt x hx h
        have HG1 : Hid (bF (kpL p l) k = true → gnN p l (k + 1) = gnN p l k) := gnN_yes
        have HG0 : Hid (bF (kpL p l) k = false → gnN p l (k + 1) = gnN p l k + 1) := gnN_no
        have HK2 := HKP.out wr k hlt HB.out
        obtain ⟨⟨c0, c1, c2, c3, c4⟩, hzr⟩ := HC.out wr (HVW.out wr HB.out).2.2
        go_wp2_with fail
        refine HK2.mono ?_
        rintro e w8 ⟨rfl, hb8, hb18⟩
        have HB8 : Hid (Below w2.heap.size w2 w8) := hb8
        have HC8 : Hid (Below w4.heap.size w4 w8) := HC4.out.trans (hb18.mono HC4.out.size)
        have k0 := (HR4.out.keep (HC8.out.block g hgl4)).cell k hlt
        have hg8 := (HR4.out.keep (HC8.out.block g hgl4)).lt
        obtain ⟨gg, o, he, -, hgg, -, hcap8, s0, s1, s2⟩ := (HVW.out w8 HB8.out).1.at hx
        cases he
        have HO8 : Hid (OT w8 w3.heap.size (.slice ga (gnN p l N) gc) (goneP p l N)) := HO4.out.below HC8.out
        have hgk : gnN p l k ≤ k := goneP_len p l k
        clear hb8 hb18 HK2 hx c0 c1 c2 c3 c4 s1 s2
        generalize bF (kpL p l) k = bk at *
        cases bk with
        | true =>
          have HGE := HG1.out rfl
          have HGF : Hid (gnN p l (k + 1) = gnN p l k) := HGE
          clear HGE
          go_upto_region 16 with fail
          go_quiet (fail)
          go_wp2
          go_roundw
          case rel => exact ⟨k + 1, by omega, by go_num, by rw [HGF.out], bdrewN HB8.out _, bdrewN HC8.out _⟩
          case measure => simp [intOf]; omega
        | false =>
          have HGE := HG0.out rfl
          have HGF : Hid (gnN p l (k + 1) = gnN p l k + 1) := HGE
          obtain ⟨hgn, hgd⟩ := HGA.out rfl
          obtain ⟨gx, cx, hex, hcx, hgx, t0⟩ := HO8.out.at (i := gnN p l k) hgn
          have hex2 : Value.slice ga (gnN p l N) gc = .slice (some ⟨gx, 0, none⟩) (gnN p l N) cx := hex
          cases hex2
          rw [hgd] at t0
          have hcx2 : gnN p l N ≤ gc := hcx
          clear HGE hgd hex HGA HG1 HG0 HO8
          generalize gnN p l k = q at *
          have hqi : (q : Int) < (gnN p l N : Int) := by omega
          have hdq : decide ((gnN p l N : Int) ≤ (q : Int)) = false := decide_eq_false (by omega)
          have hdn : decide (gnN p l N ≤ q) = false := decide_eq_false (by omega)
          have hwq : IntKind.i64.wrap ((q : Int) + 1) = (q : Int) + 1 := by rw [IntKind.wrap_i64]; omega
          go_upto_region 16 with fail
          go_quiet (fail)
          go_wp2
          go_roundw
          case rel => exact ⟨k + 1, by omega, by go_num, by rw [HGF.out]; go_num, bdrewN HB8.out _, bdrewN HC8.out _⟩
          case measure => simp [intOf]; omega
      · have hlti : ¬ (k : Int) < (N : Int) := by omega
        obtain rfl : k = N := by omega
        go_wp2
        go_ret
        exact ⟨rfl, HDONE.out _ (HVW.out _ HB.out).2.2⟩
  · have hbe : (errR p l == 0) = false := by rw [beq_eq_false_iff_ne]; exact he
    have HK := keep_bad p (.slice ta m tc) (.slice fa N fc) l w2 (HVW.out w2 HB22.out).2.1 (HVW.out w2 HB22.out).1 (by rw [← hN]; omega) he
    have HGN : Hid (∀ W, Below w2.heap.size w2 W → Calls Try.prog 9 #[polV p (.slice ta m tc), .slice fa N fc] W fun e w' => e = .returned (.tuple #[.slice none 0 0, .int .i64 (errR p l)]) ∧ Below w2.heap.size w2 w') := fun W hW => (gone_bad p (.slice ta m tc) (.slice fa N fc) l W (HVW.out W hW).2.1 (HVW.out W hW).1 (by rw [← hN]; omega) he).mono fun e w' ⟨h1, h2⟩ => ⟨h1, hW.trans (h2.mono hW.size)⟩
    unfold polV at HK HGN
    generalize errR p l = E at *
    clear hN
    go_wp2_with fail
    refine HK.mono ?_
    rintro e w3 ⟨rfl, hb3⟩
    have HB3 : Hid (Below w2.heap.size w2 w3) := hb3
    clear hb3 HK c0 c1 c2 c3 c4
    obtain ⟨⟨c0, c1, c2, c3, c4⟩, hz3⟩ := HC.out w3 (HVW.out w3 HB3.out).2.2
    go_wp2_with fail
    refine (HGN.out w3 HB3.out).mono ?_
    rintro e w4 ⟨rfl, hb4⟩
    have HB4 : Hid (Below w2.heap.size w2 w4) := hb4
    clear hb4 c0 c1 c2 c3 c4
    obtain ⟨⟨c0, c1, c2, c3, c4⟩, hz4⟩ := HC.out w4 (HVW.out w4 HB4.out).2.2
    go_wp2_with fail
    refine (HRC.out w4 HB4.out).mono ?_
    rintro e w5 ⟨rfl, hb5, -⟩
    have HB5 : Hid (Below w2.heap.size w2 w5) := hb5
    clear hb5 c0 c1 c2 c3 c4
    go_wp2_with fail
    refine (HAW.out w5 HB5.out).mono ?_
    rintro e w6 ⟨rfl, hb6, -⟩
    have HB6 : Hid (Below w2.heap.size w2 w6) := hb6
    clear hb6
    obtain ⟨⟨c0, c1, c2, c3, c4⟩, hz6⟩ := HC.out w6 (HVW.out w6 HB6.out).2.2
    go_wp2_with fail
    refine (HRP.out w6 HB6.out).mono ?_
    rintro e w7 ⟨rfl, hb7, -⟩
    have HB7 : Hid (Below w2.heap.size w2 w7) := hb7
    clear hb7 c0 c1 c2 c3 c4
    go_wp2
    go_ret
    exact ⟨rfl, HDONE.out _ (HVW.out _ HB7.out).2.2⟩
end Go.Proofs.Ytkfaoldpcgokiaa
