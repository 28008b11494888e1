/- The walk of RetainAgain: what is kept is kept again, by a wider policy too, and the newest one always. -/
import Derived.Test.YtkfaoldpcgokiaaRetR
import Derived.Test.YtkfaoldpcgokiaaWRetainOlder
namespace Go.Proofs.Ytkfaoldpcgokiaa
open Go.RowKit
set_option linter.unusedVariables false
set_option linter.unusedSimpArgs false

/-- A policy a little wider. -/
def wideP (p : Pol) (m : Nat) : Pol := ⟨p.a + m, p.d + (m / 2 : Nat), p.k + (m / 3 : Nat), p.m + m, p.tg ++ [[120]]⟩
theorem wideP_wider (p : Pol) (m : Nat) : Wider p (wideP p m) := ⟨by unfold wideP; simp only; omega, by unfold wideP; simp only; omega, by unfold wideP; simp only; omega, by unfold wideP; simp only; omega, fun x hx => by unfold wideP; simp only; exact List.mem_append.2 (.inl hx)⟩
theorem wideP_neg {p : Pol} (h : ¬ p.neg) (m : Nat) : ¬ (wideP p m).neg := by
  unfold Pol.neg wideP at *; simp only; omega
theorem max4_run (a d k m : Int) : ∃ mx : Int, (1099511627776 < mx ↔ (1099511627776 < a ∨ 1099511627776 < d ∨ 1099511627776 < k ∨ 1099511627776 < m)) ∧ ∀ W, (Builtin.max_ #[3, 3, 3, 3] 3 #[.int .i64 a, .int .i64 d, .int .i64 k, .int .i64 m]).run Try.prog W = .ok (.int .i64 mx) W := by
  refine ⟨max (max (max a d) k) m, by omega, fun W => ?_⟩
  have h : ∀ (x y : Int) (W : World), (Builtin.max2 (.int .i64 x) (.int .i64 y)).run Try.prog W = .ok (.int .i64 (max x y)) W := fun x y W => by
    unfold Builtin.max2
    simp [go_sem]
    split <;> congr 2 <;> omega
  unfold Builtin.max_
  simp only [List.foldlM, Sem.run_bind, h, Result.andThen_ok, Sem.run_pure]
set_option maxRecDepth 100000 in
set_option maxHeartbeats 4000000 in
theorem lawRetainAgain_walk (p : Pol) (tv : Value) (a : Option Addr) (len cap : Nat) (l0 : List Sn) (n : Int) (w : World) (hP : PolS w p tv) (hS : IsSns w a len cap l0) (hn : -9223372036854775808 ≤ n ∧ n ≤ 9223372036854775807) :
    Calls Try.prog 4 #[polV p tv, .slice a len cap, .int .i64 n] w fun e w' => e = .returned (.bool true) ∧ Below w.heap.size w w' := by
  obtain ⟨hll, hl63, hok, hV⟩ := hS
  obtain ⟨hn1, hn2⟩ := hn
  obtain ⟨W1, hW1⟩ : ∃ W1, W1 = w.alloc (.cells #[.int .i64 p.a, .int .i64 p.d, .int .i64 p.k, .int .i64 p.m, tv] 24) := ⟨_, rfl⟩
  have hB1 : Below w.heap.size w W1 := by rw [hW1]; exact (Below.refl _ w).alloc (Nat.le_refl _) _
  have hN1 : PB W1 w.heap.size (.int .i64 p.a) (.int .i64 p.d) (.int .i64 p.k) (.int .i64 p.m) tv := by rw [hW1]; exact PB.new w _ _ _ _ _
  have HN1 : Hid (PB W1 w.heap.size (.int .i64 p.a) (.int .i64 p.d) (.int .i64 p.k) (.int .i64 p.m) tv) := hN1
  have HB1 : Hid (Below w.heap.size w W1) := hB1
  have HF := few21_any a len cap l0 W1 ((hV.below hB1).mono hB1.size) hll hl63
  have HG : Hid (∀ x ∈ l0.take 25, x.g.length ≤ 9223372036854775807) := fun x hx => (hok x (List.mem_of_mem_take hx)).2.2
  have hl25 : (l0.take 25).length ≤ 25 := by rw [List.length_take]; omega
  have HPI : Hid (PolIn w w.heap.size p tv) := hP.h
  have HNS : Hid (p.tg.length ≤ 8796093021952) := hP.n
  have hzw : w.heap.size < W1.heap.size := hN1.lt
  generalize l0.take 25 = l at *
  obtain ⟨ta, tc, rfl, -, -⟩ := hP.h.tv
  obtain ⟨m, hm⟩ : ∃ m, m = p.tg.length := ⟨_, rfl⟩
  have HM : Hid (m = p.tg.length) := hm
  rw [← hm] at hW1 HN1 HPI ⊢
  clear hm
  rw [hW1] at HF
  have HW1 : Hid (w.alloc (.cells #[.int .i64 p.a, .int .i64 p.d, .int .i64 p.k, .int .i64 p.m, .slice ta m tc] 24) = W1) := hW1.symm
  clear hV hok hN1 hB1 hP hW1 hll
  unfold polV
  go_enter Try.func4, Try.ntmps4
  go_wp2_with fail
  refine HF.mono ?_
  rintro e w2 ⟨fa, fc, rfl, hO, hb2⟩
  rw [show w.alloc (.cells #[.int .i64 p.a, .int .i64 p.d, .int .i64 p.k, .int .i64 p.m, .slice ta m tc] 24) = W1 from HW1.out] at hb2
  have HB2 : Hid (Below w.heap.size w w2) := HB1.out.trans (hb2.mono HB1.out.size)
  have hN2 : PB w2 w.heap.size _ _ _ _ _ := HN1.out.keep (hb2.block _ hzw)
  have HN2 : Hid (PB w2 w.heap.size (.int .i64 p.a) (.int .i64 p.d) (.int .i64 p.k) (.int .i64 p.m) (.slice ta m tc)) := hN2
  have hz2 : w.heap.size < w2.heap.size := hN2.lt
  have HV2 : Hid (SV w2 w2.heap.size (.slice fa l.length fc) l) := hO.sv
  have HP2 : Hid (PolIn w2 w2.heap.size p (.slice ta m tc)) := (HPI.out.below HB2.out).mono HB2.out.size
  obtain ⟨c0, c1, c2, c3, c4⟩ := hN2.c
  clear hN2 hO hb2 HB1 HN1 HW1 HF
  obtain ⟨N, hN⟩ : ∃ N, N = l.length := ⟨_, rfl⟩
  have HN : Hid (N = l.length) := hN
  by_cases he : errR p l = 0
  · have HK := keep_good p (.slice ta m tc) _ l w2 HP2.out HV2.out (by omega) HG.out he
    have HE : Hid (errR p l = 0) := he
    unfold polV at HK
    clear he
    rw [← hN] at HK HV2 hl25 ⊢
    clear hN
    go_wp2_with fail
    refine HK.mono ?_
    rintro e w3 ⟨g, rfl, hg1, hR, hb3⟩
    have HR : Hid (BR w3 g N (bF (kpL p l))) := hR
    have HB3 : Hid (Below w.heap.size w w3) := HB2.out.trans (hb3.mono HB2.out.size)
    have hgl := hR.lt
    have hN3 : PB w3 w.heap.size (.int .i64 p.a) (.int .i64 p.d) (.int .i64 p.k) (.int .i64 p.m) (.slice ta m tc) := HN2.out.keep (hb3.block _ hz2)
    have HN3 : Hid (PB w3 w.heap.size (.int .i64 p.a) (.int .i64 p.d) (.int .i64 p.k) (.int .i64 p.m) (.slice ta m tc)) := hN3
    have hz3 : w.heap.size < w3.heap.size := hN3.lt
    have HV3 : Hid (SV w3 w3.heap.size (.slice fa N fc) l) := (HV2.out.below hb3).mono hb3.size
    have HP3 : Hid (PolIn w3 w3.heap.size p (.slice ta m tc)) := (HP2.out.below hb3).mono hb3.size
    clear c0 c1 c2 c3 c4
    obtain ⟨c0, c1, c2, c3, c4⟩ := hN3.c
    obtain ⟨hneg, htm⟩ := err_zero HE.out
    have HNEG : Hid (¬ p.neg) := hneg
    obtain ⟨q1, q2, q3, q4⟩ : 0 ≤ p.a ∧ 0 ≤ p.d ∧ 0 ≤ p.k ∧ 0 ≤ p.m := by unfold Pol.neg at hneg; omega
    clear hb3 hR hg1 hN3 HK hneg htm HV2 HP2 HN2
    have hA := awake21_any w3
    have HA : Hid (Calls Try.prog 11 #[] w3 fun e w' => e = .returned (.bool true) ∧ Below w3.heap.size w3 w') := hA
    clear hA
    by_cases hbig : n < 0 ∨ 1000 < n ∨ 1099511627776 < p.a ∨ 1099511627776 < p.d ∨ 1099511627776 < p.k ∨ 1099511627776 < p.m
    · go_upto_region 3 with fail
      go_cut [49] (fun t wx => t = .bool true ∧ wx = w3)
      case first =>
        by_cases h1 : n < 0
        · go_wp2
          all_goals (go_meet; exact ⟨rfl, rfl⟩)
        · by_cases h2 : 1000 < n
          · go_wp2
            all_goals (go_meet; exact ⟨rfl, rfl⟩)
          · have h7 : 1099511627776 < p.a ∨ 1099511627776 < p.d ∨ 1099511627776 < p.k ∨ 1099511627776 < p.m := by omega
            obtain ⟨mx, hmx, hrun⟩ := max4_run p.a p.d p.k p.m
            have hX := hmx.2 h7
            clear hbig h7 hmx
            go_wp2
            all_goals (go_meet; exact ⟨rfl, rfl⟩)
      case rest =>
        obtain ⟨rfl, hwc⟩ := hcut
        rw [hwc]
        clear hwc c0 c1 c2 c3 c4 hbig
        go_wp2_with fail
        refine HA.out.mono ?_
        rintro e w6 ⟨rfl, hb6⟩
        have HB6 : Hid (Below w.heap.size w w6) := HB3.out.trans (hb6.mono HB3.out.size)
        clear hb6
        go_wp2
        go_ret
        exact ⟨rfl, HB6.out⟩
    · obtain ⟨h1, h2, h3, h4, h5, h6⟩ : ¬ n < 0 ∧ ¬ 1000 < n ∧ p.a ≤ 1099511627776 ∧ p.d ≤ 1099511627776 ∧ p.k ≤ 1099511627776 ∧ p.m ≤ 1099511627776 := by omega
      clear hbig
      go_upto_region 3 with fail
      go_cut [49] (fun t wx => t = .bool false ∧ wx = w3)
      case first =>
        obtain ⟨mx, hmx, hrun⟩ := max4_run p.a p.d p.k p.m
        have hX : ¬ 1099511627776 < mx := fun h => by have := hmx.1 h; omega
        clear h3 h4 h5 h6 hmx
        have d1 : decide (n < 0) = false := decide_eq_false (by omega)
        have d2 : decide (1000 < n) = false := decide_eq_false (by omega)
        go_wp2
        all_goals (go_meet; exact ⟨rfl, rfl⟩)
      case rest =>
        obtain ⟨rfl, hwc⟩ := hcut
        rw [hwc]
        clear hwc c0 c1 c2 c3 c4 HA
        obtain ⟨W4, hW4⟩ : ∃ W4, W4 = w3.alloc (.cells #[] 39) := ⟨_, rfl⟩
        have hb4 : Below w3.heap.size w3 W4 := by rw [hW4]; exact (Below.refl _ _).alloc (Nat.le_refl _) _
        have hO4 : SO W4 w3.heap.size (.slice (some ⟨w3.heap.size, 0, none⟩) 0 0) [] := by rw [hW4]; exact ⟨rfl, .inr ⟨w3.heap.size, 0, #[], rfl, Nat.le_refl _, heap_alloc_new w3 _, Nat.le_refl _, by decide, rfl, rfl⟩⟩
        have HB4 : Hid (Below w3.heap.size w3 W4) := hb4
        have HO4 : Hid (SO W4 w3.heap.size (.slice (some ⟨w3.heap.size, 0, none⟩) 0 0) []) := hO4
        have hs4 := hb4.size
        have HW4 : Hid (w3.alloc (.cells #[] 39) = W4) := hW4.symm
        clear hb4 hO4 hW4
        go_upto_region 8 with fail
        rw [show w3.alloc (.cells #[] 39) = W4 from HW4.out]
        clear HW4
        go_wp2
        go_loopw [59, 10] (fun i s wr => ∃ (k q : Nat) (A : List Sn) (ua : Option Addr) (uc : Nat), k ≤ N ∧ i = .int .i64 (k : Int) ∧ s = .slice ua q uc ∧ q ≤ k ∧ Hid (q = A.length) ∧ Hid (A ++ kL p (l.drop k) = kL p l) ∧ SO wr w3.heap.size (.slice ua q uc) A ∧ Below w3.heap.size w3 wr) (fun i _ _ => N - (intOf i).toNat)
        case atStart => exact ⟨0, 0, [], some ⟨w3.heap.size, 0, none⟩, 0, Nat.zero_le _, rfl, rfl, Nat.le_refl _, rfl, rfl, HO4.out, HB4.out⟩
        case round =>
          obtain ⟨k, q, A, ua, uc, hk, rfl, rfl, hqk, HQ, HA, hO, hb⟩ := hrel
          have HO : Hid (SO wr w3.heap.size (.slice ua q uc) A) := hO
          have HB : Hid (Below w3.heap.size w3 wr) := hb
          have hs3 := hb.size
          have hR4 : BR wr g N (bF (kpL p l)) := HR.out.keep (hb.block g hgl)
          have HR4 : Hid (BR wr g N (bF (kpL p l))) := hR4
          have hgl4 := hR4.lt
          clear hO hb hR4
          by_cases hlt : k < N
          · have hlti : (k : Int) < (N : Int) := by omega
            obtain ⟨x, hx⟩ : ∃ x, l[k]? = some x := ⟨_, List.getElem?_eq_getElem (by rw [← HN.out]; exact hlt)⟩
            obtain ⟨gg, o, rfl, hgB, hg, -, hcap, s0, s1, s2⟩ := (HV3.out.below HB.out).at hx
            have k0 := HR4.out.cell k hlt
            have HST : Hid (kL p (l.drop k) = if bF (kpL p l) k = true then x :: kL p (l.drop (k + 1)) else kL p (l.drop (k + 1))) := kL_step p l k x hx
            clear hx
            generalize bF (kpL p l) k = bk at *
            cases bk with
            | true =>
              have HA2 : Hid ((A ++ [x]) ++ kL p (l.drop (k + 1)) = kL p l) := by
                unfold Hid; rw [← HA.out, HST.out, if_pos rfl]; simp
              have HQ2 : Hid (q + 1 = (A ++ [x]).length) := by unfold Hid; rw [HQ.out]; simp
              have HO3 : Hid (SO wr w3.heap.size (.slice ua q uc) A) := HO.out
              have hAq : A.length ≤ 25 := by have := HQ.out; omega
              have HAQ : Hid (A.length = q) := HQ.out.symm
              go_wp2_with (at_builtin; refine append_sn rfl _ _ rfl w3.heap.size (.slice ua q uc) A x rfl rfl HO3.out (by omega) hs3 ?_; intro a' c' w4 hO4 hg4)
              have HO4 : Hid (SO w4 w3.heap.size (.slice a' (A.length + 1) c') (A ++ [x])) := hO4
              have HB5 : Hid (Below w3.heap.size w3 w4) := HB.out.grown hg4 hs3 (fun r hr => (World.ownsRow.lt HO3.out r hr).1)
              clear hO4 hg4
              go_wp2
              go_roundw
              case rel => exact ⟨k + 1, A.length + 1, A ++ [x], a', c', by omega, by go_num, rfl, by have := HAQ.out; omega, by unfold Hid; simp, HA2.out, HO4.out, HB5.out⟩
              case measure => simp [intOf]; omega
            | false =>
              have HA2 : Hid (A ++ kL p (l.drop (k + 1)) = kL p l) := by
                unfold Hid; rw [← HA.out, HST.out, if_neg (by simp)]
              go_wp2
              go_roundw
              case rel => exact ⟨k + 1, q, A, ua, uc, by omega, by go_num, rfl, by omega, HQ.out, HA2.out, HO.out, HB.out⟩
              case measure => simp [intOf]; omega
          · have hlti : ¬ (k : Int) < (N : Int) := by omega
            obtain rfl : k = N := by omega
            have HAL : Hid (A = kL p l) := by
              have := HA.out
              rw [List.drop_eq_nil_of_le (by rw [← HN.out]; exact Nat.le_refl _)] at this
              unfold Hid; simpa [kL] using this
            have HSB : Hid (A.Sublist l) := by unfold Hid; rw [HAL.out]; exact kL_sub p l
            have hN5 : PB wr w.heap.size (.int .i64 p.a) (.int .i64 p.d) (.int .i64 p.k) (.int .i64 p.m) (.slice ta m tc) := HN3.out.keep (HB.out.block _ hz3)
            have HN5 : Hid (PB wr w.heap.size (.int .i64 p.a) (.int .i64 p.d) (.int .i64 p.k) (.int .i64 p.m) (.slice ta m tc)) := hN5
            have hz5 := hN5.lt
            obtain ⟨c0, c1, c2, c3, c4⟩ := hN5.c
            have hP5 : PolIn wr wr.heap.size p (.slice ta m tc) := (HP3.out.below HB.out).mono HB.out.size
            have HGO := gone_good p (.slice ta m tc) (.slice ua q uc) A wr hP5 HO.out.sv (by have := HSB.out.length_le; have := HN.out; omega) (fun x hx => HG.out x (HSB.out.subset hx)) (err_sub HSB.out HNEG.out HE.out)
            have hgz : gnN p A A.length = 0 := by unfold gnN; rw [HAL.out, kL_gone p l _ (Nat.le_refl _)]; rfl
            rw [hgz] at HGO
            unfold polV at HGO
            clear hgz hP5 hN5 HA HO
            go_wp2_with fail
            refine HGO.mono ?_
            rintro e w5 ⟨ga, gc, rfl, -, hb5⟩
            have HB5 : Hid (Below w3.heap.size w3 w5) := HB.out.trans (hb5.mono HB.out.size)
            have hs5 := HB5.out.size
            have HR5 : Hid (BR w5 g k (bF (kpL p l))) := HR4.out.keep (hb5.block g hgl4)
            have hN6 : PB w5 w.heap.size (.int .i64 p.a) (.int .i64 p.d) (.int .i64 p.k) (.int .i64 p.m) (.slice ta m tc) := HN5.out.keep (hb5.block _ hz5)
            have HN6 : Hid (PB w5 w.heap.size (.int .i64 p.a) (.int .i64 p.d) (.int .i64 p.k) (.int .i64 p.m) (.slice ta m tc)) := hN6
            have hz6 := hN6.lt
            clear c0 c1 c2 c3 c4 hb5 HGO
            obtain ⟨c0, c1, c2, c3, c4⟩ := hN6.c
            clear hN6
            have hzp := zeroPol
            obtain ⟨M, rfl⟩ : ∃ M : Nat, n = (M : Int) := ⟨n.toNat, by omega⟩
            have hM : M ≤ 1000 := by omega
            obtain ⟨W6, hW6⟩ : ∃ W6, W6 = w5.alloc (.cells #[.int .i64 p.a, .int .i64 p.d, .int .i64 p.k, .int .i64 p.m, .slice ta m tc] 24) := ⟨_, rfl⟩
            have hN7 : PB W6 w5.heap.size (.int .i64 p.a) (.int .i64 p.d) (.int .i64 p.k) (.int .i64 p.m) (.slice ta m tc) := by rw [hW6]; exact PB.new w5 _ _ _ _ _
            have HB6 : Hid (Below w3.heap.size w3 W6) := by rw [hW6]; exact HB5.out.alloc HB5.out.size _
            have HW6 : Hid (w5.alloc (.cells #[.int .i64 p.a, .int .i64 p.d, .int .i64 p.k, .int .i64 p.m, .slice ta m tc] 24) = W6) := hW6.symm
            clear hW6
            go_upto_region 16 with fail
            rw [show w5.alloc (.cells #[.int .i64 p.a, .int .i64 p.d, .int .i64 p.k, .int .i64 p.m, .slice ta m tc] 24) = W6 from HW6.out]
            clear HW6 c0 c1 c2 c3 c4 hzp
            generalize w5.heap.size = G at *
            have HN7 : Hid (PB W6 G (.int .i64 p.a) (.int .i64 p.d) (.int .i64 p.k) (.int .i64 p.m) (.slice ta m tc)) := hN7
            have hwa : IntKind.i64.wrap (p.a + (M : Int)) = p.a + (M : Int) := by rw [IntKind.wrap_i64]; omega
            have hwm : IntKind.i64.wrap (p.m + (M : Int)) = p.m + (M : Int) := by rw [IntKind.wrap_i64]; omega
            have hd2 : ((M : Int)).tdiv 2 = ((M / 2 : Nat) : Int) := by rw [Int.tdiv_eq_ediv_of_nonneg (by omega)]; omega
            have hd3 : ((M : Int)).tdiv 3 = ((M / 3 : Nat) : Int) := by rw [Int.tdiv_eq_ediv_of_nonneg (by omega)]; omega
            have hwd : IntKind.i64.wrap (p.d + ((M / 2 : Nat) : Int)) = p.d + ((M / 2 : Nat) : Int) := by rw [IntKind.wrap_i64]; omega
            have hwk : IntKind.i64.wrap (p.k + ((M / 3 : Nat) : Int)) = p.k + ((M / 3 : Nat) : Int) := by rw [IntKind.wrap_i64]; omega
            have hw2 : IntKind.i64.wrap ((M / 2 : Nat) : Int) = ((M / 2 : Nat) : Int) := by rw [IntKind.wrap_i64]; omega
            have hw3 : IntKind.i64.wrap ((M / 3 : Nat) : Int) = ((M / 3 : Nat) : Int) := by rw [IntKind.wrap_i64]; omega
            have HPW : Hid (wideP p M = ⟨p.a + M, p.d + (M / 2 : Nat), p.k + (M / 3 : Nat), p.m + M, p.tg ++ [[120]]⟩) := rfl
            have hM2 : M / 2 ≤ 1000 := by omega
            have hM3 : M / 3 ≤ 1000 := by omega
            generalize M / 2 = M2 at *
            generalize M / 3 = M3 at *
            obtain ⟨f0, f1⟩ : W6.cell? ⟨G, 0, none⟩ = some (.int .i64 p.a) ∧ W6.frozen? ⟨G, 0, none⟩ = false := ⟨hN7.c.1, hN7.f 0⟩
            have HNW6 : Hid (PB W6 G (.int .i64 p.a) (.int .i64 p.d) (.int .i64 p.k) (.int .i64 p.m) (.slice ta m tc)) := HN7.out
            have HBW6 : Hid (Below w3.heap.size w3 W6) := HB6.out
            go_upto_region 17 with fail
            obtain ⟨W7, hW7⟩ : ∃ W7, W7 = W6.setCell ⟨G, 0, none⟩ (.int .i64 (p.a + (M : Int))) := ⟨_, rfl⟩
            rw [← hW7]
            have HNW7 : Hid (PB W7 G (.int .i64 (p.a + (M : Int))) (.int .i64 (p.d)) (.int .i64 (p.k)) (.int .i64 (p.m)) (.slice ta m tc)) := by rw [hW7]; exact HNW6.out.set0 _
            have HBW7 : Hid (Below w3.heap.size w3 W7) := by rw [hW7]; exact HBW6.out.setCell hs5 _
            clear hW7 f0 f1
            obtain ⟨f0, f1⟩ : W7.cell? ⟨G, 1, none⟩ = some (.int .i64 p.d) ∧ W7.frozen? ⟨G, 1, none⟩ = false := ⟨HNW7.out.c.2.1, HNW7.out.f 1⟩
            go_upto_region 18 with fail
            obtain ⟨W8, hW8⟩ : ∃ W8, W8 = W7.setCell ⟨G, 1, none⟩ (.int .i64 (p.d + (M2 : Int))) := ⟨_, rfl⟩
            rw [← hW8]
            have HNW8 : Hid (PB W8 G (.int .i64 (p.a + (M : Int))) (.int .i64 (p.d + (M2 : Int))) (.int .i64 (p.k)) (.int .i64 (p.m)) (.slice ta m tc)) := by rw [hW8]; exact HNW7.out.set1 _
            have HBW8 : Hid (Below w3.heap.size w3 W8) := by rw [hW8]; exact HBW7.out.setCell hs5 _
            clear hW8 f0 f1
            obtain ⟨f0, f1⟩ : W8.cell? ⟨G, 2, none⟩ = some (.int .i64 p.k) ∧ W8.frozen? ⟨G, 2, none⟩ = false := ⟨HNW8.out.c.2.2.1, HNW8.out.f 2⟩
            go_upto_region 19 with fail
            obtain ⟨W9, hW9⟩ : ∃ W9, W9 = W8.setCell ⟨G, 2, none⟩ (.int .i64 (p.k + (M3 : Int))) := ⟨_, rfl⟩
            rw [← hW9]
            have HNW9 : Hid (PB W9 G (.int .i64 (p.a + (M : Int))) (.int .i64 (p.d + (M2 : Int))) (.int .i64 (p.k + (M3 : Int))) (.int .i64 (p.m)) (.slice ta m tc)) := by rw [hW9]; exact HNW8.out.set2 _
            have HBW9 : Hid (Below w3.heap.size w3 W9) := by rw [hW9]; exact HBW8.out.setCell hs5 _
            clear hW9 f0 f1
            obtain ⟨f0, f1⟩ : W9.cell? ⟨G, 3, none⟩ = some (.int .i64 p.m) ∧ W9.frozen? ⟨G, 3, none⟩ = false := ⟨HNW9.out.c.2.2.2.1, HNW9.out.f 3⟩
            go_upto_region 20 with fail
            obtain ⟨W10, hW10⟩ : ∃ W10, W10 = W9.setCell ⟨G, 3, none⟩ (.int .i64 (p.m + (M : Int))) := ⟨_, rfl⟩
            rw [← hW10]
            have HNW10 : Hid (PB W10 G (.int .i64 (p.a + (M : Int))) (.int .i64 (p.d + (M2 : Int))) (.int .i64 (p.k + (M3 : Int))) (.int .i64 (p.m + (M : Int))) (.slice ta m tc)) := by rw [hW10]; exact HNW9.out.set3 _
            have HBW10 : Hid (Below w3.heap.size w3 W10) := by rw [hW10]; exact HBW9.out.setCell hs5 _
            clear hW10 f0 f1
            have hN10 : PB W10 w.heap.size (.int .i64 p.a) (.int .i64 p.d) (.int .i64 p.k) (.int .i64 p.m) (.slice ta m tc) := HN3.out.keep (HBW10.out.block _ hz3)
            have hz10 := hN10.lt
            have f0 := hN10.c.2.2.2.2
            have f1 := HNW10.out.c.2.2.2.2
            have f2 := HNW10.out.f 4
            have HT10 : Hid (TV W10 W10.heap.size (.slice ta m tc) p.tg) := (HP3.out.tv.below HBW10.out).mono HBW10.out.size
            have hG10 := HNW10.out.lt
            have hmn : p.tg.length + 1 ≤ 8796093022208 := by have := HNS.out; omega
            have HOKI : Hid (p.ok) := HPI.out.ok
            clear hwa hwm hwd hwk hd2 hd3 hw2 hw3 hN10
            go_upto_region 21 with (first | (at_builtin; refine copy_tags rfl _ _ rfl (.slice ta m tc) p.tg rfl rfl HT10.out (by omega) ?_; intro a1 c1 w11 hO11 hb11; have HO11 : Hid (OT w11 W10.heap.size (.slice a1 p.tg.length c1) p.tg) := hO11; have HB11 : Hid (Below W10.heap.size W10 w11) := hb11; clear hO11 hb11) | (at_builtin; refine append_tag rfl _ _ rfl W10.heap.size (.slice a1 p.tg.length c1) p.tg [120] rfl rfl HO11.out hmn HB11.out.size ?_; intro a2 c2 w12 hO12 hg12; have HO12 : Hid (OT w12 W10.heap.size (.slice a2 (p.tg.length + 1) c2) (p.tg ++ [[120]])) := hO12; have HB12 : Hid (Below W10.heap.size W10 w12) := HB11.out.grown hg12 HB11.out.size (fun r hr => (World.ownsRow.lt HO11.out r hr).1); have hN12 : PB w12 G _ _ _ _ _ := HNW10.out.keep (HB12.out.block _ hG10); have hs12 := HB12.out.size; have f1 := hN12.c.2.2.2.2; have f2 := hN12.f 4; have HN12 : Hid _ := hN12; clear hO12 hg12 hN12))
            obtain ⟨W13, hW13⟩ : ∃ W13, W13 = w12.setCell ⟨G, 4, none⟩ (.slice a2 (p.tg.length + 1) c2) := ⟨_, rfl⟩
            rw [← hW13]
            have hN13 : PB W13 G (.int .i64 (p.a + (M : Int))) (.int .i64 (p.d + (M2 : Int))) (.int .i64 (p.k + (M3 : Int))) (.int .i64 (p.m + (M : Int))) (.slice a2 (p.tg.length + 1) c2) := by rw [hW13]; exact PB.set4 (show PB w12 G _ _ _ _ _ from HN12.out) _
            have HB13 : Hid (Below w3.heap.size w3 W13) := by rw [hW13]; exact (HBW10.out.trans (HB12.out.mono HBW10.out.size)).setCell hs5 _
            have hO13 : OT W13 W10.heap.size (.slice a2 (p.tg.length + 1) c2) (p.tg ++ [[120]]) := by
              rw [hW13]
              refine World.ownsRow.kept HO12.out (gset (grefl w12 (some G)) 4 _) ?_
              cases hv : (Value.slice a2 (p.tg.length + 1) c2).ownBlock with
              | none => exact .inl rfl
              | some k => exact .inr (fun e => by have := (World.ownsRow.lt HO12.out k hv).1; cases e; omega)
            have hP13 : PolIn W13 W13.heap.size (wideP p M) (.slice a2 (p.tg.length + 1) c2) := by
              rw [HPW.out]
              obtain ⟨o1, o2, o3, o4, o5, o6⟩ := HOKI.out
              refine ⟨⟨?_, ?_, ?_, ?_, ?_, ?_⟩, hO13.tv⟩
              · simp only; omega
              · simp only; omega
              · simp only; omega
              · simp only; omega
              · simp only [List.length_append, List.length_cons, List.length_nil]; omega
              · intro y hy
                simp only at hy
                rcases List.mem_append.1 hy with h | h
                · exact o6 y h
                · rw [List.mem_singleton.1 h]; decide
            have hV13 := (HV3.out.below HB13.out).mono HB13.out.size
            have HKW := keep_good (wideP p M) (.slice a2 (p.tg.length + 1) c2) (.slice fa k fc) l W13 hP13 hV13 (by have := HN.out; omega) HG.out (err_sub (List.Sublist.refl l) (wideP_neg HNEG.out M) HE.out)
            rw [← HN.out] at HKW
            unfold polV at HKW
            have HWK : Hid (∀ i, i < k → bF (kpL p l) i = true → bF (kpL (wideP p M) l) i = true) := fun i hi => wide_kept (wideP_wider p M) l i (by rw [← HN.out]; exact hi)
            have hbe : (kpL (wideP p M) l) = (kpL (wideP p M) l) := rfl
            generalize kpL (wideP p M) l = LW at *
            rw [HPW.out] at HKW
            simp only at HKW
            obtain ⟨c0, c1, c2, c3, c4⟩ := hN13.c
            have HN14 : Hid (PB W13 w.heap.size (.int .i64 p.a) (.int .i64 p.d) (.int .i64 p.k) (.int .i64 p.m) (.slice ta m tc)) := HN3.out.keep (HB13.out.block _ hz3)
            have HR13 : Hid (BR W13 g k (bF (kpL p l))) := HR.out.keep (HB13.out.block g hgl)
            clear hP13 hV13 hO13 hN13 hW13 hbe
            go_wp2_with fail
            refine HKW.mono ?_
            rintro e w14 ⟨g2, rfl, -, hR14, hb14⟩
            have HR14 : Hid (BR w14 g2 k (bF LW)) := hR14
            have HB14 : Hid (Below w3.heap.size w3 w14) := HB13.out.trans (hb14.mono HB13.out.size)
            have HRA : Hid (BR w14 g k (bF (kpL p l))) := HR13.out.keep (hb14.block g HR13.out.lt)
            have hN15 : PB w14 w.heap.size (.int .i64 p.a) (.int .i64 p.d) (.int .i64 p.k) (.int .i64 p.m) (.slice ta m tc) := HN14.out.keep (hb14.block _ HN14.out.lt)
            have HN15 : Hid (PB w14 w.heap.size (.int .i64 p.a) (.int .i64 p.d) (.int .i64 p.k) (.int .i64 p.m) (.slice ta m tc)) := hN15
            have hz14 := hN15.lt
            have hg2 := hR14.lt
            have hg14 := HRA.out.lt
            clear hb14 hR14 HKW c0 c1 c2 c3 c4 hN15
            go_wp2
            go_loopw [135] (fun i wr => ∃ j : Nat, j ≤ k ∧ i = .int .i64 (j : Int) ∧ wr = w14) (fun i _ => k - (intOf i).toNat)
            case atStart => exact ⟨0, Nat.zero_le _, rfl, rfl⟩
            case round =>
              obtain ⟨j, hj, rfl, hw⟩ := hrel
              rw [hw]
              clear hw
              by_cases hlt : j < k
              · have hlti : (j : Int) < (k : Int) := by omega
                have k0 := HRA.out.cell j hlt
                have k1 := HR14.out.cell j hlt
                have HWJ : Hid (bF (kpL p l) j = true → bF LW j = true) := HWK.out j hlt
                generalize bF (kpL p l) j = b0 at *
                generalize bF LW j = b1 at *
                cases b0 with
                | true =>
                  obtain rfl : b1 = true := HWJ.out rfl
                  go_wp2
                  go_roundw
                  case rel => exact ⟨j + 1, by omega, by go_num, by first | rfl | trivial⟩
                  case measure => simp [intOf]; omega
                | false =>
                  go_wp2
                  go_roundw
                  case rel => exact ⟨j + 1, by omega, by go_num, by first | rfl | trivial⟩
                  case measure => simp [intOf]; omega
              · have hlti : ¬ (j : Int) < (k : Int) := by omega
                obtain rfl : j = k := by omega
                obtain ⟨c0, c1, c2, c3, c4⟩ := HN15.out.c
                have HA := awake21_any w14
                have hs1 : IntKind.i64.wrap (p.a + p.d) = p.a + p.d := by rw [IntKind.wrap_i64]; omega
                have hs2 : IntKind.i64.wrap (p.a + p.d + p.k) = p.a + p.d + p.k := by rw [IntKind.wrap_i64]; omega
                have hs4 : IntKind.i64.wrap (p.a + p.d + p.k + p.m) = p.a + p.d + p.k + p.m := by rw [IntKind.wrap_i64]; omega
                have HLAST : Hid (0 < p.a + p.d + p.k + p.m → ∀ i, i + 1 = j → bF (kpL p l) i = true) := fun h i hi => last_kept HNEG.out h l i (by rw [← HN.out]; exact hi)
                have HS : Hid (0 < p.a + p.d + p.k + p.m ↔ 0 < p.a + p.d + p.k + p.m) := Iff.rfl
                by_cases hsum : 0 < p.a + p.d + p.k + p.m
                · rcases Nat.eq_zero_or_pos j with hj0 | hj0
                  · subst hj0
                    go_wp2_with fail
                    refine HA.mono ?_
                    rintro e w15 ⟨rfl, hb15⟩
                    have HB15 : Hid (Below w3.heap.size w3 w15) := HB14.out.trans (hb15.mono HB14.out.size)
                    have HB16 : Hid (Below w.heap.size w w15) := HB3.out.trans (HB15.out.mono HB3.out.size)
                    clear hb15 c0 c1 c2 c3 c4
                    go_wp2
                    go_ret
                    exact ⟨rfl, HB16.out⟩
                  · obtain ⟨i, rfl⟩ : ∃ i, j = i + 1 := ⟨j - 1, by omega⟩
                    have HLI : Hid (bF (kpL p l) i = true) := HLAST.out hsum i rfl
                    have hw1 : IntKind.i64.wrap (((i + 1 : Nat) : Int) - 1) = (i : Int) := by rw [IntKind.wrap_i64]; omega
                    have hne : ¬ ((i + 1 : Nat) : Int) = 0 := by omega
                    have hii : (i : Int) < ((i + 1 : Nat) : Int) := by omega
                    go_wp2_with fail
                    refine HA.mono ?_
                    rintro e w15 ⟨rfl, hb15⟩
                    have HB15 : Hid (Below w3.heap.size w3 w15) := HB14.out.trans (hb15.mono HB14.out.size)
                    have HB16 : Hid (Below w.heap.size w w15) := HB3.out.trans (HB15.out.mono HB3.out.size)
                    have hRZ : BR w15 g (i + 1) (bF (kpL p l)) := HRA.out.keep (hb15.block g hg14)
                    have hgz := hRZ.lt
                    have k0 := hRZ.cell i (Nat.lt_succ_self i)
                    rw [HLI.out] at k0
                    clear hRZ
                    clear hb15 c0 c1 c2 c3 c4
                    go_wp2
                    go_ret
                    exact ⟨rfl, HB16.out⟩
                · have hsn : p.a + p.d + p.k + p.m ≤ 0 := by omega
                  rcases Nat.eq_zero_or_pos j with hj0 | hj0
                  · subst hj0
                    go_wp2_with fail
                    refine HA.mono ?_
                    rintro e w15 ⟨rfl, hb15⟩
                    have HB15 : Hid (Below w3.heap.size w3 w15) := HB14.out.trans (hb15.mono HB14.out.size)
                    have HB16 : Hid (Below w.heap.size w w15) := HB3.out.trans (HB15.out.mono HB3.out.size)
                    clear hb15 c0 c1 c2 c3 c4
                    go_wp2
                    go_ret
                    exact ⟨rfl, HB16.out⟩
                  · have hne : ¬ (j : Int) = 0 := by omega
                    go_wp2_with fail
                    refine HA.mono ?_
                    rintro e w15 ⟨rfl, hb15⟩
                    have HB15 : Hid (Below w3.heap.size w3 w15) := HB14.out.trans (hb15.mono HB14.out.size)
                    have HB16 : Hid (Below w.heap.size w w15) := HB3.out.trans (HB15.out.mono HB3.out.size)
                    clear hb15 c0 c1 c2 c3 c4
                    go_wp2
                    go_ret
                    exact ⟨rfl, HB16.out⟩
  · have HK := keep_bad p (.slice ta m tc) _ l w2 HP2.out HV2.out (by omega) he
    unfold polV at HK
    have hbe : (errR p l == 0) = false := by rw [beq_eq_false_iff_ne]; exact he
    generalize errR p l = E at *
    go_wp2_with fail
    refine HK.mono ?_
    rintro e w3 ⟨rfl, hb3⟩
    have HB3 : Hid (Below w.heap.size w w3) := HB2.out.trans (hb3.mono HB2.out.size)
    clear hb3
    have HA := awake21_any w3
    go_wp2_with fail
    refine HA.mono ?_
    rintro e w6 ⟨rfl, hb6⟩
    have HB6 : Hid (Below w.heap.size w w6) := HB3.out.trans (hb6.mono HB3.out.size)
    clear hb6
    go_wp2
    go_ret
    exact ⟨rfl, HB6.out⟩
end Go.Proofs.Ytkfaoldpcgokiaa
