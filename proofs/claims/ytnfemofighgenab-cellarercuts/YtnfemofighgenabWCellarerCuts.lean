/- The walk of CellarerCuts. -/
import Derived.Test.YtnfemofighgenabWChunkerWhole
import Derived.Test.YtnfemofighgenabChkF
import Derived.Test.YtnfemofighgenabPolyO
import Derived.Test.YtnfemofighgenabPolyP
namespace Go.Proofs.Ytnfemofighgenab
open Go.RowKit
set_option linter.unusedVariables false

theorem prime_283 : prB 283 = true := by decide +kernel
theorem prime_cuts (w : World) : Calls Try.prog 18 #[.int .u64 283] w fun e w' => e = .returned (.bool true) ∧ w' = w := by
  refine (prime_any 283 w (by decide)).mono fun e w' h => ⟨h.1.trans ?_, h.2⟩
  rw [prime_283]
theorem of_ext (S : ByteArray) (t fr : Nat) (w : World) (ht : t ≤ S.size) (hf : fr = t - 16) (hs : S.size ≤ 1000000) :
    Calls Try.prog 20 #[.string (S.extract fr t), .int .u64 17349423945073011] w fun e w' => e = .returned (.tuple #[.int .u64 ((fpr (S.data.toList.take t) : Nat) : Int), .int .i64 0]) ∧ w' = w := by
  refine (of_good (S.extract fr t) PR w (by rw [ByteArray.size_extract]; omega) PR_lt PR_fit).mono fun e w' h => ⟨h.1.trans ?_, h.2⟩
  unfold okP
  rw [extract_data, of_fpr S.data.toList t fr (by rw [size_toList]; exact ht) hf]
theorem mod_int0 (x q : Nat) : (((x : Int) % (q : Int)) == 0) = (x % q == 0) := by
  rw [Bool.eq_iff_iff, beq_iff_eq, beq_iff_eq]; omega
set_option maxRecDepth 100000 in
set_option maxHeartbeats 4000000 in
theorem lawCellarerCuts_walk (s : ByteArray) (mn bt mx : Int) (w : World) (hs : s.size ≤ 140737488351232) (hcf : (-9223372036854775808 ≤ mn ∧ mn ≤ 9223372036854775807) ∧ (-9223372036854775808 ≤ bt ∧ bt ≤ 9223372036854775807) ∧ (-9223372036854775808 ≤ mx ∧ mx ≤ 9223372036854775807)) :
    Calls Try.prog 8 #[.string s, .agg #[.int .i64 mn, .int .i64 bt, .int .i64 mx]] w fun e w' => e = .returned (.bool true) ∧ Below w.heap.size w w' := by
  have hfs : (s.extract 0 1500).size ≤ 1500 := by rw [few_size]; omega
  have hN := CnfAt.new w mn bt mx
  have hB0 : Below w.heap.size w (w.alloc (.cells #[.int .i64 mn, .int .i64 bt, .int .i64 mx] 24)) := (Below.refl _ w).alloc (Nat.le_refl _) _
  go_enter Try.func8, Try.ntmps8
  go_wp2_with fail
  refine (prime_cuts _).mono ?_
  rintro e w0 ⟨rfl, rfl⟩
  go_wp2_with fail
  refine (few_any s 1500 _ (by decide) (by omega)).mono ?_
  rintro e w0 ⟨rfl, rfl⟩
  rw [show (1500 : Int).toNat = 1500 from rfl]
  generalize s.extract 0 1500 = S at *
  generalize w.alloc (.cells #[.int .i64 mn, .int .i64 bt, .int .i64 mx] 24) = W at *
  obtain ⟨c0, c1, c2⟩ := hN.cells
  go_wp2_with fail
  by_cases he : errC mn bt mx = 0
  · obtain ⟨e1, e2, e3, e4, e5⟩ := errC_zero he
    obtain ⟨mn, rfl⟩ := Int.eq_ofNat_of_zero_le (show 0 ≤ mn by omega)
    obtain ⟨bt, rfl⟩ := Int.eq_ofNat_of_zero_le e3
    obtain ⟨mx, rfl⟩ := Int.eq_ofNat_of_zero_le (show 0 ≤ mx by omega)
    refine (split_good S mn bt mx _ he (by omega)).mono ?_
    rintro e w1 ⟨v, rfl, hO, hb1⟩
    have hN1 := hN.below hb1
    have hB1 := hB0.trans (hb1.mono hB0.size)
    clear c0 c1 c2 hN hb1
    obtain ⟨c0, c1, c2⟩ := hN1.cells
    obtain ⟨a, cap, rfl, hA⟩ := hO.rs
    have HA : Hid _ := hA
    have HF : Hid (_ = _) := spl_flat mn bt mx S.data.toList
    have HZ : Hid (∀ i, i < (spl mn bt mx S.data.toList).length → ((spl mn bt mx S.data.toList).getD i []).length ≤ mx) := fun i hi => (spl_sizes mn bt mx S.data.toList (by omega) (by omega) i hi).2.1
    have HL := spl_len mn bt mx S.data.toList
    rw [size_toList] at HL
    have HEN : Hid _ := fun q i => spl_ends mn bt mx S.data.toList q i
    have hp20 : 2 ^ bt ≤ 2 ^ 20 := Nat.pow_le_pow_right (by decide) (by omega)
    have hpp : 0 < 2 ^ bt := Nat.pow_pos (by decide)
    obtain ⟨Q, hQ⟩ : ∃ Q, Q = 2 ^ bt := ⟨_, rfl⟩
    have w1' : IntKind.u64.wrap (2 ^ bt) = (Q : Int) := by
      have := wrap64_id (m := 1) (k := bt) (by omega)
      simp only [Int.natCast_one, Int.one_mul, Nat.one_mul] at this
      rw [hQ]; exact this
    have w2' : IntKind.u64.wrap (1 * 2 ^ bt) = (Q : Int) := by rw [Int.one_mul]; exact w1'
    have HQ : Hid (2 ^ bt = Q) := hQ.symm
    have hQl : 1 ≤ Q := by omega
    have hQi : (1 : Int) ≤ (Q : Int) := by omega
    have hQu : Q ≤ 1048576 := by omega
    have hQz : ((Q : Int) == 0) = false := by rw [beq_eq_false_iff_ne]; omega
    clear hA hO hQ hp20 hpp he hcf
    generalize spl mn bt mx S.data.toList = L at *
    go_wp2
    go_loop [7, 38] (fun t i => ∃ q : Nat, q ≤ L.length ∧ i = .int .i64 (q : Int) ∧ t = .int .i64 ((stAt L q : Nat) : Int)) (fun _ i => L.length - (intOf i).toNat)
    case atStart => exact ⟨0, by omega, rfl, rfl⟩
    case round =>
      obtain ⟨q, hq, rfl, rfl⟩ := hrel
      have hsl := stAt_le L q
      rw [HF.out, size_toList] at hsl
      by_cases hlt : q < L.length
      · have hqi : (q : Int) < (L.length : Int) := by omega
        obtain ⟨g, rfl, hg, hc⟩ := HA.out (fun e => by rw [e] at hlt; simp at hlt)
        have ck := hc q hlt
        have HSS : Hid (_ = _) := stAt_succ L q hlt
        have hXs := bsU_size (L.getD q [])
        have hXm := HZ.out q hlt
        have hEQ := fun i => HEN.out q i hlt
        have hs2 := stAt_le L (q + 1)
        rw [HF.out, size_toList, HSS.out] at hs2
        rw [← hXs] at hXm hs2 HSS
        simp only [← hXs] at hEQ
        have HEQ : Hid _ := hEQ
        clear hc hEQ hXs
        generalize bsU (L.getD q []) = X at *
        generalize stAt L q = A at *
        go_wp2
        go_loop [10] (fun i => ∃ k : Nat, 1 ≤ k ∧ k ≤ X.size + 1 ∧ i = .int .i64 (k : Int)) (fun i => X.size + 1 - (intOf i).toNat)
        case atStart => exact ⟨1, by omega, by omega, rfl⟩
        case round =>
          obtain ⟨k, hk1, hk, rfl⟩ := hrel
          by_cases hlk : k ≤ X.size
          · have hkx : (k : Int) ≤ (X.size : Int) := by omega
            obtain ⟨r1, r2⟩ := HEQ.out k hk1 hlk
            rw [size_toList] at r1 r2
            rw [endB_is mn bt mx _ k (by omega), HQ.out] at r2
            obtain ⟨T, hT⟩ : ∃ T, T = A + k := ⟨_, rfl⟩
            rw [← hT] at r1 r2
            have hAk : T ≤ S.size := r1
            have hf64 := fpr_64 (S.data.toList.take (T))
            have hmd := mod_int0 (fpr (S.data.toList.take (T))) Q
            have hmt : ((fpr (S.data.toList.take (T)) : Nat) : Int).tmod (Q : Int) = ((fpr (S.data.toList.take (T)) : Nat) : Int) % (Q : Int) := Int.tmod_eq_emod_of_nonneg (by omega)
            obtain ⟨fr, hfr⟩ : ∃ fr, fr = T - 16 := ⟨_, rfl⟩
            have HOF := fun W => of_ext S T fr W hAk hfr (by omega)
            have HOF : Hid _ := HOF
            have hmax : max (0 : Int) ((T : Int) - 16) = (fr : Int) := by omega
            have hfrl : fr ≤ T := by omega
            have hsum : (A : Int) + (k : Int) = (T : Int) := by omega
            clear hfr
            generalize fpr (S.data.toList.take T) = FP at *
            have HTT : Hid (_ = _) := hT
            clear hT
            have HR2 : Hid _ := r2
            clear r1 r2
            by_cases hm : k = mx
            · have qm : ((k : Int) == (mx : Int)) = true := by rw [beq_iff_eq]; omega
              rw [show ((k == mx) || (decide (mn ≤ k) && (FP % Q == 0))) = true from by rw [beq_iff_eq.2 hm]; rfl] at HR2
              clear hm
              by_cases hl : k = X.size
              · have hlb : ((k : Int) == (X.size : Int)) = true := by rw [beq_iff_eq]; omega
                clear HR2 hl
                go_wp2_with (go_at_call 20; refine (HOF.out _).mono ?_; rintro e w9 ⟨rfl, rfl⟩)
                exact ⟨⟨k + 1, by omega, by omega, by go_num⟩, by simp [intOf]; omega⟩
              · have hlb : ((k : Int) == (X.size : Int)) = false := by rw [beq_eq_false_iff_ne]; omega
                have hend : ((T : Int) == (S.size : Int)) = true := by
                  rcases HR2.out with h | h
                  · simp [hl] at h
                  · rw [beq_iff_eq]; omega
                have hend2 : ((T : Int) != (S.size : Int)) = false := by rw [bne, hend]; rfl
                clear HR2 hl
                go_wp2_with (go_at_call 20; refine (HOF.out _).mono ?_; rintro e w9 ⟨rfl, rfl⟩)
                exact ⟨⟨k + 1, by omega, by omega, by go_num⟩, by simp [intOf]; omega⟩
            · have qm : ((k : Int) == (mx : Int)) = false := by rw [beq_eq_false_iff_ne]; omega
              rw [show ((k == mx) || (decide (mn ≤ k) && (FP % Q == 0))) = (decide (mn ≤ k) && (FP % Q == 0)) from by rw [beq_eq_false_iff_ne.2 hm]; rfl] at HR2
              clear hm
              by_cases hn : mn ≤ k
              · have qn : decide ((mn : Int) ≤ (k : Int)) = true := by rw [decide_eq_true_iff]; omega
                have qnn : decide (mn ≤ k) = true := decide_eq_true hn
                rw [qnn, Bool.true_and] at HR2
                clear hn
                cases hz : (FP % Q == 0)
                · rw [hz] at hmd HR2
                  by_cases hl : k = X.size
                  · have hlb : ((k : Int) == (X.size : Int)) = true := by rw [beq_iff_eq]; omega
                    have hend : ((T : Int) == (S.size : Int)) = true := by
                      rcases HR2.out with h | h
                      · simp [hl] at h
                      · rw [beq_iff_eq]; omega
                    have hend2 : ((T : Int) != (S.size : Int)) = false := by rw [bne, hend]; rfl
                    clear HR2 hl
                    go_wp2_with (go_at_call 20; refine (HOF.out _).mono ?_; rintro e w9 ⟨rfl, rfl⟩)
                    exact ⟨⟨k + 1, by omega, by omega, by go_num⟩, by simp [intOf]; omega⟩
                  · have hlb : ((k : Int) == (X.size : Int)) = false := by rw [beq_eq_false_iff_ne]; omega
                    clear HR2 hl
                    go_wp2_with (go_at_call 20; refine (HOF.out _).mono ?_; rintro e w9 ⟨rfl, rfl⟩)
                    exact ⟨⟨k + 1, by omega, by omega, by go_num⟩, by simp [intOf]; omega⟩
                · rw [hz] at hmd HR2
                  by_cases hl : k = X.size
                  · have hlb : ((k : Int) == (X.size : Int)) = true := by rw [beq_iff_eq]; omega
                    clear HR2 hl
                    go_wp2_with (go_at_call 20; refine (HOF.out _).mono ?_; rintro e w9 ⟨rfl, rfl⟩)
                    exact ⟨⟨k + 1, by omega, by omega, by go_num⟩, by simp [intOf]; omega⟩
                  · have hlb : ((k : Int) == (X.size : Int)) = false := by rw [beq_eq_false_iff_ne]; omega
                    have hend : ((T : Int) == (S.size : Int)) = true := by
                      rcases HR2.out with h | h
                      · simp [hl] at h
                      · rw [beq_iff_eq]; omega
                    have hend2 : ((T : Int) != (S.size : Int)) = false := by rw [bne, hend]; rfl
                    clear HR2 hl
                    go_wp2_with (go_at_call 20; refine (HOF.out _).mono ?_; rintro e w9 ⟨rfl, rfl⟩)
                    exact ⟨⟨k + 1, by omega, by omega, by go_num⟩, by simp [intOf]; omega⟩
              · have qn : decide ((mn : Int) ≤ (k : Int)) = false := by rw [decide_eq_false_iff_not]; omega
                have qnn : decide (mn ≤ k) = false := decide_eq_false hn
                rw [qnn, Bool.false_and] at HR2
                clear hn
                by_cases hl : k = X.size
                · have hlb : ((k : Int) == (X.size : Int)) = true := by rw [beq_iff_eq]; omega
                  have hend : ((T : Int) == (S.size : Int)) = true := by
                    rcases HR2.out with h | h
                    · simp [hl] at h
                    · rw [beq_iff_eq]; omega
                  have hend2 : ((T : Int) != (S.size : Int)) = false := by rw [bne, hend]; rfl
                  clear HR2 hl
                  go_wp2_with (go_at_call 20; refine (HOF.out _).mono ?_; rintro e w9 ⟨rfl, rfl⟩)
                  exact ⟨⟨k + 1, by omega, by omega, by go_num⟩, by simp [intOf]; omega⟩
                · have hlb : ((k : Int) == (X.size : Int)) = false := by rw [beq_eq_false_iff_ne]; omega
                  clear HR2 hl
                  go_wp2_with (go_at_call 20; refine (HOF.out _).mono ?_; rintro e w9 ⟨rfl, rfl⟩)
                  exact ⟨⟨k + 1, by omega, by omega, by go_num⟩, by simp [intOf]; omega⟩
          · have hkx : ¬ (k : Int) ≤ (X.size : Int) := by omega
            go_wp2
            exact ⟨⟨q + 1, by omega, by go_num, by rw [HSS.out]; go_num⟩, by simp [intOf]; omega⟩
      · have HE : Hid (stAt L q = S.size) := by rw [stAt_all L q (by omega), HF.out, size_toList]; exact rfl
        rw [HE.out]
        go_wp2
        go_ret
        exact ⟨rfl, hB1⟩
  · have hn : (((errC mn bt mx : Nat) : Int) == 0) = false := by rw [beq_eq_false_iff_ne]; omega
    have HE : Hid _ := he
    clear he
    refine (split_bad S mn bt mx _ HE.out).mono ?_
    rintro e w1 ⟨rfl, hb1⟩
    have hN1 := hN.below hb1
    have hB1 := hB0.trans (hb1.mono hB0.size)
    clear c0 c1 c2 hN hb1
    obtain ⟨c0, c1, c2⟩ := hN1.cells
    go_wp2_with fail
    refine (check_any _ _ _ _).mono ?_
    rintro e w2 ⟨rfl, hb2⟩
    have hB2 := hB1.trans (hb2.mono hB1.size)
    generalize errC mn bt mx = E at *
    go_wp2
    go_ret
    exact ⟨rfl, hB2⟩
end Go.Proofs.Ytnfemofighgenab
