/- The walk of ChunkerBacks. -/
import Derived.Test.YtnfemofighgenabWChunkerWhole
import Derived.Test.YtnfemofighgenabChkT
namespace Go.Proofs.Ytnfemofighgenab
open Go.RowKit
set_option linter.unusedVariables false

/-- What the loops have found: no place, or one that is an end of both. -/
def ComP (L M : List (List UInt8)) (nl nm K : Nat) (c : Int) : Prop :=
  c = -1 ∨ ∃ i j d : Nat, i < L.length ∧ j < M.length ∧ c = (d : Int) ∧ nl - stAt L (i + 1) = d ∧ nm - stAt M (j + 1) = d ∧ d + 16 ≤ K
theorem ComP.bd {L M : List (List UInt8)} {nl nm K : Nat} {c : Int} (h : ComP L M nl nm K c) (hl : nl ≤ 2000) : -1 ≤ c ∧ c ≤ 2000 := by
  rcases h with h | ⟨i, j, d, _, _, h1, h2, _⟩ <;> omega
set_option maxRecDepth 100000 in
set_option maxHeartbeats 4000000 in
theorem lawChunkerBacks_walk (a b k : ByteArray) (mn bt mx : Int) (w : World) (ha : a.size ≤ 140737488351232) (hb : b.size ≤ 140737488351232) (hk : k.size ≤ 140737488351232) (hcf : (-9223372036854775808 ≤ mn ∧ mn ≤ 9223372036854775807) ∧ (-9223372036854775808 ≤ bt ∧ bt ≤ 9223372036854775807) ∧ (-9223372036854775808 ≤ mx ∧ mx ≤ 9223372036854775807)) :
    Calls Try.prog 6 #[.string a, .string b, .string k, .agg #[.int .i64 mn, .int .i64 bt, .int .i64 mx]] w fun e w' => e = .returned (.bool true) ∧ Below w.heap.size w w' := by
  have hfk : (k.extract 0 1500).size ≤ 1500 := by rw [few_size]; omega
  have hfa : (a.extract 0 500).size ≤ 500 := by rw [few_size]; omega
  have hfb : (b.extract 0 500).size ≤ 500 := by rw [few_size]; omega
  have hN := CnfAt.new w mn bt mx
  have hB0 : Below w.heap.size w (w.alloc (.cells #[.int .i64 mn, .int .i64 bt, .int .i64 mx] 24)) := (Below.refl _ w).alloc (Nat.le_refl _) _
  go_enter Try.func6, Try.ntmps6
  go_wp2_with fail
  refine (few_any k 1500 _ (by decide) (by omega)).mono ?_
  rintro e w0 ⟨rfl, rfl⟩
  rw [show (1500 : Int).toNat = 1500 from rfl]
  generalize k.extract 0 1500 = K at *
  go_wp2_with fail
  refine (few_any a 500 _ (by decide) (by omega)).mono ?_
  rintro e w0 ⟨rfl, rfl⟩
  rw [show (500 : Int).toNat = 500 from rfl]
  generalize a.extract 0 500 = A at *
  go_wp2_with fail
  refine (few_any b 500 _ (by decide) (by omega)).mono ?_
  rintro e w0 ⟨rfl, rfl⟩
  rw [show (500 : Int).toNat = 500 from rfl]
  generalize b.extract 0 500 = B at *
  generalize w.alloc (.cells #[.int .i64 mn, .int .i64 bt, .int .i64 mx] 24) = W at *
  obtain ⟨c0, c1, c2⟩ := hN.cells
  have hAs : (A ++ K).size ≤ 2000 := by rw [ByteArray.size_append]; omega
  have hBs : (B ++ K).size ≤ 2000 := by rw [ByteArray.size_append]; omega
  go_wp2_with fail
  by_cases he : errC mn bt mx = 0
  · obtain ⟨e1, e2, e3, e4, e5⟩ := errC_zero he
    obtain ⟨mn, rfl⟩ := Int.eq_ofNat_of_zero_le (show 0 ≤ mn by omega)
    obtain ⟨bt, rfl⟩ := Int.eq_ofNat_of_zero_le e3
    obtain ⟨mx, rfl⟩ := Int.eq_ofNat_of_zero_le (show 0 ≤ mx by omega)
    have HEC : Hid _ := he
    refine (split_good (A ++ K) mn bt mx _ he (by omega)).mono ?_
    rintro e w1 ⟨v1, rfl, hO1, hb1⟩
    have hN1 := hN.below hb1
    have hB1 := hB0.trans (hb1.mono hB0.size)
    clear c0 c1 c2 hN hb1 he hcf
    obtain ⟨c0, c1, c2⟩ := hN1.cells
    go_wp2_with fail
    refine (split_good (B ++ K) mn bt mx _ HEC.out (by omega)).mono ?_
    rintro e w2 ⟨v2, rfl, hO2, hb2⟩
    have hO1 := hO1.below hb2
    have hB2 := hB1.trans (hb2.mono hB1.size)
    clear c0 c1 c2 hN1 hb2
    have hdA : (A ++ K).data.toList = A.data.toList ++ K.data.toList := by rw [ByteArray.data_append, Array.toList_append]
    have hdB : (B ++ K).data.toList = B.data.toList ++ K.data.toList := by rw [ByteArray.data_append, Array.toList_append]
    have HL := spl_len mn bt mx (A ++ K).data.toList
    have HM := spl_len mn bt mx (B ++ K).data.toList
    have hfl := spl_flat mn bt mx (A ++ K).data.toList
    have hfm := spl_flat mn bt mx (B ++ K).data.toList
    have hfl2 : (spl mn bt mx (A ++ K).data.toList).flatten.length = (A ++ K).size := by rw [hfl, size_toList]
    have hfm2 : (spl mn bt mx (B ++ K).data.toList).flatten.length = (B ++ K).size := by rw [hfm, size_toList]
    have HBK := fun i j c => backs mn bt mx A.data.toList B.data.toList K.data.toList i j c (fun s k hk => (spl_sizes mn bt mx s (by omega) (by omega) k hk).1)
    rw [← hdA, ← hdB] at HBK
    rw [size_toList] at HL HM
    simp only [size_toList] at HBK
    clear hdA hdB hfl hfm
    generalize spl mn bt mx (A ++ K).data.toList = L at *
    generalize spl mn bt mx (B ++ K).data.toList = M at *
    generalize (A ++ K) = AK at *
    generalize (B ++ K) = BK at *
    have hR1 := hO1.rs
    have hR2 := hO2.rs
    clear hO1 hO2
    go_wp2_with fail
    refine (ends10_any v1 L AK.size _ hR1 (by omega) (by omega) (by omega)).mono ?_
    rintro e w3 ⟨u1, rfl, hX3, hb3⟩
    have hR1 := hR1.below hb3
    have hR2 := hR2.below hb3
    have hB3 := hB2.trans (hb3.mono hB2.size)
    clear hb3
    go_wp2_with fail
    refine (ends10_any v2 M BK.size _ hR2 (by omega) (by omega) (by omega)).mono ?_
    rintro e w4 ⟨u2, rfl, hY4, hb4⟩
    have hR1 := hR1.below hb4
    have hR2 := hR2.below hb4
    have hX4 := hX3.below hb4
    have hB4 := hB3.trans (hb4.mono hB3.size)
    clear hb4 hX3
    have HX := hX4
    have HY := hY4
    obtain ⟨ax, cx, rfl, hax⟩ := hX4
    obtain ⟨ay, cy, rfl, hay⟩ := hY4
    rw [show (ndK L AK.size L.length).length = L.length from ndK_len ..] at HX
    rw [show (ndK M BK.size M.length).length = M.length from ndK_len ..] at HY
    have HX : Hid _ := HX
    have HY : Hid _ := HY
    rw [show (ndK L AK.size L.length).length = L.length from ndK_len .., show (ndK M BK.size M.length).length = M.length from ndK_len ..]
    have HAX : Hid _ := hax
    have HAY : Hid _ := hay
    have HBK : Hid _ := HBK
    have HR1 : Hid _ := hR1
    have HR2 : Hid _ := hR2
    clear hax hay hR1 hR2 HEC
    go_wp2
    go_loop [15, 64] (fun c i => ∃ (z : Int) (q : Nat), q ≤ L.length ∧ i = .int .i64 (q : Int) ∧ c = .int .i64 z ∧ ComP L M AK.size BK.size K.size z) (fun _ i => L.length - (intOf i).toNat)
    case atStart => exact ⟨-1, 0, by omega, rfl, rfl, Or.inl rfl⟩
    case round =>
      obtain ⟨z, q, hq, rfl, rfl, hz⟩ := hrel
      by_cases hlt : q < L.length
      · have hqi : (q : Int) < (L.length : Int) := by omega
        obtain ⟨gx, rfl, hgx, hcx⟩ := HAX.out (fun e => by have := ndK_len L AK.size L.length; rw [e] at this; simp at this; omega)
        have ckx : w4.cell? ⟨gx, q, none⟩ = some (.int .i64 ((AK.size - stAt L (q + 1) : Nat) : Int)) := by rw [hcx q (by first | exact hlt | (rw [ndK_len]; exact hlt)), ndK_at L AK.size L.length q hlt]
        obtain ⟨P, HP⟩ : ∃ P, Hid (AK.size - stAt L (q + 1) = P) := ⟨_, rfl⟩
        rw [HP.out] at ckx
        have hPb : P ≤ 2000 := by have := HP.out; omega
        clear hcx
        go_wp2
        go_loop [15, 70] (fun c i => ∃ (z : Int) (r : Nat), r ≤ M.length ∧ i = .int .i64 (r : Int) ∧ c = .int .i64 z ∧ ComP L M AK.size BK.size K.size z) (fun _ i => M.length - (intOf i).toNat)
        case atStart => exact ⟨z, 0, by omega, rfl, rfl, hz⟩
        case round =>
          clear hz
          obtain ⟨z, r, hr, rfl, rfl, hz⟩ := hrel
          by_cases hlr : r < M.length
          · have hri : (r : Int) < (M.length : Int) := by omega
            obtain ⟨gy, rfl, hgy, hcy⟩ := HAY.out (fun e => by have := ndK_len M BK.size M.length; rw [e] at this; simp at this; omega)
            have cky : w4.cell? ⟨gy, r, none⟩ = some (.int .i64 ((BK.size - stAt M (r + 1) : Nat) : Int)) := by rw [hcy r (by first | exact hlr | (rw [ndK_len]; exact hlr)), ndK_at M BK.size M.length r hlr]
            obtain ⟨Q, HQ⟩ : ∃ Q, Hid (BK.size - stAt M (r + 1) = Q) := ⟨_, rfl⟩
            rw [HQ.out] at cky
            have hQb : Q ≤ 2000 := by have := HQ.out; omega
            have hzb := hz.bd hAs
            clear hcy
            by_cases hpq : P = Q
            · have qa : ((P : Int) == (Q : Int)) = true := by rw [beq_iff_eq]; omega
              by_cases hpk : (P : Int) ≤ (K.size : Int) - 16
              · have qb : decide ((P : Int) ≤ (K.size : Int) - 16) = true := decide_eq_true hpk
                have hnew : ComP L M AK.size BK.size K.size (P : Int) := Or.inr ⟨q, r, P, hlt, hlr, rfl, HP.out, by rw [HQ.out, hpq], by omega⟩
                have HNEW : Hid _ := hnew
                have HZ : Hid _ := hz
                clear hpq hnew hz
                by_cases hzp : z < (P : Int)
                · have qc : decide (z < (P : Int)) = true := decide_eq_true hzp
                  go_wp2
                  exact ⟨⟨_, r + 1, by omega, by go_num, rfl, HNEW.out⟩, by simp [intOf]; omega⟩
                · have qc : decide (z < (P : Int)) = false := decide_eq_false hzp
                  go_wp2
                  exact ⟨⟨_, r + 1, by omega, by go_num, rfl, HZ.out⟩, by simp [intOf]; omega⟩
              · have qb : decide ((P : Int) ≤ (K.size : Int) - 16) = false := decide_eq_false hpk
                have HZ : Hid _ := hz
                clear hpq hz
                go_wp2
                exact ⟨⟨_, r + 1, by omega, by go_num, rfl, HZ.out⟩, by simp [intOf]; omega⟩
            · have qa : ((P : Int) == (Q : Int)) = false := by rw [beq_eq_false_iff_ne]; omega
              have HZ : Hid _ := hz
              clear hpq hz
              go_wp2
              exact ⟨⟨_, r + 1, by omega, by go_num, rfl, HZ.out⟩, by simp [intOf]; omega⟩
          · have HZ : Hid _ := hz
            clear hz
            go_wp2
            exact ⟨⟨_, q + 1, by omega, by go_num, rfl, HZ.out⟩, by simp [intOf]; omega⟩
      · have hzb := hz.bd hAs
        go_wp2_with fail
        refine (awake10_any _).mono ?_
        rintro e w5 ⟨rfl, hb5⟩
        have hB5 := hB4.trans (hb5.mono hB4.size)
        rcases hz with rfl | ⟨i, j, d, r1, r2, rfl, r4, r5, r6⟩
        · go_wp2
          go_ret
          exact ⟨rfl, hB5⟩
        · have HT : Hid (_ = _) := HBK.out i j d r1 r2 r4 r5 r6
          have hd0 : decide ((d : Int) < 0) = false := by rw [decide_eq_false_iff_not]; omega
          have h1 := RS.below HR1.out hb5
          have h2 := RS.below HR2.out hb5
          have h3 := RN.below HX.out hb5
          have h4 := RN.below HY.out hb5
          have hz3 : -10 ≤ (d : Int) ∧ (d : Int) ≤ 1000000000 := by omega
          clear r1 r2 r4 r5 r6 hb5
          go_wp2_with fail
          refine (tail10_any _ _ L AK.size (d : Int) _ h1 h3 (by omega) (by omega) hz3).mono ?_
          rintro e w6 ⟨z6, rfl, hO6, hb6⟩
          have h2 := h2.below hb6
          have h4 := h4.below hb6
          have hB6 := hB5.trans (hb6.mono hB5.size)
          go_wp2_with fail
          refine (tail10_any _ _ M BK.size (d : Int) _ h2 h4 (by omega) (by omega) hz3).mono ?_
          rintro e w7 ⟨z7, rfl, hO7, hb7⟩
          have hO6 := hO6.below hb7
          have hB7 := hB6.trans (hb7.mono hB6.size)
          have hln := tlK_len L AK.size d L.length
          rw [← HT.out] at hO7
          clear h1 h2 h3 h4 hb6 hb7 HT
          generalize tlK L AK.size d L.length = TL at *
          go_wp2_with fail
          refine (same_any _ _ TL TL _ hO6.rs hO7.rs (by omega) (by omega)).mono ?_
          rintro e w8 ⟨rfl, n, rfl⟩
          have hB8 := below_drewN hB7 n
          rw [show sameN TL TL = 0 from if_pos rfl]
          clear hO6 hO7
          go_wp2
          go_ret
          exact ⟨rfl, hB8⟩
  · have hn : (((errC mn bt mx : Nat) : Int) == 0) = false := by rw [beq_eq_false_iff_ne]; omega
    have HE : Hid _ := he
    clear he
    refine (split_bad (A ++ K) mn bt mx _ HE.out).mono ?_
    rintro e w1 ⟨rfl, hb1⟩
    have hN1 := hN.below hb1
    have hB1 := hB0.trans (hb1.mono hB0.size)
    clear c0 c1 c2 hN hb1
    obtain ⟨c0, c1, c2⟩ := hN1.cells
    go_wp2_with fail
    refine (split_bad (B ++ K) mn bt mx _ HE.out).mono ?_
    rintro e w2 ⟨rfl, hb2⟩
    have hB2 := hB1.trans (hb2.mono hB1.size)
    generalize errC mn bt mx = E at *
    have hee : ((E : Int) == (E : Int)) = true := by simp
    go_wp2_with fail
    refine (awake10_any _).mono ?_
    rintro e w3 ⟨rfl, hb3⟩
    have hB3 := hB2.trans (hb3.mono hB2.size)
    go_wp2
    go_ret
    exact ⟨rfl, hB3⟩
end Go.Proofs.Ytnfemofighgenab
