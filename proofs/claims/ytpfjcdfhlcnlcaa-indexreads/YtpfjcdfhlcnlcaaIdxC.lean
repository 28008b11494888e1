/- Contract: an index's Decode. -/
import Derived.Test.YtpfjcdfhlcnlcaaIdxX
import Derived.Test.YtpfjcdfhlcnlcaaIdx2
namespace Go.Proofs.Ytpfjcdfhlcnlcaa
open Go.RowKit Go.Maps
set_option linter.unusedVariables false
set_option linter.unusedSimpArgs false

/-- What is read is in form. -/
def FOk (ns : List (List UInt8)) (F : As Pl) : Prop := KdA F ∧ ∀ q p, lkA F q = some p → p.h.ok ∧ p.k ∈ ns ∧ p.h.n = q ∧ isNm q = true
theorem isNm_len {x : List UInt8} (h : isNm x = true) : x.length = 64 := by unfold isNm at h; simp at h; exact h.1
theorem hdX_ok (n : List UInt8) (s : Sx) : (hdX n (xRest s).1).ok := by
  have a1 := xNum_lt s
  have a2 := xNum_lt (xNum s).2
  have a3 := xNum_lt (xNum (xNum s).2).2
  have a4 := xNum_lt (xNum (xNum (xNum s).2).2).2
  have a5 := xNum_lt (xNum (xNum (xNum (xNum s).2).2).2).2
  unfold Hd.ok hdX xRest
  simp only
  omega
theorem xCh_ok (ns : List (List UInt8)) : ∀ (c : Nat) (s : Sx) (F : As Pl), FOk ns F → FOk ns (xCh c s ns F).1 ∧ (xCh c s ns F).1.length ≤ F.length + (if s.bad = true then 0 else s.rest.length)
  | 0, s, F, h => ⟨h, by simp [xCh]⟩
  | c + 1, s, F, h => by
    rw [xCh]
    by_cases hb : s.bad = true
    · rw [if_pos hb, if_pos hb]; exact ⟨h, by simp⟩
    · rw [if_neg hb, if_neg hb]
      by_cases hn : isNm (xHd s).1 = false ∨ ns.length ≤ (xHd s).2.1
      · rw [if_pos hn]; exact ⟨h, by simp⟩
      · rw [if_neg hn]
        have hnm : isNm (xHd s).1 = true := by
          cases e : isNm (xHd s).1 with
          | true => rfl
          | false => exact absurd (.inl e) hn
        have hpl : (xHd s).2.1 < ns.length := by
          rcases Nat.lt_or_ge (xHd s).2.1 ns.length with h9 | h9
          · exact h9
          · exact absurd (.inr h9) hn
        have h64 := isNm_len hnm
        have htl := (xTxt_le s).2.1
        have hrl := xRest_le (xHd s).2.2
        have hhl := xHd_le s
        have hF' : FOk ns (adA F (xHd s).1 ⟨ns.getD (xHd s).2.1 [], hdX (xHd s).1 (xRest (xHd s).2.2).1⟩) := by
          refine ⟨h.1.ad _ _, fun q p hp => ?_⟩
          rw [lkA_ad] at hp
          cases e : lkA F q with
          | some p' => rw [e] at hp; exact h.2 q p (e.trans hp)
          | none =>
            rw [e] at hp
            simp only [Option.none_or] at hp
            split at hp
            · rename_i e2
              cases hp
              refine ⟨hdX_ok _ _, ?_, e2, by rw [← e2]; exact hnm⟩
              show ns.getD (xHd s).2.1 [] ∈ ns
              rw [List.getD_eq_getElem?_getD, List.getElem?_eq_getElem hpl]; exact List.getElem_mem hpl
            · cases hp
        have ih := xCh_ok ns c (xRest (xHd s).2.2).2 _ hF'
        refine ⟨ih.1, Nat.le_trans ih.2 ?_⟩
        have a1 := adA_len F (xHd s).1 ⟨ns.getD (xHd s).2.1 [], hdX (xHd s).1 (xRest (xHd s).2.2).1⟩
        have h65 : (xTxt s).1.length = 64 := h64
        split
        · omega
        · rename_i hb2
          have := hrl.2 (by cases e : (xRest (xHd s).2.2).2.bad with | false => rfl | true => exact absurd e hb2)
          omega
theorem xPk_ok : ∀ (c : Nat) (s : Sx) (ns : List (List UInt8)) (L : Nat), ns.length + s.rest.length ≤ L + 1 → (s.bad = false → ns.length + s.rest.length ≤ L) → (xPk c s ns).1.length + (xPk c s ns).2.rest.length ≤ L + 1 ∧ ((xPk c s ns).2.bad = false → (xPk c s ns).1.length + (xPk c s ns).2.rest.length ≤ L)
  | 0, s, ns, L, h1, h2 => ⟨h1, h2⟩
  | c + 1, s, ns, L, h1, h2 => by
    rw [xPk]
    by_cases hb : s.bad = true
    · rw [if_pos hb]; exact ⟨h1, h2⟩
    · rw [if_neg hb]
      have hb' : s.bad = false := by cases e : s.bad with | false => rfl | true => exact absurd e hb
      have h3 := h2 hb'
      have ht := xTxt_le s
      exact xPk_ok c _ _ L (by simp; omega) (fun h => by have := ht.2.2 h; simp; omega)
theorem xIdx_ok (l : List UInt8) : FOk (xIdx l).1 (xIdx l).2.1 ∧ (xIdx l).2.1.length ≤ l.length + 1 ∧ (xIdx l).1.length ≤ l.length + 1 := by
  have a1 := xNum_le ⟨l, false⟩
  have a2 := xPk_ok (xNum ⟨l, false⟩).1 (xNum ⟨l, false⟩).2 [] l.length (by have := a1.1; simp at this ⊢; omega) (fun h => by have := a1.1; simp at this ⊢; omega)
  have a3 := xNum_le (xPk (xNum ⟨l, false⟩).1 (xNum ⟨l, false⟩).2 []).2
  have a4 := xCh_ok (xPk (xNum ⟨l, false⟩).1 (xNum ⟨l, false⟩).2 []).1 (xNum (xPk (xNum ⟨l, false⟩).1 (xNum ⟨l, false⟩).2 []).2).1 (xNum (xPk (xNum ⟨l, false⟩).1 (xNum ⟨l, false⟩).2 []).2).2 [] ⟨KdA.nil, fun q p h => by cases h⟩
  refine ⟨a4.1, ?_, ?_⟩
  · refine Nat.le_trans a4.2 ?_
    have := a3.1
    have := a2.1
    split
    · simp
    · simp only [List.length_nil]; omega
  · show (xPk (xNum ⟨l, false⟩).1 (xNum ⟨l, false⟩).2 []).1.length ≤ _
    omega
/-- An index of these bytes, or none. -/
def DecOk (l : List UInt8) : Prop := (xIdx l).2.2.bad = false ∧ encI (adPs (xIdx l).1) (xIdx l).2.1 = l
theorem encD_any {x : Nat} {m1 m2 : Option Nat} {ns : List (List UInt8)} {F : As Pl} (L : Nat) (w : World) (h : IXo w x m1 m2 (adPs ns) F) (hnd : (adPs ns).Nodup) (hl : L ≤ 9000) (hx : ∀ x ∈ ns, x.length ≤ L) (hFO : FOk ns F) (h2 : F.length ≤ L + 1) (h3 : ns.length ≤ L + 1) :
    Calls Try.prog 12 #[.pointer (some ⟨x, 0, none⟩)] w fun e w' => e = .returned (.string (mkB (encI (adPs ns) F))) ∧ Below w.heap.size w w' := by
  obtain ⟨hkd, hF⟩ := hFO
  have h4 := adPs_len ns
  refine encode_any w h hnd (fun y p hp => ⟨(hF y p hp).1, by have := hx _ (hF y p hp).2.1; omega⟩) (by omega) (by omega) ?_
  unfold encI
  simp only [List.length_append]
  have a1 := vb_len (adPs ns).length (by omega)
  have a2 := vb_len F.length (by omega)
  have tx : ∀ x : List UInt8, x.length ≤ 9000 → (txB x).length ≤ 9010 := fun x hx => by
    unfold txB; rw [List.length_append]; have := vb_len x.length (by omega); omega
  have a3 := flat_le txB 9010 (adPs ns) (fun p hp' => tx p (by have := hx p (adPs_mem.1 hp'); omega))
  have a4 := flat_le (enB (adPs ns) F) 9070 (nmA F) (fun x hx => by
    obtain ⟨p, hpp⟩ := Option.isSome_iff_exists.1 (nmA_mem.1 hx)
    obtain ⟨⟨⟨q1, q2⟩, ⟨q3, q4⟩, ⟨q5, q6⟩, ⟨q7, q8⟩, ⟨q9, q10⟩⟩, _, _, hnm⟩ := hF x p hpp
    have h64 := isNm_len hnm
    obtain ⟨i, hi, hil⟩ := pk_num (adPs ns) p.k
    unfold enB
    simp only [hpp, Option.getD_some, List.length_append]
    rw [hi]
    have b0 := tx x (by omega)
    have b1 := vb_len (Int.toNat (i : Int)) (by rw [Int.toNat_natCast]; omega)
    have b2 := vb_len p.h.m.toNat (by omega)
    have b3 := vb_len p.h.c.toNat (by omega)
    have b4 := vb_len p.h.p.toNat (by omega)
    have b5 := vb_len p.h.s.toNat (by omega)
    have b6 := vb_len p.h.a.toNat (by omega)
    omega)
  rw [nmA_len] at a4
  have c1 : (adPs ns).length * 9010 ≤ 9001 * 9010 := Nat.mul_le_mul_right _ (by omega)
  have c2 : F.length * 9070 ≤ 9001 * 9070 := Nat.mul_le_mul_right _ (by omega)
  omega
theorem zeroRd (w : World) : (zeroValue 82).run Try.prog w = .ok (.agg #[.string ⟨#[]⟩, .bool false]) w := by kernel_rfl
/-- An index is read, and written again. -/
theorem core_enc {w0 w2 : World} {g y : Nat} {l : List UInt8} {s : Sx} {v : Value} {ns : List (List UInt8)} {F : As Pl} {K : Nat → Prop} (hX : XS w0 w2 g y l.length s v ns F K) (hl : l.length ≤ 9000) (hFO : FOk ns F) (h2 : F.length ≤ l.length + 1) (h3 : ns.length ≤ l.length + 1) :
    Calls Try.prog 12 #[.pointer (some ⟨y, 0, none⟩)] w2 fun e w' => e = .returned (.string (mkB (encI (adPs ns) F))) ∧ Below w2.heap.size w2 w' := by
  obtain ⟨m1, m2, hO⟩ := hX.ix.o
  exact encD_any l.length w2 hO hX.ix.kd.2 hl hX.nx hFO h2 h3
set_option maxRecDepth 100000 in
set_option maxHeartbeats 2000000 in
theorem decode_good (l : List UInt8) (w : World) (hl : l.length ≤ 9000) (hd : DecOk l) :
    Calls Try.prog 15 #[.string (mkB l)] w fun e w' => ∃ y, e = .returned (.tuple #[.pointer (some ⟨y, 0, none⟩), .int .i64 0]) ∧ IX w' y (fun k => k < w.heap.size) (adPs (xIdx l).1) (xIdx l).2.1 ∧ w.heap.size ≤ y ∧ Below w.heap.size w w' := by
  have hzr := zeroRd
  obtain ⟨W1, hW1⟩ : ∃ W1, W1 = w.alloc (.cells #[.string (mkB l), .bool false] 82) := ⟨_, rfl⟩
  have hR1 : RX W1 w.heap.size ⟨l, false⟩ := by rw [hW1]; exact heap_alloc_new w _
  have hs1 : W1.heap.size = w.heap.size + 1 := by rw [hW1]; simp
  have hb1 : Below w.heap.size w W1 := by rw [hW1]; exact (Below.refl _ w).alloc (Nat.le_refl _) _
  have HB1 : Hid (Below w.heap.size w W1) := hb1
  have hc1 := xindex_any w.heap.size l W1 hR1 hl
  have hok := xIdx_ok l
  obtain ⟨hd1, hd2⟩ := hd
  generalize xIdx l = R at *
  obtain ⟨ns, F, s⟩ := R
  dsimp only at *
  have HC1 : Hid (Calls Try.prog 29 #[.pointer (some ⟨w.heap.size, 0, none⟩)] W1 fun e w' => e = .returned (.pointer (some ⟨W1.heap.size, 0, none⟩)) ∧ ∃ K v, XS W1 w' w.heap.size W1.heap.size l.length s v ns F K) := hc1
  have HOK : Hid (FOk ns F ∧ F.length ≤ l.length + 1 ∧ ns.length ≤ l.length + 1) := hok
  have HD1 : Hid (s.bad = false) := hd1
  have HD2 : Hid (encI (adPs ns) F = l) := hd2
  clear hd1 hd2 hR1 hb1 hc1 hok
  go_enter Try.func15, Try.ntmps15
  go_wp2_with fail
  rw [← hW1]
  clear hW1
  refine HC1.out.mono ?_
  rintro e w2 ⟨rfl, K, v, hX⟩
  have c1 := RX.c1 hX.rx
  rw [HD1.out] at c1
  have HB2 : Hid (Below w.heap.size w w2) := HB1.out.grown hX.gr HB1.out.size (fun k hk => by cases hk; exact Nat.le_refl _)
  have hen := core_enc hX hl HOK.out.1 HOK.out.2.1 HOK.out.2.2
  rw [HD2.out] at hen
  have HEN2 : Hid (Calls Try.prog 12 #[.pointer (some ⟨W1.heap.size, 0, none⟩)] w2 fun e w' => e = .returned (.string (mkB l)) ∧ Below w2.heap.size w2 w') := hen
  have HI2 : Hid (IX w2 W1.heap.size (fun k => k < w.heap.size) (adPs ns) F) := hX.ix.kept (fun k hk _ => rfl) (fun k hk => ⟨by have := HB2.out.size; omega, .inl (hX.old k (by rw [hs1]; omega))⟩)
  clear hen hX HC1
  have hzz : w.heap.size ≤ W1.heap.size := by omega
  clear hs1
  generalize W1.heap.size = y at *
  go_wp2_with fail
  refine HEN2.out.mono ?_
  rintro e w3 ⟨rfl, hb3⟩
  have HI3 : Hid (IX w3 y (fun k => k < w.heap.size) (adPs ns) F) := HI2.out.below hb3
  have HB3 : Hid (Below w.heap.size w w3) := HB2.out.trans (hb3.mono HB2.out.size)
  clear hb3 HI2 HEN2
  go_wp2
  go_ret2
  exact ⟨y, rfl, HI3.out, hzz, HB3.out⟩
set_option maxRecDepth 100000 in
set_option maxHeartbeats 2000000 in
theorem decode_bad (l : List UInt8) (w : World) (hl : l.length ≤ 9000) (hd : ¬ DecOk l) :
    Calls Try.prog 15 #[.string (mkB l)] w fun e w' => e = .returned (.tuple #[.pointer none, .int .i64 3]) ∧ Below w.heap.size w w' := by
  have hzr := zeroRd
  obtain ⟨W1, hW1⟩ : ∃ W1, W1 = w.alloc (.cells #[.string (mkB l), .bool false] 82) := ⟨_, rfl⟩
  have hR1 : RX W1 w.heap.size ⟨l, false⟩ := by rw [hW1]; exact heap_alloc_new w _
  have hs1 : W1.heap.size = w.heap.size + 1 := by rw [hW1]; simp
  have hb1 : Below w.heap.size w W1 := by rw [hW1]; exact (Below.refl _ w).alloc (Nat.le_refl _) _
  have HB1 : Hid (Below w.heap.size w W1) := hb1
  have hc1 := xindex_any w.heap.size l W1 hR1 hl
  have hok := xIdx_ok l
  unfold DecOk at hd
  generalize xIdx l = R at *
  obtain ⟨ns, F, s⟩ := R
  dsimp only at *
  have HC1 : Hid (Calls Try.prog 29 #[.pointer (some ⟨w.heap.size, 0, none⟩)] W1 fun e w' => e = .returned (.pointer (some ⟨W1.heap.size, 0, none⟩)) ∧ ∃ K v, XS W1 w' w.heap.size W1.heap.size l.length s v ns F K) := hc1
  have HOK : Hid (FOk ns F ∧ F.length ≤ l.length + 1 ∧ ns.length ≤ l.length + 1) := hok
  have HD : Hid (¬ (s.bad = false ∧ encI (adPs ns) F = l)) := hd
  clear hd hR1 hb1 hc1 hok
  go_enter Try.func15, Try.ntmps15
  go_wp2_with fail
  rw [← hW1]
  clear hW1
  refine HC1.out.mono ?_
  rintro e w2 ⟨rfl, K, v, hX⟩
  have c1 := RX.c1 hX.rx
  have HB2 : Hid (Below w.heap.size w w2) := HB1.out.grown hX.gr HB1.out.size (fun k hk => by cases hk; exact Nat.le_refl _)
  have hen := core_enc hX hl HOK.out.1 HOK.out.2.1 HOK.out.2.2
  have HEN2 : Hid (Calls Try.prog 12 #[.pointer (some ⟨W1.heap.size, 0, none⟩)] w2 fun e w' => e = .returned (.string (mkB (encI (adPs ns) F))) ∧ Below w2.heap.size w2 w') := hen
  clear hen hX HC1 hs1
  generalize W1.heap.size = y at *
  by_cases hb : s.bad = false
  · rw [hb] at c1
    have hne : encI (adPs ns) F ≠ l := fun e => HD.out ⟨hb, e⟩
    have hbe := mkB_beq (encI (adPs ns) F) l
    rw [decide_eq_false hne] at hbe
    have hbn : ((mkB (encI (adPs ns) F)).toList != (mkB l).toList) = true := by rw [bne, hbe]; rfl
    clear hne hb
    generalize mkB (encI (adPs ns) F) = E at *
    go_wp2_with fail
    refine HEN2.out.mono ?_
    rintro e w3 ⟨rfl, hb3⟩
    have HB3 : Hid (Below w.heap.size w w3) := HB2.out.trans (hb3.mono HB2.out.size)
    clear hb3 HEN2
    go_wp2
    go_ret2
    exact ⟨rfl, HB3.out⟩
  · have hb2 : s.bad = true := by cases e : s.bad with | true => rfl | false => exact absurd e hb
    rw [hb2] at c1
    clear hb hb2
    go_wp2
    go_ret2
    exact ⟨rfl, HB2.out⟩
end Go.Proofs.Ytpfjcdfhlcnlcaa
