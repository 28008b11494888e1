/- Contracts of the reader's codesOf and stored. -/
import Derived.Test.YthkppipdflmekaaQInfD
namespace Go.Proofs.Ythkppipdflmekaa
open Go.RowKit
set_option linter.unusedVariables false

set_option maxRecDepth 100000 in
set_option maxHeartbeats 2000000 in
theorem codesOf_any (B gr gx k : Nat) (s : ByteArray) (p most out : Nat) (w : World) (hR : RdAt w B gr gx s p most out) (hs : s.size ≤ 100000000) (hp : p ≤ 8 * s.size) (hk : 0 < k) :
    Calls Try.prog 36 #[.pointer (some ⟨gr, 0, none⟩), .int .i64 (k : Int)] w fun e w' => (∃ ls ds q gc, ((k = 1 ∧ ls = fixL ∧ ds = fixD ∧ q = p) ∨ (k = 2 ∧ dynF (bF8 s) (8 * s.size) p = .ok (ls, ds, q))) ∧ e = .returned (.tuple #[.pointer (some ⟨gc, 0, none⟩), .int .i64 0]) ∧ CodesAt w' gc ls ds ∧ Lens ls ∧ Lens ds ∧ q ≤ 8 * s.size ∧ p ≤ q ∧ RdAt w' B gr gx s q most out ∧ KS w w' ∧ Below B w w') ∨ (∃ er, ((k = 2 ∧ dynF (bF8 s) (8 * s.size) p = .error er) ∨ (2 < k ∧ er = 3)) ∧ er ≠ 0 ∧ e = .returned (.tuple #[.pointer none, .int .i64 (er : Int)]) ∧ KS w w' ∧ Below B w w') := by
  have HR : Hid (RdAt w B gr gx s p most out) := hR
  by_cases h1 : k = 1
  · subst h1
    have HF : Hid (Calls _ _ _ _ _) := fixedCodes_any B gr gx s p most out w hR
    clear hR
    go_enter Try.func36, Try.ntmps36
    go_wp2_with fail
    refine (Hid.out HF : Calls _ _ _ _ _).mono ?_
    rintro e w1 ⟨gc, rfl, hC, hR1, hK1, hB1⟩
    have HE : Hid (_ ∧ _ ∧ _ ∧ _) := And.intro hC (And.intro hR1 (And.intro hK1 hB1))
    clear hC hR1 hK1 hB1 HF
    go_wp2
    go_ret2
    obtain ⟨hC, hR1, hK1, hB1⟩ := HE.out
    exact .inl ⟨_, _, _, _, .inl ⟨by trivial, rfl, rfl, rfl⟩, rfl, hC, fixL_lens, fixD_lens, hp, Nat.le_refl _, hR1, hK1, hB1⟩
  · have h1i : ((k : Int) == 1) = false := by simp; omega
    by_cases h2 : k = 2
    · subst h2
      have HF : Hid (Calls _ _ _ _ _) := dynamic_any B gr gx s p most out _ w hR hs hp rfl
      clear hR h1
      go_enter Try.func36, Try.ntmps36
      go_wp2_with fail
      refine (Hid.out HF : Calls _ _ _ _ _).mono ?_
      rintro e w1 (⟨ls, ds, q, gc, hr, rfl, hC, hl, hd, hq, hpq, hR1, hK1, hB1⟩ | ⟨er, hr, her, rfl, hK1, hB1⟩)
      · have HE : Hid (_ ∧ _ ∧ _ ∧ _ ∧ _ ∧ _ ∧ _) := And.intro hr (And.intro hC (And.intro hl (And.intro hd (And.intro hR1 (And.intro hK1 hB1)))))
        clear hr hC hl hd hR1 hK1 hB1 HF
        go_wp2
        go_ret2
        obtain ⟨hr, hC, hl, hd, hR1, hK1, hB1⟩ := HE.out
        exact .inl ⟨_, _, _, _, .inr ⟨by trivial, hr⟩, rfl, hC, hl, hd, hq, hpq, hR1, hK1, hB1⟩
      · have HE : Hid (_ ∧ _ ∧ _) := And.intro hr (And.intro hK1 hB1)
        clear hr hK1 hB1 HF
        go_wp2
        go_ret2
        obtain ⟨hr, hK1, hB1⟩ := HE.out
        exact .inr ⟨er, .inl ⟨by trivial, hr⟩, her, rfl, hK1, hB1⟩
    · have h2i : ((k : Int) == 2) = false := by simp; omega
      clear hR
      go_enter Try.func36, Try.ntmps36
      go_wp2
      go_ret2
      exact .inr ⟨3, .inr ⟨by omega, rfl⟩, by decide, rfl, KS.refl _, Below.refl _ _⟩
theorem i64_xor_nat (a b : Nat) (ha : a < 65536) (hb : b < 65536) : bits BinOp.xor .i64 (a : Int) (b : Int) = ((a ^^^ b : Nat) : Int) := by
  have hx : a ^^^ b < 2 ^ 16 := Nat.xor_lt_two_pow (by omega) (by omega)
  show IntKind.i64.wrap ((BitVec.ofInt 64 (a : Int) ^^^ BitVec.ofInt 64 (b : Int)).toNat : Int) = _
  rw [BitVec.toNat_xor, ofInt_u64 a (by omega), ofInt_u64 b (by omega)]
  generalize a ^^^ b = x at *
  simp [IntKind.wrap, IntKind.bits, IntKind.signed]
  omega
theorem not16 (n : Nat) (h : n < 65536) : 65535 ^^^ n = 65535 - n := by
  apply Nat.eq_of_testBit_eq
  intro i
  rw [Nat.testBit_xor, show 65535 - n = 2 ^ 16 - (n + 1) by omega, Nat.testBit_two_pow_sub_succ (by omega), show 65535 = 2 ^ 16 - 1 by decide, Nat.testBit_two_pow_sub_one]
  by_cases hi : i < 16
  · simp [hi]
  · rw [Nat.testBit_lt_two_pow (Nat.lt_of_lt_of_le (show n < 2 ^ 16 by omega) (Nat.pow_le_pow_right (by decide) (by omega)))]; simp [hi]
theorem xor16 (n m : Nat) (hn : n < 65536) (hm : m < 65536) : n ^^^ m = 65535 ↔ n + m = 65535 := by
  constructor
  · intro h
    have : m = n ^^^ 65535 := by rw [← h, ← Nat.xor_assoc, Nat.xor_self, Nat.zero_xor]
    rw [Nat.xor_comm, not16 n hn] at this
    omega
  · intro h
    have : m = 65535 ^^^ n := by rw [not16 n hn]; omega
    rw [this, Nat.xor_comm 65535 n, ← Nat.xor_assoc, Nat.xor_self, Nat.zero_xor]
theorem byte8 (s : ByteArray) (a k : Nat) : takeN (fun i => bF8 s (8 * a + 8 * k + i)) 8 = (s.data.toList.getD (a + k) 0).toNat := by
  have h : takeN (fun i => bF8 s (8 * a + 8 * k + i)) 8 = takeN (fun i => (s.data.toList.getD (a + k) 0).toNat.testBit i) 8 := by
    refine takeN_congr 8 (fun i hi => ?_)
    unfold bF8 sbit
    rw [show (8 * a + 8 * k + i) / 8 = a + k by omega, show (8 * a + 8 * k + i) % 8 = i by omega]
  rw [h, takeN_low, Nat.mod_eq_of_lt (UInt8.toNat_lt _)]
theorem bytF_cut (s : ByteArray) (a n : Nat) (h : a + n ≤ s.size) : (cutT s a n).data.toList.map UInt8.toNat = bytF (bF8 s) (8 * a) n := by
  rw [cutT_data]
  unfold bytF
  apply List.ext_getElem?
  intro i
  rw [List.getElem?_map, List.getElem?_take, List.getElem?_map]
  by_cases hi : i < n
  · rw [if_pos hi, List.getElem?_drop, List.getElem?_range hi, List.getElem?_eq_getElem (by rw [size_toList]; omega)]
    simp only [Option.map_some, Option.some.injEq]
    rw [byte8, List.getD_eq_getElem?_getD, List.getElem?_eq_getElem (by rw [size_toList]; omega)]
    rfl
  · rw [if_neg hi, List.getElem?_eq_none (by simp; omega)]
    rfl
set_option maxRecDepth 100000 in
set_option maxHeartbeats 4000000 in
theorem stored_any (B gr gx : Nat) (s : ByteArray) (p most out : Nat) (r : Except Nat (List Nat × Nat × Nat)) (w : World) (hR : RdAt w B gr gx s p most out) (hs : s.size ≤ 100000000) (hp : p ≤ 8 * s.size) (ho : out ≤ most) (hm : most ≤ 70000) (h : stF (bF8 s) (8 * s.size) most p out = r) :
    Calls Try.prog 35 #[.pointer (some ⟨gr, 0, none⟩)] w fun e w' => (∃ b q o t, r = .ok (b, q, o) ∧ e = .returned (.tuple #[.string t, .int .i64 0]) ∧ t.data.toList.map UInt8.toNat = b ∧ q ≤ 8 * s.size ∧ p ≤ q ∧ o ≤ most ∧ RdAt w' B gr gx s q most o ∧ KS w w' ∧ Below B w w') ∨ (∃ er t, r = .error er ∧ er ≠ 0 ∧ e = .returned (.tuple #[.string t, .int .i64 (er : Int)]) ∧ KS w w' ∧ Below B w w') := by
  have c0 := hR.cell0
  have HE : Hid (Calls _ _ _ _ _) := seven_any gx s p w hR.2.2.1 (by omega)
  have HR : Hid (RdAt w B gr gx s p most out) := hR
  unfold stF at h
  obtain ⟨a, ha⟩ : ∃ a, a = (p + 7) / 8 := ⟨_, rfl⟩
  have ha1 : 8 * a ≤ 8 * s.size := by omega
  have ha2 : p ≤ 8 * a := by omega
  rw [← ha, Nat.mul_comm a 8] at h HE
  have HH : Hid (_ = r) := h
  clear hR h ha
  go_enter Try.func35, Try.ntmps35
  go_wp2_with fail
  refine (Hid.out HE : Calls _ _ _ _ _).mono ?_
  rintro e w1 ⟨rfl, hS1, hG1⟩
  obtain ⟨hR1, hK1, hB1⟩ := HR.out.moved hG1 hS1
  have HR1 : Hid (RdAt w1 B gr gx s (8 * a) most out) := hR1
  have HK1 : Hid (KS w w1) := hK1
  have HB1 : Hid (Below B w w1) := hB1
  clear HE HR c0 hS1 hG1 hR1 hK1 hB1
  cases ht : tkF (bF8 s) (8 * s.size) (8 * a) 16 with
  | error er =>
    have HT : Hid (Calls _ _ _ _ _) := rtake_err B gr gx s (8 * a) most out 16 er w1 HR1.out hs (by decide) ha1 ht
    have hh := HH.out
    rw [ht] at hh
    have HRE : Hid (.error er = r) := hh
    obtain ⟨_, rfl⟩ := tkF_err ht
    clear hh HH ht
    go_wp2_with fail
    refine (Hid.out HT : Calls _ _ _ _ _).mono ?_
    rintro e w2 ⟨rfl, hK2, hB2⟩
    have HK2 : Hid (KS w w2) := HK1.out.trans hK2
    have HB2 : Hid (Below B w w2) := HB1.out.trans hB2
    clear hK2 hB2 HT
    go_wp2
    go_ret2
    exact .inr ⟨6, _, HRE.out.symm, by decide, rfl, HK2.out, HB2.out⟩
  | ok n =>
    have HT : Hid (Calls _ _ _ _ _) := rtake_ok B gr gx s (8 * a) most out 16 n w1 HR1.out hs (by decide) ht
    have hh := HH.out
    rw [ht] at hh
    obtain ⟨hle, hnv⟩ := tkF_ok ht
    have hn16 : n < 65536 := by rw [hnv]; exact takeN_lt _ 16
    have HH2 : Hid (_ = r) := hh
    clear hh HH ht hnv
    go_wp2_with fail
    refine (Hid.out HT : Calls _ _ _ _ _).mono ?_
    rintro e w2 ⟨rfl, hR2, hK2, hB2⟩
    have HR2 : Hid (RdAt w2 B gr gx s (8 * a + 16) most out) := hR2
    have HK2 : Hid (KS w w2) := HK1.out.trans hK2
    have HB2 : Hid (Below B w w2) := HB1.out.trans hB2
    clear hR2 hK2 hB2 HT HR1 HK1 HB1
    cases ht : tkF (bF8 s) (8 * s.size) (8 * a + 16) 16 with
    | error er =>
      have HT : Hid (Calls _ _ _ _ _) := rtake_err B gr gx s (8 * a + 16) most out 16 er w2 HR2.out hs (by decide) (by omega) ht
      have hh := HH2.out
      simp only [ht] at hh
      have HRE : Hid (.error er = r) := hh
      obtain ⟨_, rfl⟩ := tkF_err ht
      clear hh HH2 ht
      go_wp2_with fail
      refine (Hid.out HT : Calls _ _ _ _ _).mono ?_
      rintro e w3 ⟨rfl, hK3, hB3⟩
      have HK3 : Hid (KS w w3) := HK2.out.trans hK3
      have HB3 : Hid (Below B w w3) := HB2.out.trans hB3
      clear hK3 hB3 HT
      go_wp2
      go_ret2
      exact .inr ⟨6, _, HRE.out.symm, by decide, rfl, HK3.out, HB3.out⟩
    | ok m =>
      have HT : Hid (Calls _ _ _ _ _) := rtake_ok B gr gx s (8 * a + 16) most out 16 m w2 HR2.out hs (by decide) ht
      have hh := HH2.out
      simp only [ht] at hh
      obtain ⟨hle2, hmv⟩ := tkF_ok ht
      have hm16 : m < 65536 := by rw [hmv]; exact takeN_lt _ 16
      have HH3 : Hid (_ = r) := hh
      clear hh HH2 ht hmv
      have hx := i64_xor_nat n m hn16 hm16
      have HX := xor16 n m hn16 hm16
      go_wp2_with fail
      refine (Hid.out HT : Calls _ _ _ _ _).mono ?_
      rintro e w3 ⟨rfl, hR3, hK3, hB3⟩
      have HR3 : Hid (RdAt w3 B gr gx s (8 * a + 32) most out) := hR3
      have HK3 : Hid (KS w w3) := HK2.out.trans hK3
      have HB3 : Hid (Below B w w3) := HB2.out.trans hB3
      have c0 := hR3.cell0
      have HTX : Hid (Calls _ _ _ _ _) := stext_any gx s (8 * a + 32) (n : Int) w3 hR3.2.2.1 (by omega) (by omega) (by omega)
      rw [show near (n : Int) 65536 = n by have := near_eq (n : Int) 65536 (by decide); omega, show (8 * a + 32 + 7) / 8 = a + 4 by omega] at HTX
      clear hR3 hK3 hB3 HT HR2 HK2 HB2
      by_cases hsum : n + m = 65535
      · have hxn := HX.2 hsum
        rw [hxn] at hx
        clear hxn HX
        have HH4 : Hid ((if 8 * s.size < 8 * a + 32 + 8 * n then .error 6 else if most < out + n then .error 2 else .ok (bytF (bF8 s) (8 * a + 32) n, 8 * a + 32 + 8 * n, out + n)) = r) := by
          unfold Hid; rw [← HH3.out, if_neg (show ¬ (n + m ≠ 65535) from fun h => h hsum)]
        clear HH3 hsum
        go_wp2_with fail
        refine (Hid.out HTX : Calls _ _ _ _ _).mono ?_
        rintro e w4 ⟨rfl, hS4, hG4⟩
        obtain ⟨hR4, hK4, hB4⟩ := HR3.out.moved hG4 hS4
        rw [show (a + 4) * 8 + 8 * n = 8 * a + 32 + 8 * n by omega] at hR4 hS4
        have d0 := hR4.cell0
        have HSH : Hid (Calls _ _ _ _ _) := short_any gx s (8 * a + 32 + 8 * n) w4 hS4 (by omega)
        have HR4 : Hid (RdAt w4 B gr gx s (8 * a + 32 + 8 * n) most out) := hR4
        have HK4 : Hid (KS w w4) := HK3.out.trans hK4
        have HB4 : Hid (Below B w w4) := HB3.out.trans hB4
        clear hS4 hG4 hR4 hK4 hB4 HR3 HK3 HB3 HTX
        by_cases hsh : 8 * s.size < 8 * a + 32 + 8 * n
        · rw [decide_eq_true hsh] at HSH
          have HRE : Hid (.error 6 = r) := by unfold Hid; rw [← HH4.out, if_pos hsh]
          clear HH4
          go_wp2_with fail
          refine (Hid.out HSH : Calls _ _ _ _ _).mono ?_
          rintro e w5 ⟨rfl, j, rfl⟩
          go_wp2
          go_ret2
          exact .inr ⟨6, _, HRE.out.symm, by decide, rfl, HK4.out.trans (ks_drewN _ j), below_drewN HB4.out j⟩
        · rw [decide_eq_false hsh] at HSH
          have HRB : Hid (_ = bytF (bF8 s) (8 * (a + 4)) n) := bytF_cut s (a + 4) n (by omega)
          go_wp2_with fail
          refine (Hid.out HSH : Calls _ _ _ _ _).mono ?_
          rintro e w5 ⟨rfl, j, rfl⟩
          have HR5 : Hid (RdAt (w4.drewN j) B gr gx s (8 * a + 32 + 8 * n) most out) := HR4.out.drewN j
          have HK5 : Hid (KS w (w4.drewN j)) := HK4.out.trans (ks_drewN _ j)
          have HB5 : Hid (Below B w (w4.drewN j)) := below_drewN HB4.out j
          clear HR4 HK4 HB4 HSH d0
          generalize w4.drewN j = W5 at *
          generalize cutT s (a + 4) n = tt at *
          by_cases hbig : most < out + n
          · have HG : Hid (Calls _ _ _ _ _) := grow_err B gr gx s (8 * a + 32 + 8 * n) most out n W5 HR5.out (by omega) (by omega) (by omega) hbig
            have HRE : Hid (.error 2 = r) := by unfold Hid; rw [← HH4.out, if_neg hsh, if_pos hbig]
            clear HH4
            go_wp2_with fail
            refine (Hid.out HG : Calls _ _ _ _ _).mono ?_
            rintro e w6 ⟨rfl, hK6, hB6⟩
            have HK6 : Hid (KS w w6) := HK5.out.trans hK6
            have HB6 : Hid (Below B w w6) := HB5.out.trans hB6
            clear hK6 hB6 HG
            go_wp2
            go_ret2
            exact .inr ⟨2, _, HRE.out.symm, by decide, rfl, HK6.out, HB6.out⟩
          · have HG : Hid (Calls _ _ _ _ _) := grow_ok B gr gx s (8 * a + 32 + 8 * n) most out n W5 HR5.out (by omega) (by omega) (by omega) (by omega)
            have HRE : Hid (.ok (bytF (bF8 s) (8 * a + 32) n, 8 * a + 32 + 8 * n, out + n) = r) := by unfold Hid; rw [← HH4.out, if_neg hsh, if_neg hbig]
            clear HH4
            go_wp2_with fail
            refine (Hid.out HG : Calls _ _ _ _ _).mono ?_
            rintro e w6 ⟨rfl, hR6, hK6, hB6⟩
            have HR6 : Hid (RdAt w6 B gr gx s (8 * a + 32 + 8 * n) most (out + n)) := hR6
            have HK6 : Hid (KS w w6) := HK5.out.trans hK6
            have HB6 : Hid (Below B w w6) := HB5.out.trans hB6
            clear hR6 hK6 hB6 HG
            go_wp2
            go_ret2
            exact .inl ⟨_, _, _, _, HRE.out.symm, rfl, HRB.out, by omega, by omega, by omega, HR6.out, HK6.out, HB6.out⟩
      · have hxn : ¬ n ^^^ m = 65535 := fun h => hsum (HX.1 h)
        have hxi : (((n ^^^ m : Nat) : Int) != 65535) = true := by simpa using (by omega : ¬ ((n ^^^ m : Nat) : Int) = 65535)
        have HRE : Hid (.error 3 = r) := by unfold Hid; rw [← HH3.out, if_pos hsum]
        clear HX HH3 HTX
        generalize n ^^^ m = xx at *
        go_wp2
        go_ret2
        exact .inr ⟨3, _, HRE.out.symm, by decide, rfl, HK3.out, HB3.out⟩
end Go.Proofs.Ythkppipdflmekaa
