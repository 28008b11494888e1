/- Contracts of the document's Text, Divides and Prime of layer 9. -/
import Derived.Test.YtnfemofighgenaaRPolC
import Derived.Test.YtnfemofighgenaaPolyT
import Derived.Test.YtnfemofighgenaaPolyC
import Derived.Test.YtnfemofighgenaaPolyB
namespace Go.Proofs.Ytnfemofighgenaa
open Go.RowKit
set_option linter.unusedVariables false

theorem of_beN (m : Nat) (h0 : m ≠ 0) (l : List UInt8) : ofP m l = pm (beN l) m := by
  have key : ∀ n (l : List UInt8), l.length = n → ofP m l = pm (beN l) m := by
    intro n
    induction n with
    | zero => intro l hl; rw [List.length_eq_zero_iff.1 hl]; show (0 : Nat) = pm 0 m; rw [pm_small (by rw [bl_zero]; exact bl_pos.2 h0)]
    | succ n ih =>
      intro l hl
      rcases List.eq_nil_or_concat l with rfl | ⟨t, b, rfl⟩
      · simp at hl
      · rw [List.concat_eq_append] at hl ⊢
        rw [ofP_snoc, ih t (by simpa using hl), beN_snoc, nxt_pm _ _ _ h0 b.toNat_lt]; rfl
  exact key _ l rfl
theorem shr_bit8 (b j : Nat) (hb : b < 256) : (bits BinOp.and IntKind.u8 ((b : Int) / 2 ^ j) 1 == 1) = b.testBit j := by
  have e : (b : Int) / 2 ^ j = ((b / 2 ^ j : Nat) : Int) := by simp
  rw [e, and1_u8 _ (Nat.lt_of_le_of_lt (Nat.div_le_self _ _) hb), Nat.testBit_eq_decide_div_mod_eq]
  rcases Nat.mod_two_eq_zero_or_one (b / 2 ^ j) with h | h <;> rw [h] <;> rfl
set_option maxRecDepth 100000 in
set_option maxHeartbeats 2000000 in
theorem rtextP_any (s : ByteArray) (w : World) (hs : s.size ≤ 1000) :
    Calls Try.prog 23 #[.string s] w fun e w' => ∃ v L, e = .returned v ∧ OB w' w.heap.size v L ∧ L.length = 8 * s.size ∧ nb L = beN s.data.toList ∧ Below w.heap.size w w' := by
  obtain ⟨i0, hi, hz0, hz1, hz2⟩ := info_parts Try.infoBo
  go_enter Try.func23, Try.ntmps23
  go_wp2
  go_loopw [3, 4] (fun v i wr => ∃ (k : Nat) (L : List Bool), k ≤ s.size ∧ i = .int .i64 ((k : Int) - 1) ∧ L.length = 8 * (s.size - k) ∧ Hid (nb L = beN (s.data.toList.drop k)) ∧ OB wr w.heap.size v L ∧ Below w.heap.size w wr) (fun _ i _ => (intOf i + 1).toNat)
  case atStart => exact ⟨s.size, [], Nat.le_refl _, rfl, by simp, by show _ = _; rw [List.drop_of_length_le (by simp)]; rfl, ⟨_, _, rfl, World.ownsRow_made _ _ _ (Nat.le_refl _) (by decide) rfl⟩, (Below.refl _ w).alloc (Nat.le_refl _) _⟩
  case round =>
    obtain ⟨k, L, hk, rfl, hL, HN, hO, hB⟩ := hrel
    cases k with
    | zero =>
      rw [List.drop_zero] at HN
      go_wp2
      go_ret
      exact ⟨_, L, rfl, hO, hL, HN.out, hB⟩
    | succ i =>
      have e1 : (((i + 1 : Nat) : Int) - 1) = (i : Int) := by omega
      rw [e1]
      clear e1
      have hlt : i < s.size := by omega
      have hii : (i : Int) < (s.size : Int) := by omega
      have hb := s[i].toNat_lt
      have HD : Hid (s.data.toList.drop i = s[i] :: s.data.toList.drop (i + 1)) := by
        have h2 : i < s.data.toList.length := by simpa using hlt
        exact List.drop_eq_getElem_cons h2
      have HX : Hid (nb (L ++ lowk s[i].toNat 8) = beN (s.data.toList.drop i)) := by
        rw [HD.out]; exact nb_byte L s[i] _ HN.out (by rw [hL]; simp)
      clear HD HN
      go_wp2
      go_loopw [3, 5] (fun v j wr => ∃ m : Nat, m ≤ 8 ∧ j = .int .i64 (m : Int) ∧ OB wr w.heap.size v (L ++ lowk s[i].toNat m) ∧ Below w.heap.size w wr) (fun _ j _ => 8 - (intOf j).toNat)
      case atStart => exact ⟨0, by omega, rfl, by simpa [lowk] using hO, hB⟩
      case round =>
        clear hO hB
        obtain ⟨m, hm, rfl, hO, hB⟩ := hrel
        by_cases hm8 : m < 8
        · have hmi : (m : Int) < 8 := by omega
          have HV : Hid (_ = _) := shr_bit8 s[i].toNat m hb
          have HS : Hid (L ++ lowk s[i].toNat (m + 1) = L ++ lowk s[i].toNat m ++ [s[i].toNat.testBit m]) := by unfold Hid; rw [lowk_succ, List.append_assoc]
          have hLl : (L ++ lowk s[i].toNat m).length ≤ 9000 := by rw [List.length_append, lowk_len]; omega
          obtain ⟨g, cap, rfl, ho⟩ := hO
          have hBs := hB.size
          generalize (L ++ lowk s[i].toNat m).length = q at *
          go_wp2_with (at_builtin; refine wpList_append_own _ rfl _ _ 34 rfl w.heap.size 4 i0 (.bool false) 1 1 Try.underlying34 hi hz0 hz1 hz2 rfl (by decide) _ _ _ rfl (ho.alloc _) ⟨wr.heap.size, 0, none⟩ 1 1 [.bool (bits BinOp.and IntKind.u8 ((s[i].toNat : Int) / 2 ^ m) 1 == 1)] rfl rfl (cell_one_new _ _ _) ?c2 ?c3 ?c4 ?c5 ?_)
          case c2 => first | rfl | (intro u hu; simp at hu; subst hu; rfl)
          case c3 => unfold maxLen; omega
          case c4 => omega
          case c5 => simp; omega
          intro v' w2 hown' hgrow' hne'
          rw [HV.out] at hown'
          obtain ⟨hO2, hB2⟩ := OB.push hBs hB ho _ hown' hgrow' hne'
          clear hown' hgrow' hne' ho hB
          go_wp2
          go_roundw
          case rel => exact ⟨m + 1, by omega, by go_num, by rw [HS.out]; exact hO2, hB2⟩
          case measure => simp [intOf]; omega
        · obtain rfl : m = 8 := by omega
          have hLl : (L ++ lowk s[i].toNat 8).length = 8 * (s.size - i) := by rw [List.length_append, lowk_len, hL]; omega
          go_wp2
          go_roundw
          case rel => exact ⟨i, _, by omega, rfl, hLl, HX, hO, hB⟩
          case measure => simp [intOf]
set_option maxRecDepth 100000 in
set_option maxHeartbeats 400000 in
theorem rdivides_any (d p : Nat) (w : World) (hd : d < 18446744073709551616) (hp : p < 18446744073709551616) (h0 : d ≠ 0) :
    Calls Try.prog 27 #[.int .u64 d, .int .u64 p] w fun e w' => e = .returned (.bool (pm p d == 0)) ∧ Below w.heap.size w w' := by
  have HE : Hid (_ = _) := nb_bo p
  have HL : Hid ((bo p).length ≤ 10000) := by unfold Hid; rw [bo_len]; have := bl64 hp; omega
  have HV : Hid ((((pm p d : Nat) : Int) == 0) = (pm p d == 0)) := by
    unfold Hid
    rw [Bool.eq_iff_iff, beq_iff_eq, beq_iff_eq]; omega
  go_enter Try.func27, Try.ntmps27
  go_wp2_with fail
  refine (rlist_any p _ hp).mono ?_
  rintro e w1 ⟨v, rfl, hO, hB⟩
  go_wp2_with fail
  refine (rrest_any _ _ _ _ hO.rb HL.out hd h0).mono ?_
  rintro e w2 ⟨rfl, hB2⟩
  have hB2 := hB.trans (hB2.mono hB.size)
  rw [HE.out]
  clear hO
  go_wp2
  go_ret
  rw [← HV.out]; exact ⟨rfl, hB2⟩
theorem dv_beq (d p : Nat) (hd : d ≠ 0) : (pm p d == 0) = true ↔ Dv d p := by rw [dv_iff d p hd, beq_iff_eq]
set_option maxRecDepth 100000 in
set_option maxHeartbeats 1000000 in
theorem rprime_any (p : Nat) (w : World) (hp : p < 32768) :
    Calls Try.prog 26 #[.int .u64 p] w fun e w' => e = .returned (.bool (prB p)) ∧ Below w.heap.size w w' := by
  have hp64 : p < 18446744073709551616 := by omega
  have hb15 : bl p ≤ 15 := (bl_le p 15).2 hp
  go_enter Try.func26, Try.ntmps26
  go_wp2_with fail
  refine (rfit_any p _ hp64).mono ?_
  rintro e w1 ⟨rfl, hB1⟩
  by_cases hf : fitP p = true
  · obtain ⟨h2, h63⟩ := (fitP_iff p).1 hf
    rw [hf]
    go_wp2
    go_loopw [3] (fun x wr => ∃ d : Nat, 2 ≤ d ∧ d ≤ 256 ∧ x = .int .u64 (d : Int) ∧ Hid (∀ e, 2 ≤ e → e < d → 2 * (bl e - 1) ≤ bl p - 1 → ¬ Dv e p) ∧ Below w.heap.size w wr) (fun x _ => 256 - (intOf x).toNat)
    case atStart => exact ⟨2, by omega, by omega, rfl, fun e h1 h2 => by omega, hB1⟩
    case round =>
      clear hB1
      obtain ⟨d, hd2, hd, rfl, HA, hB⟩ := hrel
      have hd64 : d < 18446744073709551616 := by omega
      have hd0 : d ≠ 0 := by omega
      have hbd : bl d ≤ 9 := (bl_le d 9).2 (by omega)
      go_wp2_with fail
      refine (rdegree_any d _ hd64).mono ?_
      rintro e w2 ⟨rfl, hB2⟩
      have hB2 := hB.trans (hB2.mono hB.size)
      go_wp2_with fail
      refine (rdegree_any p _ hp64).mono ?_
      rintro e w3 ⟨rfl, hB3⟩
      have hB3 := hB2.trans (hB3.mono hB2.size)
      by_cases hle : 2 * (bl d - 1) ≤ bl p - 1
      · have hbd1 : 2 ≤ bl d := by have := bl_mono hd2; rw [bl_twoX] at this; exact this
        have hd255 : d < 256 := by
          have : bl d ≤ 8 := by omega
          exact (bl_le d 8).1 this
        have hlei : 2 * ((bl d : Int) - 1) ≤ (bl p : Int) - 1 := by omega
        go_wp2_with fail
        refine (rdivides_any d p _ hd64 hp64 hd0).mono ?_
        rintro e w4 ⟨rfl, hB4⟩
        have hB4 := hB3.trans (hB4.mono hB3.size)
        cases hv : (pm p d == 0)
        · have HA2 : Hid (∀ e, 2 ≤ e → e < d + 1 → 2 * (bl e - 1) ≤ bl p - 1 → ¬ Dv e p) := fun e h1 h2 h3 => by
            by_cases he : e = d
            · subst he
              intro hc
              rw [(dv_beq e p hd0).2 hc] at hv; exact absurd hv (by decide)
            · exact HA.out e h1 (by omega) h3
          go_wp2
          go_roundw
          case rel => exact ⟨d + 1, by omega, by omega, by go_num, HA2, hB4⟩
          case measure => simp [intOf]; omega
        · have HP : Hid (prB p = false) := by
            have hdv := (dv_beq d p hd0).1 hv
            unfold Hid
            cases hpr : prB p
            · rfl
            · exact absurd hdv ((irr_try p h2).1 (prB_irr hpr) d hd2 hle)
          go_wp2
          go_ret
          rw [HP.out]; exact ⟨rfl, hB4⟩
      · have hlei : ¬ 2 * ((bl d : Int) - 1) ≤ (bl p : Int) - 1 := by omega
        have HP : Hid (prB p = true) := irr_prB ((irr_try p h2).2 fun e h1 h3 => by
          by_cases he : e < d
          · exact HA.out e h1 he h3
          · have := bl_mono (show d ≤ e by omega)
            omega) h63
        go_wp2
        go_ret
        rw [HP.out]; exact ⟨rfl, hB3⟩
  · have hf : fitP p = false := by simpa using hf
    have HP : Hid (prB p = false) := by unfold Hid prB; rw [hf]; rfl
    rw [hf]
    go_wp2
    go_ret
    rw [HP.out]; exact ⟨rfl, hB1⟩
end Go.Proofs.Ytnfemofighgenaa
