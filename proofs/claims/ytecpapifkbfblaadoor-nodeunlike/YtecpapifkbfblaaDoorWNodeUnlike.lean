/- NodeUnlike: the walk. -/
import Derived.Test.YtecpapifkbfblaaDoorNodSm
import Derived.Test.YtecpapifkbfblaaDoorNodP
import Derived.Test.YtecpapifkbfblaaDoorNodG
import Derived.Test.YtecpapifkbfblaaDoorAwk12
namespace Go.Proofs.YtecpapifkbfblaaDoor
open Go.RowKit
set_option linter.unusedVariables false
set_option linter.unusedSimpArgs false

theorem ON.formU {w : World} {B : Nat} {v : Value} {l : List Nd} (h : ON w B v l) : ∃ a c, v = .slice a l.length c := by
  obtain ⟨vs, h1, h2, h3⟩ := h
  rcases h2.2 with ⟨rfl, h0⟩ | ⟨k, cap, cur, rfl, _⟩
  · exact ⟨none, 0, by rw [h0]⟩
  · exact ⟨_, _, rfl⟩
theorem tdRc_inj {a b : Nd} (ha : kindN a ≠ 0) (hb : kindN b ≠ 0) (h : tdRc a = tdRc b) : a = b := by
  cases a <;> cases b <;> first | exact absurd rfl ha | exact absurd rfl hb | (simp only [tdRc, Rc.mk.injEq] at h; simp_all)
theorem map_tdRc : ∀ {A B : List Nd}, (∀ n ∈ A, kindN n ≠ 0) → (∀ n ∈ B, kindN n ≠ 0) → A.map tdRc = B.map tdRc → A = B
  | [], [], _, _, _ => rfl
  | [], _ :: _, _, _, h => by simp at h
  | _ :: _, [], _, _, h => by simp at h
  | a :: A, b :: B, ha, hb, h => by
    simp only [List.map_cons, List.cons.injEq] at h
    rw [tdRc_inj (ha a (by simp)) (hb b (by simp)) h.1, map_tdRc (fun n hn => ha n (by simp [hn])) (fun n hn => hb n (by simp [hn])) h.2]
theorem unlike_iff {A B : List Nd} (ha : checkN A = 0) (hb : checkN B = 0) : encN A = encN B ↔ A.map tdRc = B.map tdRc :=
  ⟨fun h => by rw [enc_inj ha hb h], fun h => by rw [map_tdRc (fun n hn => (fit_form ((check_unfit ha).2 n hn)).1) (fun n hn => (fit_form ((check_unfit hb).2 n hn)).1) h]⟩
theorem allN_ch (rs : List Rc) : ∀ n ∈ allN rs, (tdRc n).ch.length ≤ 100000 := by
  intro n hn
  unfold allN at hn
  obtain ⟨r, _, rfl⟩ := List.mem_map.1 hn
  have : (r.ch.take 20).length ≤ 100000 := by rw [List.length_take]; omega
  unfold ndOf
  repeat' split
  all_goals first | exact this | simp [tdRc]
theorem enc_len {A : List Nd} (h : checkN A = 0) : (encN A).length ≤ 999999999 := by
  obtain ⟨h1, h2⟩ := check_unfit h
  have := flat_len A h2
  have := vb_len A.length (by omega)
  unfold encN
  rw [List.length_append]
  omega
theorem conv_cu (w : World) (c : Int) (h0 : 0 ≤ c) (h1 : c ≤ 255) : (convert 31 9 (.slice (some ⟨w.heap.size, 0, none⟩) 1 1)).run Tryd.prog (w.alloc (.cells #[.int .u8 c] 5)) = .ok (.string (mkB [UInt8.ofNat c.toNat])) (w.alloc (.cells #[.int .u8 c] 5)) := by
  have := run_convert_bytes_arg (P := Tryd.prog) (w.alloc (.cells #[.int .u8 c] 5)) 31 5 Tryd.underlying31 Tryd.underlying5 w.heap.size 0 1 1 [c] rfl (fun i hi => by
    match i, hi with
    | 0, _ => simp
    | i + 1, hi => omega) 9 Tryd.underlying9
  rw [this]; rfl
set_option maxRecDepth 100000 in
set_option maxHeartbeats 8000000 in
theorem lawNodeUnlike_walk (a0 : Option Addr) (len0 cap0 : Nat) (z0 : List Rc) (a1 : Option Addr) (len1 cap1 : Nat) (z1 : List Rc) (a2 : Int) (W : World) (b0 : IsRecs W a0 len0 cap0 z0) (b1 : IsRecs W a1 len1 cap1 z1) (b2 : 0 ≤ a2 ∧ a2 ≤ 255) (hL : Lay11 W) :
    Calls Tryd.prog 3 #[.slice a0 len0 cap0, .slice a1 len1 cap1, .int .u8 a2] W fun e w' => e = .returned (.bool true) ∧ Below W.heap.size W w' := by
  have HNA : Hid ((∀ n ∈ allN z0, NB n) ∧ (allN z0).length ≤ 210 ∧ ∀ n ∈ allN z0, (tdRc n).ch.length ≤ 100000) := ⟨allN_NB b0, allN_len z0, allN_ch z0⟩
  have HNB : Hid ((∀ n ∈ allN z1, NB n) ∧ (allN z1).length ≤ 210 ∧ ∀ n ∈ allN z1, (tdRc n).ch.length ≤ 100000) := ⟨allN_NB b1, allN_len z1, allN_ch z1⟩
  have HL : Hid (∀ w', Below W.heap.size W w' → Lay11 w') := fun w' hb => hL.below hb
  have HA : Hid (∀ w', Below W.heap.size W w' → Calls Tryd.prog 5 #[.slice a0 len0 cap0] w' fun e w'' => ∃ v, e = .returned v ∧ ON w'' w'.heap.size v (allN z0) ∧ Below w'.heap.size w' w'') := fun w' hb => all_any z0 a0 len0 cap0 w' (b0.below hb)
  have HB : Hid (∀ w', Below W.heap.size W w' → Calls Tryd.prog 5 #[.slice a1 len1 cap1] w' fun e w'' => ∃ v, e = .returned v ∧ ON w'' w'.heap.size v (allN z1) ∧ Below w'.heap.size w' w'') := fun w' hb => all_any z1 a1 len1 cap1 w' (b1.below hb)
  have HK : Hid (∀ w', Below W.heap.size W w' → Calls Tryd.prog 7 #[] w' fun e w'' => e = .returned (.bool true) ∧ Below w'.heap.size w' w'') := fun w' hb => awake12_any w' (hL.below hb)
  clear b0 b1 hL
  generalize allN z0 = A at *
  generalize allN z1 = B at *
  go_enter Tryd.func3, Tryd.ntmps3
  go_wp2_with fail
  refine (HA.out _ (Below.refl _ _)).mono ?_
  rintro e w1 ⟨v1, rfl, hO1, hb1⟩
  have HA1 : Hid (LN w1 v1 A) := hO1.ln
  obtain ⟨va, vac, rfl⟩ := hO1.formU
  have HB1 : Hid (Below W.heap.size W w1) := hb1
  clear hO1 hb1 HA
  go_wp2_with fail
  refine (HB.out _ HB1.out).mono ?_
  rintro e w2 ⟨v2, rfl, hO2, hb2⟩
  have HB2 : Hid (LN w2 v2 B) := hO2.ln
  obtain ⟨vb, vbc, rfl⟩ := hO2.formU
  have HA2 : Hid (LN w2 (.slice va A.length vac) A) := HA1.out.below hb2
  have HW2 : Hid (Below W.heap.size W w2) := belN HB1.out hb2
  clear hO2 hb2 HB HA1 HB1
  have HEA : Hid (∃ (SA : ByteArray) (eA : Int), (∀ W', Below w2.heap.size w2 W' → Calls Tryd.prog 6 #[.slice va A.length vac] W' fun e w' => e = .returned (.tuple #[.string SA, .int .i64 eA]) ∧ Below W'.heap.size W' w') ∧ ((eA = 0 ∧ checkN A = 0 ∧ SA = mkB (encN A)) ∨ (eA ≠ 0 ∧ SA = ⟨#[]⟩))) := by
    refine ⟨mkB (encR A), checkN A, fun W' hb => encode_any A _ W' (HA2.out.below hb) HNA.out.1 (HL.out _ (belN HW2.out hb)) (by have := HNA.out.2.1; omega), ?_⟩
    by_cases h : checkN A = 0
    · exact .inl ⟨h, h, by unfold encR; rw [if_pos h]⟩
    · exact .inr ⟨h, by unfold encR; rw [if_neg h]; rfl⟩
  have HEB : Hid (∃ (SA : ByteArray) (eA : Int), (∀ W', Below w2.heap.size w2 W' → Calls Tryd.prog 6 #[.slice vb B.length vbc] W' fun e w' => e = .returned (.tuple #[.string SA, .int .i64 eA]) ∧ Below W'.heap.size W' w') ∧ ((eA = 0 ∧ checkN B = 0 ∧ SA = mkB (encN B)) ∨ (eA ≠ 0 ∧ SA = ⟨#[]⟩))) := by
    refine ⟨mkB (encR B), checkN B, fun W' hb => encode_any B _ W' (HB2.out.below hb) HNB.out.1 (HL.out _ (belN HW2.out hb)) (by have := HNB.out.2.1; omega), ?_⟩
    by_cases h : checkN B = 0
    · exact .inl ⟨h, h, by unfold encR; rw [if_pos h]⟩
    · exact .inr ⟨h, by unfold encR; rw [if_neg h]; rfl⟩
  obtain ⟨SA, eA, hcA, hA⟩ := HEA.out
  obtain ⟨SB, eB, hcB, hB⟩ := HEB.out
  have HCA : Hid (∀ W', _ → Calls _ _ _ W' _) := hcA
  have HCB : Hid (∀ W', _ → Calls _ _ _ W' _) := hcB
  have HSA : Hid (_ ∨ _) := hA
  have HSB : Hid (_ ∨ _) := hB
  clear hcA hcB hA hB HEA HEB
  go_wp2_with fail
  refine (HCA.out _ (Below.refl _ _)).mono ?_
  rintro e w3 ⟨rfl, hb3⟩
  have HB3 : Hid (Below w2.heap.size w2 w3) := hb3
  clear hb3 HCA
  go_wp2_with fail
  refine (HCB.out _ HB3.out).mono ?_
  rintro e w4 ⟨rfl, hb4⟩
  have HW4 : Hid (Below W.heap.size W w4) := belN (belN HW2.out HB3.out) hb4
  have HA4 : Hid (LN w4 (.slice va A.length vac) A) := (HA2.out.below HB3.out).below hb4
  have HB4 : Hid (LN w4 (.slice vb B.length vbc) B) := (HB2.out.below HB3.out).below hb4
  clear hb4 HCB HB3 HA2 HB2 HW2
  rcases HSA.out with ⟨rfl, hca, rfl⟩ | ⟨hne, rfl⟩
  · rcases HSB.out with ⟨rfl, hcb, rfl⟩ | ⟨hne, rfl⟩
    · have HCA : Hid (checkN A = 0) := hca
      have HCB : Hid (checkN B = 0) := hcb
      have HDE : Hid (∀ W', Below W.heap.size W W' → Calls Tryd.prog 8 #[.string (mkB (encN A ++ [UInt8.ofNat a2.toNat]))] W' fun e w' => ∃ a c, e = .returned (.tuple #[.slice a 0 c, .int .i64 3]) ∧ Below W'.heap.size W' w') := fun W' hb =>
        (decode_any (encN A ++ [UInt8.ofNat a2.toNat]) W' (by have := enc_len hca; rw [List.length_append]; simp; omega) (HL.out _ hb)).mono (by
          rintro e w' ⟨v, rfl, hO, hb'⟩
          rw [dec_more A _ hca] at hO
          obtain ⟨a, c, rfl⟩ := hO.formU
          exact ⟨a, c, by rw [dec_more A _ hca]; rfl, hb'⟩)
      have HEQ : Hid (∀ b : Bool, (b = true ↔ A.map tdRc = B.map tdRc) → ((mkB (encN A)).toList == (mkB (encN B)).toList) = b) := fun b hb => by
        rw [mkB_beq, Bool.eq_iff_iff, hb, decide_eq_true_iff, unlike_iff hca hcb]
      clear hca hcb HSA HSB
      have hc1 : 0 ≤ a2 := b2.1
      have hc2 : a2 ≤ 255 := b2.2
      have hcv := conv_cu w4 a2 hc1 hc2
      have HM4 : Hid (∀ o, Below W.heap.size W (w4.alloc o)) := fun o => HW4.out.alloc HW4.out.size o
      have hap : (mkB (encN A)) ++ (mkB [UInt8.ofNat a2.toNat]) = mkB (encN A ++ [UInt8.ofNat a2.toNat]) := by
        apply ByteArray.ext
        rw [ByteArray.data_append]
        simp [mkB]
      obtain ⟨E, hE⟩ : ∃ E, ((mkB (encN A)).toList == (mkB (encN B)).toList) = E := ⟨_, rfl⟩
      have hsz : ¬ 9223372036854775807 < (mkB (encN A)).size + (mkB [UInt8.ofNat a2.toNat]).size := by
        have := enc_len HCA.out
        rw [mkB_size, mkB_size]; simp only [List.length_cons, List.length_nil]; omega
      go_wp2_with fail
      refine (HDE.out _ (HM4.out _)).mono ?_
      rintro e w5 ⟨da, dc, rfl, hb5⟩
      have hal : Below w4.heap.size w4 (w4.alloc (.cells #[.int .u8 a2] 5)) := (Below.refl _ w4).alloc (Nat.le_refl _) _
      have HW5 : Hid (Below W.heap.size W w5) := belN (HM4.out _) hb5
      have HA5 : Hid (LN w5 (.slice va A.length vac) A) := (HA4.out.below hal).below hb5
      have HB5 : Hid (LN w5 (.slice vb B.length vbc) B) := (HB4.out.below hal).below hb5
      clear hb5 hal HM4 HA4 HB4 HW4 HDE hcv hap
      go_wp2_with fail
      refine (HK.out _ HW5.out).mono ?_
      rintro e w6 ⟨rfl, hb6⟩
      have HW6 : Hid (Below W.heap.size W w6) := belN HW5.out hb6
      have HA6 : Hid (LN w6 (.slice va A.length vac) A) := HA5.out.below hb6
      have HB6 : Hid (LN w6 (.slice vb B.length vbc) B) := HB5.out.below hb6
      clear hb6 HA5 HB5 HW5
      go_wp2_with fail
      refine (list_any A _ w6 HA6.out (by have := HNA.out.2.1; omega) HNA.out.2.2).mono ?_
      rintro e w7 ⟨u1, l1, rfl, hl1, hr1, hb7⟩
      have HW7 : Hid (Below W.heap.size W w7) := belN HW6.out hb7
      have HB7 : Hid (LN w7 (.slice vb B.length vbc) B) := HB6.out.below hb7
      have HR1 : Hid (l1.map Prod.fst = A.map tdRc ∧ RO w7 w6.heap.size u1 l1) := ⟨hl1, hr1⟩
      clear hb7 hl1 hr1 HA6 HB6 HW6
      go_wp2_with fail
      refine (list_any B _ w7 HB7.out (by have := HNB.out.2.1; omega) HNB.out.2.2).mono ?_
      rintro e w8 ⟨u2, l2, rfl, hl2, hr2, hb8⟩
      have HW8 : Hid (Below W.heap.size W w8) := belN HW7.out hb8
      have HV1 : Hid (RV w8 u1 l1) := (HR1.out.2.call hb8).rv
      have HV2 : Hid (RV w8 u2 l2) := hr2.rv
      have hlen1 : l1.length = A.length := by have := congrArg List.length HR1.out.1; simpa using this
      have HS : Hid (Calls Tryd.prog 9 #[u1, u2] w8 fun e w' => ∃ b, e = .returned (.bool b) ∧ (b = true ↔ A.map tdRc = B.map tdRc) ∧ Below w8.heap.size w8 w') := by
        refine (same_any u1 u2 l1 l2 w8 HV1.out HV2.out (by have := HNA.out.2.1; omega) (fun x hx => ?_)).mono ?_
        · have : x.1 ∈ A.map tdRc := by rw [← HR1.out.1]; exact List.mem_map_of_mem hx
          obtain ⟨n, hn, hnx⟩ := List.mem_map.1 this
          rw [← hnx]; exact HNA.out.2.2 n hn
        · rintro e w' ⟨b, rfl, hb, hbl⟩
          rw [HR1.out.1, hl2] at hb
          exact ⟨b, rfl, hb, hbl⟩
      clear hl2 hr2 hb8 hlen1 HV1 HV2 HR1 HB7 HW7
      go_wp2_with fail
      refine (Hid.out HS : Calls _ _ _ _ _).mono ?_
      rintro e w9 ⟨b, rfl, hb, hb9⟩
      have HW9 : Hid (Below W.heap.size W w9) := belN HW8.out hb9
      obtain rfl : E = b := hE.symm.trans (HEQ.out b hb)
      clear hb hb9 HS HEQ HW8
      go_wp2
      go_ret
      exact ⟨by first | rfl | simp, HW9.out⟩
    · have nb : (eB == 0) = false := beq_eq_false_iff_ne.2 hne
      have nb2 : (eB != 0) = true := by rw [bne, nb]; rfl
      have nt : ((⟨#[]⟩ : ByteArray).toList == (⟨#[]⟩ : ByteArray).toList) = true := by simp
      go_wp2_with fail
      refine (HK.out _ HW4.out).mono ?_
      rintro e w5 ⟨rfl, hb5⟩
      have HW5 : Hid (Below W.heap.size W w5) := belN HW4.out hb5
      clear hb5
      go_wp2
      go_ret
      exact ⟨by first | rfl | simp, HW5.out⟩
  · have na : (eA == 0) = false := beq_eq_false_iff_ne.2 hne
    have na2 : (eA != 0) = true := by rw [bne, na]; rfl
    have nt : ((⟨#[]⟩ : ByteArray).toList == (⟨#[]⟩ : ByteArray).toList) = true := by simp
    clear hne HSA
    rcases HSB.out with ⟨rfl, hcb, rfl⟩ | ⟨hne, rfl⟩
    · clear hcb
      go_wp2_with fail
      refine (HK.out _ HW4.out).mono ?_
      rintro e w5 ⟨rfl, hb5⟩
      have HW5 : Hid (Below W.heap.size W w5) := belN HW4.out hb5
      clear hb5
      go_wp2
      go_ret
      exact ⟨by first | rfl | simp, HW5.out⟩
    · have nb : (eB == 0) = false := beq_eq_false_iff_ne.2 hne
      have nb2 : (eB != 0) = true := by rw [bne, nb]; rfl
      go_wp2_with fail
      refine (HK.out _ HW4.out).mono ?_
      rintro e w5 ⟨rfl, hb5⟩
      have HW5 : Hid (Below W.heap.size W w5) := belN HW4.out hb5
      clear hb5
      go_wp2
      go_ret
      exact ⟨by first | rfl | simp, HW5.out⟩
end Go.Proofs.YtecpapifkbfblaaDoor
