/- The law IndexBack: its walk. -/
import Derived.Test.YtfhlipbgloaflaaIdxC
import Derived.Test.YtfhlipbgloaflaaWIndexElder
namespace Go.Proofs.Ytfhlipbgloaflaa
open Go.RowKit Go.Maps
set_option linter.unusedVariables false
set_option linter.unusedSimpArgs false

def three : List UInt8 := [116, 104, 114, 101, 101]
/-- Digits are hexadecimal ones. -/
theorem wor_hexd : ∀ d : Fin 16, wor (UInt8.ofNat (hexd d.val)).toNat < 16 := by decide
theorem hexd_unhex : ∀ (l : List Nat), (∀ x ∈ l, ∃ d, d < 16 ∧ x = hexd d) → l.length % 2 = 0 → (unhex (l.map UInt8.ofNat)).isSome = true
  | [], _, _ => rfl
  | [a], _, h => by simp at h
  | a :: b :: r, h, hl => by
    obtain ⟨d, hd, rfl⟩ := h a (by simp)
    obtain ⟨e, he, rfl⟩ := h b (by simp)
    have ih := hexd_unhex r (fun x hx => h x (by simp [hx])) (by simp at hl; omega)
    rw [List.map_cons, List.map_cons, unhex, if_pos ⟨wor_hexd ⟨d, hd⟩, wor_hexd ⟨e, he⟩⟩]
    rw [Option.isSome_map]; exact ih
theorem few_nm (l : List Hd) : ∀ h ∈ fewL l, isNm h.n = true := by
  intro h hh
  obtain ⟨x, hx, rfl⟩ := List.mem_map.1 hh
  unfold isNm fewH
  simp only [List.length_map, digL_len, decide_true, Bool.true_and]
  refine hexd_unhex _ (fun y hy => ?_) (by rw [digL_len])
  unfold digL at hy
  obtain ⟨i, _, rfl⟩ := List.mem_map.1 hy
  split
  · exact ⟨_, Nat.mod_lt _ (by decide), rfl⟩
  · exact ⟨_, Nat.mod_lt _ (by decide), rfl⟩
/-- What is read again. -/
def QOk (ps : List (List UInt8)) (F : As Pl) : Prop := ∀ q p, lkA F q = some p → p.k ∈ ps ∧ p.h.ok ∧ p.h.n = q ∧ isNm q = true
theorem QOk.nil (ps : List (List UInt8)) : QOk ps [] := fun q p h => by cases h
theorem QOk.add {ps : List (List UInt8)} {F : As Pl} (h : QOk ps F) (k : List UInt8) {l : List Hd} (hl : ∀ x ∈ l, x.fits) : QOk (adP ps k) (adH k F (fewL l)) := fun q p hp => by
  rcases lk_src hp with h1 | ⟨h1, h2, h3⟩
  · obtain ⟨a, b⟩ := h q p h1
    exact ⟨adP_old a, b⟩
  · exact ⟨by rw [h1]; exact adP_mem _ _, (few_ok hl _ h2).1, h3, by rw [← h3]; exact few_nm l _ h2⟩
theorem QOk.pok {ps : List (List UInt8)} {F : As Pl} (h : QOk ps F) (hp : ∀ p ∈ ps, p.length ≤ 5) : POk F := fun q p hq => by
  obtain ⟨a, b, c, d⟩ := h q p hq
  exact ⟨b, by rw [isNm_len d]; exact Nat.le_refl _, hp _ a⟩
theorem encI_small {ps : List (List UInt8)} {F : As Pl} (hp : ∀ p ∈ ps, p.length ≤ 5) (hpl : ps.length ≤ 3) (hF : F.length ≤ 36) (hk : POk F) : (encI ps F).length ≤ 9000 := by
  unfold encI
  simp only [List.length_append]
  have a1 := vb_len ps.length (by omega)
  have a2 := vb_len F.length (by omega)
  have tx : ∀ x : List UInt8, x.length ≤ 64 → (txB x).length ≤ 74 := fun x hx => by
    unfold txB; rw [List.length_append]; have := vb_len x.length (by omega); omega
  have a3 := flat_le txB 74 ps (fun p hp' => tx p (by have := hp p hp'; omega))
  have a4 := flat_le (enB ps F) 134 (nmA F) (fun x hx => by
    obtain ⟨p, hpp⟩ := Option.isSome_iff_exists.1 (nmA_mem.1 hx)
    obtain ⟨⟨⟨q1, q2⟩, ⟨q3, q4⟩, ⟨q5, q6⟩, ⟨q7, q8⟩, ⟨q9, q10⟩⟩, hx1, _⟩ := hk x p hpp
    obtain ⟨i, hi, hil⟩ := pk_num ps p.k
    unfold enB
    simp only [hpp, Option.getD_some, List.length_append]
    rw [hi]
    have b0 := tx x hx1
    have b1 := vb_len (Int.toNat (i : Int)) (by rw [Int.toNat_natCast]; omega)
    have b2 := vb_len p.h.m.toNat (by omega)
    have b3 := vb_len p.h.c.toNat (by omega)
    have b4 := vb_len p.h.p.toNat (by omega)
    have b5 := vb_len p.h.s.toNat (by omega)
    have b6 := vb_len p.h.a.toNat (by omega)
    omega)
  rw [nmA_len] at a4
  have c1 : ps.length * 74 ≤ 3 * 74 := Nat.mul_le_mul_right _ hpl
  have c2 : F.length * 134 ≤ 36 * 134 := Nat.mul_le_mul_right _ hF
  omega
/-- What was written is read back. -/
theorem dec_enc {ps : List (List UInt8)} {F : As Pl} (hnd : ps.Nodup) (hpl : ps.length ≤ 3) (hp : ∀ p ∈ ps, p.length ≤ 5) (hkd : KdA F) (hF : F.length ≤ 36) (hk : QOk ps F) :
    DecOk (encI ps F) ∧ adPs (xIdx (encI ps F)).1 = ps ∧ KdA (xIdx (encI ps F)).2.1 ∧ ∀ q, lkA (xIdx (encI ps F)).2.1 q = lkA F q := by
  obtain ⟨G, h1, h2, h3⟩ := xIdx_enc ps F hnd (by omega) (fun p hp' => by have := hp p hp'; omega) hkd (by omega) (fun q p hq => by
    obtain ⟨a, b, c, d⟩ := hk q p hq
    exact ⟨a, b, c, d⟩)
  unfold DecOk
  rw [h1]
  refine ⟨⟨rfl, ?_⟩, adPs_nodup hnd, h2, h3⟩
  show encI (adPs ps) G = encI ps F
  rw [adPs_nodup hnd]
  exact encI_ext h2 hkd h3
theorem II.of {w w' : World} {x y : Nat} {K H : Nat → Prop} {px py : List (List UInt8)} {Fx Fy : As Pl} (hx : IX w x K px Fx) (hb : Below w.heap.size w w') (hy : IX w' y (fun k => k < w.heap.size) py Fy) (hH : ∀ k, H k → K k) : II w' x y H px Fx py Fy := by
  refine ⟨_, _, hx.all hb, hy, fun k hk => ?_, fun k hk => ⟨.inl (hH k hk), hx.Kb k (hH k hk)⟩⟩
  rcases Nat.lt_or_ge k w.heap.size with h | h
  · exact .inr h
  · exact .inl (.inr ⟨h, hk⟩)
set_option maxRecDepth 100000 in
set_option maxHeartbeats 4000000 in
theorem lawIndexBack_walk (a0 : Option Addr) (n0 c0 : Nat) (l0 : List Hd) (a1 : Option Addr) (n1 c1 : Nat) (l1 : List Hd) (w : World) (h0 : IsHds w a0 n0 c0 l0) (h1 : IsHds w a1 n1 c1 l1) :
    Calls Try.prog 5 #[.slice a0 n0 c0, .slice a1 n1 c1] w fun e w' => e = .returned (.bool true) ∧ Below w.heap.size w w' := by
  obtain ⟨-, -, hf0, hv0⟩ := h0
  obtain ⟨-, -, hf1, hv1⟩ := h1
  have hzi := zeroIx
  have HF0 : Hid (∀ x ∈ l0, x.fits) := hf0
  have HF1 : Hid (∀ x ∈ l1, x.fits) := hf1
  have HOK0 : Hid (∀ h ∈ fewL l0, h.ok ∧ h.n.length = 64) := few_ok hf0
  have HOK1 : Hid (∀ h ∈ fewL l1, h.ok ∧ h.n.length = 64) := few_ok hf1
  obtain ⟨W1, hW1⟩ : ∃ W1, W1 = w.alloc (.cells #[.map none, .map none] 27) := ⟨_, rfl⟩
  have HI1 : Hid (IX W1 w.heap.size (fun k => k < w.heap.size) [] []) := by unfold Hid; rw [hW1]; exact IX.zero w
  have hb1 : Below w.heap.size w W1 := by rw [hW1]; exact (Below.refl _ w).alloc (Nat.le_refl _) _
  have HV0 : Hid (HV w (fun k => k < w.heap.size) (.slice a0 n0 c0) l0) := hv0
  have HV1 : Hid (HV w (fun k => k < w.heap.size) (.slice a1 n1 c1) l1) := hv1
  have HFEW : Hid (∀ v l W, HV w (fun k => k < w.heap.size) v l → Keeps (fun k => k < w.heap.size) w W → Calls Try.prog 18 #[v] W fun e w' => ∃ a' c', e = .returned (.slice a' (fewL l).length c') ∧ HO w' W.heap.size (.slice a' (fewL l).length c') (fewL l) ∧ Below W.heap.size W w') := fun v l W hv hk =>
    few17_any v l W (hv.kept hk (fun k (hk' : k < w.heap.size) => Nat.lt_of_lt_of_le hk' hk.size))
  have HK1 : Hid (Keeps (fun k => k < w.heap.size) w W1) := Keeps.of_below hb1 (fun k hk => hk)
  have hfl := few_len l0
  have hfl1 := few_len l1
  clear hf0 hf1 hv0 hv1 hb1
  go_enter Try.func5, Try.ntmps5
  go_wp2_with fail
  rw [← hW1]
  clear hW1
  refine (HFEW.out _ _ W1 HV0.out HK1.out).mono ?_
  rintro e w2 ⟨fa, fc, rfl, hO2, hb2⟩
  have HK2 : Hid (Keeps (fun k => k < w.heap.size) w w2) := HK1.out.trans (Keeps.of_below hb2 (fun k hk => Nat.lt_of_lt_of_le hk HK1.out.size))
  have HI2 : Hid (IX w2 w.heap.size (fun k => k < w.heap.size ∨ (W1.heap.size ≤ k ∧ k < w2.heap.size)) [] []) := HI1.out.all hb2
  have HVf : Hid (HV w2 (fun k => k < w.heap.size ∨ (W1.heap.size ≤ k ∧ k < w2.heap.size)) (.slice fa (fewL l0).length fc) (fewL l0)) := HO.hv hO2 (fun k hk => .inr (World.ownsRow.lt hO2 k hk))
  clear hO2 hb2 HI1 HK1
  go_wp2_with fail
  refine (add_any one _ (fewL l0) w2 HI2.out HVf.out (by decide) (fun y hy => by have := (HOK0.out y hy).2; omega) (by decide) (by simp; omega)).mono ?_
  rintro e w3 ⟨rfl, hI3, hk3⟩
  have HI3 : Hid (IX w3 w.heap.size (fun k => k < w.heap.size) (adP [] one) (adH one [] (fewL l0))) := hI3.kept (fun k hk _ => rfl) (fun k hk => ⟨by have := hk3.size; have := HK2.out.size; omega, .inl (.inl hk)⟩)
  have HK3 : Hid (Keeps (fun k => k < w.heap.size) w w3) := HK2.out.trans (hk3.mono (fun k hk => .inl hk))
  have HQ3 : Hid (QOk (adP [] one) (adH one [] (fewL l0))) := (QOk.nil []).add one HF0.out
  have HL3 : Hid ((adH one [] (fewL l0)).length ≤ 12) := by have := adH_len one [] (fewL l0); simp at this; unfold Hid; omega
  clear hI3 hk3 HI2 HK2 HVf
  go_wp2_with fail
  refine (HFEW.out _ _ w3 HV1.out HK3.out).mono ?_
  rintro e w4 ⟨ga, gc, rfl, hO4, hb4⟩
  have HK4 : Hid (Keeps (fun k => k < w.heap.size) w w4) := HK3.out.trans (Keeps.of_below hb4 (fun k hk => Nat.lt_of_lt_of_le hk HK3.out.size))
  have HI4 : Hid (IX w4 w.heap.size (fun k => k < w.heap.size ∨ (w3.heap.size ≤ k ∧ k < w4.heap.size)) (adP [] one) (adH one [] (fewL l0))) := HI3.out.all hb4
  have HVg : Hid (HV w4 (fun k => k < w.heap.size ∨ (w3.heap.size ≤ k ∧ k < w4.heap.size)) (.slice ga (fewL l1).length gc) (fewL l1)) := HO.hv hO4 (fun k hk => .inr (World.ownsRow.lt hO4 k hk))
  clear hO4 hb4 HI3 HK3
  go_wp2_with fail
  refine (add_any two _ (fewL l1) w4 HI4.out HVg.out (by decide) (fun y hy => by have := (HOK1.out y hy).2; omega) (by decide) (by have := HL3.out; omega)).mono ?_
  rintro e w5 ⟨rfl, hI5, hk5⟩
  have HQ5 : Hid (QOk (adP (adP [] one) two) (adH two (adH one [] (fewL l0)) (fewL l1))) := HQ3.out.add two HF1.out
  have HL5 : Hid ((adH two (adH one [] (fewL l0)) (fewL l1)).length ≤ 24) := by have := adH_len two (adH one [] (fewL l0)) (fewL l1); have := HL3.out; unfold Hid; omega
  have HPS : Hid (adP (adP [] one) two = [one, two]) := by unfold Hid; decide
  rw [HPS.out] at hI5
  unfold Hid at HQ5
  rw [HPS.out] at HQ5
  have HI5 : Hid (IX w5 w.heap.size (fun k => k < w.heap.size) [one, two] (adH two (adH one [] (fewL l0)) (fewL l1))) := hI5.kept (fun k hk _ => rfl) (fun k hk => ⟨by have := hk5.size; have := HK4.out.size; omega, .inl (.inl hk)⟩)
  have HK5 : Hid (Keeps (fun k => k < w.heap.size) w w5) := HK4.out.trans (hk5.mono (fun k hk => .inl hk))
  have HQ6 : Hid (QOk [one, two] (adH two (adH one [] (fewL l0)) (fewL l1))) := HQ5
  clear hI5 hk5 HI4 HK4 HVg HQ3 HL3 HQ5 HPS
  generalize adH two (adH one [] (fewL l0)) (fewL l1) = F at *
  have hp5 : ∀ p ∈ [one, two], p.length ≤ 5 := by decide
  have hnd5 : [one, two].Nodup := by decide
  have HPO : Hid (POk F) := HQ6.out.pok hp5
  obtain ⟨q1, q2, q3, q4⟩ := dec_enc hnd5 (by decide) hp5 HI5.out.kd.1 (by have := HL5.out; omega) HQ6.out
  have HE9 : Hid ((encI [one, two] F).length ≤ 9000) := encI_small hp5 (by decide) (by have := HL5.out; omega) HPO.out
  obtain ⟨G, hG⟩ : ∃ G, G = (xIdx (encI [one, two] F)).2.1 := ⟨_, rfl⟩
  have HDG : Hid (∀ W : World, Calls Try.prog 16 #[.string (mkB (encI [one, two] F))] W fun e w' => ∃ y, e = .returned (.tuple #[.pointer (some ⟨y, 0, none⟩), .int .i64 0]) ∧ IX w' y (fun k => k < W.heap.size) [one, two] G ∧ W.heap.size ≤ y ∧ Below W.heap.size W w') := fun W => by
    have h9 := decode_good _ W HE9.out q1
    rw [q2, ← hG] at h9
    exact h9
  have HLK : Hid (∀ q, lkA G q = lkA F q) := by unfold Hid; rw [hG]; exact q4
  have hkG : KdA G := by rw [hG]; exact q3
  have HEQ : Hid (encI [one, two] G = encI [one, two] F) := encI_ext hkG HI5.out.kd.1 HLK.out
  have HQG : Hid (QOk [one, two] G) := fun q p hp => HQ6.out q p ((HLK.out q).symm.trans hp)
  have HGL : Hid (G.length = F.length) := by
    have e1 : nmA G = nmA F := nmA_ext hkG HI5.out.kd.1 (fun q => by rw [HLK.out q])
    unfold Hid; rw [← nmA_len G, ← nmA_len F, e1]
  clear q1 q2 q3 q4 hG hkG
  go_wp2_with fail
  obtain ⟨m1, m2, hX⟩ := HI5.out.o
  refine (encP_any w5 hX hnd5 hp5 (by decide) (by have := HL5.out; omega) HPO.out).mono ?_
  rintro e w6 ⟨rfl, hb6⟩
  have HI6 : Hid (IX w6 w.heap.size (fun k => k < w.heap.size) [one, two] F) := HI5.out.below hb6
  have HK6 : Hid (Keeps (fun k => k < w.heap.size) w w6) := HK5.out.trans (Keeps.of_below hb6 (fun k hk => Nat.lt_of_lt_of_le hk HK5.out.size))
  clear hX hb6 HI5 HK5
  go_wp2_with fail
  refine (HDG.out w6).mono ?_
  rintro e w7 ⟨y, rfl, hIy, hy, hb7⟩
  have HII7 : Hid (II w7 w.heap.size y (fun k => k < w.heap.size) [one, two] F [one, two] G) := II.of HI6.out hb7 hIy (fun k hk => hk)
  have HK7 : Hid (Keeps (fun k => k < w.heap.size) w w7) := HK6.out.trans (Keeps.of_below hb7 (fun k hk => Nat.lt_of_lt_of_le hk HK6.out.size))
  clear hIy hy hb7 HI6 HK6 HDG
  have hGl : G.length ≤ 24 := by rw [HGL.out]; exact HL5.out
  have hFl : F.length ≤ 24 := HL5.out
  have HPG : Hid (POk G) := HQG.out.pok hp5
  have HP5 : Hid (∀ p ∈ [one, two], p.length ≤ 5) := hp5
  have HN5 : Hid ([one, two].Nodup) := hnd5
  clear hp5 hnd5
  go_wp2_with fail
  obtain ⟨m3, m4, hY⟩ := HII7.out.oy
  refine (encP_any w7 hY HN5.out HP5.out (by decide) (by omega) HPG.out).mono ?_
  rw [HEQ.out]
  rintro e w8 ⟨rfl, hb8⟩
  have HII8 : Hid (II w8 w.heap.size y (fun k => k < w.heap.size) [one, two] F [one, two] G) := (HII7.out.below hb8).less (fun k hk => .inl hk)
  have HK8 : Hid (Keeps (fun k => k < w.heap.size) w w8) := HK7.out.trans (Keeps.of_below hb8 (fun k hk => Nat.lt_of_lt_of_le hk HK7.out.size))
  clear hY hb8 HII7 HK7
  go_wp2_with fail
  obtain ⟨m5, m6, hX8⟩ := HII8.out.ox
  refine (encP_any w8 hX8 HN5.out HP5.out (by decide) (by omega) HPO.out).mono ?_
  rintro e w9 ⟨rfl, hb9⟩
  have HII9 : Hid (II w9 w.heap.size y (fun k => k < w.heap.size) [one, two] F [one, two] G) := (HII8.out.below hb9).less (fun k hk => .inl hk)
  have HK9 : Hid (Keeps (fun k => k < w.heap.size) w w9) := HK8.out.trans (Keeps.of_below hb9 (fun k hk => Nat.lt_of_lt_of_le hk HK8.out.size))
  clear hX8 hb9 HII8 HK8
  go_wp2_with fail
  refine (HFEW.out _ _ w9 HV0.out HK9.out).mono ?_
  rintro e w10 ⟨ka, kc, rfl, hO10, hb10⟩
  have HK10 : Hid (Keeps (fun k => k < w.heap.size) w w10) := HK9.out.trans (Keeps.of_below hb10 (fun k hk => Nat.lt_of_lt_of_le hk HK9.out.size))
  have HII10 : Hid (II w10 w.heap.size y (fun k => k < w.heap.size ∨ (w9.heap.size ≤ k ∧ k < w10.heap.size)) [one, two] F [one, two] G) := HII9.out.below hb10
  have HV10 : Hid (HV w10 (fun k => k < w.heap.size ∨ (w9.heap.size ≤ k ∧ k < w10.heap.size)) (.slice ka (fewL l0).length kc) (fewL l0)) := HO.hv hO10 (fun k hk => .inr (World.ownsRow.lt hO10 k hk))
  clear hO10 hb10 HII9 HK9
  go_wp2_with fail
  refine (HII10.out.add three _ (fewL l0) HV10.out (by decide) (fun y hy => by have := (HOK0.out y hy).2; omega) (by decide) (by omega)).mono ?_
  rintro e w11 ⟨rfl, hI11, hk11⟩
  have HII11 : Hid (II w11 w.heap.size y (fun k => k < w.heap.size) (adP [one, two] three) (adH three F (fewL l0)) [one, two] G) := hI11.less (fun k hk => .inl hk)
  have HK11 : Hid (Keeps (fun k => k < w.heap.size) w w11) := HK10.out.trans (hk11.mono (fun k hk => .inl hk))
  clear hI11 hk11 HII10 HK10 HV10
  go_wp2_with fail
  refine (HFEW.out _ _ w11 HV0.out HK11.out).mono ?_
  rintro e w12 ⟨ja, jc, rfl, hO12, hb12⟩
  have HK12 : Hid (Keeps (fun k => k < w.heap.size) w w12) := HK11.out.trans (Keeps.of_below hb12 (fun k hk => Nat.lt_of_lt_of_le hk HK11.out.size))
  have HII12 : Hid (II w12 w.heap.size y (fun k => k < w.heap.size ∨ (w11.heap.size ≤ k ∧ k < w12.heap.size)) (adP [one, two] three) (adH three F (fewL l0)) [one, two] G) := HII11.out.below hb12
  have HV12 : Hid (HV w12 (fun k => k < w.heap.size ∨ (w11.heap.size ≤ k ∧ k < w12.heap.size)) (.slice ja (fewL l0).length jc) (fewL l0)) := HO.hv hO12 (fun k hk => .inr (World.ownsRow.lt hO12 k hk))
  clear hO12 hb12 HII11 HK11
  go_wp2_with fail
  refine (HII12.out.symm.add three _ (fewL l0) HV12.out (by decide) (fun y hy => by have := (HOK0.out y hy).2; omega) (by decide) (by omega)).mono ?_
  rintro e w13 ⟨rfl, hI13, hk13⟩
  have HII13 : Hid (II w13 w.heap.size y (fun k => k < w.heap.size) (adP [one, two] three) (adH three F (fewL l0)) (adP [one, two] three) (adH three G (fewL l0))) := hI13.symm.less (fun k hk => .inl hk)
  have HK13 : Hid (Keeps (fun k => k < w.heap.size) w w13) := HK12.out.trans (hk13.mono (fun k hk => .inl hk))
  clear hI13 hk13 HII12 HK12 HV12
  have HP3 : Hid (adP [one, two] three = [one, two, three]) := by unfold Hid; decide
  unfold Hid at HII13
  rw [HP3.out] at HII13
  have HII14 : Hid (II w13 w.heap.size y (fun k => k < w.heap.size) [one, two, three] (adH three F (fewL l0)) [one, two, three] (adH three G (fewL l0))) := HII13
  have hP3 : ∀ p ∈ [one, two, three], p.length ≤ 5 := by decide
  have hN3 : [one, two, three].Nodup := by decide
  have HP9 : Hid (∀ p ∈ [one, two, three], p.length ≤ 5) := hP3
  have HN9 : Hid ([one, two, three].Nodup) := hN3
  have HPF : Hid (POk (adH three F (fewL l0))) := HPO.out.add (by decide) HOK0.out
  have HPGG : Hid (POk (adH three G (fewL l0))) := HPG.out.add (by decide) HOK0.out
  have HLF : Hid ((adH three F (fewL l0)).length ≤ 36) := by have := adH_len three F (fewL l0); unfold Hid; omega
  have HLG : Hid ((adH three G (fewL l0)).length ≤ 36) := by have := adH_len three G (fewL l0); unfold Hid; omega
  have HEQ3 : Hid (encI [one, two, three] (adH three G (fewL l0)) = encI [one, two, three] (adH three F (fewL l0))) := encI_ext HII14.out.kdy.1 HII14.out.kdx.1 (fun q => by rw [adH_lk, adH_lk, HLK.out q])
  have HNML : Hid ((nmA (adH three G (fewL l0))).length = (nmA (adH three F (fewL l0))).length) := by
    unfold Hid
    rw [nmA_ext HII14.out.kdy.1 HII14.out.kdx.1 (fun q => by rw [adH_lk, adH_lk, HLK.out q])]
  generalize adH three G (fewL l0) = G3 at *
  generalize adH three F (fewL l0) = F3 at *
  clear HII13 HP3 hP3 hN3
  go_wp2_with fail
  refine (awake17_any _).mono ?_
  rintro e w14 ⟨rfl, hb14⟩
  have HII15 : Hid (II w14 w.heap.size y (fun k => k < w.heap.size) [one, two, three] F3 [one, two, three] G3) := (HII14.out.below hb14).less (fun k hk => .inl hk)
  have HK15 : Hid (Keeps (fun k => k < w.heap.size) w w14) := HK13.out.trans (Keeps.of_below hb14 (fun k hk => Nat.lt_of_lt_of_le hk HK13.out.size))
  clear hb14 HII14 HK13
  go_wp2_with fail
  obtain ⟨m7, m8, hX⟩ := HII15.out.ox
  refine (encP_any w14 hX HN9.out HP9.out (by decide) (by have := HLF.out; omega) HPF.out).mono ?_
  rintro e w15 ⟨rfl, hb15⟩
  have HII16 : Hid (II w15 w.heap.size y (fun k => k < w.heap.size) [one, two, three] F3 [one, two, three] G3) := (HII15.out.below hb15).less (fun k hk => .inl hk)
  have HK16 : Hid (Keeps (fun k => k < w.heap.size) w w15) := HK15.out.trans (Keeps.of_below hb15 (fun k hk => Nat.lt_of_lt_of_le hk HK15.out.size))
  clear hb15 HII15 HK15 hX
  go_wp2_with fail
  obtain ⟨m9, m10, hY⟩ := HII16.out.oy
  refine (encP_any w15 hY HN9.out HP9.out (by decide) (by have := HLG.out; omega) HPGG.out).mono ?_
  rw [HEQ3.out]
  rintro e w16 ⟨rfl, hb16⟩
  have HII17 : Hid (II w16 w.heap.size y (fun k => k < w.heap.size) [one, two, three] F3 [one, two, three] G3) := (HII16.out.below hb16).less (fun k hk => .inl hk)
  have HK17 : Hid (Keeps (fun k => k < w.heap.size) w w16) := HK16.out.trans (Keeps.of_below hb16 (fun k hk => Nat.lt_of_lt_of_le hk HK16.out.size))
  clear hb16 HII16 HK16 hY
  go_wp2_with fail
  obtain ⟨m11, m12, hY2⟩ := HII17.out.oy
  refine (packs_any w16 hY2 HN9.out (by decide)).mono ?_
  rintro e w17 ⟨rfl, -, hb17⟩
  have HII18 : Hid (II w17 w.heap.size y (fun k => k < w.heap.size) [one, two, three] F3 [one, two, three] G3) := (HII17.out.below hb17).less (fun k hk => .inl hk)
  have HK18 : Hid (Keeps (fun k => k < w.heap.size) w w17) := HK17.out.trans (Keeps.of_below hb17 (fun k hk => Nat.lt_of_lt_of_le hk HK17.out.size))
  clear hb17 HII17 HK17 hY2
  change Hid _ at HII18
  rw [show ([one, two, three] : List (List UInt8)).length = 3 from rfl]
  go_wp2_with fail
  obtain ⟨m13, m14, hY3⟩ := HII18.out.oy
  refine (names_any w17 hY3 (by have := HLG.out; omega)).mono ?_
  rintro e w18 ⟨v18, rfl, hO18, hb18⟩
  obtain ⟨a18, c18, rfl⟩ := OT.shape hO18
  have HII19 : Hid (II w18 w.heap.size y (fun k => k < w.heap.size) [one, two, three] F3 [one, two, three] G3) := (HII18.out.below hb18).less (fun k hk => .inl hk)
  have HK19 : Hid (Keeps (fun k => k < w.heap.size) w w18) := HK18.out.trans (Keeps.of_below hb18 (fun k hk => Nat.lt_of_lt_of_le hk HK18.out.size))
  clear hb18 HII18 HK18 hY3 hO18
  go_wp2_with fail
  obtain ⟨m15, m16, hX3⟩ := HII19.out.ox
  refine (names_any w18 hX3 (by have := HLF.out; omega)).mono ?_
  rintro e w19 ⟨v19, rfl, hO19, hb19⟩
  obtain ⟨a19, c19, rfl⟩ := OT.shape hO19
  have HB20 : Hid (Below w.heap.size w w19) := (Keeps.trans HK19.out (Keeps.of_below hb19 (fun k hk => Nat.lt_of_lt_of_le hk HK19.out.size))).below
  clear hb19 HII19 HK19 hX3 hO19
  rw [HNML.out]
  go_wp2
  go_ret
  exact ⟨by simp, HB20.out⟩
end Go.Proofs.Ytfhlipbgloaflaa
