/- Contract: a disk's Crash. -/
import Derived.Test.YtmjfcneofpddiaaDoorQDskK
namespace Go.Proofs.YtmjfcneofpddiaaDoor
open Go.RowKit Go.Maps
set_option linter.unusedVariables false
set_option linter.unusedSimpArgs false

section
variable {w w' : World} {d : Nat} {K K' : Nat → Prop} {room : Int} {bn : Nat} {x2 sv : Value} {left : Int} {dead : Bool} {F : Fo} {l : List Stp} {fl : Nat → List UInt8 × Nat} {gs : List Nat} {fv : Nat → Value}
/-- The disk's folder now becomes the one that is safe. -/
theorem DKc.crash {S : DS} {bs : Nat} (h : DKc w d S K bn bs sv gs fv) : DKm (w.setCell ⟨d, 1, none⟩ (.map (some bs))) d K S.room bs (.map (some bs)) sv S.left S.dead S.sure S.steps S.fl gs fv := by
  obtain ⟨n1, n2, n3, n4⟩ := h.ne_d
  refine ⟨fun k hk => by simp [World.setCell]; exact h.Kb k hk, h.kd, h.ks, h.kst, (setc h.cell).trans rfl, h.sure.kept (setc_o n2), own_kept h.steps (fun r hr => setc_o (n3 r hr)), fun g hg => (h.file g hg).kept (setc_o (n4 g hg).1) (fun r hr => setc_o ((n4 g hg).2 r hr)), h.apart, h.inS, h.inT⟩
/-- Others hold more. -/
theorem DKm.hold (h : DKm w d K room bn x2 sv left dead F l fl gs fv) (hK : ∀ k, K' k → k < w.heap.size ∧ (K k ∨ (k ≠ d ∧ k ≠ bn ∧ (∀ r, sv.ownBlock = some r → k ≠ r) ∧ ∀ g ∈ gs, k ≠ g ∧ ∀ r, (fv g).ownBlock = some r → k ≠ r))) : DKm w d K' room bn x2 sv left dead F l fl gs fv := by
  refine ⟨fun k hk => (hK k hk).1, fun hk => ?_, fun hk => ?_, fun r hr hk => ?_, h.cell, h.now, h.steps, fun g hg => ?_, h.apart, h.inN, h.inT⟩
  · rcases (hK d hk).2 with h1 | h1; exact h.kd h1; exact h1.1 rfl
  · rcases (hK bn hk).2 with h1 | h1; exact h.kn h1; exact h1.2.1 rfl
  · rcases (hK r hk).2 with h1 | h1; exact h.kst r hr h1; exact h1.2.2.1 r hr rfl
  · have f := h.file g hg
    refine ⟨fun hk => ?_, fun r hr hk => ?_, f.cell, f.row, f.safe, f.big⟩
    · rcases (hK g hk).2 with h1 | h1; exact f.kg h1; exact (h1.2.2.2 g hg).1 rfl
    · rcases (hK r hk).2 with h1 | h1; exact f.kr r hr h1; exact (h1.2.2.2 g hg).2 r hr rfl
/-- .. blocks that are new since. -/
theorem DKm.holdNew (h : DKm w d K room bn x2 sv left dead F l fl gs fv) (hb : Below w.heap.size w w') (hK : ∀ k, K' k → k < w'.heap.size ∧ (K k ∨ w.heap.size ≤ k)) : DKm w' d K' room bn x2 sv left dead F l fl gs fv := by
  refine (h.below hb).hold (fun k hk => ⟨(hK k hk).1, ?_⟩)
  rcases (hK k hk).2 with h1 | h1
  · exact .inl h1
  · refine .inr ⟨?_, ?_, fun r hr => ?_, fun g hg => ⟨?_, fun r hr => ?_⟩⟩
    · have := (Array.getElem?_eq_some_iff.1 h.cell).1; omega
    · have := h.now.lt; omega
    · have := (own_lt h.steps hr).1; omega
    · have := (h.file g hg).lt; omega
    · have := (own_lt (h.file g hg).row hr).1; omega
theorem DKm.drewN (h : DKm w d K room bn x2 sv left dead F l fl gs fv) (n : Nat) : DKm (w.drewN n) d K room bn x2 sv left dead F l fl gs fv :=
  ⟨h.Kb, h.kd, h.kn, h.kst, h.cell, h.now.kept rfl, own_kept h.steps (fun r hr => rfl), fun g hg => (h.file g hg).kept rfl (fun r hr => rfl), h.apart, h.inN, h.inT⟩
/-- .. fewer. -/
theorem DKm.less (h : DKm w d K room bn x2 sv left dead F l fl gs fv) (hK : ∀ k, K' k → K k) : DKm w d K' room bn x2 sv left dead F l fl gs fv :=
  h.hold (fun k hk => ⟨h.Kb k (hK k hk), .inl (hK k hk)⟩)
end
theorem crF_drop (ks : List Int) (l : List Stp) (k : Nat) (F : Fo) (hk : k < l.length) : crF ks k (l.drop k) F = crF ks (k + 1) (l.drop (k + 1)) (if (kpN ks k).tmod 2 = 0 then F else doF F (l.getD k default)) := by
  rw [List.drop_eq_getElem_cons hk, crF, List.getD_eq_getElem?_getD, List.getElem?_eq_getElem hk]; rfl
theorem crC_drop (ks : List Int) (F : Fo) (N : Nat) (l : List (List UInt8)) (k : Nat) (fl : Nat → List UInt8 × Nat) (g : Nat) (hk : k < l.length) (hg : lk F (l.getD k []) = some g) : crC ks F (N + k) (l.drop k) fl = crC ks F (N + (k + 1)) (l.drop (k + 1)) (updF fl g (cutF (fl g) (kpN ks (N + k)))) := by
  rw [List.getD_eq_getElem?_getD, List.getElem?_eq_getElem hk] at hg
  rw [List.drop_eq_getElem_cons hk, crC]
  have hg' : lk F l[k] = some g := hg
  rw [hg']
  rfl
theorem stC_at (l : List Stp) (k : Nat) (hk : k < l.length) : (stC l)[k * 4]? = some (.int .i64 (l.getD k default).what) ∧ (stC l)[k * 4 + 1]? = some (.pointer (some ⟨(l.getD k default).g, 0, none⟩)) ∧ (stC l)[k * 4 + 2]? = some (.string (mkT (l.getD k default).nm)) ∧ (stC l)[k * 4 + 3]? = some (.string (mkT (l.getD k default).to)) := by
  induction l generalizing k with
  | nil => simp at hk
  | cons a l ih =>
    have e : stC (a :: l) = [.int .i64 a.what, .pointer (some ⟨a.g, 0, none⟩), .string (mkT a.nm), .string (mkT a.to)] ++ stC l := by simp [stC]
    cases k with
    | zero => rw [e]; exact ⟨rfl, rfl, rfl, rfl⟩
    | succ k =>
      obtain ⟨h1, h2, h3, h4⟩ := ih k (by simpa using hk)
      have eo : ∀ j, ([.int .i64 a.what, .pointer (some ⟨a.g, 0, none⟩), .string (mkT a.nm), .string (mkT a.to)] ++ stC l)[(k + 1) * 4 + j]? = (stC l)[k * 4 + j]? := fun j => by
        rw [List.getElem?_append_right (by simp; omega)]
        congr 1
        simp; omega
      rw [e]
      refine ⟨(eo 0).trans h1, (eo 1).trans h2, (eo 2).trans h3, (eo 3).trans h4⟩
theorem nms_mem (F : Fo) (x : List UInt8) : x ∈ nms F ↔ x ∈ F.map (·.1) := by unfold nms; rw [List.mem_mergeSort]
theorem nms_len (F : Fo) : (nms F).length = F.length := by unfold nms; rw [List.length_mergeSort, List.length_map]
set_option maxRecDepth 100000 in
set_option maxHeartbeats 4000000 in
theorem crash_any {d : Nat} {S : DS} {K : Nat → Prop} {gs : List Nat} (ks : List Int) (v : Value) (w : World) (h : DK w d S K gs) (hv : KSl w v ks) (hvK : 0 < ks.length → ∀ r, v.ownBlock = some r → K r) (hl : S.sure.length + S.steps.length ≤ 1000000) :
    Calls Tryd.prog 21 #[.pointer (some ⟨d, 0, none⟩), v] w fun e w' => e = .returned (.tuple #[]) ∧ DK w' d (crS S ks) K gs ∧ Keeps K w w' := by
  obtain ⟨bn, bs, sv, fv, hc⟩ := h
  obtain ⟨va, vc, rfl, hv1, hv2, _⟩ := id hv
  have hB : Below w.heap.size w (w.alloc (.cells #[.slice va ks.length vc] 42)) := (Below.refl _ _).alloc (Nat.le_refl _) _
  have hc1 : DKc (w.alloc (.cells #[.slice va ks.length vc] 42)) d S (fun k => K k ∨ k = w.heap.size) bn bs sv gs fv := hc.kept (fun k hk _ => hB.block k hk) (fun k hk => by
    rcases hk with hk | hk
    · exact ⟨Nat.lt_of_lt_of_le (hc.Kb k hk) hB.size, .inl hk⟩
    · subst hk; exact ⟨by simp, .inr (Nat.le_refl _)⟩)
  have hbx : (w.alloc (.cells #[.slice va ks.length vc] 42)).heap[w.heap.size]? = some (.cells #[.slice va ks.length vc] 42 (0, 0)) := heap_alloc_new _ _
  have hv3 : KSl (w.alloc (.cells #[.slice va ks.length vc] 42)) (.slice va ks.length vc) ks := hv.below hB
  have HK1 : Hid (Keeps K w (w.alloc (.cells #[.slice va ks.length vc] 42))) := Keeps.of_below hB hc.Kb
  obtain ⟨hr0, hr1, hlf0, hlf1⟩ : 0 ≤ S.room ∧ S.room ≤ 1073741824 ∧ -9223372036854775808 ≤ S.left ∧ S.left ≤ 9223372036854775807 := ⟨hc.room0, hc.room1, hc.left0, hc.left1⟩
  clear hc hB hv
  generalize hw1 : w.alloc (.cells #[.slice va ks.length vc] 42) = w1 at *
  generalize hbxe : w.heap.size = bx at *
  obtain ⟨c0, c1, c2, c3, c4, c5⟩ := hc1.cells
  have f1 : w1.frozen? ⟨d, 1, none⟩ = false := by have := hc1.cell; simp [World.frozen?, this]
  obtain ⟨sa, sc, rfl, hsc⟩ := own_form hc1.steps
  have hstl : S.steps.length ≤ 1000000 := by omega
  have HM2 : Hid (DKm (w1.setCell ⟨d, 1, none⟩ (.map (some bs))) d (fun k => K k ∨ k = bx) S.room bs (.map (some bs)) (.slice sa S.steps.length sc) S.left S.dead S.sure S.steps S.fl gs fv) := hc1.crash
  have HKB2 : Hid (Keeps (fun k => K k ∨ k = bx) w1 (w1.setCell ⟨d, 1, none⟩ (.map (some bs)))) := (Keeps.refl _ _).setCell hc1.kd _
  have hd3 : (w1.setCell ⟨d, 1, none⟩ (.map (some bs))).cell? ⟨d, 3, none⟩ = some (.slice sa S.steps.length sc) := HM2.out.cells.2.2.2.1
  have HV : Hid (KSl w1 (.slice va ks.length vc) ks) := hv3
  have HBX : Hid (w1.heap[bx]? = some (.cells #[.slice va ks.length vc] 42 (0, 0))) := hbx
  have HVK : Hid (0 < ks.length → ∀ r, (Value.slice va ks.length vc).ownBlock = some r → K r) := hvK
  have HS : Hid (crS S ks = ⟨S.room, crF ks 0 S.steps S.sure, crF ks 0 S.steps S.sure, [], -1, false, crC ks (crF ks 0 S.steps S.sure) S.steps.length (nms (crF ks 0 S.steps S.sure)) S.fl⟩) := rfl
  clear hc1 hbx hv3 hvK c0 c4 c5 hd3
  go_enter Tryd.func21, Tryd.ntmps21
  go_wp2
  clear hw1 hbxe
  go_loopw [22] (fun u wr => ∃ (k : Nat) (F : Fo), u = .int .i64 (k : Int) ∧ k ≤ S.steps.length ∧ DKm wr d (fun k => K k ∨ k = bx) S.room bs (.map (some bs)) (.slice sa S.steps.length sc) S.left S.dead F S.steps S.fl gs fv ∧ crF ks k (S.steps.drop k) F = crF ks 0 S.steps S.sure ∧ F.length ≤ S.sure.length + k ∧ Keeps (fun k => K k ∨ k = bx) w1 wr) (fun u _ => S.steps.length - (intOf u).toNat)
  case atStart => exact ⟨0, S.sure, rfl, Nat.zero_le _, HM2.out, rfl, by omega, HKB2.out⟩
  case round =>
    obtain ⟨k, F, rfl, hk, hM, hcr, hFl, hkp⟩ := hrel
    by_cases hlt : k < S.steps.length
    · have HM : Hid (DKm wr d (fun k => K k ∨ k = bx) S.room bs (.map (some bs)) (.slice sa S.steps.length sc) S.left S.dead F S.steps S.fl gs fv) := hM
      have HKP : Hid (Keeps (fun k => K k ∨ k = bx) w1 wr) := hkp
      have HCR : Hid (crF ks (k + 1) (S.steps.drop (k + 1)) (if (kpN ks k).tmod 2 = 0 then F else doF F (S.steps.getD k default)) = crF ks 0 S.steps S.sure) := by unfold Hid; rw [← crF_drop ks S.steps k F hlt]; exact hcr
      obtain ⟨sr, sc', hsl, _, hsr⟩ := hM.steps.form (by omega)
      obtain ⟨rfl, rfl⟩ : sa = some ⟨sr, 0, none⟩ ∧ sc = sc' := by injection hsl with e1 e2 e3; exact ⟨e1, e3⟩
      have hcs := hM.steps.cells (g := sr) rfl
      have hin := hM.inT (S.steps.getD k default) (by rw [List.getD_eq_getElem?_getD, List.getElem?_eq_getElem hlt]; exact List.getElem_mem _)
      obtain ⟨t0, t1, t2, t3⟩ := stC_at S.steps k hlt
      have s0 : wr.cell? ⟨sr, k * 4, none⟩ = some (.int .i64 (S.steps.getD k default).what) := by have := hcs _ _ t0; rw [Addr.add_mid, Nat.zero_add] at this; exact this
      have s1 : wr.cell? ⟨sr, k * 4 + 1, none⟩ = some (.pointer (some ⟨(S.steps.getD k default).g, 0, none⟩)) := by have := hcs _ _ t1; rw [Addr.add_mid, Nat.zero_add] at this; exact this
      have s2 : wr.cell? ⟨sr, k * 4 + 2, none⟩ = some (.string (mkT (S.steps.getD k default).nm)) := by have := hcs _ _ t2; rw [Addr.add_mid, Nat.zero_add] at this; exact this
      have s3 : wr.cell? ⟨sr, k * 4 + 3, none⟩ = some (.string (mkT (S.steps.getD k default).to)) := by have := hcs _ _ t3; rw [Addr.add_mid, Nat.zero_add] at this; exact this
      clear hcs t0 t1 t2 t3 hM hkp hcr hsl
      generalize S.steps.getD k default = st at *
      obtain ⟨what, g, nm, tz⟩ := st
      simp only at hin s0 s1 s2 s3
      obtain ⟨hig, hin1, hin2, hin3, hin4⟩ := hin
      have hki : (k : Int) < (S.steps.length : Int) := by omega
      have hk0 : (0 : Int) ≤ (k : Int) := by omega
      have hzs := zeroSt
      have hkr := kpN_range (ks := ks) HV.out.choose_spec.choose_spec.2.2.2.2 k
      obtain ⟨W2, hW2⟩ : ∃ W2, W2 = wr.alloc (.cells #[.int .i64 what, .pointer (some ⟨g, 0, none⟩), .string (mkT nm), .string (mkT tz)] 74) := ⟨_, rfl⟩
      have HB2 : Hid (Below wr.heap.size wr W2) := by rw [hW2]; exact (Below.refl _ _).alloc (Nat.le_refl _) _
      have HV2 : Hid (KSl W2 (.slice va ks.length vc) ks) := (HV.out.keeps HKP.out (fun h0 r hr => .inl (HVK.out h0 r hr))).below HB2.out
      have HBX2 : Hid (W2.cell? ⟨bx, 0, none⟩ = some (.slice va ks.length vc)) := by
        have h1 := (HKP.out.block bx (.inr rfl)).trans HBX.out
        have h2 := (HB2.out.block bx (Array.getElem?_eq_some_iff.1 h1).1).trans h1
        exact (cell_of_row _ _ _ _ _ _ h2).trans rfl
      have HNB : Hid (W2.heap[wr.heap.size]? = some (.cells #[.int .i64 what, .pointer (some ⟨g, 0, none⟩), .string (mkT nm), .string (mkT tz)] 74 (0, 0))) := by rw [hW2]; exact heap_alloc_new _ _
      have HNM := number_any ks (.slice va ks.length vc) bx k W2 HV2.out HBX2.out (by omega)
      have HNU : Hid (Calls _ _ _ _ _) := HNM
      clear HNM
      go_wp2_with fail
      rw [← hW2]
      refine HNU.out.mono ?_
      rintro e w3 ⟨rfl, n3, rfl⟩
      clear hW2 s0 s1 s2 s3 HNU
      have hns : wr.heap.size < W2.heap.size := (Array.getElem?_eq_some_iff.1 HNB.out).1
      have HMW : Hid (DKm W2 d (fun k => K k ∨ k = bx) S.room bs (.map (some bs)) (.slice (some ⟨sr, 0, none⟩) S.steps.length sc) S.left S.dead F S.steps S.fl gs fv) := HM.out.below HB2.out
      have HKW : Hid (Keeps (fun k => K k ∨ k = bx) w1 W2) := HKP.out.trans (Keeps.of_below HB2.out HM.out.Kb)
      generalize hz : kpN ks k = z at *
      clear hz
      by_cases hz0 : z.tmod 2 = 0
      · have hzb : (z.tmod 2 == 0) = true := by rw [beq_iff_eq]; exact hz0
        rw [if_pos hz0] at HCR
        clear hz0
        go_wp2
        go_roundw
        case rel => exact ⟨k + 1, F, by go_num, by omega, HMW.out.drewN n3, HCR.out, by omega, HKW.out.drewN n3⟩
        case measure => simp [intOf]; omega
      · have hzb : (z.tmod 2 == 0) = false := by rw [beq_eq_false_iff_ne]; exact hz0
        rw [if_neg hz0] at HCR
        clear hz0
        obtain ⟨_, d1, _, _, _, _⟩ := HMW.out.cells
        have hnb := HNB.out
        have b0 : W2.cell? ⟨wr.heap.size, 0, none⟩ = some (.int .i64 what) := (cell_of_row _ _ _ _ _ _ hnb).trans rfl
        have b1 : W2.cell? ⟨wr.heap.size, 1, none⟩ = some (.pointer (some ⟨g, 0, none⟩)) := (cell_of_row _ _ _ _ _ _ hnb).trans rfl
        have b2 : W2.cell? ⟨wr.heap.size, 2, none⟩ = some (.string (mkT nm)) := (cell_of_row _ _ _ _ _ _ hnb).trans rfl
        have b3 : W2.cell? ⟨wr.heap.size, 3, none⟩ = some (.string (mkT tz)) := (cell_of_row _ _ _ _ _ _ hnb).trans rfl
        have HT : Hid (∀ m, Calls Tryd.prog 35 #[.map (some bs), .agg #[.int .i64 what, .pointer (some ⟨g, 0, none⟩), .string (mkT nm), .string (mkT tz)]] (W2.drewN m) fun e w' => e = .returned (.tuple #[]) ∧ FM w' bs (doF F ⟨what, g, nm, tz⟩) ∧ (W2.drewN m).grownBy w' (some bs)) := fun m =>
          do_x F what g nm tz bs (W2.drewN m) (HMW.out.drewN m).now (fun p hp => ⟨_, (HMW.out.file _ (HMW.out.inN p hp).1).cell⟩) ⟨_, (HMW.out.file g hig).cell⟩ (by omega) hin1 hin2 hin3 hin4
        have HDN : Hid (d < W2.heap.size ∧ some d ≠ some bs ∧ some wr.heap.size ≠ some bs) := ⟨(Array.getElem?_eq_some_iff.1 HMW.out.cell).1, fun e => HMW.out.ne_n.1 (Option.some.inj e), fun e => by have := HM.out.now.lt; have := Option.some.inj e; omega⟩
        have HKE : Hid (∀ (m : Nat) (w4 : World), (W2.drewN m).grownBy w4 (some bs) → w4.cell? ⟨d, 1, none⟩ = some (.map (some bs)) ∧ w4.cell? ⟨wr.heap.size, 0, none⟩ = some (.int .i64 what) ∧ w4.cell? ⟨wr.heap.size, 1, none⟩ = some (.pointer (some ⟨g, 0, none⟩)) ∧ w4.cell? ⟨wr.heap.size, 2, none⟩ = some (.string (mkT nm)) ∧ w4.cell? ⟨wr.heap.size, 3, none⟩ = some (.string (mkT tz))) := fun m w4 hg => by
          have e1 : ∀ o, w4.cell? ⟨d, o, none⟩ = W2.cell? ⟨d, o, none⟩ := fun o => hg.cell_far ⟨d, o, none⟩ HDN.out.1 HDN.out.2.1
          have e2 : ∀ o, w4.cell? ⟨wr.heap.size, o, none⟩ = W2.cell? ⟨wr.heap.size, o, none⟩ := fun o => hg.cell_far ⟨wr.heap.size, o, none⟩ hns HDN.out.2.2
          exact ⟨(e1 1).trans d1, (e2 0).trans b0, (e2 1).trans b1, (e2 2).trans b2, (e2 3).trans b3⟩
        clear hnb
        go_wp2
        go_region_held3 (fun w' : World => w'.cell? ⟨d, 1, none⟩ = some (.map (some bs)) ∧ w'.cell? ⟨wr.heap.size, 0, none⟩ = some (.int .i64 what) ∧ w'.cell? ⟨wr.heap.size, 1, none⟩ = some (.pointer (some ⟨g, 0, none⟩)) ∧ w'.cell? ⟨wr.heap.size, 2, none⟩ = some (.string (mkT nm)) ∧ w'.cell? ⟨wr.heap.size, 3, none⟩ = some (.string (mkT tz))) (first | exact ⟨d1, b0, b1, b2, b3⟩ | exact HKE.out _ _ hg4) ((go_at_call 35; refine (HT.out _).mono ?_; rintro e w4 ⟨rfl, hf4, hg4⟩))
        have hg5 : W2.grownBy w4 (some bs) := ⟨hg4.os, hg4.tape, hg4.output, hg4.size, hg4.block⟩
        have HM5 : Hid (DKm w4 d (fun k => K k ∨ k = bx) S.room bs (.map (some bs)) (.slice (some ⟨sr, 0, none⟩) S.steps.length sc) S.left S.dead (doF F ⟨what, g, nm, tz⟩) S.steps S.fl gs fv) := HMW.out.setNow hf4 hg5 (fun p hp => by
          rcases doF_mem hp with h | ⟨h1, h2⟩
          · exact HMW.out.inN p h
          · refine ⟨by rw [h1]; exact hig, ?_⟩
            rcases h2 with h2 | h2 <;> rw [h2] <;> assumption)
        have HK5 : Hid (Keeps (fun k => K k ∨ k = bx) w1 w4) := HKW.out.grown hg5 HMW.out.Kb (fun k hk => by cases hk; exact HMW.out.kn)
        have hdl := doF_len F ⟨what, g, nm, tz⟩
        clear hg4 hg5 hf4 HT HKE d1 b0 b1 b2 b3
        go_wp2
        go_roundw
        case rel => exact ⟨k + 1, _, by go_num, by omega, HM5.out, HCR.out, by omega, HK5.out⟩
        case measure => simp [intOf]; omega
    · obtain rfl : k = S.steps.length := by omega
      rw [List.drop_length, crF] at hcr
      have HFE : Hid (F = crF ks 0 S.steps S.sure) := hcr
      have HM : Hid (DKm wr d (fun k => K k ∨ k = bx) S.room bs (.map (some bs)) (.slice sa S.steps.length sc) S.left S.dead F S.steps S.fl gs fv) := hM
      have HKP : Hid (Keeps (fun k => K k ∨ k = bx) w1 wr) := hkp
      obtain ⟨_, e1, _, e3, _, _⟩ := hM.cells
      have hFn : F.length ≤ 1000000 := by omega
      have HNA := names_any hM.now hFn
      have HNS : Hid (Calls _ _ _ _ _) := HNA
      clear hM hkp hcr HNA
      have hni : ¬ (S.steps.length : Int) < (S.steps.length : Int) := by omega
      go_wp2_with fail
      refine HNS.out.mono ?_
      rintro e w4 ⟨nv, rfl, hrow4, hb4⟩
      obtain ⟨na, nc, rfl, hnc⟩ := own_form hrow4
      have HROW : Hid (w4.ownsRow wr.heap.size 9 1 (.slice na F.length nc) F.length ((nms F).map encStr)) := hrow4
      have HB4 : Hid (Below wr.heap.size wr w4) := hb4
      have HM4 : Hid (DKm w4 d (fun k => (K k ∨ k = bx) ∨ (wr.heap.size ≤ k ∧ k < w4.heap.size)) S.room bs (.map (some bs)) (.slice sa S.steps.length sc) S.left S.dead F S.steps S.fl gs fv) := HM.out.holdNew hb4 (fun k hk => by
        rcases hk with hk | hk
        · exact ⟨Nat.lt_of_lt_of_le (HM.out.Kb k hk) hb4.size, .inl hk⟩
        · exact ⟨hk.2, .inr hk.1⟩)
      clear hrow4 hb4 HNS e1 e3
      go_wp2
      go_loopw [45] (fun u wx => ∃ (j : Nat) (fl : Nat → List UInt8 × Nat) (fv' : Nat → Value), u = .int .i64 (j : Int) ∧ j ≤ F.length ∧ DKm wx d (fun k => (K k ∨ k = bx) ∨ (wr.heap.size ≤ k ∧ k < w4.heap.size)) S.room bs (.map (some bs)) (.slice sa S.steps.length sc) S.left S.dead F S.steps fl gs fv' ∧ crC ks F (S.steps.length + j) ((nms F).drop j) fl = crC ks F S.steps.length (nms F) S.fl ∧ Keeps (fun k => (K k ∨ k = bx) ∨ (wr.heap.size ≤ k ∧ k < w4.heap.size)) w4 wx) (fun u _ => F.length - (intOf u).toNat)
      case atStart => exact ⟨0, S.fl, fv, rfl, Nat.zero_le _, HM4.out, rfl, Keeps.refl _ _⟩
      case round =>
        rename World => wx
        obtain ⟨j, fl, fv', rfl, hj, hMx, hcc, hkx⟩ := hrel
        have HMX : Hid (DKm wx d (fun k => (K k ∨ k = bx) ∨ (wr.heap.size ≤ k ∧ k < w4.heap.size)) S.room bs (.map (some bs)) (.slice sa S.steps.length sc) S.left S.dead F S.steps fl gs fv') := hMx
        have HKX : Hid (Keeps (fun k => (K k ∨ k = bx) ∨ (wr.heap.size ≤ k ∧ k < w4.heap.size)) w4 wx) := hkx
        by_cases hlt : j < F.length
        · obtain ⟨nb, nc', hnl, hnb0, hnb1⟩ := HROW.out.form (by omega)
          obtain ⟨rfl, rfl⟩ : na = some ⟨nb, 0, none⟩ ∧ nc = nc' := by injection hnl with e1 e2 e3; exact ⟨e1, e3⟩
          have hjn : j < (nms F).length := by rw [nms_len]; exact hlt
          have hxin : (nms F).getD j [] ∈ nms F := by rw [List.getD_eq_getElem?_getD, List.getElem?_eq_getElem hjn]; exact List.getElem_mem _
          have hcx : wx.cell? ⟨nb, j, none⟩ = some (.string (mkT ((nms F).getD j []))) := by
            have h1 := HROW.out.cells (g := nb) rfl j (.string (mkT ((nms F).getD j []))) (by rw [List.getElem?_map, List.getElem?_eq_getElem hjn, List.getD_eq_getElem?_getD, List.getElem?_eq_getElem hjn]; rfl)
            rw [Addr.add_mid, Nat.zero_add] at h1
            rw [HKX.out.cell (.inr ⟨hnb0, hnb1⟩)]; exact h1
          obtain ⟨g, hlg⟩ : ∃ g, lk F ((nms F).getD j []) = some g := by
            cases hl' : lk F ((nms F).getD j []) with
            | none => rw [lk_none_iff] at hl'; exact absurd ((nms_mem F _).1 hxin) hl'
            | some g => exact ⟨g, rfl⟩
          have hgin := hMx.inN _ (lk_some_mem hlg)
          have hgs : g ∈ gs := hgin.1
          have hx80 : ((nms F).getD j []).length ≤ 80 := hgin.2
          have HCC : Hid (crC ks F (S.steps.length + (j + 1)) ((nms F).drop (j + 1)) (updF fl g (cutF (fl g) (kpN ks (S.steps.length + j)))) = crC ks F S.steps.length (nms F) S.fl) := by
            unfold Hid; rw [← hcc, crC_drop ks F S.steps.length (nms F) j fl g hjn hlg]
          have hlook : ∀ m, (Instr.lookup 62 (.map (some bs)) (.string (mkT ((nms F).getD j []))) false).run Tryd.prog (wx.drewN m) = .ok (.pointer (some ⟨g, 0, none⟩)) (wx.drewN m) := fun m => by
            have := (HMX.out.drewN m).now.look1 ((nms F).getD j []) (by omega)
            rw [hlg] at this; exact this
          have hlookA := hlook 1
          rw [show wx.drewN 1 = wx.drew from rfl] at hlookA
          have hlookB : ∀ m, (Instr.lookup 62 (.map (some bs)) (.string (mkT ((nms F).getD j []))) false).run Tryd.prog (wx.drew.drewN m) = .ok (.pointer (some ⟨g, 0, none⟩)) (wx.drew.drewN m) := fun m => by
            have := ((HMX.out.drewN 1).drewN m).now.look1 ((nms F).getD j []) (by omega)
            rw [hlg] at this; exact this
          generalize (nms F).getD j [] = x at *
          obtain ⟨_, d1, _, d3, _, _⟩ := hMx.cells
          have hwr : IntKind.i64.wrap ((S.steps.length : Int) + (j : Int)) = ((S.steps.length + j : Nat) : Int) := by rw [IntKind.wrap_i64]; omega
          have HVX : Hid (KSl wx (.slice va ks.length vc) ks) := ((HV.out.keeps HKP.out (fun h0 r hr => .inl (HVK.out h0 r hr))).keeps (Keeps.of_below HB4.out HM.out.Kb) (fun h0 r hr => .inl (HVK.out h0 r hr))).keeps HKX.out (fun h0 r hr => .inl (.inl (HVK.out h0 r hr)))
          have HBXX : Hid (wx.cell? ⟨bx, 0, none⟩ = some (.slice va ks.length vc)) := by
            have h1 := (HKP.out.block bx (.inr rfl)).trans HBX.out
            have h2 := (HB4.out.block bx (HM.out.Kb bx (.inr rfl))).trans h1
            have h3 := (HKX.out.block bx (.inl (.inr rfl))).trans h2
            exact (cell_of_row _ _ _ _ _ _ h3).trans rfl
          have HNM : Hid (Calls Tryd.prog 34 #[.int .i64 ((S.steps.length + j : Nat) : Int), .pointer (some ⟨bx, 0, none⟩)] wx.drew fun e w' => e = .returned (.int .i64 (kpN ks (S.steps.length + j))) ∧ ∃ n, w' = wx.drew.drewN n) :=
            number_any ks (.slice va ks.length vc) bx (S.steps.length + j) wx.drew (HVX.out.below ⟨rfl, rfl, rfl, Nat.le_refl _, fun _ _ => rfl⟩) HBXX.out (by omega)
          have hkr := kpN_range (ks := ks) HV.out.choose_spec.choose_spec.2.2.2.2 (S.steps.length + j)
          generalize kpN ks (S.steps.length + j) = z at *
          have HCT : Hid (∀ m, Calls Tryd.prog 37 #[.pointer (some ⟨g, 0, none⟩), .int .i64 z] (wx.drewN m) fun e w' => e = .returned (.tuple #[]) ∧ ∃ v', w'.heap.size = wx.heap.size ∧ (∀ k, k ≠ g → w'.heap[k]? = wx.heap[k]?) ∧ w'.heap[g]? = some (.cells #[v', .int .i64 ((cutF (fl g) z).2 : Int)] 71 (0, 0)) ∧
            w'.ownsRow 0 5 1 v' (cutF (fl g) z).1.length (cb (cutF (fl g) z).1) ∧ v'.ownBlock = (fv' g).ownBlock ∧ (cutF (fl g) z).2 = (cutF (fl g) z).1.length ∧ w'.os = wx.os ∧ w'.tape = wx.tape ∧ w'.output = wx.output) := fun m =>
            kcut_any z (wx.drewN m) ((HMX.out.drewN m).file g hgs) hkr.1 hkr.2
          have hgd : g ≠ d := (HMX.out.ne_d.2 g hgs).1
          have HKEEP : Hid (∀ w' : World, (∀ k, k ≠ g → w'.heap[k]? = wx.heap[k]?) → w'.cell? ⟨d, 1, none⟩ = some (.map (some bs)) ∧ w'.cell? ⟨d, 3, none⟩ = some (.slice sa S.steps.length sc)) := fun w' hw => ⟨(World.cell?_of_block (a := ⟨d, 1, none⟩) (hw d hgd.symm)).trans d1, (World.cell?_of_block (a := ⟨d, 3, none⟩) (hw d hgd.symm)).trans d3⟩
          have hji : (j : Int) < (F.length : Int) := by omega
          have hj0 : (0 : Int) ≤ (j : Int) := by omega
          clear hMx hkx hcc hnl hxin hjn hlg hgin
          go_wp2
          go_region_held3 (fun w' : World => w'.cell? ⟨d, 1, none⟩ = some (.map (some bs)) ∧ w'.cell? ⟨d, 3, none⟩ = some (.slice sa S.steps.length sc)) (first | exact ⟨d1, d3⟩ | exact HKEEP.out _ ho6) ((first | (go_at_call 34; refine HNM.out.mono ?_; rintro e w5 ⟨rfl, n5, rfl⟩) | (go_at_call 37; refine (HCT.out _).mono ?_; rintro e w6 ⟨rfl, v6, hs6, ho6, hg6, hr6, hv6, hl6, hos6, htp6, hou6⟩)))
          all_goals
            have hF6 := HMX.out.file g hgs
            have HM6 : Hid (DKm w6 d (fun k => (K k ∨ k = bx) ∨ (wr.heap.size ≤ k ∧ k < w4.heap.size)) S.room bs (.map (some bs)) (.slice sa S.steps.length sc) S.left S.dead F S.steps (updF fl g (cutF (fl g) z)) gs (updV fv' g v6)) :=
              HMX.out.setFile hgs _ v6 (by omega) (fun k _ hk _ => ho6 k hk) hg6 hr6 (fun r hr => .inl (by rw [← hv6]; exact hr)) (by omega) (by
                have := hF6.big
                have h2 : (cutF (fl g) z).1.length ≤ (fl g).1.length := by unfold cutF; simp only; rw [List.length_take]; omega
                omega)
            have HK6 : Hid (Keeps (fun k => (K k ∨ k = bx) ∨ (wr.heap.size ≤ k ∧ k < w4.heap.size)) w4 w6) := HKX.out.trans ⟨hos6, htp6, hou6, by omega, fun k hk => ho6 k (fun e => hF6.kg (e ▸ hk))⟩
            clear hs6 ho6 hg6 hr6 hv6 hl6 hos6 htp6 hou6 hF6 hlook hlookA hlookB d1 d3
            go_wp2
            exact ⟨⟨j + 1, _, _, by go_num, by omega, HM6.out, HCC.out, HK6.out⟩, by simp [intOf]; omega⟩
        · obtain rfl : j = F.length := by omega
          have hdr : (nms F).drop F.length = [] := by rw [List.drop_eq_nil_iff, nms_len]; exact Nat.le_refl _
          rw [hdr, crC] at hcc
          have HFL : Hid (fl = crC ks F S.steps.length (nms F) S.fl) := hcc
          have hMK : DKm wx d K S.room bs (.map (some bs)) (.slice sa S.steps.length sc) S.left S.dead F S.steps fl gs fv' := hMx.less (fun k hk => .inl (.inl hk))
          have HSM := settle_m wx hMK ⟨_, rfl⟩ hr0 hr1 hlf0 hlf1
          have HST : Hid (Calls _ _ _ _ _) := HSM
          have HKK : Hid (Keeps K w wx) := ((HK1.out.trans (HKP.out.mono (fun k hk => .inl hk))).trans ((Keeps.of_below HB4.out HM.out.Kb).mono (fun k hk => .inl hk))).trans (hkx.mono (fun k hk => .inl (.inl hk)))
          have hni2 : ¬ (F.length : Int) < (F.length : Int) := by omega
          clear hMx hkx hcc hdr HSM hMK
          go_wp2_with fail
          refine HST.out.mono ?_
          rintro e w7 ⟨rfl, hd7, hk7⟩
          obtain ⟨bn7, bs7, sv7, fv7, hc7⟩ := hd7
          have HC7 : Hid (DKc w7 d ⟨S.room, F, F, [], S.left, S.dead, fl⟩ K bn7 bs7 sv7 gs fv7) := hc7
          have hcl := hc7.cell
          obtain ⟨_, _, _, _, m4, m5⟩ := hc7.cells
          have g4 : w7.frozen? ⟨d, 4, none⟩ = false := frozen_of_row _ _ _ _ _ hcl
          have g5 : w7.frozen? ⟨d, 5, none⟩ = false := frozen_of_row _ _ _ _ _ hcl
          have HCL : Hid (w7.heap[d]? = some (.cells #[.int .i64 S.room, .map (some bn7), .map (some bs7), sv7, .int .i64 S.left, .bool S.dead] 65 (0, 0))) := hcl
          have HK7 : Hid (Keeps K w w7) := HKK.out.trans hk7
          simp only at m4 m5
          clear hc7 hcl hk7 HST
          go_wp2
          go_end0
          rw [HS.out, ← HFE.out, ← HFL.out]
          refine ⟨rfl, ⟨bn7, bs7, sv7, fv7, HC7.out.turn (S' := ⟨S.room, F, F, [], -1, false, fl⟩) (by simp [World.setCell]) (fun k hk => (setc_o hk).trans (setc_o hk)) ?_ rfl rfl rfl rfl rfl (by show (-9223372036854775808 : Int) ≤ -1; decide) (by show (-1 : Int) ≤ 9223372036854775807; decide)⟩, (HK7.out.setCell HC7.out.kd _).setCell HC7.out.kd _⟩
          rw [setc (setc HCL.out)]
          rfl
end Go.Proofs.YtmjfcneofpddiaaDoor
