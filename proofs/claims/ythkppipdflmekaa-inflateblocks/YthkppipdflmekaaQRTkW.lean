/- Contract of the document's tokens where the lengths don't fit. -/
import Derived.Test.YthkppipdflmekaaQRTok
namespace Go.Proofs.Ythkppipdflmekaa
open Go.RowKit
set_option linter.unusedVariables false
set_option linter.unusedSimpArgs false

set_option maxRecDepth 100000 in
set_option maxHeartbeats 8000000 in
theorem rtoks_wrong (g c p o m B : Nat) (L : List Bool) (vl vd : Value) (ls ds : List Nat) (w : World) (hO : OB w B (.slice (some ⟨g, 0, none⟩) L.length c) L) (hL : IQ w vl (zz ls)) (hD : IQ w vd (zz ds)) (kl : ls.length ≤ 320) (kd : ds.length ≤ 320) (hf : fitE ls = false ∨ fitE ds = false) :
    Calls Try.prog 18 #[sn g L.length c p o m 0, vl, vd] w fun x w' => ∃ (oa : Option Addr) (n oc : Nat), x = .returned (.tuple #[sn g L.length c p o m 3, .slice oa n oc]) ∧ Below w.heap.size w w' := by
  have HS0 : Hid (SB w _ B g c L w.heap.size (w.heap.size + 1) p o m 0) := SB.start hO p o m 0
  have HIL : Hid (∀ W, Below w.heap.size w W → IQ W vl (zz ls)) := fun W hb => IQ.since hL hb
  have HID : Hid (∀ W, Below w.heap.size w W → IQ W vd (zz ds)) := fun W hb => IQ.since hD hb
  have hl3 : (zz ls).length ≤ 320 := by rw [zz_len]; exact kl
  have hd3 : (zz ds).length ≤ 320 := by rw [zz_len]; exact kd
  have hfe : errN (zz ls) ≠ 0 ∨ errN (zz ds) ≠ 0 := hf.imp fitE_no fitE_no
  have HFL : Hid (∀ W, Below w.heap.size w W → Calls Try.prog 26 #[vl] W fun e w' => e = .returned (.int .i64 (errN (zz ls) : Int)) ∧ w' = W) := fun W hb => rfit_anyO _ (zz ls) W (HIL.out W hb) (by omega)
  have HFD : Hid (∀ W, Below w.heap.size w W → Calls Try.prog 26 #[vd] W fun e w' => e = .returned (.int .i64 (errN (zz ds) : Int)) ∧ w' = W) := fun W hb => rfit_anyO _ (zz ds) W (HID.out W hb) (by omega)
  generalize errN (zz ls) = n1 at *
  generalize errN (zz ds) = n2 at *
  obtain ⟨E1, hE1⟩ : ∃ E1 : Nat, E1 = if n1 = 0 then 0 else 3 := ⟨_, rfl⟩
  have HW1 : Hid (∀ W, Calls Try.prog 20 #[.agg #[.slice (some ⟨g, 0, none⟩) L.length c, .int .i64 (p : Int), .int .i64 (o : Int), .int .i64 (m : Int), .int .i64 0], .bool ((n1 : Int) != 0), .int .i64 3] W fun x w' => x = .returned (.agg #[.slice (some ⟨g, 0, none⟩) L.length c, .int .i64 (p : Int), .int .i64 (o : Int), .int .i64 (m : Int), .int .i64 (E1 : Int)]) ∧ Below W.heap.size W w') := fun W => by
    refine (wrong_at g L.length c p o m 0 0 rfl ((n1 : Int) != 0) 3 3 rfl W).mono ?_
    rintro x w' ⟨e1, rfl, he, hb⟩
    refine ⟨?_, hb⟩
    have : e1 = E1 := by
      rw [he.out, hE1]
      by_cases h : n1 = 0
      · rw [if_pos h, if_neg (by simp [h])]
      · rw [if_neg h, if_pos ⟨by simp; omega, rfl⟩]
    rw [this]
  have HW2 : Hid (∀ W, Calls Try.prog 20 #[.agg #[.slice (some ⟨g, 0, none⟩) L.length c, .int .i64 (p : Int), .int .i64 (o : Int), .int .i64 (m : Int), .int .i64 (E1 : Int)], .bool ((n2 : Int) != 0), .int .i64 3] W fun x w' => x = .returned (.agg #[.slice (some ⟨g, 0, none⟩) L.length c, .int .i64 (p : Int), .int .i64 (o : Int), .int .i64 (m : Int), .int .i64 3]) ∧ Below W.heap.size W w') := fun W => by
    refine (wrong_at g L.length c p o m E1 (E1 : Int) rfl ((n2 : Int) != 0) 3 3 rfl W).mono ?_
    rintro x w' ⟨e1, rfl, he, hb⟩
    refine ⟨?_, hb⟩
    have : e1 = 3 := by
      rw [he.out]
      by_cases h : n1 = 0
      · rw [if_pos h] at hE1
        rcases hfe with h2 | h2
        · exact absurd h h2
        · rw [if_pos ⟨by simp; omega, hE1⟩]
      · rw [if_neg h] at hE1
        rw [if_neg (fun q => by rw [hE1] at q; exact absurd q.2 (by decide)), hE1]
    rw [this]; rfl
  clear hO hL hD hf hfe hE1 HIL HID
  obtain ⟨v1, hv1⟩ : ∃ v : Int, v = (E1 : Int) := ⟨_, rfl⟩
  unfold snC sn0 at HS0
  simp only [show ((0 : Nat) : Int) = 0 from rfl] at HS0
  clear hv1 v1
  go_enter Try.func18, Try.ntmps18
  unfold sn
  go_upto_region 1 with fail
  generalize World.alloc (World.alloc w _) _ = W0 at *
  go_cut [20] (fun _ wx => SB w wx B g c L w.heap.size (w.heap.size + 1) p o m E1)
  case first =>
    obtain ⟨⟨a0, a1, a2, a3, a4⟩, b0, b1, b2, b3, b4⟩ := five_cell HS0.out.bxh
    go_region_with (first | (go_at_call 26; refine (HFL.out _ HS0.out.bel.drew).mono ?_; rintro e w' ⟨rfl, hw'⟩; cases hw') | (go_at_call 20; refine (HW1.out _).mono ?_; rintro e V0 ⟨rfl, hb⟩; have hs := HS0.out.drew.call hb; have ⟨⟨a0', a1', a2', a3', a4'⟩, b0', b1', b2', b3', b4'⟩ := five_cell hs.bxh))
    all_goals
      have HQ : Hid _ := hs.put p o m E1
      clear hs hb
      go_wp2
      go_meet
      exact HQ.out
  case rest =>
    have HS1 : Hid (SB w wc B g c L w.heap.size (w.heap.size + 1) p o m E1) := hcut
    clear hcut HS0
    go_upto_region 2 with fail
    go_cut [25] (fun _ wx => SB w wx B g c L w.heap.size (w.heap.size + 1) p o m 3)
    case first =>
      obtain ⟨⟨a0, a1, a2, a3, a4⟩, b0, b1, b2, b3, b4⟩ := five_cell HS1.out.bxh
      go_region_with (first | (go_at_call 26; refine (HFD.out _ HS1.out.bel.drew).mono ?_; rintro e w' ⟨rfl, hw'⟩; cases hw') | (go_at_call 20; refine (HW2.out _).mono ?_; rintro e V1 ⟨rfl, hb⟩; have hs := HS1.out.drew.call hb; have ⟨⟨a0', a1', a2', a3', a4'⟩, b0', b1', b2', b3', b4'⟩ := five_cell hs.bxh))
      all_goals
        have HQ : Hid _ := hs.put p o m 3
        clear hs hb
        go_wp2
        go_meet
        exact HQ.out
    case rest =>
      have HS2 : Hid (SB w _ B g c L w.heap.size (w.heap.size + 1) p o m 3) := hcut
      clear hcut HS1 HFL HFD HW1 HW2
      have HSZ : Hid (_ ∧ _) := sizes_rows w wc HS2.out.bel.size
      go_wp2_with fail
      refine (rSizes_any wc).mono ?_
      rintro e w3 ⟨rfl, hw3⟩
      rw [← hw3] at HSZ
      clear hw3
      generalize hsb : wc.heap.size = sb at *
      have HS3 : Hid (SB w w3 B g c L w.heap.size (w.heap.size + 1) p o m 3) := HS2.out.call (by rw [hsb]; exact HSZ.out.1)
      clear HS2 HSZ hsb
      have hs4 := HS3.out.call ((Below.refl _ w3).alloc (Nat.le_refl _) (.cells #[] 42))
      have HS4 : Hid (SB w _ B g c L w.heap.size (w.heap.size + 1) p o m 3) := hs4
      obtain ⟨⟨a0, a1, a2, a3, a4⟩, _⟩ := five_cell hs4.bxh
      clear hs4 HS3
      simp only [show ((3 : Nat) : Int) = 3 from rfl] at a4
      go_upto_region 6 with fail
      generalize World.alloc w3 _ = W4 at *
      generalize w3.heap.size = so at *
      go_cut [7] (fun v7 wx => v7 = .slice (some ⟨so, 0, none⟩) 0 0 ∧ wx.heap[w.heap.size + 1]? = some (.cells (snC g L.length c p o m 3) 58 (0, 0)) ∧ Below w.heap.size w wx)
      case first =>
        obtain ⟨_, b0, b1, b2, b3, b4⟩ := five_cell HS4.out.rxh
        have HD : Hid _ := HS4.out.done (.slice (some ⟨g, 0, none⟩) L.length c) (.int .i64 (p : Int)) (.int .i64 (o : Int)) (.int .i64 (m : Int)) (.int .i64 3)
        unfold put5 at HD
        go_wp2
        go_meet
        exact ⟨rfl, HD.out.1, HD.out.2⟩
      case rest =>
        obtain ⟨rfl, hrx, hbw⟩ := hcut
        have HBR : Hid (Below w.heap.size w wc) := hbw
        have HRX : Hid (_ = _) := hrx
        clear hbw hrx HS4
        go_step
        go_step
        try simp (config := { zetaDelta := true }) only [Exit.inBlock, Exit.then]
        refine bodyPost_ret (res_ct Try.results18 _ _ (w.heap.size + 1) 58 _ (0, 0) _ rfl HRX.out Try.underlying58 rfl (iSn g L.length c p o m 3) _ rfl) rfl ?_
        exact ⟨_, 0, 0, rfl, HBR.out⟩
end Go.Proofs.Ythkppipdflmekaa
