/- slices.symMergeCmpFunc at items of k cells, where both stretches are longer than one: out of itself at less. (Written by ksym.py.) -/
import Derived.Test.YtmjfcneofpddiaaDoorQKSymC
namespace Go.Proofs.YtmjfcneofpddiaaDoor
open Go.RowKit Go.Shelf Go.Lib Go.Sort
set_option linter.unusedVariables false
set_option linter.unusedSimpArgs false
variable {P : Program} {k : Nat} {N : Nat} [Inhabited (Fin N)] {enc : Fin N → List Value} {w0 : World} {blk off : Nat} {d0 : Array (Fin N)}

set_option maxRecDepth 100000 in
set_option maxHeartbeats 8000000 in
theorem ksymD_any (L : ItP P k) (R : RowK enc k w0 blk off d0) (g : Nat) (cb : Array Value) (eg : ∀ args w, (callFunc g args).run P w = .ok (.enter g args) w) (cf : Fin N → Fin N → Int) (hS : SWO (ltOf cf)) (hC : CmpLays P g cb enc k cf blk off d0.size w0)
    (cap a m b mid : Nat) (d : Array (Fin N)) (hds : d.size = d0.size) (W : World) (hW : SWK enc k w0 blk off d W)
    (ham : a + 1 < m) (hmb : m + 1 < b) (hb : b ≤ d.size) (hsz : d.size < 2305843009213693952) (hmid : mid = (a + b) / 2) (hgt : ¬ mid < m) (hs1 : SortedIn (ltOf cf) a m d) (hs2 : SortedIn (ltOf cf) m b d)
    (hL : ∀ s, a < s → s < mid → KSymAt P k enc w0 g cb cf blk off cap d.size a s mid) (hR : ∀ s, mid < s → s < b → KSymAt P k enc w0 g cb cf blk off cap d.size mid s b) :
    Calls P 66 #[.slice (some ⟨blk, off, none⟩) d.size cap, .int .i64 (a : Int), .int .i64 (m : Int), .int .i64 (b : Int), .func (.func g) #[] cb] W fun e w' =>
      e = .returned (.tuple #[]) ∧ ∃ d', PermIn a b d d' ∧ SortedIn (ltOf cf) a b d' ∧ SWK enc k w0 blk off d' w' := by
  have HST : Hid (SWK enc k w0 blk off d W) := hW
  have HRK : Aside (RowK enc k w0 blk off d0) := R
  have HC : Aside (CmpLays P g cb enc k cf blk off d0.size w0) := hC
  have HDS : Hid (d.size = d0.size) := hds
  have HS1 : Hid (SortedIn (ltOf cf) a m d) := hs1
  have HS2 : Hid (SortedIn (ltOf cf) m b d) := hs2
  have HSW : Hid (SWO (ltOf cf)) := hS
  have HL : Hid (∀ s, a < s → s < mid → KSymAt P k enc w0 g cb cf blk off cap d.size a s mid) := hL
  have HRR : Hid (∀ s, mid < s → s < b → KSymAt P k enc w0 g cb cf blk off cap d.size mid s b) := hR
  have HROT : Hid (∀ (dk : Array (Fin N)) (V : World) (s en : Nat), dk.size = d.size → SWK enc k w0 blk off dk V → s < m → m < en → en ≤ d.size →
      Calls P 78 #[.slice (some ⟨blk, off, none⟩) d.size cap, .int .i64 (s : Int), .int .i64 (m : Int), .int .i64 (en : Int), .func (.func g) #[] cb] V fun e w' =>
        e = .returned (.tuple #[]) ∧ ∃ d', Rot dk d' s m en ∧ PermIn s en dk d' ∧ SWK enc k w0 blk off d' w') := by
    intro dk V s en hk hV h1 h2 h3
    have h := krot_any L R cap s m en dk (by omega) V hV (.func (.func g) #[] cb) h1 h2 (by omega) (by omega)
    rw [hk] at h
    exact h
  clear hW hC hs1 hs2 hS hL hR R hds
  have mixed := L.mixed; have t3 := L.t3; have a3 := L.a3; have z3 := L.z3; have v3 := L.v3; have t4 := L.t4; have a4 := L.a4; have z4 := L.z4; have v4 := L.v4; have t22 := L.t22; have a22 := L.a22; have z22 := L.z22; have v22 := L.v22; have aE := L.aE; have zE := L.zE
  have tU := L.tU; have aU := L.aU; have zU := L.zU; have vU := L.vU
  have u22 := run_underlying L.t22; have u3 := run_underlying L.t3; have uU := run_underlying L.tU
  have F := L.fsym
  have egr : ∀ args w, (callFunc 78 args).run P w = .ok (.enter 78 args) w := fun args w => enters_of L.frot (by kernel_rfl) rfl args w
  have egs : ∀ args w, (callFunc 66 args).run P w = .ok (.enter 66 args) w := fun args w => enters_of L.fsym (by kernel_rfl) rfl args w
  clear L
  obtain ⟨ma, hma⟩ : ∃ x, x = m - a := ⟨_, rfl⟩
  have e0 : IntKind.i64.wrap ((m : Int) - (a : Int)) = (ma : Int) := by rw [IntKind.wrap_i64]; omega
  have e01 : ((ma : Int) == 1) = false := by simp; omega
  obtain ⟨bm, hbm⟩ : ∃ x, x = b - m := ⟨_, rfl⟩
  have e1 : IntKind.i64.wrap ((b : Int) - (m : Int)) = (bm : Int) := by rw [IntKind.wrap_i64]; omega
  have e11 : ((bm : Int) == 1) = false := by simp; omega
  obtain ⟨ab, hab⟩ : ∃ x, x = a + b := ⟨_, rfl⟩
  have e2 : IntKind.i64.wrap ((a : Int) + (b : Int)) = (ab : Int) := by rw [IntKind.wrap_i64]; omega
  have e3 : IntKind.u64.wrap (ab : Int) = (ab : Int) := by rw [IntKind.wrap_u64]; omega
  have e4 : IntKind.i64.wrap (mid : Int) = (mid : Int) := by rw [IntKind.wrap_i64]; omega
  have e5 : IntKind.u64.wrap (mid : Int) = (mid : Int) := by rw [IntKind.wrap_u64]; omega
  have e6 : (ab : Int) / 2 = (mid : Int) := by omega
  obtain ⟨nn, hnn⟩ : ∃ x, x = mid + m := ⟨_, rfl⟩
  have e7 : IntKind.i64.wrap ((mid : Int) + (m : Int)) = (nn : Int) := by rw [IntKind.wrap_i64]; omega
  obtain ⟨p, hp⟩ : ∃ x, x = nn - 1 := ⟨_, rfl⟩
  have e8 : IntKind.i64.wrap ((nn : Int) - 1) = (p : Int) := by rw [IntKind.wrap_i64]; omega
  have g1 : ¬ (mid : Int) < (m : Int) := by omega
  obtain ⟨s0, hs0⟩ : ∃ x, x = a := ⟨_, rfl⟩
  obtain ⟨r0, hr0⟩ : ∃ x, x = m := ⟨_, rfl⟩
  have k1 : a ≤ s0 := by omega
  have k2 : s0 ≤ r0 := by omega
  have k3 : r0 ≤ m := by omega
  have k4 : r0 ≤ mid := by omega
  have k5 : nn ≤ s0 + b := by omega
  have k8 : a < mid := by omega
  have k9 : mid < b := by omega
  have HK : Hid ((s0 = a ∨ s0 + b = nn) ∧ (r0 = m ∨ r0 = mid) ∧ nn = mid + m ∧ p + 1 = nn) := ⟨by omega, by omega, hnn, by omega⟩
  have k6 : nn ≤ 2305843009213693952 + 2305843009213693952 := by omega
  clear hma hbm hab hnn hp hmid 
  have HS0 : Hid (s0 = a) := hs0
  clear hs0
  have HR0 : Hid (r0 = m) := hr0
  clear hr0
  go_enter F, Tryd.ntmps66
  go_wp2
  go_loopg [20, 21] (r0 - s0) (fun g u v wr => ∃ (i j : Nat), u = .int .i64 (i : Int) ∧ v = .int .i64 (j : Int) ∧ s0 ≤ i ∧ i ≤ j ∧ j ≤ r0 ∧ j - i ≤ g ∧ Hid (i = s0 ∨ ltOf cf d[nn - i]! d[i - 1]! = false) ∧ Hid (j = r0 ∨ ltOf cf d[nn - 1 - j]! d[j]! = true) ∧ Hid (SWK enc k w0 blk off d wr))
  case atStart => exact ⟨s0, r0, by rw [HS0.out], by rw [HR0.out], by omega, by omega, by omega, by omega, .inl rfl, .inl rfl, HST⟩
  case round =>
    obtain ⟨i, j, rfl, rfl, hmi, hij, hjb, hg, HI, HJ, HV⟩ := hrel
    by_cases hlt : i < j
    · have hltz : (i : Int) < (j : Int) := by omega
      obtain ⟨ij, hij2⟩ : ∃ x, x = i + j := ⟨_, rfl⟩
      have w1 : IntKind.i64.wrap ((i : Int) + (j : Int)) = (ij : Int) := by rw [IntKind.wrap_i64]; omega
      have w2 : IntKind.u64.wrap (ij : Int) = (ij : Int) := by rw [IntKind.wrap_u64]; omega
      obtain ⟨h, hh⟩ : ∃ x, x = ij / 2 := ⟨_, rfl⟩
      have w3 : IntKind.i64.wrap (h : Int) = (h : Int) := by rw [IntKind.wrap_i64]; omega
      have w4 : IntKind.u64.wrap (h : Int) = (h : Int) := by rw [IntKind.wrap_u64]; omega
      have w5 : (ij : Int) / 2 = (h : Int) := by omega
      have hih : i ≤ h := by omega
      have hhj : h < j := by omega
      clear hh hij2
      obtain ⟨pc, hpc⟩ : ∃ x, x = p - h := ⟨_, rfl⟩
      have hk' := HK.out
      have w6 : IntKind.i64.wrap ((p : Int) - (h : Int)) = (pc : Int) := by rw [IntKind.wrap_i64]; omega
      have hpb : pc < b := by omega
      have HPC : Hid (pc = nn - 1 - h ∧ pc = nn - (h + 1)) := ⟨by omega, by omega⟩
      clear hpc hk'
      have l1 := HV.out.ld HRK.out HDS.out P h (by omega)
      have l2 := HV.out.ld HRK.out HDS.out P pc (by omega)
      obtain ⟨xh, hxh⟩ : ∃ x, d[h]! = x := ⟨_, rfl⟩
      obtain ⟨xa, hxa⟩ : ∃ x, d[pc]! = x := ⟨_, rfl⟩
      rw [hxh] at l1
      rw [hxa] at l2
      have hc := HV.out.cmp HC.out HDS.out xa xh
      have HX : Hid (d[h]! = xh ∧ d[pc]! = xa) := ⟨hxh, hxa⟩
      clear hxh hxa
      have b1 : (h : Int) < (d.size : Int) := by omega
      have b2 : (pc : Int) < (d.size : Int) := by omega
      have b3 : (0 : Int) ≤ (h : Int) := by omega
      have b4 : (0 : Int) ≤ (pc : Int) := by omega
      obtain ⟨r, hr⟩ : ∃ r, cf xa xh = r := ⟨_, rfl⟩
      rw [hr] at hc
      have HR : Hid (cf xa xh = r) := hr
      clear hr
      by_cases hlv : r < 0
      · go_wp2_with fail
        go_quiet_grown (first | (go_at_fn g; refine Calls.grown_of (hc _ _)))
        go_wp2
        go_roundg (h - i)
        case measure => omega
        case rel =>
          refine ⟨i, h, rfl, rfl, by omega, by omega, by omega, by omega, HI, (show Hid _ from .inr ?_), HV.out.grown _ _⟩
          rw [← HPC.out.1, HX.out.1, HX.out.2]; unfold ltOf; rw [HR.out]; exact decide_eq_true (by omega)
      · have hld : decide (r < 0) = false := decide_eq_false hlv
        go_wp2_with fail
        go_quiet_grown (first | (go_at_fn g; refine Calls.grown_of (hc _ _)))
        go_wp2
        go_roundg (j - (h + 1))
        case measure => omega
        case rel =>
          refine ⟨h + 1, j, by go_num, rfl, by omega, by omega, hjb, by omega, (show Hid _ from .inr ?_), HJ, HV.out.grown _ _⟩
          rw [← HPC.out.2, Nat.add_sub_cancel, HX.out.1, HX.out.2]; unfold ltOf; rw [HR.out]; exact decide_eq_false (by omega)
    · obtain rfl : i = j := by omega
      have hlt0 : ¬ (i : Int) < (i : Int) := by omega
      obtain ⟨en, hen⟩ : ∃ x, x = nn - i := ⟨_, rfl⟩
      obtain ⟨y1, y2, y3, y4⟩ := HK.out
      have w7 : IntKind.i64.wrap ((nn : Int) - (i : Int)) = (en : Int) := by rw [IntKind.wrap_i64]; omega
      have l1 : i + en = mid + m := by omega
      have l2 : m ≤ en := by omega
      have l3 : en ≤ b := by omega
      have l4 : mid ≤ en := by omega
      have q1 : i = a ∨ en = b ∨ ltOf cf d[en]! d[i - 1]! = false := by
        rcases HI.out with h | h
        · omega
        · right; right; rw [hen]; exact h
      have q2 : i = m ∨ en = m ∨ ltOf cf d[en - 1]! d[i]! = true := by
        rcases HJ.out with h | h
        · omega
        · right; right; rw [show en - 1 = nn - 1 - i by omega]; exact h
      have HQ : Hid ((i = a ∨ en = b ∨ ltOf cf d[en]! d[i - 1]! = false) ∧ (i = m ∨ en = m ∨ ltOf cf d[en - 1]! d[i]! = true)) := ⟨q1, q2⟩
      have HLE : Hid (i + en = mid + m) := l1
      clear hen y1 y2 y3 y4 q1 q2 l1
      by_cases t1 : i < m ∧ m < en
      · have t1a : (i : Int) < (m : Int) := by omega
        have t1b : (m : Int) < (en : Int) := by omega
        have hc1 := HROT.out d wr i en rfl HV.out t1.1 t1.2 (by omega)
        clear t1
        go_wp2_with fail
        refine hc1.mono ?_
        rintro x W0 ⟨rfl, e, hRot, hPe, hV1⟩
        have HE : Hid (Rot d e i m en ∧ PermIn a b d e) := ⟨hRot, permIn_mono _ _ i en a b (by omega) l3 hb hPe⟩
        have HW0 : Hid (SWK enc k w0 blk off e W0) := hV1
        clear hRot hPe hV1 hc1
        have HX5 : Hid (SortedIn (ltOf cf) a i e ∧ SortedIn (ltOf cf) i mid e ∧ SortedIn (ltOf cf) mid en e ∧ SortedIn (ltOf cf) en b e ∧ ∀ x y, a ≤ x → x < mid → mid ≤ y → y < b → ltOf cf e[y]! e[x]! = false) := sym_cross HSW.out d e a m b mid i en HLE.out (by omega) (by omega) (by omega) l2 l3 HE.out.1 HS1.out HS2.out HQ.out.1 HQ.out.2
        by_cases t2 : a < i ∧ i < mid
        · have t2a : (a : Int) < (i : Int) := by omega
          have t2b : (i : Int) < (mid : Int) := by omega
          have hc2 := HL.out i t2.1 t2.2 e W0 HE.out.1.1 HW0.out HX5.out.1 HX5.out.2.1
          clear t2
          go_wp2_with fail
          refine hc2.mono ?_
          rintro x V2 ⟨rfl, e1, P1, S1, hV2⟩
          have H1 : Hid (PermIn a mid e e1 ∧ SortedIn (ltOf cf) a mid e1) := ⟨P1, S1⟩
          have HW1 : Hid (SWK enc k w0 blk off e1 V2) := hV2
          clear P1 S1 hV2 hc2
          by_cases t3 : mid < en ∧ en < b
          · have t3a : (mid : Int) < (en : Int) := by omega
            have t3b : (en : Int) < (b : Int) := by omega
            obtain ⟨P1, S1⟩ := H1.out
            have hc3 := HRR.out en t3.1 t3.2 e1 _ (by rw [P1.1, HE.out.1.1]) HW1.out (srt_keep P1 (Nat.le_refl _) HX5.out.2.2.1) (srt_keep P1 (by omega) HX5.out.2.2.2.1)
            clear t3 P1 S1
            go_wp2_with fail
            all_goals
              refine hc3.mono ?_
              rintro x V3 ⟨rfl, e2, P2, S2, hV3⟩
              have H2 : Hid (PermIn mid b e1 e2 ∧ SortedIn (ltOf cf) mid b e2 ∧ SWK enc k w0 blk off e2 V3) := ⟨P2, S2, hV3⟩
              clear P2 S2 hV3 hc3
              go_wp2
              go_end0
              obtain ⟨P2, S2, hV3⟩ := H2.out
              have j := sym_join e e1 e2 a mid b (by omega) (by omega) (by rw [HE.out.1.1]; exact hb) HX5.out.2.2.2.2 H1.out.1 H1.out.2 P2 S2
              exact ⟨rfl, e2, permIn_trans _ _ _ _ _ HE.out.2 j.1, j.2, hV3⟩
          · have HT3 : Hid (¬ (mid < en ∧ en < b)) := t3
            by_cases t4 : mid < en
            · have t4a : (mid : Int) < (en : Int) := by omega
              have t4b : ¬ (en : Int) < (b : Int) := by omega
              clear t3
              go_wp2
              all_goals
                go_end0
                have S2 := srt_triv HT3.out l4 l3 (srt_keep H1.out.1 (Nat.le_refl _) HX5.out.2.2.1) (srt_keep H1.out.1 l4 HX5.out.2.2.2.1)
                have j := sym_join e e1 e1 a mid b (by omega) (by omega) (by rw [HE.out.1.1]; exact hb) HX5.out.2.2.2.2 H1.out.1 H1.out.2 (permIn_refl _ _ _) S2
                exact ⟨rfl, e1, permIn_trans _ _ _ _ _ HE.out.2 j.1, j.2, HW1.out⟩
            · have t4a : ¬ (mid : Int) < (en : Int) := by omega
              clear t3
              go_wp2
              all_goals
                go_end0
                have S2 := srt_triv HT3.out l4 l3 (srt_keep H1.out.1 (Nat.le_refl _) HX5.out.2.2.1) (srt_keep H1.out.1 l4 HX5.out.2.2.2.1)
                have j := sym_join e e1 e1 a mid b (by omega) (by omega) (by rw [HE.out.1.1]; exact hb) HX5.out.2.2.2.2 H1.out.1 H1.out.2 (permIn_refl _ _ _) S2
                exact ⟨rfl, e1, permIn_trans _ _ _ _ _ HE.out.2 j.1, j.2, HW1.out⟩
        · have H1 : Hid (PermIn a mid e e ∧ SortedIn (ltOf cf) a mid e) := ⟨permIn_refl _ _ _, srt_triv t2 (by omega) (by omega) HX5.out.1 HX5.out.2.1⟩
          obtain ⟨e1, he1⟩ : ∃ x, x = e := ⟨_, rfl⟩
          have HW1 : Hid (SWK enc k w0 blk off e1 W0) := by rw [he1]; exact HW0
          have H1 : Hid (PermIn a mid e e1 ∧ SortedIn (ltOf cf) a mid e1) := by rw [he1]; exact H1
          clear he1
          by_cases t5 : a < i
          · have t2a : (a : Int) < (i : Int) := by omega
            have t2b : ¬ (i : Int) < (mid : Int) := by omega
            clear t2
            by_cases t3 : mid < en ∧ en < b
            · have t3a : (mid : Int) < (en : Int) := by omega
              have t3b : (en : Int) < (b : Int) := by omega
              obtain ⟨P1, S1⟩ := H1.out
              have hc3 := HRR.out en t3.1 t3.2 e1 _ (by rw [P1.1, HE.out.1.1]) HW1.out (srt_keep P1 (Nat.le_refl _) HX5.out.2.2.1) (srt_keep P1 (by omega) HX5.out.2.2.2.1)
              clear t3 P1 S1
              go_wp2_with fail
              all_goals
                refine hc3.mono ?_
                rintro x V3 ⟨rfl, e2, P2, S2, hV3⟩
                have H2 : Hid (PermIn mid b e1 e2 ∧ SortedIn (ltOf cf) mid b e2 ∧ SWK enc k w0 blk off e2 V3) := ⟨P2, S2, hV3⟩
                clear P2 S2 hV3 hc3
                go_wp2
                go_end0
                obtain ⟨P2, S2, hV3⟩ := H2.out
                have j := sym_join e e1 e2 a mid b (by omega) (by omega) (by rw [HE.out.1.1]; exact hb) HX5.out.2.2.2.2 H1.out.1 H1.out.2 P2 S2
                exact ⟨rfl, e2, permIn_trans _ _ _ _ _ HE.out.2 j.1, j.2, hV3⟩
            · have HT3 : Hid (¬ (mid < en ∧ en < b)) := t3
              by_cases t4 : mid < en
              · have t4a : (mid : Int) < (en : Int) := by omega
                have t4b : ¬ (en : Int) < (b : Int) := by omega
                clear t3
                go_wp2
                all_goals
                  go_end0
                  have S2 := srt_triv HT3.out l4 l3 (srt_keep H1.out.1 (Nat.le_refl _) HX5.out.2.2.1) (srt_keep H1.out.1 l4 HX5.out.2.2.2.1)
                  have j := sym_join e e1 e1 a mid b (by omega) (by omega) (by rw [HE.out.1.1]; exact hb) HX5.out.2.2.2.2 H1.out.1 H1.out.2 (permIn_refl _ _ _) S2
                  exact ⟨rfl, e1, permIn_trans _ _ _ _ _ HE.out.2 j.1, j.2, HW1.out⟩
              · have t4a : ¬ (mid : Int) < (en : Int) := by omega
                clear t3
                go_wp2
                all_goals
                  go_end0
                  have S2 := srt_triv HT3.out l4 l3 (srt_keep H1.out.1 (Nat.le_refl _) HX5.out.2.2.1) (srt_keep H1.out.1 l4 HX5.out.2.2.2.1)
                  have j := sym_join e e1 e1 a mid b (by omega) (by omega) (by rw [HE.out.1.1]; exact hb) HX5.out.2.2.2.2 H1.out.1 H1.out.2 (permIn_refl _ _ _) S2
                  exact ⟨rfl, e1, permIn_trans _ _ _ _ _ HE.out.2 j.1, j.2, HW1.out⟩
          · have t2a : ¬ (a : Int) < (i : Int) := by omega
            clear t2
            by_cases t3 : mid < en ∧ en < b
            · have t3a : (mid : Int) < (en : Int) := by omega
              have t3b : (en : Int) < (b : Int) := by omega
              obtain ⟨P1, S1⟩ := H1.out
              have hc3 := HRR.out en t3.1 t3.2 e1 _ (by rw [P1.1, HE.out.1.1]) HW1.out (srt_keep P1 (Nat.le_refl _) HX5.out.2.2.1) (srt_keep P1 (by omega) HX5.out.2.2.2.1)
              clear t3 P1 S1
              go_wp2_with fail
              all_goals
                refine hc3.mono ?_
                rintro x V3 ⟨rfl, e2, P2, S2, hV3⟩
                have H2 : Hid (PermIn mid b e1 e2 ∧ SortedIn (ltOf cf) mid b e2 ∧ SWK enc k w0 blk off e2 V3) := ⟨P2, S2, hV3⟩
                clear P2 S2 hV3 hc3
                go_wp2
                go_end0
                obtain ⟨P2, S2, hV3⟩ := H2.out
                have j := sym_join e e1 e2 a mid b (by omega) (by omega) (by rw [HE.out.1.1]; exact hb) HX5.out.2.2.2.2 H1.out.1 H1.out.2 P2 S2
                exact ⟨rfl, e2, permIn_trans _ _ _ _ _ HE.out.2 j.1, j.2, hV3⟩
            · have HT3 : Hid (¬ (mid < en ∧ en < b)) := t3
              by_cases t4 : mid < en
              · have t4a : (mid : Int) < (en : Int) := by omega
                have t4b : ¬ (en : Int) < (b : Int) := by omega
                clear t3
                go_wp2
                all_goals
                  go_end0
                  have S2 := srt_triv HT3.out l4 l3 (srt_keep H1.out.1 (Nat.le_refl _) HX5.out.2.2.1) (srt_keep H1.out.1 l4 HX5.out.2.2.2.1)
                  have j := sym_join e e1 e1 a mid b (by omega) (by omega) (by rw [HE.out.1.1]; exact hb) HX5.out.2.2.2.2 H1.out.1 H1.out.2 (permIn_refl _ _ _) S2
                  exact ⟨rfl, e1, permIn_trans _ _ _ _ _ HE.out.2 j.1, j.2, HW1.out⟩
              · have t4a : ¬ (mid : Int) < (en : Int) := by omega
                clear t3
                go_wp2
                all_goals
                  go_end0
                  have S2 := srt_triv HT3.out l4 l3 (srt_keep H1.out.1 (Nat.le_refl _) HX5.out.2.2.1) (srt_keep H1.out.1 l4 HX5.out.2.2.2.1)
                  have j := sym_join e e1 e1 a mid b (by omega) (by omega) (by rw [HE.out.1.1]; exact hb) HX5.out.2.2.2.2 H1.out.1 H1.out.2 (permIn_refl _ _ _) S2
                  exact ⟨rfl, e1, permIn_trans _ _ _ _ _ HE.out.2 j.1, j.2, HW1.out⟩
      · have hRot : Rot d d i m en := ⟨rfl, fun k => by congr 1; unfold rotI; split <;> (try split) <;> omega⟩
        obtain ⟨e, he⟩ : ∃ x, x = d := ⟨_, rfl⟩
        obtain ⟨W0, hW0⟩ : ∃ x, x = wr := ⟨_, rfl⟩
        have HE : Hid (Rot d e i m en ∧ PermIn a b d e) := by rw [he]; exact ⟨hRot, permIn_refl _ _ _⟩
        have HW0 : Hid (SWK enc k w0 blk off e W0) := by rw [he, hW0]; exact HV
        rw [← hW0]
        clear hRot he hW0
        by_cases t6 : i < m
        · have t1a : (i : Int) < (m : Int) := by omega
          have t1b : ¬ (m : Int) < (en : Int) := by omega
          clear t1
          have HX5 : Hid (SortedIn (ltOf cf) a i e ∧ SortedIn (ltOf cf) i mid e ∧ SortedIn (ltOf cf) mid en e ∧ SortedIn (ltOf cf) en b e ∧ ∀ x y, a ≤ x → x < mid → mid ≤ y → y < b → ltOf cf e[y]! e[x]! = false) := sym_cross HSW.out d e a m b mid i en HLE.out (by omega) (by omega) (by omega) l2 l3 HE.out.1 HS1.out HS2.out HQ.out.1 HQ.out.2
          by_cases t2 : a < i ∧ i < mid
          · have t2a : (a : Int) < (i : Int) := by omega
            have t2b : (i : Int) < (mid : Int) := by omega
            have hc2 := HL.out i t2.1 t2.2 e W0 HE.out.1.1 HW0.out HX5.out.1 HX5.out.2.1
            clear t2
            go_wp2_with fail
            refine hc2.mono ?_
            rintro x V2 ⟨rfl, e1, P1, S1, hV2⟩
            have H1 : Hid (PermIn a mid e e1 ∧ SortedIn (ltOf cf) a mid e1) := ⟨P1, S1⟩
            have HW1 : Hid (SWK enc k w0 blk off e1 V2) := hV2
            clear P1 S1 hV2 hc2
            by_cases t3 : mid < en ∧ en < b
            · have t3a : (mid : Int) < (en : Int) := by omega
              have t3b : (en : Int) < (b : Int) := by omega
              obtain ⟨P1, S1⟩ := H1.out
              have hc3 := HRR.out en t3.1 t3.2 e1 _ (by rw [P1.1, HE.out.1.1]) HW1.out (srt_keep P1 (Nat.le_refl _) HX5.out.2.2.1) (srt_keep P1 (by omega) HX5.out.2.2.2.1)
              clear t3 P1 S1
              go_wp2_with fail
              all_goals
                refine hc3.mono ?_
                rintro x V3 ⟨rfl, e2, P2, S2, hV3⟩
                have H2 : Hid (PermIn mid b e1 e2 ∧ SortedIn (ltOf cf) mid b e2 ∧ SWK enc k w0 blk off e2 V3) := ⟨P2, S2, hV3⟩
                clear P2 S2 hV3 hc3
                go_wp2
                go_end0
                obtain ⟨P2, S2, hV3⟩ := H2.out
                have j := sym_join e e1 e2 a mid b (by omega) (by omega) (by rw [HE.out.1.1]; exact hb) HX5.out.2.2.2.2 H1.out.1 H1.out.2 P2 S2
                exact ⟨rfl, e2, permIn_trans _ _ _ _ _ HE.out.2 j.1, j.2, hV3⟩
            · have HT3 : Hid (¬ (mid < en ∧ en < b)) := t3
              by_cases t4 : mid < en
              · have t4a : (mid : Int) < (en : Int) := by omega
                have t4b : ¬ (en : Int) < (b : Int) := by omega
                clear t3
                go_wp2
                all_goals
                  go_end0
                  have S2 := srt_triv HT3.out l4 l3 (srt_keep H1.out.1 (Nat.le_refl _) HX5.out.2.2.1) (srt_keep H1.out.1 l4 HX5.out.2.2.2.1)
                  have j := sym_join e e1 e1 a mid b (by omega) (by omega) (by rw [HE.out.1.1]; exact hb) HX5.out.2.2.2.2 H1.out.1 H1.out.2 (permIn_refl _ _ _) S2
                  exact ⟨rfl, e1, permIn_trans _ _ _ _ _ HE.out.2 j.1, j.2, HW1.out⟩
              · have t4a : ¬ (mid : Int) < (en : Int) := by omega
                clear t3
                go_wp2
                all_goals
                  go_end0
                  have S2 := srt_triv HT3.out l4 l3 (srt_keep H1.out.1 (Nat.le_refl _) HX5.out.2.2.1) (srt_keep H1.out.1 l4 HX5.out.2.2.2.1)
                  have j := sym_join e e1 e1 a mid b (by omega) (by omega) (by rw [HE.out.1.1]; exact hb) HX5.out.2.2.2.2 H1.out.1 H1.out.2 (permIn_refl _ _ _) S2
                  exact ⟨rfl, e1, permIn_trans _ _ _ _ _ HE.out.2 j.1, j.2, HW1.out⟩
          · have H1 : Hid (PermIn a mid e e ∧ SortedIn (ltOf cf) a mid e) := ⟨permIn_refl _ _ _, srt_triv t2 (by omega) (by omega) HX5.out.1 HX5.out.2.1⟩
            obtain ⟨e1, he1⟩ : ∃ x, x = e := ⟨_, rfl⟩
            have HW1 : Hid (SWK enc k w0 blk off e1 W0) := by rw [he1]; exact HW0
            have H1 : Hid (PermIn a mid e e1 ∧ SortedIn (ltOf cf) a mid e1) := by rw [he1]; exact H1
            clear he1
            by_cases t5 : a < i
            · have t2a : (a : Int) < (i : Int) := by omega
              have t2b : ¬ (i : Int) < (mid : Int) := by omega
              clear t2
              by_cases t3 : mid < en ∧ en < b
              · have t3a : (mid : Int) < (en : Int) := by omega
                have t3b : (en : Int) < (b : Int) := by omega
                obtain ⟨P1, S1⟩ := H1.out
                have hc3 := HRR.out en t3.1 t3.2 e1 _ (by rw [P1.1, HE.out.1.1]) HW1.out (srt_keep P1 (Nat.le_refl _) HX5.out.2.2.1) (srt_keep P1 (by omega) HX5.out.2.2.2.1)
                clear t3 P1 S1
                go_wp2_with fail
                all_goals
                  refine hc3.mono ?_
                  rintro x V3 ⟨rfl, e2, P2, S2, hV3⟩
                  have H2 : Hid (PermIn mid b e1 e2 ∧ SortedIn (ltOf cf) mid b e2 ∧ SWK enc k w0 blk off e2 V3) := ⟨P2, S2, hV3⟩
                  clear P2 S2 hV3 hc3
                  go_wp2
                  go_end0
                  obtain ⟨P2, S2, hV3⟩ := H2.out
                  have j := sym_join e e1 e2 a mid b (by omega) (by omega) (by rw [HE.out.1.1]; exact hb) HX5.out.2.2.2.2 H1.out.1 H1.out.2 P2 S2
                  exact ⟨rfl, e2, permIn_trans _ _ _ _ _ HE.out.2 j.1, j.2, hV3⟩
              · have HT3 : Hid (¬ (mid < en ∧ en < b)) := t3
                by_cases t4 : mid < en
                · have t4a : (mid : Int) < (en : Int) := by omega
                  have t4b : ¬ (en : Int) < (b : Int) := by omega
                  clear t3
                  go_wp2
                  all_goals
                    go_end0
                    have S2 := srt_triv HT3.out l4 l3 (srt_keep H1.out.1 (Nat.le_refl _) HX5.out.2.2.1) (srt_keep H1.out.1 l4 HX5.out.2.2.2.1)
                    have j := sym_join e e1 e1 a mid b (by omega) (by omega) (by rw [HE.out.1.1]; exact hb) HX5.out.2.2.2.2 H1.out.1 H1.out.2 (permIn_refl _ _ _) S2
                    exact ⟨rfl, e1, permIn_trans _ _ _ _ _ HE.out.2 j.1, j.2, HW1.out⟩
                · have t4a : ¬ (mid : Int) < (en : Int) := by omega
                  clear t3
                  go_wp2
                  all_goals
                    go_end0
                    have S2 := srt_triv HT3.out l4 l3 (srt_keep H1.out.1 (Nat.le_refl _) HX5.out.2.2.1) (srt_keep H1.out.1 l4 HX5.out.2.2.2.1)
                    have j := sym_join e e1 e1 a mid b (by omega) (by omega) (by rw [HE.out.1.1]; exact hb) HX5.out.2.2.2.2 H1.out.1 H1.out.2 (permIn_refl _ _ _) S2
                    exact ⟨rfl, e1, permIn_trans _ _ _ _ _ HE.out.2 j.1, j.2, HW1.out⟩
            · have t2a : ¬ (a : Int) < (i : Int) := by omega
              clear t2
              by_cases t3 : mid < en ∧ en < b
              · have t3a : (mid : Int) < (en : Int) := by omega
                have t3b : (en : Int) < (b : Int) := by omega
                obtain ⟨P1, S1⟩ := H1.out
                have hc3 := HRR.out en t3.1 t3.2 e1 _ (by rw [P1.1, HE.out.1.1]) HW1.out (srt_keep P1 (Nat.le_refl _) HX5.out.2.2.1) (srt_keep P1 (by omega) HX5.out.2.2.2.1)
                clear t3 P1 S1
                go_wp2_with fail
                all_goals
                  refine hc3.mono ?_
                  rintro x V3 ⟨rfl, e2, P2, S2, hV3⟩
                  have H2 : Hid (PermIn mid b e1 e2 ∧ SortedIn (ltOf cf) mid b e2 ∧ SWK enc k w0 blk off e2 V3) := ⟨P2, S2, hV3⟩
                  clear P2 S2 hV3 hc3
                  go_wp2
                  go_end0
                  obtain ⟨P2, S2, hV3⟩ := H2.out
                  have j := sym_join e e1 e2 a mid b (by omega) (by omega) (by rw [HE.out.1.1]; exact hb) HX5.out.2.2.2.2 H1.out.1 H1.out.2 P2 S2
                  exact ⟨rfl, e2, permIn_trans _ _ _ _ _ HE.out.2 j.1, j.2, hV3⟩
              · have HT3 : Hid (¬ (mid < en ∧ en < b)) := t3
                by_cases t4 : mid < en
                · have t4a : (mid : Int) < (en : Int) := by omega
                  have t4b : ¬ (en : Int) < (b : Int) := by omega
                  clear t3
                  go_wp2
                  all_goals
                    go_end0
                    have S2 := srt_triv HT3.out l4 l3 (srt_keep H1.out.1 (Nat.le_refl _) HX5.out.2.2.1) (srt_keep H1.out.1 l4 HX5.out.2.2.2.1)
                    have j := sym_join e e1 e1 a mid b (by omega) (by omega) (by rw [HE.out.1.1]; exact hb) HX5.out.2.2.2.2 H1.out.1 H1.out.2 (permIn_refl _ _ _) S2
                    exact ⟨rfl, e1, permIn_trans _ _ _ _ _ HE.out.2 j.1, j.2, HW1.out⟩
                · have t4a : ¬ (mid : Int) < (en : Int) := by omega
                  clear t3
                  go_wp2
                  all_goals
                    go_end0
                    have S2 := srt_triv HT3.out l4 l3 (srt_keep H1.out.1 (Nat.le_refl _) HX5.out.2.2.1) (srt_keep H1.out.1 l4 HX5.out.2.2.2.1)
                    have j := sym_join e e1 e1 a mid b (by omega) (by omega) (by rw [HE.out.1.1]; exact hb) HX5.out.2.2.2.2 H1.out.1 H1.out.2 (permIn_refl _ _ _) S2
                    exact ⟨rfl, e1, permIn_trans _ _ _ _ _ HE.out.2 j.1, j.2, HW1.out⟩
        · have t1a : ¬ (i : Int) < (m : Int) := by omega
          clear t1
          have HX5 : Hid (SortedIn (ltOf cf) a i e ∧ SortedIn (ltOf cf) i mid e ∧ SortedIn (ltOf cf) mid en e ∧ SortedIn (ltOf cf) en b e ∧ ∀ x y, a ≤ x → x < mid → mid ≤ y → y < b → ltOf cf e[y]! e[x]! = false) := sym_cross HSW.out d e a m b mid i en HLE.out (by omega) (by omega) (by omega) l2 l3 HE.out.1 HS1.out HS2.out HQ.out.1 HQ.out.2
          by_cases t2 : a < i ∧ i < mid
          · have t2a : (a : Int) < (i : Int) := by omega
            have t2b : (i : Int) < (mid : Int) := by omega
            have hc2 := HL.out i t2.1 t2.2 e W0 HE.out.1.1 HW0.out HX5.out.1 HX5.out.2.1
            clear t2
            go_wp2_with fail
            refine hc2.mono ?_
            rintro x V2 ⟨rfl, e1, P1, S1, hV2⟩
            have H1 : Hid (PermIn a mid e e1 ∧ SortedIn (ltOf cf) a mid e1) := ⟨P1, S1⟩
            have HW1 : Hid (SWK enc k w0 blk off e1 V2) := hV2
            clear P1 S1 hV2 hc2
            by_cases t3 : mid < en ∧ en < b
            · have t3a : (mid : Int) < (en : Int) := by omega
              have t3b : (en : Int) < (b : Int) := by omega
              obtain ⟨P1, S1⟩ := H1.out
              have hc3 := HRR.out en t3.1 t3.2 e1 _ (by rw [P1.1, HE.out.1.1]) HW1.out (srt_keep P1 (Nat.le_refl _) HX5.out.2.2.1) (srt_keep P1 (by omega) HX5.out.2.2.2.1)
              clear t3 P1 S1
              go_wp2_with fail
              all_goals
                refine hc3.mono ?_
                rintro x V3 ⟨rfl, e2, P2, S2, hV3⟩
                have H2 : Hid (PermIn mid b e1 e2 ∧ SortedIn (ltOf cf) mid b e2 ∧ SWK enc k w0 blk off e2 V3) := ⟨P2, S2, hV3⟩
                clear P2 S2 hV3 hc3
                go_wp2
                go_end0
                obtain ⟨P2, S2, hV3⟩ := H2.out
                have j := sym_join e e1 e2 a mid b (by omega) (by omega) (by rw [HE.out.1.1]; exact hb) HX5.out.2.2.2.2 H1.out.1 H1.out.2 P2 S2
                exact ⟨rfl, e2, permIn_trans _ _ _ _ _ HE.out.2 j.1, j.2, hV3⟩
            · have HT3 : Hid (¬ (mid < en ∧ en < b)) := t3
              by_cases t4 : mid < en
              · have t4a : (mid : Int) < (en : Int) := by omega
                have t4b : ¬ (en : Int) < (b : Int) := by omega
                clear t3
                go_wp2
                all_goals
                  go_end0
                  have S2 := srt_triv HT3.out l4 l3 (srt_keep H1.out.1 (Nat.le_refl _) HX5.out.2.2.1) (srt_keep H1.out.1 l4 HX5.out.2.2.2.1)
                  have j := sym_join e e1 e1 a mid b (by omega) (by omega) (by rw [HE.out.1.1]; exact hb) HX5.out.2.2.2.2 H1.out.1 H1.out.2 (permIn_refl _ _ _) S2
                  exact ⟨rfl, e1, permIn_trans _ _ _ _ _ HE.out.2 j.1, j.2, HW1.out⟩
              · have t4a : ¬ (mid : Int) < (en : Int) := by omega
                clear t3
                go_wp2
                all_goals
                  go_end0
                  have S2 := srt_triv HT3.out l4 l3 (srt_keep H1.out.1 (Nat.le_refl _) HX5.out.2.2.1) (srt_keep H1.out.1 l4 HX5.out.2.2.2.1)
                  have j := sym_join e e1 e1 a mid b (by omega) (by omega) (by rw [HE.out.1.1]; exact hb) HX5.out.2.2.2.2 H1.out.1 H1.out.2 (permIn_refl _ _ _) S2
                  exact ⟨rfl, e1, permIn_trans _ _ _ _ _ HE.out.2 j.1, j.2, HW1.out⟩
          · have H1 : Hid (PermIn a mid e e ∧ SortedIn (ltOf cf) a mid e) := ⟨permIn_refl _ _ _, srt_triv t2 (by omega) (by omega) HX5.out.1 HX5.out.2.1⟩
            obtain ⟨e1, he1⟩ : ∃ x, x = e := ⟨_, rfl⟩
            have HW1 : Hid (SWK enc k w0 blk off e1 W0) := by rw [he1]; exact HW0
            have H1 : Hid (PermIn a mid e e1 ∧ SortedIn (ltOf cf) a mid e1) := by rw [he1]; exact H1
            clear he1
            by_cases t5 : a < i
            · have t2a : (a : Int) < (i : Int) := by omega
              have t2b : ¬ (i : Int) < (mid : Int) := by omega
              clear t2
              by_cases t3 : mid < en ∧ en < b
              · have t3a : (mid : Int) < (en : Int) := by omega
                have t3b : (en : Int) < (b : Int) := by omega
                obtain ⟨P1, S1⟩ := H1.out
                have hc3 := HRR.out en t3.1 t3.2 e1 _ (by rw [P1.1, HE.out.1.1]) HW1.out (srt_keep P1 (Nat.le_refl _) HX5.out.2.2.1) (srt_keep P1 (by omega) HX5.out.2.2.2.1)
                clear t3 P1 S1
                go_wp2_with fail
                all_goals
                  refine hc3.mono ?_
                  rintro x V3 ⟨rfl, e2, P2, S2, hV3⟩
                  have H2 : Hid (PermIn mid b e1 e2 ∧ SortedIn (ltOf cf) mid b e2 ∧ SWK enc k w0 blk off e2 V3) := ⟨P2, S2, hV3⟩
                  clear P2 S2 hV3 hc3
                  go_wp2
                  go_end0
                  obtain ⟨P2, S2, hV3⟩ := H2.out
                  have j := sym_join e e1 e2 a mid b (by omega) (by omega) (by rw [HE.out.1.1]; exact hb) HX5.out.2.2.2.2 H1.out.1 H1.out.2 P2 S2
                  exact ⟨rfl, e2, permIn_trans _ _ _ _ _ HE.out.2 j.1, j.2, hV3⟩
              · have HT3 : Hid (¬ (mid < en ∧ en < b)) := t3
                by_cases t4 : mid < en
                · have t4a : (mid : Int) < (en : Int) := by omega
                  have t4b : ¬ (en : Int) < (b : Int) := by omega
                  clear t3
                  go_wp2
                  all_goals
                    go_end0
                    have S2 := srt_triv HT3.out l4 l3 (srt_keep H1.out.1 (Nat.le_refl _) HX5.out.2.2.1) (srt_keep H1.out.1 l4 HX5.out.2.2.2.1)
                    have j := sym_join e e1 e1 a mid b (by omega) (by omega) (by rw [HE.out.1.1]; exact hb) HX5.out.2.2.2.2 H1.out.1 H1.out.2 (permIn_refl _ _ _) S2
                    exact ⟨rfl, e1, permIn_trans _ _ _ _ _ HE.out.2 j.1, j.2, HW1.out⟩
                · have t4a : ¬ (mid : Int) < (en : Int) := by omega
                  clear t3
                  go_wp2
                  all_goals
                    go_end0
                    have S2 := srt_triv HT3.out l4 l3 (srt_keep H1.out.1 (Nat.le_refl _) HX5.out.2.2.1) (srt_keep H1.out.1 l4 HX5.out.2.2.2.1)
                    have j := sym_join e e1 e1 a mid b (by omega) (by omega) (by rw [HE.out.1.1]; exact hb) HX5.out.2.2.2.2 H1.out.1 H1.out.2 (permIn_refl _ _ _) S2
                    exact ⟨rfl, e1, permIn_trans _ _ _ _ _ HE.out.2 j.1, j.2, HW1.out⟩
            · have t2a : ¬ (a : Int) < (i : Int) := by omega
              clear t2
              by_cases t3 : mid < en ∧ en < b
              · have t3a : (mid : Int) < (en : Int) := by omega
                have t3b : (en : Int) < (b : Int) := by omega
                obtain ⟨P1, S1⟩ := H1.out
                have hc3 := HRR.out en t3.1 t3.2 e1 _ (by rw [P1.1, HE.out.1.1]) HW1.out (srt_keep P1 (Nat.le_refl _) HX5.out.2.2.1) (srt_keep P1 (by omega) HX5.out.2.2.2.1)
                clear t3 P1 S1
                go_wp2_with fail
                all_goals
                  refine hc3.mono ?_
                  rintro x V3 ⟨rfl, e2, P2, S2, hV3⟩
                  have H2 : Hid (PermIn mid b e1 e2 ∧ SortedIn (ltOf cf) mid b e2 ∧ SWK enc k w0 blk off e2 V3) := ⟨P2, S2, hV3⟩
                  clear P2 S2 hV3 hc3
                  go_wp2
                  go_end0
                  obtain ⟨P2, S2, hV3⟩ := H2.out
                  have j := sym_join e e1 e2 a mid b (by omega) (by omega) (by rw [HE.out.1.1]; exact hb) HX5.out.2.2.2.2 H1.out.1 H1.out.2 P2 S2
                  exact ⟨rfl, e2, permIn_trans _ _ _ _ _ HE.out.2 j.1, j.2, hV3⟩
              · have HT3 : Hid (¬ (mid < en ∧ en < b)) := t3
                by_cases t4 : mid < en
                · have t4a : (mid : Int) < (en : Int) := by omega
                  have t4b : ¬ (en : Int) < (b : Int) := by omega
                  clear t3
                  go_wp2
                  all_goals
                    go_end0
                    have S2 := srt_triv HT3.out l4 l3 (srt_keep H1.out.1 (Nat.le_refl _) HX5.out.2.2.1) (srt_keep H1.out.1 l4 HX5.out.2.2.2.1)
                    have j := sym_join e e1 e1 a mid b (by omega) (by omega) (by rw [HE.out.1.1]; exact hb) HX5.out.2.2.2.2 H1.out.1 H1.out.2 (permIn_refl _ _ _) S2
                    exact ⟨rfl, e1, permIn_trans _ _ _ _ _ HE.out.2 j.1, j.2, HW1.out⟩
                · have t4a : ¬ (mid : Int) < (en : Int) := by omega
                  clear t3
                  go_wp2
                  all_goals
                    go_end0
                    have S2 := srt_triv HT3.out l4 l3 (srt_keep H1.out.1 (Nat.le_refl _) HX5.out.2.2.1) (srt_keep H1.out.1 l4 HX5.out.2.2.2.1)
                    have j := sym_join e e1 e1 a mid b (by omega) (by omega) (by rw [HE.out.1.1]; exact hb) HX5.out.2.2.2.2 H1.out.1 H1.out.2 (permIn_refl _ _ _) S2
                    exact ⟨rfl, e1, permIn_trans _ _ _ _ _ HE.out.2 j.1, j.2, HW1.out⟩
end Go.Proofs.YtmjfcneofpddiaaDoor
