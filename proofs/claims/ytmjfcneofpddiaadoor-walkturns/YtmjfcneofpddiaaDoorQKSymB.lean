/- slices.symMergeCmpFunc at items of k cells, where the right stretch is one element. -/
import Derived.Test.YtmjfcneofpddiaaDoorQKSymA
namespace Go.Proofs.YtmjfcneofpddiaaDoor
open Go.RowKit Go.Shelf Go.Lib Go.Sort
set_option linter.unusedVariables false
set_option linter.unusedSimpArgs false
variable {P : Program} {k : Nat} {N : Nat} [Inhabited (Fin N)] {enc : Fin N → List Value} {w0 : World} {blk off : Nat} {d0 : Array (Fin N)}

set_option maxRecDepth 100000 in
set_option maxHeartbeats 4000000 in
theorem ksymB_any (L : ItP P k) (R : RowK enc k w0 blk off d0) (g : Nat) (cb : Array Value) (eg : ∀ args w, (callFunc g args).run P w = .ok (.enter g args) w) (cf : Fin N → Fin N → Int) (hS : SWO (ltOf cf)) (hC : CmpLays P g cb enc k cf blk off d0.size w0)
    (cap a m : Nat) (d : Array (Fin N)) (hds : d.size = d0.size) (W : World) (hW : SWK enc k w0 blk off d W) (ham : a + 1 < m) (hb : m < d.size) (hsz : d.size < 2305843009213693952) (hs : SortedIn (ltOf cf) a m d) :
    Calls P 66 #[.slice (some ⟨blk, off, none⟩) d.size cap, .int .i64 (a : Int), .int .i64 (m : Int), .int .i64 ((m + 1 : Nat) : Int), .func (.func g) #[] cb] W fun e w' =>
      e = .returned (.tuple #[]) ∧ ∃ d', PermIn a (m + 1) d d' ∧ SortedIn (ltOf cf) a (m + 1) d' ∧ SWK enc k w0 blk off d' w' := by
  have HST : Hid (SWK enc k w0 blk off d W) := hW
  have HR : Aside (RowK enc k w0 blk off d0) := R
  have HC : Aside (CmpLays P g cb enc k cf blk off d0.size w0) := hC
  have HS : Hid (SortedIn (ltOf cf) a m d) := hs
  have HSW : Hid (SWO (ltOf cf)) := hS
  have HDS : Hid (d.size = d0.size) := hds
  clear hW hC hs hS R hds
  have mixed := L.mixed; have t3 := L.t3; have a3 := L.a3; have z3 := L.z3; have v3 := L.v3; have t4 := L.t4; have a4 := L.a4; have z4 := L.z4; have v4 := L.v4; have t22 := L.t22; have a22 := L.a22; have z22 := L.z22; have v22 := L.v22; have aE := L.aE; have zE := L.zE
  have tU := L.tU; have aU := L.aU; have zU := L.zU; have vU := L.vU
  have u22 := run_underlying L.t22; have u3 := run_underlying L.t3; have uU := run_underlying L.tU
  have F := L.fsym
  clear L
  obtain ⟨b, hbm⟩ : ∃ b, b = m + 1 := ⟨_, rfl⟩
  rw [← hbm]
  obtain ⟨ma, hma⟩ : ∃ x, x = m - a := ⟨_, rfl⟩
  have e0 : IntKind.i64.wrap ((m : Int) - (a : Int)) = (ma : Int) := by rw [IntKind.wrap_i64]; omega
  have e01 : ((ma : Int) == 1) = false := by simp; omega
  have e1 : IntKind.i64.wrap ((b : Int) - (m : Int)) = 1 := by rw [IntKind.wrap_i64]; omega
  have HB : Hid (b = m + 1) := hbm
  have hmb : m < b := by omega
  have hbs : b ≤ d.size := by omega
  clear hbm hma
  go_enter F, Tryd.ntmps66
  go_wp2
  go_loopg [14, 15] (m - a) (fun g u v wr => ∃ (i j : Nat), u = .int .i64 (i : Int) ∧ v = .int .i64 (j : Int) ∧ a ≤ i ∧ i ≤ j ∧ j ≤ m ∧ j - i ≤ g ∧ Hid (i = a ∨ ltOf cf d[m]! d[i - 1]! = false) ∧ Hid (j = m ∨ ltOf cf d[m]! d[j]! = true) ∧ Hid (SWK enc k w0 blk off d wr))
  case atStart => exact ⟨a, m, rfl, rfl, by omega, by omega, by omega, by omega, .inl rfl, .inl rfl, HST⟩
  case round =>
    obtain ⟨i, j, rfl, rfl, hmi, hij, hjb, hg, HI, HJ, HV⟩ := hrel
    by_cases hlt : i < j
    · have hltz : (i : Int) < (j : Int) := by omega
      obtain ⟨ij, hij2⟩ : ∃ x, x = i + j := ⟨_, rfl⟩
      have w1 : IntKind.i64.wrap ((i : Int) + (j : Int)) = (ij : Int) := by rw [IntKind.wrap_i64]; omega
      have w2 : IntKind.u64.wrap (ij : Int) = (ij : Int) := by rw [IntKind.wrap_u64]; omega
      obtain ⟨h, hh⟩ : ∃ x, x = ij / 2 := ⟨_, rfl⟩
      have w3 : IntKind.i64.wrap (h : Int) = (h : Int) := by rw [IntKind.wrap_i64]; omega
      have w4 : IntKind.u64.wrap (h : Int) = (h : Int) := by rw [IntKind.wrap_u64]; omega
      have w5 : (ij : Int) / 2 = (h : Int) := by omega
      have hih : i ≤ h := by omega
      have hhj : h < j := by omega
      have HHH : Hid (h = ij / 2 ∧ ij = i + j) := ⟨hh, hij2⟩
      clear hh hij2
      have l1 := HV.out.ld HR.out HDS.out P h (by omega)
      have l2 := HV.out.ld HR.out HDS.out P m (by omega)
      obtain ⟨xh, hxh⟩ : ∃ x, d[h]! = x := ⟨_, rfl⟩
      obtain ⟨xa, hxa⟩ : ∃ x, d[m]! = x := ⟨_, rfl⟩
      rw [hxh] at l1
      rw [hxa] at l2
      have hc := HV.out.cmp HC.out HDS.out xa xh
      have HX : Hid (d[h]! = xh ∧ d[m]! = xa) := ⟨hxh, hxa⟩
      clear hxh hxa
      have b1 : (h : Int) < (d.size : Int) := by omega
      have b2 : (m : Int) < (d.size : Int) := by omega
      have b3 : (0 : Int) ≤ (h : Int) := by omega
      have b4 : (0 : Int) ≤ (m : Int) := by omega
      obtain ⟨r, hr⟩ : ∃ r, cf xa xh = r := ⟨_, rfl⟩
      rw [hr] at hc
      have HRR : Hid (cf xa xh = r) := hr
      clear hr
      by_cases hlv : r < 0
      · go_wp2_with fail
        go_quiet_grown (first | (go_at_fn g; refine Calls.grown_of (hc _ _)))
        go_wp2
        go_roundg (h - i)
        case measure => omega
        case rel =>
          refine ⟨i, h, rfl, rfl, by omega, by omega, by omega, by omega, HI, (show Hid _ from .inr ?_), HV.out.grown _ _⟩
          rw [HX.out.1, HX.out.2]; unfold ltOf; rw [HRR.out]; exact decide_eq_true (by omega)
      · have hld : decide (r < 0) = false := decide_eq_false hlv
        go_wp2_with fail
        go_quiet_grown (first | (go_at_fn g; refine Calls.grown_of (hc _ _)))
        go_wp2
        go_roundg (j - (h + 1))
        case measure => omega
        case rel =>
          refine ⟨h + 1, j, by go_num, rfl, by omega, by omega, hjb, by omega, (show Hid _ from .inr ?_), HJ, HV.out.grown _ _⟩
          rw [Nat.add_sub_cancel, HX.out.1, HX.out.2]; unfold ltOf; rw [HRR.out]; exact decide_eq_false (by omega)
    · obtain rfl : i = j := by omega
      have hlt0 : ¬ (i : Int) < (i : Int) := by omega
      go_wp2
      go_loopg [17] (m - i) (fun g v wr => ∃ (t q : Nat), v = .int .i64 (q : Int) ∧ q + t = m ∧ i ≤ q ∧ q - i ≤ g ∧ Hid (SWK enc k w0 blk off (shD d m t) wr))
      case atStart => exact ⟨0, m, rfl, rfl, by omega, by omega, HV⟩
      case round =>
        obtain ⟨t, q, rfl, hk, hki, hg2, HV2⟩ := hrel
        by_cases hkl : i < q
        · have hklz : (i : Int) < (q : Int) := by omega
          have hs2 := shD_size d m t
          have hs3 : (shD d m t).size = d0.size := by rw [hs2]; exact HDS.out
          obtain ⟨p2, hp2⟩ : ∃ p, p = q - 1 := ⟨_, rfl⟩
          have lj2 := HV2.out.ld1 HR.out hs3 P q (by omega)
          have lp2 := HV2.out.ld1 HR.out hs3 P p2 (by omega)
          have s1 := HV2.out.st1 HR.out hs3 P q (by omega) (shD d m t)[p2]!
          have s2 := HV2.out.st2 HR.out hs3 P q p2 (by omega) (by omega) (shD d m t)[p2]! (shD d m t)[q]!
          have SW : Hid _ := HV2.out.swapped HR.out q p2 (by omega) (by omega)
          have hsJ : (enc (shD d m t)[q]!).length = k := HR.out.hk _
          have hsP : (enc (shD d m t)[p2]!).length = k := HR.out.hk _
          obtain ⟨cJ, hcJ⟩ : ∃ c, c = enc (shD d m t)[q]! := ⟨_, rfl⟩
          obtain ⟨cP, hcP⟩ : ∃ c, c = enc (shD d m t)[p2]! := ⟨_, rfl⟩
          rw [← hcP] at s1 lp2 hsP
          rw [← hcJ] at lj2 hsJ
          rw [← hcJ, ← hcP] at s2 SW
          have hw2 : IntKind.i64.wrap ((q : Int) - 1) = (p2 : Int) := by rw [IntKind.wrap_i64]; omega
          have hl1 : (q : Int) < (d.size : Int) := by omega
          have hl2 : (p2 : Int) < (d.size : Int) := by omega
          have q1 : (0 : Int) ≤ (q : Int) := by omega
          have q2 : (0 : Int) ≤ (p2 : Int) := by omega
          have HX : Hid (p2 = q - 1 ∧ q + t = m) := ⟨hp2, hk⟩
          clear hp2 hk hcJ hcP hs2 hs3
          go_wp2_with fail
          go_big_region_o
          all_goals go_wp2
          go_roundg (p2 - i)
          case measure => have := HX.out.1; omega
          case rel =>
            obtain ⟨y3, y4⟩ := HX.out
            refine ⟨t + 1, p2, by first | rfl | go_num, by omega, by omega, by omega, (show Hid _ from ?_)⟩
            have h := SW.out
            show SWK _ _ _ _ _ _ _
            rw [shD, show m - t = q by omega, show q - 1 = p2 from y3.symm]
            exact h
        · obtain rfl : q = i := by omega
          have hklz : ¬ (q : Int) < (q : Int) := by omega
          have HX : Hid (q + t = m) := hk
          clear hk
          go_wp2
          (try simp only [Exit.inBlock, Exit.then]); refine bodyPost_ret (results_none rfl _ _ _) rfl ?_
          have y := HX.out
          rw [HB.out]
          refine ⟨rfl, shD d m t, shD_perm d m a (m + 1) (by omega) (by omega) t (by omega), shD_sorted HSW.out d a m t hb (by omega) HS.out ?_ ?_, HV2.out⟩
          · rcases HJ.out with h | h
            · exact .inl (by omega)
            · right; rw [show m - t = q by omega]; exact h
          · rcases HI.out with h | h
            · exact .inl (by omega)
            · right; rw [show m - t = q by omega]; exact h
end Go.Proofs.YtmjfcneofpddiaaDoor
