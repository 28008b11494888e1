/- slices.symMergeCmpFunc at items of k cells, where the left stretch is one element. -/
import Derived.Test.YtmjfcneofpddiaaDoorQKRot
import Derived.Deep.QuietTactic
import Derived.BigQuiet
namespace Go.Proofs.YtmjfcneofpddiaaDoor
open Go.RowKit Go.Shelf Go.Lib Go.Sort
set_option linter.unusedVariables false
set_option linter.unusedSimpArgs false
variable {P : Program} {k : Nat} {N : Nat} [Inhabited (Fin N)] {enc : Fin N → List Value} {w0 : World} {blk off : Nat} {d0 : Array (Fin N)}

set_option maxRecDepth 100000 in
set_option maxHeartbeats 4000000 in
theorem ksymA_any (L : ItP P k) (R : RowK enc k w0 blk off d0) (g : Nat) (cb : Array Value) (eg : ∀ args w, (callFunc g args).run P w = .ok (.enter g args) w) (cf : Fin N → Fin N → Int) (hS : SWO (ltOf cf)) (hC : CmpLays P g cb enc k cf blk off d0.size w0)
    (cap a b : Nat) (d : Array (Fin N)) (hds : d.size = d0.size) (W : World) (hW : SWK enc k w0 blk off d W) (hab : a + 1 < b) (hb : b ≤ d.size) (hsz : d.size < 2305843009213693952) (hs : SortedIn (ltOf cf) (a + 1) b d) :
    Calls P 66 #[.slice (some ⟨blk, off, none⟩) d.size cap, .int .i64 (a : Int), .int .i64 ((a + 1 : Nat) : Int), .int .i64 (b : Int), .func (.func g) #[] cb] W fun e w' =>
      e = .returned (.tuple #[]) ∧ ∃ d', PermIn a b d d' ∧ SortedIn (ltOf cf) a b d' ∧ SWK enc k w0 blk off d' w' := by
  have HST : Hid (SWK enc k w0 blk off d W) := hW
  have HR : Aside (RowK enc k w0 blk off d0) := R
  have HC : Aside (CmpLays P g cb enc k cf blk off d0.size w0) := hC
  have HS : Hid (SortedIn (ltOf cf) (a + 1) b d) := hs
  have HSW : Hid (SWO (ltOf cf)) := hS
  have HDS : Hid (d.size = d0.size) := hds
  clear hW hC hs hS R hds
  have mixed := L.mixed; have t3 := L.t3; have a3 := L.a3; have z3 := L.z3; have v3 := L.v3; have t4 := L.t4; have a4 := L.a4; have z4 := L.z4; have v4 := L.v4; have t22 := L.t22; have a22 := L.a22; have z22 := L.z22; have v22 := L.v22; have aE := L.aE; have zE := L.zE
  have tU := L.tU; have aU := L.aU; have zU := L.zU; have vU := L.vU
  have u22 := run_underlying L.t22; have u3 := run_underlying L.t3; have uU := run_underlying L.tU
  have F := L.fsym
  clear L
  obtain ⟨m, hm⟩ : ∃ m, m = a + 1 := ⟨_, rfl⟩
  rw [← hm]
  have e1 : IntKind.i64.wrap ((m : Int) - (a : Int)) = 1 := by rw [IntKind.wrap_i64]; omega
  have HM : Hid (m = a + 1) := hm
  have hmb : m < b := by omega
  clear hm
  go_enter F, Tryd.ntmps66
  go_wp2
  go_loopg [10, 11] (b - m) (fun g u v wr => ∃ (i j : Nat), u = .int .i64 (i : Int) ∧ v = .int .i64 (j : Int) ∧ m ≤ i ∧ i ≤ j ∧ j ≤ b ∧ j - i ≤ g ∧ Hid (i = m ∨ ltOf cf d[i - 1]! d[a]! = true) ∧ Hid (j = b ∨ ltOf cf d[j]! d[a]! = false) ∧ Hid (SWK enc k w0 blk off d wr))
  case atStart => exact ⟨m, b, rfl, rfl, by omega, by omega, by omega, by omega, .inl rfl, .inl rfl, HST⟩
  case round =>
    obtain ⟨i, j, rfl, rfl, hmi, hij, hjb, hg, HI, HJ, HV⟩ := hrel
    by_cases hlt : i < j
    · have hltz : (i : Int) < (j : Int) := by omega
      obtain ⟨ij, hij2⟩ : ∃ x, x = i + j := ⟨_, rfl⟩
      have w1 : IntKind.i64.wrap ((i : Int) + (j : Int)) = (ij : Int) := by rw [IntKind.wrap_i64]; omega
      have w2 : IntKind.u64.wrap (ij : Int) = (ij : Int) := by rw [IntKind.wrap_u64]; omega
      obtain ⟨h, hh⟩ : ∃ x, x = ij / 2 := ⟨_, rfl⟩
      have w3 : IntKind.i64.wrap (h : Int) = (h : Int) := by rw [IntKind.wrap_i64]; omega
      have w4 : IntKind.u64.wrap (h : Int) = (h : Int) := by rw [IntKind.wrap_u64]; omega
      have w5 : (ij : Int) / 2 = (h : Int) := by omega
      have hih : i ≤ h := by omega
      have hhj : h < j := by omega
      have HHH : Hid (h = ij / 2 ∧ ij = i + j) := ⟨hh, hij2⟩
      clear hh hij2
      have l1 := HV.out.ld HR.out HDS.out P h (by omega)
      have l2 := HV.out.ld HR.out HDS.out P a (by omega)
      obtain ⟨xh, hxh⟩ : ∃ x, d[h]! = x := ⟨_, rfl⟩
      obtain ⟨xa, hxa⟩ : ∃ x, d[a]! = x := ⟨_, rfl⟩
      rw [hxh] at l1
      rw [hxa] at l2
      have hc := HV.out.cmp HC.out HDS.out xh xa
      have HX : Hid (d[h]! = xh ∧ d[a]! = xa) := ⟨hxh, hxa⟩
      clear hxh hxa
      have b1 : (h : Int) < (d.size : Int) := by omega
      have b2 : (a : Int) < (d.size : Int) := by omega
      have b3 : (0 : Int) ≤ (h : Int) := by omega
      have b4 : (0 : Int) ≤ (a : Int) := by omega
      obtain ⟨r, hr⟩ : ∃ r, cf xh xa = r := ⟨_, rfl⟩
      rw [hr] at hc
      have HRR : Hid (cf xh xa = r) := hr
      clear hr
      by_cases hlv : r < 0
      · go_wp2_with fail
        go_quiet_grown (first | (go_at_fn g; refine Calls.grown_of (hc _ _)))
        go_wp2
        go_roundg (j - (h + 1))
        case measure => omega
        case rel =>
          refine ⟨h + 1, j, by go_num, rfl, by omega, by omega, hjb, by omega, (show Hid _ from .inr ?_), HJ, HV.out.grown _ _⟩
          rw [Nat.add_sub_cancel, HX.out.1, HX.out.2]; unfold ltOf; rw [HRR.out]; exact decide_eq_true hlv
      · go_wp2_with fail
        go_quiet_grown (first | (go_at_fn g; refine Calls.grown_of (hc _ _)))
        go_wp2
        go_roundg (h - i)
        case measure => omega
        case rel =>
          refine ⟨i, h, rfl, rfl, by omega, by omega, by omega, by omega, HI, (show Hid _ from .inr ?_), HV.out.grown _ _⟩
          rw [HX.out.1, HX.out.2]; unfold ltOf; rw [HRR.out]; exact decide_eq_false (by omega)
    · obtain rfl : i = j := by omega
      have hltz : ¬ (i : Int) < (i : Int) := by omega
      obtain ⟨i1, hi1⟩ : ∃ x, x = i - 1 := ⟨_, rfl⟩
      have hm' := HM.out
      have z1 : IntKind.i64.wrap ((i : Int) - 1) = (i1 : Int) := by rw [IntKind.wrap_i64]; omega
      have hai : a ≤ i1 := by omega
      have hib : i1 < b := by omega
      have HI1 : Hid (i = i1 + 1) := by show _ = _; omega
      clear hm' hi1 hltz
      have hlt0 : ¬ (i : Int) < (i : Int) := by omega
      go_wp2
      go_loopg [13] (b - a) (fun g v wr => ∃ (t q : Nat), v = .int .i64 (q : Int) ∧ q = a + t ∧ q ≤ i1 ∧ i1 - q ≤ g ∧ Hid (SWK enc k w0 blk off (shU d a t) wr))
      case atStart => exact ⟨0, a, rfl, rfl, hai, by omega, HV⟩
      case round =>
        obtain ⟨t, q, rfl, hk, hki, hg2, HV2⟩ := hrel
        by_cases hkl : q < i1
        · have hklz : (q : Int) < (i1 : Int) := by omega
          have hs2 := shU_size d a t
          have hs3 : (shU d a t).size = d0.size := by rw [hs2]; exact HDS.out
          obtain ⟨p2, hp2⟩ : ∃ p, p = q + 1 := ⟨_, rfl⟩
          have lj2 := HV2.out.ld1 HR.out hs3 P q (by omega)
          have lp2 := HV2.out.ld1 HR.out hs3 P p2 (by omega)
          have s1 := HV2.out.st1 HR.out hs3 P q (by omega) (shU d a t)[p2]!
          have s2 := HV2.out.st2 HR.out hs3 P q p2 (by omega) (by omega) (shU d a t)[p2]! (shU d a t)[q]!
          have SW : Hid _ := HV2.out.swapped HR.out q p2 (by omega) (by omega)
          have hsJ : (enc (shU d a t)[q]!).length = k := HR.out.hk _
          have hsP : (enc (shU d a t)[p2]!).length = k := HR.out.hk _
          obtain ⟨cJ, hcJ⟩ : ∃ c, c = enc (shU d a t)[q]! := ⟨_, rfl⟩
          obtain ⟨cP, hcP⟩ : ∃ c, c = enc (shU d a t)[p2]! := ⟨_, rfl⟩
          rw [← hcP] at s1 lp2 hsP
          rw [← hcJ] at lj2 hsJ
          rw [← hcJ, ← hcP] at s2 SW
          have hw2 : IntKind.i64.wrap ((q : Int) + 1) = (p2 : Int) := by rw [IntKind.wrap_i64]; omega
          have hl1 : (q : Int) < (d.size : Int) := by omega
          have hl2 : (p2 : Int) < (d.size : Int) := by omega
          have q1 : (0 : Int) ≤ (q : Int) := by omega
          have q2 : (0 : Int) ≤ (p2 : Int) := by omega
          have HX : Hid (p2 = q + 1 ∧ q = a + t) := ⟨hp2, hk⟩
          clear hp2 hk hcJ hcP hs2 hs3
          go_wp2_with fail
          go_big_region_o
          all_goals go_wp2
          go_roundg (i1 - (q + 1))
          case measure => omega
          case rel =>
            obtain ⟨y3, y4⟩ := HX.out
            refine ⟨t + 1, q + 1, by first | rfl | go_num | (rw [y3]; rfl), by omega, by omega, by omega, (show Hid _ from ?_)⟩
            have h := SW.out
            show SWK _ _ _ _ _ _ _
            rw [shU, ← y4, ← y3]
            exact h
        · obtain rfl : q = i1 := by omega
          have hklz : ¬ (q : Int) < (q : Int) := by omega
          have HX : Hid (q = a + t) := hk
          clear hk
          go_wp2
          (try simp only [Exit.inBlock, Exit.then]); refine bodyPost_ret (results_none rfl _ _ _) rfl ?_
          have y := HX.out
          have y2 := HI1.out
          have y3 := HM.out
          refine ⟨rfl, shU d a t, shU_perm d a a b (Nat.le_refl _) hb t (by omega), shU_sorted HSW.out d a b t hb (by omega) HS.out ?_ ?_, HV2.out⟩
          · rcases HI.out with h | h
            · exact .inl (by omega)
            · right; rw [← y, show q = i - 1 by omega]; exact h
          · rcases HJ.out with h | h
            · exact .inl (by omega)
            · right; rw [← y, ← y2]; exact h
end Go.Proofs.YtmjfcneofpddiaaDoor
