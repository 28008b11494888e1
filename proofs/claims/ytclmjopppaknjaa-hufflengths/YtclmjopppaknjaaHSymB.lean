/- slices.symMergeCmpFunc where the right stretch is one element. -/
import Derived.Test.YtclmjopppaknjaaHSymA
namespace Go.Proofs.Ytclmjopppaknjaa
open Go.RowKit Go.Shelf Go.Lib Go.Sort
set_option linter.unusedVariables false
set_option linter.unusedSimpArgs false
variable {N : Nat} [Inhabited (Fin N)]

set_option maxRecDepth 100000 in
set_option maxHeartbeats 4000000 in
theorem symB_any (cb : Value) (cf : Fin N → Fin N → Int) (hS : SWO (ltOf cf)) (blk off cap a m : Nat) (d : Array (Fin N)) (w : World) (hH : Holds eF w blk off d) (hC : CmpF cb cf blk off d.size w)
    (ham : a + 1 < m) (hb : m < d.size) (hsz : d.size < 2305843009213693952) (hs : SortedIn (ltOf cf) a m d) :
    Calls Try.prog 77 #[.slice (some ⟨blk, off, none⟩) d.size cap, .int .i64 (a : Int), .int .i64 (m : Int), .int .i64 ((m + 1 : Nat) : Int), .func (.func 49) #[] #[cb]] w fun e w' =>
      e = .returned (.tuple #[]) ∧ ∃ d', PermIn a (m + 1) d d' ∧ SortedIn (ltOf cf) a (m + 1) d' ∧ ∃ n, w' = (putRow eF w blk off d').drewN n := by
  have HST : Hid (w = (putRow eF w blk off d).drewN 0) := (putRow_self eF w blk off d hH).symm
  have HH : Hid (Holds eF w blk off d) := hH
  have HC : Hid (CmpF cb cf blk off d.size w) := hC
  have HS : Hid (SortedIn (ltOf cf) a m d) := hs
  have HSW : Hid (SWO (ltOf cf)) := hS
  clear hH hC hs hS
  obtain ⟨b, hbm⟩ : ∃ b, b = m + 1 := ⟨_, rfl⟩
  rw [← hbm]
  obtain ⟨ma, hma⟩ : ∃ x, x = m - a := ⟨_, rfl⟩
  have e0 : IntKind.i64.wrap ((m : Int) - (a : Int)) = (ma : Int) := by rw [IntKind.wrap_i64]; omega
  have e01 : ((ma : Int) == 1) = false := by simp; omega
  have e1 : IntKind.i64.wrap ((b : Int) - (m : Int)) = 1 := by rw [IntKind.wrap_i64]; omega
  have HB : Hid (b = m + 1) := hbm
  have hmb : m < b := by omega
  have hbs : b ≤ d.size := by omega
  clear hbm hma
  go_enter Try.func77, Try.ntmps77
  go_wp2
  go_loopg [14, 15] (m - a) (fun g u v wr => ∃ (i j n : Nat), u = .int .i64 (i : Int) ∧ v = .int .i64 (j : Int) ∧ a ≤ i ∧ i ≤ j ∧ j ≤ m ∧ j - i ≤ g ∧ Hid (i = a ∨ ltOf cf d[m]! d[i - 1]! = false) ∧ Hid (j = m ∨ ltOf cf d[m]! d[j]! = true) ∧ wr = (putRow eF w blk off d).drewN n)
  case atStart => exact ⟨a, m, 0, rfl, rfl, by omega, by omega, by omega, by omega, .inl rfl, .inl rfl, HST.out⟩
  case round =>
    obtain ⟨i, j, n, rfl, rfl, hmi, hij, hjb, hg, HI, HJ, rfl⟩ := hrel
    by_cases hlt : i < j
    · have hltz : (i : Int) < (j : Int) := by omega
      obtain ⟨ij, hij2⟩ : ∃ x, x = i + j := ⟨_, rfl⟩
      have w1 : IntKind.i64.wrap ((i : Int) + (j : Int)) = (ij : Int) := by rw [IntKind.wrap_i64]; omega
      have w2 : IntKind.u64.wrap (ij : Int) = (ij : Int) := by rw [IntKind.wrap_u64]; omega
      obtain ⟨h, hh⟩ : ∃ x, x = ij / 2 := ⟨_, rfl⟩
      have w3 : IntKind.i64.wrap (h : Int) = (h : Int) := by rw [IntKind.wrap_i64]; omega
      have w4 : IntKind.u64.wrap (h : Int) = (h : Int) := by rw [IntKind.wrap_u64]; omega
      have w5 : (ij : Int) / 2 = (h : Int) := by omega
      have hih : i ≤ h := by omega
      have hhj : h < j := by omega
      have HHH : Hid (h = ij / 2 ∧ ij = i + j) := ⟨hh, hij2⟩
      clear hh hij2
      have hHd := holds_putRow eF w blk off d d HH.out rfl
      obtain ⟨c1, _⟩ := hHd h (by omega)
      obtain ⟨c2, _⟩ := hHd m (by omega)
      obtain ⟨xh, hxh⟩ : ∃ x, d[h]! = x := ⟨_, rfl⟩
      obtain ⟨xa, hxa⟩ : ∃ x, d[m]! = x := ⟨_, rfl⟩
      rw [hxh] at c1
      rw [hxa] at c2
      have c1' : ((putRow eF w blk off d).drewN n).cell? ⟨blk, off + h, none⟩ = some (.int .i64 (xh.val : Int)) := c1
      have c2' : ((putRow eF w blk off d).drewN n).cell? ⟨blk, off + m, none⟩ = some (.int .i64 (xa.val : Int)) := c2
      have hc : ∀ k, Calls Try.prog 49 #[.int .i64 (xa.val : Int), .int .i64 (xh.val : Int), cb] (((putRow eF w blk off d).drewN n).drewN k) fun e w' => e = .returned (.int .i64 (cf xa xh)) ∧ ∃ q, w' = (((putRow eF w blk off d).drewN n).drewN k).drewN q := fun k => by
        have := HC.out d (n + k) xa xh rfl
        rw [← World.drewN_drewN] at this
        exact this
      clear c1 c2 hHd
      have HX : Hid (d[h]! = xh ∧ d[m]! = xa) := ⟨hxh, hxa⟩
      clear hxh hxa
      generalize hwq : (putRow eF w blk off d).drewN n = wq at c1' c2' hc ⊢
      have HW : Hid (wq = (putRow eF w blk off d).drewN n) := hwq.symm
      clear hwq
      have b1 : (h : Int) < (d.size : Int) := by omega
      have b2 : (m : Int) < (d.size : Int) := by omega
      have b3 : (0 : Int) ≤ (h : Int) := by omega
      have b4 : (0 : Int) ≤ (m : Int) := by omega
      generalize hv1 : (xh.val : Int) = v1 at c1' hc
      generalize hv2 : (xa.val : Int) = v2 at c2' hc
      clear hv1 hv2
      obtain ⟨r, hr⟩ : ∃ r, cf xa xh = r := ⟨_, rfl⟩
      rw [hr] at hc
      have HR : Hid (cf xa xh = r) := hr
      clear hr
      by_cases hlv : r < 0
      · go_wp2_with fail
        go_quiet (refine Calls.quiet_of (hc _))
        go_wp2
        go_roundg (h - i)
        case measure => omega
        case rel =>
          refine ⟨i, h, n + nq, rfl, rfl, by omega, by omega, by omega, by omega, HI, (show Hid _ from .inr ?_), by rw [HW.out, World.drewN_drewN]⟩
          rw [HX.out.1, HX.out.2]; unfold ltOf; rw [HR.out]; exact decide_eq_true (by omega)
      · have hld : decide (r < 0) = false := decide_eq_false hlv
        go_wp2_with fail
        go_quiet (refine Calls.quiet_of (hc _))
        go_wp2
        go_roundg (j - (h + 1))
        case measure => omega
        case rel =>
          refine ⟨h + 1, j, n + nq, by go_num, rfl, by omega, by omega, hjb, by omega, (show Hid _ from .inr ?_), HJ, by rw [HW.out, World.drewN_drewN]⟩
          rw [Nat.add_sub_cancel, HX.out.1, HX.out.2]; unfold ltOf; rw [HR.out]; exact decide_eq_false (by omega)
    · obtain rfl : i = j := by omega
      have hlt0 : ¬ (i : Int) < (i : Int) := by omega
      generalize hwq : (putRow eF w blk off d).drewN n = wq
      have HW : Hid (wq = (putRow eF w blk off d).drewN n) := hwq.symm
      clear hwq
      go_wp2
      go_loopg [17] (m - i) (fun g v wr => ∃ (t k n' : Nat), v = .int .i64 (k : Int) ∧ k + t = m ∧ i ≤ k ∧ k - i ≤ g ∧ wr = (putRow eF w blk off (shD d m t)).drewN n')
      case atStart => exact ⟨0, m, n, rfl, rfl, by omega, by omega, HW.out⟩
      case round =>
        obtain ⟨t, k, n', rfl, hk, hki, hg2, rfl⟩ := hrel
        by_cases hkl : i < k
        · have hklz : (i : Int) < (k : Int) := by omega
          have hs2 := shD_size d m t
          have hHj := holds_putRow eF w blk off d (shD d m t) HH.out hs2
          obtain ⟨p2, hp2⟩ : ∃ p, p = k - 1 := ⟨_, rfl⟩
          obtain ⟨c1, f1⟩ := hHj k (by omega)
          obtain ⟨c2, f2⟩ := hHj p2 (by omega)
          obtain ⟨x1, hx1⟩ : ∃ x, (shD d m t)[k]! = x := ⟨_, rfl⟩
          obtain ⟨x2, hx2⟩ : ∃ x, (shD d m t)[p2]! = x := ⟨_, rfl⟩
          rw [hx1] at c1
          rw [hx2] at c2
          have c1' : ((putRow eF w blk off (shD d m t)).drewN n').cell? ⟨blk, off + k, none⟩ = some (.int .i64 (x1.val : Int)) := c1
          have c2' : ((putRow eF w blk off (shD d m t)).drewN n').cell? ⟨blk, off + p2, none⟩ = some (.int .i64 (x2.val : Int)) := c2
          have f1' : ((putRow eF w blk off (shD d m t)).drewN n').frozen? ⟨blk, off + k, none⟩ = false := f1
          have f2' : ((putRow eF w blk off (shD d m t)).drewN n').frozen? ⟨blk, off + p2, none⟩ = false := f2
          have hw2 : IntKind.i64.wrap ((k : Int) - 1) = (p2 : Int) := by rw [IntKind.wrap_i64]; omega
          have hl1 : (k : Int) < (d.size : Int) := by omega
          have hl2 : (p2 : Int) < (d.size : Int) := by omega
          have q1 : (0 : Int) ≤ (k : Int) := by omega
          have q2 : (0 : Int) ≤ (p2 : Int) := by omega
          have HX : Hid ((shD d m t)[k]! = x1 ∧ (shD d m t)[p2]! = x2 ∧ p2 = k - 1 ∧ k + t = m) := ⟨hx1, hx2, hp2, hk⟩
          clear c1 c2 f1 f2 hHj hx1 hx2 hp2 hk
          generalize hwq2 : (putRow eF w blk off (shD d m t)).drewN n' = wq2 at c1' c2' f1' f2' ⊢
          have HW2 : Hid (wq2 = (putRow eF w blk off (shD d m t)).drewN n') := hwq2.symm
          clear hwq2
          generalize hv1 : (x1.val : Int) = v1 at c1'
          generalize hv2 : (x2.val : Int) = v2 at c2'
          have V1 : Hid ((x1.val : Int) = v1) := hv1
          have V2 : Hid ((x2.val : Int) = v2) := hv2
          clear hv1 hv2
          obtain ⟨v3, c3⟩ := cell?_setCell_some (p := ⟨blk, off + k, none⟩) (x := .int .i64 v2) c2'
          go_wp2_with fail
          go_region
          all_goals go_wp2
          go_roundg (p2 - i)
          case measure => have := HX.out.2.2.1; omega
          case rel =>
            obtain ⟨y1, y2, y3, y4⟩ := HX.out
            refine ⟨t + 1, p2, n' + 1, by first | rfl | go_num, by omega, by omega, by omega, ?_⟩
            rw [HW2.out, ← V1.out, ← V2.out, ← y1, ← y2, shD, show m - t = k by omega, show k - 1 = p2 from y3.symm]
            exact swap_worldC eF w blk off (shD d m t) n' k p2 (by omega) (by omega)
        · obtain rfl : k = i := by omega
          have hklz : ¬ (k : Int) < (k : Int) := by omega
          have HX : Hid (k + t = m) := hk
          clear hk
          go_wp2
          (try simp only [Exit.inBlock, Exit.then]); refine bodyPost_ret (results_none rfl _ _ _) rfl ?_
          have y := HX.out
          rw [HB.out]
          refine ⟨rfl, shD d m t, shD_perm d m a (m + 1) (by omega) (by omega) t (by omega), shD_sorted HSW.out d a m t hb (by omega) HS.out ?_ ?_, n', rfl⟩
          · rcases HJ.out with h | h
            · exact .inl (by omega)
            · right; rw [show m - t = k by omega]; exact h
          · rcases HI.out with h | h
            · exact .inl (by omega)
            · right; rw [show m - t = k by omega]; exact h
end Go.Proofs.Ytclmjopppaknjaa
