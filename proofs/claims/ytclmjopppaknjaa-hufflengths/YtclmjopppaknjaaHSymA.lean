/- slices.symMergeCmpFunc where the left stretch is one element. -/
import Derived.Test.YtclmjopppaknjaaSymM
import Derived.Deep.QuietTactic
import Derived.BigQuiet
namespace Go.Proofs.Ytclmjopppaknjaa
open Go.RowKit Go.Shelf Go.Lib Go.Sort
set_option linter.unusedVariables false
set_option linter.unusedSimpArgs false
variable {N : Nat} [Inhabited (Fin N)]

/-- The closure answers cf, whatever the row holds, and writes nothing. -/
def CmpF (cb : Value) (cf : Fin N → Fin N → Int) (blk off size : Nat) (w : World) : Prop :=
  ∀ (dk : Array (Fin N)) (m : Nat) (x y : Fin N), dk.size = size → Calls Try.prog 49 #[.int .i64 (x.val : Int), .int .i64 (y.val : Int), cb] ((putRow eF w blk off dk).drewN m) fun e w' =>
    e = .returned (.int .i64 (cf x y)) ∧ ∃ q, w' = ((putRow eF w blk off dk).drewN m).drewN q
theorem halfRun (i j : Nat) (h : i + j < 4611686018427387904) : IntKind.u64.wrap ((i : Int) + (j : Int)) = ((i + j : Nat) : Int) ∧ IntKind.i64.wrap (((i + j) / 2 : Nat) : Int) = (((i + j) / 2 : Nat) : Int) := by
  constructor
  · rw [IntKind.wrap_u64]; omega
  · rw [IntKind.wrap_i64]; omega
set_option maxRecDepth 100000 in
set_option maxHeartbeats 4000000 in
theorem symA_any (cb : Value) (cf : Fin N → Fin N → Int) (hS : SWO (ltOf cf)) (blk off cap a b : Nat) (d : Array (Fin N)) (w : World) (hH : Holds eF w blk off d) (hC : CmpF cb cf blk off d.size w)
    (hab : a + 1 < b) (hb : b ≤ d.size) (hsz : d.size < 2305843009213693952) (hs : SortedIn (ltOf cf) (a + 1) b d) :
    Calls Try.prog 77 #[.slice (some ⟨blk, off, none⟩) d.size cap, .int .i64 (a : Int), .int .i64 ((a + 1 : Nat) : Int), .int .i64 (b : Int), .func (.func 49) #[] #[cb]] w fun e w' =>
      e = .returned (.tuple #[]) ∧ ∃ d', PermIn a b d d' ∧ SortedIn (ltOf cf) a b d' ∧ ∃ n, w' = (putRow eF w blk off d').drewN n := by
  have HST : Hid (w = (putRow eF w blk off d).drewN 0) := (putRow_self eF w blk off d hH).symm
  have HH : Hid (Holds eF w blk off d) := hH
  have HC : Hid (CmpF cb cf blk off d.size w) := hC
  have HS : Hid (SortedIn (ltOf cf) (a + 1) b d) := hs
  have HSW : Hid (SWO (ltOf cf)) := hS
  clear hH hC hs hS
  obtain ⟨m, hm⟩ : ∃ m, m = a + 1 := ⟨_, rfl⟩
  rw [← hm]
  have e1 : IntKind.i64.wrap ((m : Int) - (a : Int)) = 1 := by rw [IntKind.wrap_i64]; omega
  have HM : Hid (m = a + 1) := hm
  have hmb : m < b := by omega
  clear hm
  go_enter Try.func77, Try.ntmps77
  go_wp2
  go_loopg [10, 11] (b - m) (fun g u v wr => ∃ (i j n : Nat), u = .int .i64 (i : Int) ∧ v = .int .i64 (j : Int) ∧ m ≤ i ∧ i ≤ j ∧ j ≤ b ∧ j - i ≤ g ∧ Hid (i = m ∨ ltOf cf d[i - 1]! d[a]! = true) ∧ Hid (j = b ∨ ltOf cf d[j]! d[a]! = false) ∧ wr = (putRow eF w blk off d).drewN n)
  case atStart => exact ⟨m, b, 0, rfl, rfl, by omega, by omega, by omega, by omega, .inl rfl, .inl rfl, HST.out⟩
  case round =>
    obtain ⟨i, j, n, rfl, rfl, hmi, hij, hjb, hg, HI, HJ, rfl⟩ := hrel
    by_cases hlt : i < j
    · have hltz : (i : Int) < (j : Int) := by omega
      obtain ⟨ij, hij2⟩ : ∃ x, x = i + j := ⟨_, rfl⟩
      have w1 : IntKind.i64.wrap ((i : Int) + (j : Int)) = (ij : Int) := by rw [IntKind.wrap_i64]; omega
      have w2 : IntKind.u64.wrap (ij : Int) = (ij : Int) := by rw [IntKind.wrap_u64]; omega
      obtain ⟨h, hh⟩ : ∃ x, x = ij / 2 := ⟨_, rfl⟩
      have w3 : IntKind.i64.wrap (h : Int) = (h : Int) := by rw [IntKind.wrap_i64]; omega
      have w4 : IntKind.u64.wrap (h : Int) = (h : Int) := by rw [IntKind.wrap_u64]; omega
      have w5 : (ij : Int) / 2 = (h : Int) := by omega
      have hih : i ≤ h := by omega
      have hhj : h < j := by omega
      have HHH : Hid (h = ij / 2 ∧ ij = i + j) := ⟨hh, hij2⟩
      clear hh hij2
      have hHd := holds_putRow eF w blk off d d HH.out rfl
      obtain ⟨c1, _⟩ := hHd h (by omega)
      obtain ⟨c2, _⟩ := hHd a (by omega)
      obtain ⟨xh, hxh⟩ : ∃ x, d[h]! = x := ⟨_, rfl⟩
      obtain ⟨xa, hxa⟩ : ∃ x, d[a]! = x := ⟨_, rfl⟩
      rw [hxh] at c1
      rw [hxa] at c2
      have c1' : ((putRow eF w blk off d).drewN n).cell? ⟨blk, off + h, none⟩ = some (.int .i64 (xh.val : Int)) := c1
      have c2' : ((putRow eF w blk off d).drewN n).cell? ⟨blk, off + a, none⟩ = some (.int .i64 (xa.val : Int)) := c2
      have hc : ∀ k, Calls Try.prog 49 #[.int .i64 (xh.val : Int), .int .i64 (xa.val : Int), cb] (((putRow eF w blk off d).drewN n).drewN k) fun e w' => e = .returned (.int .i64 (cf xh xa)) ∧ ∃ q, w' = (((putRow eF w blk off d).drewN n).drewN k).drewN q := fun k => by
        have := HC.out d (n + k) xh xa rfl
        rw [← World.drewN_drewN] at this
        exact this
      clear c1 c2 hHd
      have HX : Hid (d[h]! = xh ∧ d[a]! = xa) := ⟨hxh, hxa⟩
      clear hxh hxa
      generalize hwq : (putRow eF w blk off d).drewN n = wq at c1' c2' hc ⊢
      have HW : Hid (wq = (putRow eF w blk off d).drewN n) := hwq.symm
      clear hwq
      have b1 : (h : Int) < (d.size : Int) := by omega
      have b2 : (a : Int) < (d.size : Int) := by omega
      have b3 : (0 : Int) ≤ (h : Int) := by omega
      have b4 : (0 : Int) ≤ (a : Int) := by omega
      generalize hv1 : (xh.val : Int) = v1 at c1' hc
      generalize hv2 : (xa.val : Int) = v2 at c2' hc
      clear hv1 hv2
      obtain ⟨r, hr⟩ : ∃ r, cf xh xa = r := ⟨_, rfl⟩
      rw [hr] at hc
      have HR : Hid (cf xh xa = r) := hr
      clear hr
      by_cases hlv : r < 0
      · go_wp2_with fail
        go_quiet (refine Calls.quiet_of (hc _))
        go_wp2
        go_roundg (j - (h + 1))
        case measure => omega
        case rel =>
          refine ⟨h + 1, j, n + nq, by go_num, rfl, by omega, by omega, hjb, by omega, (show Hid _ from .inr ?_), HJ, by rw [HW.out, World.drewN_drewN]⟩
          rw [Nat.add_sub_cancel, HX.out.1, HX.out.2]; unfold ltOf; rw [HR.out]; exact decide_eq_true hlv
      · go_wp2_with fail
        go_quiet (refine Calls.quiet_of (hc _))
        go_wp2
        go_roundg (h - i)
        case measure => omega
        case rel =>
          refine ⟨i, h, n + nq, rfl, rfl, by omega, by omega, by omega, by omega, HI, (show Hid _ from .inr ?_), by rw [HW.out, World.drewN_drewN]⟩
          rw [HX.out.1, HX.out.2]; unfold ltOf; rw [HR.out]; exact decide_eq_false (by omega)
    · obtain rfl : i = j := by omega
      have hltz : ¬ (i : Int) < (i : Int) := by omega
      obtain ⟨i1, hi1⟩ : ∃ x, x = i - 1 := ⟨_, rfl⟩
      have hm' := HM.out
      have z1 : IntKind.i64.wrap ((i : Int) - 1) = (i1 : Int) := by rw [IntKind.wrap_i64]; omega
      have hai : a ≤ i1 := by omega
      have hib : i1 < b := by omega
      have HI1 : Hid (i = i1 + 1) := by show _ = _; omega
      clear hm' hi1 hltz
      have hlt0 : ¬ (i : Int) < (i : Int) := by omega
      generalize hwq : (putRow eF w blk off d).drewN n = wq
      have HW : Hid (wq = (putRow eF w blk off d).drewN n) := hwq.symm
      clear hwq
      go_wp2
      go_loopg [13] (b - a) (fun g v wr => ∃ (t k n' : Nat), v = .int .i64 (k : Int) ∧ k = a + t ∧ k ≤ i1 ∧ i1 - k ≤ g ∧ wr = (putRow eF w blk off (shU d a t)).drewN n')
      case atStart => exact ⟨0, a, n, rfl, rfl, hai, by omega, HW.out⟩
      case round =>
        obtain ⟨t, k, n', rfl, hk, hki, hg2, rfl⟩ := hrel
        by_cases hkl : k < i1
        · have hklz : (k : Int) < (i1 : Int) := by omega
          have hs2 := shU_size d a t
          have hHj := holds_putRow eF w blk off d (shU d a t) HH.out hs2
          obtain ⟨p2, hp2⟩ : ∃ p, p = k + 1 := ⟨_, rfl⟩
          obtain ⟨c1, f1⟩ := hHj k (by omega)
          obtain ⟨c2, f2⟩ := hHj p2 (by omega)
          obtain ⟨x1, hx1⟩ : ∃ x, (shU d a t)[k]! = x := ⟨_, rfl⟩
          obtain ⟨x2, hx2⟩ : ∃ x, (shU d a t)[p2]! = x := ⟨_, rfl⟩
          rw [hx1] at c1
          rw [hx2] at c2
          have c1' : ((putRow eF w blk off (shU d a t)).drewN n').cell? ⟨blk, off + k, none⟩ = some (.int .i64 (x1.val : Int)) := c1
          have c2' : ((putRow eF w blk off (shU d a t)).drewN n').cell? ⟨blk, off + p2, none⟩ = some (.int .i64 (x2.val : Int)) := c2
          have f1' : ((putRow eF w blk off (shU d a t)).drewN n').frozen? ⟨blk, off + k, none⟩ = false := f1
          have f2' : ((putRow eF w blk off (shU d a t)).drewN n').frozen? ⟨blk, off + p2, none⟩ = false := f2
          have hw2 : IntKind.i64.wrap ((k : Int) + 1) = (p2 : Int) := by rw [IntKind.wrap_i64]; omega
          have hl1 : (k : Int) < (d.size : Int) := by omega
          have hl2 : (p2 : Int) < (d.size : Int) := by omega
          have q1 : (0 : Int) ≤ (k : Int) := by omega
          have q2 : (0 : Int) ≤ (p2 : Int) := by omega
          have HX : Hid ((shU d a t)[k]! = x1 ∧ (shU d a t)[p2]! = x2 ∧ p2 = k + 1 ∧ k = a + t) := ⟨hx1, hx2, hp2, hk⟩
          clear c1 c2 f1 f2 hHj hx1 hx2 hp2 hk
          generalize hwq2 : (putRow eF w blk off (shU d a t)).drewN n' = wq2 at c1' c2' f1' f2' ⊢
          have HW2 : Hid (wq2 = (putRow eF w blk off (shU d a t)).drewN n') := hwq2.symm
          clear hwq2
          generalize hv1 : (x1.val : Int) = v1 at c1'
          generalize hv2 : (x2.val : Int) = v2 at c2'
          have V1 : Hid ((x1.val : Int) = v1) := hv1
          have V2 : Hid ((x2.val : Int) = v2) := hv2
          clear hv1 hv2
          obtain ⟨v3, c3⟩ := cell?_setCell_some (p := ⟨blk, off + k, none⟩) (x := .int .i64 v2) c2'
          go_wp2_with fail
          go_region
          all_goals go_wp2
          go_roundg (i1 - (k + 1))
          case measure => omega
          case rel =>
            obtain ⟨y1, y2, y3, y4⟩ := HX.out
            refine ⟨t + 1, k + 1, n' + 1, by first | rfl | go_num | (rw [y3]; rfl), by omega, by omega, by omega, ?_⟩
            rw [HW2.out, ← V1.out, ← V2.out, ← y1, ← y2, y3, shU, ← y4]
            exact swap_worldC eF w blk off (shU d a t) n' k (k + 1) (by omega) (by omega)
        · obtain rfl : k = i1 := by omega
          have hklz : ¬ (k : Int) < (k : Int) := by omega
          have HX : Hid (k = a + t) := hk
          clear hk
          go_wp2
          (try simp only [Exit.inBlock, Exit.then]); refine bodyPost_ret (results_none rfl _ _ _) rfl ?_
          have y := HX.out
          have y2 := HI1.out
          have y3 := HM.out
          refine ⟨rfl, shU d a t, shU_perm d a a b (Nat.le_refl _) hb t (by omega), shU_sorted HSW.out d a b t hb (by omega) HS.out ?_ ?_, n', rfl⟩
          · rcases HI.out with h | h
            · exact .inl (by omega)
            · right; rw [← y, show k = i - 1 by omega]; exact h
          · rcases HJ.out with h | h
            · exact .inl (by omega)
            · right; rw [← y, ← y2]; exact h
end Go.Proofs.Ytclmjopppaknjaa
