/- slices.symMergeCmpFunc where both stretches are longer than one: out of itself at less. (Written by symc.py.) -/
import Derived.Test.YthkppipdflmekaaGreatQHSymB
set_option maxRecDepth 100000
set_option maxHeartbeats 8000000
namespace Go.Proofs.YthkppipdflmekaaGreat
open Go.RowKit Go.Shelf Go.Lib Go.Sort
set_option linter.unusedVariables false
set_option linter.unusedSimpArgs false
variable {N : Nat} [Inhabited (Fin N)]
def qjn (cb : Value) (cf : Fin N → Fin N → Int) (blk off cap size : Nat) (w : World) (a m b : Nat) : Prop :=
 ∀ (dk : Array (Fin N)) (n : Nat), dk.size = size → SortedIn (ltOf cf) a m dk → SortedIn (ltOf cf) m b dk →
  Calls Tryz.prog 134 #[.slice (some ⟨blk, off, none⟩) size cap, .int .i64 (a : Int), .int .i64 (m : Int), .int .i64 (b : Int), .func (.func 121) #[] #[cb]] ((putRow eF w blk off dk).drewN n) fun e w' =>
   e = .returned (.tuple #[]) ∧ ∃ d', qas (ltOf cf) a b dk d' ∧ SortedIn (ltOf cf) a b d' ∧ ∃ n, w' = (putRow eF w blk off d').drewN n
theorem qae {lt : Fin N → Fin N → Bool} {e : Array (Fin N)} {a s c : Nat} (h : ¬ (a < s ∧ s < c)) (h1 : a ≤ s) (h2 : s ≤ c) (A : SortedIn lt a s e) (B : SortedIn lt s c e) : SortedIn lt a c e := by
 by_cases h3 : s = a
 · rw [h3] at B; exact B
 · have h4 : s = c := by omega
   rw [h4] at A; exact A
theorem qab {lt : Fin N → Fin N → Bool} {e e1 : Array (Fin N)} {a mid x y : Nat} (P : PermIn a mid e e1) (h : mid ≤ x) (A : SortedIn lt x y e) : SortedIn lt x y e1 := by
 intro i j hi hij hj
 rw [P.2.1 i (.inr (by omega)), P.2.1 j (.inr (by omega))]; exact A _ _ hi hij hj
theorem qyf (cb : Value) (cf : Fin N → Fin N → Int) (hS : SWO (ltOf cf)) (blk off cap a m b mid : Nat) (d : Array (Fin N)) (w : World) (hH : Holds eF w blk off d) (hC : CmpF cb cf blk off d.size w)
    (ham : a + 1 < m) (hmb : m + 1 < b) (hb : b ≤ d.size) (hsz : d.size < 2305843009213693952) (hmid : mid = (a + b) / 2) (hgt : mid < m) (hs1 : SortedIn (ltOf cf) a m d) (hs2 : SortedIn (ltOf cf) m b d)
    (hL : ∀ s, a < s → s < mid → qjn cb cf blk off cap d.size w a s mid) (hR : ∀ s, mid < s → s < b → qjn cb cf blk off cap d.size w mid s b) :
    Calls Tryz.prog 134 #[.slice (some ⟨blk, off, none⟩) d.size cap, .int .i64 (a : Int), .int .i64 (m : Int), .int .i64 (b : Int), .func (.func 121) #[] #[cb]] w fun e w' =>
     e = .returned (.tuple #[]) ∧ ∃ d', qas (ltOf cf) a b d d' ∧ SortedIn (ltOf cf) a b d' ∧ ∃ n, w' = (putRow eF w blk off d').drewN n := by
 have HST : Hid (w = (putRow eF w blk off d).drewN 0) := (putRow_self eF w blk off d hH).symm
 have HH : Hid (Holds eF w blk off d) := hH
 have HC : Hid (CmpF cb cf blk off d.size w) := hC
 have HS1 : Hid (SortedIn (ltOf cf) a m d) := hs1
 have HS2 : Hid (SortedIn (ltOf cf) m b d) := hs2
 have HSW : Hid (SWO (ltOf cf)) := hS
 have HL : Hid (∀ s, a < s → s < mid → qjn cb cf blk off cap d.size w a s mid) := hL
 have HRR : Hid (∀ s, mid < s → s < b → qjn cb cf blk off cap d.size w mid s b) := hR
 have HROT : Hid (∀ (dk : Array (Fin N)) (n s en : Nat), dk.size = d.size → s < m → m < en → en ≤ d.size →
     Calls Tryz.prog 136 #[.slice (some ⟨blk, off, none⟩) d.size cap, .int .i64 (s : Int), .int .i64 (m : Int), .int .i64 (en : Int), .func (.func 121) #[] #[cb]] ((putRow eF w blk off dk).drewN n) fun e w' =>
      e = .returned (.tuple #[]) ∧ ∃ d', Rot dk d' s m en ∧ PermIn s en dk d' ∧ ∃ n, w' = (putRow eF w blk off d').drewN n) := by
  intro dk n s en hk h1 h2 h3
  have h := qvg blk off cap s m en dk ((putRow eF w blk off dk).drewN n) (.func (.func 121) #[] #[cb]) (holds_putRow eF w blk off d dk hH hk) h1 h2 (by omega) (by omega)
  rw [hk] at h
  refine h.mono ?_
  rintro e w' ⟨q1, d', n', q2, q3, q4⟩
  exact ⟨q1, d', q2, q3, n + n', by rw [q4, qcc _ _ _ _ _ _ _ q2.1]⟩
 clear hH hC hs1 hs2 hS hL hR
 obtain ⟨ma, hma⟩ : ∃ x, x = m - a := ⟨_, rfl⟩
 have e0 : IntKind.i64.wrap ((m : Int) - (a : Int)) = (ma : Int) := by rw [IntKind.wrap_i64]; omega
 have e01 : ((ma : Int) == 1) = false := by simp; omega
 obtain ⟨bm, hbm⟩ : ∃ x, x = b - m := ⟨_, rfl⟩
 have e1 : IntKind.i64.wrap ((b : Int) - (m : Int)) = (bm : Int) := by rw [IntKind.wrap_i64]; omega
 have e11 : ((bm : Int) == 1) = false := by simp; omega
 obtain ⟨ab, hab⟩ : ∃ x, x = a + b := ⟨_, rfl⟩
 have e2 : IntKind.i64.wrap ((a : Int) + (b : Int)) = (ab : Int) := by rw [IntKind.wrap_i64]; omega
 have e3 : IntKind.u64.wrap (ab : Int) = (ab : Int) := by rw [IntKind.wrap_u64]; omega
 have e4 : IntKind.i64.wrap (mid : Int) = (mid : Int) := by rw [IntKind.wrap_i64]; omega
 have e5 : IntKind.u64.wrap (mid : Int) = (mid : Int) := by rw [IntKind.wrap_u64]; omega
 have e6 : (ab : Int) / 2 = (mid : Int) := by omega
 obtain ⟨nn, hnn⟩ : ∃ x, x = mid + m := ⟨_, rfl⟩
 have e7 : IntKind.i64.wrap ((mid : Int) + (m : Int)) = (nn : Int) := by rw [IntKind.wrap_i64]; omega
 obtain ⟨p, hp⟩ : ∃ x, x = nn - 1 := ⟨_, rfl⟩
 have e8 : IntKind.i64.wrap ((nn : Int) - 1) = (p : Int) := by rw [IntKind.wrap_i64]; omega
 have g1 : (mid : Int) < (m : Int) := by omega
 obtain ⟨s0, hs0⟩ : ∃ x, x = nn - b := ⟨_, rfl⟩
 have e9 : IntKind.i64.wrap ((nn : Int) - (b : Int)) = (s0 : Int) := by rw [IntKind.wrap_i64]; omega
 obtain ⟨r0, hr0⟩ : ∃ x, x = mid := ⟨_, rfl⟩
 have k1 : a ≤ s0 := by omega
 have k2 : s0 ≤ r0 := by omega
 have k3 : r0 ≤ m := by omega
 have k4 : r0 ≤ mid := by omega
 have k5 : nn ≤ s0 + b := by omega
 have k8 : a < mid := by omega
 have k9 : mid < b := by omega
 have HK : Hid ((s0 = a ∨ s0 + b = nn) ∧ (r0 = m ∨ r0 = mid) ∧ nn = mid + m ∧ p + 1 = nn) := ⟨by omega, by omega, hnn, by omega⟩
 have k6 : nn ≤ 2305843009213693952 + 2305843009213693952 := by omega
 clear hma hbm hab hnn hp hmid hs0
 have HR0 : Hid (r0 = mid) := hr0
 clear hr0
 go_enter Tryz.func134, Tryz.ntmps134
 go_wp2
 go_loopg [20, 21] (r0 - s0) (fun g u v wr => ∃ (i j n : Nat), u = .int .i64 (i : Int) ∧ v = .int .i64 (j : Int) ∧ s0 ≤ i ∧ i ≤ j ∧ j ≤ r0 ∧ j - i ≤ g ∧ Hid (i = s0 ∨ ltOf cf d[nn - i]! d[i - 1]! = false) ∧ Hid (j = r0 ∨ ltOf cf d[nn - 1 - j]! d[j]! = true) ∧ wr = (putRow eF w blk off d).drewN n)
 case atStart => exact ⟨s0, r0, 0, rfl, by rw [HR0.out], by omega, by omega, by omega, by omega, .inl rfl, .inl rfl, HST.out⟩
 case round =>
  obtain ⟨i, j, n, rfl, rfl, hmi, hij, hjb, hg, HI, HJ, rfl⟩ := hrel
  by_cases hlt : i < j
  · have hltz : (i : Int) < (j : Int) := by omega
    obtain ⟨ij, hij2⟩ : ∃ x, x = i + j := ⟨_, rfl⟩
    have w1 : IntKind.i64.wrap ((i : Int) + (j : Int)) = (ij : Int) := by rw [IntKind.wrap_i64]; omega
    have w2 : IntKind.u64.wrap (ij : Int) = (ij : Int) := by rw [IntKind.wrap_u64]; omega
    obtain ⟨h, hh⟩ : ∃ x, x = ij / 2 := ⟨_, rfl⟩
    have w3 : IntKind.i64.wrap (h : Int) = (h : Int) := by rw [IntKind.wrap_i64]; omega
    have w4 : IntKind.u64.wrap (h : Int) = (h : Int) := by rw [IntKind.wrap_u64]; omega
    have w5 : (ij : Int) / 2 = (h : Int) := by omega
    have hih : i ≤ h := by omega
    have hhj : h < j := by omega
    clear hh hij2
    obtain ⟨pc, hpc⟩ : ∃ x, x = p - h := ⟨_, rfl⟩
    have hk' := HK.out
    have w6 : IntKind.i64.wrap ((p : Int) - (h : Int)) = (pc : Int) := by rw [IntKind.wrap_i64]; omega
    have hpb : pc < b := by omega
    have HPC : Hid (pc = nn - 1 - h ∧ pc = nn - (h + 1)) := ⟨by omega, by omega⟩
    clear hpc hk'
    have hHd := holds_putRow eF w blk off d d HH.out rfl
    obtain ⟨c1, _⟩ := hHd h (by omega)
    obtain ⟨c2, _⟩ := hHd pc (by omega)
    obtain ⟨xh, hxh⟩ : ∃ x, d[h]! = x := ⟨_, rfl⟩
    obtain ⟨xa, hxa⟩ : ∃ x, d[pc]! = x := ⟨_, rfl⟩
    rw [hxh] at c1
    rw [hxa] at c2
    have c1' : ((putRow eF w blk off d).drewN n).cell? ⟨blk, off + h, none⟩ = some (.int .i64 (xh.val : Int)) := c1
    have c2' : ((putRow eF w blk off d).drewN n).cell? ⟨blk, off + pc, none⟩ = some (.int .i64 (xa.val : Int)) := c2
    have hc : ∀ k, Calls Tryz.prog 121 #[.int .i64 (xa.val : Int), .int .i64 (xh.val : Int), cb] (((putRow eF w blk off d).drewN n).drewN k) fun e w' => e = .returned (.int .i64 (cf xa xh)) ∧ ∃ q, w' = (((putRow eF w blk off d).drewN n).drewN k).drewN q := fun k => by
     have := HC.out d (n + k) xa xh rfl
     rw [← World.drewN_drewN] at this
     exact this
    clear c1 c2 hHd
    have HX : Hid (d[h]! = xh ∧ d[pc]! = xa) := ⟨hxh, hxa⟩
    clear hxh hxa
    generalize hwq : (putRow eF w blk off d).drewN n = wq at c1' c2' hc ⊢
    have HW : Hid (wq = (putRow eF w blk off d).drewN n) := hwq.symm
    clear hwq
    have b1 : (h : Int) < (d.size : Int) := by omega
    have b2 : (pc : Int) < (d.size : Int) := by omega
    have b3 : (0 : Int) ≤ (h : Int) := by omega
    have b4 : (0 : Int) ≤ (pc : Int) := by omega
    generalize hv1 : (xh.val : Int) = v1 at c1' hc
    generalize hv2 : (xa.val : Int) = v2 at c2' hc
    clear hv1 hv2
    obtain ⟨r, hr⟩ : ∃ r, cf xa xh = r := ⟨_, rfl⟩
    rw [hr] at hc
    have HR : Hid (cf xa xh = r) := hr
    clear hr
    by_cases hlv : r < 0
    · go_wp2_with fail
      go_quiet (refine Calls.quiet_of (hc _))
      go_wp2
      go_roundg (h - i)
      case measure => omega
      case rel =>
       refine ⟨i, h, n + nq, rfl, rfl, by omega, by omega, by omega, by omega, HI, (show Hid _ from .inr ?_), by rw [HW.out, World.drewN_drewN]⟩
       rw [← HPC.out.1, HX.out.1, HX.out.2]; unfold ltOf; rw [HR.out]; exact decide_eq_true (by omega)
    · have hld : decide (r < 0) = false := decide_eq_false hlv
      go_wp2_with fail
      go_quiet (refine Calls.quiet_of (hc _))
      go_wp2
      go_roundg (j - (h + 1))
      case measure => omega
      case rel =>
       refine ⟨h + 1, j, n + nq, by go_num, rfl, by omega, by omega, hjb, by omega, (show Hid _ from .inr ?_), HJ, by rw [HW.out, World.drewN_drewN]⟩
       rw [← HPC.out.2, Nat.add_sub_cancel, HX.out.1, HX.out.2]; unfold ltOf; rw [HR.out]; exact decide_eq_false (by omega)
  · obtain rfl : i = j := by omega
    have hlt0 : ¬ (i : Int) < (i : Int) := by omega
    obtain ⟨en, hen⟩ : ∃ x, x = nn - i := ⟨_, rfl⟩
    obtain ⟨y1, y2, y3, y4⟩ := HK.out
    have w7 : IntKind.i64.wrap ((nn : Int) - (i : Int)) = (en : Int) := by rw [IntKind.wrap_i64]; omega
    have l1 : i + en = mid + m := by omega
    have l2 : m ≤ en := by omega
    have l3 : en ≤ b := by omega
    have l4 : mid ≤ en := by omega
    have q1 : i = a ∨ en = b ∨ ltOf cf d[en]! d[i - 1]! = false := by
     rcases HI.out with h | h
     · omega
     · right; right; rw [hen]; exact h
    have q2 : i = m ∨ en = m ∨ ltOf cf d[en - 1]! d[i]! = true := by
     rcases HJ.out with h | h
     · omega
     · right; right; rw [show en - 1 = nn - 1 - i by omega]; exact h
    have HQ : Hid ((i = a ∨ en = b ∨ ltOf cf d[en]! d[i - 1]! = false) ∧ (i = m ∨ en = m ∨ ltOf cf d[en - 1]! d[i]! = true)) := ⟨q1, q2⟩
    have HLE : Hid (i + en = mid + m) := l1
    clear hen y1 y2 y3 y4 q1 q2 l1
    by_cases t1 : i < m ∧ m < en
    · have t1a : (i : Int) < (m : Int) := by omega
      have t1b : (m : Int) < (en : Int) := by omega
      have hc1 := HROT.out d n i en rfl t1.1 t1.2 (by omega)
      clear t1
      generalize (putRow eF w blk off d).drewN n = W at hc1 ⊢
      go_wp2_with fail
      refine hc1.mono ?_
      rintro x W0 ⟨rfl, e, hRot, hPe, n0, hV1⟩
      have HE : Hid (Rot d e i m en ∧ qas (ltOf cf) a b d e) := ⟨hRot, permIn_mono _ _ i en a b (by omega) l3 hb hPe, fun hst => q0u hst hRot (by omega) l2 (by omega) (fun x y hx hxm hy hye => qmy HSW.out (by omega) l3 HS1.out HS2.out HQ.out.2 x y hx hxm hy hye)⟩
      have HW0 : Hid (W0 = (putRow eF w blk off e).drewN n0) := hV1
      clear hRot hPe hV1 hc1
      have HX5 : Hid (SortedIn (ltOf cf) a i e ∧ SortedIn (ltOf cf) i mid e ∧ SortedIn (ltOf cf) mid en e ∧ SortedIn (ltOf cf) en b e ∧ ∀ x y, a ≤ x → x < mid → mid ≤ y → y < b → ltOf cf e[y]! e[x]! = false) := qdq HSW.out d e a m b mid i en HLE.out (by omega) (by omega) (by omega) l2 l3 HE.out.1 HS1.out HS2.out HQ.out.1 HQ.out.2
      by_cases t2 : a < i ∧ i < mid
      · have t2a : (a : Int) < (i : Int) := by omega
        have t2b : (i : Int) < (mid : Int) := by omega
        have hc2 := HL.out i t2.1 t2.2 e n0 HE.out.1.1 HX5.out.1 HX5.out.2.1
        clear t2
        rw [← HW0.out] at hc2
        go_wp2_with fail
        refine hc2.mono ?_
        rintro x V2 ⟨rfl, e1, P1, S1, n1, hV2⟩
        have H1 : Hid (qas (ltOf cf) a mid e e1 ∧ SortedIn (ltOf cf) a mid e1) := ⟨P1, S1⟩
        have HW1 : Hid (V2 = (putRow eF w blk off e1).drewN n1) := hV2
        clear P1 S1 hV2 hc2
        by_cases t3 : mid < en ∧ en < b
        · have t3a : (mid : Int) < (en : Int) := by omega
          have t3b : (en : Int) < (b : Int) := by omega
          obtain ⟨P1, S1⟩ := H1.out
          have hc3 := HRR.out en t3.1 t3.2 e1 n1 (by rw [P1.1.1, HE.out.1.1]) (qab P1.1 (Nat.le_refl _) HX5.out.2.2.1) (qab P1.1 (by omega) HX5.out.2.2.2.1)
          clear t3 P1 S1
          rw [← HW1.out] at hc3
          go_wp2_with fail
          all_goals
           refine hc3.mono ?_
           rintro x V3 ⟨rfl, e2, P2, S2, n3, hV3⟩
           have H2 : Hid (qas (ltOf cf) mid b e1 e2 ∧ SortedIn (ltOf cf) mid b e2 ∧ V3 = (putRow eF w blk off e2).drewN n3) := ⟨P2, S2, hV3⟩
           clear P2 S2 hV3 hc3
           go_wp2
           go_end0
           obtain ⟨P2, S2, hV3⟩ := H2.out
           have j := qac e e1 e2 a mid b (by omega) (by omega) (by rw [HE.out.1.1]; exact hb) HX5.out.2.2.2.2 H1.out.1.1 H1.out.2 P2.1 S2
           exact ⟨rfl, e2, ⟨permIn_trans _ _ _ _ _ HE.out.2.1 j.1, fun h => P2.2 (H1.out.1.2 (HE.out.2.2 h))⟩, j.2, n3, hV3⟩
        · have HT3 : Hid (¬ (mid < en ∧ en < b)) := t3
          by_cases t4 : mid < en
          · have t4a : (mid : Int) < (en : Int) := by omega
            have t4b : ¬ (en : Int) < (b : Int) := by omega
            clear t3
            go_wp2
            all_goals
             go_end0
             have S2 := qae HT3.out l4 l3 (qab H1.out.1.1 (Nat.le_refl _) HX5.out.2.2.1) (qab H1.out.1.1 l4 HX5.out.2.2.2.1)
             have j := qac e e1 e1 a mid b (by omega) (by omega) (by rw [HE.out.1.1]; exact hb) HX5.out.2.2.2.2 H1.out.1.1 H1.out.2 (permIn_refl _ _ _) S2
             exact ⟨rfl, e1, ⟨permIn_trans _ _ _ _ _ HE.out.2.1 j.1, fun h => H1.out.1.2 (HE.out.2.2 h)⟩, j.2, n1, HW1.out⟩
          · have t4a : ¬ (mid : Int) < (en : Int) := by omega
            clear t3
            go_wp2
            all_goals
             go_end0
             have S2 := qae HT3.out l4 l3 (qab H1.out.1.1 (Nat.le_refl _) HX5.out.2.2.1) (qab H1.out.1.1 l4 HX5.out.2.2.2.1)
             have j := qac e e1 e1 a mid b (by omega) (by omega) (by rw [HE.out.1.1]; exact hb) HX5.out.2.2.2.2 H1.out.1.1 H1.out.2 (permIn_refl _ _ _) S2
             exact ⟨rfl, e1, ⟨permIn_trans _ _ _ _ _ HE.out.2.1 j.1, fun h => H1.out.1.2 (HE.out.2.2 h)⟩, j.2, n1, HW1.out⟩
      · have H1 : Hid (qas (ltOf cf) a mid e e ∧ SortedIn (ltOf cf) a mid e) := ⟨qas.refl, qae t2 (by omega) (by omega) HX5.out.1 HX5.out.2.1⟩
        obtain ⟨e1, he1⟩ : ∃ x, x = e := ⟨_, rfl⟩
        obtain ⟨n1, hn1⟩ : ∃ x, x = n0 := ⟨_, rfl⟩
        have HW1 : Hid (W0 = (putRow eF w blk off e1).drewN n1) := by rw [he1, hn1]; exact HW0
        have H1 : Hid (qas (ltOf cf) a mid e e1 ∧ SortedIn (ltOf cf) a mid e1) := by rw [he1]; exact H1
        clear he1 hn1
        by_cases t5 : a < i
        · have t2a : (a : Int) < (i : Int) := by omega
          have t2b : ¬ (i : Int) < (mid : Int) := by omega
          clear t2
          by_cases t3 : mid < en ∧ en < b
          · have t3a : (mid : Int) < (en : Int) := by omega
            have t3b : (en : Int) < (b : Int) := by omega
            obtain ⟨P1, S1⟩ := H1.out
            have hc3 := HRR.out en t3.1 t3.2 e1 n1 (by rw [P1.1.1, HE.out.1.1]) (qab P1.1 (Nat.le_refl _) HX5.out.2.2.1) (qab P1.1 (by omega) HX5.out.2.2.2.1)
            clear t3 P1 S1
            rw [← HW1.out] at hc3
            go_wp2_with fail
            all_goals
             refine hc3.mono ?_
             rintro x V3 ⟨rfl, e2, P2, S2, n3, hV3⟩
             have H2 : Hid (qas (ltOf cf) mid b e1 e2 ∧ SortedIn (ltOf cf) mid b e2 ∧ V3 = (putRow eF w blk off e2).drewN n3) := ⟨P2, S2, hV3⟩
             clear P2 S2 hV3 hc3
             go_wp2
             go_end0
             obtain ⟨P2, S2, hV3⟩ := H2.out
             have j := qac e e1 e2 a mid b (by omega) (by omega) (by rw [HE.out.1.1]; exact hb) HX5.out.2.2.2.2 H1.out.1.1 H1.out.2 P2.1 S2
             exact ⟨rfl, e2, ⟨permIn_trans _ _ _ _ _ HE.out.2.1 j.1, fun h => P2.2 (H1.out.1.2 (HE.out.2.2 h))⟩, j.2, n3, hV3⟩
          · have HT3 : Hid (¬ (mid < en ∧ en < b)) := t3
            by_cases t4 : mid < en
            · have t4a : (mid : Int) < (en : Int) := by omega
              have t4b : ¬ (en : Int) < (b : Int) := by omega
              clear t3
              go_wp2
              all_goals
               go_end0
               have S2 := qae HT3.out l4 l3 (qab H1.out.1.1 (Nat.le_refl _) HX5.out.2.2.1) (qab H1.out.1.1 l4 HX5.out.2.2.2.1)
               have j := qac e e1 e1 a mid b (by omega) (by omega) (by rw [HE.out.1.1]; exact hb) HX5.out.2.2.2.2 H1.out.1.1 H1.out.2 (permIn_refl _ _ _) S2
               exact ⟨rfl, e1, ⟨permIn_trans _ _ _ _ _ HE.out.2.1 j.1, fun h => H1.out.1.2 (HE.out.2.2 h)⟩, j.2, n1, HW1.out⟩
            · have t4a : ¬ (mid : Int) < (en : Int) := by omega
              clear t3
              go_wp2
              all_goals
               go_end0
               have S2 := qae HT3.out l4 l3 (qab H1.out.1.1 (Nat.le_refl _) HX5.out.2.2.1) (qab H1.out.1.1 l4 HX5.out.2.2.2.1)
               have j := qac e e1 e1 a mid b (by omega) (by omega) (by rw [HE.out.1.1]; exact hb) HX5.out.2.2.2.2 H1.out.1.1 H1.out.2 (permIn_refl _ _ _) S2
               exact ⟨rfl, e1, ⟨permIn_trans _ _ _ _ _ HE.out.2.1 j.1, fun h => H1.out.1.2 (HE.out.2.2 h)⟩, j.2, n1, HW1.out⟩
        · have t2a : ¬ (a : Int) < (i : Int) := by omega
          clear t2
          by_cases t3 : mid < en ∧ en < b
          · have t3a : (mid : Int) < (en : Int) := by omega
            have t3b : (en : Int) < (b : Int) := by omega
            obtain ⟨P1, S1⟩ := H1.out
            have hc3 := HRR.out en t3.1 t3.2 e1 n1 (by rw [P1.1.1, HE.out.1.1]) (qab P1.1 (Nat.le_refl _) HX5.out.2.2.1) (qab P1.1 (by omega) HX5.out.2.2.2.1)
            clear t3 P1 S1
            rw [← HW1.out] at hc3
            go_wp2_with fail
            all_goals
             refine hc3.mono ?_
             rintro x V3 ⟨rfl, e2, P2, S2, n3, hV3⟩
             have H2 : Hid (qas (ltOf cf) mid b e1 e2 ∧ SortedIn (ltOf cf) mid b e2 ∧ V3 = (putRow eF w blk off e2).drewN n3) := ⟨P2, S2, hV3⟩
             clear P2 S2 hV3 hc3
             go_wp2
             go_end0
             obtain ⟨P2, S2, hV3⟩ := H2.out
             have j := qac e e1 e2 a mid b (by omega) (by omega) (by rw [HE.out.1.1]; exact hb) HX5.out.2.2.2.2 H1.out.1.1 H1.out.2 P2.1 S2
             exact ⟨rfl, e2, ⟨permIn_trans _ _ _ _ _ HE.out.2.1 j.1, fun h => P2.2 (H1.out.1.2 (HE.out.2.2 h))⟩, j.2, n3, hV3⟩
          · have HT3 : Hid (¬ (mid < en ∧ en < b)) := t3
            by_cases t4 : mid < en
            · have t4a : (mid : Int) < (en : Int) := by omega
              have t4b : ¬ (en : Int) < (b : Int) := by omega
              clear t3
              go_wp2
              all_goals
               go_end0
               have S2 := qae HT3.out l4 l3 (qab H1.out.1.1 (Nat.le_refl _) HX5.out.2.2.1) (qab H1.out.1.1 l4 HX5.out.2.2.2.1)
               have j := qac e e1 e1 a mid b (by omega) (by omega) (by rw [HE.out.1.1]; exact hb) HX5.out.2.2.2.2 H1.out.1.1 H1.out.2 (permIn_refl _ _ _) S2
               exact ⟨rfl, e1, ⟨permIn_trans _ _ _ _ _ HE.out.2.1 j.1, fun h => H1.out.1.2 (HE.out.2.2 h)⟩, j.2, n1, HW1.out⟩
            · have t4a : ¬ (mid : Int) < (en : Int) := by omega
              clear t3
              go_wp2
              all_goals
               go_end0
               have S2 := qae HT3.out l4 l3 (qab H1.out.1.1 (Nat.le_refl _) HX5.out.2.2.1) (qab H1.out.1.1 l4 HX5.out.2.2.2.1)
               have j := qac e e1 e1 a mid b (by omega) (by omega) (by rw [HE.out.1.1]; exact hb) HX5.out.2.2.2.2 H1.out.1.1 H1.out.2 (permIn_refl _ _ _) S2
               exact ⟨rfl, e1, ⟨permIn_trans _ _ _ _ _ HE.out.2.1 j.1, fun h => H1.out.1.2 (HE.out.2.2 h)⟩, j.2, n1, HW1.out⟩
    · have hRot : Rot d d i m en := ⟨rfl, fun k => by congr 1; unfold rotI; split <;> (try split) <;> omega⟩
      obtain ⟨e, he⟩ : ∃ x, x = d := ⟨_, rfl⟩
      obtain ⟨n0, hn0⟩ : ∃ x, x = n := ⟨_, rfl⟩
      obtain ⟨W0, hW0⟩ : ∃ x, x = (putRow eF w blk off d).drewN n := ⟨_, rfl⟩
      have HE : Hid (Rot d e i m en ∧ qas (ltOf cf) a b d e) := by rw [he]; exact ⟨hRot, qas.refl⟩
      have HW0 : Hid (W0 = (putRow eF w blk off e).drewN n0) := by rw [he, hn0]; exact hW0
      rw [← hW0]
      clear hRot he hn0 hW0
      by_cases t6 : i < m
      · have t1a : (i : Int) < (m : Int) := by omega
        have t1b : ¬ (m : Int) < (en : Int) := by omega
        clear t1
        have HX5 : Hid (SortedIn (ltOf cf) a i e ∧ SortedIn (ltOf cf) i mid e ∧ SortedIn (ltOf cf) mid en e ∧ SortedIn (ltOf cf) en b e ∧ ∀ x y, a ≤ x → x < mid → mid ≤ y → y < b → ltOf cf e[y]! e[x]! = false) := qdq HSW.out d e a m b mid i en HLE.out (by omega) (by omega) (by omega) l2 l3 HE.out.1 HS1.out HS2.out HQ.out.1 HQ.out.2
        by_cases t2 : a < i ∧ i < mid
        · have t2a : (a : Int) < (i : Int) := by omega
          have t2b : (i : Int) < (mid : Int) := by omega
          have hc2 := HL.out i t2.1 t2.2 e n0 HE.out.1.1 HX5.out.1 HX5.out.2.1
          clear t2
          rw [← HW0.out] at hc2
          go_wp2_with fail
          refine hc2.mono ?_
          rintro x V2 ⟨rfl, e1, P1, S1, n1, hV2⟩
          have H1 : Hid (qas (ltOf cf) a mid e e1 ∧ SortedIn (ltOf cf) a mid e1) := ⟨P1, S1⟩
          have HW1 : Hid (V2 = (putRow eF w blk off e1).drewN n1) := hV2
          clear P1 S1 hV2 hc2
          by_cases t3 : mid < en ∧ en < b
          · have t3a : (mid : Int) < (en : Int) := by omega
            have t3b : (en : Int) < (b : Int) := by omega
            obtain ⟨P1, S1⟩ := H1.out
            have hc3 := HRR.out en t3.1 t3.2 e1 n1 (by rw [P1.1.1, HE.out.1.1]) (qab P1.1 (Nat.le_refl _) HX5.out.2.2.1) (qab P1.1 (by omega) HX5.out.2.2.2.1)
            clear t3 P1 S1
            rw [← HW1.out] at hc3
            go_wp2_with fail
            all_goals
             refine hc3.mono ?_
             rintro x V3 ⟨rfl, e2, P2, S2, n3, hV3⟩
             have H2 : Hid (qas (ltOf cf) mid b e1 e2 ∧ SortedIn (ltOf cf) mid b e2 ∧ V3 = (putRow eF w blk off e2).drewN n3) := ⟨P2, S2, hV3⟩
             clear P2 S2 hV3 hc3
             go_wp2
             go_end0
             obtain ⟨P2, S2, hV3⟩ := H2.out
             have j := qac e e1 e2 a mid b (by omega) (by omega) (by rw [HE.out.1.1]; exact hb) HX5.out.2.2.2.2 H1.out.1.1 H1.out.2 P2.1 S2
             exact ⟨rfl, e2, ⟨permIn_trans _ _ _ _ _ HE.out.2.1 j.1, fun h => P2.2 (H1.out.1.2 (HE.out.2.2 h))⟩, j.2, n3, hV3⟩
          · have HT3 : Hid (¬ (mid < en ∧ en < b)) := t3
            by_cases t4 : mid < en
            · have t4a : (mid : Int) < (en : Int) := by omega
              have t4b : ¬ (en : Int) < (b : Int) := by omega
              clear t3
              go_wp2
              all_goals
               go_end0
               have S2 := qae HT3.out l4 l3 (qab H1.out.1.1 (Nat.le_refl _) HX5.out.2.2.1) (qab H1.out.1.1 l4 HX5.out.2.2.2.1)
               have j := qac e e1 e1 a mid b (by omega) (by omega) (by rw [HE.out.1.1]; exact hb) HX5.out.2.2.2.2 H1.out.1.1 H1.out.2 (permIn_refl _ _ _) S2
               exact ⟨rfl, e1, ⟨permIn_trans _ _ _ _ _ HE.out.2.1 j.1, fun h => H1.out.1.2 (HE.out.2.2 h)⟩, j.2, n1, HW1.out⟩
            · have t4a : ¬ (mid : Int) < (en : Int) := by omega
              clear t3
              go_wp2
              all_goals
               go_end0
               have S2 := qae HT3.out l4 l3 (qab H1.out.1.1 (Nat.le_refl _) HX5.out.2.2.1) (qab H1.out.1.1 l4 HX5.out.2.2.2.1)
               have j := qac e e1 e1 a mid b (by omega) (by omega) (by rw [HE.out.1.1]; exact hb) HX5.out.2.2.2.2 H1.out.1.1 H1.out.2 (permIn_refl _ _ _) S2
               exact ⟨rfl, e1, ⟨permIn_trans _ _ _ _ _ HE.out.2.1 j.1, fun h => H1.out.1.2 (HE.out.2.2 h)⟩, j.2, n1, HW1.out⟩
        · have H1 : Hid (qas (ltOf cf) a mid e e ∧ SortedIn (ltOf cf) a mid e) := ⟨qas.refl, qae t2 (by omega) (by omega) HX5.out.1 HX5.out.2.1⟩
          obtain ⟨e1, he1⟩ : ∃ x, x = e := ⟨_, rfl⟩
          obtain ⟨n1, hn1⟩ : ∃ x, x = n0 := ⟨_, rfl⟩
          have HW1 : Hid (W0 = (putRow eF w blk off e1).drewN n1) := by rw [he1, hn1]; exact HW0
          have H1 : Hid (qas (ltOf cf) a mid e e1 ∧ SortedIn (ltOf cf) a mid e1) := by rw [he1]; exact H1
          clear he1 hn1
          by_cases t5 : a < i
          · have t2a : (a : Int) < (i : Int) := by omega
            have t2b : ¬ (i : Int) < (mid : Int) := by omega
            clear t2
            by_cases t3 : mid < en ∧ en < b
            · have t3a : (mid : Int) < (en : Int) := by omega
              have t3b : (en : Int) < (b : Int) := by omega
              obtain ⟨P1, S1⟩ := H1.out
              have hc3 := HRR.out en t3.1 t3.2 e1 n1 (by rw [P1.1.1, HE.out.1.1]) (qab P1.1 (Nat.le_refl _) HX5.out.2.2.1) (qab P1.1 (by omega) HX5.out.2.2.2.1)
              clear t3 P1 S1
              rw [← HW1.out] at hc3
              go_wp2_with fail
              all_goals
               refine hc3.mono ?_
               rintro x V3 ⟨rfl, e2, P2, S2, n3, hV3⟩
               have H2 : Hid (qas (ltOf cf) mid b e1 e2 ∧ SortedIn (ltOf cf) mid b e2 ∧ V3 = (putRow eF w blk off e2).drewN n3) := ⟨P2, S2, hV3⟩
               clear P2 S2 hV3 hc3
               go_wp2
               go_end0
               obtain ⟨P2, S2, hV3⟩ := H2.out
               have j := qac e e1 e2 a mid b (by omega) (by omega) (by rw [HE.out.1.1]; exact hb) HX5.out.2.2.2.2 H1.out.1.1 H1.out.2 P2.1 S2
               exact ⟨rfl, e2, ⟨permIn_trans _ _ _ _ _ HE.out.2.1 j.1, fun h => P2.2 (H1.out.1.2 (HE.out.2.2 h))⟩, j.2, n3, hV3⟩
            · have HT3 : Hid (¬ (mid < en ∧ en < b)) := t3
              by_cases t4 : mid < en
              · have t4a : (mid : Int) < (en : Int) := by omega
                have t4b : ¬ (en : Int) < (b : Int) := by omega
                clear t3
                go_wp2
                all_goals
                 go_end0
                 have S2 := qae HT3.out l4 l3 (qab H1.out.1.1 (Nat.le_refl _) HX5.out.2.2.1) (qab H1.out.1.1 l4 HX5.out.2.2.2.1)
                 have j := qac e e1 e1 a mid b (by omega) (by omega) (by rw [HE.out.1.1]; exact hb) HX5.out.2.2.2.2 H1.out.1.1 H1.out.2 (permIn_refl _ _ _) S2
                 exact ⟨rfl, e1, ⟨permIn_trans _ _ _ _ _ HE.out.2.1 j.1, fun h => H1.out.1.2 (HE.out.2.2 h)⟩, j.2, n1, HW1.out⟩
              · have t4a : ¬ (mid : Int) < (en : Int) := by omega
                clear t3
                go_wp2
                all_goals
                 go_end0
                 have S2 := qae HT3.out l4 l3 (qab H1.out.1.1 (Nat.le_refl _) HX5.out.2.2.1) (qab H1.out.1.1 l4 HX5.out.2.2.2.1)
                 have j := qac e e1 e1 a mid b (by omega) (by omega) (by rw [HE.out.1.1]; exact hb) HX5.out.2.2.2.2 H1.out.1.1 H1.out.2 (permIn_refl _ _ _) S2
                 exact ⟨rfl, e1, ⟨permIn_trans _ _ _ _ _ HE.out.2.1 j.1, fun h => H1.out.1.2 (HE.out.2.2 h)⟩, j.2, n1, HW1.out⟩
          · have t2a : ¬ (a : Int) < (i : Int) := by omega
            clear t2
            by_cases t3 : mid < en ∧ en < b
            · have t3a : (mid : Int) < (en : Int) := by omega
              have t3b : (en : Int) < (b : Int) := by omega
              obtain ⟨P1, S1⟩ := H1.out
              have hc3 := HRR.out en t3.1 t3.2 e1 n1 (by rw [P1.1.1, HE.out.1.1]) (qab P1.1 (Nat.le_refl _) HX5.out.2.2.1) (qab P1.1 (by omega) HX5.out.2.2.2.1)
              clear t3 P1 S1
              rw [← HW1.out] at hc3
              go_wp2_with fail
              all_goals
               refine hc3.mono ?_
               rintro x V3 ⟨rfl, e2, P2, S2, n3, hV3⟩
               have H2 : Hid (qas (ltOf cf) mid b e1 e2 ∧ SortedIn (ltOf cf) mid b e2 ∧ V3 = (putRow eF w blk off e2).drewN n3) := ⟨P2, S2, hV3⟩
               clear P2 S2 hV3 hc3
               go_wp2
               go_end0
               obtain ⟨P2, S2, hV3⟩ := H2.out
               have j := qac e e1 e2 a mid b (by omega) (by omega) (by rw [HE.out.1.1]; exact hb) HX5.out.2.2.2.2 H1.out.1.1 H1.out.2 P2.1 S2
               exact ⟨rfl, e2, ⟨permIn_trans _ _ _ _ _ HE.out.2.1 j.1, fun h => P2.2 (H1.out.1.2 (HE.out.2.2 h))⟩, j.2, n3, hV3⟩
            · have HT3 : Hid (¬ (mid < en ∧ en < b)) := t3
              by_cases t4 : mid < en
              · have t4a : (mid : Int) < (en : Int) := by omega
                have t4b : ¬ (en : Int) < (b : Int) := by omega
                clear t3
                go_wp2
                all_goals
                 go_end0
                 have S2 := qae HT3.out l4 l3 (qab H1.out.1.1 (Nat.le_refl _) HX5.out.2.2.1) (qab H1.out.1.1 l4 HX5.out.2.2.2.1)
                 have j := qac e e1 e1 a mid b (by omega) (by omega) (by rw [HE.out.1.1]; exact hb) HX5.out.2.2.2.2 H1.out.1.1 H1.out.2 (permIn_refl _ _ _) S2
                 exact ⟨rfl, e1, ⟨permIn_trans _ _ _ _ _ HE.out.2.1 j.1, fun h => H1.out.1.2 (HE.out.2.2 h)⟩, j.2, n1, HW1.out⟩
              · have t4a : ¬ (mid : Int) < (en : Int) := by omega
                clear t3
                go_wp2
                all_goals
                 go_end0
                 have S2 := qae HT3.out l4 l3 (qab H1.out.1.1 (Nat.le_refl _) HX5.out.2.2.1) (qab H1.out.1.1 l4 HX5.out.2.2.2.1)
                 have j := qac e e1 e1 a mid b (by omega) (by omega) (by rw [HE.out.1.1]; exact hb) HX5.out.2.2.2.2 H1.out.1.1 H1.out.2 (permIn_refl _ _ _) S2
                 exact ⟨rfl, e1, ⟨permIn_trans _ _ _ _ _ HE.out.2.1 j.1, fun h => H1.out.1.2 (HE.out.2.2 h)⟩, j.2, n1, HW1.out⟩
      · have t1a : ¬ (i : Int) < (m : Int) := by omega
        clear t1
        have HX5 : Hid (SortedIn (ltOf cf) a i e ∧ SortedIn (ltOf cf) i mid e ∧ SortedIn (ltOf cf) mid en e ∧ SortedIn (ltOf cf) en b e ∧ ∀ x y, a ≤ x → x < mid → mid ≤ y → y < b → ltOf cf e[y]! e[x]! = false) := qdq HSW.out d e a m b mid i en HLE.out (by omega) (by omega) (by omega) l2 l3 HE.out.1 HS1.out HS2.out HQ.out.1 HQ.out.2
        by_cases t2 : a < i ∧ i < mid
        · have t2a : (a : Int) < (i : Int) := by omega
          have t2b : (i : Int) < (mid : Int) := by omega
          have hc2 := HL.out i t2.1 t2.2 e n0 HE.out.1.1 HX5.out.1 HX5.out.2.1
          clear t2
          rw [← HW0.out] at hc2
          go_wp2_with fail
          refine hc2.mono ?_
          rintro x V2 ⟨rfl, e1, P1, S1, n1, hV2⟩
          have H1 : Hid (qas (ltOf cf) a mid e e1 ∧ SortedIn (ltOf cf) a mid e1) := ⟨P1, S1⟩
          have HW1 : Hid (V2 = (putRow eF w blk off e1).drewN n1) := hV2
          clear P1 S1 hV2 hc2
          by_cases t3 : mid < en ∧ en < b
          · have t3a : (mid : Int) < (en : Int) := by omega
            have t3b : (en : Int) < (b : Int) := by omega
            obtain ⟨P1, S1⟩ := H1.out
            have hc3 := HRR.out en t3.1 t3.2 e1 n1 (by rw [P1.1.1, HE.out.1.1]) (qab P1.1 (Nat.le_refl _) HX5.out.2.2.1) (qab P1.1 (by omega) HX5.out.2.2.2.1)
            clear t3 P1 S1
            rw [← HW1.out] at hc3
            go_wp2_with fail
            all_goals
             refine hc3.mono ?_
             rintro x V3 ⟨rfl, e2, P2, S2, n3, hV3⟩
             have H2 : Hid (qas (ltOf cf) mid b e1 e2 ∧ SortedIn (ltOf cf) mid b e2 ∧ V3 = (putRow eF w blk off e2).drewN n3) := ⟨P2, S2, hV3⟩
             clear P2 S2 hV3 hc3
             go_wp2
             go_end0
             obtain ⟨P2, S2, hV3⟩ := H2.out
             have j := qac e e1 e2 a mid b (by omega) (by omega) (by rw [HE.out.1.1]; exact hb) HX5.out.2.2.2.2 H1.out.1.1 H1.out.2 P2.1 S2
             exact ⟨rfl, e2, ⟨permIn_trans _ _ _ _ _ HE.out.2.1 j.1, fun h => P2.2 (H1.out.1.2 (HE.out.2.2 h))⟩, j.2, n3, hV3⟩
          · have HT3 : Hid (¬ (mid < en ∧ en < b)) := t3
            by_cases t4 : mid < en
            · have t4a : (mid : Int) < (en : Int) := by omega
              have t4b : ¬ (en : Int) < (b : Int) := by omega
              clear t3
              go_wp2
              all_goals
               go_end0
               have S2 := qae HT3.out l4 l3 (qab H1.out.1.1 (Nat.le_refl _) HX5.out.2.2.1) (qab H1.out.1.1 l4 HX5.out.2.2.2.1)
               have j := qac e e1 e1 a mid b (by omega) (by omega) (by rw [HE.out.1.1]; exact hb) HX5.out.2.2.2.2 H1.out.1.1 H1.out.2 (permIn_refl _ _ _) S2
               exact ⟨rfl, e1, ⟨permIn_trans _ _ _ _ _ HE.out.2.1 j.1, fun h => H1.out.1.2 (HE.out.2.2 h)⟩, j.2, n1, HW1.out⟩
            · have t4a : ¬ (mid : Int) < (en : Int) := by omega
              clear t3
              go_wp2
              all_goals
               go_end0
               have S2 := qae HT3.out l4 l3 (qab H1.out.1.1 (Nat.le_refl _) HX5.out.2.2.1) (qab H1.out.1.1 l4 HX5.out.2.2.2.1)
               have j := qac e e1 e1 a mid b (by omega) (by omega) (by rw [HE.out.1.1]; exact hb) HX5.out.2.2.2.2 H1.out.1.1 H1.out.2 (permIn_refl _ _ _) S2
               exact ⟨rfl, e1, ⟨permIn_trans _ _ _ _ _ HE.out.2.1 j.1, fun h => H1.out.1.2 (HE.out.2.2 h)⟩, j.2, n1, HW1.out⟩
        · have H1 : Hid (qas (ltOf cf) a mid e e ∧ SortedIn (ltOf cf) a mid e) := ⟨qas.refl, qae t2 (by omega) (by omega) HX5.out.1 HX5.out.2.1⟩
          obtain ⟨e1, he1⟩ : ∃ x, x = e := ⟨_, rfl⟩
          obtain ⟨n1, hn1⟩ : ∃ x, x = n0 := ⟨_, rfl⟩
          have HW1 : Hid (W0 = (putRow eF w blk off e1).drewN n1) := by rw [he1, hn1]; exact HW0
          have H1 : Hid (qas (ltOf cf) a mid e e1 ∧ SortedIn (ltOf cf) a mid e1) := by rw [he1]; exact H1
          clear he1 hn1
          by_cases t5 : a < i
          · have t2a : (a : Int) < (i : Int) := by omega
            have t2b : ¬ (i : Int) < (mid : Int) := by omega
            clear t2
            by_cases t3 : mid < en ∧ en < b
            · have t3a : (mid : Int) < (en : Int) := by omega
              have t3b : (en : Int) < (b : Int) := by omega
              obtain ⟨P1, S1⟩ := H1.out
              have hc3 := HRR.out en t3.1 t3.2 e1 n1 (by rw [P1.1.1, HE.out.1.1]) (qab P1.1 (Nat.le_refl _) HX5.out.2.2.1) (qab P1.1 (by omega) HX5.out.2.2.2.1)
              clear t3 P1 S1
              rw [← HW1.out] at hc3
              go_wp2_with fail
              all_goals
               refine hc3.mono ?_
               rintro x V3 ⟨rfl, e2, P2, S2, n3, hV3⟩
               have H2 : Hid (qas (ltOf cf) mid b e1 e2 ∧ SortedIn (ltOf cf) mid b e2 ∧ V3 = (putRow eF w blk off e2).drewN n3) := ⟨P2, S2, hV3⟩
               clear P2 S2 hV3 hc3
               go_wp2
               go_end0
               obtain ⟨P2, S2, hV3⟩ := H2.out
               have j := qac e e1 e2 a mid b (by omega) (by omega) (by rw [HE.out.1.1]; exact hb) HX5.out.2.2.2.2 H1.out.1.1 H1.out.2 P2.1 S2
               exact ⟨rfl, e2, ⟨permIn_trans _ _ _ _ _ HE.out.2.1 j.1, fun h => P2.2 (H1.out.1.2 (HE.out.2.2 h))⟩, j.2, n3, hV3⟩
            · have HT3 : Hid (¬ (mid < en ∧ en < b)) := t3
              by_cases t4 : mid < en
              · have t4a : (mid : Int) < (en : Int) := by omega
                have t4b : ¬ (en : Int) < (b : Int) := by omega
                clear t3
                go_wp2
                all_goals
                 go_end0
                 have S2 := qae HT3.out l4 l3 (qab H1.out.1.1 (Nat.le_refl _) HX5.out.2.2.1) (qab H1.out.1.1 l4 HX5.out.2.2.2.1)
                 have j := qac e e1 e1 a mid b (by omega) (by omega) (by rw [HE.out.1.1]; exact hb) HX5.out.2.2.2.2 H1.out.1.1 H1.out.2 (permIn_refl _ _ _) S2
                 exact ⟨rfl, e1, ⟨permIn_trans _ _ _ _ _ HE.out.2.1 j.1, fun h => H1.out.1.2 (HE.out.2.2 h)⟩, j.2, n1, HW1.out⟩
              · have t4a : ¬ (mid : Int) < (en : Int) := by omega
                clear t3
                go_wp2
                all_goals
                 go_end0
                 have S2 := qae HT3.out l4 l3 (qab H1.out.1.1 (Nat.le_refl _) HX5.out.2.2.1) (qab H1.out.1.1 l4 HX5.out.2.2.2.1)
                 have j := qac e e1 e1 a mid b (by omega) (by omega) (by rw [HE.out.1.1]; exact hb) HX5.out.2.2.2.2 H1.out.1.1 H1.out.2 (permIn_refl _ _ _) S2
                 exact ⟨rfl, e1, ⟨permIn_trans _ _ _ _ _ HE.out.2.1 j.1, fun h => H1.out.1.2 (HE.out.2.2 h)⟩, j.2, n1, HW1.out⟩
          · have t2a : ¬ (a : Int) < (i : Int) := by omega
            clear t2
            by_cases t3 : mid < en ∧ en < b
            · have t3a : (mid : Int) < (en : Int) := by omega
              have t3b : (en : Int) < (b : Int) := by omega
              obtain ⟨P1, S1⟩ := H1.out
              have hc3 := HRR.out en t3.1 t3.2 e1 n1 (by rw [P1.1.1, HE.out.1.1]) (qab P1.1 (Nat.le_refl _) HX5.out.2.2.1) (qab P1.1 (by omega) HX5.out.2.2.2.1)
              clear t3 P1 S1
              rw [← HW1.out] at hc3
              go_wp2_with fail
              all_goals
               refine hc3.mono ?_
               rintro x V3 ⟨rfl, e2, P2, S2, n3, hV3⟩
               have H2 : Hid (qas (ltOf cf) mid b e1 e2 ∧ SortedIn (ltOf cf) mid b e2 ∧ V3 = (putRow eF w blk off e2).drewN n3) := ⟨P2, S2, hV3⟩
               clear P2 S2 hV3 hc3
               go_wp2
               go_end0
               obtain ⟨P2, S2, hV3⟩ := H2.out
               have j := qac e e1 e2 a mid b (by omega) (by omega) (by rw [HE.out.1.1]; exact hb) HX5.out.2.2.2.2 H1.out.1.1 H1.out.2 P2.1 S2
               exact ⟨rfl, e2, ⟨permIn_trans _ _ _ _ _ HE.out.2.1 j.1, fun h => P2.2 (H1.out.1.2 (HE.out.2.2 h))⟩, j.2, n3, hV3⟩
            · have HT3 : Hid (¬ (mid < en ∧ en < b)) := t3
              by_cases t4 : mid < en
              · have t4a : (mid : Int) < (en : Int) := by omega
                have t4b : ¬ (en : Int) < (b : Int) := by omega
                clear t3
                go_wp2
                all_goals
                 go_end0
                 have S2 := qae HT3.out l4 l3 (qab H1.out.1.1 (Nat.le_refl _) HX5.out.2.2.1) (qab H1.out.1.1 l4 HX5.out.2.2.2.1)
                 have j := qac e e1 e1 a mid b (by omega) (by omega) (by rw [HE.out.1.1]; exact hb) HX5.out.2.2.2.2 H1.out.1.1 H1.out.2 (permIn_refl _ _ _) S2
                 exact ⟨rfl, e1, ⟨permIn_trans _ _ _ _ _ HE.out.2.1 j.1, fun h => H1.out.1.2 (HE.out.2.2 h)⟩, j.2, n1, HW1.out⟩
              · have t4a : ¬ (mid : Int) < (en : Int) := by omega
                clear t3
                go_wp2
                all_goals
                 go_end0
                 have S2 := qae HT3.out l4 l3 (qab H1.out.1.1 (Nat.le_refl _) HX5.out.2.2.1) (qab H1.out.1.1 l4 HX5.out.2.2.2.1)
                 have j := qac e e1 e1 a mid b (by omega) (by omega) (by rw [HE.out.1.1]; exact hb) HX5.out.2.2.2.2 H1.out.1.1 H1.out.2 (permIn_refl _ _ _) S2
                 exact ⟨rfl, e1, ⟨permIn_trans _ _ _ _ _ HE.out.2.1 j.1, fun h => H1.out.1.2 (HE.out.2.2 h)⟩, j.2, n1, HW1.out⟩
end Go.Proofs.YthkppipdflmekaaGreat
