/- What is asked of insertionSortCmpFunc holds; slices.SortStableFunc. -/
import Derived.Test.YthkppipdflmekaaGreatQHSym
import Derived.Test.YthkppipdflmekaaGreatQHSymB
import Derived.Sort.LotA
import Derived.Sort.Lot0
set_option maxRecDepth 100000
set_option maxHeartbeats 4000000
namespace Go.Proofs.YthkppipdflmekaaGreat
open Go.RowKit Go.Shelf Go.Lib Go.Sort
set_option linter.unusedVariables false
set_option linter.unusedSimpArgs false
variable {N : Nat} [Inhabited (Fin N)]
theorem qq0 (x y bx g o len cap : Nat) (z1 z2 : Int) (w : World) (hbx : w.cell? ⟨bx, 0, none⟩ = some (.slice (some ⟨g, o, none⟩) len cap)) (hx : x < len) (hy : y < len)
    (h1 : w.cell? ⟨g, o + x, none⟩ = some (.int .i64 z1)) (h2 : w.cell? ⟨g, o + y, none⟩ = some (.int .i64 z2)) :
    Calls Tryz.prog 121 #[.int .i64 (x : Int), .int .i64 (y : Int), .pointer (some ⟨bx, 0, none⟩)] w fun e w' => e = .returned (.int .i64 (cmpZ z1 z2)) ∧ ∃ q, w' = w.drewN q := by
 have hc : ∀ k, Calls Tryz.prog 122 #[.int .i64 z1, .int .i64 z2] (w.drewN k) fun e w' => e = .returned (.int .i64 (cmpZ z1 z2)) ∧ ∃ q, w' = (w.drewN k).drewN q := fun k =>
  (qpr z1 z2 (w.drewN k)).mono fun _ _ ⟨q1, q2⟩ => ⟨q1, 0, q2⟩
 have b1 : (x : Int) < (len : Int) := by omega
 have b2 : (y : Int) < (len : Int) := by omega
 have b3 : (0 : Int) ≤ (x : Int) := by omega
 have b4 : (0 : Int) ≤ (y : Int) := by omega
 generalize cmpZ z1 z2 = r at hc ⊢
 go_enter Tryz.func121, Tryz.ntmps121
 go_wp2_with fail
 go_quiet (refine Calls.quiet_of (hc _))
 go_wp2
 go_ret
 exact ⟨rfl, nq, rfl⟩
def cfZ (zs : List Int) (x y : Fin zs.length) : Int := cmpZ (zs.getD x.val 0) (zs.getD y.val 0)
theorem ltZ (zs : List Int) (x y : Fin zs.length) : ltOf (cfZ zs) x y = decide (zs.getD x.val 0 < zs.getD y.val 0) := by
 unfold ltOf cfZ
 generalize zs.getD x.val 0 = a
 generalize zs.getD y.val 0 = b
 unfold cmpZ
 by_cases h1 : a < b
 · rw [if_pos h1]; simp [h1]
 · rw [if_neg h1]
   by_cases h2 : b < a
   · rw [if_pos h2]; simp; omega
   · rw [if_neg h2]; simp; omega
theorem swoZ (zs : List Int) : SWO (ltOf (cfZ zs)) where
 irrefl x := by rw [ltZ]; exact decide_eq_false (by omega)
 trans x y z h1 h2 := by rw [ltZ] at *; have := of_decide_eq_true h1; have := of_decide_eq_true h2; exact decide_eq_true (by omega)
 ntrans x y z h1 h2 := by rw [ltZ] at *; have := of_decide_eq_false h1; have := of_decide_eq_false h2; exact decide_eq_false (by omega)
theorem qz6 (zs : List Int) [Inhabited (Fin zs.length)] (bx g o cap blk off size : Nat) (w : World) (hbx : w.cell? ⟨bx, 0, none⟩ = some (.slice (some ⟨g, o, none⟩) zs.length cap))
    (hc : ∀ i, i < zs.length → w.cell? ⟨g, o + i, none⟩ = some (.int .i64 (zs.getD i 0))) (h1 : bx ≠ blk) (h2 : g ≠ blk) : CmpF (.pointer (some ⟨bx, 0, none⟩)) (cfZ zs) blk off size w := by
 intro dk m x y hs
 refine qq0 x.val y.val bx g o zs.length cap _ _ _ ?_ x.isLt y.isLt ?_ ?_
 · show (putRow eF w blk off dk).cell? _ = _
   rw [cell?_putRow_other _ _ _ _ _ _ (.inl h1)]; exact hbx
 · show (putRow eF w blk off dk).cell? _ = _
   rw [cell?_putRow_other _ _ _ _ _ _ (.inl h2)]; exact hc _ x.isLt
 · show (putRow eF w blk off dk).cell? _ = _
   rw [cell?_putRow_other _ _ _ _ _ _ (.inl h2)]; exact hc _ y.isLt
variable {N : Nat} [Inhabited (Fin N)]
def SBk (lt : Fin N → Fin N → Bool) (s lo hi : Nat) (d : Array (Fin N)) : Prop := ∀ i j, lo ≤ i → i < j → j < hi → i / s = j / s → lt d[j]! d[i]! = false
theorem qxg {s q i : Nat} (hs : 0 < s) (h1 : q * s ≤ i) (h2 : i < q * s + s) : i / s = q := by
 have a : q ≤ i / s := (Nat.le_div_iff_mul_le hs).2 h1
 have b : i / s < q + 1 := (Nat.div_lt_iff_lt_mul hs).2 (by rw [Nat.succ_mul]; exact h2)
 omega
theorem q4u {s q i : Nat} (hs : 0 < s) (h : i < q * s) : i / s < q := (Nat.div_lt_iff_lt_mul hs).2 h
theorem SBk.sorted {lt : Fin N → Fin N → Bool} {s lo hi q b : Nat} {d : Array (Fin N)} (h : SBk lt s lo hi d) (hs : 0 < s) (hl : lo ≤ q * s) (hb : b ≤ q * s + s) (hh : b ≤ hi) : SortedIn lt (q * s) b d :=
 fun i j h1 h2 h3 => h i j (by omega) h2 (by omega) (by rw [qxg hs h1 (by omega), qxg hs (show q * s ≤ j by omega) (by omega)])
theorem SBk.keep {lt : Fin N → Fin N → Bool} {s lo hi a b : Nat} {d d' : Array (Fin N)} (h : SBk lt s lo hi d) (P : PermIn a b d d') (hk : hi ≤ a ∨ b ≤ lo) : SBk lt s lo hi d' := by
 intro i j h1 h2 h3 h4
 rw [P.2.1 i (by omega), P.2.1 j (by omega)]; exact h i j h1 h2 h3 h4
theorem SBk.more {lt : Fin N → Fin N → Bool} {s q b : Nat} {d : Array (Fin N)} (hs : 0 < s) (h : SBk lt s 0 (q * s) d) (hb : b ≤ q * s + s) (hS : SortedIn lt (q * s) b d) : SBk lt s 0 b d := by
 intro i j _ h2 h3 h4
 by_cases c1 : j < q * s
 · exact h i j (by omega) h2 c1 h4
 · by_cases c2 : i < q * s
   · have := q4u hs c2
     rw [qxg hs (show q * s ≤ j by omega) (by omega)] at h4
     omega
   · exact hS i j (by omega) h2 h3
theorem SBk.whole {lt : Fin N → Fin N → Bool} {s n : Nat} {d : Array (Fin N)} (h : SBk lt s 0 n d) (hs : n ≤ s) : SortedIn lt 0 n d := by
 intro i j h1 h2 h3
 exact h i j h1 h2 h3 (by rw [Nat.div_eq_of_lt (by omega), Nat.div_eq_of_lt (by omega)])
theorem SBk.later {lt : Fin N → Fin N → Bool} {s lo lo' hi : Nat} {d : Array (Fin N)} (h : SBk lt s lo hi d) (hl : lo ≤ lo') : SBk lt s lo' hi d :=
 fun i j h1 h2 h3 h4 => h i j (by omega) h2 h3 h4
variable {N : Nat} [Inhabited (Fin N)]
def q4z (cb : Value) (cf : Fin N → Fin N → Int) (blk off cap size : Nat) (w : World) : Prop :=
 ∀ (dk : Array (Fin N)) (n a b : Nat), dk.size = size → a ≤ b → b ≤ size →
  Calls Tryz.prog 133 #[.slice (some ⟨blk, off, none⟩) size cap, .int .i64 (a : Int), .int .i64 (b : Int), .func (.func 121) #[] #[cb]] ((putRow eF w blk off dk).drewN n) fun e w' =>
   e = .returned (.tuple #[]) ∧ ∃ d', qas (ltOf cf) a b dk d' ∧ SortedIn (ltOf cf) a b d' ∧ ∃ n, w' = (putRow eF w blk off d').drewN n
def q1e (cb : Value) (cf : Fin N → Fin N → Int) (blk off cap size : Nat) (w : World) : Prop :=
 ∀ a m b, a < m → m < b → b ≤ size → qjn cb cf blk off cap size w a m b
theorem SBk.merge {lt : Fin N → Fin N → Bool} {s q b n : Nat} {d d' : Array (Fin N)} (hs : 0 < s) (hb : b ≤ q * (2 * s) + 2 * s) (hn : b ≤ n) (h1 : SBk lt (2 * s) 0 (q * (2 * s)) d) (P : PermIn (q * (2 * s)) b d d') (S : SortedIn lt (q * (2 * s)) b d') : SBk lt (2 * s) 0 b d' :=
 (h1.keep P (.inl (Nat.le_refl _))).more (by omega) hb S
theorem SBk.left {lt : Fin N → Fin N → Bool} {s q n : Nat} {d : Array (Fin N)} (hs : 0 < s) (h : SBk lt s (q * (2 * s)) n d) (hn : q * (2 * s) + s ≤ n) : SortedIn lt (q * (2 * s)) (q * (2 * s) + s) d := by
 have e : q * (2 * s) = (2 * q) * s := by rw [← Nat.mul_assoc, Nat.mul_comm q 2]
 rw [e] at h hn ⊢
 exact h.sorted hs (Nat.le_refl _) (Nat.le_refl _) hn
theorem SBk.right {lt : Fin N → Fin N → Bool} {s q b n : Nat} {d : Array (Fin N)} (hs : 0 < s) (h : SBk lt s (q * (2 * s)) n d) (hb : b ≤ q * (2 * s) + 2 * s) (hn : b ≤ n) : SortedIn lt (q * (2 * s) + s) b d := by
 have e : q * (2 * s) + s = (2 * q + 1) * s := by rw [Nat.add_mul, Nat.one_mul, Nat.mul_comm 2 q, Nat.mul_assoc]
 rw [e]
 exact h.sorted hs (by omega) (by omega) hn
theorem SBk.rest {lt : Fin N → Fin N → Bool} {s q n : Nat} {d : Array (Fin N)} (hs : 0 < s) (h : SBk lt s (q * (2 * s)) n d) (hn : n ≤ q * (2 * s) + s) : SortedIn lt (q * (2 * s)) n d := by
 have e : q * (2 * s) = (2 * q) * s := by rw [← Nat.mul_assoc, Nat.mul_comm q 2]
 rw [e] at h hn ⊢
 exact h.sorted hs (Nat.le_refl _) hn (Nat.le_refl _)
theorem qs1 (cb : Value) (cf : Fin N → Fin N → Int) (hS : SWO (ltOf cf)) (blk off cap : Nat) (d : Array (Fin N)) (w : World) (hH : Holds eF w blk off d) (hsz : d.size ≤ 1000000)
    (hI : q4z cb cf blk off cap d.size w) (hM : q1e cb cf blk off cap d.size w) :
    Calls Tryz.prog 128 #[.slice (some ⟨blk, off, none⟩) d.size cap, .int .i64 (d.size : Int), .func (.func 121) #[] #[cb]] w fun e w' =>
     e = .returned (.tuple #[]) ∧ ∃ d', qas (ltOf cf) 0 d.size d d' ∧ SortedIn (ltOf cf) 0 d.size d' ∧ ∃ n, w' = (putRow eF w blk off d').drewN n := by
 have HST : Hid (w = (putRow eF w blk off d).drewN 0) := (putRow_self eF w blk off d hH).symm
 have HI : Hid _ := hI
 have HM : Hid _ := hM
 clear hI hM hH
 obtain ⟨n, hn⟩ : ∃ n, n = d.size := ⟨_, rfl⟩
 have HN : Hid (_ = _) := hn
 rw [← hn] at hsz ⊢
 rw [← hn] at HI HM
 clear hn
 go_enter Tryz.func128, Tryz.ntmps128
 go_wp2
 go_loopw [7, 8] (fun u v wr => ∃ (q k A B : Nat) (dk : Array (Fin N)), u = .int .i64 (A : Int) ∧ v = .int .i64 (B : Int) ∧ Hid (A = q * 20 ∧ B = q * 20 + 20) ∧ A ≤ n ∧ Hid (qas (ltOf cf) 0 n d dk) ∧ Hid (SBk (ltOf cf) 20 0 (q * 20) dk) ∧ wr = (putRow eF w blk off dk).drewN k) (fun _ v _ => n + 21 - (intOf v).toNat)
 case atStart => exact ⟨0, 0, 0, 20, d, rfl, rfl, ⟨rfl, rfl⟩, by omega, qas.refl, fun i j h1 h2 h3 => by omega, HST.out⟩
 case round =>
  obtain ⟨q, k, A, B, dk, rfl, rfl, HAB, hA, HP, HB, rfl⟩ := hrel
  have hds : dk.size = n := by rw [HP.out.1.1, HN.out]
  by_cases hlt : B ≤ n
  · have hlti : (B : Int) ≤ (n : Int) := by omega
    have HINS : Hid _ := HI.out dk k A B hds (by have := HAB.out; omega) hlt
    go_wp2_with fail
    refine (Hid.out HINS : Calls _ _ _ _ _).mono ?_
    rintro e w1 ⟨rfl, d', q1, q2, k1, rfl⟩
    have HP2 : Hid (qas (ltOf cf) 0 n d d') := HP.out.trans (q1.mono (by omega) hlt (by omega))
    have HB2 : Hid (SBk (ltOf cf) 20 0 ((q + 1) * 20) d') := by
     obtain ⟨hA, hB⟩ := HAB.out
     rw [hA, hB] at q1 q2
     have := (HB.out.keep q1.1 (.inl (Nat.le_refl _))).more (by omega) (Nat.le_refl _) q2
     rw [show (q + 1) * 20 = q * 20 + 20 by omega]; exact this
    have HAB2 : Hid (B = (q + 1) * 20 ∧ B + 20 = (q + 1) * 20 + 20) := by have := HAB.out; exact ⟨by omega, by omega⟩
    have hB1 : 20 ≤ B := by have := HAB.out; omega
    clear q1 q2 HP HB HAB
    go_wp2
    go_roundw
    case rel => exact ⟨q + 1, _, B, B + 20, d', rfl, by go_num, HAB2, by omega, HP2, HB2, rfl⟩
    case measure => simp [intOf]; omega
  · have hlti : ¬ (B : Int) ≤ (n : Int) := by omega
    have HINS : Hid _ := HI.out dk k A n hds hA (Nat.le_refl _)
    go_wp2_with fail
    refine (Hid.out HINS : Calls _ _ _ _ _).mono ?_
    rintro e w1 ⟨rfl, d', q1, q2, k1, rfl⟩
    have HP2 : Hid (qas (ltOf cf) 0 n d d') := HP.out.trans (q1.mono (by omega) (Nat.le_refl _) (by omega))
    have HB2 : Hid (SBk (ltOf cf) 20 0 n d') := by
     obtain ⟨hA, hB⟩ := HAB.out
     rw [hA] at q1 q2
     exact (HB.out.keep q1.1 (.inl (Nat.le_refl _))).more (by omega) (by omega) q2
    clear q1 q2 HP HB HAB HINS hds
    go_wp2
    go_loopw [6] (fun u wr => ∃ (s k : Nat) (dk : Array (Fin N)), u = .int .i64 (s : Int) ∧ 20 ≤ s ∧ s ≤ 2000000 ∧ Hid (qas (ltOf cf) 0 n d dk) ∧ Hid (SBk (ltOf cf) s 0 n dk) ∧ wr = (putRow eF w blk off dk).drewN k) (fun u _ => 2000001 - (intOf u).toNat)
    case atStart => exact ⟨20, k1, d', rfl, by omega, by omega, HP2, HB2, rfl⟩
    case round =>
     clear HP2 HB2
     obtain ⟨s, k, dk, rfl, hs20, hsu, HP, HB, rfl⟩ := hrel
     by_cases hlt : s < n
     · have hlti : (s : Int) < (n : Int) := by omega
       go_wp2
       go_loopw [7, 8] (fun u v wr => ∃ (q k A B : Nat) (dk : Array (Fin N)), u = .int .i64 (A : Int) ∧ v = .int .i64 (B : Int) ∧ Hid (A = q * (2 * s)) ∧ B = A + 2 * s ∧ A ≤ n ∧ Hid (qas (ltOf cf) 0 n d dk) ∧ Hid (SBk (ltOf cf) (2 * s) 0 (q * (2 * s)) dk) ∧ Hid (SBk (ltOf cf) s (q * (2 * s)) n dk) ∧ wr = (putRow eF w blk off dk).drewN k) (fun _ v _ => n + 2 * s + 1 - (intOf v).toNat)
       case atStart => exact ⟨0, k, 0, 2 * s, dk, rfl, by go_num, by unfold Hid; omega, by omega, by omega, HP, fun i j h1 h2 h3 => by omega, by rw [Nat.zero_mul]; exact HB, rfl⟩
       case round =>
        clear HP HB
        obtain ⟨q, k, A, B, dk, rfl, rfl, HA, hB, hA, HP, HB1, HB2, rfl⟩ := hrel
        have hds : dk.size = n := by rw [HP.out.1.1, HN.out]
        have HBE : Hid (B = A + 2 * s) := hB
        have hAs : A + s ≤ B ∧ A < A + s ∧ A + s < B := by omega
        have hBb : B ≤ 5000000 := by omega
        have hB20 : 40 ≤ B := by omega
        by_cases hlb : B ≤ n
        · have hlbi : (B : Int) ≤ (n : Int) := by omega
          clear hB
          obtain ⟨C, hC⟩ : ∃ C : Nat, (A : Int) + (s : Int) = (C : Int) ∧ C = A + s := ⟨A + s, by omega, rfl⟩
          have hS1 : SortedIn (ltOf cf) A C dk := by
           have := HB2.out.left (by omega) (by rw [← HA.out]; omega)
           rw [← HA.out, ← hC.2] at this; exact this
          have hS2 : SortedIn (ltOf cf) C B dk := by
           have := HB2.out.right (b := B) (by omega) (by have := HBE.out; rw [← HA.out]; omega) hlb
           rw [← HA.out, ← hC.2] at this; exact this
          have HMM : Hid _ := HM.out A C B (by omega) (by omega) hlb dk k hds hS1 hS2
          have hC1 := hC.1
          clear hC hS1 hS2
          go_wp2_with fail
          refine (Hid.out HMM : Calls _ _ _ _ _).mono ?_
          rintro e w1 ⟨rfl, d', q1, q2, k1, rfl⟩
          have HP2 : Hid (qas (ltOf cf) 0 n d d') := HP.out.trans (q1.mono (by omega) hlb (by omega))
          have hAB : B = (q + 1) * (2 * s) := by have := HA.out; have := HBE.out; rw [Nat.add_mul, Nat.one_mul]; omega
          have HB1' : Hid (SBk (ltOf cf) (2 * s) 0 ((q + 1) * (2 * s)) d') := by
           rw [← hAB]
           rw [HA.out] at q1 q2
           exact HB1.out.merge (n := n) (by omega) (by have := HA.out; have := HBE.out; omega) hlb q1.1 q2
          have HB2' : Hid (SBk (ltOf cf) s ((q + 1) * (2 * s)) n d') := by
           rw [← hAB]
           exact (HB2.out.later (by have := HA.out; have := HBE.out; omega)).keep q1.1 (.inr (Nat.le_refl _))
          have HAB : Hid (B = (q + 1) * (2 * s)) := hAB
          clear q1 q2 HP HB1 HB2 HMM hAB
          obtain ⟨D, hD, HD⟩ : ∃ D : Nat, (B : Int) + 2 * (s : Int) = (D : Int) ∧ Hid (D = B + 2 * s) := ⟨B + 2 * s, by omega, rfl⟩
          go_wp2
          go_roundw
          case rel => exact ⟨q + 1, _, B, D, d', rfl, by first | rfl | go_num, HAB, HD.out, by omega, HP2, HB1', HB2', rfl⟩
          case measure => have := HD.out; simp [intOf]; omega
        · have hlbi : ¬ (B : Int) ≤ (n : Int) := by omega
          clear hB
          obtain ⟨C, hC⟩ : ∃ C : Nat, (A : Int) + (s : Int) = (C : Int) ∧ C = A + s := ⟨A + s, by omega, rfl⟩
          have hC1 := hC.1
          obtain ⟨D, hD, HD⟩ : ∃ D : Nat, (s : Int) * 2 = (D : Int) ∧ Hid (D = 2 * s) := ⟨2 * s, by omega, by show _ = _; omega⟩
          by_cases hcn : C < n
          · have hcni : (C : Int) < (n : Int) := by omega
            have hS1 : SortedIn (ltOf cf) A C dk := by
             have := HB2.out.left (by omega) (by rw [← HA.out]; omega)
             rw [← HA.out, ← hC.2] at this; exact this
            have hS2 : SortedIn (ltOf cf) C n dk := by
             have := HB2.out.right (b := n) (by omega) (by have := HBE.out; rw [← HA.out]; omega) (Nat.le_refl _)
             rw [← HA.out, ← hC.2] at this; exact this
            have HMM : Hid _ := HM.out A C n (by omega) hcn (Nat.le_refl _) dk k hds hS1 hS2
            clear hC hS1 hS2
            go_wp2_with fail
            refine (Hid.out HMM : Calls _ _ _ _ _).mono ?_
            rintro e w1 ⟨rfl, d', q1, q2, k1, rfl⟩
            have HP2 : Hid (qas (ltOf cf) 0 n d d') := HP.out.trans (q1.mono (by omega) (Nat.le_refl _) (by omega))
            have HB1' : Hid (SBk (ltOf cf) D 0 n d') := by
             rw [HD.out]
             rw [HA.out] at q1 q2
             exact HB1.out.merge (n := n) (by omega) (by have := HA.out; have := HBE.out; omega) (Nat.le_refl _) q1.1 q2
            clear q1 q2 HP HB1 HB2 HMM
            go_wp2
            go_roundw
            case rel => exact ⟨D, _, d', rfl, by have := HD.out; omega, by have := HD.out; omega, HP2, HB1', rfl⟩
            case measure => have := HD.out; simp [intOf]; omega
          · have hcni : ¬ (C : Int) < (n : Int) := by omega
            have HB1' : Hid (SBk (ltOf cf) D 0 n dk) := by
             rw [HD.out]
             have h1 := HB2.out.rest (by omega) (by rw [← HA.out]; omega)
             exact HB1.out.more (by omega) (by have := HA.out; have := HBE.out; omega) h1
            clear hC HB1 HB2
            go_wp2
            go_roundw
            case rel => exact ⟨D, _, dk, rfl, by have := HD.out; omega, by have := HD.out; omega, HP, HB1', rfl⟩
            case measure => have := HD.out; simp [intOf]; omega
     · have hlti : ¬ (s : Int) < (n : Int) := by omega
       have HF : Hid (SortedIn (ltOf cf) 0 n dk) := HB.out.whole (by omega)
       go_wp2
       exact bodyPost_end (results_none rfl _ _ _) rfl ⟨rfl, dk, HP.out, HF.out, _, rfl⟩
theorem qox (args : Array Value) (w : World) : (callFunc 121 args).run Tryz.prog w = .ok (.enter 121 args) w := enters_of Tryz.func121 (by kernel_rfl) rfl args w
theorem qnz (zs : List Int) [Inhabited (Fin zs.length)] (bx g o cap blk off size : Nat) (w : World) (hbx : w.cell? ⟨bx, 0, none⟩ = some (.slice (some ⟨g, o, none⟩) zs.length cap))
    (hc : ∀ i, i < zs.length → w.cell? ⟨g, o + i, none⟩ = some (.int .i64 (zs.getD i 0))) (h1 : bx ≠ blk) (h2 : g ≠ blk) (hb1 : bx < w.heap.size) (hb2 : g < w.heap.size) :
    CmpReads Tryz.prog 121 #[.pointer (some ⟨bx, 0, none⟩)] eF (cfZ zs) blk off size w := by
 intro m os dk hs x y
 have hcell : ∀ (b j : Nat) (v : Value), b ≠ blk → b < w.heap.size → w.cell? ⟨b, j, none⟩ = some v → (sortWorld eF w blk off m dk os).cell? ⟨b, j, none⟩ = some v := by
  intro b j v hne hlt h
  unfold sortWorld
  rw [cell?_grow _ _ _ (by rw [size_putRow]; exact hlt), cell?_putRow_other _ _ _ _ _ _ (.inl hne)]
  exact h
 exact qq0 x.val y.val bx g o zs.length cap _ _ _ (hcell _ _ _ h1 hb1 hbx) x.isLt y.isLt (hcell _ _ _ h2 hb2 (hc _ x.isLt)) (hcell _ _ _ h2 hb2 (hc _ y.isLt))
theorem q4r {N : Nat} : OneCell (eF (N := N)) := fun x => rfl
theorem qwh (zs : List Int) [Inhabited (Fin zs.length)] (bx g o capz blk off cap : Nat) (d : Array (Fin zs.length)) (w : World) (hbx : w.cell? ⟨bx, 0, none⟩ = some (.slice (some ⟨g, o, none⟩) zs.length capz))
    (hc : ∀ i, i < zs.length → w.cell? ⟨g, o + i, none⟩ = some (.int .i64 (zs.getD i 0))) (h1 : bx ≠ blk) (h2 : g ≠ blk) (hb1 : bx < w.heap.size) (hb2 : g < w.heap.size) (hH : Holds eF w blk off d) (hsz : d.size ≤ 1000000) :
    q4z (.pointer (some ⟨bx, 0, none⟩)) (cfZ zs) blk off cap d.size w := by
 intro dk n a b hk hab hb
 have hH' : Holds eF ((putRow eF w blk off dk).drewN n) blk off dk := holds_putRow eF w blk off d dk hH hk
 have hcr := qnz zs bx g o capz blk off dk.size ((putRow eF w blk off dk).drewN n)
  (by rw [World.cell?_drewN, cell?_putRow_other _ _ _ _ _ _ (.inl h1)]; exact hbx) (fun i hi => by rw [World.cell?_drewN, cell?_putRow_other _ _ _ _ _ _ (.inl h2)]; exact hc i hi) h1 h2
  (by rw [World.heap_drewN, size_putRow]; exact hb1) (by rw [World.heap_drewN, size_putRow]; exact hb2)
 have hI := Any.insertionSortCmpFunc_one Tryz.insF eF q4r (cfZ zs) 121 #[.pointer (some ⟨bx, 0, none⟩)] blk off cap a b dk _ qox hcr hH' hab (by omega) (by omega)
 obtain ⟨p1, p2⟩ := insertionSort_holds (lt := ltOf (cfZ zs)) (swoZ zs) dk a b hab (by omega)
 rw [hk] at hI
 refine Calls.mono (show Calls Tryz.prog 133 _ _ _ from hI) ?_
 rintro e w' ⟨rfl, m, rfl⟩
 exact ⟨rfl, _, ⟨p1, fun h => q4p (by omega) h⟩, p2, n + m, by rw [qcc _ _ _ _ _ _ _ p1.1]⟩
theorem qyd (zs : List Int) [Inhabited (Fin zs.length)] (bx g o capz blk off cap : Nat) (d : Array (Fin zs.length)) (w : World) (hbx : w.cell? ⟨bx, 0, none⟩ = some (.slice (some ⟨g, o, none⟩) zs.length capz))
    (hc : ∀ i, i < zs.length → w.cell? ⟨g, o + i, none⟩ = some (.int .i64 (zs.getD i 0))) (h1 : bx ≠ blk) (h2 : g ≠ blk) (hH : Holds eF w blk off d) (hsz : d.size ≤ 1000000) :
    q1e (.pointer (some ⟨bx, 0, none⟩)) (cfZ zs) blk off cap d.size w := fun a m b q1 q2 q3 =>
 quo _ _ (swoZ zs) blk off cap d.size (by omega) (b - a) a m b (Nat.le_refl _) q1 q2 q3 w d hH rfl (qz6 zs bx g o capz blk off d.size w hbx hc h1 h2)
theorem qjp (zs : List Int) [Inhabited (Fin zs.length)] (bx g o capz blk off cap : Nat) (d : Array (Fin zs.length)) (w : World) (hbx : w.cell? ⟨bx, 0, none⟩ = some (.slice (some ⟨g, o, none⟩) zs.length capz))
    (hc : ∀ i, i < zs.length → w.cell? ⟨g, o + i, none⟩ = some (.int .i64 (zs.getD i 0))) (h1 : bx ≠ blk) (h2 : g ≠ blk) (hb1 : bx < w.heap.size) (hb2 : g < w.heap.size) (hH : Holds eF w blk off d) (hsz : d.size ≤ 1000000) :
    Calls Tryz.prog 120 #[.slice (some ⟨blk, off, none⟩) d.size cap, .func (.func 121) #[] #[.pointer (some ⟨bx, 0, none⟩)]] w fun e w' =>
     e = .returned (.tuple #[]) ∧ ∃ d', qas (ltOf (cfZ zs)) 0 d.size d d' ∧ SortedIn (ltOf (cfZ zs)) 0 d.size d' ∧ ∃ n, w' = (putRow eF w blk off d').drewN n := by
 have HS : Hid _ := qs1 (.pointer (some ⟨bx, 0, none⟩)) (cfZ zs) (swoZ zs) blk off cap d w hH hsz (qwh zs bx g o capz blk off cap d w hbx hc h1 h2 hb1 hb2 hH hsz) (qyd zs bx g o capz blk off cap d w hbx hc h1 h2 hH hsz)
 clear hbx hc hH
 go_enter Tryz.func120, Tryz.ntmps120
 go_wp2_with fail
 refine (Hid.out HS : Calls _ _ _ _ _).mono ?_
 rintro e w1 ⟨rfl, d', q1, q2, k1, rfl⟩
 go_wp2
 exact bodyPost_end (results_none rfl _ _ _) rfl ⟨rfl, d', q1, q2, k1, rfl⟩
end Go.Proofs.YthkppipdflmekaaGreat
