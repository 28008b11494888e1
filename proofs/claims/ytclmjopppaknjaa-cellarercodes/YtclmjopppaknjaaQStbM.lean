/- slices.symMergeCmpFunc, whole: two sorted stretches side by side are merged. The closure that huff.rising sorts by: the counts of two symbols compared. Pure: a row that is sorted in blocks, and what merging two blocks side by side makes of it. -/
import Derived.Test.YtclmjopppaknjaaQHSymD
namespace Go.Proofs.Ytclmjopppaknjaa
open Go.RowKit Go.Shelf Go.Lib Go.Sort
set_option linter.unusedVariables false
set_option linter.unusedSimpArgs false
variable {N : Nat} [Inhabited (Fin N)]

theorem CmpF.again {cb : Value} {cf : Fin N → Fin N → Int} {blk off size : Nat} {w : World} (h : CmpF cb cf blk off size w) (dk : Array (Fin N)) (n : Nat) (hk : dk.size = size) :
    CmpF cb cf blk off size ((putRow eF w blk off dk).drewN n) := by
  intro d' m x y hs
  have := h d' (n + m) x y hs
  rw [← putRow_again w blk off dk d' n m (by omega)] at this
  exact this
theorem sym_all (cb : Value) (cf : Fin N → Fin N → Int) (hS : SWO (ltOf cf)) (blk off cap size : Nat) (hsz : size < 2305843009213693952) : ∀ (L a m b : Nat), b - a ≤ L → a < m → m < b → b ≤ size →
    ∀ (w : World) (d : Array (Fin N)), Holds eF w blk off d → d.size = size → CmpF cb cf blk off size w → SymAt cb cf blk off cap size w a m b
  | 0, a, m, b, h0, h1, h2, _, _, _, _, _, _ => by omega
  | L + 1, a, m, b, h0, h1, h2, h3, w, d, hH, hd, hC => by
    intro dk n hk s1 s2
    have hH' : Holds eF ((putRow eF w blk off dk).drewN n) blk off dk := holds_putRow eF w blk off d dk hH (by omega)
    have hC' : CmpF cb cf blk off dk.size ((putRow eF w blk off dk).drewN n) := by rw [hk]; exact hC.again dk n hk
    have ih : ∀ a' m' b', b' - a' ≤ L → a' < m' → m' < b' → b' ≤ size → SymAt cb cf blk off cap dk.size ((putRow eF w blk off dk).drewN n) a' m' b' := fun a' m' b' q1 q2 q3 q4 => by
      rw [hk]; exact sym_all cb cf hS blk off cap size hsz L a' m' b' q1 q2 q3 q4 _ dk hH' hk (hC.again dk n hk)
    have fin : Calls Try.prog 77 #[.slice (some ⟨blk, off, none⟩) dk.size cap, .int .i64 (a : Int), .int .i64 (m : Int), .int .i64 (b : Int), .func (.func 49) #[] #[cb]] ((putRow eF w blk off dk).drewN n) fun e w' =>
      e = .returned (.tuple #[]) ∧ ∃ d', PermIn a b dk d' ∧ SortedIn (ltOf cf) a b d' ∧ ∃ k, w' = (putRow eF ((putRow eF w blk off dk).drewN n) blk off d').drewN k := by
      by_cases c1 : m = a + 1
      · subst c1
        exact symA_any cb cf hS blk off cap a b dk _ hH' hC' (by omega) (by omega) (by omega) s2
      · by_cases c2 : b = m + 1
        · subst c2
          exact symB_any cb cf hS blk off cap a m dk _ hH' hC' (by omega) (by omega) (by omega) s1
        · by_cases c3 : (a + b) / 2 < m
          · exact symC_any cb cf hS blk off cap a m b _ dk _ hH' hC' (by omega) (by omega) (by omega) (by omega) rfl c3 s1 s2 (fun s q1 q2 => ih _ _ _ (by omega) q1 q2 (by omega)) (fun s q1 q2 => ih _ _ _ (by omega) q1 q2 (by omega))
          · exact symD_any cb cf hS blk off cap a m b _ dk _ hH' hC' (by omega) (by omega) (by omega) (by omega) rfl c3 s1 s2 (fun s q1 q2 => ih _ _ _ (by omega) q1 q2 (by omega)) (fun s q1 q2 => ih _ _ _ (by omega) q1 q2 (by omega))
    rw [hk] at fin
    refine fin.mono ?_
    rintro e w' ⟨q1, d', q2, q3, k, q4⟩
    exact ⟨q1, d', q2, q3, n + k, by rw [q4, putRow_again _ _ _ _ _ _ _ q2.1]⟩
end Go.Proofs.Ytclmjopppaknjaa
namespace Go.Proofs.Ytclmjopppaknjaa
open Go.RowKit Go.Shelf Go.Lib Go.Sort
set_option linter.unusedVariables false
set_option linter.unusedSimpArgs false
variable {N : Nat} [Inhabited (Fin N)]

set_option maxRecDepth 100000 in
set_option maxHeartbeats 2000000 in
theorem ris1_any (x y bx g o len cap : Nat) (z1 z2 : Int) (w : World) (hbx : w.cell? ⟨bx, 0, none⟩ = some (.slice (some ⟨g, o, none⟩) len cap)) (hx : x < len) (hy : y < len)
    (h1 : w.cell? ⟨g, o + x, none⟩ = some (.int .i64 z1)) (h2 : w.cell? ⟨g, o + y, none⟩ = some (.int .i64 z2)) :
    Calls Try.prog 49 #[.int .i64 (x : Int), .int .i64 (y : Int), .pointer (some ⟨bx, 0, none⟩)] w fun e w' => e = .returned (.int .i64 (cmpZ z1 z2)) ∧ ∃ q, w' = w.drewN q := by
  have hc : ∀ k, Calls Try.prog 50 #[.int .i64 z1, .int .i64 z2] (w.drewN k) fun e w' => e = .returned (.int .i64 (cmpZ z1 z2)) ∧ ∃ q, w' = (w.drewN k).drewN q := fun k =>
    (compare_any z1 z2 (w.drewN k)).mono fun _ _ ⟨q1, q2⟩ => ⟨q1, 0, q2⟩
  have b1 : (x : Int) < (len : Int) := by omega
  have b2 : (y : Int) < (len : Int) := by omega
  have b3 : (0 : Int) ≤ (x : Int) := by omega
  have b4 : (0 : Int) ≤ (y : Int) := by omega
  generalize cmpZ z1 z2 = r at hc ⊢
  go_enter Try.func49, Try.ntmps49
  go_wp2_with fail
  go_quiet (refine Calls.quiet_of (hc _))
  go_wp2
  go_ret
  exact ⟨rfl, nq, rfl⟩
/-- The order of two symbols by their counts. -/
def cfZ (zs : List Int) (x y : Fin zs.length) : Int := cmpZ (zs.getD x.val 0) (zs.getD y.val 0)
theorem ltZ (zs : List Int) (x y : Fin zs.length) : ltOf (cfZ zs) x y = decide (zs.getD x.val 0 < zs.getD y.val 0) := by
  unfold ltOf cfZ
  generalize zs.getD x.val 0 = a
  generalize zs.getD y.val 0 = b
  unfold cmpZ
  by_cases h1 : a < b
  · rw [if_pos h1]; simp [h1]
  · rw [if_neg h1]
    by_cases h2 : b < a
    · rw [if_pos h2]; simp; omega
    · rw [if_neg h2]; simp; omega
theorem swoZ (zs : List Int) : SWO (ltOf (cfZ zs)) where
  irrefl x := by rw [ltZ]; exact decide_eq_false (by omega)
  trans x y z h1 h2 := by rw [ltZ] at *; have := of_decide_eq_true h1; have := of_decide_eq_true h2; exact decide_eq_true (by omega)
  ntrans x y z h1 h2 := by rw [ltZ] at *; have := of_decide_eq_false h1; have := of_decide_eq_false h2; exact decide_eq_false (by omega)
theorem cmpF_any (zs : List Int) [Inhabited (Fin zs.length)] (bx g o cap blk off size : Nat) (w : World) (hbx : w.cell? ⟨bx, 0, none⟩ = some (.slice (some ⟨g, o, none⟩) zs.length cap))
    (hc : ∀ i, i < zs.length → w.cell? ⟨g, o + i, none⟩ = some (.int .i64 (zs.getD i 0))) (h1 : bx ≠ blk) (h2 : g ≠ blk) : CmpF (.pointer (some ⟨bx, 0, none⟩)) (cfZ zs) blk off size w := by
  intro dk m x y hs
  refine ris1_any x.val y.val bx g o zs.length cap _ _ _ ?_ x.isLt y.isLt ?_ ?_
  · show (putRow eF w blk off dk).cell? _ = _
    rw [cell?_putRow_other _ _ _ _ _ _ (.inl h1)]; exact hbx
  · show (putRow eF w blk off dk).cell? _ = _
    rw [cell?_putRow_other _ _ _ _ _ _ (.inl h2)]; exact hc _ x.isLt
  · show (putRow eF w blk off dk).cell? _ = _
    rw [cell?_putRow_other _ _ _ _ _ _ (.inl h2)]; exact hc _ y.isLt
end Go.Proofs.Ytclmjopppaknjaa
namespace Go.Proofs.Ytclmjopppaknjaa
open Go.RowKit Go.Shelf Go.Lib Go.Sort
set_option linter.unusedVariables false
set_option linter.unusedSimpArgs false
variable {N : Nat} [Inhabited (Fin N)]

/-- Sorted within each block of s places, from lo to hi. -/
def SBk (lt : Fin N → Fin N → Bool) (s lo hi : Nat) (d : Array (Fin N)) : Prop := ∀ i j, lo ≤ i → i < j → j < hi → i / s = j / s → lt d[j]! d[i]! = false
theorem blk_of {s q i : Nat} (hs : 0 < s) (h1 : q * s ≤ i) (h2 : i < q * s + s) : i / s = q := by
  have a : q ≤ i / s := (Nat.le_div_iff_mul_le hs).2 h1
  have b : i / s < q + 1 := (Nat.div_lt_iff_lt_mul hs).2 (by rw [Nat.succ_mul]; exact h2)
  omega
theorem blk_lt {s q i : Nat} (hs : 0 < s) (h : i < q * s) : i / s < q := (Nat.div_lt_iff_lt_mul hs).2 h
theorem SBk.sorted {lt : Fin N → Fin N → Bool} {s lo hi q b : Nat} {d : Array (Fin N)} (h : SBk lt s lo hi d) (hs : 0 < s) (hl : lo ≤ q * s) (hb : b ≤ q * s + s) (hh : b ≤ hi) : SortedIn lt (q * s) b d :=
  fun i j h1 h2 h3 => h i j (by omega) h2 (by omega) (by rw [blk_of hs h1 (by omega), blk_of hs (show q * s ≤ j by omega) (by omega)])
theorem SBk.keep {lt : Fin N → Fin N → Bool} {s lo hi a b : Nat} {d d' : Array (Fin N)} (h : SBk lt s lo hi d) (P : PermIn a b d d') (hk : hi ≤ a ∨ b ≤ lo) : SBk lt s lo hi d' := by
  intro i j h1 h2 h3 h4
  rw [P.2.1 i (by omega), P.2.1 j (by omega)]; exact h i j h1 h2 h3 h4
/-- One block more. -/
theorem SBk.more {lt : Fin N → Fin N → Bool} {s q b : Nat} {d : Array (Fin N)} (hs : 0 < s) (h : SBk lt s 0 (q * s) d) (hb : b ≤ q * s + s) (hS : SortedIn lt (q * s) b d) : SBk lt s 0 b d := by
  intro i j _ h2 h3 h4
  by_cases c1 : j < q * s
  · exact h i j (by omega) h2 c1 h4
  · by_cases c2 : i < q * s
    · have := blk_lt hs c2
      rw [blk_of hs (show q * s ≤ j by omega) (by omega)] at h4
      omega
    · exact hS i j (by omega) h2 h3
theorem SBk.whole {lt : Fin N → Fin N → Bool} {s n : Nat} {d : Array (Fin N)} (h : SBk lt s 0 n d) (hs : n ≤ s) : SortedIn lt 0 n d := by
  intro i j h1 h2 h3
  exact h i j h1 h2 h3 (by rw [Nat.div_eq_of_lt (by omega), Nat.div_eq_of_lt (by omega)])
theorem SBk.later {lt : Fin N → Fin N → Bool} {s lo lo' hi : Nat} {d : Array (Fin N)} (h : SBk lt s lo hi d) (hl : lo ≤ lo') : SBk lt s lo' hi d :=
  fun i j h1 h2 h3 h4 => h i j (by omega) h2 h3 h4
end Go.Proofs.Ytclmjopppaknjaa
