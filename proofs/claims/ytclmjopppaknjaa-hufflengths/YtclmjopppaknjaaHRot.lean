/- slices.rotateCmpFunc: two stretches that lie side by side change places. -/
import Derived.Test.YtclmjopppaknjaaRotM
namespace Go.Proofs.Ytclmjopppaknjaa
open Go.RowKit Go.Shelf Go.Lib Go.Sort
set_option linter.unusedVariables false
set_option linter.unusedSimpArgs false
variable {N : Nat} [Inhabited (Fin N)]

theorem mRun (a i : Nat) (hi : i ≤ a) (h : a < 4611686018427387904) : IntKind.i64.wrap ((a : Int) - (i : Int)) = ((a - i : Nat) : Int) := by
  rw [IntKind.wrap_i64]; omega
theorem putRow_again (w : World) (blk off : Nat) (d d' : Array (Fin N)) (n m : Nat) (hs : d'.size = d.size) :
    (putRow eF ((putRow eF w blk off d).drewN n) blk off d').drewN m = (putRow eF w blk off d').drewN (n + m) := by
  show ((putRow eF (putRow eF w blk off d) blk off d').drewN n).drewN m = _
  rw [putRow_putRow _ _ _ _ _ _ hs, World.drewN_drewN]
set_option maxRecDepth 100000 in
set_option maxHeartbeats 2000000 in
theorem rot_any (blk off cap a m b : Nat) (d : Array (Fin N)) (w : World) (f : Value) (hH : Holds eF w blk off d) (ha : a < m) (hb : m < b) (hbs : b ≤ d.size) (hsz : d.size < 4611686018427387904) :
    Calls Try.prog 84 #[.slice (some ⟨blk, off, none⟩) d.size cap, .int .i64 (a : Int), .int .i64 (m : Int), .int .i64 (b : Int), f] w fun e w' =>
      e = .returned (.tuple #[]) ∧ ∃ d' n, Rot d d' a m b ∧ PermIn a b d d' ∧ w' = (putRow eF w blk off d').drewN n := by
  have HST : Hid (w = (putRow eF w blk off d).drewN 0) := (putRow_self eF w blk off d hH).symm
  have HH : Hid (Holds eF w blk off d) := hH
  have HSW : Hid (∀ (dk : Array (Fin N)) (n x y z : Nat), dk.size = d.size → x + z ≤ d.size → y + z ≤ d.size →
      Calls Try.prog 91 #[.slice (some ⟨blk, off, none⟩) d.size cap, .int .i64 (x : Int), .int .i64 (y : Int), .int .i64 (z : Int), f] ((putRow eF w blk off dk).drewN n) fun e w' =>
        e = .returned (.tuple #[]) ∧ ∃ n', w' = (putRow eF w blk off (swR dk x y z)).drewN n') := by
    intro dk n x y z hk hx hy
    have h := swR_any blk off cap x y z dk ((putRow eF w blk off dk).drewN n) f (holds_putRow eF w blk off d dk hH hk) (by omega) (by omega) (by omega)
    rw [hk] at h
    refine h.mono ?_
    rintro e w' ⟨h1, n', h2⟩
    exact ⟨h1, n + n', by rw [h2, putRow_again _ _ _ _ _ _ _ (swR_size _ _ _ _)]⟩
  clear hH
  have e1 := mRun m a (by omega) (by omega)
  have e2 := mRun b m (by omega) (by omega)
  go_enter Try.func84, Try.ntmps84
  go_wp2
  go_loopg [10, 11] (b - a) (fun g u v wr => ∃ (i j n : Nat) (dk : Array (Fin N)), u = .int .i64 (i : Int) ∧ v = .int .i64 (j : Int) ∧ 0 < i ∧ 0 < j ∧ a + i ≤ m ∧ m + j ≤ b ∧ i + j ≤ g ∧ dk.size = d.size ∧ Hid (PermIn a b d dk) ∧ Hid (∀ k, dk[rotI (m - i) m (m + j) k]! = d[rotI a m b k]!) ∧ wr = (putRow eF w blk off dk).drewN n)
  case atStart =>
    refine ⟨m - a, b - m, 0, d, rfl, rfl, by omega, by omega, by omega, by omega, by omega, rfl, permIn_refl _ _ _, (show Hid _ from ?_), HST.out⟩
    intro k
    rw [show m - (m - a) = a by omega, show m + (b - m) = b by omega]
  case round =>
    obtain ⟨i, j, n, dk, rfl, rfl, hi, hj, haim, hjs, hg, hs, HP, HK, rfl⟩ := hrel
    have him : i ≤ m := by omega
    have q1 := mRun m i him (by omega)
    by_cases hij : i = j
    · subst hij
      have hne : ((i : Int) != (i : Int)) = false := by simp
      have hc := HSW.out dk n (m - i) m i hs (by omega) (by omega)
      generalize (putRow eF w blk off dk).drewN n = W at hc ⊢
      go_wp2_with fail
      refine hc.mono ?_
      rintro e V ⟨rfl, n', hV⟩
      have HV : Hid (V = _) := hV
      clear hV hc
      go_wp2
      go_end0
      refine ⟨rfl, _, n', ⟨by rw [swR_size]; exact hs, fun k => ?_⟩, permIn_trans _ _ _ _ _ HP.out (swR_perm dk _ _ a b (by omega) (by omega) (by omega) _ (by omega) (by omega)), HV.out⟩
      rw [swR_at dk _ _ _ (by omega) (by omega), rot_same m i k hi him, HK.out]
    · have hne : ¬ (i : Int) = (j : Int) := by omega
      by_cases hgt : j < i
      · have hgz : (j : Int) < (i : Int) := by omega
        have q2 := mRun i j (by omega) (by omega)
        have hc := HSW.out dk n (m - i) m j hs (by omega) (by omega)
        generalize (putRow eF w blk off dk).drewN n = W at hc ⊢
        go_wp2_with fail
        refine hc.mono ?_
        rintro e V ⟨rfl, n', hV⟩
        have HV : Hid (V = _) := hV
        clear hV hc
        go_wp2
        go_roundg (i - j + j)
        case measure => omega
        case rel =>
          refine ⟨i - j, j, n', _, rfl, rfl, by omega, hj, by omega, hjs, by omega, by rw [swR_size]; exact hs, permIn_trans _ _ _ _ _ HP.out (swR_perm dk _ _ a b (by omega) (by omega) (by omega) _ (by omega) (by omega)), (show Hid _ from ?_), HV.out⟩
          intro k
          rw [swR_at dk _ _ _ (by omega) (by omega), rot_more m i j k hj hgt him, HK.out]
      · have hgz : ¬ (j : Int) < (i : Int) := by omega
        have q2 := mRun j i (by omega) (by omega)
        obtain ⟨mj, hmj⟩ : ∃ x, x = m + j := ⟨_, rfl⟩
        have q3 : IntKind.i64.wrap ((m : Int) + (j : Int)) = (mj : Int) := by rw [hmj]; exact pRun m j (by omega)
        have q4 := mRun mj i (by omega) (by omega)
        have hc := HSW.out dk n (m - i) (mj - i) i hs (by omega) (by omega)
        have MJ : Hid (mj = m + j) := hmj
        clear hmj
        generalize (putRow eF w blk off dk).drewN n = W at hc ⊢
        go_wp2_with fail
        refine hc.mono ?_
        rintro e V ⟨rfl, n', hV⟩
        have HV : Hid (V = _) := hV
        clear hV hc
        go_wp2
        go_roundg (i + (j - i))
        case measure => omega
        case rel =>
          have hmj := MJ.out
          refine ⟨i, j - i, n', _, rfl, rfl, hi, by omega, haim, by omega, by omega, by rw [swR_size]; exact hs, permIn_trans _ _ _ _ _ HP.out (swR_perm dk _ _ a b (by omega) (by omega) (by omega) _ (by omega) (by omega)), (show Hid _ from ?_), HV.out⟩
          intro k
          rw [swR_at dk _ _ _ (by omega) (by omega), hmj, rot_less m i j k hi (by omega) him, HK.out]
end Go.Proofs.Ytclmjopppaknjaa
