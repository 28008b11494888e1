/- slices.swapRangeCmpFunc: two stretches of a row exchanged. -/
import Derived.Test.YtclmjopppaknjaaHIns
import Derived.Sort.WalkC
import Derived.Deep.LoopGhost
import Derived.BigRegion
namespace Go.Proofs.Ytclmjopppaknjaa
open Go.RowKit Go.Shelf Go.Lib Go.Sort
set_option linter.unusedVariables false
set_option linter.unusedSimpArgs false
variable {N : Nat} [Inhabited (Fin N)]

/-- A number below N as a cell. -/
def eF (x : Fin N) : Value := .int .i64 (x.val : Int)
/-- The first k places from a on exchanged with those from b on. -/
def swR (d : Array (Fin N)) (a b : Nat) : Nat → Array (Fin N)
  | 0 => d
  | k + 1 => swp (swR d a b k) (a + k) (b + k)
theorem swR_size (d : Array (Fin N)) (a b : Nat) : ∀ k, (swR d a b k).size = d.size
  | 0 => rfl
  | k + 1 => by rw [swR, size_swp, swR_size d a b k]
theorem pRun (a i : Nat) (h : a + i < 4611686018427387904) : IntKind.i64.wrap ((a : Int) + (i : Int)) = ((a + i : Nat) : Int) := by
  rw [IntKind.wrap_i64]; omega
set_option maxRecDepth 100000 in
set_option maxHeartbeats 2000000 in
theorem swR_any (blk off cap a b n : Nat) (d : Array (Fin N)) (w : World) (f : Value) (hH : Holds eF w blk off d) (ha : a + n ≤ d.size) (hb : b + n ≤ d.size) (hsz : d.size < 4611686018427387904) :
    Calls Try.prog 91 #[.slice (some ⟨blk, off, none⟩) d.size cap, .int .i64 (a : Int), .int .i64 (b : Int), .int .i64 (n : Int), f] w fun e w' =>
      e = .returned (.tuple #[]) ∧ ∃ m, w' = (putRow eF w blk off (swR d a b n)).drewN m := by
  have HST : Hid (w = (putRow eF w blk off d).drewN 0) := (putRow_self eF w blk off d hH).symm
  have HH : Hid (Holds eF w blk off d) := hH
  clear hH
  go_enter Try.func91, Try.ntmps91
  go_wp2
  go_loopg [10] n (fun g v wr => ∃ (i m : Nat), v = .int .i64 (i : Int) ∧ i ≤ n ∧ n - i ≤ g ∧ wr = (putRow eF w blk off (swR d a b i)).drewN m)
  case atStart => exact ⟨0, 0, rfl, by omega, by omega, HST.out⟩
  case round =>
    obtain ⟨i, m, rfl, hi, hg, rfl⟩ := hrel
    by_cases hlt : i < n
    · have hltz : (i : Int) < (n : Int) := by omega
      have hs := swR_size d a b i
      have hHj := holds_putRow eF w blk off d (swR d a b i) HH.out hs
      obtain ⟨c1, f1⟩ := hHj (a + i) (by omega)
      obtain ⟨c2, f2⟩ := hHj (b + i) (by omega)
      obtain ⟨x1, hx1⟩ : ∃ x, (swR d a b i)[a + i]! = x := ⟨_, rfl⟩
      obtain ⟨x2, hx2⟩ : ∃ x, (swR d a b i)[b + i]! = x := ⟨_, rfl⟩
      rw [hx1] at c1
      rw [hx2] at c2
      have c1' : ((putRow eF w blk off (swR d a b i)).drewN m).cell? ⟨blk, off + (a + i), none⟩ = some (.int .i64 (x1.val : Int)) := c1
      have c2' : ((putRow eF w blk off (swR d a b i)).drewN m).cell? ⟨blk, off + (b + i), none⟩ = some (.int .i64 (x2.val : Int)) := c2
      have f1' : ((putRow eF w blk off (swR d a b i)).drewN m).frozen? ⟨blk, off + (a + i), none⟩ = false := f1
      have f2' : ((putRow eF w blk off (swR d a b i)).drewN m).frozen? ⟨blk, off + (b + i), none⟩ = false := f2
      clear c1 c2 f1 f2 hHj
      have hw1 := pRun a i (by omega)
      have hw2 := pRun b i (by omega)
      have hl1 : ((a + i : Nat) : Int) < (d.size : Int) := by omega
      have hl2 : ((b + i : Nat) : Int) < (d.size : Int) := by omega
      have HX : Hid ((swR d a b i)[a + i]! = x1 ∧ (swR d a b i)[b + i]! = x2) := ⟨hx1, hx2⟩
      generalize hwq : (putRow eF w blk off (swR d a b i)).drewN m = wq at c1' c2' f1' f2' ⊢
      have HW : Hid (wq = (putRow eF w blk off (swR d a b i)).drewN m) := hwq.symm
      clear hx1 hx2 hwq
      obtain ⟨p1, hp1⟩ : ∃ p, p = a + i := ⟨_, rfl⟩
      obtain ⟨p2, hp2⟩ : ∃ p, p = b + i := ⟨_, rfl⟩
      rw [← hp1] at c1' f1' hw1 hl1
      rw [← hp2] at c2' f2' hw2 hl2
      have J1 : Hid (p1 = a + i) := hp1
      have J2 : Hid (p2 = b + i) := hp2
      have q1 : (0 : Int) ≤ (p1 : Int) := by omega
      have q2 : (0 : Int) ≤ (p2 : Int) := by omega
      clear hp1 hp2
      generalize hv1 : (x1.val : Int) = v1 at *
      generalize hv2 : (x2.val : Int) = v2 at *
      have V1 : Hid ((x1.val : Int) = v1) := hv1
      have V2 : Hid ((x2.val : Int) = v2) := hv2
      clear hv1 hv2
      obtain ⟨v3, c3⟩ := cell?_setCell_some (p := ⟨blk, off + p1, none⟩) (x := .int .i64 v2) c2'
      go_wp2_with fail
      go_region
      all_goals go_wp2
      go_roundg (n - (i + 1))
      case measure => omega
      case rel =>
        refine ⟨i + 1, m + 1, by go_num, by omega, by omega, ?_⟩
        rw [HW.out, J1.out, J2.out, ← V1.out, ← V2.out, ← HX.out.1, ← HX.out.2]
        exact swap_worldC eF w blk off (swR d a b i) m (a + i) (b + i) (by omega) (by omega)
    · obtain rfl : i = n := by omega
      have hltz : ¬ (i : Int) < (i : Int) := by omega
      go_wp2
      go_end0
      exact ⟨rfl, m, rfl⟩
end Go.Proofs.Ytclmjopppaknjaa
