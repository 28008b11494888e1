/- slices.insertionSortCmpFunc at this program: the library's contract, laid. slices.swapRangeCmpFunc: two stretches of a row exchanged. Pure: exchanges and turns of stretches of a row, as moves of places. slices.rotateCmpFunc: two stretches that lie side by side change places. Pure: one element brought to its place in a row that is sorted but for it. -/
import Derived.Test.YtaldkmceenlomaaGreatQHChk
import Derived.Shelf.SlSortCmp.Insertion
import Derived.Shelf.Lay
import Derived.Ground.SlsfProg
import Derived.Sort.WalkC
import Derived.Deep.LoopGhost
import Derived.BigRegion
namespace Go.Proofs.YtaldkmceenlomaaGreat
open Go.RowKit Go.Shelf Go.Lib Go.Sort
shelf_lay_g SlLaysF.n20 Slsf 20 at Tryz 136 as Tryz.insF
end Go.Proofs.YtaldkmceenlomaaGreat
namespace Go.Proofs.YtaldkmceenlomaaGreat
open Go.RowKit Go.Shelf Go.Lib Go.Sort
set_option linter.unusedVariables false
set_option linter.unusedSimpArgs false
variable {N : Nat} [Inhabited (Fin N)]

/-- A number below N as a cell. -/
def eF (x : Fin N) : Value := .int .i64 (x.val : Int)
/-- The first k places from a on exchanged with those from b on. -/
def swR (d : Array (Fin N)) (a b : Nat) : Nat → Array (Fin N)
  | 0 => d
  | k + 1 => swp (swR d a b k) (a + k) (b + k)
theorem swR_size (d : Array (Fin N)) (a b : Nat) : ∀ k, (swR d a b k).size = d.size
  | 0 => rfl
  | k + 1 => by rw [swR, size_swp, swR_size d a b k]
theorem pRun (a i : Nat) (h : a + i < 4611686018427387904) : IntKind.i64.wrap ((a : Int) + (i : Int)) = ((a + i : Nat) : Int) := by
  rw [IntKind.wrap_i64]; omega
set_option maxRecDepth 100000 in
set_option maxHeartbeats 2000000 in
theorem swR_any (blk off cap a b n : Nat) (d : Array (Fin N)) (w : World) (f : Value) (hH : Holds eF w blk off d) (ha : a + n ≤ d.size) (hb : b + n ≤ d.size) (hsz : d.size < 4611686018427387904) :
    Calls Tryz.prog 140 #[.slice (some ⟨blk, off, none⟩) d.size cap, .int .i64 (a : Int), .int .i64 (b : Int), .int .i64 (n : Int), f] w fun e w' =>
      e = .returned (.tuple #[]) ∧ ∃ m, w' = (putRow eF w blk off (swR d a b n)).drewN m := by
  have HST : Hid (w = (putRow eF w blk off d).drewN 0) := (putRow_self eF w blk off d hH).symm
  have HH : Hid (Holds eF w blk off d) := hH
  clear hH
  go_enter Tryz.func140, Tryz.ntmps140
  go_wp2
  go_loopg [10] n (fun g v wr => ∃ (i m : Nat), v = .int .i64 (i : Int) ∧ i ≤ n ∧ n - i ≤ g ∧ wr = (putRow eF w blk off (swR d a b i)).drewN m)
  case atStart => exact ⟨0, 0, rfl, by omega, by omega, HST.out⟩
  case round =>
    obtain ⟨i, m, rfl, hi, hg, rfl⟩ := hrel
    by_cases hlt : i < n
    · have hltz : (i : Int) < (n : Int) := by omega
      have hs := swR_size d a b i
      have hHj := holds_putRow eF w blk off d (swR d a b i) HH.out hs
      obtain ⟨c1, f1⟩ := hHj (a + i) (by omega)
      obtain ⟨c2, f2⟩ := hHj (b + i) (by omega)
      obtain ⟨x1, hx1⟩ : ∃ x, (swR d a b i)[a + i]! = x := ⟨_, rfl⟩
      obtain ⟨x2, hx2⟩ : ∃ x, (swR d a b i)[b + i]! = x := ⟨_, rfl⟩
      rw [hx1] at c1
      rw [hx2] at c2
      have c1' : ((putRow eF w blk off (swR d a b i)).drewN m).cell? ⟨blk, off + (a + i), none⟩ = some (.int .i64 (x1.val : Int)) := c1
      have c2' : ((putRow eF w blk off (swR d a b i)).drewN m).cell? ⟨blk, off + (b + i), none⟩ = some (.int .i64 (x2.val : Int)) := c2
      have f1' : ((putRow eF w blk off (swR d a b i)).drewN m).frozen? ⟨blk, off + (a + i), none⟩ = false := f1
      have f2' : ((putRow eF w blk off (swR d a b i)).drewN m).frozen? ⟨blk, off + (b + i), none⟩ = false := f2
      clear c1 c2 f1 f2 hHj
      have hw1 := pRun a i (by omega)
      have hw2 := pRun b i (by omega)
      have hl1 : ((a + i : Nat) : Int) < (d.size : Int) := by omega
      have hl2 : ((b + i : Nat) : Int) < (d.size : Int) := by omega
      have HX : Hid ((swR d a b i)[a + i]! = x1 ∧ (swR d a b i)[b + i]! = x2) := ⟨hx1, hx2⟩
      generalize hwq : (putRow eF w blk off (swR d a b i)).drewN m = wq at c1' c2' f1' f2' ⊢
      have HW : Hid (wq = (putRow eF w blk off (swR d a b i)).drewN m) := hwq.symm
      clear hx1 hx2 hwq
      obtain ⟨p1, hp1⟩ : ∃ p, p = a + i := ⟨_, rfl⟩
      obtain ⟨p2, hp2⟩ : ∃ p, p = b + i := ⟨_, rfl⟩
      rw [← hp1] at c1' f1' hw1 hl1
      rw [← hp2] at c2' f2' hw2 hl2
      have J1 : Hid (p1 = a + i) := hp1
      have J2 : Hid (p2 = b + i) := hp2
      have q1 : (0 : Int) ≤ (p1 : Int) := by omega
      have q2 : (0 : Int) ≤ (p2 : Int) := by omega
      clear hp1 hp2
      generalize hv1 : (x1.val : Int) = v1 at *
      generalize hv2 : (x2.val : Int) = v2 at *
      have V1 : Hid ((x1.val : Int) = v1) := hv1
      have V2 : Hid ((x2.val : Int) = v2) := hv2
      clear hv1 hv2
      obtain ⟨v3, c3⟩ := cell?_setCell_some (p := ⟨blk, off + p1, none⟩) (x := .int .i64 v2) c2'
      go_wp2_with fail
      go_region
      all_goals go_wp2
      go_roundg (n - (i + 1))
      case measure => omega
      case rel =>
        refine ⟨i + 1, m + 1, by go_num, by omega, by omega, ?_⟩
        rw [HW.out, J1.out, J2.out, ← V1.out, ← V2.out, ← HX.out.1, ← HX.out.2]
        exact swap_worldC eF w blk off (swR d a b i) m (a + i) (b + i) (by omega) (by omega)
    · obtain rfl : i = n := by omega
      have hltz : ¬ (i : Int) < (i : Int) := by omega
      go_wp2
      go_end0
      exact ⟨rfl, m, rfl⟩
end Go.Proofs.YtaldkmceenlomaaGreat
namespace Go.Proofs.YtaldkmceenlomaaGreat
open Go.RowKit Go.Shelf Go.Lib Go.Sort
set_option linter.unusedVariables false
set_option linter.unusedSimpArgs false
variable {N : Nat} [Inhabited (Fin N)]

/-- Where the cell at place k comes from when n places from a are exchanged with those from b. -/
def swI (a b n k : Nat) : Nat := if a ≤ k ∧ k < a + n then k + (b - a) else if b ≤ k ∧ k < b + n then k - (b - a) else k
/-- Where the cell at place k comes from when [a, m) and [m, b) change places. -/
def rotI (a m b k : Nat) : Nat := if a ≤ k ∧ k < a + (b - m) then k + (m - a) else if a + (b - m) ≤ k ∧ k < b then k - (b - m) else k
theorem swp_at (d : Array (Fin N)) (i j k : Nat) (hi : i < d.size) (hj : j < d.size) : (swp d i j)[k]! = if k = j then d[i]! else if k = i then d[j]! else d[k]! := by
  unfold swp
  by_cases h1 : k = j
  · subst h1; rw [if_pos rfl, getElem!_set_same _ _ _ (by simpa using hj)]
  · rw [if_neg h1, getElem!_set_other _ _ _ _ h1]
    by_cases h2 : k = i
    · subst h2; rw [if_pos rfl, getElem!_set_same _ _ _ hi]
    · rw [if_neg h2, getElem!_set_other _ _ _ _ h2]
theorem swR_at (d : Array (Fin N)) (a b : Nat) : ∀ n, a + n ≤ b → b + n ≤ d.size → ∀ k, (swR d a b n)[k]! = d[swI a b n k]!
  | 0, _, _, k => by
    rw [swR]; congr 1; unfold swI; split <;> (try split) <;> omega
  | n + 1, h1, h2, k => by
    rw [swR, swp_at _ _ _ _ (by rw [swR_size]; omega) (by rw [swR_size]; omega)]
    have ih := swR_at d a b n (by omega) (by omega)
    by_cases e1 : k = b + n
    · rw [if_pos e1, ih]; congr 1; unfold swI; subst e1
      rw [if_neg (by omega), if_neg (by omega), if_neg (by omega), if_pos (by omega)]; omega
    · rw [if_neg e1]
      by_cases e2 : k = a + n
      · rw [if_pos e2, ih]; congr 1; unfold swI; subst e2
        rw [if_neg (by omega), if_neg (by omega), if_pos (by omega)]; omega
      · rw [if_neg e2, ih]; congr 1; unfold swI
        by_cases c1 : a ≤ k ∧ k < a + n
        · rw [if_pos c1, if_pos (by omega)]
        · rw [if_neg c1, if_neg (show ¬ (a ≤ k ∧ k < a + (n + 1)) by omega)]
          by_cases c2 : b ≤ k ∧ k < b + n
          · rw [if_pos c2, if_pos (by omega)]
          · rw [if_neg c2, if_neg (by omega)]
theorem swR_perm (d : Array (Fin N)) (a b lo hi : Nat) (ha : lo ≤ a) (hb : lo ≤ b) (hs : hi ≤ d.size) : ∀ n, a + n ≤ hi → b + n ≤ hi → PermIn lo hi d (swR d a b n)
  | 0, _, _ => permIn_refl _ _ _
  | n + 1, h1, h2 => permIn_trans _ _ _ _ _ (swR_perm d a b lo hi ha hb hs n (by omega) (by omega)) (swp_permIn _ lo hi _ _ (by omega) (by omega) (by omega) (by omega) (by rw [swR_size]; exact hs))
/-- d' is d with [a, m) and [m, b) having changed places. -/
def Rot (d d' : Array (Fin N)) (a m b : Nat) : Prop := d'.size = d.size ∧ ∀ k, d'[k]! = d[rotI a m b k]!
theorem rot_more (m i j k : Nat) (hj : 0 < j) (hij : j < i) (him : i ≤ m) : swI (m - i) m j (rotI (m - (i - j)) m (m + j) k) = rotI (m - i) m (m + j) k := by
  unfold rotI
  split
  · unfold swI; split
    · split <;> (try split) <;> omega
    · split
      · split <;> (try split) <;> omega
      · split <;> (try split) <;> omega
  · split
    · unfold swI; split
      · split <;> (try split) <;> omega
      · split
        · split <;> (try split) <;> omega
        · split <;> (try split) <;> omega
    · unfold swI; split
      · split <;> (try split) <;> omega
      · split
        · split <;> (try split) <;> omega
        · split <;> (try split) <;> omega
theorem rot_less (m i j k : Nat) (hi : 0 < i) (hij : i < j) (him : i ≤ m) : swI (m - i) (m + j - i) i (rotI (m - i) m (m + (j - i)) k) = rotI (m - i) m (m + j) k := by
  unfold rotI
  split
  · unfold swI; split
    · split <;> (try split) <;> omega
    · split
      · split <;> (try split) <;> omega
      · split <;> (try split) <;> omega
  · split
    · unfold swI; split
      · split <;> (try split) <;> omega
      · split
        · split <;> (try split) <;> omega
        · split <;> (try split) <;> omega
    · unfold swI; split
      · split <;> (try split) <;> omega
      · split
        · split <;> (try split) <;> omega
        · split <;> (try split) <;> omega
theorem rot_same (m i k : Nat) (hi : 0 < i) (him : i ≤ m) : swI (m - i) m i k = rotI (m - i) m (m + i) k := by
  unfold swI rotI
  split <;> (try split) <;> (try split) <;> (try split) <;> omega
end Go.Proofs.YtaldkmceenlomaaGreat
namespace Go.Proofs.YtaldkmceenlomaaGreat
open Go.RowKit Go.Shelf Go.Lib Go.Sort
set_option linter.unusedVariables false
set_option linter.unusedSimpArgs false
variable {N : Nat} [Inhabited (Fin N)]

theorem mRun (a i : Nat) (hi : i ≤ a) (h : a < 4611686018427387904) : IntKind.i64.wrap ((a : Int) - (i : Int)) = ((a - i : Nat) : Int) := by
  rw [IntKind.wrap_i64]; omega
theorem putRow_again (w : World) (blk off : Nat) (d d' : Array (Fin N)) (n m : Nat) (hs : d'.size = d.size) :
    (putRow eF ((putRow eF w blk off d).drewN n) blk off d').drewN m = (putRow eF w blk off d').drewN (n + m) := by
  show ((putRow eF (putRow eF w blk off d) blk off d').drewN n).drewN m = _
  rw [putRow_putRow _ _ _ _ _ _ hs, World.drewN_drewN]
set_option maxRecDepth 100000 in
set_option maxHeartbeats 2000000 in
theorem rot_any (blk off cap a m b : Nat) (d : Array (Fin N)) (w : World) (f : Value) (hH : Holds eF w blk off d) (ha : a < m) (hb : m < b) (hbs : b ≤ d.size) (hsz : d.size < 4611686018427387904) :
    Calls Tryz.prog 139 #[.slice (some ⟨blk, off, none⟩) d.size cap, .int .i64 (a : Int), .int .i64 (m : Int), .int .i64 (b : Int), f] w fun e w' =>
      e = .returned (.tuple #[]) ∧ ∃ d' n, Rot d d' a m b ∧ PermIn a b d d' ∧ w' = (putRow eF w blk off d').drewN n := by
  have HST : Hid (w = (putRow eF w blk off d).drewN 0) := (putRow_self eF w blk off d hH).symm
  have HH : Hid (Holds eF w blk off d) := hH
  have HSW : Hid (∀ (dk : Array (Fin N)) (n x y z : Nat), dk.size = d.size → x + z ≤ d.size → y + z ≤ d.size →
      Calls Tryz.prog 140 #[.slice (some ⟨blk, off, none⟩) d.size cap, .int .i64 (x : Int), .int .i64 (y : Int), .int .i64 (z : Int), f] ((putRow eF w blk off dk).drewN n) fun e w' =>
        e = .returned (.tuple #[]) ∧ ∃ n', w' = (putRow eF w blk off (swR dk x y z)).drewN n') := by
    intro dk n x y z hk hx hy
    have h := swR_any blk off cap x y z dk ((putRow eF w blk off dk).drewN n) f (holds_putRow eF w blk off d dk hH hk) (by omega) (by omega) (by omega)
    rw [hk] at h
    refine h.mono ?_
    rintro e w' ⟨h1, n', h2⟩
    exact ⟨h1, n + n', by rw [h2, putRow_again _ _ _ _ _ _ _ (swR_size _ _ _ _)]⟩
  clear hH
  have e1 := mRun m a (by omega) (by omega)
  have e2 := mRun b m (by omega) (by omega)
  go_enter Tryz.func139, Tryz.ntmps139
  go_wp2
  go_loopg [10, 11] (b - a) (fun g u v wr => ∃ (i j n : Nat) (dk : Array (Fin N)), u = .int .i64 (i : Int) ∧ v = .int .i64 (j : Int) ∧ 0 < i ∧ 0 < j ∧ a + i ≤ m ∧ m + j ≤ b ∧ i + j ≤ g ∧ dk.size = d.size ∧ Hid (PermIn a b d dk) ∧ Hid (∀ k, dk[rotI (m - i) m (m + j) k]! = d[rotI a m b k]!) ∧ wr = (putRow eF w blk off dk).drewN n)
  case atStart =>
    refine ⟨m - a, b - m, 0, d, rfl, rfl, by omega, by omega, by omega, by omega, by omega, rfl, permIn_refl _ _ _, (show Hid _ from ?_), HST.out⟩
    intro k
    rw [show m - (m - a) = a by omega, show m + (b - m) = b by omega]
  case round =>
    obtain ⟨i, j, n, dk, rfl, rfl, hi, hj, haim, hjs, hg, hs, HP, HK, rfl⟩ := hrel
    have him : i ≤ m := by omega
    have q1 := mRun m i him (by omega)
    by_cases hij : i = j
    · subst hij
      have hne : ((i : Int) != (i : Int)) = false := by simp
      have hc := HSW.out dk n (m - i) m i hs (by omega) (by omega)
      generalize (putRow eF w blk off dk).drewN n = W at hc ⊢
      go_wp2_with fail
      refine hc.mono ?_
      rintro e V ⟨rfl, n', hV⟩
      have HV : Hid (V = _) := hV
      clear hV hc
      go_wp2
      go_end0
      refine ⟨rfl, _, n', ⟨by rw [swR_size]; exact hs, fun k => ?_⟩, permIn_trans _ _ _ _ _ HP.out (swR_perm dk _ _ a b (by omega) (by omega) (by omega) _ (by omega) (by omega)), HV.out⟩
      rw [swR_at dk _ _ _ (by omega) (by omega), rot_same m i k hi him, HK.out]
    · have hne : ¬ (i : Int) = (j : Int) := by omega
      by_cases hgt : j < i
      · have hgz : (j : Int) < (i : Int) := by omega
        have q2 := mRun i j (by omega) (by omega)
        have hc := HSW.out dk n (m - i) m j hs (by omega) (by omega)
        generalize (putRow eF w blk off dk).drewN n = W at hc ⊢
        go_wp2_with fail
        refine hc.mono ?_
        rintro e V ⟨rfl, n', hV⟩
        have HV : Hid (V = _) := hV
        clear hV hc
        go_wp2
        go_roundg (i - j + j)
        case measure => omega
        case rel =>
          refine ⟨i - j, j, n', _, rfl, rfl, by omega, hj, by omega, hjs, by omega, by rw [swR_size]; exact hs, permIn_trans _ _ _ _ _ HP.out (swR_perm dk _ _ a b (by omega) (by omega) (by omega) _ (by omega) (by omega)), (show Hid _ from ?_), HV.out⟩
          intro k
          rw [swR_at dk _ _ _ (by omega) (by omega), rot_more m i j k hj hgt him, HK.out]
      · have hgz : ¬ (j : Int) < (i : Int) := by omega
        have q2 := mRun j i (by omega) (by omega)
        obtain ⟨mj, hmj⟩ : ∃ x, x = m + j := ⟨_, rfl⟩
        have q3 : IntKind.i64.wrap ((m : Int) + (j : Int)) = (mj : Int) := by rw [hmj]; exact pRun m j (by omega)
        have q4 := mRun mj i (by omega) (by omega)
        have hc := HSW.out dk n (m - i) (mj - i) i hs (by omega) (by omega)
        have MJ : Hid (mj = m + j) := hmj
        clear hmj
        generalize (putRow eF w blk off dk).drewN n = W at hc ⊢
        go_wp2_with fail
        refine hc.mono ?_
        rintro e V ⟨rfl, n', hV⟩
        have HV : Hid (V = _) := hV
        clear hV hc
        go_wp2
        go_roundg (i + (j - i))
        case measure => omega
        case rel =>
          have hmj := MJ.out
          refine ⟨i, j - i, n', _, rfl, rfl, hi, by omega, haim, by omega, by omega, by rw [swR_size]; exact hs, permIn_trans _ _ _ _ _ HP.out (swR_perm dk _ _ a b (by omega) (by omega) (by omega) _ (by omega) (by omega)), (show Hid _ from ?_), HV.out⟩
          intro k
          rw [swR_at dk _ _ _ (by omega) (by omega), hmj, rot_less m i j k hi (by omega) him, HK.out]
end Go.Proofs.YtaldkmceenlomaaGreat
namespace Go.Proofs.YtaldkmceenlomaaGreat
open Go.RowKit Go.Shelf Go.Lib Go.Sort
set_option linter.unusedVariables false
set_option linter.unusedSimpArgs false
variable {N : Nat} [Inhabited (Fin N)]

/-- The element at a moved up n places. -/
def shU (d : Array (Fin N)) (a : Nat) : Nat → Array (Fin N)
  | 0 => d
  | n + 1 => swp (shU d a n) (a + n) (a + n + 1)
theorem shU_size (d : Array (Fin N)) (a : Nat) : ∀ n, (shU d a n).size = d.size
  | 0 => rfl
  | n + 1 => by rw [shU, size_swp, shU_size d a n]
theorem shU_perm (d : Array (Fin N)) (a lo hi : Nat) (ha : lo ≤ a) (hs : hi ≤ d.size) : ∀ n, a + n < hi → PermIn lo hi d (shU d a n)
  | 0, _ => permIn_refl _ _ _
  | n + 1, h => permIn_trans _ _ _ _ _ (shU_perm d a lo hi ha hs n (by omega)) (swp_permIn _ lo hi _ _ (by omega) (by omega) (by omega) (by omega) (by rw [shU_size]; exact hs))
theorem shU_at (d : Array (Fin N)) (a : Nat) : ∀ n, a + n < d.size → ∀ k, (shU d a n)[k]! = if a ≤ k ∧ k < a + n then d[k + 1]! else if k = a + n then d[a]! else d[k]!
  | 0, _, k => by
    rw [shU, if_neg (by omega)]
    by_cases h : k = a + 0
    · rw [if_pos h, h]; rfl
    · rw [if_neg h]
  | n + 1, h, k => by
    have ih := shU_at d a n (by omega)
    rw [shU, swp_at _ _ _ _ (by rw [shU_size]; omega) (by rw [shU_size]; omega)]
    by_cases e1 : k = a + n + 1
    · rw [if_pos e1, ih, if_neg (by omega), if_pos rfl, if_neg (by omega), if_pos (by omega)]
    · rw [if_neg e1]
      by_cases e2 : k = a + n
      · rw [if_pos e2, ih, if_neg (by omega), if_neg (by omega), if_pos (by omega), e2]
      · rw [if_neg e2, ih]
        by_cases c : a ≤ k ∧ k < a + n
        · rw [if_pos c, if_pos (by omega)]
        · rw [if_neg c, if_neg e2, if_neg (by omega), if_neg (by omega)]
theorem shU_sorted {lt : Fin N → Fin N → Bool} (hS : SWO lt) (d : Array (Fin N)) (a b n : Nat) (hb : b ≤ d.size) (hn : a + n < b) (hs : SortedIn lt (a + 1) b d)
    (h1 : n = 0 ∨ lt d[a + n]! d[a]! = true) (h2 : a + n + 1 = b ∨ lt d[a + n + 1]! d[a]! = false) : SortedIn lt a b (shU d a n) := by
  intro i j hi hij hj
  rw [shU_at d a n (by omega), shU_at d a n (by omega)]
  by_cases c1 : j < a + n
  · rw [if_pos ⟨by omega, c1⟩, if_pos ⟨hi, by omega⟩]; exact hs _ _ (by omega) (by omega) (by omega)
  · rw [if_neg (by omega)]
    by_cases c2 : j = a + n
    · rw [if_pos c2, if_pos ⟨hi, by omega⟩]
      rcases h1 with h1 | h1
      · omega
      · cases q : lt d[a]! d[i + 1]!
        · rfl
        · have t := hS.trans _ _ _ h1 q
          by_cases e : i + 1 = a + n
          · rw [e, hS.irrefl] at t; exact t.symm
          · rw [hs (i + 1) (a + n) (by omega) (by omega) (by omega)] at t; exact t.symm
    · rw [if_neg c2]
      by_cases c3 : i < a + n
      · rw [if_pos ⟨hi, c3⟩]; exact hs _ _ (by omega) (by omega) hj
      · rw [if_neg (by omega)]
        by_cases c4 : i = a + n
        · rw [if_pos c4]
          rcases h2 with h2 | h2
          · omega
          · by_cases e : j = a + n + 1
            · rw [e]; exact h2
            · exact hS.ntrans _ _ _ (hs (a + n + 1) j (by omega) (by omega) hj) h2
        · rw [if_neg c4]; exact hs _ _ (by omega) hij hj
/-- The element at m moved down n places. -/
def shD (d : Array (Fin N)) (m : Nat) : Nat → Array (Fin N)
  | 0 => d
  | n + 1 => swp (shD d m n) (m - n) (m - n - 1)
theorem shD_size (d : Array (Fin N)) (m : Nat) : ∀ n, (shD d m n).size = d.size
  | 0 => rfl
  | n + 1 => by rw [shD, size_swp, shD_size d m n]
theorem shD_perm (d : Array (Fin N)) (m lo hi : Nat) (hm : m < hi) (hs : hi ≤ d.size) : ∀ n, lo + n ≤ m → PermIn lo hi d (shD d m n)
  | 0, _ => permIn_refl _ _ _
  | n + 1, h => permIn_trans _ _ _ _ _ (shD_perm d m lo hi hm hs n (by omega)) (swp_permIn _ lo hi _ _ (by omega) (by omega) (by omega) (by omega) (by rw [shD_size]; exact hs))
theorem shD_at (d : Array (Fin N)) (m : Nat) (hm : m < d.size) : ∀ n, n ≤ m → ∀ k, (shD d m n)[k]! = if m - n < k ∧ k ≤ m then d[k - 1]! else if k = m - n then d[m]! else d[k]!
  | 0, _, k => by
    rw [shD, if_neg (by omega)]
    by_cases h : k = m - 0
    · rw [if_pos h, h]; rfl
    · rw [if_neg h]
  | n + 1, h, k => by
    have ih := shD_at d m hm n (by omega)
    rw [shD, swp_at _ _ _ _ (by rw [shD_size]; omega) (by rw [shD_size]; omega)]
    by_cases e1 : k = m - n - 1
    · rw [if_pos e1, ih, if_neg (by omega), if_pos rfl, if_neg (by omega), if_pos (by omega)]
    · rw [if_neg e1]
      by_cases e2 : k = m - n
      · rw [if_pos e2, ih, if_neg (by omega), if_neg (by omega), if_pos (by omega), e2]
      · rw [if_neg e2, ih]
        by_cases c : m - n < k ∧ k ≤ m
        · rw [if_pos c, if_pos (by omega)]
        · rw [if_neg c, if_neg e2, if_neg (by omega), if_neg (by omega)]
theorem shD_sorted {lt : Fin N → Fin N → Bool} (hS : SWO lt) (d : Array (Fin N)) (a m n : Nat) (hm : m < d.size) (hn : a + n ≤ m) (hs : SortedIn lt a m d)
    (h1 : n = 0 ∨ lt d[m]! d[m - n]! = true) (h2 : m - n = a ∨ lt d[m]! d[m - n - 1]! = false) : SortedIn lt a (m + 1) (shD d m n) := by
  intro i j hi hij hj
  rw [shD_at d m hm n (by omega), shD_at d m hm n (by omega)]
  by_cases c1 : m - n < i
  · rw [if_pos ⟨by omega, by omega⟩, if_pos ⟨c1, by omega⟩]; exact hs _ _ (by omega) (by omega) (by omega)
  · rw [if_neg (show ¬ (m - n < i ∧ i ≤ m) by omega)]
    by_cases c2 : i = m - n
    · rw [if_pos c2, if_pos ⟨by omega, by omega⟩]
      rcases h1 with h1 | h1
      · omega
      · cases q : lt d[j - 1]! d[m]!
        · rfl
        · have t := hS.trans _ _ _ q h1
          by_cases e : j - 1 = m - n
          · rw [e, hS.irrefl] at t; exact t.symm
          · rw [hs (m - n) (j - 1) (by omega) (by omega) (by omega)] at t; exact t.symm
    · rw [if_neg c2]
      by_cases c3 : m - n < j
      · rw [if_pos ⟨c3, by omega⟩]
        exact hs _ _ hi (by omega) (by omega)
      · rw [if_neg (by omega)]
        by_cases c4 : j = m - n
        · rw [if_pos c4]
          rcases h2 with h2 | h2
          · omega
          · by_cases e : i = m - n - 1
            · rw [e]; exact h2
            · exact hS.ntrans _ _ _ h2 (hs i (m - n - 1) hi (by omega) (by omega))
        · rw [if_neg c4]; exact hs _ _ hi hij (by omega)
theorem srt_le {lt : Fin N → Fin N → Bool} (hS : SWO lt) {d : Array (Fin N)} {a b i j : Nat} (hs : SortedIn lt a b d) (h1 : a ≤ i) (h2 : i ≤ j) (h3 : j < b) : lt d[j]! d[i]! = false := by
  by_cases e : i = j
  · rw [e]; exact hS.irrefl _
  · exact hs i j h1 (by omega) h3
omit [Inhabited (Fin N)] in
theorem swo_asym {lt : Fin N → Fin N → Bool} (hS : SWO lt) {x y : Fin N} (h : lt x y = true) : lt y x = false := by
  cases q : lt y x
  · rfl
  · have t := hS.trans _ _ _ h q
    rw [hS.irrefl] at t; exact t.symm
/-- What the turn in the middle gives: four sorted stretches, and nothing of the right half less than what is in the left. -/
theorem sym_cross {lt : Fin N → Fin N → Bool} (hS : SWO lt) (d e : Array (Fin N)) (a m b mid s en : Nat) (hn : s + en = mid + m) (has : a ≤ s) (hsm : s ≤ m) (hmid : s ≤ mid) (hme : m ≤ en) (heb : en ≤ b)
    (hR : Rot d e s m en) (h1 : SortedIn lt a m d) (h2 : SortedIn lt m b d) (hq1 : s = a ∨ en = b ∨ lt d[en]! d[s - 1]! = false) (hq2 : s = m ∨ en = m ∨ lt d[en - 1]! d[s]! = true) :
    SortedIn lt a s e ∧ SortedIn lt s mid e ∧ SortedIn lt mid en e ∧ SortedIn lt en b e ∧ ∀ i j, a ≤ i → i < mid → mid ≤ j → j < b → lt e[j]! e[i]! = false := by
  have r0 : ∀ k, k < s → e[k]! = d[k]! := fun k hk => by rw [hR.2]; unfold rotI; rw [if_neg (by omega), if_neg (by omega)]
  have r1 : ∀ k, s ≤ k → k < mid → e[k]! = d[k + (m - s)]! := fun k hk hk2 => by rw [hR.2]; unfold rotI; rw [if_pos (by omega)]
  have r2 : ∀ k, mid ≤ k → k < en → e[k]! = d[k - (en - m)]! := fun k hk hk2 => by rw [hR.2]; unfold rotI; rw [if_neg (by omega), if_pos (by omega)]
  have r3 : ∀ k, en ≤ k → e[k]! = d[k]! := fun k hk => by rw [hR.2]; unfold rotI; rw [if_neg (by omega), if_neg (by omega)]
  refine ⟨?_, ?_, ?_, ?_, ?_⟩
  · intro i j hi hij hj; rw [r0 i (by omega), r0 j hj]; exact h1 _ _ hi hij (by omega)
  · intro i j hi hij hj; rw [r1 i hi (by omega), r1 j (by omega) hj]; exact h2 _ _ (by omega) (by omega) (by omega)
  · intro i j hi hij hj; rw [r2 i hi (by omega), r2 j (by omega) hj]; exact h1 _ _ (by omega) (by omega) (by omega)
  · intro i j hi hij hj; rw [r3 i hi, r3 j (by omega)]; exact h2 _ _ (by omega) hij hj
  · intro i j hi him hj hjb
    by_cases c1 : i < s
    · rw [r0 i c1]
      by_cases c2 : j < en
      · rw [r2 j hj c2]; exact h1 _ _ hi (by omega) (by omega)
      · rw [r3 j (by omega)]
        have hq : lt d[en]! d[s - 1]! = false := by rcases hq1 with h | h | h <;> first | omega | exact h
        exact hS.ntrans _ _ _ (srt_le hS h2 (by omega) (by omega) hjb) (hS.ntrans _ _ _ hq (srt_le hS h1 hi (by omega) (by omega)))
    · rw [r1 i (by omega) him]
      by_cases c2 : j < en
      · rw [r2 j hj c2]
        have hq : lt d[s]! d[en - 1]! = false := by rcases hq2 with h | h | h <;> first | omega | exact swo_asym hS h
        exact hS.ntrans _ _ _ (srt_le hS h1 (by omega) (show s ≤ j - (en - m) by omega) (by omega)) (hS.ntrans _ _ _ hq (srt_le hS h2 (by omega) (by omega) (by omega)))
      · rw [r3 j (by omega)]; exact h2 _ _ (by omega) (by omega) hjb
/-- Two sorted halves, nothing of the right less than what is in the left: sorted. -/
theorem sym_join {lt : Fin N → Fin N → Bool} (e e1 e2 : Array (Fin N)) (a mid b : Nat) (ham : a ≤ mid) (hmb : mid ≤ b) (hb : b ≤ e.size)
    (hx : ∀ i j, a ≤ i → i < mid → mid ≤ j → j < b → lt e[j]! e[i]! = false) (P1 : PermIn a mid e e1) (S1 : SortedIn lt a mid e1) (P2 : PermIn mid b e1 e2) (S2 : SortedIn lt mid b e2) :
    PermIn a b e e2 ∧ SortedIn lt a b e2 := by
  refine ⟨permIn_trans _ _ _ _ _ (permIn_mono _ _ a mid a b (Nat.le_refl _) hmb hb P1) (permIn_mono _ _ mid b a b ham (Nat.le_refl _) (by rw [P1.1]; exact hb) P2), ?_⟩
  intro i j hi hij hj
  by_cases c1 : i < mid
  · rw [P2.2.1 i (.inl c1)]
    by_cases c2 : j < mid
    · rw [P2.2.1 j (.inl c2)]; exact S1 _ _ hi hij c2
    · refine permIn_all e1 e2 mid b (fun y => lt y e1[i]! = false) (by rw [P1.1]; exact hb) P2 (fun q hq hqb => ?_) j (by omega) hj
      show lt e1[q]! e1[i]! = false
      rw [P1.2.1 q (.inr hq)]
      exact permIn_all e e1 a mid (fun x => lt e[q]! x = false) (by omega) P1 (fun r hr hrm => hx r q hr hrm hq hqb) i hi c1
  · exact S2 _ _ (by omega) hij hj
end Go.Proofs.YtaldkmceenlomaaGreat
