/- slices.symMergeCmpFunc where the right stretch is one element. -/
import Derived.Test.YthkppipdflmekaaGreatQHChk
import Derived.Shelf.SlSortCmp.Insertion
import Derived.Shelf.Lay
import Derived.Ground.SlsfProg
import Derived.Sort.WalkC
import Derived.Deep.LoopGhost
import Derived.BigRegion
import Derived.Sort.Lot0
import Derived.Deep.QuietTactic
import Derived.BigQuiet
set_option maxRecDepth 100000
set_option maxHeartbeats 4000000
namespace Go.Proofs.YthkppipdflmekaaGreat
open Go.RowKit Go.Shelf Go.Lib Go.Sort
shelf_lay_g SlLaysF.n20 Slsf 20 at Tryz 133 as Tryz.insF
set_option linter.unusedVariables false
set_option linter.unusedSimpArgs false
variable {N : Nat} [Inhabited (Fin N)]
def eF (x : Fin N) : Value := .int .i64 (x.val : Int)
def swR (d : Array (Fin N)) (a b : Nat) : Nat → Array (Fin N)
 | 0 => d
 | k + 1 => swp (swR d a b k) (a + k) (b + k)
theorem qcy (d : Array (Fin N)) (a b : Nat) : ∀ k, (swR d a b k).size = d.size
 | 0 => rfl
 | k + 1 => by rw [swR, size_swp, qcy d a b k]
theorem pRun (a i : Nat) (h : a + i < 4611686018427387904) : IntKind.i64.wrap ((a : Int) + (i : Int)) = ((a + i : Nat) : Int) := by
 rw [IntKind.wrap_i64]; omega
theorem q1w (blk off cap a b n : Nat) (d : Array (Fin N)) (w : World) (f : Value) (hH : Holds eF w blk off d) (ha : a + n ≤ d.size) (hb : b + n ≤ d.size) (hsz : d.size < 4611686018427387904) :
    Calls Tryz.prog 137 #[.slice (some ⟨blk, off, none⟩) d.size cap, .int .i64 (a : Int), .int .i64 (b : Int), .int .i64 (n : Int), f] w fun e w' =>
     e = .returned (.tuple #[]) ∧ ∃ m, w' = (putRow eF w blk off (swR d a b n)).drewN m := by
 have HST : Hid (w = (putRow eF w blk off d).drewN 0) := (putRow_self eF w blk off d hH).symm
 have HH : Hid (Holds eF w blk off d) := hH
 clear hH
 go_enter Tryz.func137, Tryz.ntmps137
 go_wp2
 go_loopg [10] n (fun g v wr => ∃ (i m : Nat), v = .int .i64 (i : Int) ∧ i ≤ n ∧ n - i ≤ g ∧ wr = (putRow eF w blk off (swR d a b i)).drewN m)
 case atStart => exact ⟨0, 0, rfl, by omega, by omega, HST.out⟩
 case round =>
  obtain ⟨i, m, rfl, hi, hg, rfl⟩ := hrel
  by_cases hlt : i < n
  · have hltz : (i : Int) < (n : Int) := by omega
    have hs := qcy d a b i
    have hHj := holds_putRow eF w blk off d (swR d a b i) HH.out hs
    obtain ⟨c1, f1⟩ := hHj (a + i) (by omega)
    obtain ⟨c2, f2⟩ := hHj (b + i) (by omega)
    obtain ⟨x1, hx1⟩ : ∃ x, (swR d a b i)[a + i]! = x := ⟨_, rfl⟩
    obtain ⟨x2, hx2⟩ : ∃ x, (swR d a b i)[b + i]! = x := ⟨_, rfl⟩
    rw [hx1] at c1
    rw [hx2] at c2
    have c1' : ((putRow eF w blk off (swR d a b i)).drewN m).cell? ⟨blk, off + (a + i), none⟩ = some (.int .i64 (x1.val : Int)) := c1
    have c2' : ((putRow eF w blk off (swR d a b i)).drewN m).cell? ⟨blk, off + (b + i), none⟩ = some (.int .i64 (x2.val : Int)) := c2
    have f1' : ((putRow eF w blk off (swR d a b i)).drewN m).frozen? ⟨blk, off + (a + i), none⟩ = false := f1
    have f2' : ((putRow eF w blk off (swR d a b i)).drewN m).frozen? ⟨blk, off + (b + i), none⟩ = false := f2
    clear c1 c2 f1 f2 hHj
    have hw1 := pRun a i (by omega)
    have hw2 := pRun b i (by omega)
    have hl1 : ((a + i : Nat) : Int) < (d.size : Int) := by omega
    have hl2 : ((b + i : Nat) : Int) < (d.size : Int) := by omega
    have HX : Hid ((swR d a b i)[a + i]! = x1 ∧ (swR d a b i)[b + i]! = x2) := ⟨hx1, hx2⟩
    generalize hwq : (putRow eF w blk off (swR d a b i)).drewN m = wq at c1' c2' f1' f2' ⊢
    have HW : Hid (wq = (putRow eF w blk off (swR d a b i)).drewN m) := hwq.symm
    clear hx1 hx2 hwq
    obtain ⟨p1, hp1⟩ : ∃ p, p = a + i := ⟨_, rfl⟩
    obtain ⟨p2, hp2⟩ : ∃ p, p = b + i := ⟨_, rfl⟩
    rw [← hp1] at c1' f1' hw1 hl1
    rw [← hp2] at c2' f2' hw2 hl2
    have J1 : Hid (p1 = a + i) := hp1
    have J2 : Hid (p2 = b + i) := hp2
    have q1 : (0 : Int) ≤ (p1 : Int) := by omega
    have q2 : (0 : Int) ≤ (p2 : Int) := by omega
    clear hp1 hp2
    generalize hv1 : (x1.val : Int) = v1 at *
    generalize hv2 : (x2.val : Int) = v2 at *
    have V1 : Hid ((x1.val : Int) = v1) := hv1
    have V2 : Hid ((x2.val : Int) = v2) := hv2
    clear hv1 hv2
    obtain ⟨v3, c3⟩ := cell?_setCell_some (p := ⟨blk, off + p1, none⟩) (x := .int .i64 v2) c2'
    go_wp2_with fail
    go_region
    all_goals go_wp2
    go_roundg (n - (i + 1))
    case measure => omega
    case rel =>
     refine ⟨i + 1, m + 1, by go_num, by omega, by omega, ?_⟩
     rw [HW.out, J1.out, J2.out, ← V1.out, ← V2.out, ← HX.out.1, ← HX.out.2]
     exact swap_worldC eF w blk off (swR d a b i) m (a + i) (b + i) (by omega) (by omega)
  · obtain rfl : i = n := by omega
    have hltz : ¬ (i : Int) < (i : Int) := by omega
    go_wp2
    go_end0
    exact ⟨rfl, m, rfl⟩
variable {N : Nat} [Inhabited (Fin N)]
def swI (a b n k : Nat) : Nat := if a ≤ k ∧ k < a + n then k + (b - a) else if b ≤ k ∧ k < b + n then k - (b - a) else k
def rotI (a m b k : Nat) : Nat := if a ≤ k ∧ k < a + (b - m) then k + (m - a) else if a + (b - m) ≤ k ∧ k < b then k - (b - m) else k
theorem qqi (d : Array (Fin N)) (i j k : Nat) (hi : i < d.size) (hj : j < d.size) : (swp d i j)[k]! = if k = j then d[i]! else if k = i then d[j]! else d[k]! := by
 unfold swp
 by_cases h1 : k = j
 · subst h1; rw [if_pos rfl, getElem!_set_same _ _ _ (by simpa using hj)]
 · rw [if_neg h1, getElem!_set_other _ _ _ _ h1]
   by_cases h2 : k = i
   · subst h2; rw [if_pos rfl, getElem!_set_same _ _ _ hi]
   · rw [if_neg h2, getElem!_set_other _ _ _ _ h2]
theorem qqk (d : Array (Fin N)) (a b : Nat) : ∀ n, a + n ≤ b → b + n ≤ d.size → ∀ k, (swR d a b n)[k]! = d[swI a b n k]!
 | 0, _, _, k => by
  rw [swR]; congr 1; unfold swI; split <;> (try split) <;> omega
 | n + 1, h1, h2, k => by
  rw [swR, qqi _ _ _ _ (by rw [qcy]; omega) (by rw [qcy]; omega)]
  have ih := qqk d a b n (by omega) (by omega)
  by_cases e1 : k = b + n
  · rw [if_pos e1, ih]; congr 1; unfold swI; subst e1
    rw [if_neg (by omega), if_neg (by omega), if_neg (by omega), if_pos (by omega)]; omega
  · rw [if_neg e1]
    by_cases e2 : k = a + n
    · rw [if_pos e2, ih]; congr 1; unfold swI; subst e2
      rw [if_neg (by omega), if_neg (by omega), if_pos (by omega)]; omega
    · rw [if_neg e2, ih]; congr 1; unfold swI
      by_cases c1 : a ≤ k ∧ k < a + n
      · rw [if_pos c1, if_pos (by omega)]
      · rw [if_neg c1, if_neg (show ¬ (a ≤ k ∧ k < a + (n + 1)) by omega)]
        by_cases c2 : b ≤ k ∧ k < b + n
        · rw [if_pos c2, if_pos (by omega)]
        · rw [if_neg c2, if_neg (by omega)]
theorem qhj (d : Array (Fin N)) (a b lo hi : Nat) (ha : lo ≤ a) (hb : lo ≤ b) (hs : hi ≤ d.size) : ∀ n, a + n ≤ hi → b + n ≤ hi → PermIn lo hi d (swR d a b n)
 | 0, _, _ => permIn_refl _ _ _
 | n + 1, h1, h2 => permIn_trans _ _ _ _ _ (qhj d a b lo hi ha hb hs n (by omega) (by omega)) (swp_permIn _ lo hi _ _ (by omega) (by omega) (by omega) (by omega) (by rw [qcy]; exact hs))
def Rot (d d' : Array (Fin N)) (a m b : Nat) : Prop := d'.size = d.size ∧ ∀ k, d'[k]! = d[rotI a m b k]!
theorem qy3 (m i j k : Nat) (hj : 0 < j) (hij : j < i) (him : i ≤ m) : swI (m - i) m j (rotI (m - (i - j)) m (m + j) k) = rotI (m - i) m (m + j) k := by
 unfold rotI
 split
 · unfold swI; split
   · split <;> (try split) <;> omega
   · split
     · split <;> (try split) <;> omega
     · split <;> (try split) <;> omega
 · split
   · unfold swI; split
     · split <;> (try split) <;> omega
     · split
       · split <;> (try split) <;> omega
       · split <;> (try split) <;> omega
   · unfold swI; split
     · split <;> (try split) <;> omega
     · split
       · split <;> (try split) <;> omega
       · split <;> (try split) <;> omega
theorem qy4 (m i j k : Nat) (hi : 0 < i) (hij : i < j) (him : i ≤ m) : swI (m - i) (m + j - i) i (rotI (m - i) m (m + (j - i)) k) = rotI (m - i) m (m + j) k := by
 unfold rotI
 split
 · unfold swI; split
   · split <;> (try split) <;> omega
   · split
     · split <;> (try split) <;> omega
     · split <;> (try split) <;> omega
 · split
   · unfold swI; split
     · split <;> (try split) <;> omega
     · split
       · split <;> (try split) <;> omega
       · split <;> (try split) <;> omega
   · unfold swI; split
     · split <;> (try split) <;> omega
     · split
       · split <;> (try split) <;> omega
       · split <;> (try split) <;> omega
theorem qy2 (m i k : Nat) (hi : 0 < i) (him : i ≤ m) : swI (m - i) m i k = rotI (m - i) m (m + i) k := by
 unfold swI rotI
 split <;> (try split) <;> (try split) <;> (try split) <;> omega
variable {N : Nat} [Inhabited (Fin N)]
theorem mRun (a i : Nat) (hi : i ≤ a) (h : a < 4611686018427387904) : IntKind.i64.wrap ((a : Int) - (i : Int)) = ((a - i : Nat) : Int) := by
 rw [IntKind.wrap_i64]; omega
theorem qcc (w : World) (blk off : Nat) (d d' : Array (Fin N)) (n m : Nat) (hs : d'.size = d.size) :
    (putRow eF ((putRow eF w blk off d).drewN n) blk off d').drewN m = (putRow eF w blk off d').drewN (n + m) := by
 show ((putRow eF (putRow eF w blk off d) blk off d').drewN n).drewN m = _
 rw [putRow_putRow _ _ _ _ _ _ hs, World.drewN_drewN]
theorem qvg (blk off cap a m b : Nat) (d : Array (Fin N)) (w : World) (f : Value) (hH : Holds eF w blk off d) (ha : a < m) (hb : m < b) (hbs : b ≤ d.size) (hsz : d.size < 4611686018427387904) :
    Calls Tryz.prog 136 #[.slice (some ⟨blk, off, none⟩) d.size cap, .int .i64 (a : Int), .int .i64 (m : Int), .int .i64 (b : Int), f] w fun e w' =>
     e = .returned (.tuple #[]) ∧ ∃ d' n, Rot d d' a m b ∧ PermIn a b d d' ∧ w' = (putRow eF w blk off d').drewN n := by
 have HST : Hid (w = (putRow eF w blk off d).drewN 0) := (putRow_self eF w blk off d hH).symm
 have HH : Hid (Holds eF w blk off d) := hH
 have HSW : Hid (∀ (dk : Array (Fin N)) (n x y z : Nat), dk.size = d.size → x + z ≤ d.size → y + z ≤ d.size →
     Calls Tryz.prog 137 #[.slice (some ⟨blk, off, none⟩) d.size cap, .int .i64 (x : Int), .int .i64 (y : Int), .int .i64 (z : Int), f] ((putRow eF w blk off dk).drewN n) fun e w' =>
      e = .returned (.tuple #[]) ∧ ∃ n', w' = (putRow eF w blk off (swR dk x y z)).drewN n') := by
  intro dk n x y z hk hx hy
  have h := q1w blk off cap x y z dk ((putRow eF w blk off dk).drewN n) f (holds_putRow eF w blk off d dk hH hk) (by omega) (by omega) (by omega)
  rw [hk] at h
  refine h.mono ?_
  rintro e w' ⟨h1, n', h2⟩
  exact ⟨h1, n + n', by rw [h2, qcc _ _ _ _ _ _ _ (qcy _ _ _ _)]⟩
 clear hH
 have e1 := mRun m a (by omega) (by omega)
 have e2 := mRun b m (by omega) (by omega)
 go_enter Tryz.func136, Tryz.ntmps136
 go_wp2
 go_loopg [10, 11] (b - a) (fun g u v wr => ∃ (i j n : Nat) (dk : Array (Fin N)), u = .int .i64 (i : Int) ∧ v = .int .i64 (j : Int) ∧ 0 < i ∧ 0 < j ∧ a + i ≤ m ∧ m + j ≤ b ∧ i + j ≤ g ∧ dk.size = d.size ∧ Hid (PermIn a b d dk) ∧ Hid (∀ k, dk[rotI (m - i) m (m + j) k]! = d[rotI a m b k]!) ∧ wr = (putRow eF w blk off dk).drewN n)
 case atStart =>
  refine ⟨m - a, b - m, 0, d, rfl, rfl, by omega, by omega, by omega, by omega, by omega, rfl, permIn_refl _ _ _, (show Hid _ from ?_), HST.out⟩
  intro k
  rw [show m - (m - a) = a by omega, show m + (b - m) = b by omega]
 case round =>
  obtain ⟨i, j, n, dk, rfl, rfl, hi, hj, haim, hjs, hg, hs, HP, HK, rfl⟩ := hrel
  have him : i ≤ m := by omega
  have q1 := mRun m i him (by omega)
  by_cases hij : i = j
  · subst hij
    have hne : ((i : Int) != (i : Int)) = false := by simp
    have hc := HSW.out dk n (m - i) m i hs (by omega) (by omega)
    generalize (putRow eF w blk off dk).drewN n = W at hc ⊢
    go_wp2_with fail
    refine hc.mono ?_
    rintro e V ⟨rfl, n', hV⟩
    have HV : Hid (V = _) := hV
    clear hV hc
    go_wp2
    go_end0
    refine ⟨rfl, _, n', ⟨by rw [qcy]; exact hs, fun k => ?_⟩, permIn_trans _ _ _ _ _ HP.out (qhj dk _ _ a b (by omega) (by omega) (by omega) _ (by omega) (by omega)), HV.out⟩
    rw [qqk dk _ _ _ (by omega) (by omega), qy2 m i k hi him, HK.out]
  · have hne : ¬ (i : Int) = (j : Int) := by omega
    by_cases hgt : j < i
    · have hgz : (j : Int) < (i : Int) := by omega
      have q2 := mRun i j (by omega) (by omega)
      have hc := HSW.out dk n (m - i) m j hs (by omega) (by omega)
      generalize (putRow eF w blk off dk).drewN n = W at hc ⊢
      go_wp2_with fail
      refine hc.mono ?_
      rintro e V ⟨rfl, n', hV⟩
      have HV : Hid (V = _) := hV
      clear hV hc
      go_wp2
      go_roundg (i - j + j)
      case measure => omega
      case rel =>
       refine ⟨i - j, j, n', _, rfl, rfl, by omega, hj, by omega, hjs, by omega, by rw [qcy]; exact hs, permIn_trans _ _ _ _ _ HP.out (qhj dk _ _ a b (by omega) (by omega) (by omega) _ (by omega) (by omega)), (show Hid _ from ?_), HV.out⟩
       intro k
       rw [qqk dk _ _ _ (by omega) (by omega), qy3 m i j k hj hgt him, HK.out]
    · have hgz : ¬ (j : Int) < (i : Int) := by omega
      have q2 := mRun j i (by omega) (by omega)
      obtain ⟨mj, hmj⟩ : ∃ x, x = m + j := ⟨_, rfl⟩
      have q3 : IntKind.i64.wrap ((m : Int) + (j : Int)) = (mj : Int) := by rw [hmj]; exact pRun m j (by omega)
      have q4 := mRun mj i (by omega) (by omega)
      have hc := HSW.out dk n (m - i) (mj - i) i hs (by omega) (by omega)
      have MJ : Hid (mj = m + j) := hmj
      clear hmj
      generalize (putRow eF w blk off dk).drewN n = W at hc ⊢
      go_wp2_with fail
      refine hc.mono ?_
      rintro e V ⟨rfl, n', hV⟩
      have HV : Hid (V = _) := hV
      clear hV hc
      go_wp2
      go_roundg (i + (j - i))
      case measure => omega
      case rel =>
       have hmj := MJ.out
       refine ⟨i, j - i, n', _, rfl, rfl, hi, by omega, haim, by omega, by omega, by rw [qcy]; exact hs, permIn_trans _ _ _ _ _ HP.out (qhj dk _ _ a b (by omega) (by omega) (by omega) _ (by omega) (by omega)), (show Hid _ from ?_), HV.out⟩
       intro k
       rw [qqk dk _ _ _ (by omega) (by omega), hmj, qy4 m i j k hi (by omega) him, HK.out]
variable {N : Nat} [Inhabited (Fin N)]
def shU (d : Array (Fin N)) (a : Nat) : Nat → Array (Fin N)
 | 0 => d
 | n + 1 => swp (shU d a n) (a + n) (a + n + 1)
theorem qex (d : Array (Fin N)) (a : Nat) : ∀ n, (shU d a n).size = d.size
 | 0 => rfl
 | n + 1 => by rw [shU, size_swp, qex d a n]
theorem qqp (d : Array (Fin N)) (a lo hi : Nat) (ha : lo ≤ a) (hs : hi ≤ d.size) : ∀ n, a + n < hi → PermIn lo hi d (shU d a n)
 | 0, _ => permIn_refl _ _ _
 | n + 1, h => permIn_trans _ _ _ _ _ (qqp d a lo hi ha hs n (by omega)) (swp_permIn _ lo hi _ _ (by omega) (by omega) (by omega) (by omega) (by rw [qex]; exact hs))
theorem qqq (d : Array (Fin N)) (a : Nat) : ∀ n, a + n < d.size → ∀ k, (shU d a n)[k]! = if a ≤ k ∧ k < a + n then d[k + 1]! else if k = a + n then d[a]! else d[k]!
 | 0, _, k => by
  rw [shU, if_neg (by omega)]
  by_cases h : k = a + 0
  · rw [if_pos h, h]; rfl
  · rw [if_neg h]
 | n + 1, h, k => by
  have ih := qqq d a n (by omega)
  rw [shU, qqi _ _ _ _ (by rw [qex]; omega) (by rw [qex]; omega)]
  by_cases e1 : k = a + n + 1
  · rw [if_pos e1, ih, if_neg (by omega), if_pos rfl, if_neg (by omega), if_pos (by omega)]
  · rw [if_neg e1]
    by_cases e2 : k = a + n
    · rw [if_pos e2, ih, if_neg (by omega), if_neg (by omega), if_pos (by omega), e2]
    · rw [if_neg e2, ih]
      by_cases c : a ≤ k ∧ k < a + n
      · rw [if_pos c, if_pos (by omega)]
      · rw [if_neg c, if_neg e2, if_neg (by omega), if_neg (by omega)]
theorem qs6 {lt : Fin N → Fin N → Bool} (hS : SWO lt) (d : Array (Fin N)) (a b n : Nat) (hb : b ≤ d.size) (hn : a + n < b) (hs : SortedIn lt (a + 1) b d)
    (h1 : n = 0 ∨ lt d[a + n]! d[a]! = true) (h2 : a + n + 1 = b ∨ lt d[a + n + 1]! d[a]! = false) : SortedIn lt a b (shU d a n) := by
 intro i j hi hij hj
 rw [qqq d a n (by omega), qqq d a n (by omega)]
 by_cases c1 : j < a + n
 · rw [if_pos ⟨by omega, c1⟩, if_pos ⟨hi, by omega⟩]; exact hs _ _ (by omega) (by omega) (by omega)
 · rw [if_neg (by omega)]
   by_cases c2 : j = a + n
   · rw [if_pos c2, if_pos ⟨hi, by omega⟩]
     rcases h1 with h1 | h1
     · omega
     · cases q : lt d[a]! d[i + 1]!
       · rfl
       · have t := hS.trans _ _ _ h1 q
         by_cases e : i + 1 = a + n
         · rw [e, hS.irrefl] at t; exact t.symm
         · rw [hs (i + 1) (a + n) (by omega) (by omega) (by omega)] at t; exact t.symm
   · rw [if_neg c2]
     by_cases c3 : i < a + n
     · rw [if_pos ⟨hi, c3⟩]; exact hs _ _ (by omega) (by omega) hj
     · rw [if_neg (by omega)]
       by_cases c4 : i = a + n
       · rw [if_pos c4]
         rcases h2 with h2 | h2
         · omega
         · by_cases e : j = a + n + 1
           · rw [e]; exact h2
           · exact hS.ntrans _ _ _ (hs (a + n + 1) j (by omega) (by omega) hj) h2
       · rw [if_neg c4]; exact hs _ _ (by omega) hij hj
def shD (d : Array (Fin N)) (m : Nat) : Nat → Array (Fin N)
 | 0 => d
 | n + 1 => swp (shD d m n) (m - n) (m - n - 1)
theorem qey (d : Array (Fin N)) (m : Nat) : ∀ n, (shD d m n).size = d.size
 | 0 => rfl
 | n + 1 => by rw [shD, size_swp, qey d m n]
theorem qqr (d : Array (Fin N)) (m lo hi : Nat) (hm : m < hi) (hs : hi ≤ d.size) : ∀ n, lo + n ≤ m → PermIn lo hi d (shD d m n)
 | 0, _ => permIn_refl _ _ _
 | n + 1, h => permIn_trans _ _ _ _ _ (qqr d m lo hi hm hs n (by omega)) (swp_permIn _ lo hi _ _ (by omega) (by omega) (by omega) (by omega) (by rw [qey]; exact hs))
theorem qqs (d : Array (Fin N)) (m : Nat) (hm : m < d.size) : ∀ n, n ≤ m → ∀ k, (shD d m n)[k]! = if m - n < k ∧ k ≤ m then d[k - 1]! else if k = m - n then d[m]! else d[k]!
 | 0, _, k => by
  rw [shD, if_neg (by omega)]
  by_cases h : k = m - 0
  · rw [if_pos h, h]; rfl
  · rw [if_neg h]
 | n + 1, h, k => by
  have ih := qqs d m hm n (by omega)
  rw [shD, qqi _ _ _ _ (by rw [qey]; omega) (by rw [qey]; omega)]
  by_cases e1 : k = m - n - 1
  · rw [if_pos e1, ih, if_neg (by omega), if_pos rfl, if_neg (by omega), if_pos (by omega)]
  · rw [if_neg e1]
    by_cases e2 : k = m - n
    · rw [if_pos e2, ih, if_neg (by omega), if_neg (by omega), if_pos (by omega), e2]
    · rw [if_neg e2, ih]
      by_cases c : m - n < k ∧ k ≤ m
      · rw [if_pos c, if_pos (by omega)]
      · rw [if_neg c, if_neg e2, if_neg (by omega), if_neg (by omega)]
theorem qs7 {lt : Fin N → Fin N → Bool} (hS : SWO lt) (d : Array (Fin N)) (a m n : Nat) (hm : m < d.size) (hn : a + n ≤ m) (hs : SortedIn lt a m d)
    (h1 : n = 0 ∨ lt d[m]! d[m - n]! = true) (h2 : m - n = a ∨ lt d[m]! d[m - n - 1]! = false) : SortedIn lt a (m + 1) (shD d m n) := by
 intro i j hi hij hj
 rw [qqs d m hm n (by omega), qqs d m hm n (by omega)]
 by_cases c1 : m - n < i
 · rw [if_pos ⟨by omega, by omega⟩, if_pos ⟨c1, by omega⟩]; exact hs _ _ (by omega) (by omega) (by omega)
 · rw [if_neg (show ¬ (m - n < i ∧ i ≤ m) by omega)]
   by_cases c2 : i = m - n
   · rw [if_pos c2, if_pos ⟨by omega, by omega⟩]
     rcases h1 with h1 | h1
     · omega
     · cases q : lt d[j - 1]! d[m]!
       · rfl
       · have t := hS.trans _ _ _ q h1
         by_cases e : j - 1 = m - n
         · rw [e, hS.irrefl] at t; exact t.symm
         · rw [hs (m - n) (j - 1) (by omega) (by omega) (by omega)] at t; exact t.symm
   · rw [if_neg c2]
     by_cases c3 : m - n < j
     · rw [if_pos ⟨c3, by omega⟩]
       exact hs _ _ hi (by omega) (by omega)
     · rw [if_neg (by omega)]
       by_cases c4 : j = m - n
       · rw [if_pos c4]
         rcases h2 with h2 | h2
         · omega
         · by_cases e : i = m - n - 1
           · rw [e]; exact h2
           · exact hS.ntrans _ _ _ h2 (hs i (m - n - 1) hi (by omega) (by omega))
       · rw [if_neg c4]; exact hs _ _ hi hij (by omega)
theorem qg4 {lt : Fin N → Fin N → Bool} (hS : SWO lt) {d : Array (Fin N)} {a b i j : Nat} (hs : SortedIn lt a b d) (h1 : a ≤ i) (h2 : i ≤ j) (h3 : j < b) : lt d[j]! d[i]! = false := by
 by_cases e : i = j
 · rw [e]; exact hS.irrefl _
 · exact hs i j h1 (by omega) h3
omit [Inhabited (Fin N)] in
theorem qyi {lt : Fin N → Fin N → Bool} (hS : SWO lt) {x y : Fin N} (h : lt x y = true) : lt y x = false := by
 cases q : lt y x
 · rfl
 · have t := hS.trans _ _ _ h q
   rw [hS.irrefl] at t; exact t.symm
theorem qdq {lt : Fin N → Fin N → Bool} (hS : SWO lt) (d e : Array (Fin N)) (a m b mid s en : Nat) (hn : s + en = mid + m) (has : a ≤ s) (hsm : s ≤ m) (hmid : s ≤ mid) (hme : m ≤ en) (heb : en ≤ b)
    (hR : Rot d e s m en) (h1 : SortedIn lt a m d) (h2 : SortedIn lt m b d) (hq1 : s = a ∨ en = b ∨ lt d[en]! d[s - 1]! = false) (hq2 : s = m ∨ en = m ∨ lt d[en - 1]! d[s]! = true) :
    SortedIn lt a s e ∧ SortedIn lt s mid e ∧ SortedIn lt mid en e ∧ SortedIn lt en b e ∧ ∀ i j, a ≤ i → i < mid → mid ≤ j → j < b → lt e[j]! e[i]! = false := by
 have r0 : ∀ k, k < s → e[k]! = d[k]! := fun k hk => by rw [hR.2]; unfold rotI; rw [if_neg (by omega), if_neg (by omega)]
 have r1 : ∀ k, s ≤ k → k < mid → e[k]! = d[k + (m - s)]! := fun k hk hk2 => by rw [hR.2]; unfold rotI; rw [if_pos (by omega)]
 have r2 : ∀ k, mid ≤ k → k < en → e[k]! = d[k - (en - m)]! := fun k hk hk2 => by rw [hR.2]; unfold rotI; rw [if_neg (by omega), if_pos (by omega)]
 have r3 : ∀ k, en ≤ k → e[k]! = d[k]! := fun k hk => by rw [hR.2]; unfold rotI; rw [if_neg (by omega), if_neg (by omega)]
 refine ⟨?_, ?_, ?_, ?_, ?_⟩
 · intro i j hi hij hj; rw [r0 i (by omega), r0 j hj]; exact h1 _ _ hi hij (by omega)
 · intro i j hi hij hj; rw [r1 i hi (by omega), r1 j (by omega) hj]; exact h2 _ _ (by omega) (by omega) (by omega)
 · intro i j hi hij hj; rw [r2 i hi (by omega), r2 j (by omega) hj]; exact h1 _ _ (by omega) (by omega) (by omega)
 · intro i j hi hij hj; rw [r3 i hi, r3 j (by omega)]; exact h2 _ _ (by omega) hij hj
 · intro i j hi him hj hjb
   by_cases c1 : i < s
   · rw [r0 i c1]
     by_cases c2 : j < en
     · rw [r2 j hj c2]; exact h1 _ _ hi (by omega) (by omega)
     · rw [r3 j (by omega)]
       have hq : lt d[en]! d[s - 1]! = false := by rcases hq1 with h | h | h <;> first | omega | exact h
       exact hS.ntrans _ _ _ (qg4 hS h2 (by omega) (by omega) hjb) (hS.ntrans _ _ _ hq (qg4 hS h1 hi (by omega) (by omega)))
   · rw [r1 i (by omega) him]
     by_cases c2 : j < en
     · rw [r2 j hj c2]
       have hq : lt d[s]! d[en - 1]! = false := by rcases hq2 with h | h | h <;> first | omega | exact qyi hS h
       exact hS.ntrans _ _ _ (qg4 hS h1 (by omega) (show s ≤ j - (en - m) by omega) (by omega)) (hS.ntrans _ _ _ hq (qg4 hS h2 (by omega) (by omega) (by omega)))
     · rw [r3 j (by omega)]; exact h2 _ _ (by omega) (by omega) hjb
theorem qac {lt : Fin N → Fin N → Bool} (e e1 e2 : Array (Fin N)) (a mid b : Nat) (ham : a ≤ mid) (hmb : mid ≤ b) (hb : b ≤ e.size)
    (hx : ∀ i j, a ≤ i → i < mid → mid ≤ j → j < b → lt e[j]! e[i]! = false) (P1 : PermIn a mid e e1) (S1 : SortedIn lt a mid e1) (P2 : PermIn mid b e1 e2) (S2 : SortedIn lt mid b e2) :
    PermIn a b e e2 ∧ SortedIn lt a b e2 := by
 refine ⟨permIn_trans _ _ _ _ _ (permIn_mono _ _ a mid a b (Nat.le_refl _) hmb hb P1) (permIn_mono _ _ mid b a b ham (Nat.le_refl _) (by rw [P1.1]; exact hb) P2), ?_⟩
 intro i j hi hij hj
 by_cases c1 : i < mid
 · rw [P2.2.1 i (.inl c1)]
   by_cases c2 : j < mid
   · rw [P2.2.1 j (.inl c2)]; exact S1 _ _ hi hij c2
   · refine permIn_all e1 e2 mid b (fun y => lt y e1[i]! = false) (by rw [P1.1]; exact hb) P2 (fun q hq hqb => ?_) j (by omega) hj
     show lt e1[q]! e1[i]! = false
     rw [P1.2.1 q (.inr hq)]
     exact permIn_all e e1 a mid (fun x => lt e[q]! x = false) (by omega) P1 (fun r hr hrm => hx r q hr hrm hq hqb) i hi c1
 · exact S2 _ _ (by omega) hij hj
variable {N : Nat} [Inhabited (Fin N)]
def St (lt : Fin N → Fin N → Bool) (d : Array (Fin N)) : Prop := ∀ i j, i < j → j < d.size → lt d[i]! d[j]! = true ∨ lt d[j]! d[i]! = true ∨ d[i]!.val < d[j]!.val
theorem St.moved {lt : Fin N → Fin N → Bool} {d d' : Array (Fin N)} (σ : Nat → Nat) (h : St lt d) (hs : d'.size = d.size) (ha : ∀ k, k < d.size → d'[k]! = d[σ k]!) (hσ : ∀ k, k < d.size → σ k < d.size)
    (hx : ∀ i j, i < j → j < d.size → σ i < σ j ∨ lt d[σ i]! d[σ j]! = true) : St lt d' := by
 intro i j hij hj
 rw [hs] at hj
 rw [ha i (by omega), ha j hj]
 rcases hx i j hij hj with h1 | h1
 · exact h _ _ h1 (hσ j hj)
 · exact .inl h1
def uI (a n k : Nat) : Nat := if a ≤ k ∧ k < a + n then k + 1 else if k = a + n then a else k
def dI (m n k : Nat) : Nat := if m - n < k ∧ k ≤ m then k - 1 else if k = m - n then m else k
theorem q4c {lt : Fin N → Fin N → Bool} {d : Array (Fin N)} {a n : Nat} (h : St lt d) (hn : a + n < d.size) (hx : ∀ k, a < k → k ≤ a + n → lt d[k]! d[a]! = true) : St lt (shU d a n) := by
 refine h.moved (uI a n) (qex d a n) (fun k hk => ?_) (fun k hk => ?_) (fun i j hij hj => ?_)
 · rw [qqq d a n hn k]
   unfold uI
   split
   · rfl
   · split <;> rfl
 · unfold uI; repeat' split
   all_goals omega
 · by_cases hc : j = a + n ∧ a ≤ i
   · obtain ⟨rfl, hi⟩ := hc
     right
     have e1 : uI a n i = i + 1 := by unfold uI; rw [if_pos ⟨hi, hij⟩]
     have e2 : uI a n (a + n) = a := by unfold uI; rw [if_neg (by omega), if_pos rfl]
     rw [e1, e2]
     exact hx (i + 1) (by omega) (by omega)
   · left
     unfold uI
     repeat' split
     all_goals omega
theorem q4d {lt : Fin N → Fin N → Bool} {d : Array (Fin N)} {m n : Nat} (h : St lt d) (hm : m < d.size) (hn : n ≤ m) (hx : ∀ k, m - n ≤ k → k < m → lt d[m]! d[k]! = true) : St lt (shD d m n) := by
 refine h.moved (dI m n) (qey d m n) (fun k hk => ?_) (fun k hk => ?_) (fun i j hij hj => ?_)
 · rw [qqs d m hm n hn k]
   unfold dI
   split
   · rfl
   · split <;> rfl
 · unfold dI; repeat' split
   all_goals omega
 · by_cases hc : i = m - n ∧ j ≤ m
   · obtain ⟨rfl, hi⟩ := hc
     right
     have e1 : dI m n (m - n) = m := by unfold dI; rw [if_neg (by omega), if_pos rfl]
     have e2 : dI m n j = j - 1 := by unfold dI; rw [if_pos ⟨hij, hi⟩]
     rw [e1, e2]
     exact hx (j - 1) (by omega) (by omega)
   · left
     unfold dI
     repeat' split
     all_goals omega
theorem q0u {lt : Fin N → Fin N → Bool} {d e : Array (Fin N)} {s m en : Nat} (h : St lt d) (hR : Rot d e s m en) (hsm : s ≤ m) (hme : m ≤ en) (hen : en ≤ d.size)
    (hx : ∀ i j, s ≤ i → i < m → m ≤ j → j < en → lt d[j]! d[i]! = true) : St lt e := by
 refine h.moved (rotI s m en) hR.1 (fun k hk => hR.2 k) (fun k hk => ?_) (fun i j hij hj => ?_)
 · unfold rotI; repeat' split
   all_goals omega
 · by_cases hc : (s ≤ i ∧ i < s + (en - m)) ∧ (s + (en - m) ≤ j ∧ j < en)
   · right
     have e1 : rotI s m en i = i + (m - s) := by unfold rotI; rw [if_pos hc.1]
     have e2 : rotI s m en j = j - (en - m) := by unfold rotI; rw [if_neg (by omega), if_pos hc.2]
     rw [e1, e2]
     exact hx _ _ (by omega) (by omega) (by omega) (by omega)
   · left
     unfold rotI
     repeat' split
     all_goals omega
theorem qmy {lt : Fin N → Fin N → Bool} (hS : SWO lt) {d : Array (Fin N)} {a m b s en : Nat} (has : a ≤ s) (heb : en ≤ b) (h1 : SortedIn lt a m d) (h2 : SortedIn lt m b d) (hq2 : s = m ∨ en = m ∨ lt d[en - 1]! d[s]! = true)
    (i j : Nat) (hi : s ≤ i) (him : i < m) (hj : m ≤ j) (hje : j < en) : lt d[j]! d[i]! = true := by
 have hq : lt d[en - 1]! d[s]! = true := by
  rcases hq2 with h | h | h
  · omega
  · omega
  · exact h
 have f1 : lt d[i]! d[s]! = false := qg4 hS h1 has hi him
 have f2 : lt d[en - 1]! d[j]! = false := qg4 hS h2 hj (by omega) (by omega)
 cases hc : lt d[j]! d[i]! with
 | true => rfl
 | false =>
  have := hS.ntrans _ _ _ (hS.ntrans _ _ _ f2 hc) f1
  rw [hq] at this
  cases this
def wI (j k : Nat) : Nat := if k = j then j + 1 else if k = j + 1 then j else k
theorem q4a {lt : Fin N → Fin N → Bool} {d : Array (Fin N)} {j : Nat} (h : St lt d) (hj : j + 1 < d.size) (hx : lt d[j + 1]! d[j]! = true) : St lt (swp d (j + 1) j) := by
 refine h.moved (wI j) (by unfold swp; simp) (fun k hk => ?_) (fun k hk => ?_) (fun i k hik hk => ?_)
 · rw [qqi d (j + 1) j k hj (by omega)]
   unfold wI
   split
   · rfl
   · split <;> rfl
 · unfold wI; repeat' split
   all_goals omega
 · by_cases hc : i = j ∧ k = j + 1
   · obtain ⟨rfl, rfl⟩ := hc
     right
     have e1 : wI i i = i + 1 := by unfold wI; rw [if_pos rfl]
     have e2 : wI i (i + 1) = i := by unfold wI; rw [if_neg (by omega), if_pos rfl]
     rw [e1, e2]; exact hx
   · left
     unfold wI
     repeat' split
     all_goals omega
theorem qi6 {lt : Fin N → Fin N → Bool} (a : Nat) : ∀ (j : Nat) (d : Array (Fin N)), j < d.size → St lt d → St lt (insInner lt a j d) ∧ (insInner lt a j d).size = d.size
 | 0, d, _, h => ⟨h, rfl⟩
 | j + 1, d, hj, h => by
  unfold insInner
  split
  · rename_i hc
    have hx : lt d[j + 1]! d[j]! = true := by
     cases hq : lt d[j + 1]! d[j]! with
     | true => rfl
     | false => rw [hq] at hc; simp at hc
    have hsz : (swp d (j + 1) j).size = d.size := by unfold swp; simp
    obtain ⟨q1, q2⟩ := qi6 a j (swp d (j + 1) j) (by rw [hsz]; omega) (q4a h hj hx)
    exact ⟨q1, by rw [q2, hsz]⟩
  · exact ⟨h, rfl⟩
theorem qi5 {lt : Fin N → Fin N → Bool} (a b : Nat) : ∀ (L i : Nat) (d : Array (Fin N)), b - i ≤ L → b ≤ d.size → St lt d → St lt (insOuter lt a b i d)
 | 0, i, d, hL, hb, h => by unfold insOuter; rw [if_neg (by omega)]; exact h
 | L + 1, i, d, hL, hb, h => by
  unfold insOuter
  split
  · rename_i hc
    obtain ⟨q1, q2⟩ := qi6 a i d (by omega) h
    exact qi5 a b L (i + 1) _ (by omega) (by rw [q2]; exact hb) q1
  · exact h
theorem q4p {lt : Fin N → Fin N → Bool} {d : Array (Fin N)} {a b : Nat} (hb : b ≤ d.size) (h : St lt d) : St lt (insertionSort lt d a b) := qi5 a b (b - (a + 1)) (a + 1) d (Nat.le_refl _) hb h
def qas (lt : Fin N → Fin N → Bool) (a b : Nat) (d d' : Array (Fin N)) : Prop := PermIn a b d d' ∧ (St lt d → St lt d')
theorem qas.refl {lt : Fin N → Fin N → Bool} {a b : Nat} {d : Array (Fin N)} : qas lt a b d d := ⟨permIn_refl _ _ _, fun h => h⟩
theorem qas.trans {lt : Fin N → Fin N → Bool} {a b : Nat} {d e f : Array (Fin N)} (h1 : qas lt a b d e) (h2 : qas lt a b e f) : qas lt a b d f := ⟨permIn_trans _ _ _ _ _ h1.1 h2.1, fun h => h2.2 (h1.2 h)⟩
theorem qas.mono {lt : Fin N → Fin N → Bool} {a b a' b' : Nat} {d e : Array (Fin N)} (q1 : a' ≤ a) (q2 : b ≤ b') (q3 : b' ≤ d.size) (h : qas lt a b d e) : qas lt a' b' d e := ⟨permIn_mono _ _ _ _ _ _ q1 q2 q3 h.1, h.2⟩
variable {N : Nat} [Inhabited (Fin N)]
def CmpF (cb : Value) (cf : Fin N → Fin N → Int) (blk off size : Nat) (w : World) : Prop :=
 ∀ (dk : Array (Fin N)) (m : Nat) (x y : Fin N), dk.size = size → Calls Tryz.prog 121 #[.int .i64 (x.val : Int), .int .i64 (y.val : Int), cb] ((putRow eF w blk off dk).drewN m) fun e w' =>
  e = .returned (.int .i64 (cf x y)) ∧ ∃ q, w' = ((putRow eF w blk off dk).drewN m).drewN q
theorem qyh (cb : Value) (cf : Fin N → Fin N → Int) (hS : SWO (ltOf cf)) (blk off cap a b : Nat) (d : Array (Fin N)) (w : World) (hH : Holds eF w blk off d) (hC : CmpF cb cf blk off d.size w)
    (hab : a + 1 < b) (hb : b ≤ d.size) (hsz : d.size < 2305843009213693952) (hs : SortedIn (ltOf cf) (a + 1) b d) :
    Calls Tryz.prog 134 #[.slice (some ⟨blk, off, none⟩) d.size cap, .int .i64 (a : Int), .int .i64 ((a + 1 : Nat) : Int), .int .i64 (b : Int), .func (.func 121) #[] #[cb]] w fun e w' =>
     e = .returned (.tuple #[]) ∧ ∃ d', qas (ltOf cf) a b d d' ∧ SortedIn (ltOf cf) a b d' ∧ ∃ n, w' = (putRow eF w blk off d').drewN n := by
 have HST : Hid (w = (putRow eF w blk off d).drewN 0) := (putRow_self eF w blk off d hH).symm
 have HH : Hid (Holds eF w blk off d) := hH
 have HC : Hid (CmpF cb cf blk off d.size w) := hC
 have HS : Hid (SortedIn (ltOf cf) (a + 1) b d) := hs
 have HSW : Hid (SWO (ltOf cf)) := hS
 clear hH hC hs hS
 obtain ⟨m, hm⟩ : ∃ m, m = a + 1 := ⟨_, rfl⟩
 rw [← hm]
 have e1 : IntKind.i64.wrap ((m : Int) - (a : Int)) = 1 := by rw [IntKind.wrap_i64]; omega
 have HM : Hid (m = a + 1) := hm
 have hmb : m < b := by omega
 clear hm
 go_enter Tryz.func134, Tryz.ntmps134
 go_wp2
 go_loopg [10, 11] (b - m) (fun g u v wr => ∃ (i j n : Nat), u = .int .i64 (i : Int) ∧ v = .int .i64 (j : Int) ∧ m ≤ i ∧ i ≤ j ∧ j ≤ b ∧ j - i ≤ g ∧ Hid (i = m ∨ ltOf cf d[i - 1]! d[a]! = true) ∧ Hid (j = b ∨ ltOf cf d[j]! d[a]! = false) ∧ wr = (putRow eF w blk off d).drewN n)
 case atStart => exact ⟨m, b, 0, rfl, rfl, by omega, by omega, by omega, by omega, .inl rfl, .inl rfl, HST.out⟩
 case round =>
  obtain ⟨i, j, n, rfl, rfl, hmi, hij, hjb, hg, HI, HJ, rfl⟩ := hrel
  by_cases hlt : i < j
  · have hltz : (i : Int) < (j : Int) := by omega
    obtain ⟨ij, hij2⟩ : ∃ x, x = i + j := ⟨_, rfl⟩
    have w1 : IntKind.i64.wrap ((i : Int) + (j : Int)) = (ij : Int) := by rw [IntKind.wrap_i64]; omega
    have w2 : IntKind.u64.wrap (ij : Int) = (ij : Int) := by rw [IntKind.wrap_u64]; omega
    obtain ⟨h, hh⟩ : ∃ x, x = ij / 2 := ⟨_, rfl⟩
    have w3 : IntKind.i64.wrap (h : Int) = (h : Int) := by rw [IntKind.wrap_i64]; omega
    have w4 : IntKind.u64.wrap (h : Int) = (h : Int) := by rw [IntKind.wrap_u64]; omega
    have w5 : (ij : Int) / 2 = (h : Int) := by omega
    have hih : i ≤ h := by omega
    have hhj : h < j := by omega
    have HHH : Hid (h = ij / 2 ∧ ij = i + j) := ⟨hh, hij2⟩
    clear hh hij2
    have hHd := holds_putRow eF w blk off d d HH.out rfl
    obtain ⟨c1, _⟩ := hHd h (by omega)
    obtain ⟨c2, _⟩ := hHd a (by omega)
    obtain ⟨xh, hxh⟩ : ∃ x, d[h]! = x := ⟨_, rfl⟩
    obtain ⟨xa, hxa⟩ : ∃ x, d[a]! = x := ⟨_, rfl⟩
    rw [hxh] at c1
    rw [hxa] at c2
    have c1' : ((putRow eF w blk off d).drewN n).cell? ⟨blk, off + h, none⟩ = some (.int .i64 (xh.val : Int)) := c1
    have c2' : ((putRow eF w blk off d).drewN n).cell? ⟨blk, off + a, none⟩ = some (.int .i64 (xa.val : Int)) := c2
    have hc : ∀ k, Calls Tryz.prog 121 #[.int .i64 (xh.val : Int), .int .i64 (xa.val : Int), cb] (((putRow eF w blk off d).drewN n).drewN k) fun e w' => e = .returned (.int .i64 (cf xh xa)) ∧ ∃ q, w' = (((putRow eF w blk off d).drewN n).drewN k).drewN q := fun k => by
     have := HC.out d (n + k) xh xa rfl
     rw [← World.drewN_drewN] at this
     exact this
    clear c1 c2 hHd
    have HX : Hid (d[h]! = xh ∧ d[a]! = xa) := ⟨hxh, hxa⟩
    clear hxh hxa
    generalize hwq : (putRow eF w blk off d).drewN n = wq at c1' c2' hc ⊢
    have HW : Hid (wq = (putRow eF w blk off d).drewN n) := hwq.symm
    clear hwq
    have b1 : (h : Int) < (d.size : Int) := by omega
    have b2 : (a : Int) < (d.size : Int) := by omega
    have b3 : (0 : Int) ≤ (h : Int) := by omega
    have b4 : (0 : Int) ≤ (a : Int) := by omega
    generalize hv1 : (xh.val : Int) = v1 at c1' hc
    generalize hv2 : (xa.val : Int) = v2 at c2' hc
    clear hv1 hv2
    obtain ⟨r, hr⟩ : ∃ r, cf xh xa = r := ⟨_, rfl⟩
    rw [hr] at hc
    have HR : Hid (cf xh xa = r) := hr
    clear hr
    by_cases hlv : r < 0
    · go_wp2_with fail
      go_quiet (refine Calls.quiet_of (hc _))
      go_wp2
      go_roundg (j - (h + 1))
      case measure => omega
      case rel =>
       refine ⟨h + 1, j, n + nq, by go_num, rfl, by omega, by omega, hjb, by omega, (show Hid _ from .inr ?_), HJ, by rw [HW.out, World.drewN_drewN]⟩
       rw [Nat.add_sub_cancel, HX.out.1, HX.out.2]; unfold ltOf; rw [HR.out]; exact decide_eq_true hlv
    · go_wp2_with fail
      go_quiet (refine Calls.quiet_of (hc _))
      go_wp2
      go_roundg (h - i)
      case measure => omega
      case rel =>
       refine ⟨i, h, n + nq, rfl, rfl, by omega, by omega, by omega, by omega, HI, (show Hid _ from .inr ?_), by rw [HW.out, World.drewN_drewN]⟩
       rw [HX.out.1, HX.out.2]; unfold ltOf; rw [HR.out]; exact decide_eq_false (by omega)
  · obtain rfl : i = j := by omega
    have hltz : ¬ (i : Int) < (i : Int) := by omega
    obtain ⟨i1, hi1⟩ : ∃ x, x = i - 1 := ⟨_, rfl⟩
    have hm' := HM.out
    have z1 : IntKind.i64.wrap ((i : Int) - 1) = (i1 : Int) := by rw [IntKind.wrap_i64]; omega
    have hai : a ≤ i1 := by omega
    have hib : i1 < b := by omega
    have HI1 : Hid (i = i1 + 1) := by show _ = _; omega
    clear hm' hi1 hltz
    have hlt0 : ¬ (i : Int) < (i : Int) := by omega
    generalize hwq : (putRow eF w blk off d).drewN n = wq
    have HW : Hid (wq = (putRow eF w blk off d).drewN n) := hwq.symm
    clear hwq
    go_wp2
    go_loopg [13] (b - a) (fun g v wr => ∃ (t k n' : Nat), v = .int .i64 (k : Int) ∧ k = a + t ∧ k ≤ i1 ∧ i1 - k ≤ g ∧ wr = (putRow eF w blk off (shU d a t)).drewN n')
    case atStart => exact ⟨0, a, n, rfl, rfl, hai, by omega, HW.out⟩
    case round =>
     obtain ⟨t, k, n', rfl, hk, hki, hg2, rfl⟩ := hrel
     by_cases hkl : k < i1
     · have hklz : (k : Int) < (i1 : Int) := by omega
       have hs2 := qex d a t
       have hHj := holds_putRow eF w blk off d (shU d a t) HH.out hs2
       obtain ⟨p2, hp2⟩ : ∃ p, p = k + 1 := ⟨_, rfl⟩
       obtain ⟨c1, f1⟩ := hHj k (by omega)
       obtain ⟨c2, f2⟩ := hHj p2 (by omega)
       obtain ⟨x1, hx1⟩ : ∃ x, (shU d a t)[k]! = x := ⟨_, rfl⟩
       obtain ⟨x2, hx2⟩ : ∃ x, (shU d a t)[p2]! = x := ⟨_, rfl⟩
       rw [hx1] at c1
       rw [hx2] at c2
       have c1' : ((putRow eF w blk off (shU d a t)).drewN n').cell? ⟨blk, off + k, none⟩ = some (.int .i64 (x1.val : Int)) := c1
       have c2' : ((putRow eF w blk off (shU d a t)).drewN n').cell? ⟨blk, off + p2, none⟩ = some (.int .i64 (x2.val : Int)) := c2
       have f1' : ((putRow eF w blk off (shU d a t)).drewN n').frozen? ⟨blk, off + k, none⟩ = false := f1
       have f2' : ((putRow eF w blk off (shU d a t)).drewN n').frozen? ⟨blk, off + p2, none⟩ = false := f2
       have hw2 : IntKind.i64.wrap ((k : Int) + 1) = (p2 : Int) := by rw [IntKind.wrap_i64]; omega
       have hl1 : (k : Int) < (d.size : Int) := by omega
       have hl2 : (p2 : Int) < (d.size : Int) := by omega
       have q1 : (0 : Int) ≤ (k : Int) := by omega
       have q2 : (0 : Int) ≤ (p2 : Int) := by omega
       have HX : Hid ((shU d a t)[k]! = x1 ∧ (shU d a t)[p2]! = x2 ∧ p2 = k + 1 ∧ k = a + t) := ⟨hx1, hx2, hp2, hk⟩
       clear c1 c2 f1 f2 hHj hx1 hx2 hp2 hk
       generalize hwq2 : (putRow eF w blk off (shU d a t)).drewN n' = wq2 at c1' c2' f1' f2' ⊢
       have HW2 : Hid (wq2 = (putRow eF w blk off (shU d a t)).drewN n') := hwq2.symm
       clear hwq2
       generalize hv1 : (x1.val : Int) = v1 at c1'
       generalize hv2 : (x2.val : Int) = v2 at c2'
       have V1 : Hid ((x1.val : Int) = v1) := hv1
       have V2 : Hid ((x2.val : Int) = v2) := hv2
       clear hv1 hv2
       obtain ⟨v3, c3⟩ := cell?_setCell_some (p := ⟨blk, off + k, none⟩) (x := .int .i64 v2) c2'
       go_wp2_with fail
       go_region
       all_goals go_wp2
       go_roundg (i1 - (k + 1))
       case measure => omega
       case rel =>
        obtain ⟨y1, y2, y3, y4⟩ := HX.out
        refine ⟨t + 1, k + 1, n' + 1, by first | rfl | go_num | (rw [y3]; rfl), by omega, by omega, by omega, ?_⟩
        rw [HW2.out, ← V1.out, ← V2.out, ← y1, ← y2, y3, shU, ← y4]
        exact swap_worldC eF w blk off (shU d a t) n' k (k + 1) (by omega) (by omega)
     · obtain rfl : k = i1 := by omega
       have hklz : ¬ (k : Int) < (k : Int) := by omega
       have HX : Hid (k = a + t) := hk
       clear hk
       go_wp2
       (try simp only [Exit.inBlock, Exit.then]); refine bodyPost_ret (results_none rfl _ _ _) rfl ?_
       have y := HX.out
       have y2 := HI1.out
       have y3 := HM.out
       refine ⟨rfl, shU d a t, ⟨qqp d a a b (Nat.le_refl _) hb t (by omega), ?_⟩, qs6 HSW.out d a b t hb (by omega) HS.out ?_ ?_, n', rfl⟩
       · intro hst
         refine q4c hst (by omega) (fun x hx1 hx2 => ?_)
         rcases HI.out with h | h
         · omega
         · have f := qg4 HSW.out HS.out (show a + 1 ≤ x by omega) (show x ≤ i - 1 by omega) (by omega)
           cases hc : ltOf cf d[x]! d[a]! with
           | true => rfl
           | false => have g := HSW.out.ntrans _ _ _ f hc; rw [h] at g; cases g
       · rcases HI.out with h | h
         · exact .inl (by omega)
         · right; rw [← y, show k = i - 1 by omega]; exact h
       · rcases HJ.out with h | h
         · exact .inl (by omega)
         · right; rw [← y, ← y2]; exact h
variable {N : Nat} [Inhabited (Fin N)]
theorem qyg (cb : Value) (cf : Fin N → Fin N → Int) (hS : SWO (ltOf cf)) (blk off cap a m : Nat) (d : Array (Fin N)) (w : World) (hH : Holds eF w blk off d) (hC : CmpF cb cf blk off d.size w)
    (ham : a + 1 < m) (hb : m < d.size) (hsz : d.size < 2305843009213693952) (hs : SortedIn (ltOf cf) a m d) :
    Calls Tryz.prog 134 #[.slice (some ⟨blk, off, none⟩) d.size cap, .int .i64 (a : Int), .int .i64 (m : Int), .int .i64 ((m + 1 : Nat) : Int), .func (.func 121) #[] #[cb]] w fun e w' =>
     e = .returned (.tuple #[]) ∧ ∃ d', qas (ltOf cf) a (m + 1) d d' ∧ SortedIn (ltOf cf) a (m + 1) d' ∧ ∃ n, w' = (putRow eF w blk off d').drewN n := by
 have HST : Hid (w = (putRow eF w blk off d).drewN 0) := (putRow_self eF w blk off d hH).symm
 have HH : Hid (Holds eF w blk off d) := hH
 have HC : Hid (CmpF cb cf blk off d.size w) := hC
 have HS : Hid (SortedIn (ltOf cf) a m d) := hs
 have HSW : Hid (SWO (ltOf cf)) := hS
 clear hH hC hs hS
 obtain ⟨b, hbm⟩ : ∃ b, b = m + 1 := ⟨_, rfl⟩
 rw [← hbm]
 obtain ⟨ma, hma⟩ : ∃ x, x = m - a := ⟨_, rfl⟩
 have e0 : IntKind.i64.wrap ((m : Int) - (a : Int)) = (ma : Int) := by rw [IntKind.wrap_i64]; omega
 have e01 : ((ma : Int) == 1) = false := by simp; omega
 have e1 : IntKind.i64.wrap ((b : Int) - (m : Int)) = 1 := by rw [IntKind.wrap_i64]; omega
 have HB : Hid (b = m + 1) := hbm
 have hmb : m < b := by omega
 have hbs : b ≤ d.size := by omega
 clear hbm hma
 go_enter Tryz.func134, Tryz.ntmps134
 go_wp2
 go_loopg [14, 15] (m - a) (fun g u v wr => ∃ (i j n : Nat), u = .int .i64 (i : Int) ∧ v = .int .i64 (j : Int) ∧ a ≤ i ∧ i ≤ j ∧ j ≤ m ∧ j - i ≤ g ∧ Hid (i = a ∨ ltOf cf d[m]! d[i - 1]! = false) ∧ Hid (j = m ∨ ltOf cf d[m]! d[j]! = true) ∧ wr = (putRow eF w blk off d).drewN n)
 case atStart => exact ⟨a, m, 0, rfl, rfl, by omega, by omega, by omega, by omega, .inl rfl, .inl rfl, HST.out⟩
 case round =>
  obtain ⟨i, j, n, rfl, rfl, hmi, hij, hjb, hg, HI, HJ, rfl⟩ := hrel
  by_cases hlt : i < j
  · have hltz : (i : Int) < (j : Int) := by omega
    obtain ⟨ij, hij2⟩ : ∃ x, x = i + j := ⟨_, rfl⟩
    have w1 : IntKind.i64.wrap ((i : Int) + (j : Int)) = (ij : Int) := by rw [IntKind.wrap_i64]; omega
    have w2 : IntKind.u64.wrap (ij : Int) = (ij : Int) := by rw [IntKind.wrap_u64]; omega
    obtain ⟨h, hh⟩ : ∃ x, x = ij / 2 := ⟨_, rfl⟩
    have w3 : IntKind.i64.wrap (h : Int) = (h : Int) := by rw [IntKind.wrap_i64]; omega
    have w4 : IntKind.u64.wrap (h : Int) = (h : Int) := by rw [IntKind.wrap_u64]; omega
    have w5 : (ij : Int) / 2 = (h : Int) := by omega
    have hih : i ≤ h := by omega
    have hhj : h < j := by omega
    have HHH : Hid (h = ij / 2 ∧ ij = i + j) := ⟨hh, hij2⟩
    clear hh hij2
    have hHd := holds_putRow eF w blk off d d HH.out rfl
    obtain ⟨c1, _⟩ := hHd h (by omega)
    obtain ⟨c2, _⟩ := hHd m (by omega)
    obtain ⟨xh, hxh⟩ : ∃ x, d[h]! = x := ⟨_, rfl⟩
    obtain ⟨xa, hxa⟩ : ∃ x, d[m]! = x := ⟨_, rfl⟩
    rw [hxh] at c1
    rw [hxa] at c2
    have c1' : ((putRow eF w blk off d).drewN n).cell? ⟨blk, off + h, none⟩ = some (.int .i64 (xh.val : Int)) := c1
    have c2' : ((putRow eF w blk off d).drewN n).cell? ⟨blk, off + m, none⟩ = some (.int .i64 (xa.val : Int)) := c2
    have hc : ∀ k, Calls Tryz.prog 121 #[.int .i64 (xa.val : Int), .int .i64 (xh.val : Int), cb] (((putRow eF w blk off d).drewN n).drewN k) fun e w' => e = .returned (.int .i64 (cf xa xh)) ∧ ∃ q, w' = (((putRow eF w blk off d).drewN n).drewN k).drewN q := fun k => by
     have := HC.out d (n + k) xa xh rfl
     rw [← World.drewN_drewN] at this
     exact this
    clear c1 c2 hHd
    have HX : Hid (d[h]! = xh ∧ d[m]! = xa) := ⟨hxh, hxa⟩
    clear hxh hxa
    generalize hwq : (putRow eF w blk off d).drewN n = wq at c1' c2' hc ⊢
    have HW : Hid (wq = (putRow eF w blk off d).drewN n) := hwq.symm
    clear hwq
    have b1 : (h : Int) < (d.size : Int) := by omega
    have b2 : (m : Int) < (d.size : Int) := by omega
    have b3 : (0 : Int) ≤ (h : Int) := by omega
    have b4 : (0 : Int) ≤ (m : Int) := by omega
    generalize hv1 : (xh.val : Int) = v1 at c1' hc
    generalize hv2 : (xa.val : Int) = v2 at c2' hc
    clear hv1 hv2
    obtain ⟨r, hr⟩ : ∃ r, cf xa xh = r := ⟨_, rfl⟩
    rw [hr] at hc
    have HR : Hid (cf xa xh = r) := hr
    clear hr
    by_cases hlv : r < 0
    · go_wp2_with fail
      go_quiet (refine Calls.quiet_of (hc _))
      go_wp2
      go_roundg (h - i)
      case measure => omega
      case rel =>
       refine ⟨i, h, n + nq, rfl, rfl, by omega, by omega, by omega, by omega, HI, (show Hid _ from .inr ?_), by rw [HW.out, World.drewN_drewN]⟩
       rw [HX.out.1, HX.out.2]; unfold ltOf; rw [HR.out]; exact decide_eq_true (by omega)
    · have hld : decide (r < 0) = false := decide_eq_false hlv
      go_wp2_with fail
      go_quiet (refine Calls.quiet_of (hc _))
      go_wp2
      go_roundg (j - (h + 1))
      case measure => omega
      case rel =>
       refine ⟨h + 1, j, n + nq, by go_num, rfl, by omega, by omega, hjb, by omega, (show Hid _ from .inr ?_), HJ, by rw [HW.out, World.drewN_drewN]⟩
       rw [Nat.add_sub_cancel, HX.out.1, HX.out.2]; unfold ltOf; rw [HR.out]; exact decide_eq_false (by omega)
  · obtain rfl : i = j := by omega
    have hlt0 : ¬ (i : Int) < (i : Int) := by omega
    generalize hwq : (putRow eF w blk off d).drewN n = wq
    have HW : Hid (wq = (putRow eF w blk off d).drewN n) := hwq.symm
    clear hwq
    go_wp2
    go_loopg [17] (m - i) (fun g v wr => ∃ (t k n' : Nat), v = .int .i64 (k : Int) ∧ k + t = m ∧ i ≤ k ∧ k - i ≤ g ∧ wr = (putRow eF w blk off (shD d m t)).drewN n')
    case atStart => exact ⟨0, m, n, rfl, rfl, by omega, by omega, HW.out⟩
    case round =>
     obtain ⟨t, k, n', rfl, hk, hki, hg2, rfl⟩ := hrel
     by_cases hkl : i < k
     · have hklz : (i : Int) < (k : Int) := by omega
       have hs2 := qey d m t
       have hHj := holds_putRow eF w blk off d (shD d m t) HH.out hs2
       obtain ⟨p2, hp2⟩ : ∃ p, p = k - 1 := ⟨_, rfl⟩
       obtain ⟨c1, f1⟩ := hHj k (by omega)
       obtain ⟨c2, f2⟩ := hHj p2 (by omega)
       obtain ⟨x1, hx1⟩ : ∃ x, (shD d m t)[k]! = x := ⟨_, rfl⟩
       obtain ⟨x2, hx2⟩ : ∃ x, (shD d m t)[p2]! = x := ⟨_, rfl⟩
       rw [hx1] at c1
       rw [hx2] at c2
       have c1' : ((putRow eF w blk off (shD d m t)).drewN n').cell? ⟨blk, off + k, none⟩ = some (.int .i64 (x1.val : Int)) := c1
       have c2' : ((putRow eF w blk off (shD d m t)).drewN n').cell? ⟨blk, off + p2, none⟩ = some (.int .i64 (x2.val : Int)) := c2
       have f1' : ((putRow eF w blk off (shD d m t)).drewN n').frozen? ⟨blk, off + k, none⟩ = false := f1
       have f2' : ((putRow eF w blk off (shD d m t)).drewN n').frozen? ⟨blk, off + p2, none⟩ = false := f2
       have hw2 : IntKind.i64.wrap ((k : Int) - 1) = (p2 : Int) := by rw [IntKind.wrap_i64]; omega
       have hl1 : (k : Int) < (d.size : Int) := by omega
       have hl2 : (p2 : Int) < (d.size : Int) := by omega
       have q1 : (0 : Int) ≤ (k : Int) := by omega
       have q2 : (0 : Int) ≤ (p2 : Int) := by omega
       have HX : Hid ((shD d m t)[k]! = x1 ∧ (shD d m t)[p2]! = x2 ∧ p2 = k - 1 ∧ k + t = m) := ⟨hx1, hx2, hp2, hk⟩
       clear c1 c2 f1 f2 hHj hx1 hx2 hp2 hk
       generalize hwq2 : (putRow eF w blk off (shD d m t)).drewN n' = wq2 at c1' c2' f1' f2' ⊢
       have HW2 : Hid (wq2 = (putRow eF w blk off (shD d m t)).drewN n') := hwq2.symm
       clear hwq2
       generalize hv1 : (x1.val : Int) = v1 at c1'
       generalize hv2 : (x2.val : Int) = v2 at c2'
       have V1 : Hid ((x1.val : Int) = v1) := hv1
       have V2 : Hid ((x2.val : Int) = v2) := hv2
       clear hv1 hv2
       obtain ⟨v3, c3⟩ := cell?_setCell_some (p := ⟨blk, off + k, none⟩) (x := .int .i64 v2) c2'
       go_wp2_with fail
       go_region
       all_goals go_wp2
       go_roundg (p2 - i)
       case measure => have := HX.out.2.2.1; omega
       case rel =>
        obtain ⟨y1, y2, y3, y4⟩ := HX.out
        refine ⟨t + 1, p2, n' + 1, by first | rfl | go_num, by omega, by omega, by omega, ?_⟩
        rw [HW2.out, ← V1.out, ← V2.out, ← y1, ← y2, shD, show m - t = k by omega, show k - 1 = p2 from y3.symm]
        exact swap_worldC eF w blk off (shD d m t) n' k p2 (by omega) (by omega)
     · obtain rfl : k = i := by omega
       have hklz : ¬ (k : Int) < (k : Int) := by omega
       have HX : Hid (k + t = m) := hk
       clear hk
       go_wp2
       (try simp only [Exit.inBlock, Exit.then]); refine bodyPost_ret (results_none rfl _ _ _) rfl ?_
       have y := HX.out
       rw [HB.out]
       refine ⟨rfl, shD d m t, ⟨qqr d m a (m + 1) (by omega) (by omega) t (by omega), ?_⟩, qs7 HSW.out d a m t hb (by omega) HS.out ?_ ?_, n', rfl⟩
       · intro hst
         refine q4d hst (by omega) (by omega) (fun x hx1 hx2 => ?_)
         rcases HJ.out with h | h
         · omega
         · have f := qg4 HSW.out HS.out hmi (show k ≤ x by omega) hx2
           cases hc : ltOf cf d[m]! d[x]! with
           | true => rfl
           | false => have g := HSW.out.ntrans _ _ _ hc f; rw [h] at g; cases g
       · rcases HJ.out with h | h
         · exact .inl (by omega)
         · right; rw [show m - t = k by omega]; exact h
       · rcases HI.out with h | h
         · exact .inl (by omega)
         · right; rw [show m - t = k by omega]; exact h
end Go.Proofs.YthkppipdflmekaaGreat
