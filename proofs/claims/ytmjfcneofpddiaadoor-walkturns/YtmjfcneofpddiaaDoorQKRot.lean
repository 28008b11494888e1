/- slices.swapRangeCmpFunc at items of five cells: two stretches of a row exchanged. slices.rotateCmpFunc at items of k cells: two stretches that lie side by side change places. -/
import Derived.Test.YtmjfcneofpddiaaDoorRows
import Derived.Test.YtmjfcneofpddiaaDoorQSrtM
import Derived.Sort.WalkC
import Derived.Deep.LoopGhost
import Derived.BigRegion
namespace Go.Proofs.YtmjfcneofpddiaaDoor
open Go.RowKit Go.Shelf Go.Lib Go.Sort
set_option linter.unusedVariables false
set_option linter.unusedSimpArgs false
variable {P : Program} {k : Nat} {N : Nat} [Inhabited (Fin N)] {enc : Fin N → List Value} {w0 : World} {blk off : Nat} {d0 : Array (Fin N)}

/-- What a stable sort asks of a program whose items take k cells (k a variable: so a load or a store of an item is one step). -/
structure ItP (P : Program) (k : Nat) : Prop where
  mixed : P.follows .mixedOrders = true
  fsw : P.funcs[97]? = some Tryd.f97
  frot : P.funcs[78]? = some Tryd.f78
  fsym : P.funcs[66]? = some Tryd.f66
  fstb : P.funcs[53]? = some Tryd.f53
  t3 : P.underlying 3 = some (TypeDesc.int IntKind.i64)
  a3 : ∀ w, (isAgg 3).run P w = .ok false w
  z3 : ∀ w, (Go.sizeOf 3).run P w = .ok 1 w
  v3 : ∀ w, (zeroValue 3).run P w = .ok (Value.int IntKind.i64 0) w
  t4 : P.underlying 4 = some (TypeDesc.bool)
  a4 : ∀ w, (isAgg 4).run P w = .ok false w
  z4 : ∀ w, (Go.sizeOf 4).run P w = .ok 1 w
  v4 : ∀ w, (zeroValue 4).run P w = .ok (Value.bool false) w
  t22 : P.underlying 22 = some (TypeDesc.slice 25)
  a22 : ∀ w, (isAgg 22).run P w = .ok false w
  z22 : ∀ w, (Go.sizeOf 22).run P w = .ok 1 w
  v22 : ∀ w, (zeroValue 22).run P w = .ok (Value.slice none 0 0) w
  tU : P.underlying 105 = some (TypeDesc.int IntKind.u64)
  aU : ∀ w, (isAgg 105).run P w = .ok false w
  zU : ∀ w, (Go.sizeOf 105).run P w = .ok 1 w
  vU : ∀ w, (zeroValue 105).run P w = .ok (Value.int IntKind.u64 0) w
  aE : ∀ w, (isAgg 25).run P w = .ok true w
  zE : ∀ w, (Go.sizeOf 25).run P w = .ok k w

set_option maxRecDepth 100000 in
set_option maxHeartbeats 4000000 in
theorem kswR_any (L : ItP P k) (R : RowK enc k w0 blk off d0) (cap a b n : Nat) (d : Array (Fin N)) (hs : d.size = d0.size) (W : World) (hW : SWK enc k w0 blk off d W) (f : Value) (ha : a + n ≤ d.size) (hb : b + n ≤ d.size) (hsz : d.size < 2305843009213693952) :
    Calls P 97 #[.slice (some ⟨blk, off, none⟩) d.size cap, .int .i64 (a : Int), .int .i64 (b : Int), .int .i64 (n : Int), f] W fun e w' =>
      e = .returned (.tuple #[]) ∧ SWK enc k w0 blk off (swR d a b n) w' := by
  have HW0 : Hid (SWK enc k w0 blk off d W) := hW
  have HR : Aside (RowK enc k w0 blk off d0) := R
  clear hW R
  have mixed := L.mixed; have t3 := L.t3; have a3 := L.a3; have z3 := L.z3; have v3 := L.v3; have t4 := L.t4; have a4 := L.a4; have z4 := L.z4; have v4 := L.v4; have t22 := L.t22; have a22 := L.a22; have z22 := L.z22; have v22 := L.v22; have aE := L.aE; have zE := L.zE
  have u22 := run_underlying L.t22
  have F := L.fsw
  clear L
  go_enter F, Tryd.ntmps97
  go_wp2
  go_loopg [10] n (fun g v wr => ∃ (i : Nat), v = .int .i64 (i : Int) ∧ i ≤ n ∧ n - i ≤ g ∧ Hid (SWK enc k w0 blk off (swR d a b i) wr))
  case atStart => exact ⟨0, rfl, by omega, by omega, HW0⟩
  case round =>
    obtain ⟨i, rfl, hi, hg, HV⟩ := hrel
    by_cases hlt : i < n
    · have hltz : (i : Int) < (n : Int) := by omega
      have hsk := swR_size d a b i
      have hw1 := pRun a i (by omega)
      have hw2 := pRun b i (by omega)
      have hl1 : ((a + i : Nat) : Int) < (d.size : Int) := by omega
      have hl2 : ((b + i : Nat) : Int) < (d.size : Int) := by omega
      obtain ⟨p1, hp1⟩ : ∃ p, p = a + i := ⟨_, rfl⟩
      obtain ⟨p2, hp2⟩ : ∃ p, p = b + i := ⟨_, rfl⟩
      have lj2 := HV.out.ld1 HR.out (by omega) P p1 (by omega)
      have lp2 := HV.out.ld1 HR.out (by omega) P p2 (by omega)
      have s1 := HV.out.st1 HR.out (by omega) P p1 (by omega) (swR d a b i)[p2]!
      have s2 := HV.out.st2 HR.out (by omega) P p1 p2 (by omega) (by omega) (swR d a b i)[p2]! (swR d a b i)[p1]!
      have SW : Hid _ := HV.out.swapped HR.out p1 p2 (by omega) (by omega)
      have hsJ : (enc (swR d a b i)[p1]!).length = k := HR.out.hk _
      have hsP : (enc (swR d a b i)[p2]!).length = k := HR.out.hk _
      obtain ⟨cJ, hcJ⟩ : ∃ c, c = enc (swR d a b i)[p1]! := ⟨_, rfl⟩
      obtain ⟨cP, hcP⟩ : ∃ c, c = enc (swR d a b i)[p2]! := ⟨_, rfl⟩
      rw [← hcP] at s1 lp2 hsP
      rw [← hcJ] at lj2 hsJ
      rw [← hcJ, ← hcP] at s2 SW
      rw [← hp1] at hw1 hl1
      rw [← hp2] at hw2 hl2
      have PP : Hid (p1 = a + i ∧ p2 = b + i) := ⟨hp1, hp2⟩
      have q1 : (0 : Int) ≤ (p1 : Int) := by omega
      have q2 : (0 : Int) ≤ (p2 : Int) := by omega
      clear hcJ hcP hp1 hp2
      go_wp2_with fail
      go_big_region_o
      all_goals go_wp2
      go_roundg (n - (i + 1))
      case measure => omega
      case rel =>
        refine ⟨i + 1, by go_num, by omega, by omega, (show Hid _ from ?_)⟩
        show SWK _ _ _ _ _ _ _
        rw [swR, ← PP.out.1, ← PP.out.2]
        exact SW.out
    · obtain rfl : i = n := by omega
      have hltz : ¬ (i : Int) < (i : Int) := by omega
      go_wp2
      go_end0
      exact ⟨rfl, HV.out⟩
end Go.Proofs.YtmjfcneofpddiaaDoor
namespace Go.Proofs.YtmjfcneofpddiaaDoor
open Go.RowKit Go.Shelf Go.Lib Go.Sort
set_option linter.unusedVariables false
set_option linter.unusedSimpArgs false
variable {P : Program} {k : Nat} {N : Nat} [Inhabited (Fin N)] {enc : Fin N → List Value} {w0 : World} {blk off : Nat} {d0 : Array (Fin N)}

set_option maxRecDepth 100000 in
set_option maxHeartbeats 2000000 in
theorem krot_any (L : ItP P k) (R : RowK enc k w0 blk off d0) (cap a m b : Nat) (d : Array (Fin N)) (hds : d.size = d0.size) (W : World) (hW : SWK enc k w0 blk off d W) (f : Value) (ha : a < m) (hb : m < b) (hbs : b ≤ d.size) (hsz : d.size < 2305843009213693952) :
    Calls P 78 #[.slice (some ⟨blk, off, none⟩) d.size cap, .int .i64 (a : Int), .int .i64 (m : Int), .int .i64 (b : Int), f] W fun e w' =>
      e = .returned (.tuple #[]) ∧ ∃ d', Rot d d' a m b ∧ PermIn a b d d' ∧ SWK enc k w0 blk off d' w' := by
  have HST : Hid (SWK enc k w0 blk off d W) := hW
  have HSW : Hid (∀ (dk : Array (Fin N)) (V : World) (x y z : Nat), dk.size = d.size → SWK enc k w0 blk off dk V → x + z ≤ d.size → y + z ≤ d.size →
      Calls P 97 #[.slice (some ⟨blk, off, none⟩) d.size cap, .int .i64 (x : Int), .int .i64 (y : Int), .int .i64 (z : Int), f] V fun e w' =>
        e = .returned (.tuple #[]) ∧ SWK enc k w0 blk off (swR dk x y z) w') := by
    intro dk V x y z hk hV hx hy
    have h := kswR_any L R cap x y z dk (by omega) V hV f (by omega) (by omega) (by omega)
    rw [hk] at h
    exact h
  clear hW R hds
  have mixed := L.mixed; have t3 := L.t3; have a3 := L.a3; have z3 := L.z3; have v3 := L.v3; have t4 := L.t4; have a4 := L.a4; have z4 := L.z4; have v4 := L.v4; have t22 := L.t22; have a22 := L.a22; have z22 := L.z22; have v22 := L.v22; have aE := L.aE; have zE := L.zE
  have u22 := run_underlying L.t22
  have F := L.frot
  have eg : ∀ args w, (callFunc 97 args).run P w = .ok (.enter 97 args) w := fun args w => enters_of L.fsw (by kernel_rfl) rfl args w
  clear L
  have e1 := mRun m a (by omega) (by omega)
  have e2 := mRun b m (by omega) (by omega)
  go_enter F, Tryd.ntmps78
  go_wp2
  go_loopg [10, 11] (b - a) (fun g u v wr => ∃ (i j : Nat) (dk : Array (Fin N)), u = .int .i64 (i : Int) ∧ v = .int .i64 (j : Int) ∧ 0 < i ∧ 0 < j ∧ a + i ≤ m ∧ m + j ≤ b ∧ i + j ≤ g ∧ dk.size = d.size ∧ Hid (PermIn a b d dk) ∧ Hid (∀ q, dk[rotI (m - i) m (m + j) q]! = d[rotI a m b q]!) ∧ Hid (SWK enc k w0 blk off dk wr))
  case atStart =>
    refine ⟨m - a, b - m, d, rfl, rfl, by omega, by omega, by omega, by omega, by omega, rfl, permIn_refl _ _ _, (show Hid _ from ?_), HST⟩
    intro k
    rw [show m - (m - a) = a by omega, show m + (b - m) = b by omega]
  case round =>
    obtain ⟨i, j, dk, rfl, rfl, hi, hj, haim, hjs, hg, hs, HP, HK, HV0⟩ := hrel
    have him : i ≤ m := by omega
    have q1 := mRun m i him (by omega)
    by_cases hij : i = j
    · subst hij
      have hne : ((i : Int) != (i : Int)) = false := by simp
      have hc := HSW.out dk wr (m - i) m i hs HV0.out (by omega) (by omega)
      go_wp2_with fail
      refine hc.mono ?_
      rintro e V ⟨rfl, hV⟩
      have HV : Hid (SWK _ _ _ _ _ _ V) := hV
      clear hV hc
      go_wp2
      go_end0
      refine ⟨rfl, _, ⟨by rw [swR_size]; exact hs, fun k => ?_⟩, permIn_trans _ _ _ _ _ HP.out (swR_perm dk _ _ a b (by omega) (by omega) (by omega) _ (by omega) (by omega)), HV.out⟩
      rw [swR_at dk _ _ _ (by omega) (by omega), rot_same m i k hi him, HK.out]
    · have hne : ¬ (i : Int) = (j : Int) := by omega
      by_cases hgt : j < i
      · have hgz : (j : Int) < (i : Int) := by omega
        have q2 := mRun i j (by omega) (by omega)
        have hc := HSW.out dk wr (m - i) m j hs HV0.out (by omega) (by omega)
        go_wp2_with fail
        refine hc.mono ?_
        rintro e V ⟨rfl, hV⟩
        have HV : Hid (SWK _ _ _ _ _ _ V) := hV
        clear hV hc
        go_wp2
        go_roundg (i - j + j)
        case measure => omega
        case rel =>
          refine ⟨i - j, j, _, rfl, rfl, by omega, hj, by omega, hjs, by omega, by rw [swR_size]; exact hs, permIn_trans _ _ _ _ _ HP.out (swR_perm dk _ _ a b (by omega) (by omega) (by omega) _ (by omega) (by omega)), (show Hid _ from ?_), HV⟩
          intro k
          rw [swR_at dk _ _ _ (by omega) (by omega), rot_more m i j k hj hgt him, HK.out]
      · have hgz : ¬ (j : Int) < (i : Int) := by omega
        have q2 := mRun j i (by omega) (by omega)
        obtain ⟨mj, hmj⟩ : ∃ x, x = m + j := ⟨_, rfl⟩
        have q3 : IntKind.i64.wrap ((m : Int) + (j : Int)) = (mj : Int) := by rw [hmj]; exact pRun m j (by omega)
        have q4 := mRun mj i (by omega) (by omega)
        have hc := HSW.out dk wr (m - i) (mj - i) i hs HV0.out (by omega) (by omega)
        have MJ : Hid (mj = m + j) := hmj
        clear hmj
        go_wp2_with fail
        refine hc.mono ?_
        rintro e V ⟨rfl, hV⟩
        have HV : Hid (SWK _ _ _ _ _ _ V) := hV
        clear hV hc
        go_wp2
        go_roundg (i + (j - i))
        case measure => omega
        case rel =>
          have hmj := MJ.out
          refine ⟨i, j - i, _, rfl, rfl, hi, by omega, haim, by omega, by omega, by rw [swR_size]; exact hs, permIn_trans _ _ _ _ _ HP.out (swR_perm dk _ _ a b (by omega) (by omega) (by omega) _ (by omega) (by omega)), (show Hid _ from ?_), HV⟩
          intro k
          rw [swR_at dk _ _ _ (by omega) (by omega), hmj, rot_less m i j k hi (by omega) him, HK.out]
end Go.Proofs.YtmjfcneofpddiaaDoor
