/- The walks of 'DaysGo', one for each way. -/
import Derived.Test.YthmijkpkegdcdaaDoorDayE
namespace Go.Proofs.YthmijkpkegdcdaaDoor
open Go.RowKit
set_option linter.unusedVariables false

set_option maxRecDepth 100000 in
set_option maxHeartbeats 1000000 in
theorem go_aw1 (t u : Int) (W : World) (hL : PT W) (ht : ¬ (0 ≤ t ∧ t ≤ 253402300799)) :
    Calls Tryd.prog 4 #[.int .i64 t, .int .i64 u] W fun e w' => e = .returned (.bool true) ∧ Below W.heap.size W w' := by
  go_enter Tryd.func4, Tryd.ntmps4
  have HF : Hid (_) := ht
  clear ht
  go_wp2_with fail
  refine (fit_no t _ HF.out).mono ?_
  rintro e w1 ⟨rfl, rfl⟩
  go_wp2_with fail
  refine (awake20_any _ hL).mono ?_
  rintro e w3 ⟨rfl, hb3⟩
  go_wp2
  go_ret
  exact ⟨rfl, hb3⟩
set_option maxRecDepth 100000 in
set_option maxHeartbeats 1000000 in
theorem go_aw2 (t u : Int) (W : World) (hL : PT W) (x : Nat) (hx : t = x) (hx2 : x ≤ 253402300799) (hu : ¬ (0 ≤ u ∧ u ≤ 253402300799)) :
    Calls Tryd.prog 4 #[.int .i64 t, .int .i64 u] W fun e w' => e = .returned (.bool true) ∧ Below W.heap.size W w' := by
  go_enter Tryd.func4, Tryd.ntmps4
  subst hx
  have HF : Hid (_) := hu
  clear hu
  go_wp2_with fail
  refine (fit_yes x _ hx2).mono ?_
  rintro e w1 ⟨rfl, rfl⟩
  go_wp2_with fail
  refine (fit_no u _ HF.out).mono ?_
  rintro e w1 ⟨rfl, rfl⟩
  go_wp2_with fail
  refine (awake20_any _ hL).mono ?_
  rintro e w3 ⟨rfl, hb3⟩
  go_wp2
  go_ret
  exact ⟨rfl, hb3⟩
set_option maxRecDepth 100000 in
set_option maxHeartbeats 1000000 in
theorem go_aw3 (t u : Int) (W : World) (hL : PT W) (x y : Nat) (hx : t = x) (hy : u = y) (hx2 : x ≤ 253402300799) (hy2 : y ≤ 253402300799) (hb : 253402214399 < x) :
    Calls Tryd.prog 4 #[.int .i64 t, .int .i64 u] W fun e w' => e = .returned (.bool true) ∧ Below W.heap.size W w' := by
  go_enter Tryd.func4, Tryd.ntmps4
  subst hx
  subst hy
  go_wp2_with fail
  refine (fit_yes x _ hx2).mono ?_
  rintro e w1 ⟨rfl, rfl⟩
  go_wp2_with fail
  refine (fit_yes y _ hy2).mono ?_
  rintro e w1 ⟨rfl, rfl⟩
  go_wp2_with fail
  refine (awake20_any _ hL).mono ?_
  rintro e w3 ⟨rfl, hb3⟩
  go_wp2
  go_ret
  exact ⟨rfl, hb3⟩
/-- What a week's and a month's numbers do from a day to the next. -/
theorem go_next (q : Nat) : ((q + 1 + 3) / 7 = (q + 3) / 7 ∧ q % 7 ≠ 3) ∨ ((q + 1 + 3) / 7 = (q + 3) / 7 + 1 ∧ q % 7 = 3) := by omega
set_option maxRecDepth 100000 in
set_option maxHeartbeats 1000000 in
theorem go_main00lt (x y q p k n k2 n2 : Nat) (S T : ByteArray) (W : World) (hL : PT W) (hx : x ≤ 253402214399) (hy : y ≤ 253402300799)
    (hq : q ≤ 3000000) (hk : k ≤ 3000000) (hn : n ≤ 3000000) (h7 : (q : Int) % 7 ≠ 3)
    (A1 : ∀ w, Calls Tryd.prog 11 #[.int .i64 x] w fun e w' => e = .returned (.int .i64 k) ∧ w' = w)
    (A2 : ∀ w, Calls Tryd.prog 11 #[.int .i64 ((x : Int) + 86400)] w fun e w' => e = .returned (.int .i64 ((k : Int))) ∧ w' = w)
    (A3 : ∀ w, Calls Tryd.prog 12 #[.int .i64 x] w fun e w' => e = .returned (.int .i64 n) ∧ w' = w)
    (A4 : ∀ w, Calls Tryd.prog 12 #[.int .i64 ((x : Int) + 86400)] w fun e w' => e = .returned (.int .i64 ((n : Int))) ∧ w' = w)
    (A5 : ∀ w, Calls Tryd.prog 10 #[.int .i64 ((x : Int) + 86400)] w fun e w' => e = .returned (.int .i64 ((q : Int) + 1)) ∧ w' = w)
    (A6 : ∀ w, Calls Tryd.prog 10 #[.int .i64 x] w fun e w' => e = .returned (.int .i64 q) ∧ w' = w)
    (D1 : Calls Tryd.prog 7 #[.int .i64 x] W fun e w' => e = .returned (.tuple #[.string S, .int .i64 0]) ∧ Below W.heap.size W w')
    (D2 : ∀ w, Below W.heap.size W w → Calls Tryd.prog 7 #[.int .i64 y] w fun e w' => e = .returned (.tuple #[.string T, .int .i64 0]) ∧ Below w.heap.size w w')
    (B1 : ∀ w, Calls Tryd.prog 11 #[.int .i64 y] w fun e w' => e = .returned (.int .i64 k2) ∧ w' = w)
    (B3 : ∀ w, Calls Tryd.prog 12 #[.int .i64 y] w fun e w' => e = .returned (.int .i64 n2) ∧ w' = w)
    (B6 : ∀ w, Calls Tryd.prog 10 #[.int .i64 y] w fun e w' => e = .returned (.int .i64 p) ∧ w' = w)
    (E1 : Op.bytesLess S.toList T.toList = true)
    (E2 : (S.toList == T.toList) = false)
    (hxy : x ≤ y) (hqp : q ≠ p) (l1 : q ≤ p) (l2 : k ≤ k2) (l3 : n ≤ n2) :
    Calls Tryd.prog 4 #[.int .i64 x, .int .i64 y] W fun e w' => e = .returned (.bool true) ∧ Below W.heap.size W w' := by
  have hqi : ((q : Int) == (p : Int)) = false := by simp; omega
  have g1 : ((k : Int) == (k : Int) + 1) = false := by simp; omega
  have g2 : ((q : Int) % 7 == 3) = false := by simpa using h7
  clear h7
  have HT : Hid (∀ w', Below W.heap.size W w' → PT w') := fun w' h => hL.on h
  go_enter Tryd.func4, Tryd.ntmps4
  go_wp2_with fail
  refine (fit_yes x _ (by omega)).mono ?_
  rintro e w1 ⟨rfl, rfl⟩
  go_wp2_with fail
  refine (fit_yes y _ hy).mono ?_
  rintro e w1 ⟨rfl, rfl⟩
  go_wp2_with fail
  refine (A1 _).mono ?_
  rintro e w1 ⟨rfl, rfl⟩
  go_wp2_with fail
  refine (A2 _).mono ?_
  rintro e w1 ⟨rfl, rfl⟩
  go_wp2_with fail
  refine (A3 _).mono ?_
  rintro e w1 ⟨rfl, rfl⟩
  go_wp2_with fail
  refine (A4 _).mono ?_
  rintro e w1 ⟨rfl, rfl⟩
  go_wp2_with fail
  refine (A5 _).mono ?_
  rintro e w1 ⟨rfl, rfl⟩
  go_wp2_with fail
  refine (A6 _).mono ?_
  rintro e w1 ⟨rfl, rfl⟩
  go_wp2_with fail
  refine (A6 _).mono ?_
  rintro e w1 ⟨rfl, rfl⟩
  go_wp2_with fail
  refine D1.mono ?_
  rintro e v1 ⟨rfl, hv1⟩
  go_wp2_with fail
  refine (D2 _ hv1).mono ?_
  rintro e v2 ⟨rfl, hv2⟩
  go_wp2_with fail
  refine (awake20_any _ (HT.out _ (hv1.trans (hv2.mono hv1.size)))).mono ?_
  rintro e v3 ⟨rfl, hv3⟩
  have HF : Hid (_) := (hv1.trans (hv2.mono hv1.size)).trans (hv3.mono (Nat.le_trans hv1.size hv2.size))
  clear hv1 hv2 hv3
  go_wp2_with fail
  refine (A6 _).mono ?_
  rintro e w1 ⟨rfl, rfl⟩
  go_wp2_with fail
  refine (B6 _).mono ?_
  rintro e w1 ⟨rfl, rfl⟩
  go_wp2_with fail
  refine (A1 _).mono ?_
  rintro e w1 ⟨rfl, rfl⟩
  go_wp2_with fail
  refine (B1 _).mono ?_
  rintro e w1 ⟨rfl, rfl⟩
  go_wp2_with fail
  refine (A3 _).mono ?_
  rintro e w1 ⟨rfl, rfl⟩
  go_wp2_with fail
  refine (B3 _).mono ?_
  rintro e w1 ⟨rfl, rfl⟩
  go_wp2_with fail
  refine (A6 _).mono ?_
  rintro e w1 ⟨rfl, rfl⟩
  go_wp2_with fail
  refine (B6 _).mono ?_
  rintro e w1 ⟨rfl, rfl⟩
  go_wp2
  go_ret
  refine ⟨?_, HF.out⟩
  first
    | rfl
    | (simp [E2]; done)
    | simp_all
set_option maxRecDepth 100000 in
set_option maxHeartbeats 1000000 in
theorem go_main00eq (x y q p k n k2 n2 : Nat) (S T : ByteArray) (W : World) (hL : PT W) (hx : x ≤ 253402214399) (hy : y ≤ 253402300799)
    (hq : q ≤ 3000000) (hk : k ≤ 3000000) (hn : n ≤ 3000000) (h7 : (q : Int) % 7 ≠ 3)
    (A1 : ∀ w, Calls Tryd.prog 11 #[.int .i64 x] w fun e w' => e = .returned (.int .i64 k) ∧ w' = w)
    (A2 : ∀ w, Calls Tryd.prog 11 #[.int .i64 ((x : Int) + 86400)] w fun e w' => e = .returned (.int .i64 ((k : Int))) ∧ w' = w)
    (A3 : ∀ w, Calls Tryd.prog 12 #[.int .i64 x] w fun e w' => e = .returned (.int .i64 n) ∧ w' = w)
    (A4 : ∀ w, Calls Tryd.prog 12 #[.int .i64 ((x : Int) + 86400)] w fun e w' => e = .returned (.int .i64 ((n : Int))) ∧ w' = w)
    (A5 : ∀ w, Calls Tryd.prog 10 #[.int .i64 ((x : Int) + 86400)] w fun e w' => e = .returned (.int .i64 ((q : Int) + 1)) ∧ w' = w)
    (A6 : ∀ w, Calls Tryd.prog 10 #[.int .i64 x] w fun e w' => e = .returned (.int .i64 q) ∧ w' = w)
    (D1 : Calls Tryd.prog 7 #[.int .i64 x] W fun e w' => e = .returned (.tuple #[.string S, .int .i64 0]) ∧ Below W.heap.size W w')
    (D2 : ∀ w, Below W.heap.size W w → Calls Tryd.prog 7 #[.int .i64 y] w fun e w' => e = .returned (.tuple #[.string T, .int .i64 0]) ∧ Below w.heap.size w w')
    (B1 : ∀ w, Calls Tryd.prog 11 #[.int .i64 y] w fun e w' => e = .returned (.int .i64 k2) ∧ w' = w)
    (B3 : ∀ w, Calls Tryd.prog 12 #[.int .i64 y] w fun e w' => e = .returned (.int .i64 n2) ∧ w' = w)
    (B6 : ∀ w, Calls Tryd.prog 10 #[.int .i64 y] w fun e w' => e = .returned (.int .i64 p) ∧ w' = w)
    (E1 : True)
    (E2 : (S.toList == T.toList) = true)
    (hxy : x ≤ y) (hqp : q = p) (l1 : q ≤ p) (l2 : k ≤ k2) (l3 : n ≤ n2) :
    Calls Tryd.prog 4 #[.int .i64 x, .int .i64 y] W fun e w' => e = .returned (.bool true) ∧ Below W.heap.size W w' := by
  subst hqp
  have g1 : ((k : Int) == (k : Int) + 1) = false := by simp; omega
  have g2 : ((q : Int) % 7 == 3) = false := by simpa using h7
  clear h7
  have HT : Hid (∀ w', Below W.heap.size W w' → PT w') := fun w' h => hL.on h
  go_enter Tryd.func4, Tryd.ntmps4
  go_wp2_with fail
  refine (fit_yes x _ (by omega)).mono ?_
  rintro e w1 ⟨rfl, rfl⟩
  go_wp2_with fail
  refine (fit_yes y _ hy).mono ?_
  rintro e w1 ⟨rfl, rfl⟩
  go_wp2_with fail
  refine (A1 _).mono ?_
  rintro e w1 ⟨rfl, rfl⟩
  go_wp2_with fail
  refine (A2 _).mono ?_
  rintro e w1 ⟨rfl, rfl⟩
  go_wp2_with fail
  refine (A3 _).mono ?_
  rintro e w1 ⟨rfl, rfl⟩
  go_wp2_with fail
  refine (A4 _).mono ?_
  rintro e w1 ⟨rfl, rfl⟩
  go_wp2_with fail
  refine (A5 _).mono ?_
  rintro e w1 ⟨rfl, rfl⟩
  go_wp2_with fail
  refine (A6 _).mono ?_
  rintro e w1 ⟨rfl, rfl⟩
  go_wp2_with fail
  refine (A6 _).mono ?_
  rintro e w1 ⟨rfl, rfl⟩
  go_wp2_with fail
  refine D1.mono ?_
  rintro e v1 ⟨rfl, hv1⟩
  go_wp2_with fail
  refine (D2 _ hv1).mono ?_
  rintro e v2 ⟨rfl, hv2⟩
  go_wp2_with fail
  refine (awake20_any _ (HT.out _ (hv1.trans (hv2.mono hv1.size)))).mono ?_
  rintro e v3 ⟨rfl, hv3⟩
  have HF : Hid (_) := (hv1.trans (hv2.mono hv1.size)).trans (hv3.mono (Nat.le_trans hv1.size hv2.size))
  clear hv1 hv2 hv3
  go_wp2_with fail
  refine (A6 _).mono ?_
  rintro e w1 ⟨rfl, rfl⟩
  go_wp2_with fail
  refine (B6 _).mono ?_
  rintro e w1 ⟨rfl, rfl⟩
  go_wp2_with fail
  refine (A1 _).mono ?_
  rintro e w1 ⟨rfl, rfl⟩
  go_wp2_with fail
  refine (B1 _).mono ?_
  rintro e w1 ⟨rfl, rfl⟩
  go_wp2_with fail
  refine (A3 _).mono ?_
  rintro e w1 ⟨rfl, rfl⟩
  go_wp2_with fail
  refine (B3 _).mono ?_
  rintro e w1 ⟨rfl, rfl⟩
  go_wp2_with fail
  refine (A6 _).mono ?_
  rintro e w1 ⟨rfl, rfl⟩
  go_wp2_with fail
  refine (B6 _).mono ?_
  rintro e w1 ⟨rfl, rfl⟩
  go_wp2
  go_ret
  refine ⟨?_, HF.out⟩
  first
    | rfl
    | (simp [E2]; done)
    | simp_all
set_option maxRecDepth 100000 in
set_option maxHeartbeats 1000000 in
theorem go_main00gt (x y q p k n k2 n2 : Nat) (S T : ByteArray) (W : World) (hL : PT W) (hx : x ≤ 253402214399) (hy : y ≤ 253402300799)
    (hq : q ≤ 3000000) (hk : k ≤ 3000000) (hn : n ≤ 3000000) (h7 : (q : Int) % 7 ≠ 3)
    (A1 : ∀ w, Calls Tryd.prog 11 #[.int .i64 x] w fun e w' => e = .returned (.int .i64 k) ∧ w' = w)
    (A2 : ∀ w, Calls Tryd.prog 11 #[.int .i64 ((x : Int) + 86400)] w fun e w' => e = .returned (.int .i64 ((k : Int))) ∧ w' = w)
    (A3 : ∀ w, Calls Tryd.prog 12 #[.int .i64 x] w fun e w' => e = .returned (.int .i64 n) ∧ w' = w)
    (A4 : ∀ w, Calls Tryd.prog 12 #[.int .i64 ((x : Int) + 86400)] w fun e w' => e = .returned (.int .i64 ((n : Int))) ∧ w' = w)
    (A5 : ∀ w, Calls Tryd.prog 10 #[.int .i64 ((x : Int) + 86400)] w fun e w' => e = .returned (.int .i64 ((q : Int) + 1)) ∧ w' = w)
    (A6 : ∀ w, Calls Tryd.prog 10 #[.int .i64 x] w fun e w' => e = .returned (.int .i64 q) ∧ w' = w)
    (D1 : Calls Tryd.prog 7 #[.int .i64 x] W fun e w' => e = .returned (.tuple #[.string S, .int .i64 0]) ∧ Below W.heap.size W w')
    (D2 : ∀ w, Below W.heap.size W w → Calls Tryd.prog 7 #[.int .i64 y] w fun e w' => e = .returned (.tuple #[.string T, .int .i64 0]) ∧ Below w.heap.size w w')
    (B1 : ∀ w, Calls Tryd.prog 11 #[.int .i64 y] w fun e w' => e = .returned (.int .i64 k2) ∧ w' = w)
    (B3 : ∀ w, Calls Tryd.prog 12 #[.int .i64 y] w fun e w' => e = .returned (.int .i64 n2) ∧ w' = w)
    (B6 : ∀ w, Calls Tryd.prog 10 #[.int .i64 y] w fun e w' => e = .returned (.int .i64 p) ∧ w' = w)
    (E1 : True)
    (E2 : (S.toList == T.toList) = false)
    (hxy : y < x) (hqp : q ≠ p)  :
    Calls Tryd.prog 4 #[.int .i64 x, .int .i64 y] W fun e w' => e = .returned (.bool true) ∧ Below W.heap.size W w' := by
  have hqi : ((q : Int) == (p : Int)) = false := by simp; omega
  have g1 : ((k : Int) == (k : Int) + 1) = false := by simp; omega
  have g2 : ((q : Int) % 7 == 3) = false := by simpa using h7
  clear h7
  have HT : Hid (∀ w', Below W.heap.size W w' → PT w') := fun w' h => hL.on h
  go_enter Tryd.func4, Tryd.ntmps4
  go_wp2_with fail
  refine (fit_yes x _ (by omega)).mono ?_
  rintro e w1 ⟨rfl, rfl⟩
  go_wp2_with fail
  refine (fit_yes y _ hy).mono ?_
  rintro e w1 ⟨rfl, rfl⟩
  go_wp2_with fail
  refine (A1 _).mono ?_
  rintro e w1 ⟨rfl, rfl⟩
  go_wp2_with fail
  refine (A2 _).mono ?_
  rintro e w1 ⟨rfl, rfl⟩
  go_wp2_with fail
  refine (A3 _).mono ?_
  rintro e w1 ⟨rfl, rfl⟩
  go_wp2_with fail
  refine (A4 _).mono ?_
  rintro e w1 ⟨rfl, rfl⟩
  go_wp2_with fail
  refine (A5 _).mono ?_
  rintro e w1 ⟨rfl, rfl⟩
  go_wp2_with fail
  refine (A6 _).mono ?_
  rintro e w1 ⟨rfl, rfl⟩
  go_wp2_with fail
  refine (A6 _).mono ?_
  rintro e w1 ⟨rfl, rfl⟩
  go_wp2_with fail
  refine D1.mono ?_
  rintro e v1 ⟨rfl, hv1⟩
  go_wp2_with fail
  refine (D2 _ hv1).mono ?_
  rintro e v2 ⟨rfl, hv2⟩
  go_wp2_with fail
  refine (awake20_any _ (HT.out _ (hv1.trans (hv2.mono hv1.size)))).mono ?_
  rintro e v3 ⟨rfl, hv3⟩
  have HF : Hid (_) := (hv1.trans (hv2.mono hv1.size)).trans (hv3.mono (Nat.le_trans hv1.size hv2.size))
  clear hv1 hv2 hv3
  go_wp2_with fail
  refine (A6 _).mono ?_
  rintro e w1 ⟨rfl, rfl⟩
  go_wp2_with fail
  refine (B6 _).mono ?_
  rintro e w1 ⟨rfl, rfl⟩
  go_wp2
  go_ret
  refine ⟨?_, HF.out⟩
  first
    | rfl
    | (simp [E2]; done)
    | simp_all
set_option maxRecDepth 100000 in
set_option maxHeartbeats 1000000 in
theorem go_main00ge (x y q p k n k2 n2 : Nat) (S T : ByteArray) (W : World) (hL : PT W) (hx : x ≤ 253402214399) (hy : y ≤ 253402300799)
    (hq : q ≤ 3000000) (hk : k ≤ 3000000) (hn : n ≤ 3000000) (h7 : (q : Int) % 7 ≠ 3)
    (A1 : ∀ w, Calls Tryd.prog 11 #[.int .i64 x] w fun e w' => e = .returned (.int .i64 k) ∧ w' = w)
    (A2 : ∀ w, Calls Tryd.prog 11 #[.int .i64 ((x : Int) + 86400)] w fun e w' => e = .returned (.int .i64 ((k : Int))) ∧ w' = w)
    (A3 : ∀ w, Calls Tryd.prog 12 #[.int .i64 x] w fun e w' => e = .returned (.int .i64 n) ∧ w' = w)
    (A4 : ∀ w, Calls Tryd.prog 12 #[.int .i64 ((x : Int) + 86400)] w fun e w' => e = .returned (.int .i64 ((n : Int))) ∧ w' = w)
    (A5 : ∀ w, Calls Tryd.prog 10 #[.int .i64 ((x : Int) + 86400)] w fun e w' => e = .returned (.int .i64 ((q : Int) + 1)) ∧ w' = w)
    (A6 : ∀ w, Calls Tryd.prog 10 #[.int .i64 x] w fun e w' => e = .returned (.int .i64 q) ∧ w' = w)
    (D1 : Calls Tryd.prog 7 #[.int .i64 x] W fun e w' => e = .returned (.tuple #[.string S, .int .i64 0]) ∧ Below W.heap.size W w')
    (D2 : ∀ w, Below W.heap.size W w → Calls Tryd.prog 7 #[.int .i64 y] w fun e w' => e = .returned (.tuple #[.string T, .int .i64 0]) ∧ Below w.heap.size w w')
    (B1 : ∀ w, Calls Tryd.prog 11 #[.int .i64 y] w fun e w' => e = .returned (.int .i64 k2) ∧ w' = w)
    (B3 : ∀ w, Calls Tryd.prog 12 #[.int .i64 y] w fun e w' => e = .returned (.int .i64 n2) ∧ w' = w)
    (B6 : ∀ w, Calls Tryd.prog 10 #[.int .i64 y] w fun e w' => e = .returned (.int .i64 p) ∧ w' = w)
    (E1 : True)
    (E2 : (S.toList == T.toList) = true)
    (hxy : y < x) (hqp : q = p)  :
    Calls Tryd.prog 4 #[.int .i64 x, .int .i64 y] W fun e w' => e = .returned (.bool true) ∧ Below W.heap.size W w' := by
  subst hqp
  have g1 : ((k : Int) == (k : Int) + 1) = false := by simp; omega
  have g2 : ((q : Int) % 7 == 3) = false := by simpa using h7
  clear h7
  have HT : Hid (∀ w', Below W.heap.size W w' → PT w') := fun w' h => hL.on h
  go_enter Tryd.func4, Tryd.ntmps4
  go_wp2_with fail
  refine (fit_yes x _ (by omega)).mono ?_
  rintro e w1 ⟨rfl, rfl⟩
  go_wp2_with fail
  refine (fit_yes y _ hy).mono ?_
  rintro e w1 ⟨rfl, rfl⟩
  go_wp2_with fail
  refine (A1 _).mono ?_
  rintro e w1 ⟨rfl, rfl⟩
  go_wp2_with fail
  refine (A2 _).mono ?_
  rintro e w1 ⟨rfl, rfl⟩
  go_wp2_with fail
  refine (A3 _).mono ?_
  rintro e w1 ⟨rfl, rfl⟩
  go_wp2_with fail
  refine (A4 _).mono ?_
  rintro e w1 ⟨rfl, rfl⟩
  go_wp2_with fail
  refine (A5 _).mono ?_
  rintro e w1 ⟨rfl, rfl⟩
  go_wp2_with fail
  refine (A6 _).mono ?_
  rintro e w1 ⟨rfl, rfl⟩
  go_wp2_with fail
  refine (A6 _).mono ?_
  rintro e w1 ⟨rfl, rfl⟩
  go_wp2_with fail
  refine D1.mono ?_
  rintro e v1 ⟨rfl, hv1⟩
  go_wp2_with fail
  refine (D2 _ hv1).mono ?_
  rintro e v2 ⟨rfl, hv2⟩
  go_wp2_with fail
  refine (awake20_any _ (HT.out _ (hv1.trans (hv2.mono hv1.size)))).mono ?_
  rintro e v3 ⟨rfl, hv3⟩
  have HF : Hid (_) := (hv1.trans (hv2.mono hv1.size)).trans (hv3.mono (Nat.le_trans hv1.size hv2.size))
  clear hv1 hv2 hv3
  go_wp2_with fail
  refine (A6 _).mono ?_
  rintro e w1 ⟨rfl, rfl⟩
  go_wp2_with fail
  refine (B6 _).mono ?_
  rintro e w1 ⟨rfl, rfl⟩
  go_wp2
  go_ret
  refine ⟨?_, HF.out⟩
  first
    | rfl
    | (simp [E2]; done)
    | simp_all
set_option maxRecDepth 100000 in
set_option maxHeartbeats 1000000 in
theorem go_main01lt (x y q p k n k2 n2 : Nat) (S T : ByteArray) (W : World) (hL : PT W) (hx : x ≤ 253402214399) (hy : y ≤ 253402300799)
    (hq : q ≤ 3000000) (hk : k ≤ 3000000) (hn : n ≤ 3000000) (h7 : (q : Int) % 7 ≠ 3)
    (A1 : ∀ w, Calls Tryd.prog 11 #[.int .i64 x] w fun e w' => e = .returned (.int .i64 k) ∧ w' = w)
    (A2 : ∀ w, Calls Tryd.prog 11 #[.int .i64 ((x : Int) + 86400)] w fun e w' => e = .returned (.int .i64 ((k : Int))) ∧ w' = w)
    (A3 : ∀ w, Calls Tryd.prog 12 #[.int .i64 x] w fun e w' => e = .returned (.int .i64 n) ∧ w' = w)
    (A4 : ∀ w, Calls Tryd.prog 12 #[.int .i64 ((x : Int) + 86400)] w fun e w' => e = .returned (.int .i64 ((n : Int) + 1)) ∧ w' = w)
    (A5 : ∀ w, Calls Tryd.prog 10 #[.int .i64 ((x : Int) + 86400)] w fun e w' => e = .returned (.int .i64 ((q : Int) + 1)) ∧ w' = w)
    (A6 : ∀ w, Calls Tryd.prog 10 #[.int .i64 x] w fun e w' => e = .returned (.int .i64 q) ∧ w' = w)
    (D1 : Calls Tryd.prog 7 #[.int .i64 x] W fun e w' => e = .returned (.tuple #[.string S, .int .i64 0]) ∧ Below W.heap.size W w')
    (D2 : ∀ w, Below W.heap.size W w → Calls Tryd.prog 7 #[.int .i64 y] w fun e w' => e = .returned (.tuple #[.string T, .int .i64 0]) ∧ Below w.heap.size w w')
    (B1 : ∀ w, Calls Tryd.prog 11 #[.int .i64 y] w fun e w' => e = .returned (.int .i64 k2) ∧ w' = w)
    (B3 : ∀ w, Calls Tryd.prog 12 #[.int .i64 y] w fun e w' => e = .returned (.int .i64 n2) ∧ w' = w)
    (B6 : ∀ w, Calls Tryd.prog 10 #[.int .i64 y] w fun e w' => e = .returned (.int .i64 p) ∧ w' = w)
    (E1 : Op.bytesLess S.toList T.toList = true)
    (E2 : (S.toList == T.toList) = false)
    (hxy : x ≤ y) (hqp : q ≠ p) (l1 : q ≤ p) (l2 : k ≤ k2) (l3 : n ≤ n2) :
    Calls Tryd.prog 4 #[.int .i64 x, .int .i64 y] W fun e w' => e = .returned (.bool true) ∧ Below W.heap.size W w' := by
  have hqi : ((q : Int) == (p : Int)) = false := by simp; omega
  have g1 : ((k : Int) == (k : Int) + 1) = false := by simp; omega
  have g2 : ((q : Int) % 7 == 3) = false := by simpa using h7
  clear h7
  have HT : Hid (∀ w', Below W.heap.size W w' → PT w') := fun w' h => hL.on h
  go_enter Tryd.func4, Tryd.ntmps4
  go_wp2_with fail
  refine (fit_yes x _ (by omega)).mono ?_
  rintro e w1 ⟨rfl, rfl⟩
  go_wp2_with fail
  refine (fit_yes y _ hy).mono ?_
  rintro e w1 ⟨rfl, rfl⟩
  go_wp2_with fail
  refine (A1 _).mono ?_
  rintro e w1 ⟨rfl, rfl⟩
  go_wp2_with fail
  refine (A2 _).mono ?_
  rintro e w1 ⟨rfl, rfl⟩
  go_wp2_with fail
  refine (A3 _).mono ?_
  rintro e w1 ⟨rfl, rfl⟩
  go_wp2_with fail
  refine (A4 _).mono ?_
  rintro e w1 ⟨rfl, rfl⟩
  go_wp2_with fail
  refine (A5 _).mono ?_
  rintro e w1 ⟨rfl, rfl⟩
  go_wp2_with fail
  refine (A6 _).mono ?_
  rintro e w1 ⟨rfl, rfl⟩
  go_wp2_with fail
  refine (A6 _).mono ?_
  rintro e w1 ⟨rfl, rfl⟩
  go_wp2_with fail
  refine D1.mono ?_
  rintro e v1 ⟨rfl, hv1⟩
  go_wp2_with fail
  refine (D2 _ hv1).mono ?_
  rintro e v2 ⟨rfl, hv2⟩
  go_wp2_with fail
  refine (awake20_any _ (HT.out _ (hv1.trans (hv2.mono hv1.size)))).mono ?_
  rintro e v3 ⟨rfl, hv3⟩
  have HF : Hid (_) := (hv1.trans (hv2.mono hv1.size)).trans (hv3.mono (Nat.le_trans hv1.size hv2.size))
  clear hv1 hv2 hv3
  go_wp2_with fail
  refine (A6 _).mono ?_
  rintro e w1 ⟨rfl, rfl⟩
  go_wp2_with fail
  refine (B6 _).mono ?_
  rintro e w1 ⟨rfl, rfl⟩
  go_wp2_with fail
  refine (A1 _).mono ?_
  rintro e w1 ⟨rfl, rfl⟩
  go_wp2_with fail
  refine (B1 _).mono ?_
  rintro e w1 ⟨rfl, rfl⟩
  go_wp2_with fail
  refine (A3 _).mono ?_
  rintro e w1 ⟨rfl, rfl⟩
  go_wp2_with fail
  refine (B3 _).mono ?_
  rintro e w1 ⟨rfl, rfl⟩
  go_wp2_with fail
  refine (A6 _).mono ?_
  rintro e w1 ⟨rfl, rfl⟩
  go_wp2_with fail
  refine (B6 _).mono ?_
  rintro e w1 ⟨rfl, rfl⟩
  go_wp2
  go_ret
  refine ⟨?_, HF.out⟩
  first
    | rfl
    | (simp [E2]; done)
    | simp_all
set_option maxRecDepth 100000 in
set_option maxHeartbeats 1000000 in
theorem go_main01eq (x y q p k n k2 n2 : Nat) (S T : ByteArray) (W : World) (hL : PT W) (hx : x ≤ 253402214399) (hy : y ≤ 253402300799)
    (hq : q ≤ 3000000) (hk : k ≤ 3000000) (hn : n ≤ 3000000) (h7 : (q : Int) % 7 ≠ 3)
    (A1 : ∀ w, Calls Tryd.prog 11 #[.int .i64 x] w fun e w' => e = .returned (.int .i64 k) ∧ w' = w)
    (A2 : ∀ w, Calls Tryd.prog 11 #[.int .i64 ((x : Int) + 86400)] w fun e w' => e = .returned (.int .i64 ((k : Int))) ∧ w' = w)
    (A3 : ∀ w, Calls Tryd.prog 12 #[.int .i64 x] w fun e w' => e = .returned (.int .i64 n) ∧ w' = w)
    (A4 : ∀ w, Calls Tryd.prog 12 #[.int .i64 ((x : Int) + 86400)] w fun e w' => e = .returned (.int .i64 ((n : Int) + 1)) ∧ w' = w)
    (A5 : ∀ w, Calls Tryd.prog 10 #[.int .i64 ((x : Int) + 86400)] w fun e w' => e = .returned (.int .i64 ((q : Int) + 1)) ∧ w' = w)
    (A6 : ∀ w, Calls Tryd.prog 10 #[.int .i64 x] w fun e w' => e = .returned (.int .i64 q) ∧ w' = w)
    (D1 : Calls Tryd.prog 7 #[.int .i64 x] W fun e w' => e = .returned (.tuple #[.string S, .int .i64 0]) ∧ Below W.heap.size W w')
    (D2 : ∀ w, Below W.heap.size W w → Calls Tryd.prog 7 #[.int .i64 y] w fun e w' => e = .returned (.tuple #[.string T, .int .i64 0]) ∧ Below w.heap.size w w')
    (B1 : ∀ w, Calls Tryd.prog 11 #[.int .i64 y] w fun e w' => e = .returned (.int .i64 k2) ∧ w' = w)
    (B3 : ∀ w, Calls Tryd.prog 12 #[.int .i64 y] w fun e w' => e = .returned (.int .i64 n2) ∧ w' = w)
    (B6 : ∀ w, Calls Tryd.prog 10 #[.int .i64 y] w fun e w' => e = .returned (.int .i64 p) ∧ w' = w)
    (E1 : True)
    (E2 : (S.toList == T.toList) = true)
    (hxy : x ≤ y) (hqp : q = p) (l1 : q ≤ p) (l2 : k ≤ k2) (l3 : n ≤ n2) :
    Calls Tryd.prog 4 #[.int .i64 x, .int .i64 y] W fun e w' => e = .returned (.bool true) ∧ Below W.heap.size W w' := by
  subst hqp
  have g1 : ((k : Int) == (k : Int) + 1) = false := by simp; omega
  have g2 : ((q : Int) % 7 == 3) = false := by simpa using h7
  clear h7
  have HT : Hid (∀ w', Below W.heap.size W w' → PT w') := fun w' h => hL.on h
  go_enter Tryd.func4, Tryd.ntmps4
  go_wp2_with fail
  refine (fit_yes x _ (by omega)).mono ?_
  rintro e w1 ⟨rfl, rfl⟩
  go_wp2_with fail
  refine (fit_yes y _ hy).mono ?_
  rintro e w1 ⟨rfl, rfl⟩
  go_wp2_with fail
  refine (A1 _).mono ?_
  rintro e w1 ⟨rfl, rfl⟩
  go_wp2_with fail
  refine (A2 _).mono ?_
  rintro e w1 ⟨rfl, rfl⟩
  go_wp2_with fail
  refine (A3 _).mono ?_
  rintro e w1 ⟨rfl, rfl⟩
  go_wp2_with fail
  refine (A4 _).mono ?_
  rintro e w1 ⟨rfl, rfl⟩
  go_wp2_with fail
  refine (A5 _).mono ?_
  rintro e w1 ⟨rfl, rfl⟩
  go_wp2_with fail
  refine (A6 _).mono ?_
  rintro e w1 ⟨rfl, rfl⟩
  go_wp2_with fail
  refine (A6 _).mono ?_
  rintro e w1 ⟨rfl, rfl⟩
  go_wp2_with fail
  refine D1.mono ?_
  rintro e v1 ⟨rfl, hv1⟩
  go_wp2_with fail
  refine (D2 _ hv1).mono ?_
  rintro e v2 ⟨rfl, hv2⟩
  go_wp2_with fail
  refine (awake20_any _ (HT.out _ (hv1.trans (hv2.mono hv1.size)))).mono ?_
  rintro e v3 ⟨rfl, hv3⟩
  have HF : Hid (_) := (hv1.trans (hv2.mono hv1.size)).trans (hv3.mono (Nat.le_trans hv1.size hv2.size))
  clear hv1 hv2 hv3
  go_wp2_with fail
  refine (A6 _).mono ?_
  rintro e w1 ⟨rfl, rfl⟩
  go_wp2_with fail
  refine (B6 _).mono ?_
  rintro e w1 ⟨rfl, rfl⟩
  go_wp2_with fail
  refine (A1 _).mono ?_
  rintro e w1 ⟨rfl, rfl⟩
  go_wp2_with fail
  refine (B1 _).mono ?_
  rintro e w1 ⟨rfl, rfl⟩
  go_wp2_with fail
  refine (A3 _).mono ?_
  rintro e w1 ⟨rfl, rfl⟩
  go_wp2_with fail
  refine (B3 _).mono ?_
  rintro e w1 ⟨rfl, rfl⟩
  go_wp2_with fail
  refine (A6 _).mono ?_
  rintro e w1 ⟨rfl, rfl⟩
  go_wp2_with fail
  refine (B6 _).mono ?_
  rintro e w1 ⟨rfl, rfl⟩
  go_wp2
  go_ret
  refine ⟨?_, HF.out⟩
  first
    | rfl
    | (simp [E2]; done)
    | simp_all
set_option maxRecDepth 100000 in
set_option maxHeartbeats 1000000 in
theorem go_main01gt (x y q p k n k2 n2 : Nat) (S T : ByteArray) (W : World) (hL : PT W) (hx : x ≤ 253402214399) (hy : y ≤ 253402300799)
    (hq : q ≤ 3000000) (hk : k ≤ 3000000) (hn : n ≤ 3000000) (h7 : (q : Int) % 7 ≠ 3)
    (A1 : ∀ w, Calls Tryd.prog 11 #[.int .i64 x] w fun e w' => e = .returned (.int .i64 k) ∧ w' = w)
    (A2 : ∀ w, Calls Tryd.prog 11 #[.int .i64 ((x : Int) + 86400)] w fun e w' => e = .returned (.int .i64 ((k : Int))) ∧ w' = w)
    (A3 : ∀ w, Calls Tryd.prog 12 #[.int .i64 x] w fun e w' => e = .returned (.int .i64 n) ∧ w' = w)
    (A4 : ∀ w, Calls Tryd.prog 12 #[.int .i64 ((x : Int) + 86400)] w fun e w' => e = .returned (.int .i64 ((n : Int) + 1)) ∧ w' = w)
    (A5 : ∀ w, Calls Tryd.prog 10 #[.int .i64 ((x : Int) + 86400)] w fun e w' => e = .returned (.int .i64 ((q : Int) + 1)) ∧ w' = w)
    (A6 : ∀ w, Calls Tryd.prog 10 #[.int .i64 x] w fun e w' => e = .returned (.int .i64 q) ∧ w' = w)
    (D1 : Calls Tryd.prog 7 #[.int .i64 x] W fun e w' => e = .returned (.tuple #[.string S, .int .i64 0]) ∧ Below W.heap.size W w')
    (D2 : ∀ w, Below W.heap.size W w → Calls Tryd.prog 7 #[.int .i64 y] w fun e w' => e = .returned (.tuple #[.string T, .int .i64 0]) ∧ Below w.heap.size w w')
    (B1 : ∀ w, Calls Tryd.prog 11 #[.int .i64 y] w fun e w' => e = .returned (.int .i64 k2) ∧ w' = w)
    (B3 : ∀ w, Calls Tryd.prog 12 #[.int .i64 y] w fun e w' => e = .returned (.int .i64 n2) ∧ w' = w)
    (B6 : ∀ w, Calls Tryd.prog 10 #[.int .i64 y] w fun e w' => e = .returned (.int .i64 p) ∧ w' = w)
    (E1 : True)
    (E2 : (S.toList == T.toList) = false)
    (hxy : y < x) (hqp : q ≠ p)  :
    Calls Tryd.prog 4 #[.int .i64 x, .int .i64 y] W fun e w' => e = .returned (.bool true) ∧ Below W.heap.size W w' := by
  have hqi : ((q : Int) == (p : Int)) = false := by simp; omega
  have g1 : ((k : Int) == (k : Int) + 1) = false := by simp; omega
  have g2 : ((q : Int) % 7 == 3) = false := by simpa using h7
  clear h7
  have HT : Hid (∀ w', Below W.heap.size W w' → PT w') := fun w' h => hL.on h
  go_enter Tryd.func4, Tryd.ntmps4
  go_wp2_with fail
  refine (fit_yes x _ (by omega)).mono ?_
  rintro e w1 ⟨rfl, rfl⟩
  go_wp2_with fail
  refine (fit_yes y _ hy).mono ?_
  rintro e w1 ⟨rfl, rfl⟩
  go_wp2_with fail
  refine (A1 _).mono ?_
  rintro e w1 ⟨rfl, rfl⟩
  go_wp2_with fail
  refine (A2 _).mono ?_
  rintro e w1 ⟨rfl, rfl⟩
  go_wp2_with fail
  refine (A3 _).mono ?_
  rintro e w1 ⟨rfl, rfl⟩
  go_wp2_with fail
  refine (A4 _).mono ?_
  rintro e w1 ⟨rfl, rfl⟩
  go_wp2_with fail
  refine (A5 _).mono ?_
  rintro e w1 ⟨rfl, rfl⟩
  go_wp2_with fail
  refine (A6 _).mono ?_
  rintro e w1 ⟨rfl, rfl⟩
  go_wp2_with fail
  refine (A6 _).mono ?_
  rintro e w1 ⟨rfl, rfl⟩
  go_wp2_with fail
  refine D1.mono ?_
  rintro e v1 ⟨rfl, hv1⟩
  go_wp2_with fail
  refine (D2 _ hv1).mono ?_
  rintro e v2 ⟨rfl, hv2⟩
  go_wp2_with fail
  refine (awake20_any _ (HT.out _ (hv1.trans (hv2.mono hv1.size)))).mono ?_
  rintro e v3 ⟨rfl, hv3⟩
  have HF : Hid (_) := (hv1.trans (hv2.mono hv1.size)).trans (hv3.mono (Nat.le_trans hv1.size hv2.size))
  clear hv1 hv2 hv3
  go_wp2_with fail
  refine (A6 _).mono ?_
  rintro e w1 ⟨rfl, rfl⟩
  go_wp2_with fail
  refine (B6 _).mono ?_
  rintro e w1 ⟨rfl, rfl⟩
  go_wp2
  go_ret
  refine ⟨?_, HF.out⟩
  first
    | rfl
    | (simp [E2]; done)
    | simp_all
set_option maxRecDepth 100000 in
set_option maxHeartbeats 1000000 in
theorem go_main01ge (x y q p k n k2 n2 : Nat) (S T : ByteArray) (W : World) (hL : PT W) (hx : x ≤ 253402214399) (hy : y ≤ 253402300799)
    (hq : q ≤ 3000000) (hk : k ≤ 3000000) (hn : n ≤ 3000000) (h7 : (q : Int) % 7 ≠ 3)
    (A1 : ∀ w, Calls Tryd.prog 11 #[.int .i64 x] w fun e w' => e = .returned (.int .i64 k) ∧ w' = w)
    (A2 : ∀ w, Calls Tryd.prog 11 #[.int .i64 ((x : Int) + 86400)] w fun e w' => e = .returned (.int .i64 ((k : Int))) ∧ w' = w)
    (A3 : ∀ w, Calls Tryd.prog 12 #[.int .i64 x] w fun e w' => e = .returned (.int .i64 n) ∧ w' = w)
    (A4 : ∀ w, Calls Tryd.prog 12 #[.int .i64 ((x : Int) + 86400)] w fun e w' => e = .returned (.int .i64 ((n : Int) + 1)) ∧ w' = w)
    (A5 : ∀ w, Calls Tryd.prog 10 #[.int .i64 ((x : Int) + 86400)] w fun e w' => e = .returned (.int .i64 ((q : Int) + 1)) ∧ w' = w)
    (A6 : ∀ w, Calls Tryd.prog 10 #[.int .i64 x] w fun e w' => e = .returned (.int .i64 q) ∧ w' = w)
    (D1 : Calls Tryd.prog 7 #[.int .i64 x] W fun e w' => e = .returned (.tuple #[.string S, .int .i64 0]) ∧ Below W.heap.size W w')
    (D2 : ∀ w, Below W.heap.size W w → Calls Tryd.prog 7 #[.int .i64 y] w fun e w' => e = .returned (.tuple #[.string T, .int .i64 0]) ∧ Below w.heap.size w w')
    (B1 : ∀ w, Calls Tryd.prog 11 #[.int .i64 y] w fun e w' => e = .returned (.int .i64 k2) ∧ w' = w)
    (B3 : ∀ w, Calls Tryd.prog 12 #[.int .i64 y] w fun e w' => e = .returned (.int .i64 n2) ∧ w' = w)
    (B6 : ∀ w, Calls Tryd.prog 10 #[.int .i64 y] w fun e w' => e = .returned (.int .i64 p) ∧ w' = w)
    (E1 : True)
    (E2 : (S.toList == T.toList) = true)
    (hxy : y < x) (hqp : q = p)  :
    Calls Tryd.prog 4 #[.int .i64 x, .int .i64 y] W fun e w' => e = .returned (.bool true) ∧ Below W.heap.size W w' := by
  subst hqp
  have g1 : ((k : Int) == (k : Int) + 1) = false := by simp; omega
  have g2 : ((q : Int) % 7 == 3) = false := by simpa using h7
  clear h7
  have HT : Hid (∀ w', Below W.heap.size W w' → PT w') := fun w' h => hL.on h
  go_enter Tryd.func4, Tryd.ntmps4
  go_wp2_with fail
  refine (fit_yes x _ (by omega)).mono ?_
  rintro e w1 ⟨rfl, rfl⟩
  go_wp2_with fail
  refine (fit_yes y _ hy).mono ?_
  rintro e w1 ⟨rfl, rfl⟩
  go_wp2_with fail
  refine (A1 _).mono ?_
  rintro e w1 ⟨rfl, rfl⟩
  go_wp2_with fail
  refine (A2 _).mono ?_
  rintro e w1 ⟨rfl, rfl⟩
  go_wp2_with fail
  refine (A3 _).mono ?_
  rintro e w1 ⟨rfl, rfl⟩
  go_wp2_with fail
  refine (A4 _).mono ?_
  rintro e w1 ⟨rfl, rfl⟩
  go_wp2_with fail
  refine (A5 _).mono ?_
  rintro e w1 ⟨rfl, rfl⟩
  go_wp2_with fail
  refine (A6 _).mono ?_
  rintro e w1 ⟨rfl, rfl⟩
  go_wp2_with fail
  refine (A6 _).mono ?_
  rintro e w1 ⟨rfl, rfl⟩
  go_wp2_with fail
  refine D1.mono ?_
  rintro e v1 ⟨rfl, hv1⟩
  go_wp2_with fail
  refine (D2 _ hv1).mono ?_
  rintro e v2 ⟨rfl, hv2⟩
  go_wp2_with fail
  refine (awake20_any _ (HT.out _ (hv1.trans (hv2.mono hv1.size)))).mono ?_
  rintro e v3 ⟨rfl, hv3⟩
  have HF : Hid (_) := (hv1.trans (hv2.mono hv1.size)).trans (hv3.mono (Nat.le_trans hv1.size hv2.size))
  clear hv1 hv2 hv3
  go_wp2_with fail
  refine (A6 _).mono ?_
  rintro e w1 ⟨rfl, rfl⟩
  go_wp2_with fail
  refine (B6 _).mono ?_
  rintro e w1 ⟨rfl, rfl⟩
  go_wp2
  go_ret
  refine ⟨?_, HF.out⟩
  first
    | rfl
    | (simp [E2]; done)
    | simp_all
set_option maxRecDepth 100000 in
set_option maxHeartbeats 1000000 in
theorem go_main10lt (x y q p k n k2 n2 : Nat) (S T : ByteArray) (W : World) (hL : PT W) (hx : x ≤ 253402214399) (hy : y ≤ 253402300799)
    (hq : q ≤ 3000000) (hk : k ≤ 3000000) (hn : n ≤ 3000000) (h7 : (q : Int) % 7 = 3)
    (A1 : ∀ w, Calls Tryd.prog 11 #[.int .i64 x] w fun e w' => e = .returned (.int .i64 k) ∧ w' = w)
    (A2 : ∀ w, Calls Tryd.prog 11 #[.int .i64 ((x : Int) + 86400)] w fun e w' => e = .returned (.int .i64 ((k : Int) + 1)) ∧ w' = w)
    (A3 : ∀ w, Calls Tryd.prog 12 #[.int .i64 x] w fun e w' => e = .returned (.int .i64 n) ∧ w' = w)
    (A4 : ∀ w, Calls Tryd.prog 12 #[.int .i64 ((x : Int) + 86400)] w fun e w' => e = .returned (.int .i64 ((n : Int))) ∧ w' = w)
    (A5 : ∀ w, Calls Tryd.prog 10 #[.int .i64 ((x : Int) + 86400)] w fun e w' => e = .returned (.int .i64 ((q : Int) + 1)) ∧ w' = w)
    (A6 : ∀ w, Calls Tryd.prog 10 #[.int .i64 x] w fun e w' => e = .returned (.int .i64 q) ∧ w' = w)
    (D1 : Calls Tryd.prog 7 #[.int .i64 x] W fun e w' => e = .returned (.tuple #[.string S, .int .i64 0]) ∧ Below W.heap.size W w')
    (D2 : ∀ w, Below W.heap.size W w → Calls Tryd.prog 7 #[.int .i64 y] w fun e w' => e = .returned (.tuple #[.string T, .int .i64 0]) ∧ Below w.heap.size w w')
    (B1 : ∀ w, Calls Tryd.prog 11 #[.int .i64 y] w fun e w' => e = .returned (.int .i64 k2) ∧ w' = w)
    (B3 : ∀ w, Calls Tryd.prog 12 #[.int .i64 y] w fun e w' => e = .returned (.int .i64 n2) ∧ w' = w)
    (B6 : ∀ w, Calls Tryd.prog 10 #[.int .i64 y] w fun e w' => e = .returned (.int .i64 p) ∧ w' = w)
    (E1 : Op.bytesLess S.toList T.toList = true)
    (E2 : (S.toList == T.toList) = false)
    (hxy : x ≤ y) (hqp : q ≠ p) (l1 : q ≤ p) (l2 : k ≤ k2) (l3 : n ≤ n2) :
    Calls Tryd.prog 4 #[.int .i64 x, .int .i64 y] W fun e w' => e = .returned (.bool true) ∧ Below W.heap.size W w' := by
  have hqi : ((q : Int) == (p : Int)) = false := by simp; omega
  have g1 : ((k : Int) == (k : Int) + 1) = false := by simp; omega
  have g2 : ((q : Int) % 7 == 3) = true := by simpa using h7
  clear h7
  have HT : Hid (∀ w', Below W.heap.size W w' → PT w') := fun w' h => hL.on h
  go_enter Tryd.func4, Tryd.ntmps4
  go_wp2_with fail
  refine (fit_yes x _ (by omega)).mono ?_
  rintro e w1 ⟨rfl, rfl⟩
  go_wp2_with fail
  refine (fit_yes y _ hy).mono ?_
  rintro e w1 ⟨rfl, rfl⟩
  go_wp2_with fail
  refine (A1 _).mono ?_
  rintro e w1 ⟨rfl, rfl⟩
  go_wp2_with fail
  refine (A2 _).mono ?_
  rintro e w1 ⟨rfl, rfl⟩
  go_wp2_with fail
  refine (A3 _).mono ?_
  rintro e w1 ⟨rfl, rfl⟩
  go_wp2_with fail
  refine (A4 _).mono ?_
  rintro e w1 ⟨rfl, rfl⟩
  go_wp2_with fail
  refine (A5 _).mono ?_
  rintro e w1 ⟨rfl, rfl⟩
  go_wp2_with fail
  refine (A6 _).mono ?_
  rintro e w1 ⟨rfl, rfl⟩
  go_wp2_with fail
  refine (A6 _).mono ?_
  rintro e w1 ⟨rfl, rfl⟩
  go_wp2_with fail
  refine D1.mono ?_
  rintro e v1 ⟨rfl, hv1⟩
  go_wp2_with fail
  refine (D2 _ hv1).mono ?_
  rintro e v2 ⟨rfl, hv2⟩
  go_wp2_with fail
  refine (awake20_any _ (HT.out _ (hv1.trans (hv2.mono hv1.size)))).mono ?_
  rintro e v3 ⟨rfl, hv3⟩
  have HF : Hid (_) := (hv1.trans (hv2.mono hv1.size)).trans (hv3.mono (Nat.le_trans hv1.size hv2.size))
  clear hv1 hv2 hv3
  go_wp2_with fail
  refine (A6 _).mono ?_
  rintro e w1 ⟨rfl, rfl⟩
  go_wp2_with fail
  refine (B6 _).mono ?_
  rintro e w1 ⟨rfl, rfl⟩
  go_wp2_with fail
  refine (A1 _).mono ?_
  rintro e w1 ⟨rfl, rfl⟩
  go_wp2_with fail
  refine (B1 _).mono ?_
  rintro e w1 ⟨rfl, rfl⟩
  go_wp2_with fail
  refine (A3 _).mono ?_
  rintro e w1 ⟨rfl, rfl⟩
  go_wp2_with fail
  refine (B3 _).mono ?_
  rintro e w1 ⟨rfl, rfl⟩
  go_wp2_with fail
  refine (A6 _).mono ?_
  rintro e w1 ⟨rfl, rfl⟩
  go_wp2_with fail
  refine (B6 _).mono ?_
  rintro e w1 ⟨rfl, rfl⟩
  go_wp2
  go_ret
  refine ⟨?_, HF.out⟩
  first
    | rfl
    | (simp [E2]; done)
    | simp_all
set_option maxRecDepth 100000 in
set_option maxHeartbeats 1000000 in
theorem go_main10eq (x y q p k n k2 n2 : Nat) (S T : ByteArray) (W : World) (hL : PT W) (hx : x ≤ 253402214399) (hy : y ≤ 253402300799)
    (hq : q ≤ 3000000) (hk : k ≤ 3000000) (hn : n ≤ 3000000) (h7 : (q : Int) % 7 = 3)
    (A1 : ∀ w, Calls Tryd.prog 11 #[.int .i64 x] w fun e w' => e = .returned (.int .i64 k) ∧ w' = w)
    (A2 : ∀ w, Calls Tryd.prog 11 #[.int .i64 ((x : Int) + 86400)] w fun e w' => e = .returned (.int .i64 ((k : Int) + 1)) ∧ w' = w)
    (A3 : ∀ w, Calls Tryd.prog 12 #[.int .i64 x] w fun e w' => e = .returned (.int .i64 n) ∧ w' = w)
    (A4 : ∀ w, Calls Tryd.prog 12 #[.int .i64 ((x : Int) + 86400)] w fun e w' => e = .returned (.int .i64 ((n : Int))) ∧ w' = w)
    (A5 : ∀ w, Calls Tryd.prog 10 #[.int .i64 ((x : Int) + 86400)] w fun e w' => e = .returned (.int .i64 ((q : Int) + 1)) ∧ w' = w)
    (A6 : ∀ w, Calls Tryd.prog 10 #[.int .i64 x] w fun e w' => e = .returned (.int .i64 q) ∧ w' = w)
    (D1 : Calls Tryd.prog 7 #[.int .i64 x] W fun e w' => e = .returned (.tuple #[.string S, .int .i64 0]) ∧ Below W.heap.size W w')
    (D2 : ∀ w, Below W.heap.size W w → Calls Tryd.prog 7 #[.int .i64 y] w fun e w' => e = .returned (.tuple #[.string T, .int .i64 0]) ∧ Below w.heap.size w w')
    (B1 : ∀ w, Calls Tryd.prog 11 #[.int .i64 y] w fun e w' => e = .returned (.int .i64 k2) ∧ w' = w)
    (B3 : ∀ w, Calls Tryd.prog 12 #[.int .i64 y] w fun e w' => e = .returned (.int .i64 n2) ∧ w' = w)
    (B6 : ∀ w, Calls Tryd.prog 10 #[.int .i64 y] w fun e w' => e = .returned (.int .i64 p) ∧ w' = w)
    (E1 : True)
    (E2 : (S.toList == T.toList) = true)
    (hxy : x ≤ y) (hqp : q = p) (l1 : q ≤ p) (l2 : k ≤ k2) (l3 : n ≤ n2) :
    Calls Tryd.prog 4 #[.int .i64 x, .int .i64 y] W fun e w' => e = .returned (.bool true) ∧ Below W.heap.size W w' := by
  subst hqp
  have g1 : ((k : Int) == (k : Int) + 1) = false := by simp; omega
  have g2 : ((q : Int) % 7 == 3) = true := by simpa using h7
  clear h7
  have HT : Hid (∀ w', Below W.heap.size W w' → PT w') := fun w' h => hL.on h
  go_enter Tryd.func4, Tryd.ntmps4
  go_wp2_with fail
  refine (fit_yes x _ (by omega)).mono ?_
  rintro e w1 ⟨rfl, rfl⟩
  go_wp2_with fail
  refine (fit_yes y _ hy).mono ?_
  rintro e w1 ⟨rfl, rfl⟩
  go_wp2_with fail
  refine (A1 _).mono ?_
  rintro e w1 ⟨rfl, rfl⟩
  go_wp2_with fail
  refine (A2 _).mono ?_
  rintro e w1 ⟨rfl, rfl⟩
  go_wp2_with fail
  refine (A3 _).mono ?_
  rintro e w1 ⟨rfl, rfl⟩
  go_wp2_with fail
  refine (A4 _).mono ?_
  rintro e w1 ⟨rfl, rfl⟩
  go_wp2_with fail
  refine (A5 _).mono ?_
  rintro e w1 ⟨rfl, rfl⟩
  go_wp2_with fail
  refine (A6 _).mono ?_
  rintro e w1 ⟨rfl, rfl⟩
  go_wp2_with fail
  refine (A6 _).mono ?_
  rintro e w1 ⟨rfl, rfl⟩
  go_wp2_with fail
  refine D1.mono ?_
  rintro e v1 ⟨rfl, hv1⟩
  go_wp2_with fail
  refine (D2 _ hv1).mono ?_
  rintro e v2 ⟨rfl, hv2⟩
  go_wp2_with fail
  refine (awake20_any _ (HT.out _ (hv1.trans (hv2.mono hv1.size)))).mono ?_
  rintro e v3 ⟨rfl, hv3⟩
  have HF : Hid (_) := (hv1.trans (hv2.mono hv1.size)).trans (hv3.mono (Nat.le_trans hv1.size hv2.size))
  clear hv1 hv2 hv3
  go_wp2_with fail
  refine (A6 _).mono ?_
  rintro e w1 ⟨rfl, rfl⟩
  go_wp2_with fail
  refine (B6 _).mono ?_
  rintro e w1 ⟨rfl, rfl⟩
  go_wp2_with fail
  refine (A1 _).mono ?_
  rintro e w1 ⟨rfl, rfl⟩
  go_wp2_with fail
  refine (B1 _).mono ?_
  rintro e w1 ⟨rfl, rfl⟩
  go_wp2_with fail
  refine (A3 _).mono ?_
  rintro e w1 ⟨rfl, rfl⟩
  go_wp2_with fail
  refine (B3 _).mono ?_
  rintro e w1 ⟨rfl, rfl⟩
  go_wp2_with fail
  refine (A6 _).mono ?_
  rintro e w1 ⟨rfl, rfl⟩
  go_wp2_with fail
  refine (B6 _).mono ?_
  rintro e w1 ⟨rfl, rfl⟩
  go_wp2
  go_ret
  refine ⟨?_, HF.out⟩
  first
    | rfl
    | (simp [E2]; done)
    | simp_all
set_option maxRecDepth 100000 in
set_option maxHeartbeats 1000000 in
theorem go_main10gt (x y q p k n k2 n2 : Nat) (S T : ByteArray) (W : World) (hL : PT W) (hx : x ≤ 253402214399) (hy : y ≤ 253402300799)
    (hq : q ≤ 3000000) (hk : k ≤ 3000000) (hn : n ≤ 3000000) (h7 : (q : Int) % 7 = 3)
    (A1 : ∀ w, Calls Tryd.prog 11 #[.int .i64 x] w fun e w' => e = .returned (.int .i64 k) ∧ w' = w)
    (A2 : ∀ w, Calls Tryd.prog 11 #[.int .i64 ((x : Int) + 86400)] w fun e w' => e = .returned (.int .i64 ((k : Int) + 1)) ∧ w' = w)
    (A3 : ∀ w, Calls Tryd.prog 12 #[.int .i64 x] w fun e w' => e = .returned (.int .i64 n) ∧ w' = w)
    (A4 : ∀ w, Calls Tryd.prog 12 #[.int .i64 ((x : Int) + 86400)] w fun e w' => e = .returned (.int .i64 ((n : Int))) ∧ w' = w)
    (A5 : ∀ w, Calls Tryd.prog 10 #[.int .i64 ((x : Int) + 86400)] w fun e w' => e = .returned (.int .i64 ((q : Int) + 1)) ∧ w' = w)
    (A6 : ∀ w, Calls Tryd.prog 10 #[.int .i64 x] w fun e w' => e = .returned (.int .i64 q) ∧ w' = w)
    (D1 : Calls Tryd.prog 7 #[.int .i64 x] W fun e w' => e = .returned (.tuple #[.string S, .int .i64 0]) ∧ Below W.heap.size W w')
    (D2 : ∀ w, Below W.heap.size W w → Calls Tryd.prog 7 #[.int .i64 y] w fun e w' => e = .returned (.tuple #[.string T, .int .i64 0]) ∧ Below w.heap.size w w')
    (B1 : ∀ w, Calls Tryd.prog 11 #[.int .i64 y] w fun e w' => e = .returned (.int .i64 k2) ∧ w' = w)
    (B3 : ∀ w, Calls Tryd.prog 12 #[.int .i64 y] w fun e w' => e = .returned (.int .i64 n2) ∧ w' = w)
    (B6 : ∀ w, Calls Tryd.prog 10 #[.int .i64 y] w fun e w' => e = .returned (.int .i64 p) ∧ w' = w)
    (E1 : True)
    (E2 : (S.toList == T.toList) = false)
    (hxy : y < x) (hqp : q ≠ p)  :
    Calls Tryd.prog 4 #[.int .i64 x, .int .i64 y] W fun e w' => e = .returned (.bool true) ∧ Below W.heap.size W w' := by
  have hqi : ((q : Int) == (p : Int)) = false := by simp; omega
  have g1 : ((k : Int) == (k : Int) + 1) = false := by simp; omega
  have g2 : ((q : Int) % 7 == 3) = true := by simpa using h7
  clear h7
  have HT : Hid (∀ w', Below W.heap.size W w' → PT w') := fun w' h => hL.on h
  go_enter Tryd.func4, Tryd.ntmps4
  go_wp2_with fail
  refine (fit_yes x _ (by omega)).mono ?_
  rintro e w1 ⟨rfl, rfl⟩
  go_wp2_with fail
  refine (fit_yes y _ hy).mono ?_
  rintro e w1 ⟨rfl, rfl⟩
  go_wp2_with fail
  refine (A1 _).mono ?_
  rintro e w1 ⟨rfl, rfl⟩
  go_wp2_with fail
  refine (A2 _).mono ?_
  rintro e w1 ⟨rfl, rfl⟩
  go_wp2_with fail
  refine (A3 _).mono ?_
  rintro e w1 ⟨rfl, rfl⟩
  go_wp2_with fail
  refine (A4 _).mono ?_
  rintro e w1 ⟨rfl, rfl⟩
  go_wp2_with fail
  refine (A5 _).mono ?_
  rintro e w1 ⟨rfl, rfl⟩
  go_wp2_with fail
  refine (A6 _).mono ?_
  rintro e w1 ⟨rfl, rfl⟩
  go_wp2_with fail
  refine (A6 _).mono ?_
  rintro e w1 ⟨rfl, rfl⟩
  go_wp2_with fail
  refine D1.mono ?_
  rintro e v1 ⟨rfl, hv1⟩
  go_wp2_with fail
  refine (D2 _ hv1).mono ?_
  rintro e v2 ⟨rfl, hv2⟩
  go_wp2_with fail
  refine (awake20_any _ (HT.out _ (hv1.trans (hv2.mono hv1.size)))).mono ?_
  rintro e v3 ⟨rfl, hv3⟩
  have HF : Hid (_) := (hv1.trans (hv2.mono hv1.size)).trans (hv3.mono (Nat.le_trans hv1.size hv2.size))
  clear hv1 hv2 hv3
  go_wp2_with fail
  refine (A6 _).mono ?_
  rintro e w1 ⟨rfl, rfl⟩
  go_wp2_with fail
  refine (B6 _).mono ?_
  rintro e w1 ⟨rfl, rfl⟩
  go_wp2
  go_ret
  refine ⟨?_, HF.out⟩
  first
    | rfl
    | (simp [E2]; done)
    | simp_all
set_option maxRecDepth 100000 in
set_option maxHeartbeats 1000000 in
theorem go_main10ge (x y q p k n k2 n2 : Nat) (S T : ByteArray) (W : World) (hL : PT W) (hx : x ≤ 253402214399) (hy : y ≤ 253402300799)
    (hq : q ≤ 3000000) (hk : k ≤ 3000000) (hn : n ≤ 3000000) (h7 : (q : Int) % 7 = 3)
    (A1 : ∀ w, Calls Tryd.prog 11 #[.int .i64 x] w fun e w' => e = .returned (.int .i64 k) ∧ w' = w)
    (A2 : ∀ w, Calls Tryd.prog 11 #[.int .i64 ((x : Int) + 86400)] w fun e w' => e = .returned (.int .i64 ((k : Int) + 1)) ∧ w' = w)
    (A3 : ∀ w, Calls Tryd.prog 12 #[.int .i64 x] w fun e w' => e = .returned (.int .i64 n) ∧ w' = w)
    (A4 : ∀ w, Calls Tryd.prog 12 #[.int .i64 ((x : Int) + 86400)] w fun e w' => e = .returned (.int .i64 ((n : Int))) ∧ w' = w)
    (A5 : ∀ w, Calls Tryd.prog 10 #[.int .i64 ((x : Int) + 86400)] w fun e w' => e = .returned (.int .i64 ((q : Int) + 1)) ∧ w' = w)
    (A6 : ∀ w, Calls Tryd.prog 10 #[.int .i64 x] w fun e w' => e = .returned (.int .i64 q) ∧ w' = w)
    (D1 : Calls Tryd.prog 7 #[.int .i64 x] W fun e w' => e = .returned (.tuple #[.string S, .int .i64 0]) ∧ Below W.heap.size W w')
    (D2 : ∀ w, Below W.heap.size W w → Calls Tryd.prog 7 #[.int .i64 y] w fun e w' => e = .returned (.tuple #[.string T, .int .i64 0]) ∧ Below w.heap.size w w')
    (B1 : ∀ w, Calls Tryd.prog 11 #[.int .i64 y] w fun e w' => e = .returned (.int .i64 k2) ∧ w' = w)
    (B3 : ∀ w, Calls Tryd.prog 12 #[.int .i64 y] w fun e w' => e = .returned (.int .i64 n2) ∧ w' = w)
    (B6 : ∀ w, Calls Tryd.prog 10 #[.int .i64 y] w fun e w' => e = .returned (.int .i64 p) ∧ w' = w)
    (E1 : True)
    (E2 : (S.toList == T.toList) = true)
    (hxy : y < x) (hqp : q = p)  :
    Calls Tryd.prog 4 #[.int .i64 x, .int .i64 y] W fun e w' => e = .returned (.bool true) ∧ Below W.heap.size W w' := by
  subst hqp
  have g1 : ((k : Int) == (k : Int) + 1) = false := by simp; omega
  have g2 : ((q : Int) % 7 == 3) = true := by simpa using h7
  clear h7
  have HT : Hid (∀ w', Below W.heap.size W w' → PT w') := fun w' h => hL.on h
  go_enter Tryd.func4, Tryd.ntmps4
  go_wp2_with fail
  refine (fit_yes x _ (by omega)).mono ?_
  rintro e w1 ⟨rfl, rfl⟩
  go_wp2_with fail
  refine (fit_yes y _ hy).mono ?_
  rintro e w1 ⟨rfl, rfl⟩
  go_wp2_with fail
  refine (A1 _).mono ?_
  rintro e w1 ⟨rfl, rfl⟩
  go_wp2_with fail
  refine (A2 _).mono ?_
  rintro e w1 ⟨rfl, rfl⟩
  go_wp2_with fail
  refine (A3 _).mono ?_
  rintro e w1 ⟨rfl, rfl⟩
  go_wp2_with fail
  refine (A4 _).mono ?_
  rintro e w1 ⟨rfl, rfl⟩
  go_wp2_with fail
  refine (A5 _).mono ?_
  rintro e w1 ⟨rfl, rfl⟩
  go_wp2_with fail
  refine (A6 _).mono ?_
  rintro e w1 ⟨rfl, rfl⟩
  go_wp2_with fail
  refine (A6 _).mono ?_
  rintro e w1 ⟨rfl, rfl⟩
  go_wp2_with fail
  refine D1.mono ?_
  rintro e v1 ⟨rfl, hv1⟩
  go_wp2_with fail
  refine (D2 _ hv1).mono ?_
  rintro e v2 ⟨rfl, hv2⟩
  go_wp2_with fail
  refine (awake20_any _ (HT.out _ (hv1.trans (hv2.mono hv1.size)))).mono ?_
  rintro e v3 ⟨rfl, hv3⟩
  have HF : Hid (_) := (hv1.trans (hv2.mono hv1.size)).trans (hv3.mono (Nat.le_trans hv1.size hv2.size))
  clear hv1 hv2 hv3
  go_wp2_with fail
  refine (A6 _).mono ?_
  rintro e w1 ⟨rfl, rfl⟩
  go_wp2_with fail
  refine (B6 _).mono ?_
  rintro e w1 ⟨rfl, rfl⟩
  go_wp2
  go_ret
  refine ⟨?_, HF.out⟩
  first
    | rfl
    | (simp [E2]; done)
    | simp_all
set_option maxRecDepth 100000 in
set_option maxHeartbeats 1000000 in
theorem go_main11lt (x y q p k n k2 n2 : Nat) (S T : ByteArray) (W : World) (hL : PT W) (hx : x ≤ 253402214399) (hy : y ≤ 253402300799)
    (hq : q ≤ 3000000) (hk : k ≤ 3000000) (hn : n ≤ 3000000) (h7 : (q : Int) % 7 = 3)
    (A1 : ∀ w, Calls Tryd.prog 11 #[.int .i64 x] w fun e w' => e = .returned (.int .i64 k) ∧ w' = w)
    (A2 : ∀ w, Calls Tryd.prog 11 #[.int .i64 ((x : Int) + 86400)] w fun e w' => e = .returned (.int .i64 ((k : Int) + 1)) ∧ w' = w)
    (A3 : ∀ w, Calls Tryd.prog 12 #[.int .i64 x] w fun e w' => e = .returned (.int .i64 n) ∧ w' = w)
    (A4 : ∀ w, Calls Tryd.prog 12 #[.int .i64 ((x : Int) + 86400)] w fun e w' => e = .returned (.int .i64 ((n : Int) + 1)) ∧ w' = w)
    (A5 : ∀ w, Calls Tryd.prog 10 #[.int .i64 ((x : Int) + 86400)] w fun e w' => e = .returned (.int .i64 ((q : Int) + 1)) ∧ w' = w)
    (A6 : ∀ w, Calls Tryd.prog 10 #[.int .i64 x] w fun e w' => e = .returned (.int .i64 q) ∧ w' = w)
    (D1 : Calls Tryd.prog 7 #[.int .i64 x] W fun e w' => e = .returned (.tuple #[.string S, .int .i64 0]) ∧ Below W.heap.size W w')
    (D2 : ∀ w, Below W.heap.size W w → Calls Tryd.prog 7 #[.int .i64 y] w fun e w' => e = .returned (.tuple #[.string T, .int .i64 0]) ∧ Below w.heap.size w w')
    (B1 : ∀ w, Calls Tryd.prog 11 #[.int .i64 y] w fun e w' => e = .returned (.int .i64 k2) ∧ w' = w)
    (B3 : ∀ w, Calls Tryd.prog 12 #[.int .i64 y] w fun e w' => e = .returned (.int .i64 n2) ∧ w' = w)
    (B6 : ∀ w, Calls Tryd.prog 10 #[.int .i64 y] w fun e w' => e = .returned (.int .i64 p) ∧ w' = w)
    (E1 : Op.bytesLess S.toList T.toList = true)
    (E2 : (S.toList == T.toList) = false)
    (hxy : x ≤ y) (hqp : q ≠ p) (l1 : q ≤ p) (l2 : k ≤ k2) (l3 : n ≤ n2) :
    Calls Tryd.prog 4 #[.int .i64 x, .int .i64 y] W fun e w' => e = .returned (.bool true) ∧ Below W.heap.size W w' := by
  have hqi : ((q : Int) == (p : Int)) = false := by simp; omega
  have g1 : ((k : Int) == (k : Int) + 1) = false := by simp; omega
  have g2 : ((q : Int) % 7 == 3) = true := by simpa using h7
  clear h7
  have HT : Hid (∀ w', Below W.heap.size W w' → PT w') := fun w' h => hL.on h
  go_enter Tryd.func4, Tryd.ntmps4
  go_wp2_with fail
  refine (fit_yes x _ (by omega)).mono ?_
  rintro e w1 ⟨rfl, rfl⟩
  go_wp2_with fail
  refine (fit_yes y _ hy).mono ?_
  rintro e w1 ⟨rfl, rfl⟩
  go_wp2_with fail
  refine (A1 _).mono ?_
  rintro e w1 ⟨rfl, rfl⟩
  go_wp2_with fail
  refine (A2 _).mono ?_
  rintro e w1 ⟨rfl, rfl⟩
  go_wp2_with fail
  refine (A3 _).mono ?_
  rintro e w1 ⟨rfl, rfl⟩
  go_wp2_with fail
  refine (A4 _).mono ?_
  rintro e w1 ⟨rfl, rfl⟩
  go_wp2_with fail
  refine (A5 _).mono ?_
  rintro e w1 ⟨rfl, rfl⟩
  go_wp2_with fail
  refine (A6 _).mono ?_
  rintro e w1 ⟨rfl, rfl⟩
  go_wp2_with fail
  refine (A6 _).mono ?_
  rintro e w1 ⟨rfl, rfl⟩
  go_wp2_with fail
  refine D1.mono ?_
  rintro e v1 ⟨rfl, hv1⟩
  go_wp2_with fail
  refine (D2 _ hv1).mono ?_
  rintro e v2 ⟨rfl, hv2⟩
  go_wp2_with fail
  refine (awake20_any _ (HT.out _ (hv1.trans (hv2.mono hv1.size)))).mono ?_
  rintro e v3 ⟨rfl, hv3⟩
  have HF : Hid (_) := (hv1.trans (hv2.mono hv1.size)).trans (hv3.mono (Nat.le_trans hv1.size hv2.size))
  clear hv1 hv2 hv3
  go_wp2_with fail
  refine (A6 _).mono ?_
  rintro e w1 ⟨rfl, rfl⟩
  go_wp2_with fail
  refine (B6 _).mono ?_
  rintro e w1 ⟨rfl, rfl⟩
  go_wp2_with fail
  refine (A1 _).mono ?_
  rintro e w1 ⟨rfl, rfl⟩
  go_wp2_with fail
  refine (B1 _).mono ?_
  rintro e w1 ⟨rfl, rfl⟩
  go_wp2_with fail
  refine (A3 _).mono ?_
  rintro e w1 ⟨rfl, rfl⟩
  go_wp2_with fail
  refine (B3 _).mono ?_
  rintro e w1 ⟨rfl, rfl⟩
  go_wp2_with fail
  refine (A6 _).mono ?_
  rintro e w1 ⟨rfl, rfl⟩
  go_wp2_with fail
  refine (B6 _).mono ?_
  rintro e w1 ⟨rfl, rfl⟩
  go_wp2
  go_ret
  refine ⟨?_, HF.out⟩
  first
    | rfl
    | (simp [E2]; done)
    | simp_all
set_option maxRecDepth 100000 in
set_option maxHeartbeats 1000000 in
theorem go_main11eq (x y q p k n k2 n2 : Nat) (S T : ByteArray) (W : World) (hL : PT W) (hx : x ≤ 253402214399) (hy : y ≤ 253402300799)
    (hq : q ≤ 3000000) (hk : k ≤ 3000000) (hn : n ≤ 3000000) (h7 : (q : Int) % 7 = 3)
    (A1 : ∀ w, Calls Tryd.prog 11 #[.int .i64 x] w fun e w' => e = .returned (.int .i64 k) ∧ w' = w)
    (A2 : ∀ w, Calls Tryd.prog 11 #[.int .i64 ((x : Int) + 86400)] w fun e w' => e = .returned (.int .i64 ((k : Int) + 1)) ∧ w' = w)
    (A3 : ∀ w, Calls Tryd.prog 12 #[.int .i64 x] w fun e w' => e = .returned (.int .i64 n) ∧ w' = w)
    (A4 : ∀ w, Calls Tryd.prog 12 #[.int .i64 ((x : Int) + 86400)] w fun e w' => e = .returned (.int .i64 ((n : Int) + 1)) ∧ w' = w)
    (A5 : ∀ w, Calls Tryd.prog 10 #[.int .i64 ((x : Int) + 86400)] w fun e w' => e = .returned (.int .i64 ((q : Int) + 1)) ∧ w' = w)
    (A6 : ∀ w, Calls Tryd.prog 10 #[.int .i64 x] w fun e w' => e = .returned (.int .i64 q) ∧ w' = w)
    (D1 : Calls Tryd.prog 7 #[.int .i64 x] W fun e w' => e = .returned (.tuple #[.string S, .int .i64 0]) ∧ Below W.heap.size W w')
    (D2 : ∀ w, Below W.heap.size W w → Calls Tryd.prog 7 #[.int .i64 y] w fun e w' => e = .returned (.tuple #[.string T, .int .i64 0]) ∧ Below w.heap.size w w')
    (B1 : ∀ w, Calls Tryd.prog 11 #[.int .i64 y] w fun e w' => e = .returned (.int .i64 k2) ∧ w' = w)
    (B3 : ∀ w, Calls Tryd.prog 12 #[.int .i64 y] w fun e w' => e = .returned (.int .i64 n2) ∧ w' = w)
    (B6 : ∀ w, Calls Tryd.prog 10 #[.int .i64 y] w fun e w' => e = .returned (.int .i64 p) ∧ w' = w)
    (E1 : True)
    (E2 : (S.toList == T.toList) = true)
    (hxy : x ≤ y) (hqp : q = p) (l1 : q ≤ p) (l2 : k ≤ k2) (l3 : n ≤ n2) :
    Calls Tryd.prog 4 #[.int .i64 x, .int .i64 y] W fun e w' => e = .returned (.bool true) ∧ Below W.heap.size W w' := by
  subst hqp
  have g1 : ((k : Int) == (k : Int) + 1) = false := by simp; omega
  have g2 : ((q : Int) % 7 == 3) = true := by simpa using h7
  clear h7
  have HT : Hid (∀ w', Below W.heap.size W w' → PT w') := fun w' h => hL.on h
  go_enter Tryd.func4, Tryd.ntmps4
  go_wp2_with fail
  refine (fit_yes x _ (by omega)).mono ?_
  rintro e w1 ⟨rfl, rfl⟩
  go_wp2_with fail
  refine (fit_yes y _ hy).mono ?_
  rintro e w1 ⟨rfl, rfl⟩
  go_wp2_with fail
  refine (A1 _).mono ?_
  rintro e w1 ⟨rfl, rfl⟩
  go_wp2_with fail
  refine (A2 _).mono ?_
  rintro e w1 ⟨rfl, rfl⟩
  go_wp2_with fail
  refine (A3 _).mono ?_
  rintro e w1 ⟨rfl, rfl⟩
  go_wp2_with fail
  refine (A4 _).mono ?_
  rintro e w1 ⟨rfl, rfl⟩
  go_wp2_with fail
  refine (A5 _).mono ?_
  rintro e w1 ⟨rfl, rfl⟩
  go_wp2_with fail
  refine (A6 _).mono ?_
  rintro e w1 ⟨rfl, rfl⟩
  go_wp2_with fail
  refine (A6 _).mono ?_
  rintro e w1 ⟨rfl, rfl⟩
  go_wp2_with fail
  refine D1.mono ?_
  rintro e v1 ⟨rfl, hv1⟩
  go_wp2_with fail
  refine (D2 _ hv1).mono ?_
  rintro e v2 ⟨rfl, hv2⟩
  go_wp2_with fail
  refine (awake20_any _ (HT.out _ (hv1.trans (hv2.mono hv1.size)))).mono ?_
  rintro e v3 ⟨rfl, hv3⟩
  have HF : Hid (_) := (hv1.trans (hv2.mono hv1.size)).trans (hv3.mono (Nat.le_trans hv1.size hv2.size))
  clear hv1 hv2 hv3
  go_wp2_with fail
  refine (A6 _).mono ?_
  rintro e w1 ⟨rfl, rfl⟩
  go_wp2_with fail
  refine (B6 _).mono ?_
  rintro e w1 ⟨rfl, rfl⟩
  go_wp2_with fail
  refine (A1 _).mono ?_
  rintro e w1 ⟨rfl, rfl⟩
  go_wp2_with fail
  refine (B1 _).mono ?_
  rintro e w1 ⟨rfl, rfl⟩
  go_wp2_with fail
  refine (A3 _).mono ?_
  rintro e w1 ⟨rfl, rfl⟩
  go_wp2_with fail
  refine (B3 _).mono ?_
  rintro e w1 ⟨rfl, rfl⟩
  go_wp2_with fail
  refine (A6 _).mono ?_
  rintro e w1 ⟨rfl, rfl⟩
  go_wp2_with fail
  refine (B6 _).mono ?_
  rintro e w1 ⟨rfl, rfl⟩
  go_wp2
  go_ret
  refine ⟨?_, HF.out⟩
  first
    | rfl
    | (simp [E2]; done)
    | simp_all
set_option maxRecDepth 100000 in
set_option maxHeartbeats 1000000 in
theorem go_main11gt (x y q p k n k2 n2 : Nat) (S T : ByteArray) (W : World) (hL : PT W) (hx : x ≤ 253402214399) (hy : y ≤ 253402300799)
    (hq : q ≤ 3000000) (hk : k ≤ 3000000) (hn : n ≤ 3000000) (h7 : (q : Int) % 7 = 3)
    (A1 : ∀ w, Calls Tryd.prog 11 #[.int .i64 x] w fun e w' => e = .returned (.int .i64 k) ∧ w' = w)
    (A2 : ∀ w, Calls Tryd.prog 11 #[.int .i64 ((x : Int) + 86400)] w fun e w' => e = .returned (.int .i64 ((k : Int) + 1)) ∧ w' = w)
    (A3 : ∀ w, Calls Tryd.prog 12 #[.int .i64 x] w fun e w' => e = .returned (.int .i64 n) ∧ w' = w)
    (A4 : ∀ w, Calls Tryd.prog 12 #[.int .i64 ((x : Int) + 86400)] w fun e w' => e = .returned (.int .i64 ((n : Int) + 1)) ∧ w' = w)
    (A5 : ∀ w, Calls Tryd.prog 10 #[.int .i64 ((x : Int) + 86400)] w fun e w' => e = .returned (.int .i64 ((q : Int) + 1)) ∧ w' = w)
    (A6 : ∀ w, Calls Tryd.prog 10 #[.int .i64 x] w fun e w' => e = .returned (.int .i64 q) ∧ w' = w)
    (D1 : Calls Tryd.prog 7 #[.int .i64 x] W fun e w' => e = .returned (.tuple #[.string S, .int .i64 0]) ∧ Below W.heap.size W w')
    (D2 : ∀ w, Below W.heap.size W w → Calls Tryd.prog 7 #[.int .i64 y] w fun e w' => e = .returned (.tuple #[.string T, .int .i64 0]) ∧ Below w.heap.size w w')
    (B1 : ∀ w, Calls Tryd.prog 11 #[.int .i64 y] w fun e w' => e = .returned (.int .i64 k2) ∧ w' = w)
    (B3 : ∀ w, Calls Tryd.prog 12 #[.int .i64 y] w fun e w' => e = .returned (.int .i64 n2) ∧ w' = w)
    (B6 : ∀ w, Calls Tryd.prog 10 #[.int .i64 y] w fun e w' => e = .returned (.int .i64 p) ∧ w' = w)
    (E1 : True)
    (E2 : (S.toList == T.toList) = false)
    (hxy : y < x) (hqp : q ≠ p)  :
    Calls Tryd.prog 4 #[.int .i64 x, .int .i64 y] W fun e w' => e = .returned (.bool true) ∧ Below W.heap.size W w' := by
  have hqi : ((q : Int) == (p : Int)) = false := by simp; omega
  have g1 : ((k : Int) == (k : Int) + 1) = false := by simp; omega
  have g2 : ((q : Int) % 7 == 3) = true := by simpa using h7
  clear h7
  have HT : Hid (∀ w', Below W.heap.size W w' → PT w') := fun w' h => hL.on h
  go_enter Tryd.func4, Tryd.ntmps4
  go_wp2_with fail
  refine (fit_yes x _ (by omega)).mono ?_
  rintro e w1 ⟨rfl, rfl⟩
  go_wp2_with fail
  refine (fit_yes y _ hy).mono ?_
  rintro e w1 ⟨rfl, rfl⟩
  go_wp2_with fail
  refine (A1 _).mono ?_
  rintro e w1 ⟨rfl, rfl⟩
  go_wp2_with fail
  refine (A2 _).mono ?_
  rintro e w1 ⟨rfl, rfl⟩
  go_wp2_with fail
  refine (A3 _).mono ?_
  rintro e w1 ⟨rfl, rfl⟩
  go_wp2_with fail
  refine (A4 _).mono ?_
  rintro e w1 ⟨rfl, rfl⟩
  go_wp2_with fail
  refine (A5 _).mono ?_
  rintro e w1 ⟨rfl, rfl⟩
  go_wp2_with fail
  refine (A6 _).mono ?_
  rintro e w1 ⟨rfl, rfl⟩
  go_wp2_with fail
  refine (A6 _).mono ?_
  rintro e w1 ⟨rfl, rfl⟩
  go_wp2_with fail
  refine D1.mono ?_
  rintro e v1 ⟨rfl, hv1⟩
  go_wp2_with fail
  refine (D2 _ hv1).mono ?_
  rintro e v2 ⟨rfl, hv2⟩
  go_wp2_with fail
  refine (awake20_any _ (HT.out _ (hv1.trans (hv2.mono hv1.size)))).mono ?_
  rintro e v3 ⟨rfl, hv3⟩
  have HF : Hid (_) := (hv1.trans (hv2.mono hv1.size)).trans (hv3.mono (Nat.le_trans hv1.size hv2.size))
  clear hv1 hv2 hv3
  go_wp2_with fail
  refine (A6 _).mono ?_
  rintro e w1 ⟨rfl, rfl⟩
  go_wp2_with fail
  refine (B6 _).mono ?_
  rintro e w1 ⟨rfl, rfl⟩
  go_wp2
  go_ret
  refine ⟨?_, HF.out⟩
  first
    | rfl
    | (simp [E2]; done)
    | simp_all
set_option maxRecDepth 100000 in
set_option maxHeartbeats 1000000 in
theorem go_main11ge (x y q p k n k2 n2 : Nat) (S T : ByteArray) (W : World) (hL : PT W) (hx : x ≤ 253402214399) (hy : y ≤ 253402300799)
    (hq : q ≤ 3000000) (hk : k ≤ 3000000) (hn : n ≤ 3000000) (h7 : (q : Int) % 7 = 3)
    (A1 : ∀ w, Calls Tryd.prog 11 #[.int .i64 x] w fun e w' => e = .returned (.int .i64 k) ∧ w' = w)
    (A2 : ∀ w, Calls Tryd.prog 11 #[.int .i64 ((x : Int) + 86400)] w fun e w' => e = .returned (.int .i64 ((k : Int) + 1)) ∧ w' = w)
    (A3 : ∀ w, Calls Tryd.prog 12 #[.int .i64 x] w fun e w' => e = .returned (.int .i64 n) ∧ w' = w)
    (A4 : ∀ w, Calls Tryd.prog 12 #[.int .i64 ((x : Int) + 86400)] w fun e w' => e = .returned (.int .i64 ((n : Int) + 1)) ∧ w' = w)
    (A5 : ∀ w, Calls Tryd.prog 10 #[.int .i64 ((x : Int) + 86400)] w fun e w' => e = .returned (.int .i64 ((q : Int) + 1)) ∧ w' = w)
    (A6 : ∀ w, Calls Tryd.prog 10 #[.int .i64 x] w fun e w' => e = .returned (.int .i64 q) ∧ w' = w)
    (D1 : Calls Tryd.prog 7 #[.int .i64 x] W fun e w' => e = .returned (.tuple #[.string S, .int .i64 0]) ∧ Below W.heap.size W w')
    (D2 : ∀ w, Below W.heap.size W w → Calls Tryd.prog 7 #[.int .i64 y] w fun e w' => e = .returned (.tuple #[.string T, .int .i64 0]) ∧ Below w.heap.size w w')
    (B1 : ∀ w, Calls Tryd.prog 11 #[.int .i64 y] w fun e w' => e = .returned (.int .i64 k2) ∧ w' = w)
    (B3 : ∀ w, Calls Tryd.prog 12 #[.int .i64 y] w fun e w' => e = .returned (.int .i64 n2) ∧ w' = w)
    (B6 : ∀ w, Calls Tryd.prog 10 #[.int .i64 y] w fun e w' => e = .returned (.int .i64 p) ∧ w' = w)
    (E1 : True)
    (E2 : (S.toList == T.toList) = true)
    (hxy : y < x) (hqp : q = p)  :
    Calls Tryd.prog 4 #[.int .i64 x, .int .i64 y] W fun e w' => e = .returned (.bool true) ∧ Below W.heap.size W w' := by
  subst hqp
  have g1 : ((k : Int) == (k : Int) + 1) = false := by simp; omega
  have g2 : ((q : Int) % 7 == 3) = true := by simpa using h7
  clear h7
  have HT : Hid (∀ w', Below W.heap.size W w' → PT w') := fun w' h => hL.on h
  go_enter Tryd.func4, Tryd.ntmps4
  go_wp2_with fail
  refine (fit_yes x _ (by omega)).mono ?_
  rintro e w1 ⟨rfl, rfl⟩
  go_wp2_with fail
  refine (fit_yes y _ hy).mono ?_
  rintro e w1 ⟨rfl, rfl⟩
  go_wp2_with fail
  refine (A1 _).mono ?_
  rintro e w1 ⟨rfl, rfl⟩
  go_wp2_with fail
  refine (A2 _).mono ?_
  rintro e w1 ⟨rfl, rfl⟩
  go_wp2_with fail
  refine (A3 _).mono ?_
  rintro e w1 ⟨rfl, rfl⟩
  go_wp2_with fail
  refine (A4 _).mono ?_
  rintro e w1 ⟨rfl, rfl⟩
  go_wp2_with fail
  refine (A5 _).mono ?_
  rintro e w1 ⟨rfl, rfl⟩
  go_wp2_with fail
  refine (A6 _).mono ?_
  rintro e w1 ⟨rfl, rfl⟩
  go_wp2_with fail
  refine (A6 _).mono ?_
  rintro e w1 ⟨rfl, rfl⟩
  go_wp2_with fail
  refine D1.mono ?_
  rintro e v1 ⟨rfl, hv1⟩
  go_wp2_with fail
  refine (D2 _ hv1).mono ?_
  rintro e v2 ⟨rfl, hv2⟩
  go_wp2_with fail
  refine (awake20_any _ (HT.out _ (hv1.trans (hv2.mono hv1.size)))).mono ?_
  rintro e v3 ⟨rfl, hv3⟩
  have HF : Hid (_) := (hv1.trans (hv2.mono hv1.size)).trans (hv3.mono (Nat.le_trans hv1.size hv2.size))
  clear hv1 hv2 hv3
  go_wp2_with fail
  refine (A6 _).mono ?_
  rintro e w1 ⟨rfl, rfl⟩
  go_wp2_with fail
  refine (B6 _).mono ?_
  rintro e w1 ⟨rfl, rfl⟩
  go_wp2
  go_ret
  refine ⟨?_, HF.out⟩
  first
    | rfl
    | (simp [E2]; done)
    | simp_all
end Go.Proofs.YthmijkpkegdcdaaDoor
