/- Contracts of inflate.steps, Size and of the reader's size and of Next by a reader. -/
import Derived.Test.YtibnkpfginffhacInfR
namespace Go.Proofs.Ytibnkpfginffhac
open Go.RowKit
set_option linter.unusedVariables false

set_option maxRecDepth 100000 in
set_option maxHeartbeats 4000000 in
theorem steps_far (i : Nat) (w : World) (h : i < 30) :
    Calls Try.prog 37 #[.int .i64 (i : Int), .int .i64 1, .int .i64 2] w fun e w' => e = .returned (.tuple #[.int .i64 ((stepsN i 1 2).1 : Int), .int .i64 ((stepsN i 1 2).2 : Int)]) ∧ w' = w := by
  rcases (show i = 0 ∨ i = 1 ∨ i = 2 ∨ i = 3 ∨ i = 4 ∨ i = 5 ∨ i = 6 ∨ i = 7 ∨ i = 8 ∨ i = 9 ∨ i = 10 ∨ i = 11 ∨ i = 12 ∨ i = 13 ∨ i = 14 ∨ i = 15 ∨ i = 16 ∨ i = 17 ∨ i = 18 ∨ i = 19 ∨ i = 20 ∨ i = 21 ∨ i = 22 ∨ i = 23 ∨ i = 24 ∨ i = 25 ∨ i = 26 ∨ i = 27 ∨ i = 28 ∨ i = 29 by omega) with rfl | rfl | rfl | rfl | rfl | rfl | rfl | rfl | rfl | rfl | rfl | rfl | rfl | rfl | rfl | rfl | rfl | rfl | rfl | rfl | rfl | rfl | rfl | rfl | rfl | rfl | rfl | rfl | rfl | rfl
  all_goals
    go_enter Try.func37, Try.ntmps37
    go_wp2
    go_ret2
    exact ⟨rfl, rfl⟩
set_option maxRecDepth 100000 in
set_option maxHeartbeats 4000000 in
theorem steps_near (i : Nat) (w : World) (h : i < 28) :
    Calls Try.prog 37 #[.int .i64 (i : Int), .int .i64 3, .int .i64 4] w fun e w' => e = .returned (.tuple #[.int .i64 ((stepsN i 3 4).1 : Int), .int .i64 ((stepsN i 3 4).2 : Int)]) ∧ w' = w := by
  rcases (show i = 0 ∨ i = 1 ∨ i = 2 ∨ i = 3 ∨ i = 4 ∨ i = 5 ∨ i = 6 ∨ i = 7 ∨ i = 8 ∨ i = 9 ∨ i = 10 ∨ i = 11 ∨ i = 12 ∨ i = 13 ∨ i = 14 ∨ i = 15 ∨ i = 16 ∨ i = 17 ∨ i = 18 ∨ i = 19 ∨ i = 20 ∨ i = 21 ∨ i = 22 ∨ i = 23 ∨ i = 24 ∨ i = 25 ∨ i = 26 ∨ i = 27 by omega) with rfl | rfl | rfl | rfl | rfl | rfl | rfl | rfl | rfl | rfl | rfl | rfl | rfl | rfl | rfl | rfl | rfl | rfl | rfl | rfl | rfl | rfl | rfl | rfl | rfl | rfl | rfl | rfl
  all_goals
    go_enter Try.func37, Try.ntmps37
    go_wp2
    go_ret2
    exact ⟨rfl, rfl⟩
set_option maxRecDepth 100000 in
set_option maxHeartbeats 1000000 in
theorem size_neg (i : Int) (far : Bool) (w : World) (h : i < 0) :
    Calls Try.prog 20 #[.int .i64 i, .bool far] w fun e w' => e = .returned (.tuple #[.int .i64 0, .int .i64 0]) ∧ w' = w := by
  go_enter Try.func20, Try.ntmps20
  go_wp2
  go_ret2
  exact ⟨rfl, rfl⟩
set_option maxRecDepth 100000 in
set_option maxHeartbeats 1000000 in
theorem size_any (i : Nat) (far : Bool) (w : World) :
    Calls Try.prog 20 #[.int .i64 (i : Int), .bool far] w fun e w' => e = .returned (.tuple #[.int .i64 ((szF i far).1 : Int), .int .i64 ((szF i far).2 : Int)]) ∧ w' = w := by
  have h0 : ¬ (i : Int) < 0 := by omega
  cases far
  · by_cases h1 : 29 ≤ i
    · have h1i : (29 : Int) ≤ (i : Int) := by omega
      have HS : Hid (szF i false = (0, 0)) := by unfold Hid szF; rw [if_neg (by decide), if_pos h1]
      rw [HS.out]
      go_enter Try.func20, Try.ntmps20
      go_wp2
      go_ret2
      exact ⟨rfl, rfl⟩
    · have h1i : ¬ (29 : Int) ≤ (i : Int) := by omega
      by_cases h2 : i = 28
      · subst h2
        go_enter Try.func20, Try.ntmps20
        go_wp2
        go_ret2
        exact ⟨rfl, rfl⟩
      · have h2i : ((i : Int) == 28) = false := by simp; omega
        have HS : Hid (szF i false = stepsN i 3 4) := by unfold Hid szF; rw [if_neg (by decide), if_neg h1, if_neg h2]
        have HC : Hid (Calls _ _ _ _ _) := steps_near i w (by omega)
        rw [HS.out]
        generalize (stepsN i 3 4).1 = A1 at *
        generalize (stepsN i 3 4).2 = A2 at *
        go_enter Try.func20, Try.ntmps20
        go_wp2_with fail
        refine (Hid.out HC : Calls _ _ _ _ _).mono ?_
        rintro e w1 ⟨rfl, rfl⟩
        go_wp2
        go_ret2
        exact ⟨rfl, rfl⟩
  · by_cases h1 : i < 30
    · have h1i : (i : Int) < 30 := by omega
      have HS : Hid (szF i true = stepsN i 1 2) := by unfold Hid szF; rw [if_pos rfl, if_pos h1]
      have HC : Hid (Calls _ _ _ _ _) := steps_far i w h1
      rw [HS.out]
      generalize (stepsN i 1 2).1 = A1 at *
      generalize (stepsN i 1 2).2 = A2 at *
      go_enter Try.func20, Try.ntmps20
      go_wp2_with fail
      refine (Hid.out HC : Calls _ _ _ _ _).mono ?_
      rintro e w1 ⟨rfl, rfl⟩
      go_wp2
      go_ret2
      exact ⟨rfl, rfl⟩
    · have h1i : ¬ (i : Int) < 30 := by omega
      have HS : Hid (szF i true = (0, 0)) := by unfold Hid szF; rw [if_pos rfl, if_neg h1]
      rw [HS.out]
      go_enter Try.func20, Try.ntmps20
      go_wp2
      go_ret2
      exact ⟨rfl, rfl⟩
theorem szE_ok {f : Nat → Bool} {L p i x q : Nat} {far : Bool} (h : szE f L p i far = .ok (x, q)) : ¬ (szF i far).1 = 0 ∧ ∃ m, tkF f L p (szF i far).2 = .ok m ∧ x = (szF i far).1 + m ∧ q = p + (szF i far).2 := by
  unfold szE at h
  split at h
  · cases h
  · rename_i h1
    refine ⟨h1, ?_⟩
    cases ht : tkF f L p (szF i far).2 with
    | error e => rw [ht] at h; cases h
    | ok m =>
      rw [ht] at h
      simp only [Except.ok.injEq, Prod.mk.injEq] at h
      exact ⟨m, rfl, h.1.symm, h.2.symm⟩
theorem szE_err {f : Nat → Bool} {L p i er : Nat} {far : Bool} (h : szE f L p i far = .error er) : ((szF i far).1 = 0 ∧ er = 3) ∨ (¬ (szF i far).1 = 0 ∧ tkF f L p (szF i far).2 = .error er) := by
  unfold szE at h
  split at h
  · rename_i h1
    simp only [Except.error.injEq] at h
    exact .inl ⟨h1, h.symm⟩
  · rename_i h1
    refine .inr ⟨h1, ?_⟩
    cases ht : tkF f L p (szF i far).2 with
    | error e => rw [ht] at h; simp only [Except.error.injEq] at h; rw [h]
    | ok m => rw [ht] at h; cases h
set_option maxRecDepth 100000 in
set_option maxHeartbeats 1000000 in
theorem rsize_ok (B gr gx : Nat) (s : ByteArray) (p most out i x q : Nat) (far : Bool) (w : World) (hR : RdAt w B gr gx s p most out) (hs : s.size ≤ 100000000) (h : szE (bF8 s) (8 * s.size) p i far = .ok (x, q)) :
    Calls Try.prog 79 #[.pointer (some ⟨gr, 0, none⟩), .int .i64 (i : Int), .bool far] w fun e w' => e = .returned (.tuple #[.int .i64 (x : Int), .int .i64 0]) ∧ RdAt w' B gr gx s q most out ∧ KS w w' ∧ Below B w w' := by
  obtain ⟨h0, m, hm, rfl, rfl⟩ := szE_ok h
  have hbd := szF_bd far i
  have hml := tkF_ok hm
  have hmb := takeN_lt (fun j => bF8 s (p + j)) (szF i far).2
  have h13 : 2 ^ (szF i far).2 ≤ 2 ^ 13 := Nat.pow_le_pow_right (by decide) hbd.2
  have hm8 : m < 8192 := by rw [hml.2]; omega
  have HSZ : Hid (Calls _ _ _ _ _) := size_any i far w
  have HTK : Hid (Calls _ _ _ _ _) := rtake_ok B gr gx s p most out (szF i far).2 m w hR hs (by omega) hm
  have h0i : (((szF i far).1 : Int) == 0) = false := by simp; omega
  clear hR h hm hmb h13 hml
  generalize (szF i far).1 = A1 at *
  generalize (szF i far).2 = A2 at *
  go_enter Try.func79, Try.ntmps79
  go_wp2_with fail
  refine (Hid.out HSZ : Calls _ _ _ _ _).mono ?_
  rintro e w1 ⟨rfl, hw1⟩
  obtain rfl : w = w1 := hw1.symm
  go_wp2_with fail
  refine (Hid.out HTK : Calls _ _ _ _ _).mono ?_
  rintro e w2 ⟨rfl, hR2, hK2, hB2⟩
  clear HTK HSZ hw1
  have HR2 : Hid _ := hR2
  clear hR2
  go_wp2
  go_ret2
  exact ⟨by go_num, HR2.out, hK2, hB2⟩
set_option maxRecDepth 100000 in
set_option maxHeartbeats 1000000 in
theorem rsize_err (B gr gx : Nat) (s : ByteArray) (p most out i er : Nat) (far : Bool) (w : World) (hR : RdAt w B gr gx s p most out) (hs : s.size ≤ 100000000) (hp : p ≤ 8 * s.size) (h : szE (bF8 s) (8 * s.size) p i far = .error er) :
    Calls Try.prog 79 #[.pointer (some ⟨gr, 0, none⟩), .int .i64 (i : Int), .bool far] w fun e w' => ∃ v, e = .returned (.tuple #[v, .int .i64 (er : Int)]) ∧ KS w w' ∧ Below B w w' := by
  have hbd := szF_bd far i
  have HSZ : Hid (Calls _ _ _ _ _) := size_any i far w
  rcases szE_err h with ⟨h0, rfl⟩ | ⟨h0, hm⟩
  · rw [h0] at HSZ
    clear hR h hbd h0
    generalize (szF i far).2 = A2 at *
    go_enter Try.func79, Try.ntmps79
    go_wp2_with fail
    refine (Hid.out HSZ : Calls _ _ _ _ _).mono ?_
    rintro e w1 ⟨rfl, hw1⟩
    obtain rfl : w = w1 := hw1.symm
    go_wp2
    go_ret2
    exact ⟨_, rfl, KS.refl _, Below.refl _ _⟩
  · have HTK : Hid (Calls _ _ _ _ _) := rtake_err B gr gx s p most out (szF i far).2 er w hR hs (by omega) hp hm
    have h0i : (((szF i far).1 : Int) == 0) = false := by simp; omega
    clear hR h hm
    generalize (szF i far).1 = A1 at *
    generalize (szF i far).2 = A2 at *
    go_enter Try.func79, Try.ntmps79
    go_wp2_with fail
    refine (Hid.out HSZ : Calls _ _ _ _ _).mono ?_
    rintro e w1 ⟨rfl, hw1⟩
    obtain rfl : w = w1 := hw1.symm
    go_wp2_with fail
    refine (Hid.out HTK : Calls _ _ _ _ _).mono ?_
    rintro e w2 ⟨rfl, hK2, hB2⟩
    clear HTK HSZ hw1
    go_wp2
    go_ret2
    exact ⟨_, rfl, hK2, hB2⟩
theorem rnext_ok (B gr gx : Nat) (s : ByteArray) (p most out t q B1 gt : Nat) (ns : List Nat) (w : World) (hR : RdAt w B gr gx s p most out) (hs : s.size ≤ 100000000) (hp : p ≤ 8 * s.size) (hP : Planted w B1 gt ns ns.length) (h15 : all15 ns) (hl : ns.length ≤ 320) (hf : fitB ns = true) (h : nxF ns (bF8 s) (8 * s.size) p = .ok (t, q)) :
    Calls Try.prog 13 #[.pointer (some ⟨gt, 0, none⟩), .pointer (some ⟨gx, 0, none⟩)] w fun e w' => e = .returned (.tuple #[.int .i64 (t : Int), .int .i64 0]) ∧ RdAt w' B gr gx s q most out ∧ KS w w' ∧ Below B w w' := by
  refine (next_any ns h15 hl B1 gt gx s p w hP hR.2.2.1 (by omega) hp).mono ?_
  rintro e w' ⟨j, y, er, rfl, hN, hS, hG⟩
  have hn := nx_of ns h15 hf (bF8 s) (8 * s.size) p j y er hp hN
  rw [h] at hn
  unfold nxOf at hn
  rcases nextR_kind hN with ⟨rfl, hj, u, rfl, hu⟩ | ⟨_, rfl | rfl⟩
  · rw [if_pos rfl] at hn
    simp only [Except.ok.injEq, Prod.mk.injEq, Int.toNat_natCast] at hn
    obtain ⟨rfl, rfl⟩ := hn
    exact ⟨rfl, hR.moved hG hS⟩
  · rw [if_neg (by decide)] at hn; cases hn
  · rw [if_neg (by decide)] at hn; cases hn
theorem rnext_err (B gr gx : Nat) (s : ByteArray) (p most out er B1 gt : Nat) (ns : List Nat) (w : World) (hR : RdAt w B gr gx s p most out) (hs : s.size ≤ 100000000) (hp : p ≤ 8 * s.size) (hP : Planted w B1 gt ns ns.length) (h15 : all15 ns) (hl : ns.length ≤ 320) (hf : fitB ns = true) (h : nxF ns (bF8 s) (8 * s.size) p = .error er) :
    Calls Try.prog 13 #[.pointer (some ⟨gt, 0, none⟩), .pointer (some ⟨gx, 0, none⟩)] w fun e w' => e = .returned (.tuple #[.int .i64 0, .int .i64 (er : Int)]) ∧ er ≠ 0 ∧ KS w w' ∧ Below B w w' ∧ ∃ q, RdAt w' B gr gx s q most out := by
  refine (next_any ns h15 hl B1 gt gx s p w hP hR.2.2.1 (by omega) hp).mono ?_
  rintro e w' ⟨j, y, er', rfl, hN, hS, hG⟩
  have hn := nx_of ns h15 hf (bF8 s) (8 * s.size) p j y er' hp hN
  rw [h] at hn
  unfold nxOf at hn
  obtain ⟨h1, h2, h3⟩ := hR.moved hG hS
  rcases nextR_kind hN with ⟨rfl, _⟩ | ⟨rfl, rfl | rfl⟩
  · rw [if_pos rfl] at hn; cases hn
  · rw [if_neg (by decide)] at hn
    simp only [Except.error.injEq] at hn
    subst hn
    exact ⟨rfl, by decide, h2, h3, _, h1⟩
  · rw [if_neg (by decide)] at hn
    simp only [Except.error.injEq] at hn
    subst hn
    exact ⟨rfl, by decide, h2, h3, _, h1⟩
end Go.Proofs.Ytibnkpfginffhac
