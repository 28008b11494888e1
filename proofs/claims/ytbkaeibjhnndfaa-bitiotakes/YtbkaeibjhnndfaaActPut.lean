/- Contract of the law's own 'put': a call on a Sink. -/
import Derived.Test.YtbkaeibjhnndfaaActM
import Derived.Test.YtbkaeibjhnndfaaSnkT
import Derived.Test.YtbkaeibjhnndfaaFew
namespace Go.Proofs.Ytbkaeibjhnndfaa
open Go.RowKit
set_option linter.unusedVariables false

theorem few_40 (s : ByteArray) (w : World) (hs : s.size ≤ 9223372036854775807) :
    Calls Try.prog 8 #[.string s, .int .i64 40] w fun e w' => e = .returned (.string (few40 s)) ∧ w' = w := few_any s 40 w (by decide) hs
theorem kind_ne {k c : Int} (h : k ≠ c) : (k == c) = false := by simpa using h
set_option maxRecDepth 100000 in
set_option maxHeartbeats 1000000 in
theorem actPut_any (g : Nat) (d : ActD) (L : List Bool) (w : World) (hd : d.ok) (hS : SinkAt w g L) (hL : L.length ≤ 1000000) :
    Calls Try.prog 29 #[.pointer (some ⟨g, 0, none⟩), .agg #[.int .i64 d.kind, .int .i64 d.n, .int .u32 (d.x : Int), .string d.s]] w fun e w' => e = .returned (.tuple #[]) ∧ SinkAt w' g (actBits d L) ∧ w.grownBy w' (some g) := by
  obtain ⟨dk, dn, dx, ds⟩ := d
  obtain ⟨h0, h1, h2, h3⟩ := hd
  simp only at h0 h1 h2 h3 ⊢
  have hS1 : SinkAt (w.alloc (.cells #[.int .i64 dk, .int .i64 dn, .int .u32 (dx : Int), .string ds] 31)) g L := hS.below ((Below.refl _ w).alloc (Nat.le_refl _) _)
  have HS : Hid (SinkAt _ g L) := hS1
  have HG : Hid (w.grownBy (w.alloc (.cells #[.int .i64 dk, .int .i64 dn, .int .u32 (dx : Int), .string ds] 31)) (some g)) := galloc (grefl w _) _
  clear hS hS1
  by_cases k0 : dk = 0
  · subst k0
    have HB : Hid (_ = _) := act0 (d := ⟨0, dn, dx, ds⟩) L rfl
    go_enter Try.func29, Try.ntmps29
    go_wp2_with fail
    refine (wput_any g L dx dn _ HS.out h2 (by omega) h1).mono ?_
    rintro e w1 ⟨rfl, hS1, hG1⟩
    go_wp2
    exact bodyPost_end (results_none rfl _ _ _) rfl ⟨rfl, by rw [HB.out]; exact hS1, gtrans HG.out hG1⟩
  by_cases k1 : dk = 1
  · subst k1
    have HB : Hid (_ = _) := act1 (d := ⟨1, dn, dx, ds⟩) L rfl
    go_enter Try.func29, Try.ntmps29
    go_wp2_with fail
    refine (wturn_any g L dx dn _ HS.out h2 (by omega) h1).mono ?_
    rintro e w1 ⟨rfl, hS1, hG1⟩
    go_wp2
    exact bodyPost_end (results_none rfl _ _ _) rfl ⟨rfl, by rw [HB.out]; exact hS1, gtrans HG.out hG1⟩
  by_cases k2 : dk = 2
  · subst k2
    have HB : Hid (_ = _) := act2 (d := ⟨2, dn, dx, ds⟩) L rfl
    go_enter Try.func29, Try.ntmps29
    go_wp2_with fail
    refine (weven_any g L _ HS.out (by omega)).mono ?_
    rintro e w1 ⟨rfl, hS1, hG1⟩
    go_wp2
    exact bodyPost_end (results_none rfl _ _ _) rfl ⟨rfl, by rw [HB.out]; exact hS1, gtrans HG.out hG1⟩
  by_cases k3 : dk = 3
  · subst k3
    have HB : Hid (_ = _) := act3 (d := ⟨3, dn, dx, ds⟩) L rfl
    have h40 := few40_size ds
    go_enter Try.func29, Try.ntmps29
    go_wp2_with fail
    refine (few_40 _ _ h3).mono ?_
    rintro e w0 ⟨rfl, rfl⟩
    go_wp2_with fail
    refine (wtext_any g L (few40 ds) _ HS.out (by omega) (by omega)).mono ?_
    rintro e w1 ⟨rfl, hS1, hG1⟩
    go_wp2
    exact bodyPost_end (results_none rfl _ _ _) rfl ⟨rfl, by rw [HB.out]; exact hS1, gtrans HG.out hG1⟩
  · have HB : Hid (_ = _) := act4 (d := ⟨dk, dn, dx, ds⟩) L k0 k1 k2 k3
    have q0 := kind_ne k0
    have q1 := kind_ne k1
    have q2 := kind_ne k2
    have q3 := kind_ne k3
    go_enter Try.func29, Try.ntmps29
    go_wp2
    exact bodyPost_end (results_none rfl _ _ _) rfl ⟨rfl, by rw [HB.out]; exact HS.out, HG.out⟩
end Go.Proofs.Ytbkaeibjhnndfaa
