/- Two streams, read: the plain mathematics. Inflate of a small stream. Contract of the law's own awake of layer 6: it returns true. -/
import Derived.Test.YthkppipdflmekaaQInfI
namespace Go.Proofs.Ythkppipdflmekaa
open Go.RowKit
set_option linter.unusedVariables false

def sA : ByteArray := ⟨#[75, 4, 0]⟩
def sB : ByteArray := ⟨#[1, 2, 0, 253, 255, 97, 98]⟩
theorem awB : blksF (bF8 sB) (8 * sB.size) 9 (8 * sB.size + 1) 0 0 [] = .ok ([⟨0, [97, 98], []⟩], 56) := by kernel_rfl
theorem awA : blksF (bF8 sA) (8 * sA.size) 9 (8 * sA.size + 1) 0 0 [] = .ok ([⟨1, [], [⟨97, 0, 0⟩]⟩], 18) := by kernel_rfl
theorem awE : bs (expF 9223372036854775807 (jkP [⟨1, [], [⟨97, 0, 0⟩]⟩]) []).1 = ⟨#[97]⟩ := by kernel_rfl
theorem awSA : sA = sA.extract 0 sA.size := by decide +kernel
theorem awSB : sB = sB.extract 0 sB.size := by decide +kernel
end Go.Proofs.Ythkppipdflmekaa
namespace Go.Proofs.Ythkppipdflmekaa
open Go.RowKit
set_option linter.unusedVariables false

theorem aw_inf (w : World) : Calls Try.prog 7 #[.string ⟨#[75, 4, 0]⟩, .int .i64 0, .int .i64 9] w fun e w' => e = .returned (.tuple #[.string ⟨#[97]⟩, .int .i64 3, .int .i64 0]) ∧ Below w.heap.size w w' := by
  refine (inflate_good sA sA 0 9 _ w (Nat.zero_le _) (by decide) (by decide) awSA awA).mono ?_
  rintro e w1 (⟨l, q, hr, rfl, _, hb⟩ | ⟨er, hr, _⟩)
  · simp only [Except.ok.injEq, Prod.mk.injEq] at hr
    obtain ⟨rfl, rfl⟩ := hr
    rw [awE]
    exact ⟨rfl, hb⟩
  · cases hr
end Go.Proofs.Ythkppipdflmekaa
namespace Go.Proofs.Ythkppipdflmekaa
open Go.RowKit
set_option linter.unusedVariables false

theorem nb_two {t : ByteArray} {a b : Nat} (h : t.data.toList.map UInt8.toNat = [a, b]) : t = bs [a, b] := by
  rw [← bs_nb t]; unfold nb; rw [h]
theorem aw_blk (w : World) : Calls Try.prog 5 #[.string ⟨#[1, 2, 0, 253, 255, 97, 98]⟩, .int .i64 0, .int .i64 9] w fun e w' => ∃ g cap, e = .returned (.tuple #[.slice (some ⟨g, 0, none⟩) 1 cap, .int .i64 7, .int .i64 0]) ∧ w'.cell? ⟨g, 1, none⟩ = some (.string ⟨#[97, 98]⟩) ∧ Below w.heap.size w w' := by
  refine (blocks_good sB sB 0 9 _ w (Nat.zero_le _) (by decide) (by decide) awSB awB).mono ?_
  rintro e w1 (⟨l, q, v, hr, rfl, hO, _, _, hb⟩ | ⟨er, hr, _⟩)
  · simp only [Except.ok.injEq, Prod.mk.injEq] at hr
    obtain ⟨hl, rfl⟩ := hr
    obtain ⟨⟨b, t, tv⟩, rfl⟩ : ∃ x, l = [x] := by
      have h1 : l.length = 1 := by have := congrArg List.length hl; simpa using this.symm
      exact List.length_eq_one_iff.1 h1
    simp only [List.map_cons, List.map_nil, List.cons.injEq, and_true] at hl
    obtain ⟨g, cap, rfl, _, _, _⟩ := own_frm0 hO.1 (by simp)
    refine ⟨g, cap, rfl, ?_, hb⟩
    have ht := (hO.2 _ (List.mem_singleton.2 rfl)).1
    simp only at ht
    rw [← hl] at ht
    rw [hO.1.cellAt 1 (by simp), nb_two ht]
    rfl
  · cases hr
set_option maxRecDepth 100000 in
set_option maxHeartbeats 1000000 in
theorem awake6_any (w : World) : Calls Try.prog 9 #[] w fun e w' => e = .returned (.bool true) ∧ Below w.heap.size w w' := by
  have HI : Hid (Calls _ _ _ _ _) := aw_inf w
  have HBL : Hid (∀ W, Calls Try.prog 5 #[.string ⟨#[1, 2, 0, 253, 255, 97, 98]⟩, .int .i64 0, .int .i64 9] W fun e w' => ∃ g cap, e = .returned (.tuple #[.slice (some ⟨g, 0, none⟩) 1 cap, .int .i64 7, .int .i64 0]) ∧ w'.cell? ⟨g, 1, none⟩ = some (.string ⟨#[97, 98]⟩) ∧ Below W.heap.size W w') := aw_blk
  go_enter Try.func9, Try.ntmps9
  go_wp2_with fail
  refine (Hid.out HI : Calls _ _ _ _ _).mono ?_
  rintro e w1 ⟨rfl, hb1⟩
  go_wp2_with fail
  refine (HBL.out w1).mono ?_
  rintro e w2 ⟨g, cap, rfl, c1, hb2⟩
  have HB2 : Hid (Below w.heap.size w w2) := hb1.trans (hb2.mono hb1.size)
  clear hb1 hb2 HI HBL
  go_wp2
  go_ret
  exact ⟨rfl, HB2.out⟩
end Go.Proofs.Ythkppipdflmekaa
