/- Contracts of the reader's fixedCodes, firstCodes and row. -/
import Derived.Test.YtibnkpfginffhacInfL
namespace Go.Proofs.Ytibnkpfginffhac
open Go.RowKit
set_option linter.unusedVariables false

theorem fixL_fit : fitE fixL = true := by decide +kernel
theorem fixD_fit : fitE fixD = true := by decide +kernel
theorem fixL_lens : Lens fixL := (fitE_ok fixL_fit).2
theorem fixD_lens : Lens fixD := (fitE_ok fixD_fit).2
theorem RdAt.fixed {w : World} {B gr gx gc : Nat} {s : ByteArray} {p most out : Nat} (h : RdAt w B gr gx s p most out) (hc : CodesAt w gc fixL fixD) : RdAt (w.setCell ⟨gr, 3, none⟩ (.pointer (some ⟨gc, 0, none⟩))) B gr gx s p most out ∧ KS w (w.setCell ⟨gr, 3, none⟩ (.pointer (some ⟨gc, 0, none⟩))) ∧ Below B w (w.setCell ⟨gr, 3, none⟩ (.pointer (some ⟨gc, 0, none⟩))) ∧ (w.setCell ⟨gr, 3, none⟩ (.pointer (some ⟨gc, 0, none⟩))).cell? ⟨gr, 3, none⟩ = some (.pointer (some ⟨gc, 0, none⟩)) := by
  have hne := h.ne
  obtain ⟨h1, h2, h3, fp, h4, h5⟩ := h
  have hg : w.grownBy (w.setCell ⟨gr, 3, none⟩ (.pointer (some ⟨gc, 0, none⟩))) (some gr) := gset (grefl w _) 3 _
  have hk : KS w (w.setCell ⟨gr, 3, none⟩ (.pointer (some ⟨gc, 0, none⟩))) := ks_grown hg h4 (.inr rfl)
  have h6 : (w.setCell ⟨gr, 3, none⟩ (.pointer (some ⟨gc, 0, none⟩))).heap[gr]? = some (.cells #[.pointer (some ⟨gx, 0, none⟩), .int .i64 (most : Int), .int .i64 (out : Int), .pointer (some ⟨gc, 0, none⟩)] 105 (0, 0)) := by rw [heap_setCell_same _ _ _ _ _ _ h4]; rfl
  refine ⟨⟨h1, h2, (hg.block gx h3.lt (fun e => hne (by cases e; rfl))).trans h3, _, h6, .inr ⟨gc, rfl, hc.ks hk⟩⟩, hk, (Below.refl _ w).setCell h1 _, ?_⟩
  rw [cell_of_row _ _ _ _ _ _ h6]; rfl
set_option maxRecDepth 100000 in
set_option maxHeartbeats 2000000 in
theorem fixedCodes_any (B gr gx : Nat) (s : ByteArray) (p most out : Nat) (w : World) (hR : RdAt w B gr gx s p most out) :
    Calls Try.prog 71 #[.pointer (some ⟨gr, 0, none⟩)] w fun e w' => ∃ gc, e = .returned (.tuple #[.pointer (some ⟨gc, 0, none⟩), .int .i64 0]) ∧ CodesAt w' gc fixL fixD ∧ RdAt w' B gr gx s p most out ∧ KS w w' ∧ Below B w w' := by
  obtain ⟨h1, h2, h3, fp, h4, h5⟩ := id hR
  have c3 : w.cell? ⟨gr, 3, none⟩ = some (.pointer fp) := by rw [cell_of_row _ _ _ _ _ _ h4]; rfl
  have hB0 := hR.size
  rcases h5 with rfl | ⟨gc, rfl, hc⟩
  · have HL : Hid (Calls _ _ _ _ _) := lengths_any w
    have HR : Hid (RdAt w B gr gx s p most out) := hR
    clear hR h3 h4
    go_enter Try.func71, Try.ntmps71
    go_wp2_with fail
    refine (Hid.out HL : Calls _ _ _ _ _).mono ?_
    rintro e w1 ⟨v, u, rfl, o1, o2, b1⟩
    have HP : Hid (Calls _ _ _ _ _) := plant_good v u fixL fixD w1 (own_IO o1 (by decide)) (own_IO o2 (by decide)) fixL_fit fixD_fit
    clear HL o1 o2 c3
    go_wp2_with fail
    refine (Hid.out HP : Calls _ _ _ _ _).mono ?_
    rintro e w2 ⟨gc, rfl, hc, b2⟩
    have hb2 : Below w.heap.size w w2 := b1.trans (b2.mono b1.size)
    have hR2 := HR.out.below hb2
    obtain ⟨k1, k2, k3, k4⟩ := hR2.fixed hc
    have f3 : w2.frozen? ⟨gr, 3, none⟩ = false := by
      obtain ⟨_, _, _, fp', h4', _⟩ := hR2
      exact frozen_of_row _ _ _ _ _ h4'
    obtain ⟨x3, c3⟩ : ∃ x3, w2.cell? ⟨gr, 3, none⟩ = some x3 := by
      obtain ⟨_, _, _, fp', h4', _⟩ := hR2
      exact ⟨_, by rw [cell_of_row _ _ _ _ _ _ h4']; rfl⟩
    have HC : Hid _ := hc.ks k2
    have HK : Hid _ := (ks_below hb2).trans k2
    have HB : Hid (Below B w _) := (hb2.mono hB0).trans k3
    have HR2 : Hid _ := k1
    clear HP hc b1 b2 hb2 hR2 k1 k2 k3
    go_wp2
    go_ret2
    exact ⟨gc, rfl, HC.out, HR2.out, HK.out, HB.out⟩
  · clear h3 h4
    go_enter Try.func71, Try.ntmps71
    go_wp2
    go_ret2
    exact ⟨gc, rfl, hc, hR, KS.refl _, Below.refl _ _⟩
/-- The order's row as cells. -/
theorem order_any (w : World) : Calls Try.prog 82 #[] w fun e w' => e = .returned (.slice (some ⟨w.heap.size, 0, none⟩) 19 19) ∧ w' = w.alloc (.cells (nc ordL).toArray 3) := by
  go_enter Try.func82, Try.ntmps82
  go_wp2
  go_ret
  exact ⟨rfl, rfl⟩
end Go.Proofs.Ytibnkpfginffhac
