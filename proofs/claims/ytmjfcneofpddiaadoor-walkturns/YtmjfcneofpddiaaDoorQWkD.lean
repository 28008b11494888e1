/- Contracts: walk's inForm, unfit. -/
import Derived.Test.YtmjfcneofpddiaaDoorQWkC
import Derived.Test.YtmjfcneofpddiaaDoorQSetM
namespace Go.Proofs.YtmjfcneofpddiaaDoor
open Go.RowKit
set_option linter.unusedVariables false
set_option linter.unusedSimpArgs false

def formI (x : It) : Bool := if x.m < 0 ∨ 511 < x.m ∨ x.t < 0 ∨ 253402300799 < x.t then false else if x.k = 1 then decide (x.d = []) else if x.k = 3 then targN x.d else true
def fitI (x : It) : Int := if x.k ≠ 1 ∧ x.k ≠ 2 ∧ x.k ≠ 3 then 12 else if isL x.p = false then 11 else if formI x = false then 4 else if 32768 < x.d.length then 2 else 0
theorem mkB_toList (l : List UInt8) : (mkB l).toList = l := by rw [ByteArray.toList_eq]; rfl
theorem fit_len {x : It} (h : fitI x = 0) : x.p.length ≤ 200 ∧ x.d.length ≤ 32768 ∧ isL x.p = true ∧ (x.k = 1 ∨ x.k = 2 ∨ x.k = 3) := by
  unfold fitI at h
  split at h
  · cases h
  · rename_i h1
    split at h
    · cases h
    · rename_i h2
      split at h
      · cases h
      · split at h
        · cases h
        · rename_i h4
          have h5 : isL x.p = true := by simpa using h2
          refine ⟨?_, by omega, h5, by omega⟩
          unfold isL at h5
          simp at h5
          exact h5.1.1
set_option maxRecDepth 100000 in
set_option maxHeartbeats 2000000 in
theorem inForm_any (x : It) (w : World) (hd : x.d.length ≤ 9223372036854775807) :
    Calls Tryd.prog 39 #[.agg (itC x).toArray] w fun e w' => e = .returned (.bool (formI x)) ∧ Below w.heap.size w w' := by
  obtain ⟨p, k, m, t, d⟩ := x
  simp only at hd
  have HB : Hid (∀ o, Below w.heap.size w (w.alloc o)) := fun o => (Below.refl _ _).alloc (Nat.le_refl _) _
  unfold itC
  simp only
  by_cases h1 : m < 0 ∨ 511 < m ∨ t < 0 ∨ 253402300799 < t
  · have HR : Hid (formI ⟨p, k, m, t, d⟩ = false) := by unfold Hid formI; rw [if_pos h1]
    generalize mkB p = P at *
    generalize mkB d = D at *
    have HO : Hid (m < 0 ∨ 511 < m ∨ t < 0 ∨ 253402300799 < t) := h1
    clear h1
    by_cases q1 : m < 0
    · go_enter Tryd.func39, Tryd.ntmps39
      go_wp2
      go_ret
      rw [HR.out]; exact ⟨rfl, HB.out _⟩
    by_cases q2 : 511 < m
    · go_enter Tryd.func39, Tryd.ntmps39
      go_wp2
      go_ret
      rw [HR.out]; exact ⟨rfl, HB.out _⟩
    by_cases q3 : t < 0
    · go_enter Tryd.func39, Tryd.ntmps39
      go_wp2
      go_ret
      rw [HR.out]; exact ⟨rfl, HB.out _⟩
    have q4 : 253402300799 < t := by have := HO.out; omega
    go_enter Tryd.func39, Tryd.ntmps39
    go_wp2
    go_ret
    rw [HR.out]; exact ⟨rfl, HB.out _⟩
  have q1 : ¬ m < 0 := by omega
  have q2 : ¬ 511 < m := by omega
  have q3 : ¬ t < 0 := by omega
  have q4 : ¬ 253402300799 < t := by omega
  by_cases k1 : k = 1
  · have hR : formI ⟨p, k, m, t, d⟩ = decide (d = []) := by unfold formI; rw [if_neg h1, if_pos k1]
    have HR : Hid _ := hR
    have he : ((mkB d).toList == []) = decide (d = []) := by
      rw [mkB_toList]; by_cases e : d = [] <;> simp [e]
    clear hR h1
    subst k1
    generalize mkB p = P at *
    generalize mkB d = D at *
    generalize decide (d = []) = bb at *
    go_enter Tryd.func39, Tryd.ntmps39
    go_wp2
    go_ret
    rw [HR.out]; exact ⟨rfl, HB.out _⟩
  by_cases k3 : k = 3
  · have hR : formI ⟨p, k, m, t, d⟩ = targN d := by unfold formI; rw [if_neg h1, if_neg k1, if_pos k3]
    have HR : Hid _ := hR
    have HT : Hid (∀ W, Calls Tryd.prog _ _ W _) := fun W => target_any d W hd
    clear hR h1 k1
    subst k3
    generalize mkB p = P at *
    go_enter Tryd.func39, Tryd.ntmps39
    go_wp2_with fail
    refine (HT.out _).mono ?_
    rintro e w1 ⟨rfl, e1⟩
    generalize targN d = bb at *
    have e2 := e1.symm
    clear e1
    subst e2
    go_wp2
    go_ret
    rw [HR.out]; exact ⟨rfl, HB.out _⟩
  · have hR : formI ⟨p, k, m, t, d⟩ = true := by unfold formI; rw [if_neg h1, if_neg k1, if_neg k3]
    have HR : Hid _ := hR
    have e1 : (k == 1) = false := by rw [beq_eq_false_iff_ne]; exact k1
    have e3 : (k == 3) = false := by rw [beq_eq_false_iff_ne]; exact k3
    clear hR h1 k1 k3
    generalize mkB p = P at *
    generalize mkB d = D at *
    go_enter Tryd.func39, Tryd.ntmps39
    go_wp2
    go_ret
    rw [HR.out]; exact ⟨rfl, HB.out _⟩
theorem isB_any (l : List UInt8) (w : World) (hs : l.length ≤ 9223372036854775807) (hL : Lay11 w) :
    Calls Tryd.prog 38 #[.string (mkB l)] w fun e w' => e = .returned (.bool (isL l)) ∧ Below w.heap.size w w' := is_any l w hs hL
set_option maxRecDepth 100000 in
set_option maxHeartbeats 4000000 in
theorem unfit_any (x : It) (w : World) (hp : x.p.length ≤ 9223372036854775807) (hd : x.d.length ≤ 9223372036854775807) (hL : Lay11 w) :
    Calls Tryd.prog 25 #[.agg (itC x).toArray] w fun e w' => e = .returned (.int .i64 (fitI x)) ∧ Below w.heap.size w w' := by
  have HIF : Hid (∀ W, Calls Tryd.prog 39 #[.agg (itC x).toArray] W _) := fun W => inForm_any x W hd
  have HIS : Hid (∀ W, Below w.heap.size w W → Calls Tryd.prog 38 #[.string (mkB x.p)] W _) := fun W hW => isB_any x.p W hp (hL.below hW)
  have HB : Hid (∀ o, Below w.heap.size w (w.alloc o)) := fun o => (Below.refl _ _).alloc (Nat.le_refl _) _
  have hds := mkB_size x.d
  by_cases hk : x.k ≠ 1 ∧ x.k ≠ 2 ∧ x.k ≠ 3
  · have HR : Hid (fitI x = 12) := by unfold Hid fitI; rw [if_pos hk]
    obtain ⟨p, k, m, t, d⟩ := x
    simp only at hk
    have e1 : (k == 1) = false := by rw [beq_eq_false_iff_ne]; exact hk.1
    have e2 : (k == 2) = false := by rw [beq_eq_false_iff_ne]; exact hk.2.1
    have e3 : (k == 3) = false := by rw [beq_eq_false_iff_ne]; exact hk.2.2
    have b1 : (k != 1) = true := by rw [bne_iff_ne]; exact hk.1
    have b2 : (k != 2) = true := by rw [bne_iff_ne]; exact hk.2.1
    have b3 : (k != 3) = true := by rw [bne_iff_ne]; exact hk.2.2
    clear hk HIF HIS hL
    unfold itC
    simp only
    generalize mkB p = P at *
    generalize mkB d = D at *
    go_enter Tryd.func25, Tryd.ntmps25
    go_wp2
    go_ret
    rw [HR.out]; exact ⟨rfl, HB.out _⟩
  have HF : Hid (fitI x = if isL x.p = false then 11 else if formI x = false then 4 else if 32768 < x.d.length then 2 else 0) := by unfold Hid fitI; rw [if_neg hk]
  have hk' : x.k = 1 ∨ x.k = 2 ∨ x.k = 3 := by omega
  clear hk hL
  generalize hfv : fitI x = fv at *
  generalize hff : formI x = ff at *
  generalize hii : isL x.p = ii at *
  clear hfv hff hii
  obtain ⟨p, k, m, t, d⟩ := x
  simp only at hk' hp hd hds HIS HF
  generalize d.length = n at *
  unfold itC at *
  simp only at HIF ⊢
  generalize mkB p = P at *
  generalize mkB d = D at *
  have hkc : (k != 1) = false ∨ ((k != 1) = true ∧ (k != 2) = false) ∨ ((k != 1) = true ∧ (k != 2) = true ∧ (k != 3) = false) := by
    rcases hk' with rfl | rfl | rfl <;> decide
  clear hk'
  rcases hkc with q1 | ⟨q1, q2⟩ | ⟨q1, q2, q3⟩
  all_goals
    go_enter Tryd.func25, Tryd.ntmps25
    go_wp2_with fail
    refine (HIS.out _ (HB.out _)).mono ?_
    rintro e w1 ⟨rfl, hb1⟩
    have HB1 : Hid (Below w.heap.size w w1) := (HB.out _).trans (hb1.mono (HB.out _).size)
    have hlt : w.heap.size < w1.heap.size := Nat.lt_of_lt_of_le (by simp) hb1.size
    have hx1 := hb1.block w.heap.size (by simp)
    rw [heap_alloc_new] at hx1
    have c0 : w1.cell? ⟨w.heap.size, 0, none⟩ = some (.string P) := by unfold World.cell?; rw [hx1]; rfl
    have c1 : w1.cell? ⟨w.heap.size, 1, none⟩ = some (.int .i64 k) := by unfold World.cell?; rw [hx1]; rfl
    have c2 : w1.cell? ⟨w.heap.size, 2, none⟩ = some (.int .i64 m) := by unfold World.cell?; rw [hx1]; rfl
    have c3 : w1.cell? ⟨w.heap.size, 3, none⟩ = some (.int .i64 t) := by unfold World.cell?; rw [hx1]; rfl
    have c4 : w1.cell? ⟨w.heap.size, 4, none⟩ = some (.string D) := by unfold World.cell?; rw [hx1]; rfl
    clear hb1 HIS hx1
    cases ii with
    | false =>
      have HV : Hid (fv = 11) := by unfold Hid; have := HF.out; simpa using this
      clear HIF
      go_wp2
      go_ret
      rw [HV.out]; exact ⟨rfl, HB1.out⟩
    | true =>
      go_wp2_with fail
      refine (HIF.out _).mono ?_
      rintro e w2 ⟨rfl, hb2⟩
      have HB2 : Hid (Below w.heap.size w w2) := HB1.out.trans (hb2.mono HB1.out.size)
      have d4 : w2.cell? ⟨w.heap.size, 4, none⟩ = some (.string D) := (hb2.cell (p := ⟨w.heap.size, 4, none⟩) hlt).trans c4
      clear hb2 HIF c0 c1 c2 c3 c4
      cases ff with
      | false =>
        have HV : Hid (fv = 4) := by unfold Hid; have := HF.out; simpa using this
        go_wp2
        go_ret
        rw [HV.out]; exact ⟨rfl, HB2.out⟩
      | true =>
        by_cases hn : 32768 < n
        · have HV : Hid (fv = 2) := by unfold Hid; have := HF.out; simpa [hn] using this
          have hni : (32768 : Int) < (n : Int) := by omega
          go_wp2
          go_ret
          rw [HV.out]; exact ⟨rfl, HB2.out⟩
        · have HV : Hid (fv = 0) := by unfold Hid; have := HF.out; simpa [hn] using this
          have hni : ¬ (32768 : Int) < (n : Int) := by omega
          go_wp2
          go_ret
          rw [HV.out]; exact ⟨rfl, HB2.out⟩
end Go.Proofs.YtmjfcneofpddiaaDoor
