/- slices.Concat of two rows of lengths. -/
import Derived.Test.YtbknflckdbfogaaGreatQInfL
import Derived.Test.YtbknflckdbfogaaGreatQDynE
namespace Go.Proofs.YtbknflckdbfogaaGreat
open Go.RowKit
set_option linter.unusedVariables false
set_option linter.unusedSimpArgs false

def twoL (a b : List Nat) (i : Nat) : List Nat := if i = 0 then a else b
theorem cat_len3 (Ls : Nat → List Nat) (h : ∀ i, i < 2 → (Ls i).length ≤ 300) : ∀ k, k ≤ 2 → (catN Ls k).length ≤ 300 * k
  | 0, _ => Nat.le_refl _
  | k + 1, hk => by
    have := cat_len3 Ls h k (by omega)
    have := h k (by omega)
    rw [catN, List.length_append]; omega
set_option maxRecDepth 100000 in
set_option maxHeartbeats 2000000 in
theorem concat2 (gp : Nat) (P : Nat → Value) (Ls : Nat → List Nat) (w : World) (hg : gp < w.heap.size) (hc : ∀ i, i < 2 → w.cell? ⟨gp, i, none⟩ = some (P i)) (hO : ∀ i, i < 2 → IQ w (P i) (zL (Ls i))) (hl : ∀ i, i < 2 → 1 ≤ (Ls i).length ∧ (Ls i).length ≤ 300) :
    Calls Tryz.prog 53 #[.slice (some ⟨gp, 0, none⟩) 2 2] w fun e w' => ∃ v, e = .returned v ∧ w'.ownsRow w.heap.size 3 1 v (catN Ls 2).length (nc (catN Ls 2)) ∧ Below w.heap.size w w' := by
  obtain ⟨i0, hi, hz0, hz1, hz2⟩ := info_parts Tryz.infoIq
  have HC : Hid (∀ i, i < 2 → w.cell? ⟨gp, i, none⟩ = some (P i)) := hc
  have HO : Hid (∀ i, i < 2 → IQ w (P i) (zL (Ls i))) := hO
  have HL : Hid (∀ i, i < 2 → 1 ≤ (Ls i).length ∧ (Ls i).length ≤ 300) := hl
  have HCL : Hid (∀ k, k ≤ 2 → (catN Ls k).length ≤ 300 * k) := cat_len3 Ls (fun i hi => (hl i hi).2)
  clear hc hO hl
  go_enter Tryz.func53, Tryz.ntmps53
  go_wp2
  go_loop [3, 11] (fun sz i => ∃ k : Nat, k ≤ 2 ∧ i = .int .i64 (k : Int) ∧ sz = .int .i64 ((catN Ls k).length : Int)) (fun _ i => 2 - (intOf i).toNat)
  case atStart => exact ⟨0, by omega, rfl, rfl⟩
  case round =>
    obtain ⟨k, hk, rfl, rfl⟩ := hrel
    have hcl := HCL.out k hk
    by_cases hlt : k < 2
    · have ck := HC.out k hlt
      have hlk := HL.out k hlt
      obtain ⟨g, o, cap, hv, -, -⟩ := HO.out k hlt
      rw [hv, zL_len] at ck
      have HS : Hid ((catN Ls (k + 1)).length = (catN Ls k).length + (Ls k).length) := by unfold Hid; rw [catN, List.length_append]
      have hki : (k : Int) < 2 := by omega
      have hki0 : (0 : Int) ≤ (k : Int) := by omega
      clear hv
      generalize (catN Ls k).length = X at *
      generalize (Ls k).length = Y at *
      go_wp2
      go_round
      case rel => exact ⟨k + 1, by omega, by go_num, by rw [HS.out]; go_num⟩
      case measure => simp [intOf]; omega
    · obtain rfl : k = 2 := by omega
      have h4 : 1 ≤ (catN Ls 2).length := by
        rw [catN, List.length_append]
        have := (HL.out 1 (by decide)).1
        omega
      have HG : Hid (Calls _ _ _ _ _) := grow_nil (catN Ls 2).length w h4 (by omega)
      go_wp2_with fail
      refine (Hid.out HG : Calls _ _ _ _ _).mono ?_
      rintro e w1 ⟨v1, rfl, hO1, hB1⟩
      have HO1 : Hid (w1.ownsRow w.heap.size 3 1 v1 0 []) := hO1
      have HB1 : Hid (Below w.heap.size w w1) := hB1
      clear HG hO1 hB1
      go_wp2
      go_loopw [6, 27] (fun v i wr => ∃ k : Nat, k ≤ 2 ∧ i = .int .i64 (k : Int) ∧ wr.ownsRow w.heap.size 3 1 v (catN Ls k).length (nc (catN Ls k)) ∧ Below w.heap.size w wr) (fun _ i _ => 2 - (intOf i).toNat)
      case atStart => exact ⟨0, by omega, rfl, HO1.out, HB1.out⟩
      case round =>
        clear HO1 HB1
        obtain ⟨k, hk, rfl, hO, hB⟩ := hrel
        have hck := HCL.out k hk
        have hsz := hB.size
        by_cases hlt : k < 2
        · have ck := HC.out k hlt
          rw [← hB.cell (p := ⟨gp, k, none⟩) hg] at ck
          have hlk := HL.out k hlt
          obtain ⟨g, o, cap, hv, hgl, hgc⟩ := HO.out k hlt
          rw [hv, zL_len] at ck
          have HN : Hid (∀ j u, (nc (Ls k))[j]? = some u → wr.cell? ((⟨g, o, none⟩ : Addr).add j) = some u) := fun j u hu => by
            have hj : j < (Ls k).length := by have := (List.getElem?_eq_some_iff.1 hu).1; rwa [nc_len] at this
            rw [Addr.add_mid, hB.cell (p := ⟨g, o + j, none⟩) hgl, hgc j (by rw [zL_len]; exact hj), zL_at]
            rw [nc_at _ _ hj] at hu
            exact hu
          have HONE : Hid (∀ u ∈ nc (Ls k), u.oneCell' = true) := nc_one _
          have HLN : Hid ((nc (Ls k)).length = (Ls k).length * 1) := by unfold Hid; rw [nc_len, Nat.mul_one]
          have hki : (k : Int) < 2 := by omega
          have hki0 : (0 : Int) ≤ (k : Int) := by omega
          clear hv hgc
          go_wp2_with (at_builtin; refine wpList_append_own _ rfl _ _ 40 rfl w.heap.size 3 i0 (.int .i64 0) 1 8 Tryz.underlying40 hi hz0 hz1 hz2 rfl (by decide) _ _ _ rfl hO ⟨g, o, none⟩ (Ls k).length cap (nc (Ls k)) rfl HLN.out HN.out HONE.out (by unfold maxLen; omega) (by omega) hsz ?_)
          intro v8 w8 hown8 hg8 _
          have HO8 : Hid (w8.ownsRow w.heap.size 3 1 v8 (catN Ls (k + 1)).length (nc (catN Ls (k + 1)))) := by unfold Hid; rw [catN, nc_app, List.length_append]; exact hown8
          have HB8 : Hid (Below w.heap.size w w8) := hB.grown hg8 hsz (fun q hq => (hO.lt q hq).1)
          clear hown8 hg8 hO hB HN ck
          go_wp2
          go_roundw
          case rel => exact ⟨k + 1, by omega, by go_num, HO8.out, HB8.out⟩
          case measure => simp [intOf]; omega
        · obtain rfl : k = 2 := by omega
          go_wp2
          go_ret
          exact ⟨_, rfl, hO, hB⟩
end Go.Proofs.YtbknflckdbfogaaGreat
