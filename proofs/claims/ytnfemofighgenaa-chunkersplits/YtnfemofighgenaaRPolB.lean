/- Contracts of the document's Product and Rest of layer 9. -/
import Derived.Test.YtnfemofighgenaaRPolA
namespace Go.Proofs.Ytnfemofighgenaa
open Go.RowKit
set_option linter.unusedVariables false

theorem repl_nb (n : Nat) : nb (List.replicate n false) = 0 := by
  symm; apply nb_ext; intro i
  simp only [Nat.zero_testBit, List.getD_eq_getElem?_getD, List.getElem?_replicate]
  split <;> rfl
theorem made_ob (w : World) (n : Nat) (h : n ≤ 1000000) : OB (w.alloc (.cells (madeCells #[.bool false] n) 4)) w.heap.size (.slice (some ⟨w.heap.size, 0, none⟩) n n) (List.replicate n false) :=
  row_owns ((World.rowIs_made w (.bool false) n 4).congr fun i hi => by simp [List.getD_eq_getElem?_getD, hi]) (Nat.le_refl _) (by simp) h
set_option maxRecDepth 100000 in
set_option maxHeartbeats 2000000 in
theorem rproduct_any (va vb : Value) (a b : List Bool) (w : World) (hA : RB w va a) (hB0 : RB w vb b) (hal : a.length ≤ 64) (hbl : b.length ≤ 64) :
    Calls Try.prog 18 #[va, vb] w fun e w' => ∃ v L, e = .returned v ∧ OB w' w.heap.size v L ∧ L.length = a.length + b.length ∧ nb L = cm (nb a) (nb b) ∧ Below w.heap.size w w' := by
  obtain ⟨ga, ca, rfl, hga, hca⟩ := hA
  obtain ⟨gb, cb, rfl, hgb, hcb⟩ := hB0
  have HCA : Hid _ := hca
  have HCB : Hid _ := hcb
  clear hca hcb
  obtain ⟨N, hN⟩ : ∃ N, N = a.length + b.length := ⟨_, rfl⟩
  have hNi : (a.length : Int) + (b.length : Int) = (N : Int) := by omega
  have hN128 : N ≤ 128 := by omega
  have HN : Hid (_ = _) := hN
  have hNk : ∀ k m, k < a.length → m < b.length → k + m < N := fun k m h1 h2 => by omega
  have HNK : Hid _ := hNk
  clear hN hNk
  have hmk : ∀ W : World, (Instr.makeSlice 34 (.int .i64 (N : Int)) (.int .i64 (N : Int))).run Try.prog W = .ok (.slice (some ⟨W.heap.size, 0, none⟩) N N) (W.alloc (.cells (madeCells #[.bool false] N) 4)) := fun W => by
    have := run_make_row' (P := Try.prog) 34 4 (.bool false) 1 Try.underlying34 Try.infoBo rfl .i64 .i64 N (by omega) (by omega) W
    simpa using this
  have HST : Hid _ := made_ob w N (by omega)
  have HB : Hid (Below w.heap.size w (w.alloc (.cells (madeCells #[.bool false] N) 4))) := (Below.refl _ w).alloc (Nat.le_refl _) _
  go_enter Try.func18, Try.ntmps18
  go_wp2
  generalize w.alloc (.cells (madeCells #[.bool false] N) 4) = W0 at *
  clear hmk
  go_loopw [16] (fun i wr => ∃ (k : Nat) (L : List Bool), k ≤ a.length ∧ i = .int .i64 (k : Int) ∧ L.length = N ∧ Hid (nb L = prodAt a b k 0) ∧ Hid (OB wr w.heap.size (.slice (some ⟨w.heap.size, 0, none⟩) L.length N) L) ∧ Below w.heap.size w wr) (fun i _ => a.length - (intOf i).toNat)
  case atStart => exact ⟨0, List.replicate N false, by omega, rfl, by simp, by show _ = _; rw [repl_nb, prodAt_start], by rw [List.length_replicate]; exact HST.out, HB.out⟩
  case round =>
    clear HST HB
    obtain ⟨k, L, hk, rfl, hLN, HP, HO, hB⟩ := hrel
    by_cases hlt : k < a.length
    · have hki : (k : Int) < (a.length : Int) := by omega
      go_wp2
      go_loopw [21] (fun j wr => ∃ (m : Nat) (L : List Bool), m ≤ b.length ∧ j = .int .i64 (m : Int) ∧ L.length = N ∧ Hid (nb L = prodAt a b k m) ∧ Hid (OB wr w.heap.size (.slice (some ⟨w.heap.size, 0, none⟩) L.length N) L) ∧ Below w.heap.size w wr) (fun j _ => b.length - (intOf j).toNat)
      case atStart => exact ⟨0, L, by omega, rfl, hLN, HP, HO, hB⟩
      case round =>
        clear HP HO hB hLN
        obtain ⟨m, L, hm, rfl, hLN, HP, HO, hB⟩ := hrel
        by_cases hlm : m < b.length
        · have hmi : (m : Int) < (b.length : Int) := by omega
          have c1 : wr.cell? ⟨ga, k, none⟩ = some (.bool (a.getD k false)) := by rw [hB.cell (p := ⟨ga, k, none⟩) hga]; exact HCA.out k hlt
          have c2 : wr.cell? ⟨gb, m, none⟩ = some (.bool (b.getD m false)) := by rw [hB.cell (p := ⟨gb, m, none⟩) hgb]; exact HCB.out m hlm
          have hkm : k + m < L.length := by rw [hLN]; exact HNK.out k m hlt hlm
          have c3 := HO.out.cell (k + m) hkm
          have f3 := HO.out.frozen (k + m)
          have HS : Hid _ := HO.out.set (k + m) (!L.getD (k + m) false)
          have HB2 : Hid (Below w.heap.size w (wr.setCell ⟨w.heap.size, k + m, none⟩ (.bool (!L.getD (k + m) false)))) := hB.setCell (by simp) _
          have HV : Hid (_ = _) := nb_set L (k + m) hkm
          have HY : Hid (_ → _ → _) := prodAt_yes a b k m
          have HNo : Hid (_ → _) := prodAt_no a b k m
          have hkN : (k : Int) + (m : Int) < (N : Int) := by omega
          have hk0 : (0 : Int) ≤ (k : Int) + (m : Int) := by omega
          have t1 : ((k : Int) + (m : Int)).toNat = k + m := by omega
          cases hax : a.getD k false
          · rw [hax] at c1
            have HE : Hid (nb L = prodAt a b k (m + 1)) := by rw [HNo.out (Or.inl hax)]; exact HP
            clear c2 c3 f3 HS HB2 HV HY HNo
            go_wp2
            go_roundw
            case rel => exact ⟨m + 1, L, by omega, by go_num, hLN, HE, HO, hB⟩
            case measure => simp [intOf]; omega
          · rw [hax] at c1
            cases hbx : b.getD m false
            · rw [hbx] at c2
              have HE : Hid (nb L = prodAt a b k (m + 1)) := by rw [HNo.out (Or.inr hbx)]; exact HP
              clear c3 f3 HS HB2 HV HY HNo
              go_wp2
              go_roundw
              case rel => exact ⟨m + 1, L, by omega, by go_num, hLN, HE, HO, hB⟩
              case measure => simp [intOf]; omega
            · rw [hbx] at c2
              have HE : Hid (nb (L.set (k + m) (!L.getD (k + m) false)) = prodAt a b k (m + 1)) := by rw [HY.out hax hbx, ← HP.out]; exact HV
              have hLN2 : (L.set (k + m) (!L.getD (k + m) false)).length = N := by rw [List.length_set, hLN]
              generalize hL2 : L.set (k + m) (!L.getD (k + m) false) = L2 at *
              clear HV HY HNo HO
              go_wp2
              go_roundw
              case rel => exact ⟨m + 1, L2, by omega, by go_num, hLN2, HE, HS, HB2.out⟩
              case measure => simp [intOf]; omega
        · have HE : Hid (nb L = prodAt a b (k + 1) 0) := by rw [← prodAt_row a b k m (by omega)]; exact HP
          go_wp2
          go_roundw
          case rel => exact ⟨k + 1, L, by omega, by go_num, hLN, HE, HO, hB⟩
          case measure => simp [intOf]; omega
    · have HE : Hid (nb L = cm (nb a) (nb b)) := by rw [← prodAt_end a b k (by omega)]; exact HP
      have HX : Hid (L.length = a.length + b.length) := by rw [hLN]; exact HN.out
      have HO2 := HO.out
      rw [hLN] at HO2
      have HO2 : Hid _ := HO2
      go_wp2
      go_ret
      exact ⟨_, L, rfl, HO2.out, HX.out, HE.out, hB⟩
end Go.Proofs.Ytnfemofighgenaa
