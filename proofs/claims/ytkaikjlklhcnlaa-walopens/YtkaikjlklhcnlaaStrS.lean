/- The law's Same. -/
import Derived.Test.YtkaikjlklhcnlaaStrT
import Derived.Deep.QuietTactic
namespace Go.Proofs.Ytkaikjlklhcnlaa
open Go.RowKit
set_option linter.unusedVariables false
set_option linter.unusedSimpArgs false

def sameN (l m : List (List UInt8)) : Int := if l = m then 0 else -1
theorem list_eq_of {l m : List (List UInt8)} (h : l.length = m.length) (k : Nat) (hk : l.length ≤ k) (ha : ∀ j, j < k → l.getD j [] = m.getD j []) : l = m := by
  apply List.ext_getElem h
  intro i h1 h2
  have := ha i (by omega)
  simpa [List.getD_eq_getElem?_getD, h1, h2] using this
set_option maxRecDepth 100000 in
set_option maxHeartbeats 1000000 in
theorem same_any (v u : Value) (l m : List (List UInt8)) (w : World) (hv : RS w v l) (hu : RS w u m) (hl : l.length ≤ 10000000) (hm : m.length ≤ 10000000) :
    Calls Try.prog 13 #[v, u] w fun e w' => e = .returned (.int .i64 (sameN l m)) ∧ ∃ n, w' = w.drewN n := by
  obtain ⟨a, ca, rfl, hA⟩ := hv
  obtain ⟨b, cb, rfl, hB⟩ := hu
  have HA : Hid _ := hA
  have HB : Hid _ := hB
  clear hA hB
  by_cases hlen : l.length = m.length
  · obtain ⟨q, HQ⟩ : ∃ q, Hid (l.length = q) := ⟨_, rfl⟩
    have HM : Hid (m.length = q) := by rw [← hlen]; exact HQ
    rw [HQ.out] at hl
    rw [show l.length = q from HQ.out, show m.length = q from HM.out]
    clear hlen hm
    have hne : ((q : Int) != (q : Int)) = false := by simp
    go_enter Try.func13, Try.ntmps13
    go_wp2
    go_loopw [13] (fun i wr => ∃ k n : Nat, k ≤ q ∧ i = .int .i64 (k : Int) ∧ Hid (∀ j, j < k → l.getD j [] = m.getD j []) ∧ wr = w.drewN n) (fun i _ => q - (intOf i).toNat)
    case atStart => exact ⟨0, 0, by omega, rfl, fun j hj => by omega, rfl⟩
    case round =>
      obtain ⟨k, n, hk, rfl, HE, rfl⟩ := hrel
      by_cases hlt : k < q
      · have hki : (k : Int) < (q : Int) := by omega
        obtain ⟨ga, rfl, hga, hca⟩ := HA.out (fun e => by have := HQ.out; rw [e] at this; simp at this; omega)
        obtain ⟨gb, rfl, hgb, hcb⟩ := HB.out (fun e => by have := HM.out; rw [e] at this; simp at this; omega)
        have c1 : w.cell? ⟨ga, k, none⟩ = _ := hca k (by rw [HQ.out]; exact hlt)
        have c2 : w.cell? ⟨gb, k, none⟩ = _ := hcb k (by rw [HM.out]; exact hlt)
        have hbq := mkT_beq (l.getD k []) (m.getD k [])
        clear hca hcb
        by_cases hx : l.getD k [] = m.getD k []
        · rw [decide_eq_true hx] at hbq
          have HE2 : Hid (∀ j, j < k + 1 → l.getD j [] = m.getD j []) := fun j hj => by
            by_cases e : j = k
            · rw [e]; exact hx
            · exact HE.out j (by omega)
          clear hx
          generalize mkT (l.getD k []) = X at *
          generalize mkT (m.getD k []) = Y at *
          go_wp2
          go_quiet (fail)
          go_wp2
          go_roundw
          case rel => exact ⟨k + 1, n + nq, by omega, by go_num, HE2, by first | rfl | exact World.drewN_drewN ..⟩
          case measure => simp [intOf]; omega
        · rw [decide_eq_false hx] at hbq
          have HR : Hid (sameN l m = -1) := by
            unfold Hid sameN
            rw [if_neg (fun e => hx (by rw [e]))]
          clear hx
          generalize mkT (l.getD k []) = X at *
          generalize mkT (m.getD k []) = Y at *
          go_wp2
          go_quiet (fail)
          go_wp2
          go_ret
          rw [HR.out]; exact ⟨rfl, n + nq, by first | rfl | exact World.drewN_drewN ..⟩
      · have HR : Hid (sameN l m = 0) := by
          unfold Hid sameN
          rw [if_pos (list_eq_of (by rw [HQ.out, HM.out]) k (by rw [HQ.out]; omega) HE.out)]
        go_wp2
        go_ret
        rw [HR.out]; exact ⟨rfl, _, rfl⟩
  · have hni : ((l.length : Int) == (m.length : Int)) = false := by rw [beq_eq_false_iff_ne]; omega
    have HR : Hid (sameN l m = -1) := by
      unfold Hid sameN
      rw [if_neg (fun e => hlen (by rw [e]))]
    clear hlen
    go_enter Try.func13, Try.ntmps13
    go_wp2
    go_ret
    rw [HR.out]; exact ⟨rfl, 0, rfl⟩
end Go.Proofs.Ytkaikjlklhcnlaa
