/- Contract: walk's Size over any items (the sum wraps). -/
import Derived.Test.YtmjfcneofpddiaaDoorQOpsI
import Derived.Deep.QuietTactic
namespace Go.Proofs.YtmjfcneofpddiaaDoor
open Go.RowKit Go.Maps
set_option linter.unusedVariables false
set_option linter.unusedSimpArgs false

def addW (s : Int) (x : It) : Int := if x.k = 2 then wrap64 (s + (x.d.length : Int)) else s
def sizeW (l : List It) : Int := l.foldl addW 0
theorem sizeW_snoc (l : List It) (x : It) : sizeW (l ++ [x]) = addW (sizeW l) x := by simp [sizeW, List.foldl_append]
set_option maxRecDepth 100000 in
set_option maxHeartbeats 2000000 in
theorem sizeW_any (v : Value) (l : List It) (w : World) (hR : IV w v l) (hl : l.length ≤ 1000000) :
    Calls Tryd.prog 14 #[v] w fun e w' => e = .returned (.int .i64 (sizeW l)) ∧ Below w.heap.size w w' := by
  have HIV : Hid (IV w v l) := hR
  obtain ⟨a0, cap, rfl, -, -, -⟩ := hR
  obtain ⟨n, hn⟩ : ∃ n, n = l.length := ⟨_, rfl⟩
  have HN : Hid (n = l.length) := hn
  rw [← hn] at hl HIV
  rw [← hn]
  clear hn
  go_enter Tryd.func14, Tryd.ntmps14
  go_wp2
  go_loopw [3, 8] (fun s i wr => ∃ (k : Nat), k ≤ n ∧ i = .int .i64 (k : Int) ∧ s = .int .i64 (sizeW (l.take k)) ∧ Below w.heap.size w wr) (fun _ i _ => n - (intOf i).toNat)
  case atStart => exact ⟨0, Nat.zero_le _, rfl, rfl, Below.refl _ _⟩
  case round =>
    obtain ⟨k, hk, rfl, rfl, hb⟩ := hrel
    have HB : Hid (Below w.heap.size w wr) := hb
    clear hb
    by_cases hlt : k < n
    · obtain ⟨x, hx⟩ : ∃ x, l[k]? = some x := ⟨_, List.getElem?_eq_getElem (by rw [← HN.out]; exact hlt)⟩
      have hlti : (k : Int) < (n : Int) := by omega
      obtain ⟨g, o, rfl, hg, -, hcap, c0, c1, c2, c3, c4⟩ := (HIV.out.below HB.out).at hx
      have hT : sizeW (l.take (k + 1)) = addW (sizeW (l.take k)) x := by rw [List.take_add_one, hx]; exact sizeW_snoc _ _
      unfold addW at hT
      have hzo := zeroIt
      have hds := mkB_size x.d
      have HB2 : Hid (Below w.heap.size w (wr.alloc (.cells #[.string (mkB x.p), .int .i64 x.k, .int .i64 x.m, .int .i64 x.t, .string (mkB x.d)] 25))) := HB.out.alloc HB.out.size _
      by_cases hk2 : x.k = 2
      · rw [if_pos hk2] at hT
        rw [hk2] at c1 HB2
        obtain ⟨s0, hs0⟩ : ∃ s0, s0 = sizeW (l.take k) := ⟨_, rfl⟩
        obtain ⟨dl, hdl⟩ : ∃ dl, dl = x.d.length := ⟨_, rfl⟩
        rw [← hs0] at hT
        rw [← hdl] at hT hds
        have HT : Hid (sizeW (l.take (k + 1)) = wrap64 (s0 + (dl : Int))) := hT
        rw [← hs0]
        clear hT hs0 hdl hk2
        generalize mkB x.p = XP at *
        generalize mkB x.d = XD at *
        generalize x.m = xm at *
        generalize x.t = xt at *
        go_wp2
        go_roundw
        case rel => exact ⟨k + 1, by omega, by go_num, by rw [HT.out, ← hds], HB2.out⟩
        case measure => simp [intOf]; omega
      · rw [if_neg hk2] at hT
        have hkb : (x.k == 2) = false := by rw [beq_eq_false_iff_ne]; exact hk2
        have HT : Hid (sizeW (l.take (k + 1)) = sizeW (l.take k)) := hT
        clear hT hk2
        obtain ⟨s0, hs0⟩ : ∃ s0, s0 = sizeW (l.take k) := ⟨_, rfl⟩
        rw [← hs0] at HT
        rw [← hs0]
        clear hs0
        generalize mkB x.p = XP at *
        generalize mkB x.d = XD at *
        generalize x.m = xm at *
        generalize x.t = xt at *
        generalize x.k = xk at *
        go_wp2
        go_roundw
        case rel => exact ⟨k + 1, by omega, by go_num, by rw [HT.out], HB2.out⟩
        case measure => simp [intOf]; omega
    · have hlti : ¬ (k : Int) < (n : Int) := by omega
      have HE : Hid (sizeW (l.take k) = sizeW l) := by unfold Hid; rw [List.take_of_length_le (by rw [← HN.out]; omega)]
      go_wp2
      go_ret
      rw [HE.out]
      exact ⟨rfl, HB.out⟩
end Go.Proofs.YtmjfcneofpddiaaDoor
