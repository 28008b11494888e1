/- Manifests, in plain words: which are in form, and their bytes. Then contracts: filled, inForm, Check. -/
import Derived.Test.YtecpapifkbfblaaDoorRows
import Derived.Test.YtecpapifkbfblaaDoorMnN
import Derived.Test.YtecpapifkbfblaaDoorIsD
import Derived.Test.YtecpapifkbfblaaDoorIdxR
namespace Go.Proofs.YtecpapifkbfblaaDoor
open Go.RowKit
set_option linter.unusedVariables false

/-- A manifest. -/
structure Mf where
  t : Int
  g : List UInt8
  p : List UInt8
  s : Int
  ch : List (List UInt8)
/-- May so many bytes have these chunks? -/
def filB (s : Int) (ch : List (List UInt8)) : Bool := decide (s ≤ 4194304) && decide (1 ≤ ch.length) && decide ((ch.length : Int) ≤ s) && ch.all (fun c => decide (c.length = 32))
/-- Is it in form? -/
def Mf.form (m : Mf) : Bool := decide (0 ≤ m.t) && decide (m.t ≤ 253402300799) && (m.g.isEmpty || nameL m.g) && (m.p.isEmpty || isNm m.p) && filB m.s m.ch
/-- Its bytes. -/
def encM (m : Mf) : List UInt8 := [115, 110, 97, 112] ++ vb m.t.toNat ++ txB m.g ++ txB m.p ++ vb m.s.toNat ++ vb m.ch.length ++ m.ch.flatten
/-- v is a slice of these texts. -/
def TX (w : World) (v : Value) (l : List (List UInt8)) : Prop := ∃ a cap, v = .slice a l.length cap ∧ l.length ≤ cap ∧ (l ≠ [] → ∃ g o, a = some ⟨g, o, none⟩ ∧ g < w.heap.size ∧ ∀ i, i < l.length → w.cell? ⟨g, o + i, none⟩ = some (.string (mkB (l.getD i []))))
theorem TX.below {w w' : World} {v : Value} {l : List (List UInt8)} (h : TX w v l) (hb : Below w.heap.size w w') : TX w' v l := by
  obtain ⟨a, cap, rfl, hc, hf⟩ := h
  refine ⟨a, cap, rfl, hc, fun hne => ?_⟩
  obtain ⟨g, o, rfl, hg, hh⟩ := hf hne
  exact ⟨g, o, rfl, Nat.lt_of_lt_of_le hg hb.size, fun i hi => by rw [hb.cell (p := ⟨g, o + i, none⟩) hg]; exact hh i hi⟩
/-- What an int and texts can be. -/
structure Mf.fit (m : Mf) : Prop where
  t : -9223372036854775808 ≤ m.t ∧ m.t ≤ 9223372036854775807
  g : m.g.length ≤ 9223372036854775807
  p : m.p.length ≤ 9223372036854775807
  s : -9223372036854775808 ≤ m.s ∧ m.s ≤ 9223372036854775807
  n : m.ch.length ≤ 9223372036854775807
  c : ∀ x ∈ m.ch, x.length ≤ 9223372036854775807
/-- A manifest, as a value. -/
def mfV (m : Mf) (v : Value) : Value := .agg #[.int .i64 m.t, .string (mkB m.g), .string (mkB m.p), .int .i64 m.s, v]
set_option maxRecDepth 100000 in
set_option maxHeartbeats 400000 in
theorem isd_big (l : List UInt8) (w : World) (hs : l.length ≤ 9223372036854775807) :
    Calls Tryd.prog 53 #[.string (mkB l)] w fun e w' => e = .returned (.bool (isNm l)) ∧ Below w.heap.size w w' := by
  by_cases h64 : l.length = 64
  · exact isd_any l w (by omega)
  · have hz := mkB_size l
    go_enter Tryd.func53, Tryd.ntmps53
    have HB : Hid (isNm l = false) := by unfold Hid isNm; simp [h64]
    have hz2 : ¬ (mkB l).size = 64 := by rw [hz]; exact h64
    have hz3 : ((l.length : Int) == 64) = false := by rw [beq_eq_false_iff_ne]; omega
    go_wp2_with fail
    go_ret
    exact ⟨by rw [HB.out]; rfl, Below.refl _ _⟩
theorem filB_no {s : Int} {ch : List (List UInt8)} {k : Nat} (hk : k < ch.length) (h : (ch.getD k []).length ≠ 32) : filB s ch = false := by
  have : ch.all (fun c => decide (c.length = 32)) = false := by
    rw [List.all_eq_false]
    refine ⟨ch.getD k [], ?_, by simpa using h⟩
    rw [List.getD_eq_getElem?_getD, List.getElem?_eq_getElem hk]
    exact List.getElem_mem hk
  unfold filB; rw [this]; simp
theorem filB_yes {s : Int} {ch : List (List UInt8)} (h1 : s ≤ 4194304) (h2 : 1 ≤ ch.length) (h3 : (ch.length : Int) ≤ s) (h : ∀ j, j < ch.length → (ch.getD j []).length = 32) : filB s ch = true := by
  have : ch.all (fun c => decide (c.length = 32)) = true := by
    rw [List.all_eq_true]
    intro x hx
    obtain ⟨j, hj, rfl⟩ := List.getElem_of_mem hx
    have := h j hj
    rw [List.getD_eq_getElem?_getD, List.getElem?_eq_getElem hj] at this
    simpa using this
  unfold filB; rw [this]; simp [h1, h2, h3]
set_option maxRecDepth 100000 in
set_option maxHeartbeats 400000 in
theorem filled_any (s : Int) (ch : List (List UInt8)) (v : Value) (w : World) (hT : TX w v ch) (hs : -9223372036854775808 ≤ s ∧ s ≤ 9223372036854775807) (hn : ch.length ≤ 9223372036854775807) (hc : ∀ x ∈ ch, x.length ≤ 9223372036854775807) :
    Calls Tryd.prog 54 #[.int .i64 s, v] w fun e w' => e = .returned (.bool (filB s ch)) ∧ w' = w := by
  obtain ⟨a, cap, rfl, hcap, hf⟩ := hT
  have HC : Hid (∀ x ∈ ch, x.length ≤ 9223372036854775807) := hc
  clear hc
  by_cases h1 : s ≤ 4194304
  · by_cases h2 : 1 ≤ ch.length
    · by_cases h3 : (ch.length : Int) ≤ s
      · obtain ⟨g, o, rfl, hg, hh⟩ := hf (by intro e; rw [e] at h2; simp at h2)
        have HH : Hid (∀ i, i < ch.length → w.cell? ⟨g, o + i, none⟩ = some (.string (mkB (ch.getD i [])))) := hh
        have HY : Hid ((∀ j, j < ch.length → (ch.getD j []).length = 32) → filB s ch = true) := fun h => filB_yes h1 h2 h3 h
        have HN : Hid (∀ k, k < ch.length → (ch.getD k []).length ≠ 32 → filB s ch = false) := fun k hk h => filB_no hk h
        have HL : Hid (∀ k, k < ch.length → (ch.getD k []).length ≤ 9223372036854775807) := fun k hk => HC.out _ (by rw [List.getD_eq_getElem?_getD, List.getElem?_eq_getElem hk]; exact List.getElem_mem hk)
        clear hh hf HC
        generalize hfb : filB s ch = R at *
        clear hfb
        generalize ch.length = n at *
        have h2i : ¬ (n : Int) < 1 := by omega
        go_enter Tryd.func54, Tryd.ntmps54
        go_wp2
        go_loopw [22] (fun i wr => ∃ k : Nat, k ≤ n ∧ i = .int .i64 (k : Int) ∧ (∀ j, j < k → (ch.getD j []).length = 32) ∧ wr = w) (fun i _ => n - (intOf i).toNat)
        case atStart => exact ⟨0, Nat.zero_le _, rfl, fun j hj => absurd hj (Nat.not_lt_zero _), rfl⟩
        case round =>
          obtain ⟨k, hk, rfl, hall, hw⟩ := hrel
          subst hw
          have HA : Hid (∀ j, j < k → (ch.getD j []).length = 32) := hall
          clear hall
          by_cases hlt : k < n
          · have hcl := HH.out k hlt
            have hli : (k : Int) < (n : Int) := by omega
            have hzl := HL.out k hlt
            have hno := HN.out k hlt
            have hsz := mkB_size (ch.getD k [])
            obtain ⟨C, hC⟩ : ∃ C, C = ch.getD k [] := ⟨_, rfl⟩
            rw [← hC] at hcl hzl hno hsz
            have HCC : Hid (C = ch.getD k []) := hC
            clear hC
            have HZ0 : Hid (C.length = (ch.getD k []).length) := by unfold Hid; rw [HCC.out]
            generalize mkB C = B at *
            generalize C.length = z at *
            by_cases h32 : z = 32
            · have HZ : Hid (∀ j, j < k + 1 → (ch.getD j []).length = 32) := fun j hj => by
                rcases Nat.lt_succ_iff_lt_or_eq.1 hj with h | rfl
                · exact HA.out j h
                · exact HZ0.out.symm.trans h32
              subst h32
              clear HN HL HY hno HA HZ0
              go_wp2
              go_roundw
              case rel => exact ⟨k + 1, by omega, by go_num, HZ.out, by first | rfl | trivial⟩
              case measure => simp [intOf]; omega
            · have HE : Hid (R = false) := hno h32
              have h32i : ¬ (z : Int) = 32 := by omega
              have h32j : ((z : Int) != 32) = true := by simpa using h32i
              clear HN HL HY hno HA
              go_wp2
              go_ret
              exact ⟨by rw [HE.out]; rfl, by first | rfl | trivial⟩
          · have HE : Hid (R = true) := HY.out (fun j hj => HA.out j (by omega))
            have hli : ¬ (k : Int) < (n : Int) := by omega
            clear HN HL HY HA
            go_wp2
            go_ret
            exact ⟨by rw [HE.out]; rfl, by first | rfl | trivial⟩
      · have HE : Hid (filB s ch = false) := by unfold Hid filB; simp [h3]
        have h2i : ¬ (ch.length : Int) < 1 := by omega
        generalize filB s ch = R at *
        go_enter Tryd.func54, Tryd.ntmps54
        go_wp2
        go_ret
        exact ⟨by rw [HE.out]; rfl, rfl⟩
    · have HE : Hid (filB s ch = false) := by unfold Hid filB; simp [h2]
      have h2i : (ch.length : Int) < 1 := by omega
      generalize filB s ch = R at *
      go_enter Tryd.func54, Tryd.ntmps54
      go_wp2
      go_ret
      exact ⟨by rw [HE.out]; rfl, rfl⟩
  · have HE : Hid (filB s ch = false) := by unfold Hid filB; simp [h1]
    generalize filB s ch = R at *
    go_enter Tryd.func54, Tryd.ntmps54
    go_wp2
    go_ret
    exact ⟨by rw [HE.out]; rfl, rfl⟩
end Go.Proofs.YtecpapifkbfblaaDoor
