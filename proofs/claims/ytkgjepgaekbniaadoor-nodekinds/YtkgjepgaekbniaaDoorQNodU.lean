/- Contracts of node's inForm, Path and unfit. -/
import Derived.Test.YtkgjepgaekbniaaDoorQNodC
namespace Go.Proofs.YtkgjepgaekbniaaDoor
open Go.RowKit
set_option linter.unusedVariables false
set_option linter.unusedSimpArgs false

/-- A node whose texts are no longer than any that comes in. -/
def NB : Nd → Prop
  | .fol a m t => a.length ≤ 9223372036854775807
  | .pla a m t s c => a.length ≤ 9223372036854775807 ∧ -9223372036854775808 ≤ s ∧ s ≤ 9223372036854775807 ∧ c.length ≤ 9223372036854775807 ∧ ∀ x ∈ c, x.length ≤ 9223372036854775807
  | .sym a m t g => a.length ≤ 9223372036854775807 ∧ g.length ≤ 9223372036854775807
  | .ptr a m t => a.length ≤ 9223372036854775807
  | .non => True
theorem NB.at {n : Nd} (h : NB n) : (atN n).length ≤ 9223372036854775807 := by
  cases n with
  | fol => exact h
  | pla => exact h.1
  | sym => exact h.1
  | ptr => exact h
  | non => simp [atN]
set_option maxRecDepth 100000 in
set_option maxHeartbeats 1000000 in
theorem inForm_any (n : Nd) (v : Value) (w : World) (h : NV w v n) (hB : NB n) :
    Calls Tryd.prog 40 #[v] w fun e w' => e = .returned (.bool (formN n)) ∧ Below w.heap.size w w' := by
  cases n with
  | fol a m t =>
    obtain rfl := h
    have q1 := taFF
    go_enter Tryd.func40, Tryd.ntmps40
    go_wp2_with fail
    refine (dated_any m t _).mono ?_
    rintro e w1 ⟨rfl, rfl⟩
    go_wp2
    go_ret
    exact ⟨rfl, (Below.refl _ w).alloc (Nat.le_refl _) _⟩
  | pla a m t s c =>
    obtain ⟨u, rfl, hu⟩ := h
    obtain ⟨_, hs0, hs1, hcl, hxl⟩ := hB
    have q1 := taPF
    have q2 := taPP
    have HF : Hid (∀ W, Below w.heap.size w W → Calls _ _ _ W _) := fun W hb => filled_any s u c W hs0 hs1 (hu.below hb) hcl hxl
    unfold Hid at HF
    obtain ⟨ua, uc, rfl⟩ := hu.len
    have HE : Hid (formN (.pla a m t s c) = (datedN m t && filledN s c)) := rfl
    clear hu
    go_enter Tryd.func40, Tryd.ntmps40
    go_wp2_with fail
    refine (dated_any m t _).mono ?_
    rintro e w1 ⟨rfl, rfl⟩
    cases hd : datedN m t with
    | false =>
      go_wp2
      go_ret
      rw [HE.out, hd]
      exact ⟨rfl, (Below.refl _ w).alloc (Nat.le_refl _) _⟩
    | true =>
      go_wp2_with fail
      refine (HF _ ((Below.refl _ w).alloc (Nat.le_refl _) _)).mono ?_
      rintro e w1 ⟨rfl, rfl⟩
      go_wp2
      go_ret
      rw [HE.out, hd, Bool.true_and]
      exact ⟨rfl, (Below.refl _ w).alloc (Nat.le_refl _) _⟩
  | sym a m t g =>
    obtain rfl := h
    have q1 := taSF
    have q2 := taSP
    have q3 := taSS
    have HE : Hid (formN (.sym a m t g) = (datedN m t && targN g)) := rfl
    go_enter Tryd.func40, Tryd.ntmps40
    go_wp2_with fail
    refine (dated_any m t _).mono ?_
    rintro e w1 ⟨rfl, rfl⟩
    cases hd : datedN m t with
    | false =>
      go_wp2
      go_ret
      rw [HE.out, hd]
      exact ⟨rfl, (Below.refl _ w).alloc (Nat.le_refl _) _⟩
    | true =>
      go_wp2_with fail
      refine (target_any g _ hB.2).mono ?_
      rintro e w1 ⟨rfl, rfl⟩
      go_wp2
      go_ret
      rw [HE.out, hd, Bool.true_and]
      exact ⟨rfl, (Below.refl _ w).alloc (Nat.le_refl _) _⟩
  | ptr a m t =>
    obtain ⟨x, rfl, hx⟩ := h
    have q1 := taXF
    have q2 := taXP
    have q3 := taXS
    go_enter Tryd.func40, Tryd.ntmps40
    go_wp2
    go_ret
    exact ⟨rfl, Below.refl _ _⟩
  | non =>
    obtain rfl := h
    have q1 := taNF
    have q2 := taNP
    have q3 := taNS
    go_enter Tryd.func40, Tryd.ntmps40
    go_wp2
    go_ret
    exact ⟨rfl, Below.refl _ _⟩
set_option maxRecDepth 100000 in
set_option maxHeartbeats 400000 in
theorem pathF_any (a : List UInt8) (m t : Int) (w : World) : Calls Tryd.prog 95 #[.agg #[.string (mkB a), .int .i64 m, .int .i64 t]] w fun e w' => e = .returned (.string (mkB a)) ∧ Below w.heap.size w w' := by
  go_enter Tryd.func95, Tryd.ntmps95
  go_wp2
  go_ret
  exact ⟨rfl, (Below.refl _ w).alloc (Nat.le_refl _) _⟩
set_option maxRecDepth 100000 in
set_option maxHeartbeats 400000 in
theorem pathP_any (a : List UInt8) (m t s : Int) (u : Option Addr) (l c : Nat) (w : World) : Calls Tryd.prog 94 #[.agg #[.string (mkB a), .int .i64 m, .int .i64 t, .int .i64 s, .slice u l c]] w fun e w' => e = .returned (.string (mkB a)) ∧ Below w.heap.size w w' := by
  go_enter Tryd.func94, Tryd.ntmps94
  go_wp2
  go_ret
  exact ⟨rfl, (Below.refl _ w).alloc (Nat.le_refl _) _⟩
set_option maxRecDepth 100000 in
set_option maxHeartbeats 400000 in
theorem pathS_any (a : List UInt8) (m t : Int) (g : List UInt8) (w : World) : Calls Tryd.prog 96 #[.agg #[.string (mkB a), .int .i64 m, .int .i64 t, .string (mkB g)]] w fun e w' => e = .returned (.string (mkB a)) ∧ Below w.heap.size w w' := by
  go_enter Tryd.func96, Tryd.ntmps96
  go_wp2
  go_ret
  exact ⟨rfl, (Below.refl _ w).alloc (Nat.le_refl _) _⟩
theorem belN {a b c : World} (h : Below a.heap.size a b) (k : Below b.heap.size b c) : Below a.heap.size a c := h.trans (k.mono h.size)
theorem isB_any (l : List UInt8) (w : World) (hs : l.length ≤ 9223372036854775807) (hL : Lay11 w) :
    Calls Tryd.prog 39 #[.string (mkB l)] w fun e w' => e = .returned (.bool (isL l)) ∧ Below w.heap.size w w' := is_any l w hs hL
set_option maxRecDepth 100000 in
set_option maxHeartbeats 1000000 in
theorem unfit_any (n : Nd) (v : Value) (w : World) (h : NV w v n) (hB : NB n) (hL : Lay11 w) :
    Calls Tryd.prog 27 #[v] w fun e w' => e = .returned (.int .i64 (unfitN n)) ∧ Below w.heap.size w w' := by
  have hk := kindOf_any n v w h
  cases n with
  | fol a m t =>
    skip
    have HI : Hid (Calls _ _ _ _ _) := hk
    unfold Hid at HI
    simp only [kindN] at HI
    have HU : Hid (unfitN (.fol a m t) = if isL a = false then 11 else if formN (.fol a m t) = false then 4 else 0) := by unfold Hid unfitN; rw [if_neg (by simp [kindN])]; rfl
    have hal := NB.at hB
    simp only [atN] at hal
    have HF : Hid (∀ W, Below w.heap.size w W → Calls _ _ _ W _) := fun W hb => inForm_any _ _ W (NV.below h hb) hB
    unfold Hid at HF
    obtain rfl := h
    clear hk
    go_enter Tryd.func27, Tryd.ntmps27
    go_wp2_with fail
    refine (HI : Calls _ _ _ _ _).mono ?_
    rintro e w1 ⟨rfl, hw1⟩
    obtain rfl := hw1.symm
    clear HI
    go_wp2_with fail
    refine (pathF_any a m t _).mono ?_
    rintro e w2 ⟨rfl, hb2⟩
    go_wp2_with fail
    refine (isB_any a _ hal (hL.below hb2)).mono ?_
    rintro e w3 ⟨rfl, hb3⟩
    have HB3 : Hid (Below w.heap.size w w3) := belN hb2 hb3
    clear hb2 hb3
    cases hi : isL a with
    | false =>
      rw [hi, if_pos rfl] at HU
      go_wp2
      go_ret
      rw [HU.out]
      exact ⟨rfl, HB3.out⟩
    | true =>
      rw [hi, if_neg (by decide)] at HU
      go_wp2_with fail
      refine (HF _ HB3.out).mono ?_
      rintro e w4 ⟨rfl, hb4⟩
      generalize formN _ = F at *
      cases F with
      | false =>
        rw [if_pos rfl] at HU
        go_wp2
        go_ret
        rw [HU.out]
        exact ⟨rfl, belN HB3.out hb4⟩
      | true =>
        rw [if_neg (by decide)] at HU
        go_wp2
        go_ret
        rw [HU.out]
        exact ⟨rfl, belN HB3.out hb4⟩
  | pla a m t s c =>
    skip
    have HI : Hid (Calls _ _ _ _ _) := hk
    unfold Hid at HI
    simp only [kindN] at HI
    have HU : Hid (unfitN (.pla a m t s c) = if isL a = false then 11 else if formN (.pla a m t s c) = false then 4 else 0) := by unfold Hid unfitN; rw [if_neg (by simp [kindN])]; rfl
    have hal := NB.at hB
    simp only [atN] at hal
    have HF : Hid (∀ W, Below w.heap.size w W → Calls _ _ _ W _) := fun W hb => inForm_any _ _ W (NV.below h hb) hB
    unfold Hid at HF
    obtain ⟨u, rfl, hu⟩ := h
    obtain ⟨ua, uc, rfl⟩ := hu.len
    clear hu
    clear hk
    go_enter Tryd.func27, Tryd.ntmps27
    go_wp2_with fail
    refine (HI : Calls _ _ _ _ _).mono ?_
    rintro e w1 ⟨rfl, hw1⟩
    obtain rfl := hw1.symm
    clear HI
    go_wp2_with fail
    refine (pathP_any a m t s _ _ _ _).mono ?_
    rintro e w2 ⟨rfl, hb2⟩
    go_wp2_with fail
    refine (isB_any a _ hal (hL.below hb2)).mono ?_
    rintro e w3 ⟨rfl, hb3⟩
    have HB3 : Hid (Below w.heap.size w w3) := belN hb2 hb3
    clear hb2 hb3
    cases hi : isL a with
    | false =>
      rw [hi, if_pos rfl] at HU
      go_wp2
      go_ret
      rw [HU.out]
      exact ⟨rfl, HB3.out⟩
    | true =>
      rw [hi, if_neg (by decide)] at HU
      go_wp2_with fail
      refine (HF _ HB3.out).mono ?_
      rintro e w4 ⟨rfl, hb4⟩
      generalize formN _ = F at *
      cases F with
      | false =>
        rw [if_pos rfl] at HU
        go_wp2
        go_ret
        rw [HU.out]
        exact ⟨rfl, belN HB3.out hb4⟩
      | true =>
        rw [if_neg (by decide)] at HU
        go_wp2
        go_ret
        rw [HU.out]
        exact ⟨rfl, belN HB3.out hb4⟩
  | sym a m t g =>
    skip
    have HI : Hid (Calls _ _ _ _ _) := hk
    unfold Hid at HI
    simp only [kindN] at HI
    have HU : Hid (unfitN (.sym a m t g) = if isL a = false then 11 else if formN (.sym a m t g) = false then 4 else 0) := by unfold Hid unfitN; rw [if_neg (by simp [kindN])]; rfl
    have hal := NB.at hB
    simp only [atN] at hal
    have HF : Hid (∀ W, Below w.heap.size w W → Calls _ _ _ W _) := fun W hb => inForm_any _ _ W (NV.below h hb) hB
    unfold Hid at HF
    obtain rfl := h
    clear hk
    go_enter Tryd.func27, Tryd.ntmps27
    go_wp2_with fail
    refine (HI : Calls _ _ _ _ _).mono ?_
    rintro e w1 ⟨rfl, hw1⟩
    obtain rfl := hw1.symm
    clear HI
    go_wp2_with fail
    refine (pathS_any a m t g _).mono ?_
    rintro e w2 ⟨rfl, hb2⟩
    go_wp2_with fail
    refine (isB_any a _ hal (hL.below hb2)).mono ?_
    rintro e w3 ⟨rfl, hb3⟩
    have HB3 : Hid (Below w.heap.size w w3) := belN hb2 hb3
    clear hb2 hb3
    cases hi : isL a with
    | false =>
      rw [hi, if_pos rfl] at HU
      go_wp2
      go_ret
      rw [HU.out]
      exact ⟨rfl, HB3.out⟩
    | true =>
      rw [hi, if_neg (by decide)] at HU
      go_wp2_with fail
      refine (HF _ HB3.out).mono ?_
      rintro e w4 ⟨rfl, hb4⟩
      generalize formN _ = F at *
      cases F with
      | false =>
        rw [if_pos rfl] at HU
        go_wp2
        go_ret
        rw [HU.out]
        exact ⟨rfl, belN HB3.out hb4⟩
      | true =>
        rw [if_neg (by decide)] at HU
        go_wp2
        go_ret
        rw [HU.out]
        exact ⟨rfl, belN HB3.out hb4⟩
  | ptr a m t =>
    have HI : Hid (Calls _ _ _ _ _) := hk
    unfold Hid at HI
    simp only [kindN] at HI
    have HU : Hid (unfitN (.ptr a m t) = 12) := rfl
    obtain ⟨x, rfl, _⟩ := h
    clear hk
    go_enter Tryd.func27, Tryd.ntmps27
    go_wp2_with fail
    refine (HI : Calls _ _ _ _ _).mono ?_
    rintro e w1 ⟨rfl, hw1⟩
    obtain rfl := hw1.symm
    go_wp2
    go_ret
    rw [HU.out]
    exact ⟨rfl, Below.refl _ _⟩
  | non =>
    have HI : Hid (Calls _ _ _ _ _) := hk
    unfold Hid at HI
    simp only [kindN] at HI
    have HU : Hid (unfitN .non = 12) := rfl
    obtain rfl := h
    clear hk
    go_enter Tryd.func27, Tryd.ntmps27
    go_wp2_with fail
    refine (HI : Calls _ _ _ _ _).mono ?_
    rintro e w1 ⟨rfl, hw1⟩
    obtain rfl := hw1.symm
    go_wp2
    go_ret
    rw [HU.out]
    exact ⟨rfl, Below.refl _ _⟩
end Go.Proofs.YtkgjepgaekbniaaDoor
