/- What the document fixes of layer 17. -/
import Derived.Test.YtpfjcdfhlcnlcaaIdxL
namespace Go.Proofs.Ytpfjcdfhlcnlcaa
open Go.RowKit Go.Maps
set_option linter.unusedVariables false
set_option linter.unusedSimpArgs false

/-- Others hold a new block. -/
theorem IX.more {w : World} {x : Nat} {K : Nat → Prop} {ps : List (List UInt8)} {F : As Pl} (h : IX w x K ps F) (o : Obj) : IX (w.alloc o) x (fun k => K k ∨ k = w.heap.size) ps F :=
  h.kept (fun k hk _ => Below.heap_alloc _ _ _ hk) (fun k hk => by
    rcases hk with hk | rfl
    · exact ⟨by have := h.Kb k hk; simp; omega, .inl hk⟩
    · exact ⟨by simp, .inr (Nat.le_refl _)⟩)
/-- Others hold all that is new. -/
theorem IX.all {w w' : World} {x : Nat} {K : Nat → Prop} {ps : List (List UInt8)} {F : As Pl} (h : IX w x K ps F) (hb : Below w.heap.size w w') : IX w' x (fun k => K k ∨ (w.heap.size ≤ k ∧ k < w'.heap.size)) ps F :=
  h.kept (fun k hk _ => hb.block k hk) (fun k hk => by
    rcases hk with hk | hk
    · exact ⟨Nat.lt_of_lt_of_le (h.Kb k hk) hb.size, .inl hk⟩
    · exact ⟨hk.2, .inr hk.1⟩)
/-- A new index. -/
theorem IX.zero (w : World) : IX (w.alloc (.cells #[.map none, .map none] 27)) w.heap.size (fun k => k < w.heap.size) [] [] :=
  .inr ⟨fun k hk => by simp; omega, Nat.lt_irrefl _, heap_alloc_new _ _, rfl, rfl⟩
theorem hv_made {w : World} {b : Nat} {K : Nat → Prop} (l : List Hd) {arr : Array Value} {T : TypeId} (h : w.heap[b]? = some (.cells arr T (0, 0))) (ha : arr.toList = hdsC l) (hK : K b) : HV w K (.slice (some ⟨b, 0, none⟩) l.length l.length) l := by
  refine ⟨_, _, rfl, Nat.le_refl _, fun _ => ⟨b, 0, rfl, hK, (Array.getElem?_eq_some_iff.1 h).1, fun j u hu => ?_⟩⟩
  rw [Nat.zero_add, cell_of_row _ _ _ _ _ _ h, ← Array.getElem?_toList, ha]; exact hu
def aH : Hd := ⟨[97], 0, 0, 0, 0, 0⟩
def bH : Hd := ⟨[98], 0, 0, 0, 0, 0⟩
theorem vb_small (x : Nat) (h : x < 128) : vb x = [UInt8.ofNat x] := by unfold vb; rw [varN_small h]; rfl
theorem enc00 : encI [] [] = [0, 0] := by
  have h1 : nmA ([] : As Pl) = [] := by unfold nmA; simp
  unfold encI
  rw [h1]
  simp only [List.length_nil, List.map_nil, List.flatten_nil, List.append_nil]
  rw [vb_small 0 (by decide)]; rfl
theorem lkab : lkA (adH [113] (adH [112] [] [aH]) [aH, bH]) [97] = some ⟨[112], aH⟩ ∧ lkA (adH [113] (adH [112] [] [aH]) [aH, bH]) [98] = some ⟨[113], bH⟩ := ⟨rfl, rfl⟩
set_option maxRecDepth 100000 in
set_option maxHeartbeats 4000000 in
theorem awake17_any (w : World) :
    Calls Try.prog 10 #[] w fun e w' => e = .returned (.bool true) ∧ Below w.heap.size w w' := by
  have hzp := zeroPl
  have hzh := zeroHd
  have hzi := zeroIx
  obtain ⟨W1, hW1⟩ : ∃ W1, W1 = w.alloc (.cells #[.map none, .map none] 27) := ⟨_, rfl⟩
  have hI1 : IX W1 w.heap.size (fun k => k < w.heap.size) [] [] := by rw [hW1]; exact IX.zero w
  have hs1 : W1.heap.size = w.heap.size + 1 := by rw [hW1]; simp
  have hI2 := hI1.more (.cells (hdV aH) 38)
  have hV2 : HV (W1.alloc (.cells (hdV aH) 38)) (fun k => k < w.heap.size ∨ k = W1.heap.size) (.slice (some ⟨W1.heap.size, 0, none⟩) 1 1) [aH] := hv_made [aH] (heap_alloc_new W1 _) rfl (.inr rfl)
  have HC1 : Hid (Calls Try.prog _ _ _ _) := add_any [112] _ [aH] _ hI2 hV2 (by decide) (by decide) (by decide) (by decide)
  go_enter Try.func10, Try.ntmps10
  go_wp2_with fail
  rw [show (w.alloc (.cells #[.map none, .map none] 27)).alloc (.cells #[.string ⟨#[97]⟩, .int .i64 0, .int .u32 0, .int .i64 0, .int .i64 0, .int .i64 0] 38) = W1.alloc (.cells (hdV aH) 38) from by rw [hW1]; rfl, show w.heap.size + 1 = W1.heap.size from hs1.symm]
  refine HC1.out.mono ?_
  rintro e w2 ⟨rfl, hI3, hk3⟩
  have hz2 := hk3.size
  simp only [World.size_alloc] at hz2
  have HK3 : Hid (Keeps (fun k => k < w.heap.size) w w2) := ((Keeps.of_below (show Below w.heap.size w (W1.alloc (.cells (hdV aH) 38)) by rw [hW1]; exact ((Below.refl _ w).alloc (Nat.le_refl _) _).alloc (by simp) _) (fun k hk => hk)).trans (hk3.mono (fun k hk => .inl hk)))
  have hI4 := hI3.more (.cells #[.string ⟨#[97]⟩, .int .i64 0, .int .u32 0, .int .i64 0, .int .i64 0, .int .i64 0, .string ⟨#[98]⟩, .int .i64 0, .int .u32 0, .int .i64 0, .int .i64 0, .int .i64 0] 38)
  have hV4 : HV (w2.alloc (.cells #[.string ⟨#[97]⟩, .int .i64 0, .int .u32 0, .int .i64 0, .int .i64 0, .int .i64 0, .string ⟨#[98]⟩, .int .i64 0, .int .u32 0, .int .i64 0, .int .i64 0, .int .i64 0] 38)) (fun k => (k < w.heap.size ∨ k = W1.heap.size) ∨ k = w2.heap.size) (.slice (some ⟨w2.heap.size, 0, none⟩) 2 2) [aH, bH] := hv_made [aH, bH] (heap_alloc_new w2 _) rfl (.inr rfl)
  have HC2 : Hid (Calls Try.prog _ _ _ _) := add_any [113] _ [aH, bH] _ hI4 hV4 (by decide) (by decide) (by decide) (by decide)
  clear HC1 hI1 hI2 hV2 hI3 hk3 hI4 hV4
  go_wp2_with fail
  refine HC2.out.mono ?_
  rintro e w3 ⟨rfl, hI5, hk5⟩
  have HK5 : Hid (Keeps (fun k => k < w.heap.size) w w3) := (HK3.out.alloc (fun k hk => by omega) _).trans (hk5.mono (fun k hk => .inl (.inl hk)))
  obtain ⟨m1, m2, hX⟩ := hI5.o
  have HX : Hid (IXo w3 w.heap.size m1 m2 (adP (adP [] [112]) [113]) (adH [113] (adH [112] [] [aH]) [aH, bH])) := hX
  clear HC2 HK3 hI5 hk5 hX
  go_wp2_with fail
  refine (find_any [97] w3 HX.out (by decide)).mono ?_
  rw [lkab.1]
  rintro e w4 ⟨rfl, hb4⟩
  have HX4 : Hid (IXo w4 w.heap.size m1 m2 (adP (adP [] [112]) [113]) (adH [113] (adH [112] [] [aH]) [aH, bH])) := HX.out.below hb4
  have HK4 : Hid (Keeps (fun k => k < w.heap.size) w w4) := HK5.out.trans (Keeps.of_below hb4 (fun k hk => by have := HK5.out.size; omega))
  clear HX HK5 hb4
  simp only [Option.getD_some, Option.isSome_some, plV, aH]
  obtain ⟨W5, hW5⟩ : ∃ W5, W5 = w4.alloc (.cells #[.string (mkB [112]), .string (mkB [97]), .int .i64 0, .int .u32 0, .int .i64 0, .int .i64 0, .int .i64 0] 43) := ⟨_, rfl⟩
  have hb5 : Below w4.heap.size w4 W5 := by rw [hW5]; exact (Below.refl _ w4).alloc (Nat.le_refl _) _
  have HX5 : Hid (IXo W5 w.heap.size m1 m2 (adP (adP [] [112]) [113]) (adH [113] (adH [112] [] [aH]) [aH, bH])) := HX4.out.below hb5
  have HK5 : Hid (Keeps (fun k => k < w.heap.size) w W5) := HK4.out.trans (Keeps.of_below hb5 (fun k hk => by have := HK4.out.size; omega))
  have hN5 : W5.heap[w4.heap.size]? = some (.cells #[.string (mkB [112]), .string (mkB [97]), .int .i64 0, .int .u32 0, .int .i64 0, .int .i64 0, .int .i64 0] 43 (0, 0)) := by rw [hW5]; exact heap_alloc_new _ _
  have HN5 : Hid (W5.heap[w4.heap.size]? = some (.cells #[.string (mkB [112]), .string (mkB [97]), .int .i64 0, .int .u32 0, .int .i64 0, .int .i64 0, .int .i64 0] 43 (0, 0))) := hN5
  clear hb5 hN5
  go_wp2_with fail
  rw [← hW5]
  clear hW5
  refine (find_any [98] W5 HX5.out (by decide)).mono ?_
  rw [lkab.2]
  rintro e w6 ⟨rfl, hb6⟩
  have HK6 : Hid (Keeps (fun k => k < w.heap.size) w w6) := HK5.out.trans (Keeps.of_below hb6 (fun k hk => by have := HK5.out.size; omega))
  have HN6 : Hid (w6.heap[w4.heap.size]? = some (.cells #[.string (mkB [112]), .string (mkB [97]), .int .i64 0, .int .u32 0, .int .i64 0, .int .i64 0, .int .i64 0] 43 (0, 0))) := (hb6.block _ (Array.getElem?_eq_some_iff.1 HN5.out).1).trans HN5.out
  simp only [Option.getD_some, Option.isSome_some, plV, bH]
  clear hb6 HX5 HK5 HN5 HX4 HK4
  obtain ⟨W7, hW7⟩ : ∃ W7, W7 = (w6.alloc (.cells #[.string (mkB [113]), .string (mkB [98]), .int .i64 0, .int .u32 0, .int .i64 0, .int .i64 0, .int .i64 0] 43)).alloc (.cells #[.map none, .map none] 27) := ⟨_, rfl⟩
  have hb7 : Below w6.heap.size w6 W7 := by rw [hW7]; exact ((Below.refl _ w6).alloc (Nat.le_refl _) _).alloc (by simp) _
  have hl4 : w4.heap.size < w6.heap.size := (Array.getElem?_eq_some_iff.1 HN6.out).1
  have c40 : W7.cell? ⟨w4.heap.size, 0, none⟩ = some (.string (mkB [112])) := (cell_of_row _ _ _ _ _ _ ((hb7.block _ hl4).trans HN6.out)).trans rfl
  have c60 : W7.cell? ⟨w6.heap.size, 0, none⟩ = some (.string (mkB [113])) := (cell_of_row _ _ _ _ _ _ (show W7.heap[w6.heap.size]? = _ by rw [hW7]; exact (Below.heap_alloc _ _ _ (by simp)).trans (heap_alloc_new _ _))).trans rfl
  have HK7 : Hid (Keeps (fun k => k < w.heap.size) w W7) := HK6.out.trans (Keeps.of_below hb7 (fun k hk => by have := HK6.out.size; omega))
  have HX7 : Hid (IXo W7 (w6.heap.size + 1) none none [] []) := by
    refine ⟨?_, .inl ⟨rfl, rfl⟩, .inl ⟨rfl, rfl⟩⟩
    rw [hW7]; have h9 := heap_alloc_new (w6.alloc (.cells #[.string (mkB [113]), .string (mkB [98]), .int .i64 0, .int .u32 0, .int .i64 0, .int .i64 0, .int .i64 0] 43)) (.cells #[.map none, .map none] 27)
    rw [World.size_alloc] at h9; exact h9
  have he1 := mkB_toList [112]
  have he2 := mkB_toList [113]
  have he3 := mkB_toList [0, 0]
  clear hb7 HN6 HK6
  go_upto_region 7 with fail
  rw [← hW7]
  clear hW7
  go_wp2_with fail
  have hE : (encI [] []).length ≤ 1000000000 := by rw [enc00]; decide
  refine (encode_any W7 HX7.out List.nodup_nil (fun y p h => by cases h) (by decide) (by decide) hE).mono ?_
  rw [enc00]
  rintro e w8 ⟨rfl, hb8⟩
  have HB8 : Hid (Below w.heap.size w w8) := (Keeps.trans HK7.out (Keeps.of_below hb8 (fun k hk => by have := HK7.out.size; omega))).below
  clear hb8
  go_wp2
  go_ret
  exact ⟨rfl, HB8.out⟩
end Go.Proofs.Ytpfjcdfhlcnlcaa
