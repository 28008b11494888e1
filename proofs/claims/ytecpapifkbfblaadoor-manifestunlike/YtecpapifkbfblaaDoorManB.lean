/- Contracts: Check, number, text, Encode. -/
import Derived.Test.YtecpapifkbfblaaDoorManA
import Derived.Test.YtecpapifkbfblaaDoorVar
import Derived.Test.YtecpapifkbfblaaDoorBsM
import Derived.Deep.RegionHeld3
namespace Go.Proofs.YtecpapifkbfblaaDoor
open Go.RowKit
set_option linter.unusedVariables false

set_option maxRecDepth 100000 in
set_option maxHeartbeats 400000 in
theorem check_c (m : Mf) (v : Value) (w : World) (hF : m.fit) (hT : TX w v m.ch) (hL : Lay11 w) (r : Int) (hr : r = if m.form then 0 else 4) :
    Calls Tryd.prog 23 #[mfV m v] w fun e w' => e = .returned (.int .i64 r) ∧ Below w.heap.size w w' := by
  obtain ⟨a, cap, rfl, hcap, hf⟩ := id hT
  obtain ⟨X, hX⟩ : ∃ X, X = w.alloc (.cells #[.int .i64 m.t, .string (mkB m.g), .string (mkB m.p), .int .i64 m.s, .slice a m.ch.length cap] 37) := ⟨_, rfl⟩
  have hbX : Below w.heap.size w X := by rw [hX]; exact (Below.refl _ w).alloc (Nat.le_refl _) _
  have HI : Hid (Calls _ _ _ _ _) := inForm_any m _ X hF (hT.below hbX) (hL.below hbX)
  have hXH : X.heap[w.heap.size]? = some (.cells #[.int .i64 m.t, .string (mkB m.g), .string (mkB m.p), .int .i64 m.s, .slice a m.ch.length cap] 37 (0, 0)) := by rw [hX]; exact heap_alloc_new w _
  obtain ⟨⟨c0, c1, c2, c3, c4⟩, -⟩ := five_cell hXH
  have HFIN : Hid (∀ w', Below X.heap.size X w' → Below w.heap.size w w') := fun w' h => hbX.trans (h.mono hbX.size)
  clear hf hT hL hF hXH hbX
  unfold mfV at *
  generalize m.form = b at *
  generalize m.ch.length = n at *
  generalize mkB m.g = G at *
  generalize mkB m.p = P at *
  generalize m.t = t at *
  generalize m.s = s at *
  cases b
  · simp at hr
    subst hr
    go_enter Tryd.func23, Tryd.ntmps23
    go_upto_region 1 with fail
    rw [← hX]
    clear hX
    go_wp2_with fail
    refine HI.out.mono ?_
    rintro e w1 ⟨rfl, hb1⟩
    go_wp2
    go_ret
    exact ⟨rfl, HFIN.out _ hb1⟩
  · simp at hr
    subst hr
    go_enter Tryd.func23, Tryd.ntmps23
    go_upto_region 1 with fail
    rw [← hX]
    clear hX
    go_wp2_with fail
    refine HI.out.mono ?_
    rintro e w1 ⟨rfl, hb1⟩
    go_wp2
    go_ret
    exact ⟨rfl, HFIN.out _ hb1⟩
theorem bs_vb (n : Nat) : bs (varN n) = mkB (vb n) := mkB_inj _ _ (bs_data2 _)
set_option maxRecDepth 100000 in
set_option maxHeartbeats 400000 in
theorem mnum_any (x : Nat) (w : World) (h1 : x ≤ 9223372036854775807) :
    Calls Tryd.prog 24 #[.int .i64 x] w fun e w' => e = .returned (.string (mkB (vb x))) ∧ Below w.heap.size w w' := by
  have HV := var_any x w (by omega) (by omega)
  rw [Int.toNat_natCast, bs_vb] at HV
  generalize mkB (vb x) = B at *
  go_enter Tryd.func24, Tryd.ntmps24
  go_wp2_with fail
  refine HV.mono ?_
  rintro e w1 ⟨rfl, hb⟩
  go_wp2
  go_ret
  exact ⟨rfl, hb⟩
theorem mkB_app (a b : List UInt8) : mkB a ++ mkB b = mkB (a ++ b) := by
  apply ba_ext
  simp [mkB, ByteArray.data_append]
theorem vb_len10 (x : Nat) (h : x < 18446744073709551616) : (vb x).length ≤ 10 := by unfold vb; rw [List.length_map]; exact varN_len64 h
set_option maxRecDepth 100000 in
set_option maxHeartbeats 400000 in
theorem mtext_any (l : List UInt8) (w : World) (h1 : l.length ≤ 140737488351232) :
    Calls Tryd.prog 25 #[.string (mkB l)] w fun e w' => e = .returned (.string (mkB (txB l))) ∧ Below w.heap.size w w' := by
  have HV := mnum_any l.length w (by omega)
  have HE : Hid (mkB (txB l) = mkB (vb l.length) ++ mkB l) := by unfold Hid txB; rw [mkB_app]
  have hz := mkB_size l
  have hz2 := mkB_size (vb l.length)
  have hz3 := vb_len10 l.length (by omega)
  generalize mkB (txB l) = T at *
  generalize mkB (vb l.length) = V at *
  generalize mkB l = L at *
  generalize l.length = n at *
  generalize (vb n).length = k at *
  go_enter Tryd.func25, Tryd.ntmps25
  go_wp2_with fail
  refine HV.mono ?_
  rintro e w1 ⟨rfl, hb⟩
  go_wp2
  go_ret
  exact ⟨by rw [HE.out]; rfl, hb⟩
theorem join_nil : ∀ l : List (List UInt8), Lib.join l [] = l.flatten
  | [] => rfl
  | [x] => by simp [Lib.join]
  | x :: y :: r => by
    have := join_nil (y :: r)
    simp [Lib.join] at this ⊢
    try exact this
theorem mjoin_any (ch : List (List UInt8)) (v : Value) (w : World) (hT : TX w v ch) (hn : ch.length ≤ 140737488351232) (hl : ch.flatten.length ≤ 140737488351232) :
    Calls Tryd.prog 26 #[v, .string ⟨#[]⟩] w fun e w' => e = .returned (.string (mkB ch.flatten)) ∧ Below w.heap.size w w' := by
  obtain ⟨a, cap, rfl, hcap, hf⟩ := hT
  by_cases h0 : ch = []
  · subst h0
    exact (Tryd.strings_Join_none a cap ⟨#[]⟩ w).mono fun e w' ⟨he, hw⟩ => ⟨he, hw ▸ Below.refl _ _⟩
  · obtain ⟨g, o, rfl, hg, hh⟩ := hf h0
    have hm : (ch.map mkB).map (·.data.toList) = ch := by rw [List.map_map]; simp [Function.comp_def, mkB]
    have h := Tryd.strings_Join g o cap (ch.map mkB) ⟨#[]⟩ w (fun j x hx => by
      rw [List.getElem?_map] at hx
      obtain ⟨y, hy, rfl⟩ := Option.map_eq_some_iff.1 hx
      have hj := (List.getElem?_eq_some_iff.1 hy).1
      have := hh j hj
      rw [List.getD_eq_getElem?_getD, hy] at this
      exact this) hg (by rw [List.length_map]; omega) (by rw [List.length_map]; exact hcap) (by rw [hm]; show (Lib.join ch []).length ≤ _; rw [join_nil]; omega)
    rw [hm, List.length_map] at h
    refine h.mono fun e w' ⟨he, hb⟩ => ⟨?_, hb⟩
    rw [he]
    show Ending.returned (.string (mkB (Lib.join ch []))) = _
    rw [join_nil]
end Go.Proofs.YtecpapifkbfblaaDoor
