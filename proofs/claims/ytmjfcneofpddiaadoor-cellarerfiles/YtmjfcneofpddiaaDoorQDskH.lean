/- Contracts: a disk's settle, Settle; a folder's names; List. -/
import Derived.Test.YtmjfcneofpddiaaDoorQDskG
import Derived.Test.YtmjfcneofpddiaaDoorQShelf
namespace Go.Proofs.YtmjfcneofpddiaaDoor
open Go.RowKit Go.Maps Go.Sort Go.Shelf
set_option linter.unusedVariables false
set_option linter.unusedSimpArgs false

theorem clone_FM {w : World} {b : Nat} {F : Fo} (h : FM w b F) :
    Calls Tryd.prog 45 #[.map (some b)] w fun e w' => e = .returned (.map (some w.heap.size)) ∧ FM w' w.heap.size F ∧ Below w.heap.size w w' ∧ w'.heap.size = w.heap.size + 1 := by
  obtain ⟨D, ⟨es, clock, hb, hF⟩, hr⟩ := h
  refine (AnyW.maps_Clone Tryd.cloneA b es clock w hb).mono ?_
  rintro e w' ⟨h1, rfl⟩
  exact ⟨h1, ⟨D, ⟨es, clock, heap_alloc_new _ _, hF⟩, hr⟩, (Below.refl _ _).alloc (Nat.le_refl _) _, by simp⟩
/-- slices.Sort's two contracts at this program. -/
theorem sortsA (m : Nat) : AnyZ.SortsIn Tryd.prog Tryd.sortedA_ren Fence.wide m :=
  ⟨fun blk off cap ss W hH hblk hsz => callsIn_wide.2 (Tryd.slices_Sort_string blk off cap ss W hH hblk hsz),
   fun p cap W => callsIn_wide.2 (Tryd.slices_Sort_string_none p cap W)⟩
set_option maxHeartbeats 1000000 in
theorem names_any {w : World} {b : Nat} {F : Fo} (h : FM w b F) (hl : F.length ≤ 1000000) :
    Calls Tryd.prog 36 #[.map (some b)] w fun e w' => ∃ v, e = .returned v ∧ w'.ownsRow w.heap.size 9 1 v F.length ((nms F).map encStr) ∧ Below w.heap.size w w' := by
  obtain ⟨D, hown, hkd, hhas, hat⟩ := h
  have hp := keys_perm hown hkd hhas
  have hsz : Maps.size D = F.length := by rw [size_keys D hown.isMap, ← hp.length_eq, List.length_map]
  refine (callsIn_wide (n := 6)).1 ?_
  have hbl := hown.lt
  have hseq : SeqGives Fence.wide 2 Tryd.prog 58 #[.pointer (some ⟨w.heap.size, 0, none⟩)] encStr (fun ss => ss.Perm (strKeys D)) (Maps.size D) (w.alloc (.cells #[.map (some b)] 62)) :=
    AnyZ.keys_gives (ρ := Tryd.keysA_ren) { Tryd.keysA with } Fence.wide _ trivial rfl (by omega) w.heap.size b F.length D _ (by simp) (by simp) (by
      obtain ⟨es, clock, hb, Ft, hs, hD⟩ := hown
      exact ⟨es, clock, (Below.heap_alloc _ _ b hbl).trans hb, Ft, hs, hD⟩)
  have cK : ∀ mb W, CallsIn Fence.wide 5 Tryd.prog 47 #[.map mb] W fun e w' => e = .returned (.func (.func 58) #[] #[.pointer (some ⟨W.heap.size, 0, none⟩)]) ∧ w' = W.alloc (.cells #[.map mb] 62) := fun mb W => AnyZ.keys_in Tryd.keysA Fence.wide 5 trivial rfl mb W
  have cS := AnyZ.sorted_in Tryd.sortedA Fence.wide 5 trivial trivial trivial trivial rfl (by omega) (sortsA _) (enters_of Tryd.func57 (by kernel_rfl) rfl) 58 #[.pointer (some ⟨w.heap.size, 0, none⟩)] trivial (enters_of Tryd.func58 (by kernel_rfl) rfl) _ _ (by rw [hsz]; unfold maxLen; omega) (by rw [hsz]; omega) _ hseq
  change CallsIn _ _ Tryd.prog 46 _ _ _ at cS
  have hfK : Fence.wide.fn 47 := trivial
  have hfS : Fence.wide.fn 46 := trivial
  have HP : Hid ((F.map (·.1)).Perm (strKeys D)) := hp
  clear hp
  refine callsIn_of_wp Tryd.func36 rfl trivial ?_ rfl
  simp only [Tryd.ntmps36, List.size_toArray, List.length_cons, List.length_nil, Nat.reduceAdd, Nat.reduceSub, Array.replicate_succ, Array.replicate_zero, List.push_toArray, List.append_toArray, List.nil_append, List.cons_append]
  gi_wp2_with (first
    | (gi_at_call 47; refine (cK _ _).mono ?_; rintro e w' ⟨rfl, rfl⟩)
    | (gi_at_call 46; refine cS.mono ?_; rintro e w' ⟨v, ss, rfl, hS, hrow, hnil, hb⟩))
  go_ret
  refine ⟨v, rfl, ?_, ((Below.refl _ w).alloc (Nat.le_refl _) _).trans (hb.mono (by simp))⟩
  have hpf : ss.Perm (F.map (·.1)) := hS.trans HP.out.symm
  have hlen : ss.length = F.length := by rw [hpf.length_eq, List.length_map]
  have e1 : ss.mergeSort (fun x y => decide (x ≤ y)) = nms F := mergeSort_of_perm hpf
  rw [e1, hlen] at hrow
  exact ownsRow_base_a hrow (by simp)
end Go.Proofs.YtmjfcneofpddiaaDoor
