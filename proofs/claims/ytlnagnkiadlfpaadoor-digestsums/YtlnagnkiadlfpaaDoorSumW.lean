/- Words that a call has gathered in a row of its own: append, and a store into its middle. -/
import Derived.Test.YtlnagnkiadlfpaaDoorStepA
import Derived.Test.YtlnagnkiadlfpaaDoorArmH
import Derived.Test.YtlnagnkiadlfpaaDoorSumP
import Derived.Test.YtlnagnkiadlfpaaDoorBitsR
namespace Go.Proofs.YtlnagnkiadlfpaaDoor
open Go.RowKit
set_option linter.unusedVariables false

/-- Words as cells. -/
def wcs (xs : List Nat) : List Value := xs.flatMap fun x => bl (bt x)
theorem wcs_len : ∀ xs : List Nat, (wcs xs).length = xs.length * 32
  | [] => rfl
  | x :: xs => by
    have ih := wcs_len xs
    unfold wcs at ih ⊢
    rw [List.flatMap_cons, List.length_append, ih, bl_len, List.length_cons]; omega
theorem wcs_append (xs ys : List Nat) : wcs (xs ++ ys) = wcs xs ++ wcs ys := by simp [wcs]
theorem wcs_one (y : Nat) : wcs [y] = bl (bt y) := by simp [wcs]
theorem wcs_at : ∀ (xs : List Nat) (k j : Nat), k < xs.length → j < 32 → (wcs xs)[k * 32 + j]? = some (.bool (bt (xs.getD k 0) j))
  | [], k, j, h, _ => by simp at h
  | x :: xs, 0, j, h, hj => by
    unfold wcs
    rw [List.flatMap_cons, Nat.zero_mul, Nat.zero_add, List.getElem?_append_left (by rw [bl_len]; exact hj), bl_at _ _ hj]
    simp
  | x :: xs, k + 1, j, h, hj => by
    have ih := wcs_at xs k j (by simpa using h) hj
    unfold wcs at ih ⊢
    rw [List.flatMap_cons, List.getElem?_append_right (by rw [bl_len]; omega), bl_len, show (k + 1) * 32 + j - 32 = k * 32 + j by omega, ih]
    simp
theorem bl_one (f : Nat → Bool) : ∀ u ∈ bl f, u.oneCell' = true := fun u hu => by
  simp [bl] at hu
  obtain ⟨j, _, rfl⟩ := hu
  rfl
theorem wcs_oneCell (xs : List Nat) : ∀ u ∈ wcs xs, u.oneCell' = true := fun u hu => by
  unfold wcs at hu
  obtain ⟨x, _, h⟩ := List.mem_flatMap.1 hu
  exact bl_one _ u h
theorem WordsAt.cells {w : World} {g : Nat} {xs : List Nat} (h : WordsAt w g xs) : ∀ j u, (wcs xs)[j]? = some u → w.cell? ((⟨g, 0, none⟩ : Addr).add j) = some u := fun j u hu => by
  have hj : j < xs.length * 32 := by have := (List.getElem?_eq_some_iff.1 hu).1; rwa [wcs_len] at this
  have e := wcs_at xs (j / 32) (j % 32) (by omega) (Nat.mod_lt _ (by decide))
  rw [show j / 32 * 32 + j % 32 = j by omega, hu] at e
  have := h (j / 32) (by omega) (j % 32) _ (bl_at _ _ (Nat.mod_lt _ (by decide)))
  rw [show j / 32 * 32 + j % 32 = j by omega, ← e] at this
  rw [Addr.add_mid, Nat.zero_add]; exact this
theorem WordsAt.of_cells {w : World} {g : Nat} {xs : List Nat} (h : ∀ j u, (wcs xs)[j]? = some u → w.cell? ⟨g, j, none⟩ = some u) : WordsAt w g xs := fun k hk j v hv => by
  have hj : j < 32 := by have := (List.getElem?_eq_some_iff.1 hv).1; rwa [bl_len] at this
  refine h _ _ ?_
  rw [bl_at _ _ hj] at hv
  rw [wcs_at xs k j hk hj]; exact hv
theorem WordsAt.front {w : World} {g : Nat} {xs ys : List Nat} (h : WordsAt w g (xs ++ ys)) : WordsAt w g xs := fun k hk j v hv => by
  have := h k (by rw [List.length_append]; omega) j v
  rw [show (xs ++ ys).getD k 0 = xs.getD k 0 by simp [List.getD_eq_getElem?_getD, List.getElem?_append_left hk]] at this
  exact this hv
/-- A row of words that the call owns. -/
def RW (B : Nat) (w : World) (v : Value) (xs : List Nat) : Prop := w.ownsRow B 33 32 v xs.length (wcs xs)
theorem RW.at {B : Nat} {w : World} {v : Value} {xs : List Nat} (h : RW B w v xs) (h0 : 0 < xs.length) : ∃ g cap, v = .slice (some ⟨g, 0, none⟩) xs.length cap ∧ B ≤ g ∧ g < w.heap.size ∧ WordsAt w g xs ∧ ∀ j, j < xs.length * 32 → (w.cell? ⟨g, j, none⟩).isSome = true ∧ w.frozen? ⟨g, j, none⟩ = false := by
  obtain ⟨h1, h2⟩ := h
  rcases h2 with ⟨_, h2⟩ | ⟨g, cap, cur, rfl, hB, hg, hc, hm, hs, ht⟩
  · omega
  · have hle : xs.length * 32 ≤ cap * 32 := Nat.mul_le_mul_right _ hc
    have hcell : ∀ j u, (wcs xs)[j]? = some u → w.cell? ⟨g, j, none⟩ = some u := fun j u hu => by
      rw [cell_of_row _ _ _ _ _ _ hg]
      rw [← ht, List.getElem?_take] at hu
      split at hu
      · simpa using hu
      · cases hu
    refine ⟨g, cap, rfl, hB, lt_of_block hg, WordsAt.of_cells hcell, fun j hj => ⟨?_, frozen_of_row _ _ _ _ _ hg⟩⟩
    rw [cell_of_row _ _ _ _ _ _ hg, Array.getElem?_eq_getElem (by omega)]; rfl
theorem RW.shape {B : Nat} {w : World} {v : Value} {xs : List Nat} (h : RW B w v xs) : ∃ a cap, v = .slice a xs.length cap := own_shape h
theorem RW.below {B C : Nat} {w w1 : World} {v : Value} {xs : List Nat} (h : RW B w v xs) (hb : Below C w w1) (hC : w.heap.size ≤ C) : RW B w1 v xs := by
  obtain ⟨h1, h2⟩ := h
  refine ⟨h1, ?_⟩
  rcases h2 with q | ⟨g, cap, cur, r1, hB, hg, r3⟩
  · exact .inl q
  · exact .inr ⟨g, cap, cur, r1, hB, by rw [hb.block g (Nat.lt_of_lt_of_le (lt_of_block hg) hC)]; exact hg, r3⟩
theorem RW.set {B : Nat} {w w1 : World} {v : Value} {xs : List Nat} {D : Nat} (h : RW B w v xs) (hne : ∀ g, v.ownBlock = some g → w1.heap[g]? = w.heap[g]?) : RW B w1 v xs := by
  obtain ⟨h1, h2⟩ := h
  refine ⟨h1, ?_⟩
  rcases h2 with q | ⟨g, cap, cur, rfl, hB, hg, r3⟩
  · exact .inl q
  · exact .inr ⟨g, cap, cur, rfl, hB, by rw [hne g rfl]; exact hg, r3⟩
theorem RW.lt {B : Nat} {w : World} {v : Value} {xs : List Nat} (h : RW B w v xs) : ∀ k, v.ownBlock = some k → B ≤ k ∧ k < w.heap.size := World.ownsRow.lt h
theorem Tryd.fullW : (Tryd.prog.info? 33).map (fun i => (i.zero, i.size, i.bytes)) = some (some (.agg zw), 32, 32) := by kernel_rfl

theorem run_append_words (w : World) (ty : TypeId) (B : Nat) (v : Value) (xs ys : List Nat) (gx c : Nat) (hown : RW B w v xs) (hx : WordsAt w gx ys) (hn : xs.length ≤ 1000) (hy : ys.length ≤ 100) (hy0 : 0 < ys.length) (hB : B ≤ w.heap.size) :
    ∃ v' w', (Builtin.append_ #[30, 30] ty #[v, .slice (some ⟨gx, 0, none⟩) ys.length c]).run Tryd.prog w = .ok v' w' ∧ RW B w' v' (xs ++ ys) ∧ w.grownBy w' v.ownBlock ∧ ∀ g, v.ownBlock = some g → WordsAt w' g xs := by
  obtain ⟨i0, hi, hz0, hz1, hz2⟩ := info_parts Tryd.fullW
  obtain ⟨v', w', hr, h2, h3, h4⟩ := run_append_own (P := Tryd.prog) w B 30 ty 33 i0 (.agg zw) 32 32 Tryd.underlying30 hi hz0 hz1 hz2 rfl (by decide) v xs.length (wcs xs) hown
    ⟨gx, 0, none⟩ ys.length c (wcs ys) (wcs_len ys) hx.cells (wcs_oneCell ys) (by unfold maxLen; omega) (by omega) hB
  have h2' : RW B w' v' (xs ++ ys) := by unfold RW; rw [wcs_append, List.length_append]; exact h2
  refine ⟨v', w', hr, h2', h3, fun g hg => ?_⟩
  by_cases hl : 0 < xs.length
  · rcases hown.2 with ⟨_, q⟩ | ⟨g', cap, cur, rfl, hbg, hgg, hnc, hcm, hcs, htake⟩
    · omega
    · have e : g' = g := by simpa [Value.ownBlock] using hg
      subst e
      by_cases hroom : xs.length + ys.length ≤ cap
      · have hr' := run_append_room (P := Tryd.prog) w 30 ty 33 i0 Tryd.underlying30 hi g' xs.length cap cur hgg ⟨gx, 0, none⟩ ys.length c (wcs ys) (by rw [hz1]; exact wcs_len ys) hx.cells (wcs_oneCell ys) hroom
          (by rw [hz1, wcs_len, hcs]; omega)
        rw [hr] at hr'
        injection hr' with e1 e2
        obtain ⟨g2, c2, e3, _, _, hW, _⟩ := h2'.at (by rw [List.length_append]; omega)
        rw [e1] at e3
        injection e3 with e4
        injection e4 with e5
        injection e5 with e6
        rw [e6]
        exact hW.front
      · have hr' := run_append_grow (P := Tryd.prog) w 30 ty 33 i0 (.agg zw) Tryd.underlying30 hi hz0 ⟨g', 0, none⟩ xs.length cap (wcs xs) (by rw [hz1]; exact wcs_len xs) (World.ownsRow.cells hown (g := g') rfl) ⟨gx, 0, none⟩ ys.length c (wcs ys) (by rw [hz1]; exact wcs_len ys) hx.cells (by omega) (by omega) (growslice_fits (by omega) (by rw [hz2]; omega))
        rw [hr] at hr'
        injection hr' with e1 e2
        obtain ⟨g2, c2, e3, _, _, hW, _⟩ := hown.at hl
        injection e3 with e4
        injection e4 with e5
        injection e5 with e6
        rw [← e6] at hW
        rw [e2]
        refine hW.below (B := w.heap.size) ⟨rfl, rfl, rfl, by simp, fun k hk => ?_⟩ (lt_of_block hgg)
        exact heap_alloc_old w.drew _ hk
  · intro k hk; omega
section
variable {ops : Array Oper} {Q : Exit → Act → World → Prop}
theorem wpList_buildW {rest : List Oper} {o : Oper} {a : Act} {w : World} (hgd : o.guard = none) (n : Nat) (parts : Array (Nat × Operand)) (ho : o.op = .buildSlice 30 n parts) (d : Tmp) (hd : o.dst = some d)
    (ys : List Nat) (hn : n = ys.length) (hn0 : 0 < n) (hn1 : n ≤ 100) (hparts : (parts.map fun (i, x) => (i, a.eval x)).toList = ((ys.map fun y => Value.agg (bl (bt y)).toArray).zipIdx 0).map fun x => (x.2, x.1))
    (h : ∀ w', NewWords w w' ys → wpList Tryd.prog ops Q rest (a.put (some d) (.slice (some ⟨w.heap.size, 0, none⟩) n n)) w') : wpList Tryd.prog ops Q (o :: rest) a w := by
  subst hn
  obtain ⟨r, h1, h2, h3⟩ := word_fill ys
  obtain ⟨i0, hi0, hiz, his, _⟩ := info_parts Tryd.fullW
  have nw : NewWords w (w.alloc (.cells r 33)) ys := ⟨fun k hk j v hv => by
      have hj : j < 32 := by have := (List.getElem?_eq_some_iff.1 hv).1; rwa [bl_len] at this
      rw [bl_at _ _ hj] at hv
      rw [cell_of_row _ _ _ _ _ _ (heap_alloc_new _ _), h3 k hk j hj]; exact hv, (Below.refl _ w).alloc (Nat.le_refl _) _, World.size_alloc _ _⟩
  refine wpList_buildSlice hgd _ _ _ parts ho r i0 (.agg zw) Tryd.underlying30 hi0 hiz (by rw [his]; omega) (by rw [his]; omega) ?_ (hd ▸ h _ nw)
  rw [his, hparts]; exact h1
/-- What append on such a row leaves. -/
structure GrewW (B : Nat) (w w' : World) (v v' : Value) (xs ys : List Nat) : Prop where
  own : RW B w' v' (xs ++ ys)
  grew : w.grownBy w' v.ownBlock
  old : ∀ g, v.ownBlock = some g → WordsAt w' g xs
theorem GrewW.below {B : Nat} {w w' w0 : World} {v v' : Value} {xs ys : List Nat} (h : GrewW B w w' v v' xs ys) (hown : RW B w v xs) (hb : Below B w0 w) (hB : B ≤ w.heap.size) : Below B w0 w' :=
  hb.grown h.grew hB fun k hk => (hown.lt k hk).1
theorem wpList_appendW {rest : List Oper} {o : Oper} {a : Act} {w : World} (hgd : o.guard = none) (s x : Operand) (ho : o.op = .call { callee := .builtin .append, args := #[s, x], argTypes := #[30, 30] }) (d : Tmp) (hd : o.dst = some d)
    (B : Nat) (v : Value) (xs ys : List Nat) (gx n c : Nat) (hs : a.eval s = v) (hx : a.eval x = .slice (some ⟨gx, 0, none⟩) n c) (hn : n = ys.length) (hown : RW B w v xs) (hxw : WordsAt w gx ys) (hl : xs.length ≤ 1000) (hy : n ≤ 100) (hy0 : 0 < n) (hB : B ≤ w.heap.size)
    (h : ∀ v' w', GrewW B w w' v v' xs ys → wpList Tryd.prog ops Q rest (a.put (some d) v') w') : wpList Tryd.prog ops Q (o :: rest) a w := by
  subst hn
  refine wpList_plain hgd fun _ hK => ?_
  obtain ⟨v', w', hr, h2, h3, h4⟩ := run_append_words w o.type B v xs ys gx c hown hxw hl hy hy0 hB
  unfold Oper.wp execOp
  simp only [ho, resolve, invoke, builtin, Sem.run_bind, Sem.run_pure, Result.andThen_ok, List.map_toArray, List.map_cons, List.map_nil, hs, hx, hr]
  have hh := h v' w' ⟨h2, h3, h4⟩
  rw [← hd] at hh
  exact hK _ _ hh
variable {md : Region.Mode} {S : World → Prop} {fuel : Nat} {l : Array Bool}
theorem arm_appendW {o : Oper} {a : Act} {w : World} {K : Act → World → Prop} {E : Prop} (hK : Shut (∀ a w, S w → (S w → wpAnyH Tryd.prog md ops Q S fuel l a w) → K a w)) (hgd : o.guard = none) (d : Tmp) (hd : o.dst = some d)
    (s x : Operand) (ho : o.op = .call { callee := .builtin .append, args := #[s, x], argTypes := #[30, 30] })
    (B : Nat) (v : Value) (xs ys : List Nat) (gx n c : Nat) (hs : a.eval s = v) (hx : a.eval x = .slice (some ⟨gx, 0, none⟩) n c) (hn : n = ys.length) (hown : RW B w v xs) (hxw : WordsAt w gx ys) (hl : xs.length ≤ 1000) (hy : n ≤ 100) (hy0 : 0 < n) (hB : B ≤ w.heap.size)
    (h : ∀ v' w', GrewW B w w' v v' xs ys → S w' ∧ (S w' → wpAnyH Tryd.prog md ops Q S fuel l (a.put (some d) v') w')) :
    if Region.wanted o (yielded ops a.tmps) = true then Oper.wp Tryd.prog o a w K Q else E := by
  have hw : Region.wanted o (yielded ops a.tmps) = true := by simp [Region.wanted, hgd]
  rw [if_pos hw]
  subst hn
  obtain ⟨v', w', hr, h2, h3, h4⟩ := run_append_words w o.type B v xs ys gx c hown hxw hl hy hy0 hB
  have hh := h v' w' ⟨h2, h3, h4⟩
  unfold Oper.wp execOp
  simp only [ho, resolve, invoke, builtin, Sem.run_bind, Sem.run_pure, Result.andThen_ok, List.map_toArray, List.map_cons, List.map_nil, hs, hx, hr]
  rw [← hd] at hh
  exact hK.out _ _ hh.1 hh.2
theorem arm_storeW {o : Oper} {a : Act} {w : World} {K : Act → World → Prop} {E : Prop} (hK : Shut (∀ a w, S w → (S w → wpAnyH Tryd.prog md ops Q S fuel l a w) → K a w)) (hgd : o.guard = none) (hd : o.dst = none) (x y : Operand) (ho : o.op = .store 33 x y)
    (g off : Nat) (f : Nat → Bool) (hx : a.eval x = .pointer (some ⟨g, off, none⟩)) (hy : a.eval y = .agg (bl f).toArray) (ht : w.there g off 32)
    (h : S (w.setCells g off (bl f)) ∧ (S (w.setCells g off (bl f)) → wpAnyH Tryd.prog md ops Q S fuel l a (w.setCells g off (bl f)))) :
    if Region.wanted o (yielded ops a.tmps) = true then Oper.wp Tryd.prog o a w K Q else E := by
  have hw : Region.wanted o (yielded ops a.tmps) = true := by simp [Region.wanted, hgd]
  rw [if_pos hw]
  have hsz : (bl f).toArray.size = 32 := by simp [bl_len]
  refine wp_store_mid _ x y ho g off (bl f).toArray hx hy (by rw [hsz]; exact ht) (by rw [hsz]; exact Tryd.infoW) (all_oneCell_toArray (bl_one f)) ?_
  rw [hd]
  exact hK.out _ _ h.1 h.2
end
theorem WordsAt.setW {w : World} {g : Nat} {xs : List Nat} (h : WordsAt w g xs) (k y : Nat) (ht : w.there g (k * 32) 32) : WordsAt (w.setCells g (k * 32) (bl (bt y))) g (xs.set k y) := fun i hi => by
  rw [List.length_set] at hi
  rw [getD_set]
  by_cases e : k = i
  · subst e
    rw [if_pos ⟨rfl, hi⟩]
    exact World.rangeAt_setCells_same w g (k * 32) _ (by rw [bl_len]; exact ht)
  · rw [if_neg (fun q => e q.1)]
    refine World.rangeAt_setCells_apart (h i hi) _ _ _ (.inr ?_)
    rw [bl_len, bl_len]; omega
end Go.Proofs.YtlnagnkiadlfpaaDoor
