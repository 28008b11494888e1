/- Contract of huff.mergedRows. -/
import Derived.Test.YtclmjopppaknjaaHMrg
namespace Go.Proofs.Ytclmjopppaknjaa
open Go.RowKit
set_option linter.unusedVariables false
set_option linter.unusedSimpArgs false

theorem mrg_mem : ∀ (ws ts : List Nat) (x : Itm), x ∈ mrg ws ts → x.wt ∈ ws ∨ x.wt ∈ ts
  | [], [], x, h => by rw [mrg] at h; simp at h
  | [], t :: ts, x, h => by
    rw [mrg] at h
    rcases List.mem_cons.1 h with rfl | h
    · exact .inr (List.mem_cons_self ..)
    · rcases mrg_mem [] ts x h with h | h
      · exact .inl h
      · exact .inr (List.mem_cons_of_mem _ h)
  | w :: ws, [], x, h => by
    rw [mrg] at h
    rcases List.mem_cons.1 h with rfl | h
    · exact .inl (List.mem_cons_self ..)
    · rcases mrg_mem ws [] x h with h | h
      · exact .inl (List.mem_cons_of_mem _ h)
      · exact .inr h
  | w :: ws, t :: ts, x, h => by
    rw [mrg] at h
    split at h
    · rcases List.mem_cons.1 h with rfl | h
      · exact .inl (List.mem_cons_self ..)
      · rcases mrg_mem ws (t :: ts) x h with h | h
        · exact .inl (List.mem_cons_of_mem _ h)
        · exact .inr h
    · rcases List.mem_cons.1 h with rfl | h
      · exact .inr (List.mem_cons_self ..)
      · rcases mrg_mem (w :: ws) ts x h with h | h
        · exact .inl h
        · exact .inr (List.mem_cons_of_mem _ h)
termination_by ws ts => ws.length + ts.length
theorem prs_mem : ∀ (l : List Itm) (M : Nat), (∀ x ∈ l, x.wt ≤ M) → ∀ n ∈ prs l, n ≤ 2 * M
  | [], M, _, n, h => by simp [prs] at h
  | [a], M, _, n, h => by simp [prs] at h
  | a :: b :: l, M, hM, n, h => by
    rw [prs] at h
    rcases List.mem_cons.1 h with rfl | h
    · have h1 := hM a (by simp)
      have h2 := hM b (by simp)
      omega
    · exact prs_mem l M (fun x hx => hM x (by simp [hx])) n h
theorem rowK_wt {ws : List Nat} {M : Nat} (hM : ∀ n ∈ ws, n ≤ M) : ∀ i, ∀ x ∈ rowK ws i, x.wt ≤ 2 ^ i * M
  | 0, x, h => by simp [rowK] at h
  | i + 1, x, h => by
    rw [rowK] at h
    have hp : 1 ≤ 2 ^ i := Nat.one_le_two_pow
    have e : 2 ^ (i + 1) * M = 2 * (2 ^ i * M) := by rw [Nat.pow_succ, Nat.mul_comm (2 ^ i) 2, Nat.mul_assoc]
    have h0 : M ≤ 2 ^ i * M := Nat.le_mul_of_pos_left _ (by omega)
    rcases mrg_mem ws _ x h with h | h
    · have := hM _ h; omega
    · have := prs_mem _ _ (rowK_wt hM i) _ h; omega
theorem rowK_two (ws : List Nat) (h : 1 ≤ ws.length) : ∀ i, (rowK ws i).length ≤ 2 * ws.length
  | 0 => by simp [rowK]
  | i + 1 => by have := rowK_two ws h i; rw [rowK_len]; omega
/-- What was made as a row of numbers can be read. -/
theorem NR.own {w : World} {B : Nat} {v : Value} {l : List Nat} (h : w.ownsRow B 3 1 v l.length (ic (zN l))) : NR w v l := by
  have hlt := h.lt
  have h' := h
  rcases h.2 with ⟨rfl, h0⟩ | ⟨g, cap, cur, rfl, _, _, hc, _⟩
  · have : l = [] := List.length_eq_zero_iff.1 h0
    subst this
    exact ⟨none, 0, rfl, Nat.le_refl _, fun h => absurd rfl h⟩
  · refine ⟨_, cap, rfl, hc, fun _ => ⟨g, 0, rfl, (hlt g rfl).2, fun i hi => ?_⟩⟩
    rw [Nat.zero_add, h'.cellAt i (by omega), ic_at _ _ (by rw [zN_len]; exact hi)]
    congr 2
    simp [zN, List.getD_eq_getElem?_getD, hi]
theorem NR.below {w w' : World} {v : Value} {l : List Nat} (h : NR w v l) (hb : Below w.heap.size w w') : NR w' v l := by
  obtain ⟨a, cap, rfl, hc, hf⟩ := h
  refine ⟨a, cap, rfl, hc, fun hl => ?_⟩
  obtain ⟨g, o, rfl, hg, hcell⟩ := hf hl
  exact ⟨g, o, rfl, Nat.lt_of_lt_of_le hg hb.size, fun i hi => by rw [hb.cell (p := ⟨g, o + i, none⟩) hg]; exact hcell i hi⟩
theorem Try.infoRw : (Try.prog.info? 121).map (fun i => (i.zero, i.size, i.bytes)) = some (some (.slice none 0 0), 1, 24) := by kernel_rfl
/-- Rows of items, each of its own. -/
def RowsAt (w W : World) (ws : List Nat) (vs : List Value) : Prop := ∀ i v, vs[i]? = some v → W.ownsRow w.heap.size 123 2 v (rowK ws (i + 1)).length (itC (rowK ws (i + 1)))
theorem own_keepH {w w' : World} {B B' n m sz sz' : Nat} {ty ty' : TypeId} {v u : Value} {xs ys : List Value} (h : w.ownsRow B ty sz v n xs) (k : w.ownsRow B' ty' sz' u m ys) (hne : ty ≠ ty') (hg : w.grownBy w' u.ownBlock) : w'.ownsRow B ty sz v n xs := by
  rcases h.2 with ⟨rfl, h0⟩ | ⟨g, cap, cur, rfl, _, hc, _⟩
  · exact ⟨h.1, .inl ⟨rfl, h0⟩⟩
  · refine h.kept hg (.inr fun e => ?_)
    rcases k.2 with ⟨rfl, _⟩ | ⟨g', cap', cur', rfl, _, hc', _⟩
    · simp [Value.ownBlock] at e
    · simp only [Value.ownBlock, Option.some.injEq] at e
      subst e
      rw [hc] at hc'
      simp only [Option.some.injEq, Obj.cells.injEq] at hc'
      exact hne hc'.2.1
theorem own_belowH {w w' : World} {B n sz : Nat} {ty : TypeId} {v : Value} {xs : List Value} (h : w.ownsRow B ty sz v n xs) (hb : Below w.heap.size w w') : w'.ownsRow B ty sz v n xs := by
  have hlt := h.lt
  refine ⟨h.1, ?_⟩
  rcases h.2 with h | ⟨g, cap, cur, rfl, h2, h3, h4⟩
  · exact .inl h
  · exact .inr ⟨g, cap, cur, rfl, h2, (hb.block _ (hlt g rfl).2).trans h3, h4⟩
theorem own_baseH {W : World} {B C n sz : Nat} {ty : TypeId} {v : Value} {xs : List Value} (h : W.ownsRow B ty sz v n xs) (hC : C ≤ B) : W.ownsRow C ty sz v n xs := by
  refine ⟨h.1, ?_⟩
  rcases h.2 with h | ⟨g, cap, cur, e, h2, h3⟩
  · exact .inl h
  · exact .inr ⟨g, cap, cur, e, Nat.le_trans hC h2, h3⟩
theorem own_sliceH {w : World} {B n : Nat} {ty : TypeId} {sz : Nat} {v : Value} {xs : List Value} (h : w.ownsRow B ty sz v n xs) : ∃ a cap, v = .slice a n cap := by
  rcases h.2 with ⟨rfl, rfl⟩ | ⟨g, cap, cur, rfl, _⟩
  · exact ⟨none, 0, rfl⟩
  · exact ⟨_, cap, rfl⟩
set_option maxRecDepth 100000 in
set_option maxHeartbeats 2000000 in
theorem rows_any (v : Value) (ws : List Nat) (n : Nat) (w : World) (hV : NR w v ws) (hl : ws.length ≤ 320) (h1 : 1 ≤ ws.length) (hn : n ≤ 15) (hM : ∀ x ∈ ws, x ≤ 1000000) :
    Calls Try.prog 51 #[v, .int .i64 (n : Int)] w fun e w' => ∃ v' vs, e = .returned v' ∧ vs.length = n ∧ w'.ownsRow w.heap.size 121 1 v' n vs ∧ RowsAt w w' ws vs ∧ Below w.heap.size w w' := by
  obtain ⟨i0, hi, hz0, hz1, hz2⟩ := info_parts Try.infoRw
  have HWT : Hid (∀ i, i ≤ 15 → ∀ x ∈ rowK ws i, x.wt ≤ 1000000000000000000) := fun i hi x hx => by
    have h1 := rowK_wt hM i x hx
    have h2 : 2 ^ i ≤ 2 ^ 15 := Nat.pow_le_pow_right (by decide) hi
    have h3 : 2 ^ i * 1000000 ≤ 2 ^ 15 * 1000000 := Nat.mul_le_mul_right _ h2
    omega
  have HLN : Hid (∀ i, (rowK ws i).length ≤ 640) := fun i => by have := rowK_two ws h1 i; omega
  have HPL : Hid (∀ i, (prs (rowK ws i)).length ≤ 320) := fun i => by rw [prs_len]; have := HLN.out i; omega
  have HNV : Hid (∀ W, Below w.heap.size w W → NR W v ws) := fun W hb => hV.below hb
  obtain ⟨av, cv, rfl, _⟩ := hV
  go_enter Try.func51, Try.ntmps51
  go_wp2
  go_loopw [5, 6, 8] (fun r x i wr => ∃ (k : Nat) (vs : List Value), k ≤ n ∧ vs.length = k ∧ i = .int .i64 (k : Int) ∧ wr.ownsRow w.heap.size 123 2 x (rowK ws k).length (itC (rowK ws k)) ∧ wr.ownsRow w.heap.size 121 1 r k vs ∧ RowsAt w wr ws vs ∧ Below w.heap.size w wr) (fun _ _ i _ => n - (intOf i).toNat)
  case atStart => exact ⟨0, [], Nat.zero_le _, rfl, rfl, World.ownsRow_nil _ _ _ _, World.ownsRow_nil _ _ _ _, fun i v h => by simp at h, Below.refl _ _⟩
  case round =>
    obtain ⟨k, vs, hk, hvs, rfl, hX, hR, hA, hB⟩ := hrel
    have hsz := hB.size
    by_cases hlt : k < n
    · have hki : (k : Int) < (n : Int) := by omega
      have HPA : Hid (Calls _ _ _ _ _) := pairs_any _ (rowK ws k) wr (PR.own hX) (by have := HLN.out k; omega) (HWT.out k (by omega))
      obtain ⟨ax, cx, rfl⟩ := own_sliceH hX
      go_wp2_with fail
      refine (Hid.out HPA : Calls _ _ _ _ _).mono ?_
      rintro e w1 ⟨v1, rfl, hO1, hb1⟩
      have hB1 : Below w.heap.size w w1 := hB.trans (hb1.mono hsz)
      have hpl := HPL.out k
      have HMA : Hid (Calls _ _ _ _ _) := merge_any _ _ ws (prs (rowK ws k)) w1 (HNV.out w1 hB1) (NR.own hO1) (by omega)
      obtain ⟨a1, c1, rfl⟩ := own_sliceH hO1
      clear HPA
      go_wp2_with fail
      refine (Hid.out HMA : Calls _ _ _ _ _).mono ?_
      rintro e w2 ⟨v2, rfl, hO2, hb2⟩
      have hO3 : w2.ownsRow w.heap.size 123 2 v2 (rowK ws (k + 1)).length (itC (rowK ws (k + 1))) := own_baseH hO2 hB1.size
      have HB2 : Hid (Below w.heap.size w w2) := hB1.trans (hb2.mono hB1.size)
      have HR2 : Hid (w2.ownsRow w.heap.size 121 1 _ k vs) := own_belowH (own_belowH hR hb1) hb2
      have HA2 : Hid (RowsAt w w2 ws vs) := fun i v h => own_belowH (own_belowH (hA i v h) hb1) hb2
      obtain ⟨a2, c2, rfl⟩ := own_sliceH hO3
      have HO3 : Hid (w2.ownsRow w.heap.size 123 2 (.slice a2 (rowK ws (k + 1)).length c2) (rowK ws (k + 1)).length (itC (rowK ws (k + 1)))) := hO3
      have hsz2 := HB2.out.size
      clear HMA hO1 hO2 hb1 hb2 hB1 hO3 hX hR hA hB
      go_wp2_with (at_builtin; refine wpList_append_own _ rfl _ _ 119 rfl w.heap.size 121 i0 (.slice none 0 0) 1 24 Try.underlying119 hi hz0 hz1 hz2 rfl (by decide) _ _ _ rfl (HR2.out.alloc _) ⟨w2.heap.size, 0, none⟩ 1 1 [.slice a2 (rowK ws (k + 1)).length c2] rfl rfl (cell_one_new _ _ _) ?d2 ?d3 ?d4 ?d5 ?_)
      case d2 => first | rfl | (intro y hy; simp at hy; subst hy; rfl)
      case d3 => unfold maxLen; omega
      case d4 => omega
      case d5 => first | omega | (rw [World.size_alloc]; omega)
      intro v9 w9 hown hg9 _
      have HR9 : Hid (w9.ownsRow w.heap.size 121 1 v9 (k + 1) (vs ++ [.slice a2 (rowK ws (k + 1)).length c2])) := hown
      have HX9 : Hid (w9.ownsRow w.heap.size 123 2 (.slice a2 (rowK ws (k + 1)).length c2) (rowK ws (k + 1)).length (itC (rowK ws (k + 1)))) := own_keepH (HO3.out.alloc _) (HR2.out.alloc _) (by decide) hg9
      have HA9 : Hid (RowsAt w w9 ws (vs ++ [.slice a2 (rowK ws (k + 1)).length c2])) := fun i v h => by
        by_cases e : i < vs.length
        · rw [List.getElem?_append_left e] at h
          exact own_keepH ((HA2.out i v h).alloc _) (HR2.out.alloc _) (by decide) hg9
        · rw [List.getElem?_append_right (by omega)] at h
          have hi0 : i = k := by
            have := (List.getElem?_eq_some_iff.1 h).1
            simp at this; omega
          subst hi0
          rw [hvs, Nat.sub_self] at h
          simp at h
          subst h
          exact HX9.out
      have HB9 : Hid (Below w.heap.size w w9) := (HB2.out.alloc hsz2 _).grown hg9 (by rw [World.size_alloc]; omega) (fun q hq => (HR2.out.lt q hq).1)
      clear hown hg9 HR2 HA2 HO3 HB2
      go_wp2
      go_roundw
      case rel => exact ⟨k + 1, _, by omega, by rw [List.length_append, hvs]; rfl, by go_num, HX9.out, HR9.out, HA9.out, HB9.out⟩
      case measure => simp [intOf]; omega
    · obtain rfl : k = n := by omega
      clear HWT HLN HPL HNV
      go_wp2
      go_ret
      exact ⟨_, vs, rfl, hvs, hR, hA, hB⟩
end Go.Proofs.Ytclmjopppaknjaa
