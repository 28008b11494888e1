/- Contract of huff.mergedRows. Contract of huff.bestLengths. Contracts of huff.checkCounts, cmp.Compare, and of the order that huff.rising sorts by. Contract of huff.checkCounts. -/
import Derived.Test.YtbknflckdbfogaaGreatQHMrg
namespace Go.Proofs.YtbknflckdbfogaaGreat
open Go.RowKit
set_option linter.unusedVariables false
set_option linter.unusedSimpArgs false

theorem mrg_mem : ∀ (ws ts : List Nat) (x : Itm), x ∈ mrg ws ts → x.wt ∈ ws ∨ x.wt ∈ ts
  | [], [], x, h => by rw [mrg] at h; simp at h
  | [], t :: ts, x, h => by
    rw [mrg] at h
    rcases List.mem_cons.1 h with rfl | h
    · exact .inr (List.mem_cons_self ..)
    · rcases mrg_mem [] ts x h with h | h
      · exact .inl h
      · exact .inr (List.mem_cons_of_mem _ h)
  | w :: ws, [], x, h => by
    rw [mrg] at h
    rcases List.mem_cons.1 h with rfl | h
    · exact .inl (List.mem_cons_self ..)
    · rcases mrg_mem ws [] x h with h | h
      · exact .inl (List.mem_cons_of_mem _ h)
      · exact .inr h
  | w :: ws, t :: ts, x, h => by
    rw [mrg] at h
    split at h
    · rcases List.mem_cons.1 h with rfl | h
      · exact .inl (List.mem_cons_self ..)
      · rcases mrg_mem ws (t :: ts) x h with h | h
        · exact .inl (List.mem_cons_of_mem _ h)
        · exact .inr h
    · rcases List.mem_cons.1 h with rfl | h
      · exact .inr (List.mem_cons_self ..)
      · rcases mrg_mem (w :: ws) ts x h with h | h
        · exact .inl h
        · exact .inr (List.mem_cons_of_mem _ h)
termination_by ws ts => ws.length + ts.length
theorem prs_mem : ∀ (l : List Itm) (M : Nat), (∀ x ∈ l, x.wt ≤ M) → ∀ n ∈ prs l, n ≤ 2 * M
  | [], M, _, n, h => by simp [prs] at h
  | [a], M, _, n, h => by simp [prs] at h
  | a :: b :: l, M, hM, n, h => by
    rw [prs] at h
    rcases List.mem_cons.1 h with rfl | h
    · have h1 := hM a (by simp)
      have h2 := hM b (by simp)
      omega
    · exact prs_mem l M (fun x hx => hM x (by simp [hx])) n h
theorem rowK_wt {ws : List Nat} {M : Nat} (hM : ∀ n ∈ ws, n ≤ M) : ∀ i, ∀ x ∈ rowK ws i, x.wt ≤ 2 ^ i * M
  | 0, x, h => by simp [rowK] at h
  | i + 1, x, h => by
    rw [rowK] at h
    have hp : 1 ≤ 2 ^ i := Nat.one_le_two_pow
    have e : 2 ^ (i + 1) * M = 2 * (2 ^ i * M) := by rw [Nat.pow_succ, Nat.mul_comm (2 ^ i) 2, Nat.mul_assoc]
    have h0 : M ≤ 2 ^ i * M := Nat.le_mul_of_pos_left _ (by omega)
    rcases mrg_mem ws _ x h with h | h
    · have := hM _ h; omega
    · have := prs_mem _ _ (rowK_wt hM i) _ h; omega
theorem rowK_two (ws : List Nat) (h : 1 ≤ ws.length) : ∀ i, (rowK ws i).length ≤ 2 * ws.length
  | 0 => by simp [rowK]
  | i + 1 => by have := rowK_two ws h i; rw [rowK_len]; omega
/-- What was made as a row of numbers can be read. -/
theorem NR.own {w : World} {B : Nat} {v : Value} {l : List Nat} (h : w.ownsRow B 3 1 v l.length (ic (zN l))) : NR w v l := by
  have hlt := h.lt
  have h' := h
  rcases h.2 with ⟨rfl, h0⟩ | ⟨g, cap, cur, rfl, _, _, hc, _⟩
  · have : l = [] := List.length_eq_zero_iff.1 h0
    subst this
    exact ⟨none, 0, rfl, Nat.le_refl _, fun h => absurd rfl h⟩
  · refine ⟨_, cap, rfl, hc, fun _ => ⟨g, 0, rfl, (hlt g rfl).2, fun i hi => ?_⟩⟩
    rw [Nat.zero_add, h'.cellAt i (by omega), ic_at _ _ (by rw [zN_len]; exact hi)]
    congr 2
    simp [zN, List.getD_eq_getElem?_getD, hi]
theorem NR.below {w w' : World} {v : Value} {l : List Nat} (h : NR w v l) (hb : Below w.heap.size w w') : NR w' v l := by
  obtain ⟨a, cap, rfl, hc, hf⟩ := h
  refine ⟨a, cap, rfl, hc, fun hl => ?_⟩
  obtain ⟨g, o, rfl, hg, hcell⟩ := hf hl
  exact ⟨g, o, rfl, Nat.lt_of_lt_of_le hg hb.size, fun i hi => by rw [hb.cell (p := ⟨g, o + i, none⟩) hg]; exact hcell i hi⟩
theorem Tryz.infoRw : (Tryz.prog.info? 221).map (fun i => (i.zero, i.size, i.bytes)) = some (some (.slice none 0 0), 1, 24) := by kernel_rfl
/-- Rows of items, each of its own. -/
def RowsAt (w W : World) (ws : List Nat) (vs : List Value) : Prop := ∀ i v, vs[i]? = some v → W.ownsRow w.heap.size 223 2 v (rowK ws (i + 1)).length (itC (rowK ws (i + 1)))
theorem own_keepH {w w' : World} {B B' n m sz sz' : Nat} {ty ty' : TypeId} {v u : Value} {xs ys : List Value} (h : w.ownsRow B ty sz v n xs) (k : w.ownsRow B' ty' sz' u m ys) (hne : ty ≠ ty') (hg : w.grownBy w' u.ownBlock) : w'.ownsRow B ty sz v n xs := by
  rcases h.2 with ⟨rfl, h0⟩ | ⟨g, cap, cur, rfl, _, hc, _⟩
  · exact ⟨h.1, .inl ⟨rfl, h0⟩⟩
  · refine h.kept hg (.inr fun e => ?_)
    rcases k.2 with ⟨rfl, _⟩ | ⟨g', cap', cur', rfl, _, hc', _⟩
    · simp [Value.ownBlock] at e
    · simp only [Value.ownBlock, Option.some.injEq] at e
      subst e
      rw [hc] at hc'
      simp only [Option.some.injEq, Obj.cells.injEq] at hc'
      exact hne hc'.2.1
theorem own_belowH {w w' : World} {B n sz : Nat} {ty : TypeId} {v : Value} {xs : List Value} (h : w.ownsRow B ty sz v n xs) (hb : Below w.heap.size w w') : w'.ownsRow B ty sz v n xs := by
  have hlt := h.lt
  refine ⟨h.1, ?_⟩
  rcases h.2 with h | ⟨g, cap, cur, rfl, h2, h3, h4⟩
  · exact .inl h
  · exact .inr ⟨g, cap, cur, rfl, h2, (hb.block _ (hlt g rfl).2).trans h3, h4⟩
theorem own_baseH {W : World} {B C n sz : Nat} {ty : TypeId} {v : Value} {xs : List Value} (h : W.ownsRow B ty sz v n xs) (hC : C ≤ B) : W.ownsRow C ty sz v n xs := by
  refine ⟨h.1, ?_⟩
  rcases h.2 with h | ⟨g, cap, cur, e, h2, h3⟩
  · exact .inl h
  · exact .inr ⟨g, cap, cur, e, Nat.le_trans hC h2, h3⟩
theorem own_sliceH {w : World} {B n : Nat} {ty : TypeId} {sz : Nat} {v : Value} {xs : List Value} (h : w.ownsRow B ty sz v n xs) : ∃ a cap, v = .slice a n cap := by
  rcases h.2 with ⟨rfl, rfl⟩ | ⟨g, cap, cur, rfl, _⟩
  · exact ⟨none, 0, rfl⟩
  · exact ⟨_, cap, rfl⟩
set_option maxRecDepth 100000 in
set_option maxHeartbeats 2000000 in
theorem rows_any (v : Value) (ws : List Nat) (n : Nat) (w : World) (hV : NR w v ws) (hl : ws.length ≤ 320) (h1 : 1 ≤ ws.length) (hn : n ≤ 15) (hM : ∀ x ∈ ws, x ≤ 1000000) :
    Calls Tryz.prog 125 #[v, .int .i64 (n : Int)] w fun e w' => ∃ v' vs, e = .returned v' ∧ vs.length = n ∧ w'.ownsRow w.heap.size 221 1 v' n vs ∧ RowsAt w w' ws vs ∧ Below w.heap.size w w' := by
  obtain ⟨i0, hi, hz0, hz1, hz2⟩ := info_parts Tryz.infoRw
  have HWT : Hid (∀ i, i ≤ 15 → ∀ x ∈ rowK ws i, x.wt ≤ 1000000000000000000) := fun i hi x hx => by
    have h1 := rowK_wt hM i x hx
    have h2 : 2 ^ i ≤ 2 ^ 15 := Nat.pow_le_pow_right (by decide) hi
    have h3 : 2 ^ i * 1000000 ≤ 2 ^ 15 * 1000000 := Nat.mul_le_mul_right _ h2
    omega
  have HLN : Hid (∀ i, (rowK ws i).length ≤ 640) := fun i => by have := rowK_two ws h1 i; omega
  have HPL : Hid (∀ i, (prs (rowK ws i)).length ≤ 320) := fun i => by rw [prs_len]; have := HLN.out i; omega
  have HNV : Hid (∀ W, Below w.heap.size w W → NR W v ws) := fun W hb => hV.below hb
  obtain ⟨av, cv, rfl, _⟩ := hV
  go_enter Tryz.func125, Tryz.ntmps125
  go_wp2
  go_loopw [5, 6, 8] (fun r x i wr => ∃ (k : Nat) (vs : List Value), k ≤ n ∧ vs.length = k ∧ i = .int .i64 (k : Int) ∧ wr.ownsRow w.heap.size 223 2 x (rowK ws k).length (itC (rowK ws k)) ∧ wr.ownsRow w.heap.size 221 1 r k vs ∧ RowsAt w wr ws vs ∧ Below w.heap.size w wr) (fun _ _ i _ => n - (intOf i).toNat)
  case atStart => exact ⟨0, [], Nat.zero_le _, rfl, rfl, World.ownsRow_nil _ _ _ _, World.ownsRow_nil _ _ _ _, fun i v h => by simp at h, Below.refl _ _⟩
  case round =>
    obtain ⟨k, vs, hk, hvs, rfl, hX, hR, hA, hB⟩ := hrel
    have hsz := hB.size
    by_cases hlt : k < n
    · have hki : (k : Int) < (n : Int) := by omega
      have HPA : Hid (Calls _ _ _ _ _) := pairs_any _ (rowK ws k) wr (PR.own hX) (by have := HLN.out k; omega) (HWT.out k (by omega))
      obtain ⟨ax, cx, rfl⟩ := own_sliceH hX
      go_wp2_with fail
      refine (Hid.out HPA : Calls _ _ _ _ _).mono ?_
      rintro e w1 ⟨v1, rfl, hO1, hb1⟩
      have hB1 : Below w.heap.size w w1 := hB.trans (hb1.mono hsz)
      have hpl := HPL.out k
      have HMA : Hid (Calls _ _ _ _ _) := merge_any _ _ ws (prs (rowK ws k)) w1 (HNV.out w1 hB1) (NR.own hO1) (by omega)
      obtain ⟨a1, c1, rfl⟩ := own_sliceH hO1
      clear HPA
      go_wp2_with fail
      refine (Hid.out HMA : Calls _ _ _ _ _).mono ?_
      rintro e w2 ⟨v2, rfl, hO2, hb2⟩
      have hO3 : w2.ownsRow w.heap.size 223 2 v2 (rowK ws (k + 1)).length (itC (rowK ws (k + 1))) := own_baseH hO2 hB1.size
      have HB2 : Hid (Below w.heap.size w w2) := hB1.trans (hb2.mono hB1.size)
      have HR2 : Hid (w2.ownsRow w.heap.size 221 1 _ k vs) := own_belowH (own_belowH hR hb1) hb2
      have HA2 : Hid (RowsAt w w2 ws vs) := fun i v h => own_belowH (own_belowH (hA i v h) hb1) hb2
      obtain ⟨a2, c2, rfl⟩ := own_sliceH hO3
      have HO3 : Hid (w2.ownsRow w.heap.size 223 2 (.slice a2 (rowK ws (k + 1)).length c2) (rowK ws (k + 1)).length (itC (rowK ws (k + 1)))) := hO3
      have hsz2 := HB2.out.size
      clear HMA hO1 hO2 hb1 hb2 hB1 hO3 hX hR hA hB
      go_wp2_with (at_builtin; refine wpList_append_own _ rfl _ _ 219 rfl w.heap.size 221 i0 (.slice none 0 0) 1 24 Tryz.underlying219 hi hz0 hz1 hz2 rfl (by decide) _ _ _ rfl (HR2.out.alloc _) ⟨w2.heap.size, 0, none⟩ 1 1 [.slice a2 (rowK ws (k + 1)).length c2] rfl rfl (cell_one_new _ _ _) ?d2 ?d3 ?d4 ?d5 ?_)
      case d2 => first | rfl | (intro y hy; simp at hy; subst hy; rfl)
      case d3 => unfold maxLen; omega
      case d4 => omega
      case d5 => first | omega | (rw [World.size_alloc]; omega)
      intro v9 w9 hown hg9 _
      have HR9 : Hid (w9.ownsRow w.heap.size 221 1 v9 (k + 1) (vs ++ [.slice a2 (rowK ws (k + 1)).length c2])) := hown
      have HX9 : Hid (w9.ownsRow w.heap.size 223 2 (.slice a2 (rowK ws (k + 1)).length c2) (rowK ws (k + 1)).length (itC (rowK ws (k + 1)))) := own_keepH (HO3.out.alloc _) (HR2.out.alloc _) (by decide) hg9
      have HA9 : Hid (RowsAt w w9 ws (vs ++ [.slice a2 (rowK ws (k + 1)).length c2])) := fun i v h => by
        by_cases e : i < vs.length
        · rw [List.getElem?_append_left e] at h
          exact own_keepH ((HA2.out i v h).alloc _) (HR2.out.alloc _) (by decide) hg9
        · rw [List.getElem?_append_right (by omega)] at h
          have hi0 : i = k := by
            have := (List.getElem?_eq_some_iff.1 h).1
            simp at this; omega
          subst hi0
          rw [hvs, Nat.sub_self] at h
          simp at h
          subst h
          exact HX9.out
      have HB9 : Hid (Below w.heap.size w w9) := (HB2.out.alloc hsz2 _).grown hg9 (by rw [World.size_alloc]; omega) (fun q hq => (HR2.out.lt q hq).1)
      clear hown hg9 HR2 HA2 HO3 HB2
      go_wp2
      go_roundw
      case rel => exact ⟨k + 1, _, by omega, by rw [List.length_append, hvs]; rfl, by go_num, HX9.out, HR9.out, HA9.out, HB9.out⟩
      case measure => simp [intOf]; omega
    · obtain rfl : k = n := by omega
      clear HWT HLN HPL HNV
      go_wp2
      go_ret
      exact ⟨_, vs, rfl, hvs, hR, hA, hB⟩
end Go.Proofs.YtbknflckdbfogaaGreat
namespace Go.Proofs.YtbknflckdbfogaaGreat
open Go.RowKit
set_option linter.unusedVariables false
set_option linter.unusedSimpArgs false

/-- A row of numbers, told by a function. -/
def fz (f : Nat → Nat) (n : Nat) : List Value := (List.range n).map fun j => .int .i64 (f j : Int)
theorem fz_len (f : Nat → Nat) (n : Nat) : (fz f n).length = n := by simp [fz]
theorem fz_at (f : Nat → Nat) (n j : Nat) (h : j < n) : (fz f n)[j]? = some (.int .i64 (f j : Int)) := by simp [fz, h]
theorem fz_congr {f h : Nat → Nat} {n : Nat} (e : ∀ j, j < n → f j = h j) : fz f n = fz h n := by
  unfold fz
  apply List.map_congr_left
  intro j hj
  rw [e j (List.mem_range.1 hj)]
theorem fz_set (f : Nat → Nat) (n s x : Nat) : (fz f n).set s (.int .i64 (x : Int)) = fz (fun j => if j = s then x else f j) n := by
  apply List.ext_getElem?
  intro j
  rw [List.getElem?_set, fz_len]
  by_cases hj : j < n
  · have h1 := fz_at (fun j => if j = s then x else f j) n j hj
    have h2 := fz_at f n j hj
    by_cases e : s = j
    · subst e; rw [if_pos rfl, if_pos hj, h1]; simp
    · rw [if_neg e, h2, h1]; simp [show ¬ j = s from fun h => e h.symm]
  · have h1 : (fz (fun j => if j = s then x else f j) n)[j]? = none := List.getElem?_eq_none (by rw [fz_len]; omega)
    have h2 : (fz f n)[j]? = none := List.getElem?_eq_none (by rw [fz_len]; omega)
    rw [h1]
    by_cases e : s = j
    · rw [if_pos e, if_neg (by omega)]
    · rw [if_neg e, h2]
theorem outK_zero (ws : List Nat) (j : Nat) : ∀ i, outK ws j i 0 = 0
  | 0 => rfl
  | i + 1 => by
    rw [outK]
    have : ones (rowK ws (i + 1)) 0 = 0 := by cases rowK ws (i + 1) <;> rfl
    rw [this, if_neg (by omega), show nextC ws i 0 = 0 by unfold nextC; rw [this], outK_zero ws j i]
theorem ones_next : ∀ (l : List Itm) (c : Nat) (x : Itm), l[c]? = some x → ones l (c + 1) = ones l c + if x.one then 1 else 0
  | [], c, x, h => by simp at h
  | y :: l, 0, x, h => by
    simp at h; subst h
    have : ones l 0 = 0 := by cases l <;> rfl
    simp [ones, this]
  | y :: l, c + 1, x, h => by
    have := ones_next l c x (by simpa using h)
    rw [ones, ones, this]; omega
theorem Tryz.undR : Tryz.prog.underlying 221 = some (.slice (Tryz.prog.elem 221)) := by kernel_rfl
theorem Tryz.szR (W : World) : (sizeOf (Tryz.prog.elem 221)).run Tryz.prog W = .ok 2 W := by kernel_rfl
theorem cut_row {g N cap m : Nat} (h : m ≤ cap) (W : World) : (Instr.slice 221 (.slice (some ⟨g, 0, none⟩) N cap) none (some (.int .i64 (m : Int))) none).run Tryz.prog W = .ok (.slice (some ⟨g, 0, none⟩) m cap) W := by
  rw [run_slice_h (ht := Tryz.undR) (h0 := by omega) (h2 := by omega), Tryz.szR]
  simp [Result.andThen, sliced, Addr.add]
/-- What stays while out is counted up. -/
structure BB (w W : World) (ws : List Nat) (vr : Value) (vs : List Value) (g n : Nat) (f : Nat → Nat) : Prop where
  rows : W.ownsRow w.heap.size 221 1 vr vs.length vs
  items : RowsAt w W ws vs
  out : W.ownsRow w.heap.size 3 1 (.slice (some ⟨g, 0, none⟩) n n) n (fz f n)
  bel : Below w.heap.size w W
theorem BB.alloc {w W : World} {ws : List Nat} {vr : Value} {vs : List Value} {g n : Nat} {f : Nat → Nat} (h : BB w W ws vr vs g n f) (x : Obj) : BB w (W.alloc x) ws vr vs g n f :=
  ⟨h.rows.alloc x, fun i v hv => (h.items i v hv).alloc x, h.out.alloc x, h.bel.alloc h.bel.size x⟩
theorem BB.inc {w W : World} {ws : List Nat} {vr : Value} {vs : List Value} {g n : Nat} {f : Nat → Nat} (h : BB w W ws vr vs g n f) (s x : Nat) : BB w (W.setCell ⟨g, s, none⟩ (.int .i64 (x : Int))) ws vr vs g n (fun j => if j = s then x else f j) := by
  have hs := h.out.stored s (.int .i64 (x : Int))
  rw [fz_set] at hs
  exact ⟨own_keepH h.rows h.out (by decide) hs.2, fun i v hv => own_keepH (h.items i v hv) h.out (by decide) hs.2, hs.1, h.bel.setCell (p := ⟨g, s, none⟩) (h.out.lt g rfl).1 _⟩
theorem BB.congr {w W : World} {ws : List Nat} {vr : Value} {vs : List Value} {g n : Nat} {f f' : Nat → Nat} (h : BB w W ws vr vs g n f) (e : ∀ j, j < n → f j = f' j) : BB w W ws vr vs g n f' := ⟨h.rows, h.items, by rw [← fz_congr e]; exact h.out, h.bel⟩
set_option maxRecDepth 100000 in
set_option maxHeartbeats 2000000 in
theorem best_any (v : Value) (ws : List Nat) (most : Nat) (w : World) (hV : NR w v ws) (hl : ws.length ≤ 320) (h2 : 2 ≤ ws.length) (hm1 : 1 ≤ most) (hm : most ≤ 15) (hp : ws.length ≤ 2 ^ most) (hM : ∀ x ∈ ws, x ≤ 1000000) :
    Calls Tryz.prog 113 #[v, .int .i64 (most : Int)] w fun e w' => ∃ g, e = .returned (.slice (some ⟨g, 0, none⟩) ws.length ws.length) ∧ w'.ownsRow w.heap.size 3 1 (.slice (some ⟨g, 0, none⟩) ws.length ws.length) ws.length (fz (lenK ws most) ws.length) ∧ Below w.heap.size w w' := by
  obtain ⟨i0, hi, hz0, hz1, hz2⟩ := info_parts Tryz.infoI
  have hrow := row_enough hp hm1
  have HNV : Hid (∀ W, Below w.heap.size w W → NR W v ws) := fun W hb => hV.below hb
  obtain ⟨av, cv, rfl, _⟩ := hV
  obtain ⟨n, hn⟩ : ∃ n, n = ws.length := ⟨_, rfl⟩
  rw [← hn] at hl h2 hp hrow ⊢
  obtain ⟨w1, hmk, hown, hgr⟩ := run_makeSlice_full (P := Tryz.prog) (w := w) w.heap.size 40 3 i0 (.int .i64 0) 1 Tryz.underlying40 hi hz0 hz1 .i64 .i64 n (by omega) (by rw [hz2]; omega) (by unfold maxLen; omega) (Nat.le_refl _)
  have hcl : (madeCells (Value.int IntKind.i64 0).cells (n * 1)).toList = fz (fun _ => 0) n := by
    rw [Nat.mul_one]
    show (madeCells #[.int .i64 0] n).toList = _
    rw [toList_madeCells_one]
    unfold fz
    rw [List.map_const', List.length_range]; rfl
  rw [hcl] at hown
  have hB1 : Below w.heap.size w w1 := (Below.refl _ w).grown hgr (Nat.le_refl _) (fun k hk => by cases hk)
  have HRA : Hid (Calls _ _ _ _ _) := rows_any _ ws most w1 (HNV.out w1 hB1) (by omega) (by omega) hm hM
  rw [← hn] at HRA
  have HN : Hid (n = ws.length) := hn
  clear hcl hgr HNV hn
  go_enter Tryz.func113, Tryz.ntmps113
  go_wp2_with fail
  refine (Hid.out HRA : Calls _ _ _ _ _).mono ?_
  rintro e w2 ⟨vr, vs, rfl, hvs, hR, hA, hb2⟩
  have HBB : Hid (BB w w2 ws vr vs w.heap.size n (fun _ => 0)) := ⟨by rw [hvs]; exact own_baseH hR hB1.size, fun i v hv => own_baseH (hA i v hv) hB1.size, own_belowH hown hb2, hB1.trans (hb2.mono hB1.size)⟩
  obtain ⟨ar, cr, rfl⟩ := own_sliceH hR
  clear HRA hown hB1 hR hA hb2 hmk
  obtain ⟨C, hC⟩ : ∃ C, C = 2 * n - 2 := ⟨_, rfl⟩
  have hCi : 2 * (n : Int) - 2 = (C : Int) := by omega
  have HST : Hid (∀ j, j < n → 0 + outK ws j most C = lenK ws most j) := fun j hj => by unfold lenK; rw [← HN.out, hC, Nat.zero_add]
  have hCr : C ≤ (rowK ws most).length := by omega
  clear hC hrow
  go_wp2
  go_loopw [7, 8] (fun q i W => ∃ (I c : Nat) (f : Nat → Nat), I ≤ most ∧ q = .int .i64 (c : Int) ∧ i = .int .i64 ((I : Int) - 1) ∧ c ≤ (rowK ws I).length ∧ (∀ j, j < n → f j + outK ws j I c = lenK ws most j) ∧ BB w W ws (.slice ar most cr) vs w.heap.size n f) (fun _ i _ => (intOf i + 1).toNat)
  case atStart => exact ⟨most, C, fun _ => 0, Nat.le_refl _, rfl, rfl, hCr, HST.out, HBB.out⟩
  case round =>
    clear HST HBB hCr hCi
    obtain ⟨I, c, f, hI, rfl, rfl, hc, hf, hb⟩ := hrel
    have hdone : (I = 0 ∨ c = 0) → fz f n = fz (lenK ws most) n := fun h => fz_congr fun j hj => by
      have := hf j hj
      rcases h with rfl | rfl
      · simpa [outK] using this
      · rw [outK_zero] at this; simpa using this
    have HD : Hid _ := hdone
    have HF : Hid (∀ j, j < n → f j + outK ws j I c = lenK ws most j) := hf
    have HB : Hid (BB w wr ws (.slice ar most cr) vs w.heap.size n f) := hb
    clear hdone hf hb
    have hend : (I = 0 ∨ c = 0) → wr.ownsRow w.heap.size 3 1 (.slice (some ⟨w.heap.size, 0, none⟩) n n) n (fz (lenK ws most) n) := fun h => by rw [← HD.out h]; exact HB.out.out
    have HEND : Hid _ := hend
    clear hend HD
    by_cases hI0 : I = 0
    · subst hI0
      have HE : Hid _ := HEND.out (.inl rfl)
      clear HEND HF
      simp only [show ((0 : Nat) : Int) - 1 = -1 from rfl]
      go_wp2
      go_ret
      exact ⟨_, rfl, HE.out, HB.out.bel⟩
    · by_cases hc0 : c = 0
      · subst hc0
        have HE : Hid _ := HEND.out (.inr rfl)
        have hIi : (0 : Int) ≤ (I : Int) - 1 := by omega
        clear HEND HF
        go_wp2
        go_ret
        exact ⟨_, rfl, HE.out, HB.out.bel⟩
      · obtain ⟨J, rfl⟩ : ∃ J, I = J + 1 := ⟨I - 1, by omega⟩
        have hJi : ((J + 1 : Nat) : Int) - 1 = (J : Int) := by omega
        rw [hJi]
        have hJ0 : (0 : Int) ≤ (J : Int) := by omega
        have hJm : (J : Int) < (most : Int) := by omega
        have hci : (0 : Int) < (c : Int) := by omega
        obtain ⟨vi, hvi⟩ : ∃ vi, vs[J]? = some vi := ⟨_, List.getElem?_eq_getElem (by omega)⟩
        have hitem := HB.out.items J vi hvi
        have hrowc := HB.out.rows
        rw [hvs] at hrowc
        obtain ⟨gr, rfl⟩ : ∃ gr, ar = some ⟨gr, 0, none⟩ := by
          rcases hrowc.2 with ⟨e, h0⟩ | ⟨g, _, _, e, _⟩
          · omega
          · simp only [Value.slice.injEq] at e; exact ⟨g, e.1⟩
        have cJ := hrowc.cellAt J (by omega)
        rw [hvi] at cJ
        obtain ⟨gi, ci, rfl, hci2⟩ : ∃ gi ci, vi = .slice (some ⟨gi, 0, none⟩) (rowK ws (J + 1)).length ci ∧ (rowK ws (J + 1)).length ≤ ci := by
          rcases hitem.2 with ⟨_, h0⟩ | ⟨g, cap, _, e, _, _, h1, _⟩
          · omega
          · exact ⟨g, cap, e, h1⟩
        have hcut := fun W => cut_row (g := gi) (N := (rowK ws (J + 1)).length) (cap := ci) (m := c) (by omega) W
        have hcb : c ≤ 640 := by
          have h1 := HN.out
          have h2 := rowK_two ws (by omega) (J + 1)
          omega
        have HOP : Hid (∀ t, ones (rowK ws (J + 1)) t ≤ t) := fun t => ones_le _ t
        have HON : Hid (∀ t, t ≤ c → ones (rowK ws (J + 1)) t ≤ n) := fun t ht => by
          have := (ones_parts ws (prs (rowK ws J)) t (by rw [← mrg_len, rowK_eq]; omega)).1
          rw [rowK_eq] at this
          rw [HN.out]; exact this
        have HLK : Hid (∀ j, j < n → f j ≤ 15) := fun j hj => by
          have h1 := HF.out j hj
          have h2 := lenK_le ws most j
          omega
        clear hitem hrowc
        go_wp2
        go_loopw [9, 40] (fun s i W => ∃ t : Nat, t ≤ c ∧ i = .int .i64 (t : Int) ∧ s = .int .i64 (ones (rowK ws (J + 1)) t : Int) ∧ BB w W ws (.slice (some ⟨gr, 0, none⟩) most cr) vs w.heap.size n (fun j => f j + if j < ones (rowK ws (J + 1)) t then 1 else 0)) (fun _ i _ => c - (intOf i).toNat)
        case atStart =>
          have h0 : ones (rowK ws (J + 1)) 0 = 0 := by cases rowK ws (J + 1) <;> rfl
          exact ⟨0, by omega, rfl, by rw [h0]; rfl, HB.out.congr fun j _ => by rw [h0]; simp⟩
        case round =>
          obtain ⟨t, ht, rfl, rfl, hb⟩ := hrel
          by_cases htc : t < c
          · obtain ⟨x, hx⟩ : ∃ x, (rowK ws (J + 1))[t]? = some x := ⟨_, List.getElem?_eq_getElem (by omega)⟩
            have hit := hb.items J _ hvi
            have hil := itC_len (rowK ws (J + 1))
            have cx0 := hit.cellAt (t * 2) (by omega)
            have cx1 := hit.cellAt (t * 2 + 1) (by omega)
            rw [(itC_at _ t x hx).1] at cx0
            rw [(itC_at _ t x hx).2] at cx1
            have HNX : Hid (_ = _) := ones_next _ t x hx
            have hS := HON.out (t + 1) (by omega)
            rw [HNX.out] at hS
            have hti : (t : Int) < (c : Int) := by omega
            have ht0 : (0 : Int) ≤ (t : Int) := by omega
            have HBA : Hid (BB w _ ws _ vs w.heap.size n _) := hb.alloc (.cells #[.int .i64 (x.wt : Int), .bool x.one] 223)
            clear hit hil hx hb
            obtain ⟨xw, xo⟩ := x
            simp only at cx0 cx1 HNX hS HBA
            generalize hSS : ones (rowK ws (J + 1)) t = S at *
            clear hSS
            cases xo
            · simp only [Bool.false_eq_true, if_false, Nat.add_zero] at HNX hS
              go_wp2
              go_roundw
              case rel => exact ⟨t + 1, by omega, by go_num, by rw [HNX.out], HBA.out.congr fun j _ => by rw [HNX.out]⟩
              case measure => simp [intOf]; omega
            · simp only [if_true] at HNX hS
              have hfS := HLK.out S (by omega)
              have co := HBA.out.out.cellAt S (by omega)
              have fo := HBA.out.out.frozenAt S
              rw [fz_at _ _ _ (by omega)] at co
              simp only [Nat.lt_irrefl, if_false, Nat.add_zero] at co
              have HBI : Hid (BB w _ ws _ vs w.heap.size n _) := HBA.out.inc S (f S + 1)
              have hSi : (S : Int) < (n : Int) := by omega
              have hS0 : (0 : Int) ≤ (S : Int) := by omega
              have hfi : ((f S + 1 : Nat) : Int) = (f S : Int) + 1 := by omega
              rw [hfi] at HBI
              have HCG : Hid (∀ j, j < n → (if j = S then f S + 1 else f j + if j < S then 1 else 0) = f j + if j < S + 1 then 1 else 0) := fun j _ => by
                by_cases e : j = S
                · subst e; simp
                · rw [if_neg e]
                  by_cases h : j < S
                  · rw [if_pos h, if_pos (by omega)]
                  · rw [if_neg h, if_neg (by omega)]
              clear HBA hfi
              generalize f S = y at *
              go_wp2
              go_roundw
              case rel => exact ⟨t + 1, by omega, by go_num, by rw [HNX.out]; go_num, HBI.out.congr fun j hj => by rw [HNX.out]; exact HCG.out j hj⟩
              case measure => simp [intOf]; omega
          · obtain rfl : t = c := by omega
            have hone := HOP.out t
            have HNC : Hid (nextC ws J t = 2 * (t - ones (rowK ws (J + 1)) t)) := rfl
            have HNL : Hid (nextC ws J t ≤ (rowK ws J).length) := nextC_le hc
            have HFN : Hid (∀ j, j < n → (f j + if j < ones (rowK ws (J + 1)) t then 1 else 0) + outK ws j J (nextC ws J t) = lenK ws most j) := fun j hj => by
              have := HF.out j hj
              rw [outK] at this
              omega
            have HBF : Hid (BB w wr ws _ vs w.heap.size n _) := hb
            have hnc : 2 * ((t : Int) - (ones (rowK ws (J + 1)) t : Int)) = (nextC ws J t : Int) := by rw [HNC.out]; omega
            have hlen := HNL.out
            have hlr := rowK_two ws (by have := HN.out; omega) J
            clear hb HNC HF HB HEND HON HOP
            generalize nextC ws J t = Z at *
            generalize ones (rowK ws (J + 1)) t = S at *
            have hSt : (0 : Int) ≤ (t : Int) - (S : Int) := by omega
            have hZb : Z ≤ 640 := by have := HN.out; omega
            go_wp2
            go_roundw
            case rel => exact ⟨J, Z, _, by omega, rfl, rfl, HNL.out, HFN.out, HBF.out⟩
            case measure => simp [intOf]
end Go.Proofs.YtbknflckdbfogaaGreat
namespace Go.Proofs.YtbknflckdbfogaaGreat
open Go.RowKit
set_option linter.unusedVariables false
set_option linter.unusedSimpArgs false

/-- Below, above or alike. -/
def cmpZ (a b : Int) : Int := if a < b then -1 else if b < a then 1 else 0
set_option maxRecDepth 100000 in
theorem isNaN_any (a : Int) (w : World) : Calls Tryz.prog 131 #[.int .i64 a] w fun e w' => e = .returned (.bool false) ∧ w' = w := by
  go_enter Tryz.func131, Tryz.ntmps131
  have h : (a != a) = false := by simp
  go_wp2
  go_ret
  exact ⟨rfl, rfl⟩
set_option maxRecDepth 100000 in
theorem compare_any (a b : Int) (w : World) : Calls Tryz.prog 124 #[.int .i64 a, .int .i64 b] w fun e w' => e = .returned (.int .i64 (cmpZ a b)) ∧ w' = w := by
  go_enter Tryz.func124, Tryz.ntmps124
  go_wp2_with fail
  refine (isNaN_any a _).mono ?_
  rintro e w1 ⟨rfl, h1⟩
  obtain rfl : w = w1 := h1.symm
  go_wp2_with fail
  refine (isNaN_any b _).mono ?_
  rintro e w2 ⟨rfl, h2⟩
  obtain rfl : w = w2 := h2.symm
  clear h1 h2
  by_cases hab : a < b
  · have HE : Hid (cmpZ a b = -1) := by unfold Hid cmpZ; rw [if_pos hab]
    go_wp2
    go_ret
    exact ⟨by rw [HE.out]; rfl, rfl⟩
  · by_cases hba : b < a
    · have HE : Hid (cmpZ a b = 1) := by unfold Hid cmpZ; rw [if_neg hab, if_pos hba]
      go_wp2
      go_ret
      exact ⟨by rw [HE.out]; rfl, rfl⟩
    · have HE : Hid (cmpZ a b = 0) := by unfold Hid cmpZ; rw [if_neg hab, if_neg hba]
      go_wp2
      go_ret
      exact ⟨by rw [HE.out]; rfl, rfl⟩
/-- The error of Lengths that each number tells by itself. -/
def chkC (zs : List Int) (most : Int) : Nat := if 320 < zs.length then 2 else if most < 1 ∨ 15 < most then 1 else if ∃ z ∈ zs, z < 0 ∨ 1000000 < z then 1 else 0
end Go.Proofs.YtbknflckdbfogaaGreat
namespace Go.Proofs.YtbknflckdbfogaaGreat
open Go.RowKit
set_option linter.unusedVariables false
set_option linter.unusedSimpArgs false

/-- All counts of 0 to 1000000? -/
def inM (zs : List Int) : Prop := ∀ i, i < zs.length → 0 ≤ zs.getD i 0 ∧ zs.getD i 0 ≤ 1000000
/-- The first one that isn't, or none. -/
theorem notM {zs : List Int} (h : ¬ inM zs) : ∃ k, k < zs.length ∧ (zs.getD k 0 < 0 ∨ 1000000 < zs.getD k 0) ∧ ∀ i, i < k → 0 ≤ zs.getD i 0 ∧ zs.getD i 0 ≤ 1000000 := by
  have key : ∀ n, n ≤ zs.length → (∀ i, i < n → 0 ≤ zs.getD i 0 ∧ zs.getD i 0 ≤ 1000000) ∨ ∃ k, k < n ∧ (zs.getD k 0 < 0 ∨ 1000000 < zs.getD k 0) ∧ ∀ i, i < k → 0 ≤ zs.getD i 0 ∧ zs.getD i 0 ≤ 1000000 := by
    intro n
    induction n with
    | zero => intro _; exact .inl fun i hi => by omega
    | succ n ih =>
      intro hn
      rcases ih (by omega) with h1 | ⟨k, hk, h2, h3⟩
      · by_cases h2 : 0 ≤ zs.getD n 0 ∧ zs.getD n 0 ≤ 1000000
        · exact .inl fun i hi => by
            by_cases e : i = n
            · subst e; exact h2
            · exact h1 i (by omega)
        · exact .inr ⟨n, by omega, by omega, h1⟩
      · exact .inr ⟨k, by omega, h2, h3⟩
  rcases key zs.length (Nat.le_refl _) with h1 | ⟨k, h2⟩
  · exact absurd h1 h
  · exact ⟨k, h2⟩
theorem getD_in {zs : List Int} {k : Nat} (hk : k < zs.length) : zs.getD k 0 ∈ zs := by
  rw [List.getD_eq_getElem?_getD, List.getElem?_eq_getElem hk]; exact List.getElem_mem hk
theorem inM.all {zs : List Int} (h : inM zs) : ¬ ∃ z ∈ zs, z < 0 ∨ 1000000 < z := by
  rintro ⟨z, hz, hb⟩
  obtain ⟨i, hi, rfl⟩ := List.getElem_of_mem hz
  have := h i hi
  rw [List.getD_eq_getElem?_getD, List.getElem?_eq_getElem hi] at this
  simp at this
  omega
theorem chkC_big {zs : List Int} {m : Int} (h : 320 < zs.length) : chkC zs m = 2 := by unfold chkC; rw [if_pos h]
theorem chkC_most {zs : List Int} {m : Int} (h : ¬ 320 < zs.length) (hm : m < 1 ∨ 15 < m) : chkC zs m = 1 := by unfold chkC; rw [if_neg h, if_pos hm]
theorem chkC_arg {zs : List Int} {m : Int} (h : ¬ 320 < zs.length) (hm : ¬ (m < 1 ∨ 15 < m)) {k : Nat} (hk : k < zs.length) (hb : zs.getD k 0 < 0 ∨ 1000000 < zs.getD k 0) : chkC zs m = 1 := by
  unfold chkC; rw [if_neg h, if_neg hm, if_pos ⟨_, getD_in hk, hb⟩]
theorem chkC_ok {zs : List Int} {m : Int} (h : ¬ 320 < zs.length) (hm : ¬ (m < 1 ∨ 15 < m)) (hi : inM zs) : chkC zs m = 0 := by
  unfold chkC; rw [if_neg h, if_neg hm, if_neg hi.all]
set_option maxRecDepth 100000 in
set_option maxHeartbeats 1000000 in
theorem chkC_any (v : Value) (zs : List Int) (m : Int) (w : World) (hR : IQ w v zs) (hl : zs.length ≤ 2 ^ 40) :
    Calls Tryz.prog 111 #[v, .int .i64 m] w fun e w' => e = .returned (.int .i64 (chkC zs m : Int)) ∧ w' = w := by
  obtain ⟨g, o, cap, rfl, hg, hc⟩ := hR
  have HC : Hid (∀ i, i < zs.length → w.cell? ⟨g, o + i, none⟩ = some (.int .i64 (zs.getD i 0))) := hc
  clear hc
  by_cases hb : 320 < zs.length
  · have hbi : (320 : Int) < (zs.length : Int) := by omega
    have HE : Hid (chkC zs m = 2) := chkC_big hb
    go_enter Tryz.func111, Tryz.ntmps111
    go_wp2
    go_ret
    exact ⟨by rw [HE.out]; rfl, rfl⟩
  have hbi : ¬ (320 : Int) < (zs.length : Int) := by omega
  by_cases hm1 : m < 1
  · have HE : Hid (chkC zs m = 1) := chkC_most hb (.inl hm1)
    go_enter Tryz.func111, Tryz.ntmps111
    go_wp2
    go_ret
    exact ⟨by rw [HE.out]; rfl, rfl⟩
  by_cases hm2 : 15 < m
  · have HE : Hid (chkC zs m = 1) := chkC_most hb (.inr hm2)
    go_enter Tryz.func111, Tryz.ntmps111
    go_wp2
    go_ret
    exact ⟨by rw [HE.out]; rfl, rfl⟩
  by_cases hin : inM zs
  · have HIN : Hid (inM zs) := hin
    have HE : Hid (chkC zs m = 0) := chkC_ok hb (by omega) hin
    clear hin
    go_enter Tryz.func111, Tryz.ntmps111
    go_wp2
    go_loop [18] (fun i => ∃ k : Nat, k ≤ zs.length ∧ i = .int .i64 (k : Int)) (fun i => zs.length - (intOf i).toNat)
    case atStart => exact ⟨0, by omega, rfl⟩
    case round =>
      obtain ⟨k, hk, rfl⟩ := hrel
      by_cases hlt : k < zs.length
      · have hck := HC.out k hlt
        obtain ⟨z0, z15⟩ := HIN.out k hlt
        generalize zs.getD k 0 = z at *
        have hki : (k : Int) < (zs.length : Int) := by omega
        have hki0 : (0 : Int) ≤ (k : Int) := by omega
        go_wp2
        go_round
        case rel => exact ⟨k + 1, by omega, by go_num⟩
        case measure => simp [intOf]; omega
      · obtain rfl : k = zs.length := by omega
        go_wp2
        go_ret
        exact ⟨by rw [HE.out]; rfl, rfl⟩
  · obtain ⟨K, hK, hbad, hgood⟩ := notM hin
    have HE : Hid (chkC zs m = 1) := chkC_arg hb (by omega) hK hbad
    have HG : Hid (∀ i, i < K → 0 ≤ zs.getD i 0 ∧ zs.getD i 0 ≤ 1000000) := hgood
    clear hin hgood
    go_enter Tryz.func111, Tryz.ntmps111
    go_wp2
    go_loop [18] (fun i => ∃ k : Nat, k ≤ K ∧ i = .int .i64 (k : Int)) (fun i => zs.length - (intOf i).toNat)
    case atStart => exact ⟨0, by omega, rfl⟩
    case round =>
      obtain ⟨k, hk, rfl⟩ := hrel
      have hck := HC.out k (by omega)
      have hki : (k : Int) < (zs.length : Int) := by omega
      have hki0 : (0 : Int) ≤ (k : Int) := by omega
      by_cases hlt : k < K
      · obtain ⟨z0, z15⟩ := HG.out k hlt
        clear hbad
        generalize zs.getD k 0 = z at *
        go_wp2
        go_round
        case rel => exact ⟨k + 1, by omega, by go_num⟩
        case measure => simp [intOf]; omega
      · obtain rfl : k = K := by omega
        generalize zs.getD k 0 = z at *
        rcases hbad with hbad | hbad
        · go_wp2
          go_ret
          exact ⟨by rw [HE.out]; rfl, rfl⟩
        · have hz0 : ¬ z < 0 := by omega
          go_wp2
          go_ret
          exact ⟨by rw [HE.out]; rfl, rfl⟩
end Go.Proofs.YtbknflckdbfogaaGreat
