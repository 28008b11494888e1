/- Contract of huff.bestLengths. -/
import Derived.Test.YtclmjopppaknjaaHRows
namespace Go.Proofs.Ytclmjopppaknjaa
open Go.RowKit
set_option linter.unusedVariables false
set_option linter.unusedSimpArgs false

/-- A row of numbers, told by a function. -/
def fz (f : Nat → Nat) (n : Nat) : List Value := (List.range n).map fun j => .int .i64 (f j : Int)
theorem fz_len (f : Nat → Nat) (n : Nat) : (fz f n).length = n := by simp [fz]
theorem fz_at (f : Nat → Nat) (n j : Nat) (h : j < n) : (fz f n)[j]? = some (.int .i64 (f j : Int)) := by simp [fz, h]
theorem fz_congr {f h : Nat → Nat} {n : Nat} (e : ∀ j, j < n → f j = h j) : fz f n = fz h n := by
  unfold fz
  apply List.map_congr_left
  intro j hj
  rw [e j (List.mem_range.1 hj)]
theorem fz_set (f : Nat → Nat) (n s x : Nat) : (fz f n).set s (.int .i64 (x : Int)) = fz (fun j => if j = s then x else f j) n := by
  apply List.ext_getElem?
  intro j
  rw [List.getElem?_set, fz_len]
  by_cases hj : j < n
  · have h1 := fz_at (fun j => if j = s then x else f j) n j hj
    have h2 := fz_at f n j hj
    by_cases e : s = j
    · subst e; rw [if_pos rfl, if_pos hj, h1]; simp
    · rw [if_neg e, h2, h1]; simp [show ¬ j = s from fun h => e h.symm]
  · have h1 : (fz (fun j => if j = s then x else f j) n)[j]? = none := List.getElem?_eq_none (by rw [fz_len]; omega)
    have h2 : (fz f n)[j]? = none := List.getElem?_eq_none (by rw [fz_len]; omega)
    rw [h1]
    by_cases e : s = j
    · rw [if_pos e, if_neg (by omega)]
    · rw [if_neg e, h2]
theorem outK_zero (ws : List Nat) (j : Nat) : ∀ i, outK ws j i 0 = 0
  | 0 => rfl
  | i + 1 => by
    rw [outK]
    have : ones (rowK ws (i + 1)) 0 = 0 := by cases rowK ws (i + 1) <;> rfl
    rw [this, if_neg (by omega), show nextC ws i 0 = 0 by unfold nextC; rw [this], outK_zero ws j i]
theorem ones_next : ∀ (l : List Itm) (c : Nat) (x : Itm), l[c]? = some x → ones l (c + 1) = ones l c + if x.one then 1 else 0
  | [], c, x, h => by simp at h
  | y :: l, 0, x, h => by
    simp at h; subst h
    have : ones l 0 = 0 := by cases l <;> rfl
    simp [ones, this]
  | y :: l, c + 1, x, h => by
    have := ones_next l c x (by simpa using h)
    rw [ones, ones, this]; omega
theorem Try.undR : Try.prog.underlying 121 = some (.slice (Try.prog.elem 121)) := by kernel_rfl
theorem Try.szR (W : World) : (sizeOf (Try.prog.elem 121)).run Try.prog W = .ok 2 W := by kernel_rfl
theorem cut_row {g N cap m : Nat} (h : m ≤ cap) (W : World) : (Instr.slice 121 (.slice (some ⟨g, 0, none⟩) N cap) none (some (.int .i64 (m : Int))) none).run Try.prog W = .ok (.slice (some ⟨g, 0, none⟩) m cap) W := by
  rw [run_slice_h (ht := Try.undR) (h0 := by omega) (h2 := by omega), Try.szR]
  simp [Result.andThen, sliced, Addr.add]
/-- What stays while out is counted up. -/
structure BB (w W : World) (ws : List Nat) (vr : Value) (vs : List Value) (g n : Nat) (f : Nat → Nat) : Prop where
  rows : W.ownsRow w.heap.size 121 1 vr vs.length vs
  items : RowsAt w W ws vs
  out : W.ownsRow w.heap.size 3 1 (.slice (some ⟨g, 0, none⟩) n n) n (fz f n)
  bel : Below w.heap.size w W
theorem BB.alloc {w W : World} {ws : List Nat} {vr : Value} {vs : List Value} {g n : Nat} {f : Nat → Nat} (h : BB w W ws vr vs g n f) (x : Obj) : BB w (W.alloc x) ws vr vs g n f :=
  ⟨h.rows.alloc x, fun i v hv => (h.items i v hv).alloc x, h.out.alloc x, h.bel.alloc h.bel.size x⟩
theorem BB.inc {w W : World} {ws : List Nat} {vr : Value} {vs : List Value} {g n : Nat} {f : Nat → Nat} (h : BB w W ws vr vs g n f) (s x : Nat) : BB w (W.setCell ⟨g, s, none⟩ (.int .i64 (x : Int))) ws vr vs g n (fun j => if j = s then x else f j) := by
  have hs := h.out.stored s (.int .i64 (x : Int))
  rw [fz_set] at hs
  exact ⟨own_keepH h.rows h.out (by decide) hs.2, fun i v hv => own_keepH (h.items i v hv) h.out (by decide) hs.2, hs.1, h.bel.setCell (p := ⟨g, s, none⟩) (h.out.lt g rfl).1 _⟩
theorem BB.congr {w W : World} {ws : List Nat} {vr : Value} {vs : List Value} {g n : Nat} {f f' : Nat → Nat} (h : BB w W ws vr vs g n f) (e : ∀ j, j < n → f j = f' j) : BB w W ws vr vs g n f' := ⟨h.rows, h.items, by rw [← fz_congr e]; exact h.out, h.bel⟩
set_option maxRecDepth 100000 in
set_option maxHeartbeats 2000000 in
theorem best_any (v : Value) (ws : List Nat) (most : Nat) (w : World) (hV : NR w v ws) (hl : ws.length ≤ 320) (h2 : 2 ≤ ws.length) (hm1 : 1 ≤ most) (hm : most ≤ 15) (hp : ws.length ≤ 2 ^ most) (hM : ∀ x ∈ ws, x ≤ 1000000) :
    Calls Try.prog 31 #[v, .int .i64 (most : Int)] w fun e w' => ∃ g, e = .returned (.slice (some ⟨g, 0, none⟩) ws.length ws.length) ∧ w'.ownsRow w.heap.size 3 1 (.slice (some ⟨g, 0, none⟩) ws.length ws.length) ws.length (fz (lenK ws most) ws.length) ∧ Below w.heap.size w w' := by
  obtain ⟨i0, hi, hz0, hz1, hz2⟩ := info_parts Try.infoI
  have hrow := row_enough hp hm1
  have HNV : Hid (∀ W, Below w.heap.size w W → NR W v ws) := fun W hb => hV.below hb
  obtain ⟨av, cv, rfl, _⟩ := hV
  obtain ⟨n, hn⟩ : ∃ n, n = ws.length := ⟨_, rfl⟩
  rw [← hn] at hl h2 hp hrow ⊢
  obtain ⟨w1, hmk, hown, hgr⟩ := run_makeSlice_full (P := Try.prog) (w := w) w.heap.size 22 3 i0 (.int .i64 0) 1 Try.underlying22 hi hz0 hz1 .i64 .i64 n (by omega) (by rw [hz2]; omega) (by unfold maxLen; omega) (Nat.le_refl _)
  have hcl : (madeCells (Value.int IntKind.i64 0).cells (n * 1)).toList = fz (fun _ => 0) n := by
    rw [Nat.mul_one]
    show (madeCells #[.int .i64 0] n).toList = _
    rw [toList_madeCells_one]
    unfold fz
    rw [List.map_const', List.length_range]; rfl
  rw [hcl] at hown
  have hB1 : Below w.heap.size w w1 := (Below.refl _ w).grown hgr (Nat.le_refl _) (fun k hk => by cases hk)
  have HRA : Hid (Calls _ _ _ _ _) := rows_any _ ws most w1 (HNV.out w1 hB1) (by omega) (by omega) hm hM
  rw [← hn] at HRA
  have HN : Hid (n = ws.length) := hn
  clear hcl hgr HNV hn
  go_enter Try.func31, Try.ntmps31
  go_wp2_with fail
  refine (Hid.out HRA : Calls _ _ _ _ _).mono ?_
  rintro e w2 ⟨vr, vs, rfl, hvs, hR, hA, hb2⟩
  have HBB : Hid (BB w w2 ws vr vs w.heap.size n (fun _ => 0)) := ⟨by rw [hvs]; exact own_baseH hR hB1.size, fun i v hv => own_baseH (hA i v hv) hB1.size, own_belowH hown hb2, hB1.trans (hb2.mono hB1.size)⟩
  obtain ⟨ar, cr, rfl⟩ := own_sliceH hR
  clear HRA hown hB1 hR hA hb2 hmk
  obtain ⟨C, hC⟩ : ∃ C, C = 2 * n - 2 := ⟨_, rfl⟩
  have hCi : 2 * (n : Int) - 2 = (C : Int) := by omega
  have HST : Hid (∀ j, j < n → 0 + outK ws j most C = lenK ws most j) := fun j hj => by unfold lenK; rw [← HN.out, hC, Nat.zero_add]
  have hCr : C ≤ (rowK ws most).length := by omega
  clear hC hrow
  go_wp2
  go_loopw [7, 8] (fun q i W => ∃ (I c : Nat) (f : Nat → Nat), I ≤ most ∧ q = .int .i64 (c : Int) ∧ i = .int .i64 ((I : Int) - 1) ∧ c ≤ (rowK ws I).length ∧ (∀ j, j < n → f j + outK ws j I c = lenK ws most j) ∧ BB w W ws (.slice ar most cr) vs w.heap.size n f) (fun _ i _ => (intOf i + 1).toNat)
  case atStart => exact ⟨most, C, fun _ => 0, Nat.le_refl _, rfl, rfl, hCr, HST.out, HBB.out⟩
  case round =>
    clear HST HBB hCr hCi
    obtain ⟨I, c, f, hI, rfl, rfl, hc, hf, hb⟩ := hrel
    have hdone : (I = 0 ∨ c = 0) → fz f n = fz (lenK ws most) n := fun h => fz_congr fun j hj => by
      have := hf j hj
      rcases h with rfl | rfl
      · simpa [outK] using this
      · rw [outK_zero] at this; simpa using this
    have HD : Hid _ := hdone
    have HF : Hid (∀ j, j < n → f j + outK ws j I c = lenK ws most j) := hf
    have HB : Hid (BB w wr ws (.slice ar most cr) vs w.heap.size n f) := hb
    clear hdone hf hb
    have hend : (I = 0 ∨ c = 0) → wr.ownsRow w.heap.size 3 1 (.slice (some ⟨w.heap.size, 0, none⟩) n n) n (fz (lenK ws most) n) := fun h => by rw [← HD.out h]; exact HB.out.out
    have HEND : Hid _ := hend
    clear hend HD
    by_cases hI0 : I = 0
    · subst hI0
      have HE : Hid _ := HEND.out (.inl rfl)
      clear HEND HF
      simp only [show ((0 : Nat) : Int) - 1 = -1 from rfl]
      go_wp2
      go_ret
      exact ⟨_, rfl, HE.out, HB.out.bel⟩
    · by_cases hc0 : c = 0
      · subst hc0
        have HE : Hid _ := HEND.out (.inr rfl)
        have hIi : (0 : Int) ≤ (I : Int) - 1 := by omega
        clear HEND HF
        go_wp2
        go_ret
        exact ⟨_, rfl, HE.out, HB.out.bel⟩
      · obtain ⟨J, rfl⟩ : ∃ J, I = J + 1 := ⟨I - 1, by omega⟩
        have hJi : ((J + 1 : Nat) : Int) - 1 = (J : Int) := by omega
        rw [hJi]
        have hJ0 : (0 : Int) ≤ (J : Int) := by omega
        have hJm : (J : Int) < (most : Int) := by omega
        have hci : (0 : Int) < (c : Int) := by omega
        obtain ⟨vi, hvi⟩ : ∃ vi, vs[J]? = some vi := ⟨_, List.getElem?_eq_getElem (by omega)⟩
        have hitem := HB.out.items J vi hvi
        have hrowc := HB.out.rows
        rw [hvs] at hrowc
        obtain ⟨gr, rfl⟩ : ∃ gr, ar = some ⟨gr, 0, none⟩ := by
          rcases hrowc.2 with ⟨e, h0⟩ | ⟨g, _, _, e, _⟩
          · omega
          · simp only [Value.slice.injEq] at e; exact ⟨g, e.1⟩
        have cJ := hrowc.cellAt J (by omega)
        rw [hvi] at cJ
        obtain ⟨gi, ci, rfl, hci2⟩ : ∃ gi ci, vi = .slice (some ⟨gi, 0, none⟩) (rowK ws (J + 1)).length ci ∧ (rowK ws (J + 1)).length ≤ ci := by
          rcases hitem.2 with ⟨_, h0⟩ | ⟨g, cap, _, e, _, _, h1, _⟩
          · omega
          · exact ⟨g, cap, e, h1⟩
        have hcut := fun W => cut_row (g := gi) (N := (rowK ws (J + 1)).length) (cap := ci) (m := c) (by omega) W
        have hcb : c ≤ 640 := by
          have h1 := HN.out
          have h2 := rowK_two ws (by omega) (J + 1)
          omega
        have HOP : Hid (∀ t, ones (rowK ws (J + 1)) t ≤ t) := fun t => ones_le _ t
        have HON : Hid (∀ t, t ≤ c → ones (rowK ws (J + 1)) t ≤ n) := fun t ht => by
          have := (ones_parts ws (prs (rowK ws J)) t (by rw [← mrg_len, rowK_eq]; omega)).1
          rw [rowK_eq] at this
          rw [HN.out]; exact this
        have HLK : Hid (∀ j, j < n → f j ≤ 15) := fun j hj => by
          have h1 := HF.out j hj
          have h2 := lenK_le ws most j
          omega
        clear hitem hrowc
        go_wp2
        go_loopw [9, 40] (fun s i W => ∃ t : Nat, t ≤ c ∧ i = .int .i64 (t : Int) ∧ s = .int .i64 (ones (rowK ws (J + 1)) t : Int) ∧ BB w W ws (.slice (some ⟨gr, 0, none⟩) most cr) vs w.heap.size n (fun j => f j + if j < ones (rowK ws (J + 1)) t then 1 else 0)) (fun _ i _ => c - (intOf i).toNat)
        case atStart =>
          have h0 : ones (rowK ws (J + 1)) 0 = 0 := by cases rowK ws (J + 1) <;> rfl
          exact ⟨0, by omega, rfl, by rw [h0]; rfl, HB.out.congr fun j _ => by rw [h0]; simp⟩
        case round =>
          obtain ⟨t, ht, rfl, rfl, hb⟩ := hrel
          by_cases htc : t < c
          · obtain ⟨x, hx⟩ : ∃ x, (rowK ws (J + 1))[t]? = some x := ⟨_, List.getElem?_eq_getElem (by omega)⟩
            have hit := hb.items J _ hvi
            have hil := itC_len (rowK ws (J + 1))
            have cx0 := hit.cellAt (t * 2) (by omega)
            have cx1 := hit.cellAt (t * 2 + 1) (by omega)
            rw [(itC_at _ t x hx).1] at cx0
            rw [(itC_at _ t x hx).2] at cx1
            have HNX : Hid (_ = _) := ones_next _ t x hx
            have hS := HON.out (t + 1) (by omega)
            rw [HNX.out] at hS
            have hti : (t : Int) < (c : Int) := by omega
            have ht0 : (0 : Int) ≤ (t : Int) := by omega
            have HBA : Hid (BB w _ ws _ vs w.heap.size n _) := hb.alloc (.cells #[.int .i64 (x.wt : Int), .bool x.one] 123)
            clear hit hil hx hb
            obtain ⟨xw, xo⟩ := x
            simp only at cx0 cx1 HNX hS HBA
            generalize hSS : ones (rowK ws (J + 1)) t = S at *
            clear hSS
            cases xo
            · simp only [Bool.false_eq_true, if_false, Nat.add_zero] at HNX hS
              go_wp2
              go_roundw
              case rel => exact ⟨t + 1, by omega, by go_num, by rw [HNX.out], HBA.out.congr fun j _ => by rw [HNX.out]⟩
              case measure => simp [intOf]; omega
            · simp only [if_true] at HNX hS
              have hfS := HLK.out S (by omega)
              have co := HBA.out.out.cellAt S (by omega)
              have fo := HBA.out.out.frozenAt S
              rw [fz_at _ _ _ (by omega)] at co
              simp only [Nat.lt_irrefl, if_false, Nat.add_zero] at co
              have HBI : Hid (BB w _ ws _ vs w.heap.size n _) := HBA.out.inc S (f S + 1)
              have hSi : (S : Int) < (n : Int) := by omega
              have hS0 : (0 : Int) ≤ (S : Int) := by omega
              have hfi : ((f S + 1 : Nat) : Int) = (f S : Int) + 1 := by omega
              rw [hfi] at HBI
              have HCG : Hid (∀ j, j < n → (if j = S then f S + 1 else f j + if j < S then 1 else 0) = f j + if j < S + 1 then 1 else 0) := fun j _ => by
                by_cases e : j = S
                · subst e; simp
                · rw [if_neg e]
                  by_cases h : j < S
                  · rw [if_pos h, if_pos (by omega)]
                  · rw [if_neg h, if_neg (by omega)]
              clear HBA hfi
              generalize f S = y at *
              go_wp2
              go_roundw
              case rel => exact ⟨t + 1, by omega, by go_num, by rw [HNX.out]; go_num, HBI.out.congr fun j hj => by rw [HNX.out]; exact HCG.out j hj⟩
              case measure => simp [intOf]; omega
          · obtain rfl : t = c := by omega
            have hone := HOP.out t
            have HNC : Hid (nextC ws J t = 2 * (t - ones (rowK ws (J + 1)) t)) := rfl
            have HNL : Hid (nextC ws J t ≤ (rowK ws J).length) := nextC_le hc
            have HFN : Hid (∀ j, j < n → (f j + if j < ones (rowK ws (J + 1)) t then 1 else 0) + outK ws j J (nextC ws J t) = lenK ws most j) := fun j hj => by
              have := HF.out j hj
              rw [outK] at this
              omega
            have HBF : Hid (BB w wr ws _ vs w.heap.size n _) := hb
            have hnc : 2 * ((t : Int) - (ones (rowK ws (J + 1)) t : Int)) = (nextC ws J t : Int) := by rw [HNC.out]; omega
            have hlen := HNL.out
            have hlr := rowK_two ws (by have := HN.out; omega) J
            clear hb HNC HF HB HEND HON HOP
            generalize nextC ws J t = Z at *
            generalize ones (rowK ws (J + 1)) t = S at *
            have hSt : (0 : Int) ≤ (t : Int) - (S : Int) := by omega
            have hZb : Z ≤ 640 := by have := HN.out; omega
            go_wp2
            go_roundw
            case rel => exact ⟨J, Z, _, by omega, rfl, rfl, HNL.out, HFN.out, HBF.out⟩
            case measure => simp [intOf]
end Go.Proofs.Ytclmjopppaknjaa
