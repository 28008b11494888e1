/- Contract of huff.Codes. Trees of codes: plain mathematics, no program. -/
import Derived.Test.YthkppipdflmekaaQHuffC
import Derived.Deep.OwnRows
import Derived.Deep.WholeRow
import Derived.Test.YthkppipdflmekaaQBitioM
namespace Go.Proofs.Ythkppipdflmekaa
open Go.RowKit
set_option linter.unusedVariables false

/-- Codes as cells: bits and length by turns. -/
def codeF (b l : Nat → Nat) : Nat → Value := fun j => if j % 2 = 0 then .int .u32 (b (j / 2) : Int) else .int .i64 (l (j / 2) : Int)
theorem codeF_even (b l : Nat → Nat) (i : Nat) : codeF b l (i * 2) = .int .u32 (b i : Int) := by unfold codeF; rw [if_pos (by omega), show i * 2 / 2 = i by omega]
theorem codeF_odd (b l : Nat → Nat) (i : Nat) : codeF b l (i * 2 + 1) = .int .i64 (l i : Int) := by unfold codeF; rw [if_neg (by omega), show (i * 2 + 1) / 2 = i by omega]
/-- The codes that are there behind symbol i of length n. -/
def bF (ns : List Nat) (n i s : Nat) : Nat := if 0 < ln ns s ∧ ahead ns n i s = true then cd ns (ln ns s) s else 0
def lF (ns : List Nat) (n i s : Nat) : Nat := if 0 < ln ns s ∧ ahead ns n i s = true then ln ns s else 0
theorem bF_next (ns : List Nat) (n i s : Nat) (h : s ≠ i ∨ ln ns i ≠ n) : bF ns n (i + 1) s = bF ns n i s := by
  have : ahead ns n (i + 1) s = ahead ns n i s := by
    rw [Bool.eq_iff_iff, ahead_iff, ahead_iff]
    rcases h with h | h
    · omega
    · by_cases e : s = i
      · subst e; omega
      · omega
  unfold bF; rw [this]
theorem lF_next (ns : List Nat) (n i s : Nat) (h : s ≠ i ∨ ln ns i ≠ n) : lF ns n (i + 1) s = lF ns n i s := by
  have : ahead ns n (i + 1) s = ahead ns n i s := by
    rw [Bool.eq_iff_iff, ahead_iff, ahead_iff]
    rcases h with h | h
    · omega
    · by_cases e : s = i
      · subst e; omega
      · omega
  unfold lF; rw [this]
theorem bF_here (ns : List Nat) (n i : Nat) (h : ln ns i = n) (hn : 0 < n) : bF ns n (i + 1) i = cd ns n i := by
  unfold bF; rw [if_pos ⟨by omega, ahead_iff.2 (by omega)⟩, h]
theorem lF_here (ns : List Nat) (n i : Nat) (h : ln ns i = n) (hn : 0 < n) : lF ns n (i + 1) i = n := by
  unfold lF; rw [if_pos ⟨by omega, ahead_iff.2 (by omega)⟩, h]
theorem bF_round (ns : List Nat) (n s : Nat) (hs : s < ns.length) : bF ns n ns.length s = bF ns (n + 1) 0 s := by
  have : ahead ns n ns.length s = ahead ns (n + 1) 0 s := by rw [Bool.eq_iff_iff, ahead_iff, ahead_iff]; omega
  unfold bF; rw [this]
theorem lF_round (ns : List Nat) (n s : Nat) (hs : s < ns.length) : lF ns n ns.length s = lF ns (n + 1) 0 s := by
  have : ahead ns n ns.length s = ahead ns (n + 1) 0 s := by rw [Bool.eq_iff_iff, ahead_iff, ahead_iff]; omega
  unfold lF; rw [this]
theorem F_start (ns : List Nat) (s : Nat) : bF ns 1 0 s = 0 ∧ lF ns 1 0 s = 0 := by
  have : ¬ (0 < ln ns s ∧ ahead ns 1 0 s = true) := fun h => by have := ahead_iff.1 h.2; omega
  unfold bF lF; rw [if_neg this, if_neg this]; exact ⟨rfl, rfl⟩
/-- The code of a symbol; of one without a code nought. -/
def cdOf (ns : List Nat) (s : Nat) : Nat := if 0 < ln ns s then cd ns (ln ns s) s else 0
theorem F_end (ns : List Nat) (h : all15 ns) (s : Nat) : bF ns 16 0 s = cdOf ns s ∧ lF ns 16 0 s = ln ns s := by
  have h15 := h.at s
  unfold bF lF cdOf
  by_cases h0 : 0 < ln ns s
  · have hc : 0 < ln ns s ∧ ahead ns 16 0 s = true := ⟨h0, ahead_iff.2 (by omega)⟩
    rw [if_pos hc, if_pos h0, if_pos hc]; exact ⟨rfl, rfl⟩
  · have hc : ¬ (0 < ln ns s ∧ ahead ns 16 0 s = true) := fun hh => h0 hh.1
    rw [if_neg hc, if_neg h0, if_neg hc]; exact ⟨rfl, by omega⟩
theorem Try.infoCode : (Try.prog.info? 143).map (fun i => (i.zero, i.size, i.bytes)) = some (some (.agg #[.int .u32 0, .int .i64 0]), 2, 16) := by kernel_rfl
theorem Try.zeroCode : (Try.prog.info? 143).map (fun i => (i.zero, i.size)) = some (some (.agg #[.int .u32 0, .int .i64 0]), 2) := by kernel_rfl
theorem made_codes (w : World) (n : Nat) : (w.alloc (.cells (madeCells #[.int .u32 0, .int .i64 0] (n * 2)) 143)).rowIs w.heap.size 143 (n * 2) (codeF (fun _ => 0) (fun _ => 0)) :=
  ⟨_, heap_alloc_new w _, size_madeCells _ _, fun i hi => by
    unfold codeF
    rcases Nat.mod_two_eq_zero_or_one i with e | e
    · simp [madeCells, hi, e]
    · simp [madeCells, hi, e]⟩
theorem make_codes (n : Nat) (hn : n ≤ 1000) (W : World) : (Instr.makeSlice 139 (.int .i64 (n : Int)) (.int .i64 (n : Int))).run Try.prog W = .ok (.slice (some ⟨W.heap.size, 0, none⟩) n n) (W.alloc (.cells (madeCells #[.int .u32 0, .int .i64 0] (n * 2)) 143)) := by
  obtain ⟨i0, hi, hz0, hz1, hz2⟩ := info_parts Try.infoCode
  have h := run_make (P := Try.prog) W 139 143 i0 _ Try.underlying139 hi hz0 .i64 .i64 (n : Int) (n : Int) (by omega) (by omega) (by rw [hz2]; omega) (by omega)
  rw [hz1] at h
  simpa [Value.cells] using h
/-- Two cells of a code. -/
theorem rowCode {w : World} {g n : Nat} {b l b' l' : Nat → Nat} {i x m : Nat} (h : w.rowIs g 143 n (codeF b l)) (hb : b' i = x) (hl : l' i = m) (hob : ∀ s, s ≠ i → b' s = b s) (hol : ∀ s, s ≠ i → l' s = l s) :
    ((w.setCell ⟨g, i * 2, none⟩ (.int .u32 (x : Int))).setCell ⟨g, i * 2 + 1, none⟩ (.int .i64 (m : Int))).rowIs g 143 n (codeF b' l') :=
  ((h.set (i * 2) _).set (i * 2 + 1) _).congr fun j hj => by
    by_cases e1 : j = i * 2 + 1
    · subst e1; rw [if_pos rfl, codeF_odd, hl]
    · rw [if_neg e1]
      by_cases e2 : j = i * 2
      · subst e2; rw [if_pos rfl, codeF_even, hb]
      · rw [if_neg e2]
        unfold codeF
        rw [hob (j / 2) (by omega), hol (j / 2) (by omega)]
/-- A slice of these codes. -/
def CR (w : World) (g n : Nat) (b l : Nat → Nat) : Prop := w.rowIs g 143 (n * 2) (codeF b l)
set_option maxRecDepth 100000 in
set_option maxHeartbeats 1000000 in
theorem codes_badO (v : Value) (zs : List Int) (w : World) (hR : IQ w v zs) (hl : zs.length ≤ 400) (he : errN zs ≠ 0) :
    Calls Try.prog 70 #[v] w fun e w' => e = .returned (.tuple #[.slice none 0 0, .int .i64 (errN zs : Int)]) ∧ w' = w := by
  have hei : ((errN zs : Int) != 0) = true := by simp; omega
  have HCk : Hid (Calls Try.prog 73 #[v] w fun e w' => e = .returned (.int .i64 (errN zs : Int)) ∧ w' = w) := check_anyO v zs w hR hl
  generalize errN zs = E at *
  go_enter Try.func70, Try.ntmps70
  go_wp2_with fail
  refine (Hid.out HCk : Calls _ _ _ _ _).mono ?_
  rintro e w1 ⟨rfl, rfl⟩
  go_wp2
  go_ret2
  exact ⟨rfl, rfl⟩
set_option maxRecDepth 100000 in
set_option maxHeartbeats 1000000 in
theorem codes_okO (v : Value) (zs : List Int) (w : World) (hR : IQ w v zs) (he : errN zs = 0) :
    Calls Try.prog 70 #[v] w fun e w' => e = .returned (.tuple #[.slice (some ⟨w.heap.size, 0, none⟩) zs.length zs.length, .int .i64 0]) ∧ CR w' w.heap.size zs.length (cdOf (toN zs)) (ln (toN zs)) ∧ Below w.heap.size w w' := by
  obtain ⟨hl, h15, hf⟩ := errN_zero he
  have HCk : Hid (Calls Try.prog 73 #[v] w fun e w' => e = .returned (.int .i64 (errN zs : Int)) ∧ w' = w) := check_anyO v zs w hR (by omega)
  rw [he] at HCk
  obtain ⟨g, o, cap, rfl, hg, hc⟩ := hR
  have HC : Hid (∀ i, i < zs.length → w.cell? ⟨g, o + i, none⟩ = some (.int .i64 (zs.getD i 0))) := hc
  have H15 : Hid (in15 zs) := h15
  have HA15 : Hid (all15 (toN zs)) := h15.all
  have HBd : Hid (∀ n i, n ≤ 15 → cd (toN zs) n i ≤ 320 * 16384) := fun n i hn => Nat.le_trans (cdK_le _ _ _ hn _) (Nat.mul_le_mul_right _ (by rw [toN_len]; exact hl))
  have hmk := make_codes zs.length (by omega)
  have HM : Hid (CR (w.alloc (.cells (madeCells #[.int .u32 0, .int .i64 0] (zs.length * 2)) 143)) w.heap.size zs.length (fun _ => 0) (fun _ => 0)) := made_codes w zs.length
  have HB0 : Hid (Below w.heap.size w (w.alloc (.cells (madeCells #[.int .u32 0, .int .i64 0] (zs.length * 2)) 143))) := (Below.refl _ w).alloc (Nat.le_refl _) _
  have HTL : Hid ((toN zs).length = zs.length) := toN_len zs
  have HTN : Hid (∀ i, i < zs.length → ((ln (toN zs) i : Nat) : Int) = zs.getD i 0) := fun i hi => toN_ln zs i hi (h15 i hi).1
  clear hc h15 hf he
  go_enter Try.func70, Try.ntmps70
  go_wp2_with fail
  refine (Hid.out HCk : Calls _ _ _ _ _).mono ?_
  rintro e w1 ⟨rfl, rfl⟩
  clear HCk
  go_wp2
  generalize w1.alloc (.cells (madeCells #[.int .u32 0, .int .i64 0] (zs.length * 2)) 143) = W1 at *
  clear hmk
  go_loopw [6, 7] (fun x n wr => ∃ m : Nat, 1 ≤ m ∧ m ≤ 16 ∧ n = .int .i64 (m : Int) ∧ x = .int .u32 (cd (toN zs) (m - 1) zs.length : Int) ∧ CR wr w1.heap.size zs.length (bF (toN zs) m 0) (lF (toN zs) m 0) ∧ Below w1.heap.size w1 wr) (fun _ n _ => 16 - (intOf n).toNat)
  case atStart => exact ⟨1, by omega, by omega, rfl, by rw [← HTL.out, cd_zero]; rfl, HM.out.congr (fun j hj => by unfold codeF; rw [(F_start _ _).1, (F_start _ _).2]), HB0.out⟩
  case round =>
    clear HM HB0
    obtain ⟨m, hm1, hm16, rfl, rfl, hR, hB⟩ := hrel
    by_cases hlt : m < 16
    · have hbd := HBd.out (m - 1) zs.length (by omega)
      have HR2 : Hid (2 * cd (toN zs) (m - 1) zs.length = cd (toN zs) m 0) := by
        have := cd_round (toN zs) (m - 1)
        rw [show m - 1 + 1 = m by omega, HTL.out] at this
        exact this.symm
      have HCR : Hid (CR wr w1.heap.size zs.length (bF (toN zs) m 0) (lF (toN zs) m 0)) := hR
      have HBl : Hid (Below w1.heap.size w1 wr) := hB
      have hmi : (m : Int) ≤ 15 := by omega
      have hbd0 := HBd.out m 0 (by omega)
      have HX : Hid ((cd (toN zs) (m - 1) zs.length : Int) * 2 = (cd (toN zs) m 0 : Int)) := by unfold Hid; rw [← HR2.out]; omega
      generalize cd (toN zs) (m - 1) zs.length = X at *
      clear hR hB HR2
      go_wp2
      rw [HX.out]
      go_loopw [6, 26] (fun x i wi => ∃ j : Nat, j ≤ zs.length ∧ i = .int .i64 (j : Int) ∧ x = .int .u32 (cd (toN zs) m j : Int) ∧ CR wi w1.heap.size zs.length (bF (toN zs) m j) (lF (toN zs) m j) ∧ Below w1.heap.size w1 wi) (fun _ i _ => zs.length - (intOf i).toNat)
      case atStart => exact ⟨0, by omega, rfl, rfl, HCR.out, HBl.out⟩
      case round =>
        clear HCR HBl HX
        obtain ⟨j, hj, rfl, rfl, hR, hB⟩ := hrel
        by_cases hjl : j < zs.length
        · have hck : wr.cell? ⟨g, o + j, none⟩ = some (.int .i64 (ln (toN zs) j : Int)) := by rw [hB.cell (p := ⟨g, o + j, none⟩) hg, HC.out j hjl, HTN.out j hjl]
          have HNx := cd_next (toN zs) m j (by omega) (by rw [HTL.out]; exact hjl)
          have hbj := HBd.out m j (by omega)
          have ce : wr.cell? ⟨w1.heap.size, j * 2, none⟩ = some (.int .u32 (bF (toN zs) m j j : Int)) := by rw [hR.cell (i := j * 2) (by omega), codeF_even]
          have co : wr.cell? ⟨w1.heap.size, j * 2 + 1, none⟩ = some (.int .i64 (lF (toN zs) m j j : Int)) := by rw [hR.cell (i := j * 2 + 1) (by omega), codeF_odd]
          have fe := hR.frozen (j * 2)
          have fo := hR.frozen (j * 2 + 1)
          have hki : (j : Int) < (zs.length : Int) := by omega
          have hki0 : (0 : Int) ≤ (j : Int) := by omega
          by_cases hm : ln (toN zs) j = m
          · rw [if_pos hm] at HNx
            have HRn : Hid (CR ((wr.setCell ⟨w1.heap.size, j * 2, none⟩ (.int .u32 (cd (toN zs) m j : Int))).setCell ⟨w1.heap.size, j * 2 + 1, none⟩ (.int .i64 (m : Int))) w1.heap.size zs.length (bF (toN zs) m (j + 1)) (lF (toN zs) m (j + 1))) :=
              rowCode hR (bF_here _ _ _ hm (by omega)) (lF_here _ _ _ hm (by omega)) (fun s hs => bF_next _ _ _ _ (.inl hs)) (fun s hs => lF_next _ _ _ _ (.inl hs))
            have HBn : Hid (Below w1.heap.size w1 ((wr.setCell ⟨w1.heap.size, j * 2, none⟩ (.int .u32 (cd (toN zs) m j : Int))).setCell ⟨w1.heap.size, j * 2 + 1, none⟩ (.int .i64 (m : Int)))) := (hB.setCell (by simp) _).setCell (by simp) _
            rw [hm] at hck
            have HN : Hid (cd (toN zs) m (j + 1) = cd (toN zs) m j + 1) := HNx
            clear HNx hR hB hm
            generalize cd (toN zs) m j = X2 at *
            generalize bF (toN zs) m j j = Y1 at *
            generalize lF (toN zs) m j j = Y2 at *
            go_wp2
            go_roundw
            case rel => exact ⟨j + 1, by omega, by go_num, by rw [HN.out]; rfl, HRn.out, HBn.out⟩
            case measure => simp [intOf]; omega
          · rw [if_neg hm] at HNx
            have hmi2 : ((ln (toN zs) j : Int) == (m : Int)) = false := by simp; omega
            have HRn : Hid (CR wr w1.heap.size zs.length (bF (toN zs) m (j + 1)) (lF (toN zs) m (j + 1))) := hR.congr (fun q hq => by unfold codeF; rw [bF_next _ _ _ _ (.inr hm), lF_next _ _ _ _ (.inr hm)])
            have HN : Hid (cd (toN zs) m (j + 1) = cd (toN zs) m j) := HNx
            have HBn : Hid (Below w1.heap.size w1 wr) := hB
            clear HNx hR hB hm ce co fe fo
            generalize ln (toN zs) j = n at *
            go_wp2
            go_roundw
            case rel => exact ⟨j + 1, by omega, by go_num, by rw [HN.out], HRn.out, HBn.out⟩
            case measure => simp [intOf]; omega
        · obtain rfl : j = zs.length := by omega
          have HRn : Hid (CR wr w1.heap.size zs.length (bF (toN zs) (m + 1) 0) (lF (toN zs) (m + 1) 0)) := hR.congr (fun q hq => by
            have hq2 : q / 2 < (toN zs).length := by rw [HTL.out]; omega
            unfold codeF; rw [← HTL.out, bF_round _ _ _ hq2, lF_round _ _ _ hq2])
          have HBn : Hid (Below w1.heap.size w1 wr) := hB
          clear hR hB
          go_wp2
          go_roundw
          case rel => exact ⟨m + 1, by omega, by omega, by go_num, rfl, HRn.out, HBn.out⟩
          case measure => simp [intOf]; omega
    · obtain rfl : m = 16 := by omega
      have HRn : Hid (CR wr w1.heap.size zs.length (cdOf (toN zs)) (ln (toN zs))) := hR.congr (fun q hq => by unfold codeF; rw [(F_end _ HA15.out _).1, (F_end _ HA15.out _).2])
      have HBn : Hid (Below w1.heap.size w1 wr) := hB
      clear hR hB
      go_wp2
      go_ret2
      exact ⟨rfl, HRn.out, HBn.out⟩
theorem codes_bad (v : Value) (zs : List Int) (w : World) (hR : IR w v zs) (hl : zs.length ≤ 400) (he : errN zs ≠ 0) :
    Calls Try.prog 70 #[v] w fun e w' => e = .returned (.tuple #[.slice none 0 0, .int .i64 (errN zs : Int)]) ∧ w' = w :=
  codes_badO v zs w hR.io hl he
theorem codes_ok (v : Value) (zs : List Int) (w : World) (hR : IR w v zs) (he : errN zs = 0) :
    Calls Try.prog 70 #[v] w fun e w' => e = .returned (.tuple #[.slice (some ⟨w.heap.size, 0, none⟩) zs.length zs.length, .int .i64 0]) ∧ CR w' w.heap.size zs.length (cdOf (toN zs)) (ln (toN zs)) ∧ Below w.heap.size w w' :=
  codes_okO v zs w hR.io he
end Go.Proofs.Ythkppipdflmekaa
namespace Go.Proofs.Ythkppipdflmekaa
open Go
set_option linter.unusedVariables false

theorem cdOf_at (ns : List Nat) (s : Nat) (h : 0 < ln ns s) : cdOf ns s = cd ns (ln ns s) s := by unfold cdOf; rw [if_pos h]
/-- A symbol's code as bits. -/
def codeS (ns : List Nat) (s : Nat) : List Bool := highB (cdOf ns s) (ln ns s)
theorem codeS_len (ns : List Nat) (s : Nat) : (codeS ns s).length = ln ns s := highB_len _ _
theorem highB_take (x n m : Nat) (h : m ≤ n) : (highB x n).take m = highB (x / 2 ^ (n - m)) m := by
  apply List.ext_getElem?
  intro i
  by_cases hi : i < m
  · rw [List.getElem?_take, if_pos hi]
    unfold highB
    rw [List.getElem?_map, List.getElem?_map, List.getElem?_range (by omega), List.getElem?_range hi]
    simp only [Option.map_some]
    rw [Nat.testBit_div_two_pow, show m - 1 - i + (n - m) = n - 1 - i by omega]
  · rw [List.getElem?_eq_none (by rw [List.length_take, highB_len]; omega), List.getElem?_eq_none (by rw [highB_len]; omega)]
theorem highB_inj {x y n : Nat} (hx : x < 2 ^ n) (hy : y < 2 ^ n) (h : highB x n = highB y n) : x = y := by
  have h1 := turnN_high x n
  have h2 := turnN_high y n
  rw [Nat.mod_eq_of_lt hx] at h1
  rw [Nat.mod_eq_of_lt hy] at h2
  rw [← h1, ← h2]
  refine turnN_congr n fun i hi => ?_
  rw [← highB_at x n i hi, ← highB_at y n i hi, h]
/-- No code begins another one. -/
theorem codeS_pf (ns : List Nat) (h15 : all15 ns) (hf : fitB ns = true) (s t : Nat) (hs : s < ns.length) (ht : t < ns.length) (ps : 0 < ln ns s) (pt : 0 < ln ns t) (h : codeS ns s <+: codeS ns t) : s = t := by
  by_cases hne : s = t
  · exact hne
  exfalso
  have hl := h.length_le
  rw [codeS_len, codeS_len] at hl
  have e : codeS ns s = (codeS ns t).take (ln ns s) := by have := List.prefix_iff_eq_take.1 h; rwa [codeS_len] at this
  unfold codeS at e
  rw [highB_take _ _ _ hl] at e
  have b1 := cd_lt ns h15 hf s hs ps
  have b2 := cd_lt ns h15 hf t ht pt
  rw [← cdOf_at ns s ps] at b1
  rw [← cdOf_at ns t pt] at b2
  have b3 : cdOf ns t / 2 ^ (ln ns t - ln ns s) < 2 ^ ln ns s := by
    rw [Nat.div_lt_iff_lt_mul (Nat.two_pow_pos _), ← Nat.pow_add, show ln ns s + (ln ns t - ln ns s) = ln ns t by omega]; exact b2
  have e2 := highB_inj b1 b3 e
  rcases ahead_total ns t s (fun h => hne h.symm) with h1 | h1
  · have := cd_apart ns h15 t s hs ps h1
    rw [← cdOf_at ns s ps, ← cdOf_at ns t pt] at this
    omega
  · have := cd_apart ns h15 s t ht pt h1
    have hle := ahead_iff.1 h1
    have e3 : ln ns s = ln ns t := by omega
    rw [← cdOf_at ns s ps, ← cdOf_at ns t pt, e3, Nat.sub_self, Nat.pow_zero, Nat.div_one] at this
    rw [e3, Nat.sub_self, Nat.pow_zero, Nat.div_one] at e2
    omega
/-- A tree of n branchings: br u b is what bit b leads to at u; path u the bits that lead to u; the codes of A are in it; those of E are going to be. -/
structure TreeI (ns : List Nat) (A E : Nat → Prop) (n : Nat) (br : Nat → Bool → Int) (path : Nat → List Bool) : Prop where
  pos : 0 < n
  root : path 0 = []
  inj : ∀ u v, u < n → v < n → path u = path v → u = v
  par : ∀ u, u < n → u ≠ 0 → ∃ p b, p < n ∧ br p b = (u : Int) ∧ path u = path p ++ [b]
  up : ∀ u b, u < n → 0 < br u b → ∃ v : Nat, br u b = (v : Int) ∧ v < n ∧ path v = path u ++ [b]
  leaf : ∀ u b, u < n → br u b < 0 → ∃ s : Nat, A s ∧ br u b = -1 - (s : Int) ∧ codeS ns s = path u ++ [b]
  none : ∀ u b, u < n → br u b = 0 → ∀ s, A s → ¬ (path u ++ [b]) <+: codeS ns s
  ext : ∀ u, u < n → u ≠ 0 → ∃ s, E s ∧ path u <+: codeS ns s ∧ path u ≠ codeS ns s
/-- One place of a tree changed. -/
def setBr (br : Nat → Bool → Int) (u : Nat) (b : Bool) (x : Int) : Nat → Bool → Int := fun v c => if v = u ∧ c = b then x else br v c
theorem TreeI.start (ns : List Nat) : TreeI ns (fun _ => False) (fun _ => False) 1 (fun _ _ => 0) (fun _ => []) :=
  ⟨by decide, rfl, fun u v hu hv _ => by omega, fun u hu h0 => by omega, fun u b _ h => by omega, fun u b _ h => by omega, fun u b _ _ s h => h.elim, fun u hu h0 => by omega⟩
theorem TreeI.more {ns : List Nat} {A E F : Nat → Prop} {n : Nat} {br : Nat → Bool → Int} {path : Nat → List Bool} (h : TreeI ns A E n br path) (hF : ∀ s, E s → F s) : TreeI ns A F n br path :=
  ⟨h.pos, h.root, h.inj, h.par, h.up, h.leaf, h.none, fun u hu h0 => by obtain ⟨s, h1, h2⟩ := h.ext u hu h0; exact ⟨s, hF s h1, h2⟩⟩
theorem snoc_inj {p q : List Bool} {b c : Bool} (h : p ++ [b] = q ++ [c]) : p = q ∧ b = c := by
  have := List.append_inj' h rfl
  exact ⟨this.1, by simpa using this.2⟩
/-- A new branching behind a bit that led nowhere. -/
theorem TreeI.node {ns : List Nat} {A E : Nat → Prop} {n : Nat} {br : Nat → Bool → Int} {path : Nat → List Bool} (h : TreeI ns A E n br path) (hz : ∀ c, br n c = 0) (u : Nat) (b : Bool) (hu : u < n) (h0 : br u b = 0)
    (hE : ∃ s, E s ∧ (path u ++ [b]) <+: codeS ns s ∧ path u ++ [b] ≠ codeS ns s) : TreeI ns A E (n + 1) (setBr br u b (n : Int)) (fun v => if v = n then path u ++ [b] else path v) := by
  have hne : u ≠ n := by omega
  have fresh : ∀ v, v < n → path v ≠ path u ++ [b] := fun v hv e => by
    by_cases hv0 : v = 0
    · subst hv0; rw [h.root] at e; simp at e
    · obtain ⟨p, c, hp, hbr, hpath⟩ := h.par v hv hv0
      rw [hpath] at e
      obtain ⟨e1, e2⟩ := snoc_inj e
      have := h.inj p u hp hu e1
      subst this; subst e2
      rw [h0] at hbr
      omega
  have hbn : ∀ c, setBr br u b (n : Int) n c = 0 := fun c => by unfold setBr; rw [if_neg (by omega)]; exact hz c
  refine ⟨by omega, ?_, ?_, ?_, ?_, ?_, ?_, ?_⟩
  · show (if 0 = n then _ else path 0) = _
    rw [if_neg (by have := h.pos; omega)]; exact h.root
  · intro v w hv hw e
    by_cases e1 : v = n
    · by_cases e2 : w = n
      · omega
      · rw [if_pos e1, if_neg e2] at e; exact absurd e.symm (fresh w (by omega))
    · by_cases e2 : w = n
      · rw [if_neg e1, if_pos e2] at e; exact absurd e (fresh v (by omega))
      · rw [if_neg e1, if_neg e2] at e; exact h.inj v w (by omega) (by omega) e
  · intro v hv hv0
    by_cases e1 : v = n
    · subst e1
      exact ⟨u, b, by omega, by unfold setBr; rw [if_pos ⟨rfl, rfl⟩], by rw [if_pos rfl, if_neg hne]⟩
    · obtain ⟨p, c, hp, hbr, hpath⟩ := h.par v (by omega) hv0
      refine ⟨p, c, by omega, ?_, by rw [if_neg e1, if_neg (by omega)]; exact hpath⟩
      unfold setBr
      rw [if_neg]
      · exact hbr
      · rintro ⟨rfl, rfl⟩
        rw [h0] at hbr; omega
  · intro v c hv hx
    by_cases e1 : v = n
    · subst e1; rw [hbn] at hx; omega
    · by_cases e2 : v = u ∧ c = b
      · obtain ⟨rfl, rfl⟩ := e2
        exact ⟨n, by unfold setBr; rw [if_pos ⟨rfl, rfl⟩], by omega, by rw [if_pos rfl, if_neg e1]⟩
      · unfold setBr at hx ⊢
        rw [if_neg e2] at hx ⊢
        obtain ⟨x, h1, h2, h3⟩ := h.up v c (by omega) hx
        exact ⟨x, h1, by omega, by rw [if_neg (by omega), if_neg e1]; exact h3⟩
  · intro v c hv hx
    by_cases e1 : v = n
    · subst e1; rw [hbn] at hx; omega
    · by_cases e2 : v = u ∧ c = b
      · unfold setBr at hx; rw [if_pos e2] at hx; omega
      · unfold setBr at hx ⊢
        rw [if_neg e2] at hx ⊢
        obtain ⟨x, h1, h2, h3⟩ := h.leaf v c (by omega) hx
        exact ⟨x, h1, h2, by rw [if_neg e1]; exact h3⟩
  · intro v c hv hx s hs hp
    by_cases e1 : v = n
    · rw [if_pos e1] at hp
      exact h.none u b hu h0 s hs (List.IsPrefix.trans (List.prefix_append _ _) hp)
    · rw [if_neg e1] at hp
      by_cases e2 : v = u ∧ c = b
      · unfold setBr at hx; rw [if_pos e2] at hx; have := h.pos; omega
      · unfold setBr at hx; rw [if_neg e2] at hx
        exact h.none v c (by omega) hx s hs hp
  · intro v hv hv0
    by_cases e1 : v = n
    · obtain ⟨s, h1, h2, h3⟩ := hE
      exact ⟨s, h1, by rw [if_pos e1]; exact h2, by rw [if_pos e1]; exact h3⟩
    · obtain ⟨s, h1, h2, h3⟩ := h.ext v (by omega) hv0
      exact ⟨s, h1, by rw [if_neg e1]; exact h2, by rw [if_neg e1]; exact h3⟩
/-- What stands on the way to a branching leads on. -/
theorem TreeI.follows {ns : List Nat} {A E : Nat → Prop} {n : Nat} {br : Nat → Bool → Int} {path : Nat → List Bool} (h : TreeI ns A E n br path) (x : Nat) (c : Bool) (hx : x < n) :
    ∀ (m u : Nat), (path u).length ≤ m → u < n → (path x ++ [c]) <+: path u → br x c ≠ 0
  | 0, u, hm, hu, hp => by
    have := hp.length_le
    simp at this
    omega
  | m + 1, u, hm, hu, hp => by
    by_cases hu0 : u = 0
    · subst hu0; rw [h.root] at hp; simp at hp
    · obtain ⟨p, b, hpn, hbr, hpath⟩ := h.par u hu hu0
      rw [hpath] at hp
      rcases List.prefix_concat_iff.1 hp with e | e
      · obtain ⟨e1, e2⟩ := snoc_inj e
        have := h.inj x p hx hpn e1
        subst this; subst e2
        rw [hbr]; omega
      · exact h.follows x c hx m p (by rw [hpath] at hm; simp at hm; omega) hpn e
/-- A code's last bit. -/
theorem TreeI.code {ns : List Nat} {A E : Nat → Prop} {n : Nat} {br : Nat → Bool → Int} {path : Nat → List Bool} (h : TreeI ns A E n br path) (u : Nat) (b : Bool) (s : Nat) (hu : u < n) (hs : path u ++ [b] = codeS ns s) (h0 : br u b = 0) (hpf : ∀ t, A t → codeS ns t <+: codeS ns s → False) :
    TreeI ns (fun t => A t ∨ t = s) E n (setBr br u b (-1 - (s : Int))) path := by
  refine ⟨h.pos, h.root, h.inj, ?_, ?_, ?_, ?_, h.ext⟩
  · intro v hv hv0
    obtain ⟨p, c, hp, hbr, hpath⟩ := h.par v hv hv0
    refine ⟨p, c, hp, ?_, hpath⟩
    unfold setBr
    rw [if_neg]
    · exact hbr
    · rintro ⟨rfl, rfl⟩
      rw [h0] at hbr; omega
  · intro v c hv hx
    by_cases e2 : v = u ∧ c = b
    · unfold setBr at hx; rw [if_pos e2] at hx; omega
    · unfold setBr at hx ⊢
      rw [if_neg e2] at hx ⊢
      exact h.up v c hv hx
  · intro v c hv hx
    by_cases e2 : v = u ∧ c = b
    · obtain ⟨rfl, rfl⟩ := e2
      exact ⟨s, .inr rfl, by unfold setBr; rw [if_pos ⟨rfl, rfl⟩], hs.symm⟩
    · unfold setBr at hx ⊢
      rw [if_neg e2] at hx ⊢
      obtain ⟨x, h1, h2, h3⟩ := h.leaf v c hv hx
      exact ⟨x, .inl h1, h2, h3⟩
  · intro v c hv hx t ht hp
    by_cases e2 : v = u ∧ c = b
    · unfold setBr at hx; rw [if_pos e2] at hx; omega
    · unfold setBr at hx; rw [if_neg e2] at hx
      rcases ht with ht | rfl
      · exact h.none v c hv hx t ht hp
      · rw [← hs] at hp
        rcases List.prefix_concat_iff.1 hp with e | e
        · obtain ⟨e3, e4⟩ := snoc_inj e
          exact e2 ⟨h.inj v u hv hu e3, e4⟩
        · exact h.follows v c hv _ u (Nat.le_refl _) hu e hx
end Go.Proofs.Ythkppipdflmekaa
