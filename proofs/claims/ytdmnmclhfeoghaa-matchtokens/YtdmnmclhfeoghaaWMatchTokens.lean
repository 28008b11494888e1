/- MatchTokens: the walk. -/
import Derived.Test.YtdmnmclhfeoghaaFew
import Derived.Test.YtdmnmclhfeoghaaWMatchExpands
namespace Go.Proofs.Ytdmnmclhfeoghaa
open Go.RowKit
set_option linter.unusedVariables false

/-- How many repeats there are among the first k tokens. -/
def repK (ts : List Tok) (k : Nat) : Nat := ((ts.take k).filter fun t => decide (0 < t.l)).length
theorem repK_le (ts : List Tok) (k : Nat) : repK ts k ≤ k := by
  unfold repK
  have h1 := List.length_filter_le (fun t : Tok => decide (0 < t.l)) (ts.take k)
  rw [List.length_take] at h1
  omega
theorem repK_succ {ts : List Tok} {k : Nat} {t : Tok} (h : ts[k]? = some t) : repK ts (k + 1) = repK ts k + if 0 < t.l then 1 else 0 := by
  unfold repK
  rw [List.take_add_one, h, List.filter_append, List.length_append]
  simp only [Option.toList]
  by_cases hl : 0 < t.l
  · simp [hl]
  · simp [hl]
theorem repK_zero (s : ByteArray) (k : Nat) : repK (toks s 0) k = 0 := by
  unfold repK
  rw [List.length_eq_zero_iff, List.filter_eq_nil_iff]
  intro t ht
  have := tok0_zero s t (List.mem_of_mem_take ht)
  simp; omega
theorem take_snoc_tok {ts : List Tok} {k : Nat} {t : Tok} (h : ts[k]? = some t) : ts.take (k + 1) = ts.take k ++ [t] := by rw [List.take_add_one, h]; rfl
set_option maxRecDepth 100000 in
set_option maxHeartbeats 2000000 in
theorem lawMatchTokens_walk (s0 : ByteArray) (lv : Int) (w : World) (hs0 : s0.size ≤ 140737488351232) (hlv : -9223372036854775808 ≤ lv ∧ lv ≤ 9223372036854775807) :
    Calls Try.prog 5 #[.string s0, .int .i64 lv] w fun e w' => e = .returned (.bool true) ∧ Below w.heap.size w w' := by
  obtain ⟨i1, hj, hy0, hy1, hy2⟩ := info_parts Try.infoRT
  have HFW : Hid (Calls _ _ _ _ _) := few_any s0 3000 w (by decide) (by omega)
  have hsz : (s0.extract 0 (3000 : Int).toNat).size ≤ 3000 := by rw [few_size]; exact Nat.min_le_left _ _
  generalize s0.extract 0 (3000 : Int).toNat = s at *
  go_enter Try.func5, Try.ntmps5
  go_wp2_with fail
  refine (Hid.out HFW : Calls _ _ _ _ _).mono ?_
  rintro e w1 ⟨rfl, hw1⟩
  obtain rfl : w = w1 := hw1.symm
  clear HFW hw1
  by_cases hb : lv < 0 ∨ 9 < lv
  · go_wp2_with fail
    refine (tokens_arg s lv _ hb).mono ?_
    rintro e w2 ⟨rfl, rfl⟩
    rcases hb with hb | hb
    · go_wp2_with fail
      refine (awake5_any _).mono ?_
      rintro e w3 ⟨rfl, hb3⟩
      go_wp2
      go_ret
      exact ⟨rfl, hb3⟩
    · have hb0 : ¬ lv < 0 := by omega
      go_wp2_with fail
      refine (awake5_any _).mono ?_
      rintro e w3 ⟨rfl, hb3⟩
      go_wp2
      go_ret
      exact ⟨rfl, hb3⟩
  · obtain ⟨v, rfl⟩ : ∃ v : Nat, lv = (v : Int) := ⟨lv.toNat, by omega⟩
    have hv9 : v ≤ 9 := by omega
    have b0 : ¬ (v : Int) < 0 := by omega
    have b9 : ¬ (9 : Int) < (v : Int) := by omega
    clear hb
    go_wp2_with fail
    refine (tokens_ok s v _ hv9 (by omega)).mono ?_
    rintro e w2 ⟨tv', rfl, hT, hB2⟩
    have hlen := toks_len s v
    have hex := toks_says s v (s.size : Int) (Int.le_refl _)
    have HEX : Hid (expF (s.size : Int) (toks s v) [] = (nb s, 0)) := hex
    have HZ : Hid (v = 0 → ∀ k, repK (toks s v) k = 0) := fun h k => by subst h; exact repK_zero s k
    have HALL : Hid (∀ t ∈ toks s v, t.b < 256) := fun t ht => (toks_all s v t ht).2
    obtain ⟨a, cap, rfl, hf⟩ := hT.form
    have HF : Hid (∀ i t, (toks s v)[i]? = some t → ∃ g, a = some ⟨g, 0, none⟩ ∧ g < w2.heap.size ∧ w2.cell? ⟨g, i * 3, none⟩ = some (.int .u8 (t.b : Int)) ∧ w2.cell? ⟨g, i * 3 + 1, none⟩ = some (.int .i64 t.l) ∧ w2.cell? ⟨g, i * 3 + 2, none⟩ = some (.int .i64 t.d)) := hf
    have HO0 : Hid ((w2.alloc (.cells #[] 36)).ownsRow w2.heap.size 36 3 (.slice (some ⟨w2.heap.size, 0, none⟩) 0 0) 0 []) := World.ownsRow_made (base := w2.heap.size) (e := 36) (size := 3) w2 #[] 0 (Nat.le_refl _) (by decide) rfl
    have HB0 : Hid (Below w2.heap.size w2 (w2.alloc (.cells #[] 36))) := (Below.refl _ w2).alloc (Nat.le_refl _) _
    have HB2 : Hid (Below w.heap.size w w2) := hB2
    clear hT hf hex hB2
    generalize toks s v = ts at *
    go_wp2
    generalize World.alloc w2 _ = W3 at *
    go_loopw [7, 8, 40] (fun o r i wr => ∃ k : Nat, k ≤ ts.length ∧ i = .int .i64 (k : Int) ∧ r = .int .i64 (repK ts k : Int) ∧ wr.ownsRow w2.heap.size 36 3 o k (tcs (ts.take k)) ∧ Below w2.heap.size w2 wr) (fun _ _ i _ => ts.length - (intOf i).toNat)
    case atStart => exact ⟨0, by omega, rfl, by simp [repK], HO0.out, HB0.out⟩
    case round =>
      clear HO0 HB0
      obtain ⟨k, hk, rfl, rfl, hO, hB⟩ := hrel
      have hrk := repK_le ts k
      have hsz3 := hB.size
      by_cases hlt : k < ts.length
      · obtain ⟨t, ht⟩ : ∃ t, ts[k]? = some t := ⟨_, List.getElem?_eq_getElem hlt⟩
        obtain ⟨g, rfl, hg, c0, c1, c2⟩ := HF.out k t ht
        rw [← hB.cell (p := ⟨g, k * 3, none⟩) hg] at c0
        rw [← hB.cell (p := ⟨g, k * 3 + 1, none⟩) hg] at c1
        rw [← hB.cell (p := ⟨g, k * 3 + 2, none⟩) hg] at c2
        have HTK : Hid (ts.take (k + 1) = ts.take k ++ [t]) := take_snoc_tok ht
        have HRK : Hid (repK ts (k + 1) = repK ts k + if 0 < t.l then 1 else 0) := repK_succ ht
        have hki : (k : Int) < (ts.length : Int) := by omega
        have hki0 : (0 : Int) ≤ (k : Int) := by omega
        clear ht
        obtain ⟨tb, tl, td⟩ := t
        simp only at c0 c1 c2 HRK
        have h3n := three_newT (wr.alloc (.cells #[.int .u8 (tb : Int), .int .i64 tl, .int .i64 td] 35)) ⟨tb, tl, td⟩ 36
        rw [World.size_alloc] at h3n
        simp only at h3n
        have HN3 : Hid _ := h3n
        have HONE : Hid (∀ u ∈ [Value.int .u8 (tb : Int), .int .i64 tl, .int .i64 td], u.oneCell' = true) := three_one _ _ _
        have HOX : Hid ((wr.alloc (.cells #[.int .u8 (tb : Int), .int .i64 tl, .int .i64 td] 35)).ownsRow w2.heap.size 36 3 _ k (tcs (ts.take k))) := hO.alloc _
        have HBX : Hid (Below w2.heap.size w2 (wr.alloc (.cells #[.int .u8 (tb : Int), .int .i64 tl, .int .i64 td] 35))) := hB.alloc hsz3 _
        have HNX : Hid ((wr.alloc (.cells #[.int .u8 (tb : Int), .int .i64 tl, .int .i64 td] 35)).heap[wr.heap.size]? = some (.cells #[.int .u8 (tb : Int), .int .i64 tl, .int .i64 td] 35 (0, 0))) := heap_alloc_new wr _
        clear h3n hO hB
        go_wp2_with (at_builtin; refine wpList_append_own _ rfl _ _ 33 rfl w2.heap.size 36 i1 (.agg #[.int .u8 0, .int .i64 0, .int .i64 0]) 3 24 Try.underlying33 hj hy0 hy1 hy2 rfl (by decide) _ _ _ rfl (HOX.out.alloc _) ⟨wr.heap.size + 1, 0, none⟩ 1 1 [.int .u8 (tb : Int), .int .i64 tl, .int .i64 td] rfl rfl HN3.out HONE.out (by unfold maxLen; omega) (by omega) (by simp; omega) ?_)
        intro v9 w9 hown9 hg9 _
        have HO9 : Hid (w9.ownsRow w2.heap.size 36 3 v9 (k + 1) (tcs (ts.take (k + 1)))) := by unfold Hid; rw [HTK.out, tcs_snoc]; exact hown9
        have HB9 : Hid (Below w2.heap.size w2 w9) := (HBX.out.alloc (by rw [World.size_alloc]; omega) _).grown hg9 (by rw [World.size_alloc, World.size_alloc]; omega) (fun q hq => (HOX.out.lt q hq).1)
        have hN9 := grown_block hg9 ((heap_alloc_old _ _ (by rw [World.size_alloc]; omega)).trans HNX.out) (own_ne HOX.out HNX.out (by decide))
        have d1 : w9.cell? ⟨wr.heap.size, 1, none⟩ = some (.int .i64 tl) := by rw [cell_of_row _ _ _ _ _ _ hN9]; rfl
        clear hown9 hg9 c0 c1 c2 HN3 HOX HBX HNX hN9
        generalize repK ts k = R at *
        by_cases htl : 0 < tl
        · rw [if_pos htl] at HRK
          go_wp2
          go_roundw
          case rel => exact ⟨k + 1, by omega, by go_num, by rw [HRK.out]; go_num, HO9.out, HB9.out⟩
          case measure => simp [intOf]; omega
        · rw [if_neg htl] at HRK
          go_wp2
          go_roundw
          case rel => exact ⟨k + 1, by omega, by go_num, by rw [HRK.out]; rfl, HO9.out, HB9.out⟩
          case measure => simp [intOf]; omega
      · obtain rfl : k = ts.length := by omega
        rw [List.take_length] at hO
        have HRX : Hid (Calls _ _ _ _ _) := rexpand_any _ ts (s.size : Int) wr (TR.own hO) (by omega) HALL.out (by omega) (by omega)
        rw [HEX.out] at HRX
        simp only [bs_nb] at HRX
        have hB3 : Below w.heap.size w wr := HB2.out.trans (hB.mono HB2.out.size)
        clear hO hB HF HEX
        have HZ2 : Hid (v = 0 → repK ts ts.length = 0) := fun h => HZ.out h _
        generalize repK ts ts.length = R at *
        go_wp2_with fail
        refine (Hid.out HRX : Calls _ _ _ _ _).mono ?_
        rintro e w4 ⟨rfl, hb4⟩
        have hB4 := hB3.trans (hb4.mono hB3.size)
        clear HRX hb4 hB3
        go_wp2_with fail
        refine (awake5_any _).mono ?_
        rintro e w5 ⟨rfl, hb5⟩
        have hB5 := hB4.trans (hb5.mono hB4.size)
        clear hb5 hB4
        have hle : ((ts.length : Int) ≤ (s.size : Int)) := by omega
        by_cases hv0 : v = 0
        · have hR0 := HZ2.out hv0
          subst hv0 hR0
          go_wp2
          go_ret
          exact ⟨rfl, hB5⟩
        · have hvp : (0 : Int) < (v : Int) := by omega
          go_wp2
          go_ret
          exact ⟨rfl, hB5⟩
end Go.Proofs.Ytdmnmclhfeoghaa
