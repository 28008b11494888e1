/- MatchExpands: the walk. -/
import Derived.Test.YtdmnmclhfeoghaaToks
import Derived.Test.YtdmnmclhfeoghaaRefE
import Derived.Test.YtdmnmclhfeoghaaMatchK
import Derived.Deep.DeepCutAuto
namespace Go.Proofs.Ytdmnmclhfeoghaa
open Go.RowKit
set_option linter.unusedVariables false

theorem Try.infoRT : (Try.prog.info? 36).map (fun i => (i.zero, i.size, i.bytes)) = some (some (.agg #[.int .u8 0, .int .i64 0, .int .i64 0]), 3, 24) := by kernel_rfl
/-- The first k of them. -/
def firstT (A : Nat → Tok) (k : Nat) : List Tok := (List.range k).map A
theorem firstT_len (A : Nat → Tok) (k : Nat) : (firstT A k).length = k := by simp [firstT]
theorem firstT_succ (A : Nat → Tok) (k : Nat) : firstT A (k + 1) = firstT A k ++ [A k] := by unfold firstT; rw [List.range_succ, List.map_append]; rfl
theorem firstT_mem {A : Nat → Tok} {k : Nat} {t : Tok} (h : t ∈ firstT A k) : ∃ i, i < k ∧ t = A i := by
  obtain ⟨i, hi, rfl⟩ := List.mem_map.1 h
  exact ⟨i, List.mem_range.1 hi, rfl⟩
theorem three_newT (w : World) (t : Tok) (ty : TypeId) : ∀ j u, [Value.int .u8 (t.b : Int), .int .i64 t.l, .int .i64 t.d][j]? = some u → (w.alloc (.cells #[.int .u8 (t.b : Int), .int .i64 t.l, .int .i64 t.d] ty)).cell? ((⟨w.heap.size, 0, none⟩ : Addr).add j) = some u :=
  World.news_of_block (heap_alloc_new w _)
/-- Two rows of tokens, of either type. -/
def TwoAt (w wr : World) (v u : Value) (ts : List Tok) : Prop := wr.ownsRow w.heap.size 35 3 v ts.length (tcs ts) ∧ wr.ownsRow w.heap.size 36 3 u ts.length (tcs ts) ∧ Below w.heap.size w wr
theorem own_apart {w : World} {B n m : Nat} {ty ty2 : TypeId} {sz sz2 : Nat} {v u : Value} {xs ys : List Value} (h : w.ownsRow B ty sz v n xs) (k : w.ownsRow B ty2 sz2 u m ys) (hty : ty ≠ ty2) : v.ownBlock = none ∨ v.ownBlock ≠ u.ownBlock := by
  rcases h.2 with ⟨rfl, _⟩ | ⟨g, cap, cur, rfl, _, hh, _⟩
  · exact .inl rfl
  · exact .inr (own_ne k hh hty)
set_option maxRecDepth 100000 in
set_option maxHeartbeats 2000000 in
theorem lawMatchExpands_walk (a : Option Addr) (len cap : Nat) (A : Nat → Tok) (most : Int) (w : World) (hA : IsToks w a len cap A) (hm : -9223372036854775808 ≤ most ∧ most ≤ 9223372036854775807) :
    Calls Try.prog 4 #[.slice a len cap, .int .i64 most] w fun e w' => e = .returned (.bool true) ∧ Below w.heap.size w w' := by
  obtain ⟨hm1, hm2⟩ := hm
  obtain ⟨i0, hi, hz0, hz1, hz2⟩ := info_parts Try.infoT
  obtain ⟨i1, hj, hy0, hy1, hy2⟩ := info_parts Try.infoRT
  have hlen := hA.len_le
  have HA : Hid (IsToks w a len cap A) := hA
  have HS0 : Hid (TwoAt w ((w.alloc (.cells #[] 35)).alloc (.cells #[] 36)) (.slice (some ⟨w.heap.size, 0, none⟩) 0 0) (.slice (some ⟨w.heap.size + 1, 0, none⟩) 0 0) []) := by
    refine ⟨(World.ownsRow_made (base := w.heap.size) (e := 35) (size := 3) w #[] 0 (Nat.le_refl _) (by decide) rfl).alloc _, ?_, ((Below.refl _ w).alloc (Nat.le_refl _) _).alloc (by rw [World.size_alloc]; omega) _⟩
    have := World.ownsRow_made (base := w.heap.size) (e := 36) (size := 3) (w.alloc (.cells #[] 35)) #[] 0 (by rw [World.size_alloc]; omega) (by decide) rfl
    rw [World.size_alloc] at this
    exact this
  clear hA
  go_enter Try.func4, Try.ntmps4
  go_wp2
  generalize World.alloc (World.alloc w _) _ = W5 at *
  go_loopw [5, 6, 7] (fun v u i wr => ∃ k : Nat, k ≤ len ∧ k ≤ 100 ∧ i = .int .i64 (k : Int) ∧ TwoAt w wr v u (firstT A k)) (fun _ _ i _ => 100 - (intOf i).toNat)
  case atStart => exact ⟨0, by omega, by omega, rfl, HS0.out⟩
  case round =>
    clear HS0
    obtain ⟨k, hk1, hk2, rfl, hT⟩ := hrel
    have hfl := firstT_len A k
    have hsz := hT.2.2.size
    by_cases hlt : k < len ∧ k < 100
    · obtain ⟨hl1, hl2⟩ := hlt
      obtain ⟨hok, b, off, rfl, hbl, c0, c1, c2⟩ := HA.out.at hT.2.2 k hl1
      have HFS : Hid (firstT A (k + 1) = firstT A k ++ [A k]) := firstT_succ A k
      have HBC : Hid (∀ W, Below w.heap.size wr W → W.cell? ⟨b, off + k * 3, none⟩ = wr.cell? ⟨b, off + k * 3, none⟩ ∧ W.cell? ⟨b, off + k * 3 + 1, none⟩ = wr.cell? ⟨b, off + k * 3 + 1, none⟩ ∧ W.cell? ⟨b, off + k * 3 + 2, none⟩ = wr.cell? ⟨b, off + k * 3 + 2, none⟩) := fun W hb => ⟨hb.cell (p := ⟨b, off + k * 3, none⟩) hbl, hb.cell (p := ⟨b, off + k * 3 + 1, none⟩) hbl, hb.cell (p := ⟨b, off + k * 3 + 2, none⟩) hbl⟩
      generalize A k = t at *
      obtain ⟨tb, tl, td⟩ := t
      simp only at c0 c1 c2
      have hki : (k : Int) < (len : Int) := by omega
      have hki0 : (0 : Int) ≤ (k : Int) := by omega
      have hki1 : (k : Int) < 100 := by omega
      have h3n := three_newT wr ⟨tb, tl, td⟩ 35
      simp only at h3n
      have HN3 : Hid _ := h3n
      have HONE : Hid (∀ u ∈ [Value.int .u8 (tb : Int), .int .i64 tl, .int .i64 td], u.oneCell' = true) := three_one _ _ _
      clear h3n
      have HT : Hid (TwoAt w wr _ _ (firstT A k)) := hT
      clear hT
      go_wp2_with (at_builtin; refine wpList_append_own _ rfl _ _ 32 rfl w.heap.size 35 i0 (.agg #[.int .u8 0, .int .i64 0, .int .i64 0]) 3 24 Try.underlying32 hi hz0 hz1 hz2 rfl (by decide) _ _ _ rfl (HT.out.1.alloc _) ⟨wr.heap.size, 0, none⟩ 1 1 [.int .u8 (tb : Int), .int .i64 tl, .int .i64 td] rfl rfl HN3.out HONE.out (by rw [hfl]; unfold maxLen; omega) (by rw [hfl]; omega) (by simp; omega) ?_)
      intro v8 w8 hown8 hg8 _
      have hB8 : Below w.heap.size wr w8 := ((Below.refl _ wr).alloc hsz _).grown hg8 (by rw [World.size_alloc]; omega) (fun q hq => (HT.out.1.lt q hq).1)
      have hO8 : w8.ownsRow w.heap.size 35 3 v8 (firstT A (k + 1)).length (tcs (firstT A (k + 1))) := by rw [HFS.out, tcs_snoc, List.length_append]; first | exact hown8 | (rw [hfl]; exact hown8)
      have HO8 : Hid (w8.ownsRow w.heap.size 35 3 v8 (firstT A (k + 1)).length (tcs (firstT A (k + 1)))) := hO8
      have HU8 : Hid (w8.ownsRow w.heap.size 36 3 _ (firstT A k).length (tcs (firstT A k))) := (HT.out.2.1.alloc _).kept hg8 (own_apart HT.out.2.1 HT.out.1 (by decide))
      have HB8 : Hid (Below w.heap.size w w8) := HT.out.2.2.trans hB8
      obtain ⟨e0, e1, e2⟩ := HBC.out w8 hB8
      rw [c0] at e0
      rw [c1] at e1
      rw [c2] at e2
      clear hown8 hg8 hB8 hO8 c0 c1 c2 HT HN3
      have hs8 : w.heap.size ≤ w8.heap.size := HB8.out.size
      have h3n := three_newT w8 ⟨tb, tl, td⟩ 36
      simp only at h3n
      have HN3 : Hid _ := h3n
      clear h3n
      go_wp2_with (at_builtin; refine wpList_append_own _ rfl _ _ 33 rfl w.heap.size 36 i1 (.agg #[.int .u8 0, .int .i64 0, .int .i64 0]) 3 24 Try.underlying33 hj hy0 hy1 hy2 rfl (by decide) _ _ _ rfl (HU8.out.alloc _) ⟨w8.heap.size, 0, none⟩ 1 1 [.int .u8 (tb : Int), .int .i64 tl, .int .i64 td] rfl rfl HN3.out HONE.out (by rw [hfl]; unfold maxLen; omega) (by rw [hfl]; omega) (by simp; omega) ?_)
      intro v9 w9 hown9 hg9 _
      have HT9 : Hid (TwoAt w w9 v8 v9 (firstT A (k + 1))) := by
        refine ⟨(HO8.out.alloc _).kept hg9 (own_apart HO8.out HU8.out (by decide)), ?_, (HB8.out.alloc hs8 _).grown hg9 (by rw [World.size_alloc]; omega) (fun q hq => (HU8.out.lt q hq).1)⟩
        rw [HFS.out, tcs_snoc, List.length_append]; first | exact hown9 | (rw [hfl]; exact hown9)
      clear hown9 hg9 e0 e1 e2 HO8 HU8 HB8 HN3
      go_wp2
      go_roundw
      case rel => exact ⟨k + 1, by omega, by omega, by go_num, HT9.out⟩
      case measure => simp [intOf]; omega
    · have HT : Hid (TwoAt w wr _ _ (firstT A k)) := hT
      have HB8 : Hid (∀ t ∈ firstT A k, t.b < 256) := fun t ht => by
        obtain ⟨i, hi, rfl⟩ := firstT_mem ht
        exact (HA.out.at hT.2.2 i (by omega)).1.1
      clear hT HA
      obtain ⟨mm, hmm⟩ : ∃ mm, mm = min most 40000 := ⟨_, rfl⟩
      have HMM : Hid (mm = min most 40000) := hmm
      have hmm1 : -9223372036854775808 ≤ mm := by omega
      have hmm2 : mm ≤ 9223372036854775807 := by omega
      clear hmm
      have hcase : (len ≤ k) ∨ (k < len ∧ k = 100) := by omega
      rcases hcase with hc1 | ⟨hc1, rfl⟩
      all_goals
        go_upto_region 7 with fail
        go_cut [1] (fun v wx => v = .int .i64 mm ∧ wx = wr)
        case first =>
          go_wp2
          all_goals (go_meet; exact ⟨congrArg _ (by have := HMM.out; omega), rfl⟩)
        case rest =>
          obtain ⟨rfl, rfl⟩ := hcut
          have HEX : Hid (Calls _ _ _ _ _) := expand_any _ _ mm wc (TR.own HT.out.1) (by rw [hfl]; omega) hmm1 hmm2
          go_wp2_with fail
          refine (Hid.out HEX : Calls _ _ _ _ _).mono ?_
          rintro e w1 ⟨rfl, hb1⟩
          have HRX : Hid (Calls _ _ _ _ _) := rexpand_any _ _ mm w1 ((TR.own HT.out.2.1).below hb1) (by rw [hfl]; omega) HB8.out hmm1 hmm2
          have hB1 : Below w.heap.size w w1 := HT.out.2.2.trans (hb1.mono hsz)
          clear HEX hb1
          generalize bs (expF mm (firstT A _) []).1 = S at *
          generalize (expF mm (firstT A _) []).2 = E at *
          go_wp2_with fail
          refine (Hid.out HRX : Calls _ _ _ _ _).mono ?_
          rintro e w2 ⟨rfl, hb2⟩
          have hB2 := hB1.trans (hb2.mono hB1.size)
          clear HRX hb2 hB1
          go_wp2_with fail
          refine (awake5_any _).mono ?_
          rintro e w3 ⟨rfl, hb3⟩
          have hB3 := hB2.trans (hb3.mono hB2.size)
          clear hb3 hB2
          go_wp2
          go_ret
          exact ⟨rfl, hB3⟩
end Go.Proofs.Ytdmnmclhfeoghaa
