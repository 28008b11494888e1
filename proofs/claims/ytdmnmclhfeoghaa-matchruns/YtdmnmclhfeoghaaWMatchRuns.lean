/- MatchRuns: the walk. -/
import Derived.Test.YtdmnmclhfeoghaaMatchK
import Derived.Test.YtdmnmclhfeoghaaRunsM
import Derived.OwnWalk
namespace Go.Proofs.Ytdmnmclhfeoghaa
open Go.RowKit
set_option linter.unusedVariables false

theorem expF_less (M most : Int) : ∀ (ts : List Tok) (out o : List Nat), expF M ts out = (o, 0) → (out.length : Int) ≤ most → most < (o.length : Int) → expF most ts out = ([], 2)
  | [], out, o, h, h1, h2 => by simp only [expF] at h; cases h; omega
  | t :: ts, out, o, h, h1, h2 => by
    rw [expF] at h ⊢
    by_cases hu : errT out M t = 0
    · rw [if_pos hu] at h
      obtain ⟨e1, e2, e3⟩ := errT_zero hu
      by_cases hw : (out.length : Int) + wid t ≤ most
      · rw [if_pos (errT_mk e1 e2 hw)]
        exact expF_less M most ts _ o h (by rw [sayT_len e1]; exact hw) h2
      · rw [errT_big e1 e2 (by omega), if_neg (by decide)]
    · rw [if_neg hu] at h
      simp only [Prod.mk.injEq] at h
      exact absurd h.2 hu
/-- n times the byte c, the first k set. -/
def runL (n c k : Nat) : List Nat := (List.range n).map fun j => if j < k then c else 0
theorem runL_len (n c k : Nat) : (runL n c k).length = n := by simp [runL]
theorem runL_set (n c k : Nat) : (cs (runL n c k)).set k (.int .u8 (c : Int)) = cs (runL n c (k + 1)) := by
  apply List.ext_getElem?
  intro i
  unfold cs runL
  rw [List.getElem?_set]
  by_cases hi : i < n
  · simp only [List.map_map, List.length_map, List.length_range, List.getElem?_map, List.getElem?_range hi, Option.map_some, Function.comp_apply]
    by_cases e : k = i
    · subst e; simp [hi]
    · rw [if_neg e]
      by_cases hk : i < k
      · rw [if_pos hk, if_pos (by omega)]
      · rw [if_neg hk, if_neg (by omega)]
  · simp only [List.map_map, List.length_map, List.length_range]
    rw [List.getElem?_eq_none (by simp; omega), List.getElem?_eq_none (by simp; omega)]
    split
    · rw [if_neg (by omega)]
    · rfl
theorem runL_run (n c : Nat) (hc : c < 256) : IsRun (bs (runL n c n)) n c := by
  refine ⟨by rw [bs_size2, runL_len], fun k hk => ?_⟩
  unfold byt
  rw [bs_data2, List.getD_eq_getElem?_getD, List.getElem?_map]
  unfold runL
  rw [List.getElem?_map, List.getElem?_range hk]
  simp only [Option.map_some, Option.getD_some]
  rw [if_pos hk, UInt8.toNat_ofNat_of_lt' hc]
theorem runL_made (n c : Nat) : (madeCells (Value.int .u8 0).cells (n * 1)).toList = cs (runL n c 0) := by
  rw [Nat.mul_one]
  show (madeCells #[Value.int .u8 0] n).toList = _
  rw [toList_madeCells_one]
  unfold cs runL
  apply List.ext_getElem?
  intro i
  by_cases hi : i < n
  · simp [hi]
  · rw [List.getElem?_eq_none (by simp; omega), List.getElem?_eq_none (by simp; omega)]
set_option maxRecDepth 100000 in
set_option maxHeartbeats 2000000 in
theorem lawMatchRuns_walk (c n lv : Int) (w : World) (hc : 0 ≤ c ∧ c ≤ 255) (hn : -9223372036854775808 ≤ n ∧ n ≤ 9223372036854775807) (hlv : -9223372036854775808 ≤ lv ∧ lv ≤ 9223372036854775807) :
    Calls Try.prog 6 #[.int .u8 c, .int .i64 n, .int .i64 lv] w fun e w' => e = .returned (.bool true) ∧ Below w.heap.size w w' := by
  obtain ⟨i0, hi, hz0, hz1, hz2⟩ := info_parts Try.infoU8m
  by_cases hbad : n < 0 ∨ 65537 < n ∨ lv < 1 ∨ 9 < lv
  · have HAW : Hid (Calls _ _ _ _ _) := awake5_any w
    by_cases p0 : n < 0
    · clear hbad
      go_enter Try.func6, Try.ntmps6
      go_wp2_with fail
      refine (Hid.out HAW : Calls _ _ _ _ _).mono ?_
      rintro e w3 ⟨rfl, hb3⟩
      go_wp2
      go_ret
      exact ⟨rfl, hb3⟩
    · by_cases p1 : 65537 < n
      · clear hbad
        go_enter Try.func6, Try.ntmps6
        go_wp2_with fail
        refine (Hid.out HAW : Calls _ _ _ _ _).mono ?_
        rintro e w3 ⟨rfl, hb3⟩
        go_wp2
        go_ret
        exact ⟨rfl, hb3⟩
      · by_cases p2 : lv < 1
        · clear hbad
          go_enter Try.func6, Try.ntmps6
          go_wp2_with fail
          refine (Hid.out HAW : Calls _ _ _ _ _).mono ?_
          rintro e w3 ⟨rfl, hb3⟩
          go_wp2
          go_ret
          exact ⟨rfl, hb3⟩
        · have p3 : 9 < lv := by omega
          clear hbad
          go_enter Try.func6, Try.ntmps6
          go_wp2_with fail
          refine (Hid.out HAW : Calls _ _ _ _ _).mono ?_
          rintro e w3 ⟨rfl, hb3⟩
          go_wp2
          go_ret
          exact ⟨rfl, hb3⟩
  · have q0 : ¬ n < 0 := by omega
    have q1 : ¬ 65537 < n := by omega
    have q2 : ¬ lv < 1 := by omega
    have q3 : ¬ 9 < lv := by omega
    clear hbad
    obtain ⟨N, rfl⟩ : ∃ N : Nat, n = (N : Int) := ⟨n.toNat, by omega⟩
    obtain ⟨v, rfl⟩ : ∃ v : Nat, lv = (v : Int) := ⟨lv.toNat, by omega⟩
    obtain ⟨C, rfl⟩ : ∃ C : Nat, c = (C : Int) := ⟨c.toNat, by omega⟩
    have hN : N ≤ 65537 := by omega
    have hC : C < 256 := by omega
    go_enter Try.func6, Try.ntmps6
    go_wp2_with (at_make; refine wpList_make_full _ rfl _ _ 46 rfl w.heap.size 5 i0 (.int .u8 0) 1 Try.underlying46 hi hz0 hz1 .i64 .i64 _ _ N rfl rfl (by omega) (by omega) (by rw [hz2]; omega) (by unfold maxLen; omega) (Nat.le_refl _) ?_; intro w1 hown hgrow)
    rw [runL_made N C] at hown
    have hst : Below w.heap.size w w1 := (Below.refl _ w).grown hgrow (Nat.le_refl _) (fun k hk => by cases hk)
    have HO1 : Hid (w1.ownsRow w.heap.size 5 1 (.slice (some ⟨w.heap.size, 0, none⟩) N N) N (cs (runL N C 0))) := hown
    have HB1 : Hid (Below w.heap.size w w1) := hst
    clear hown hgrow hst
    go_loopw [34] (fun i wr => ∃ k : Nat, k ≤ N ∧ i = .int .i64 (k : Int) ∧ wr.ownsRow w.heap.size 5 1 (.slice (some ⟨w.heap.size, 0, none⟩) N N) N (cs (runL N C k)) ∧ Below w.heap.size w wr) (fun i _ => N - (intOf i).toNat)
    case atStart => exact ⟨0, by omega, rfl, HO1.out, HB1.out⟩
    case round =>
      clear HO1 HB1
      obtain ⟨k, hk, rfl, hO, hB⟩ := hrel
      by_cases hlt : k < N
      · have hki : (k : Int) < (N : Int) := by omega
        have hki0 : (0 : Int) ≤ (k : Int) := by omega
        have hcl := hO.cellAt k (by omega)
        have hfr := hO.frozenAt k
        obtain ⟨u, hu⟩ : ∃ u, (cs (runL N C k))[k]? = some u := ⟨_, List.getElem?_eq_getElem (by rw [cs_len, runL_len]; exact hlt)⟩
        rw [hu] at hcl
        have hS := (hO.stored k (.int .u8 (C : Int))).1
        rw [runL_set] at hS
        have HO1 : Hid ((wr.setCell ⟨w.heap.size, k, none⟩ (.int .u8 (C : Int))).ownsRow w.heap.size 5 1 (.slice (some ⟨w.heap.size, 0, none⟩) N N) N (cs (runL N C (k + 1)))) := hS
        have HB1 : Hid (Below w.heap.size w (wr.setCell ⟨w.heap.size, k, none⟩ (.int .u8 (C : Int)))) := hB.setCell (Nat.le_refl _) _
        clear hS hO hB hu
        go_wp2
        go_roundw
        case rel => exact ⟨k + 1, by omega, by go_num, HO1.out, HB1.out⟩
        case measure => simp [intOf]; omega
      · obtain rfl : k = N := by omega
        have HCV : Hid (∀ W, Below wr.heap.size wr W → (convert 46 9 (.slice (some ⟨w.heap.size, 0, none⟩) k k)).run Try.prog W = .ok (.string (bs (runL k C k))) W) := fun W hb => conv_bs (P := Try.prog) (dst := 9) (l := runL k C k) Try.underlying46 Try.underlying5 Try.underlying9 (own_below hO hb)
        have hcv := HCV.out wr (Below.refl _ _)
        have hrun := runL_run k C hC
        have HRUN : Hid (IsRun (bs (runL k C k)) k C) := hrun
        have hss : (bs (runL k C k)).size = k := hrun.1
        have HB : Hid (Below w.heap.size w wr) := hB
        clear hO hB hrun
        generalize bs (runL k C k) = S at *
        by_cases hbig : 65536 < k
        · have hbi : (65536 : Int) < (k : Int) := by omega
          go_wp2_with fail
          refine (tokens_big S v _ (by omega) (by omega)).mono ?_
          rintro e w2 ⟨rfl, rfl⟩
          clear hcv HCV
          go_wp2_with fail
          refine (awake5_any _).mono ?_
          rintro e w3 ⟨rfl, hb3⟩
          have hB3 := HB.out.trans (hb3.mono HB.out.size)
          go_wp2
          go_ret
          exact ⟨rfl, hB3⟩
        · have hbi : ¬ (65536 : Int) < (k : Int) := by omega
          go_wp2_with fail
          refine (tokens_ok S v _ (by omega) (by omega)).mono ?_
          rintro e w2 ⟨t1, rfl, hT2, hb2⟩
          have hfew := run_few HRUN.out (lv := v) (by omega)
          have hsay : expF (k : Int) (toks S v) [] = (nb S, 0) := toks_says S v (k : Int) (by omega)
          have hless : 1 ≤ k → expF ((k : Int) - 1) (toks S v) [] = ([], 2) := fun h => expF_less (k : Int) _ _ _ _ hsay (by show (0 : Int) ≤ _; omega) (by rw [nb_len]; omega)
          have HLS : Hid _ := hless
          have htl := toks_len S v
          have HX1 : Hid (Calls _ _ _ _ _) := expand_any t1 (toks S v) (k : Int) w2 hT2 (by omega) (by omega) (by omega)
          rw [hsay] at HX1
          simp only [bs_nb] at HX1
          clear hcv hless hsay
          go_wp2_with fail
          refine (Hid.out HX1 : Calls _ _ _ _ _).mono ?_
          rintro e w3 ⟨rfl, hb3⟩
          have HX2 : Hid (Calls _ _ _ _ _) := expand_any t1 (toks S v) ((k : Int) - 1) w3 (hT2.below hb3) (by omega) (by omega) (by omega)
          obtain ⟨a1, c1, rfl, _⟩ := hT2.form
          generalize hEG : (expF ((k : Int) - 1) (toks S v) []) = EG at *
          obtain ⟨EL, EE⟩ := EG
          have HEG : Hid (1 ≤ k → EE = 2) := fun h => (Prod.mk.inj (HLS.out h)).2
          clear HX1 HLS hT2 hEG
          generalize (toks S v).length = L at *
          go_wp2_with fail
          refine (Hid.out HX2 : Calls _ _ _ _ _).mono ?_
          rintro e w4 ⟨rfl, hb4⟩
          clear HX2
          go_wp2_with fail
          refine (awake5_any _).mono ?_
          rintro e w5 ⟨rfl, hb5⟩
          have hB24 : Below wr.heap.size wr w3 := hb2.trans (hb3.mono hb2.size)
          have hB45 : Below wr.heap.size wr w4 := hB24.trans (hb4.mono hB24.size)
          have hB56 : Below wr.heap.size wr w5 := hB45.trans (hb5.mono hB45.size)
          have hcv := HCV.out w5 hB56
          have HB5 : Hid (Below w.heap.size w w5) := HB.out.trans (hB56.mono HB.out.size)
          have hq : (k : Int).tdiv 258 = ((k / 258 : Nat) : Int) := by rw [Int.tdiv_eq_ediv_of_nonneg (by omega)]; omega
          have hle : (L : Int) ≤ 4 + ((k / 258 : Nat) : Int) := by omega
          clear hb2 hb3 hb4 hb5 hB24 hB45 hB56 HCV
          by_cases hk0 : k = 0
          · subst hk0
            go_wp2
            go_ret
            exact ⟨rfl, HB5.out⟩
          · have hki : ((k : Int) == 0) = false := by simp; omega
            have hE2 := HEG.out (by omega)
            subst hE2
            go_wp2
            go_ret
            exact ⟨rfl, HB5.out⟩
end Go.Proofs.Ytdmnmclhfeoghaa
