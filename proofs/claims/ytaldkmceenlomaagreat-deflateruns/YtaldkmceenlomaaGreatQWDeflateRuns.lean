/- DeflateRuns: the walk. -/
import Derived.Test.YtaldkmceenlomaaGreatQDRun
import Derived.Test.YtaldkmceenlomaaGreatQAwake7
import Derived.OwnWalk
namespace Go.Proofs.YtaldkmceenlomaaGreat
open Go.RowKit
set_option linter.unusedVariables false

theorem run_back {S d : ByteArray} {n c v : Nat} (h : IsRun S n c) (hl : 1 ≤ v) (h1 : 1000 ≤ n) (h2 : n ≤ 65536) (hd : DefOk S v d) (W : World) :
    Calls Tryz.prog 9 #[.string d, .int .i64 0, .int .i64 (n : Int)] W fun e w' => e = .returned (.tuple #[.string S, .int .i64 (d.size : Int), .int .i64 0]) ∧ Below W.heap.size W w' := by
  obtain ⟨bs, hb, rfl, hsz⟩ := run_packed h hl h1 h2 hd
  have hS : S.size = n := h.1
  have hr := packed_reads hb (by omega) n
  rw [if_neg (by omega)] at hr
  have hps := packS_size (bitsB bs)
  refine (inflate_good _ _ 0 n _ W (Nat.zero_le _) h2 (by omega) (by simp) hr).mono ?_
  rintro e w' (⟨l, q, he, rfl, _, hbw⟩ | ⟨er, he, _⟩)
  · obtain ⟨rfl, rfl⟩ := Prod.mk.inj (Except.ok.inj he)
    rw [packed_text hb (by omega), hps]
    exact ⟨rfl, hbw⟩
  · cases he
theorem run_small {S d : ByteArray} {n c v : Nat} (h : IsRun S n c) (hl : 1 ≤ v) (h1 : 1000 ≤ n) (h2 : n ≤ 65536) (hd : DefOk S v d) (W : World) :
    Calls Tryz.prog 9 #[.string d, .int .i64 0, .int .i64 ((n : Int) - 1)] W fun e w' => e = .returned (.tuple #[.string ⟨#[]⟩, .int .i64 0, .int .i64 2]) ∧ Below W.heap.size W w' := by
  obtain ⟨bs, hb, rfl, hsz⟩ := run_packed h hl h1 h2 hd
  have hS : S.size = n := h.1
  have hr := packed_reads hb (by omega) (n - 1)
  rw [if_pos (by omega)] at hr
  rw [show ((n : Int) - 1) = ((n - 1 : Nat) : Int) by omega]
  refine (inflate_good _ _ 0 (n - 1) _ W (Nat.zero_le _) (by omega) (by omega) (by simp) hr).mono ?_
  rintro e w' (⟨l, q, he, _⟩ | ⟨er, he, _, rfl, hbw⟩)
  · cases he
  · obtain rfl := Except.error.inj he
    exact ⟨rfl, hbw⟩
theorem run_short {S d : ByteArray} {n c v : Nat} (h : IsRun S n c) (hl : 1 ≤ v) (h1 : 1000 ≤ n) (h2 : n ≤ 65536) (hd : DefOk S v d) : d.size ≤ 64 + n / 64 := by
  obtain ⟨bs, hb, rfl, hsz⟩ := run_packed h hl h1 h2 hd
  exact hsz

set_option maxRecDepth 100000 in
set_option maxHeartbeats 2000000 in
theorem lawDeflateRuns_walk (c n lv : Int) (w : World) (hc : 0 ≤ c ∧ c ≤ 255) (hn : -9223372036854775808 ≤ n ∧ n ≤ 9223372036854775807) (hlv : -9223372036854775808 ≤ lv ∧ lv ≤ 9223372036854775807) :
    Calls Tryz.prog 4 #[.int .u8 c, .int .i64 n, .int .i64 lv] w fun e w' => e = .returned (.bool true) ∧ Below w.heap.size w w' := by
  obtain ⟨i0, hi, hz0, hz1, hz2⟩ := info_parts Tryz.infoU8m
  by_cases hbad : n < 1000 ∨ 65536 < n ∨ lv < 1 ∨ 9 < lv
  · have HAW : Hid (Calls _ _ _ _ _) := awake7_any w
    by_cases p0 : n < 1000
    · clear hbad
      go_enter Tryz.func4, Tryz.ntmps4
      go_wp2_with fail
      refine (Hid.out HAW : Calls _ _ _ _ _).mono ?_
      rintro e w3 ⟨rfl, hb3⟩
      go_wp2
      go_ret
      exact ⟨rfl, hb3⟩
    · by_cases p1 : 65536 < n
      · clear hbad
        go_enter Tryz.func4, Tryz.ntmps4
        go_wp2_with fail
        refine (Hid.out HAW : Calls _ _ _ _ _).mono ?_
        rintro e w3 ⟨rfl, hb3⟩
        go_wp2
        go_ret
        exact ⟨rfl, hb3⟩
      · by_cases p2 : lv < 1
        · clear hbad
          go_enter Tryz.func4, Tryz.ntmps4
          go_wp2_with fail
          refine (Hid.out HAW : Calls _ _ _ _ _).mono ?_
          rintro e w3 ⟨rfl, hb3⟩
          go_wp2
          go_ret
          exact ⟨rfl, hb3⟩
        · have p3 : 9 < lv := by omega
          clear hbad
          go_enter Tryz.func4, Tryz.ntmps4
          go_wp2_with fail
          refine (Hid.out HAW : Calls _ _ _ _ _).mono ?_
          rintro e w3 ⟨rfl, hb3⟩
          go_wp2
          go_ret
          exact ⟨rfl, hb3⟩
  · have q0 : ¬ n < 1000 := by omega
    have q1 : ¬ 65536 < n := by omega
    have q2 : ¬ lv < 1 := by omega
    have q3 : ¬ 9 < lv := by omega
    clear hbad
    obtain ⟨N, rfl⟩ : ∃ N : Nat, n = (N : Int) := ⟨n.toNat, by omega⟩
    obtain ⟨v, rfl⟩ : ∃ v : Nat, lv = (v : Int) := ⟨lv.toNat, by omega⟩
    obtain ⟨C, rfl⟩ : ∃ C : Nat, c = (C : Int) := ⟨c.toNat, by omega⟩
    have hN : N ≤ 65536 := by omega
    have hC : C < 256 := by omega
    go_enter Tryz.func4, Tryz.ntmps4
    go_wp2_with (at_make; refine wpList_make_full _ rfl _ _ 33 rfl w.heap.size 5 i0 (.int .u8 0) 1 Tryz.underlying33 hi hz0 hz1 .i64 .i64 _ _ N rfl rfl (by omega) (by omega) (by rw [hz2]; omega) (by unfold maxLen; omega) (Nat.le_refl _) ?_; intro w1 hown hgrow)
    rw [runL_made N C] at hown
    have hst : Below w.heap.size w w1 := (Below.refl _ w).grown hgrow (Nat.le_refl _) (fun k hk => by cases hk)
    have HO1 : Hid (w1.ownsRow w.heap.size 5 1 (.slice (some ⟨w.heap.size, 0, none⟩) N N) N (cs (runL N C 0))) := hown
    have HB1 : Hid (Below w.heap.size w w1) := hst
    clear hown hgrow hst
    go_loopw [36] (fun i wr => ∃ k : Nat, k ≤ N ∧ i = .int .i64 (k : Int) ∧ wr.ownsRow w.heap.size 5 1 (.slice (some ⟨w.heap.size, 0, none⟩) N N) N (cs (runL N C k)) ∧ Below w.heap.size w wr) (fun i _ => N - (intOf i).toNat)
    case atStart => exact ⟨0, by omega, rfl, HO1.out, HB1.out⟩
    case round =>
      clear HO1 HB1
      obtain ⟨k, hk, rfl, hO, hB⟩ := hrel
      by_cases hlt : k < N
      · have hki : (k : Int) < (N : Int) := by omega
        have hki0 : (0 : Int) ≤ (k : Int) := by omega
        have hcl := hO.cellAt k (by omega)
        have hfr := hO.frozenAt k
        obtain ⟨u, hu⟩ : ∃ u, (cs (runL N C k))[k]? = some u := ⟨_, List.getElem?_eq_getElem (by rw [cs_len, runL_len]; exact hlt)⟩
        rw [hu] at hcl
        have hS := (hO.stored k (.int .u8 (C : Int))).1
        rw [runL_set] at hS
        have HO1 : Hid ((wr.setCell ⟨w.heap.size, k, none⟩ (.int .u8 (C : Int))).ownsRow w.heap.size 5 1 (.slice (some ⟨w.heap.size, 0, none⟩) N N) N (cs (runL N C (k + 1)))) := hS
        have HB1 : Hid (Below w.heap.size w (wr.setCell ⟨w.heap.size, k, none⟩ (.int .u8 (C : Int)))) := hB.setCell (Nat.le_refl _) _
        clear hS hO hB hu
        go_wp2
        go_roundw
        case rel => exact ⟨k + 1, by omega, by go_num, HO1.out, HB1.out⟩
        case measure => simp [intOf]; omega
      · obtain rfl : k = N := by omega
        have HCV : Hid (∀ W, Below wr.heap.size wr W → (convert 33 9 (.slice (some ⟨w.heap.size, 0, none⟩) k k)).run Tryz.prog W = .ok (.string (bs (runL k C k))) W) := fun W hb => conv_bs (P := Tryz.prog) (dst := 9) (l := runL k C k) Tryz.underlying33 Tryz.underlying5 Tryz.underlying9 (own_below hO hb)
        have hcv := HCV.out wr (Below.refl _ _)
        have HRUN : Hid (IsRun (bs (runL k C k)) k C) := runL_run k C hC
        have hss : (bs (runL k C k)).size = k := HRUN.out.1
        have HB : Hid (Below w.heap.size w wr) := hB
        have HDF : Hid (Calls _ _ _ _ _) := deflate_any (bs (runL k C k)) v wr (by omega) (by omega)
        clear hO hB
        generalize bs (runL k C k) = S at *
        go_wp2_with fail
        refine (Hid.out HDF : Calls _ _ _ _ _).mono ?_
        rintro e w2 ⟨d, rfl, hd, hb2⟩
        have HI1 : Hid (Calls _ _ _ _ _) := run_back HRUN.out (by omega) (by omega) (by omega) hd w2
        have HI2 : Hid (∀ W, Calls Tryz.prog 9 #[.string d, .int .i64 0, .int .i64 ((k : Int) - 1)] W fun e w' => e = .returned (.tuple #[.string ⟨#[]⟩, .int .i64 0, .int .i64 2]) ∧ Below W.heap.size W w') := fun W => run_small HRUN.out (by omega) (by omega) (by omega) hd W
        have hsh := run_short HRUN.out (by omega) (by omega) (by omega) hd
        have hB2 : Below wr.heap.size wr w2 := hb2
        clear hcv HDF hd hb2
        go_wp2_with fail
        refine (Hid.out HI1 : Calls _ _ _ _ _).mono ?_
        rintro e w3 ⟨rfl, hb3⟩
        have hB3 : Below wr.heap.size wr w3 := hB2.trans (hb3.mono hB2.size)
        clear HI1 hb3
        go_wp2_with fail
        refine (HI2.out _).mono ?_
        rintro e w4 ⟨rfl, hb4⟩
        have hB4 : Below wr.heap.size wr w4 := hB3.trans (hb4.mono hB3.size)
        clear HI2 hb4
        go_wp2_with fail
        refine (awake7_any _).mono ?_
        rintro e w5 ⟨rfl, hb5⟩
        have hB5 : Below wr.heap.size wr w5 := hB4.trans (hb5.mono hB4.size)
        have hcv := HCV.out w5 hB5
        have HB5 : Hid (Below w.heap.size w w5) := HB.out.trans (hB5.mono HB.out.size)
        have hq : (k : Int).tdiv 64 = ((k / 64 : Nat) : Int) := by rw [Int.tdiv_eq_ediv_of_nonneg (by omega)]; omega
        have hle : (d.size : Int) ≤ 64 + (k : Int) / 64 := by omega
        clear hb5 hB2 hB3 hB4 hB5 HCV hsh
        go_wp2
        go_ret
        exact ⟨rfl, HB5.out⟩
end Go.Proofs.YtaldkmceenlomaaGreat
