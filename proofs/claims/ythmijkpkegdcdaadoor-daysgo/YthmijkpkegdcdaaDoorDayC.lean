/- Contracts of days' digits and Date. -/
import Derived.Test.YthmijkpkegdcdaaDoorDayB
import Derived.Test.YthmijkpkegdcdaaDoorBsM
import Derived.Test.YthmijkpkegdcdaaDoorShelf
import Derived.Lib.AppendIntMem
namespace Go.Proofs.YthmijkpkegdcdaaDoor
open Go.RowKit
set_option linter.unusedVariables false

/-- The library's table of powers lies there. -/
def PT (w : World) : Prop := Lib.TabIs Tryd.prog w "internal/strconv.uint64pow10" .u64 Lib.pow10Tab
theorem PT.on {w w' : World} (h : PT w) (hb : Below w.heap.size w w') : PT w' := Lib.tabBelow_of_tabIs h w' hb
theorem dd_big {u : Nat} (h : ¬ u < 10) : Lib.decDigits u = Lib.decDigits (u / 10) ++ [UInt8.ofNat (48 + u % 10)] := by rw [Lib.decDigits, dif_neg h]
theorem itoa4 (n : Nat) (h1 : 1000 ≤ n) (h2 : n ≤ 9999) : (⟨(Lib.itoa (n : Int)).toArray⟩ : ByteArray) = bs (two (n / 100) ++ two (n % 100)) := by
  apply ba_ext
  rw [bs_data2]
  show Lib.itoa (n : Int) = _
  rw [Lib.itoa, if_neg (by omega), Int.toNat_natCast, dd_big (by omega), dd_big (by omega), dd_big (by omega), Lib.decDigits_one (by omega)]
  simp only [two, List.map_cons, List.map_nil, List.cons_append, List.nil_append]
  rw [show n / 100 / 10 % 10 = n / 10 / 10 / 10 by omega, show n / 100 % 10 = n / 10 / 10 % 10 by omega, show n % 100 / 10 % 10 = n / 10 % 10 by omega, show n % 100 % 10 = n % 10 by omega]
theorem itoa1 (n : Nat) (h : n < 10) : (⟨(Lib.decDigits n).toArray⟩ : ByteArray) = bs [48 + n] := by
  apply ba_ext; rw [bs_data2]; show Lib.decDigits n = _; rw [Lib.decDigits_one h]; rfl
theorem itoa2 (n : Nat) (h1 : ¬ n < 10) (h2 : n < 100) : (⟨(Lib.decDigits n).toArray⟩ : ByteArray) = bs (two n) := by
  apply ba_ext; rw [bs_data2]; show Lib.decDigits n = _; rw [Lib.decDigits_two h1 h2]
  simp only [two, List.map_cons, List.map_nil]
  rw [show n / 10 % 10 = n / 10 by omega]
theorem itoa_year (n : Nat) (w : World) (h1 : 1000 ≤ n) (h2 : n ≤ 9999) (hT : PT w) :
    Calls Tryd.prog 25 #[.int .i64 n] w fun e w' => e = .returned (.string (bs (two (n / 100) ++ two (n % 100)))) ∧ Below w.heap.size w w' := by
  refine (Tryd.strconv_Itoa n (by omega) (by omega) w hT).mono ?_
  rintro e w' ⟨rfl, k, os, rfl⟩
  exact ⟨by rw [itoa4 n h1 h2], Lib.below_grow _ _ (Nat.le_refl _) _ _⟩
theorem bs0 : (⟨#[48]⟩ : ByteArray) = bs [48] := by apply ba_ext; rw [bs_data2]; rfl
theorem bs45 : (⟨#[45]⟩ : ByteArray) = bs [45] := by apply ba_ext; rw [bs_data2]; rfl
theorem empty_app (s : ByteArray) : (⟨#[]⟩ : ByteArray) ++ s = s := by apply ba_ext; simp [ByteArray.data_append]
set_option maxRecDepth 100000 in
set_option maxHeartbeats 400000 in
theorem digits4 (n : Nat) (w : World) (h1 : 1000 ≤ n) (h2 : n ≤ 9999) (hT : PT w) :
    Calls Tryd.prog 19 #[.int .i64 n, .int .i64 4] w fun e w' => e = .returned (.string (bs (two (n / 100) ++ two (n % 100)))) ∧ Below w.heap.size w w' := by
  have HI := itoa_year n w h1 h2 hT
  have hs : (bs (two (n / 100) ++ two (n % 100))).size = 4 := by rw [bs_size2]; simp [two]
  generalize bs (two (n / 100) ++ two (n % 100)) = S at *
  go_enter Tryd.func19, Tryd.ntmps19
  go_wp2_with fail
  refine HI.mono ?_
  rintro e w1 ⟨rfl, hb⟩
  go_wp2_with fail
  refine (Tryd.strings_Repeat_zero ⟨#[48]⟩ w1).mono ?_
  rintro e w2 ⟨rfl, rfl⟩
  go_wp2
  go_ret
  refine ⟨?_, hb⟩
  first
    | rfl
    | (show Ending.returned (.string (_ ++ S)) = _; rw [empty_app])
set_option maxRecDepth 100000 in
set_option maxHeartbeats 400000 in
theorem digits2 (n : Nat) (w : World) (h2 : n < 100) :
    Calls Tryd.prog 19 #[.int .i64 n, .int .i64 2] w fun e w' => e = .returned (.string (bs (two n))) ∧ w' = w := by
  have HI := Tryd.strconv_Itoa_small n h2 w
  by_cases h1 : n < 10
  · rw [itoa1 n h1] at HI
    have HS : Hid (bs (two n) = (⟨#[48]⟩ : ByteArray) ++ bs [48 + n]) := by
      show _ = _
      rw [bs0, bs_append2]
      simp [two]
      rw [show n / 10 = 0 by omega, show n % 10 = n by omega]
    have hs : (bs [48 + n]).size = 1 := by rw [bs_size2]; rfl
    generalize bs [48 + n] = S at *
    generalize bs (two n) = R at *
    go_enter Tryd.func19, Tryd.ntmps19
    go_wp2_with fail
    refine HI.mono ?_
    rintro e w1 ⟨rfl, rfl⟩
    go_wp2_with fail
    refine (Tryd.strings_Repeat_one ⟨#[48]⟩ w1).mono ?_
    rintro e w2 ⟨rfl, rfl⟩
    go_wp2
    go_ret
    refine ⟨?_, rfl⟩
    rw [HS.out]
    rfl
  · rw [itoa2 n h1 h2] at HI
    have hs : (bs (two n)).size = 2 := by rw [bs_size2]; rfl
    generalize bs (two n) = S at *
    go_enter Tryd.func19, Tryd.ntmps19
    go_wp2_with fail
    refine HI.mono ?_
    rintro e w1 ⟨rfl, rfl⟩
    go_wp2_with fail
    refine (Tryd.strings_Repeat_zero ⟨#[48]⟩ w1).mono ?_
    rintro e w2 ⟨rfl, rfl⟩
    go_wp2
    go_ret
    refine ⟨?_, rfl⟩
    first
      | rfl
      | (show Ending.returned (.string (_ ++ S)) = _; rw [empty_app])
theorem dayL_eq (d : Nat) : bs (dayL d) = (((bs (two (yrN (mon d) / 100) ++ two (yrN (mon d) % 100)) ++ ⟨#[45]⟩) ++ bs (two (moN (mon d)))) ++ ⟨#[45]⟩) ++ bs (two (domN d)) := by
  rw [bs45, bs_append2, bs_append2, bs_append2, bs_append2]; rfl
/-- A day's date, closed to the walk. -/
def dateS (d : Nat) : ByteArray := bs (dayL d)
theorem dateS_eq (d : Nat) : dateS d = (((bs (two (yrN (mon d) / 100) ++ two (yrN (mon d) % 100)) ++ ⟨#[45]⟩) ++ bs (two (moN (mon d)))) ++ ⟨#[45]⟩) ++ bs (two (domN d)) := dayL_eq d
theorem dateS_data (d : Nat) : (dateS d).data.toList = (dayL d).map UInt8.ofNat := bs_data2 _
theorem dateS_size (d : Nat) : (dateS d).size = 10 := by rw [dateS, bs_size2, dayL_len]
set_option maxRecDepth 100000 in
set_option maxHeartbeats 400000 in
theorem date_any (t : Nat) (w : World) (h : t ≤ 253402300799) (hT : PT w) :
    Calls Tryd.prog 7 #[.int .i64 t] w fun e w' => e = .returned (.tuple #[.string (dateS (t / 86400)), .int .i64 0]) ∧ Below w.heap.size w w' := by
  have HD := day_any t w h
  have hq : t / 86400 ≤ 2932896 := by omega
  have HC := calendar_any (t / 86400) w hq
  have hm := mon_le hq
  have HE : Hid (_ = _) := dateS_eq (t / 86400)
  have b0 : 1970 ≤ yrN (mon (t / 86400)) := by unfold yrN; omega
  have b1 : yrN (mon (t / 86400)) ≤ 9999 := by unfold yrN; omega
  have b2 : moN (mon (t / 86400)) ≤ 12 := by unfold moN; omega
  have b3 := dom_le (t / 86400)
  have H4 := digits4 _ w (by omega) b1 hT
  have H2 := fun W => digits2 (moN (mon (t / 86400))) W (by omega)
  have H3 := fun W => digits2 (domN (t / 86400)) W (by omega)
  have s1 : (bs (two (yrN (mon (t / 86400)) / 100) ++ two (yrN (mon (t / 86400)) % 100))).size = 4 := by rw [bs_size2]; rfl
  have s2 : (bs (two (moN (mon (t / 86400))))).size = 2 := by rw [bs_size2]; rfl
  have s3 : (bs (two (domN (t / 86400)))).size = 2 := by rw [bs_size2]; rfl
  generalize dateS (t / 86400) = R at *
  generalize yrN (mon (t / 86400)) = y at *
  generalize moN (mon (t / 86400)) = m at *
  generalize domN (t / 86400) = dd at *
  clear hm
  generalize t / 86400 = q at *
  generalize bs (two (y / 100) ++ two (y % 100)) = S1 at *
  generalize bs (two m) = S2 at *
  generalize bs (two dd) = S3 at *
  go_enter Tryd.func7, Tryd.ntmps7
  go_wp2_with fail
  refine (within_yes t w h).mono ?_
  rintro e w1 ⟨rfl, rfl⟩
  go_wp2_with fail
  refine HD.mono ?_
  rintro e w2 ⟨rfl, rfl⟩
  go_wp2_with fail
  refine HC.mono ?_
  rintro e w2 ⟨rfl, rfl⟩
  go_wp2_with fail
  refine H4.mono ?_
  rintro e w3 ⟨rfl, hb3⟩
  go_wp2_with fail
  refine (H2 _).mono ?_
  rintro e w4 ⟨rfl, rfl⟩
  go_wp2_with fail
  refine (H3 _).mono ?_
  rintro e w5 ⟨rfl, rfl⟩
  go_wp2
  refine bodyPost_ret (v := .tuple #[.string (S1 ++ ⟨#[45]⟩ ++ S2 ++ ⟨#[45]⟩ ++ S3), .int .i64 0]) (by simp [results, Tryd.results7, go_sem]) rfl ⟨?_, hb3⟩
  rw [HE.out]
set_option maxRecDepth 100000 in
set_option maxHeartbeats 400000 in
theorem date_no (t : Int) (w : World) (h : ¬ (0 ≤ t ∧ t ≤ 253402300799)) :
    Calls Tryd.prog 7 #[.int .i64 t] w fun e w' => e = .returned (.tuple #[.string ⟨#[]⟩, .int .i64 1]) ∧ w' = w := by
  go_enter Tryd.func7, Tryd.ntmps7
  go_wp2_with fail
  refine (within_no t w h).mono ?_
  rintro e w1 ⟨rfl, rfl⟩
  clear h
  go_wp2
  exact bodyPost_ret (v := .tuple #[.string ⟨#[]⟩, .int .i64 1]) (by simp [results, Tryd.results7, go_sem]) rfl ⟨rfl, rfl⟩
end Go.Proofs.YthmijkpkegdcdaaDoor
