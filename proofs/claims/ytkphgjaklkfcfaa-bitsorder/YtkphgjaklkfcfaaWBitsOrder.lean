/- The walk of the law BitsOrder: it returns true at every input. -/
import Derived.Test.YtkphgjaklkfcfaaWBitsVars
import Derived.Test.YtkphgjaklkfcfaaOrderM
import Derived.OpenShut
namespace Go.Proofs.Ytkphgjaklkfcfaa
open Go.RowKit
set_option linter.unusedVariables false

theorem put_8 (x : Nat) (w : World) (hx : x < 18446744073709551616) :
    Calls Try.prog 10 #[.int .u64 x, .int .i64 8] w fun e w' => e = .returned (.string (bs (putN x 8))) ∧ Below w.heap.size w w' := put_any x 8 w (by omega) (by omega) (by decide)
theorem get_8 (x : Nat) (w : World) (hx : x < 18446744073709551616) :
    Calls Try.prog 12 #[.string (bs (putN x 8))] w fun e w' => e = .returned (.int .u64 x) ∧ w' = w := by
  have h := get_any (bs (putN x 8)) w (by rw [bs_size, putN_len]; decide)
  rw [bs_data, List.take_of_length_le (by rw [List.length_map, putN_len]; decide), getN_put8 x hx] at h
  exact h
theorem same_var (x y : Nat) (hx : x < 18446744073709551616) (hy : y < 18446744073709551616) : ((bs (varN x)).toList == (bs (varN y)).toList) = decide (x = y) := by
  rw [ByteArray.toList_eq, ByteArray.toList_eq, bs_data, bs_data]
  by_cases h : x = y
  · subst h; simp
  · have : (varN x).map UInt8.ofNat ≠ (varN y).map UInt8.ofNat := fun e => h (by
      have a := uv_var x [] hx
      have b := uv_var y [] hy
      unfold varB at a b
      rw [e, b] at a
      exact (congrArg Prod.fst a).symm)
    simp [h, this]
theorem same_put (x y : Nat) (hx : x < 18446744073709551616) (hy : y < 18446744073709551616) : ((bs (putN x 8)).toList == (bs (putN y 8)).toList) = decide (x = y) := by
  rw [ByteArray.toList_eq, ByteArray.toList_eq, bs_data, bs_data]
  by_cases h : x = y
  · subst h; simp
  · have : (putN x 8).map UInt8.ofNat ≠ (putN y 8).map UInt8.ofNat := fun e => h (putN_inj x y hx hy e)
    simp [h, this]

/-- The number at place k, and the first k of them. -/
def natAt (zs : List Int) (k : Nat) : Nat := (zs.getD k 0).toNat
def nats (zs : List Int) (k : Nat) : List Nat := (List.range k).map (natAt zs)
theorem nats_len (zs : List Int) (k : Nat) : (nats zs k).length = k := by simp [nats]
theorem nats_succ (zs : List Int) (k : Nat) : nats zs (k + 1) = nats zs k ++ [natAt zs k] := by simp [nats, List.range_succ]
theorem nats_lt (zs : List Int) (k : Nat) (h : ∀ j, j < k → natAt zs j < 18446744073709551616) : ∀ x ∈ nats zs k, x < 18446744073709551616 := by
  intro x hx
  simp only [nats, List.mem_map, List.mem_range] at hx
  obtain ⟨j, hj, rfl⟩ := hx
  exact h j hj
theorem vcat_nats (zs : List Int) (k : Nat) : vcat (nats zs (k + 1)) = vcat (nats zs k) ++ varN (natAt zs k) := by rw [nats_succ, vcat_snoc]
/-- The numbers from place k on, up to place m. -/
def natsFrom (zs : List Int) (k m : Nat) : List Nat := (List.range' k (m - k)).map (natAt zs)
theorem natsFrom_zero (zs : List Int) (m : Nat) : natsFrom zs 0 m = nats zs m := by simp [natsFrom, nats, List.range_eq_range']
theorem natsFrom_cons (zs : List Int) (k m : Nat) (h : k < m) : natsFrom zs k m = natAt zs k :: natsFrom zs (k + 1) m := by
  unfold natsFrom
  rw [show m - k = (m - (k + 1)) + 1 by omega, List.range'_succ]; rfl
theorem natsFrom_end (zs : List Int) (m : Nat) : natsFrom zs m m = [] := by simp [natsFrom]
theorem natsFrom_len (zs : List Int) (k m : Nat) : (natsFrom zs k m).length = m - k := by simp [natsFrom]
theorem natsFrom_lt (zs : List Int) (k m : Nat) (h : ∀ j, j < m → natAt zs j < 18446744073709551616) : ∀ x ∈ natsFrom zs k m, x < 18446744073709551616 := by
  intro x hx
  simp only [natsFrom, List.mem_map, List.mem_range'_1] at hx
  obtain ⟨j, hj, rfl⟩ := hx
  exact h j (by omega)
theorem unvar_join (x : Nat) (R : List Nat) (w : World) (hx : x < 18446744073709551616) (hR : R.length ≤ 1000) :
    Calls Try.prog 15 #[.string (bs (varN x ++ R))] w fun e w' => e = .returned (.tuple #[.int .u64 x, .int .i64 (varN x).length]) ∧ w' = w := by
  rw [← bs_append]
  exact unvar_back x (bs R) w hx (by rw [bs_size]; omega)
theorem isrow_at {w : World} {a : Option Addr} {len cap : Nat} {zs : List Int} (h : IsRow .u64 w a len cap zs) {k : Nat} (hk : k < len) :
    (∃ b off, a = some ⟨b, off, none⟩ ∧ w.cell? ⟨b, off + k, none⟩ = some (.int .u64 (natAt zs k)) ∧ b < w.heap.size) ∧ 0 ≤ zs.getD k 0 ∧ natAt zs k < 18446744073709551616 := by
  rcases h with ⟨_, h0, _⟩ | ⟨x, rfl, hl, hm, hz, hcell, hwf⟩
  · omega
  · obtain ⟨b, off, spot⟩ := x
    have hc := hcell k (by omega)
    have hmem : zs.getD k 0 ∈ zs := by
      rw [List.getD_eq_getElem?_getD, List.getElem?_eq_getElem (by omega)]; simp
    have hbd := bounds_u64 (hwf _ hmem)
    have hspot : spot = none := by simpa [Addr.add] using World.cell?_spot (hcell 0 (by omega))
    subst hspot
    have e2 : (⟨b, off, none⟩ : Addr).add k = ⟨b, off + k, none⟩ := by unfold Addr.add; split <;> simp_all
    rw [e2] at hc
    have e : ((natAt zs k : Nat) : Int) = zs.getD k 0 := by unfold natAt; omega
    refine ⟨⟨b, off, rfl, ?_, ?_⟩, hbd.1, by omega⟩
    · rw [e]; exact hc
    · exact block_lt_of_cell hc

set_option maxRecDepth 100000 in
set_option maxHeartbeats 1000000 in
theorem lawBitsOrder_walk (x y : Int) (a : Option Addr) (len cap : Nat) (zs : List Int) (w : World) (hx : 0 ≤ x ∧ x ≤ 18446744073709551615) (hy : 0 ≤ y ∧ y ≤ 18446744073709551615) (hr : IsRow .u64 w a len cap zs) :
    Calls Try.prog 8 #[.int .u64 x, .int .u64 y, .slice a len cap] w fun e w' => e = .returned (.bool true) ∧ Below w.heap.size w w' := by
  obtain ⟨hx0, hx1⟩ := hx
  obtain ⟨x, rfl⟩ := Int.eq_ofNat_of_zero_le hx0
  obtain ⟨hy0, hy1⟩ := hy
  obtain ⟨y, rfl⟩ := Int.eq_ofNat_of_zero_le hy0
  have hx : x < 18446744073709551616 := by omega
  have hy : y < 18446744073709551616 := by omega
  clear hx0 hx1 hy0 hy1
  have sv := same_var x y hx hy
  have sp := same_put x y hx hy
  have hlm : x < y → ¬ ((bs (varN y)).size : Int) < ((bs (varN x)).size : Int) := by
    intro h; rw [bs_size, bs_size]; have := varN_mono x y (by omega); omega
  have hZ : ∀ k, k < len → natAt zs k < 18446744073709551616 := fun k hk => (isrow_at hr hk).2.2
  have hcl : len ≤ 140737488351232 := by rcases hr with ⟨_, h, _⟩ | ⟨_, _, h1, h2, _⟩ <;> omega
  have HR : Hid _ := hr
  have HZ : Hid _ := hZ
  clear hr hZ
  rcases Nat.lt_trichotomy x y with hxy | hxy | hxy
  · have q1 : (x : Int) < (y : Int) := by omega
    have q2 := hlm hxy
    have q2' : decide ((bs (varN y)).size < (bs (varN x)).size) = false := by simpa using q2
    have q3 : ((x : Int) == (y : Int)) = false := by simp; omega
    have q4 : decide (x = y) = false := by simp; omega
    rw [q4] at sv sp
    clear hlm q4 hxy
    go_enter Try.func8, Try.ntmps8
    go_wp2_with fail
    refine (var_nat _ _ hx).mono ?_
    rintro e w1 ⟨rfl, hb1⟩
    go_wp2_with fail
    refine (var_nat _ _ hy).mono ?_
    rintro e w2 ⟨rfl, hb2⟩
    go_wp2_with fail
    refine (put_8 _ _ hx).mono ?_
    rintro e w3 ⟨rfl, hb3⟩
    go_wp2_with fail
    refine (put_8 _ _ hy).mono ?_
    rintro e w4 ⟨rfl, hb4⟩
    go_wp2_with fail
    refine (put_8 _ _ hx).mono ?_
    rintro e w5 ⟨rfl, hb5⟩
    go_wp2_with fail
    refine (get_8 _ _ hx).mono ?_
    rintro e w6 ⟨rfl, rfl⟩
    go_wp2_with fail
    have hb := below_trans (below_trans (below_trans (below_trans hb1 hb2) hb3) hb4) hb5
    clear hb1 hb2 hb3 hb4 hb5
    go_loopw [9, 10] (fun s i wr => ∃ k : Nat, k ≤ len ∧ k ≤ 100 ∧ i = .int .i64 k ∧ s = .string (bs (vcat (nats zs k))) ∧ Below w.heap.size w wr) (fun _ i _ => 100 - (intOf i).toNat)
    case atStart => exact ⟨0, by omega, by omega, rfl, rfl, hb⟩
    case round =>
      clear hb
      obtain ⟨k, hk, hk100, rfl, rfl, hbel⟩ := hrel
      have hsz : (bs (vcat (nats zs k))).size ≤ 1000 := by
        rw [bs_size]
        have := vcat_len (nats zs k) (nats_lt zs k fun j hj => HZ.out j (by omega))
        rw [nats_len] at this; omega
      by_cases hlt : k < len
      · by_cases h100 : k < 100
        · obtain ⟨⟨b, off, rfl, hcell, hbl⟩, hz⟩ := isrow_at HR.out hlt
          obtain ⟨hz, hzz⟩ := hz
          have hc : wr.cell? ⟨b, off + k, none⟩ = some (.int .u64 (natAt zs k)) := by rw [hbel.cell hbl]; exact hcell
          have HS : Hid (_ = _) := vcat_nats zs k
          have hvs : (bs (varN (natAt zs k))).size ≤ 10 := by rw [bs_size]; exact varN_len64 hzz
          have h100' : (k : Int) < 100 := by omega
          have hlt' : (k : Int) < (len : Int) := by omega
          clear hcell
          generalize natAt zs k = z at *
          go_wp2_with fail
          refine (var_nat _ _ hzz).mono ?_
          rintro e w7 ⟨rfl, hb7⟩
          have hbel2 := hbel.trans (hb7.mono hbel.size)
          clear hb7 hbel
          go_wp2
          go_roundw
          case rel => exact ⟨k + 1, by omega, by omega, by go_num, by rw [HS.out, ← bs_append], hbel2⟩
          case measure => simp [intOf]; omega
        · have h100' : decide ((k : Int) < 100) = false := by simp; omega
          have hlt' : (k : Int) < (len : Int) := by omega
          have HV : Hid (vcat (nats zs k) = vcat (natsFrom zs 0 k)) := by unfold Hid; rw [natsFrom_zero]
          rw [HV.out]
          clear HV hsz
          go_wp2
          go_loopw [9, 11] (fun s i wr => ∃ j : Nat, j ≤ k ∧ i = .int .i64 j ∧ s = .string (bs (vcat (natsFrom zs j k))) ∧ Below w.heap.size w wr) (fun _ i _ => 100 - (intOf i).toNat)
          case atStart => exact ⟨0, by omega, rfl, rfl, hbel⟩
          case round =>
            clear hbel
            obtain ⟨j, hj, rfl, rfl, hbel⟩ := hrel
            by_cases hjk : j < k
            · obtain ⟨⟨b, off, rfl, hcell, hbl⟩, _, hzz⟩ := isrow_at HR.out (show j < len by omega)
              have hc : wr.cell? ⟨b, off + j, none⟩ = some (.int .u64 (natAt zs j)) := by rw [hbel.cell hbl]; exact hcell
              have hvc : (vcat (natsFrom zs (j + 1) k)).length ≤ 1000 := by
                have := vcat_len (natsFrom zs (j + 1) k) (natsFrom_lt zs (j + 1) k fun i hi => HZ.out i (by omega))
                rw [natsFrom_len] at this; omega
              have h100' : (j : Int) < 100 := by omega
              have hlt' : (j : Int) < (len : Int) := by omega
              rw [natsFrom_cons zs j k hjk, vcat_cons]
              clear hcell
              generalize natAt zs j = z at *
              generalize hRe : vcat (natsFrom zs (j + 1) k) = R at *
              have HRe : Hid (_ = _) := hRe
              clear hRe
              have hp := varN_pos z
              have hl := varN_len64 hzz
              have hS : (bs (varN z ++ R)).size = (varN z).length + R.length := by rw [bs_size, List.length_append]
              have HD : Hid (_ = _) := bs_drop (varN z) R
              go_wp2_with fail
              refine (unvar_join _ _ _ hzz hvc).mono ?_
              rintro e w8 ⟨rfl, rfl⟩
              have hS1 : (varN z).length ≤ (bs (varN z ++ R)).size := by omega
              have hS2 : (bs (varN z ++ R)).size ≤ 1010 := by omega
              clear hS
              go_wp2
              go_roundw
              case rel => exact ⟨j + 1, by omega, by go_num, by rw [HRe.out, ← HD.out], hbel⟩
              case measure => simp [intOf]; omega
            · obtain rfl : j = k := by omega
              rw [natsFrom_end, vcat_nil]
              go_wp2_with fail
              refine (awake_any _).mono ?_
              rintro e w9 ⟨rfl, hb9⟩
              have hE : ((bs []).toList == []) = true := by decide +kernel
              have hbel2 := hbel.trans (hb9.mono hbel.size)
              go_wp2
              go_ret
              exact ⟨rfl, hbel2⟩
      · have hlt' : decide ((k : Int) < (len : Int)) = false := by simp; omega
        have HV : Hid (vcat (nats zs k) = vcat (natsFrom zs 0 k)) := by unfold Hid; rw [natsFrom_zero]
        rw [HV.out]
        clear HV hsz
        go_wp2
        go_loopw [9, 11] (fun s i wr => ∃ j : Nat, j ≤ k ∧ i = .int .i64 j ∧ s = .string (bs (vcat (natsFrom zs j k))) ∧ Below w.heap.size w wr) (fun _ i _ => 100 - (intOf i).toNat)
        case atStart => exact ⟨0, by omega, rfl, rfl, hbel⟩
        case round =>
          clear hbel
          obtain ⟨j, hj, rfl, rfl, hbel⟩ := hrel
          by_cases hjk : j < k
          · obtain ⟨⟨b, off, rfl, hcell, hbl⟩, _, hzz⟩ := isrow_at HR.out (show j < len by omega)
            have hc : wr.cell? ⟨b, off + j, none⟩ = some (.int .u64 (natAt zs j)) := by rw [hbel.cell hbl]; exact hcell
            have hvc : (vcat (natsFrom zs (j + 1) k)).length ≤ 1000 := by
              have := vcat_len (natsFrom zs (j + 1) k) (natsFrom_lt zs (j + 1) k fun i hi => HZ.out i (by omega))
              rw [natsFrom_len] at this; omega
            have h100' : (j : Int) < 100 := by omega
            have hlt' : (j : Int) < (len : Int) := by omega
            rw [natsFrom_cons zs j k hjk, vcat_cons]
            clear hcell
            generalize natAt zs j = z at *
            generalize hRe : vcat (natsFrom zs (j + 1) k) = R at *
            have HRe : Hid (_ = _) := hRe
            clear hRe
            have hp := varN_pos z
            have hl := varN_len64 hzz
            have hS : (bs (varN z ++ R)).size = (varN z).length + R.length := by rw [bs_size, List.length_append]
            have HD : Hid (_ = _) := bs_drop (varN z) R
            go_wp2_with fail
            refine (unvar_join _ _ _ hzz hvc).mono ?_
            rintro e w8 ⟨rfl, rfl⟩
            have hS1 : (varN z).length ≤ (bs (varN z ++ R)).size := by omega
            have hS2 : (bs (varN z ++ R)).size ≤ 1010 := by omega
            clear hS
            go_wp2
            go_roundw
            case rel => exact ⟨j + 1, by omega, by go_num, by rw [HRe.out, ← HD.out], hbel⟩
            case measure => simp [intOf]; omega
          · obtain rfl : j = k := by omega
            rw [natsFrom_end, vcat_nil]
            go_wp2_with fail
            refine (awake_any _).mono ?_
            rintro e w9 ⟨rfl, hb9⟩
            have hE : ((bs []).toList == []) = true := by decide +kernel
            have hbel2 := hbel.trans (hb9.mono hbel.size)
            go_wp2
            go_ret
            exact ⟨rfl, hbel2⟩
  · subst hxy
    have q1 : ¬ (x : Int) < (x : Int) := by omega
    have q1' : decide ((x : Int) < (x : Int)) = false := by simp
    have q4 : decide (x = x) = true := by simp
    rw [q4] at sv sp
    clear hlm q4
    go_enter Try.func8, Try.ntmps8
    go_wp2_with fail
    refine (var_nat _ _ hx).mono ?_
    rintro e w1 ⟨rfl, hb1⟩
    go_wp2_with fail
    refine (var_nat _ _ hy).mono ?_
    rintro e w2 ⟨rfl, hb2⟩
    go_wp2_with fail
    refine (put_8 _ _ hx).mono ?_
    rintro e w3 ⟨rfl, hb3⟩
    go_wp2_with fail
    refine (put_8 _ _ hy).mono ?_
    rintro e w4 ⟨rfl, hb4⟩
    go_wp2_with fail
    refine (put_8 _ _ hx).mono ?_
    rintro e w5 ⟨rfl, hb5⟩
    go_wp2_with fail
    refine (get_8 _ _ hx).mono ?_
    rintro e w6 ⟨rfl, rfl⟩
    go_wp2_with fail
    have hb := below_trans (below_trans (below_trans (below_trans hb1 hb2) hb3) hb4) hb5
    clear hb1 hb2 hb3 hb4 hb5
    go_loopw [9, 10] (fun s i wr => ∃ k : Nat, k ≤ len ∧ k ≤ 100 ∧ i = .int .i64 k ∧ s = .string (bs (vcat (nats zs k))) ∧ Below w.heap.size w wr) (fun _ i _ => 100 - (intOf i).toNat)
    case atStart => exact ⟨0, by omega, by omega, rfl, rfl, hb⟩
    case round =>
      clear hb
      obtain ⟨k, hk, hk100, rfl, rfl, hbel⟩ := hrel
      have hsz : (bs (vcat (nats zs k))).size ≤ 1000 := by
        rw [bs_size]
        have := vcat_len (nats zs k) (nats_lt zs k fun j hj => HZ.out j (by omega))
        rw [nats_len] at this; omega
      by_cases hlt : k < len
      · by_cases h100 : k < 100
        · obtain ⟨⟨b, off, rfl, hcell, hbl⟩, hz⟩ := isrow_at HR.out hlt
          obtain ⟨hz, hzz⟩ := hz
          have hc : wr.cell? ⟨b, off + k, none⟩ = some (.int .u64 (natAt zs k)) := by rw [hbel.cell hbl]; exact hcell
          have HS : Hid (_ = _) := vcat_nats zs k
          have hvs : (bs (varN (natAt zs k))).size ≤ 10 := by rw [bs_size]; exact varN_len64 hzz
          have h100' : (k : Int) < 100 := by omega
          have hlt' : (k : Int) < (len : Int) := by omega
          clear hcell
          generalize natAt zs k = z at *
          go_wp2_with fail
          refine (var_nat _ _ hzz).mono ?_
          rintro e w7 ⟨rfl, hb7⟩
          have hbel2 := hbel.trans (hb7.mono hbel.size)
          clear hb7 hbel
          go_wp2
          go_roundw
          case rel => exact ⟨k + 1, by omega, by omega, by go_num, by rw [HS.out, ← bs_append], hbel2⟩
          case measure => simp [intOf]; omega
        · have h100' : decide ((k : Int) < 100) = false := by simp; omega
          have hlt' : (k : Int) < (len : Int) := by omega
          have HV : Hid (vcat (nats zs k) = vcat (natsFrom zs 0 k)) := by unfold Hid; rw [natsFrom_zero]
          rw [HV.out]
          clear HV hsz
          go_wp2
          go_loopw [9, 11] (fun s i wr => ∃ j : Nat, j ≤ k ∧ i = .int .i64 j ∧ s = .string (bs (vcat (natsFrom zs j k))) ∧ Below w.heap.size w wr) (fun _ i _ => 100 - (intOf i).toNat)
          case atStart => exact ⟨0, by omega, rfl, rfl, hbel⟩
          case round =>
            clear hbel
            obtain ⟨j, hj, rfl, rfl, hbel⟩ := hrel
            by_cases hjk : j < k
            · obtain ⟨⟨b, off, rfl, hcell, hbl⟩, _, hzz⟩ := isrow_at HR.out (show j < len by omega)
              have hc : wr.cell? ⟨b, off + j, none⟩ = some (.int .u64 (natAt zs j)) := by rw [hbel.cell hbl]; exact hcell
              have hvc : (vcat (natsFrom zs (j + 1) k)).length ≤ 1000 := by
                have := vcat_len (natsFrom zs (j + 1) k) (natsFrom_lt zs (j + 1) k fun i hi => HZ.out i (by omega))
                rw [natsFrom_len] at this; omega
              have h100' : (j : Int) < 100 := by omega
              have hlt' : (j : Int) < (len : Int) := by omega
              rw [natsFrom_cons zs j k hjk, vcat_cons]
              clear hcell
              generalize natAt zs j = z at *
              generalize hRe : vcat (natsFrom zs (j + 1) k) = R at *
              have HRe : Hid (_ = _) := hRe
              clear hRe
              have hp := varN_pos z
              have hl := varN_len64 hzz
              have hS : (bs (varN z ++ R)).size = (varN z).length + R.length := by rw [bs_size, List.length_append]
              have HD : Hid (_ = _) := bs_drop (varN z) R
              go_wp2_with fail
              refine (unvar_join _ _ _ hzz hvc).mono ?_
              rintro e w8 ⟨rfl, rfl⟩
              have hS1 : (varN z).length ≤ (bs (varN z ++ R)).size := by omega
              have hS2 : (bs (varN z ++ R)).size ≤ 1010 := by omega
              clear hS
              go_wp2
              go_roundw
              case rel => exact ⟨j + 1, by omega, by go_num, by rw [HRe.out, ← HD.out], hbel⟩
              case measure => simp [intOf]; omega
            · obtain rfl : j = k := by omega
              rw [natsFrom_end, vcat_nil]
              go_wp2_with fail
              refine (awake_any _).mono ?_
              rintro e w9 ⟨rfl, hb9⟩
              have hE : ((bs []).toList == []) = true := by decide +kernel
              have hbel2 := hbel.trans (hb9.mono hbel.size)
              go_wp2
              go_ret
              exact ⟨rfl, hbel2⟩
      · have hlt' : decide ((k : Int) < (len : Int)) = false := by simp; omega
        have HV : Hid (vcat (nats zs k) = vcat (natsFrom zs 0 k)) := by unfold Hid; rw [natsFrom_zero]
        rw [HV.out]
        clear HV hsz
        go_wp2
        go_loopw [9, 11] (fun s i wr => ∃ j : Nat, j ≤ k ∧ i = .int .i64 j ∧ s = .string (bs (vcat (natsFrom zs j k))) ∧ Below w.heap.size w wr) (fun _ i _ => 100 - (intOf i).toNat)
        case atStart => exact ⟨0, by omega, rfl, rfl, hbel⟩
        case round =>
          clear hbel
          obtain ⟨j, hj, rfl, rfl, hbel⟩ := hrel
          by_cases hjk : j < k
          · obtain ⟨⟨b, off, rfl, hcell, hbl⟩, _, hzz⟩ := isrow_at HR.out (show j < len by omega)
            have hc : wr.cell? ⟨b, off + j, none⟩ = some (.int .u64 (natAt zs j)) := by rw [hbel.cell hbl]; exact hcell
            have hvc : (vcat (natsFrom zs (j + 1) k)).length ≤ 1000 := by
              have := vcat_len (natsFrom zs (j + 1) k) (natsFrom_lt zs (j + 1) k fun i hi => HZ.out i (by omega))
              rw [natsFrom_len] at this; omega
            have h100' : (j : Int) < 100 := by omega
            have hlt' : (j : Int) < (len : Int) := by omega
            rw [natsFrom_cons zs j k hjk, vcat_cons]
            clear hcell
            generalize natAt zs j = z at *
            generalize hRe : vcat (natsFrom zs (j + 1) k) = R at *
            have HRe : Hid (_ = _) := hRe
            clear hRe
            have hp := varN_pos z
            have hl := varN_len64 hzz
            have hS : (bs (varN z ++ R)).size = (varN z).length + R.length := by rw [bs_size, List.length_append]
            have HD : Hid (_ = _) := bs_drop (varN z) R
            go_wp2_with fail
            refine (unvar_join _ _ _ hzz hvc).mono ?_
            rintro e w8 ⟨rfl, rfl⟩
            have hS1 : (varN z).length ≤ (bs (varN z ++ R)).size := by omega
            have hS2 : (bs (varN z ++ R)).size ≤ 1010 := by omega
            clear hS
            go_wp2
            go_roundw
            case rel => exact ⟨j + 1, by omega, by go_num, by rw [HRe.out, ← HD.out], hbel⟩
            case measure => simp [intOf]; omega
          · obtain rfl : j = k := by omega
            rw [natsFrom_end, vcat_nil]
            go_wp2_with fail
            refine (awake_any _).mono ?_
            rintro e w9 ⟨rfl, hb9⟩
            have hE : ((bs []).toList == []) = true := by decide +kernel
            have hbel2 := hbel.trans (hb9.mono hbel.size)
            go_wp2
            go_ret
            exact ⟨rfl, hbel2⟩
  · have q1 : ¬ (x : Int) < (y : Int) := by omega
    have q1' : decide ((x : Int) < (y : Int)) = false := by simp; omega
    have q3 : ((x : Int) == (y : Int)) = false := by simp; omega
    have q4 : decide (x = y) = false := by simp; omega
    rw [q4] at sv sp
    clear hlm q4 hxy
    go_enter Try.func8, Try.ntmps8
    go_wp2_with fail
    refine (var_nat _ _ hx).mono ?_
    rintro e w1 ⟨rfl, hb1⟩
    go_wp2_with fail
    refine (var_nat _ _ hy).mono ?_
    rintro e w2 ⟨rfl, hb2⟩
    go_wp2_with fail
    refine (put_8 _ _ hx).mono ?_
    rintro e w3 ⟨rfl, hb3⟩
    go_wp2_with fail
    refine (put_8 _ _ hy).mono ?_
    rintro e w4 ⟨rfl, hb4⟩
    go_wp2_with fail
    refine (put_8 _ _ hx).mono ?_
    rintro e w5 ⟨rfl, hb5⟩
    go_wp2_with fail
    refine (get_8 _ _ hx).mono ?_
    rintro e w6 ⟨rfl, rfl⟩
    go_wp2_with fail
    have hb := below_trans (below_trans (below_trans (below_trans hb1 hb2) hb3) hb4) hb5
    clear hb1 hb2 hb3 hb4 hb5
    go_loopw [9, 10] (fun s i wr => ∃ k : Nat, k ≤ len ∧ k ≤ 100 ∧ i = .int .i64 k ∧ s = .string (bs (vcat (nats zs k))) ∧ Below w.heap.size w wr) (fun _ i _ => 100 - (intOf i).toNat)
    case atStart => exact ⟨0, by omega, by omega, rfl, rfl, hb⟩
    case round =>
      clear hb
      obtain ⟨k, hk, hk100, rfl, rfl, hbel⟩ := hrel
      have hsz : (bs (vcat (nats zs k))).size ≤ 1000 := by
        rw [bs_size]
        have := vcat_len (nats zs k) (nats_lt zs k fun j hj => HZ.out j (by omega))
        rw [nats_len] at this; omega
      by_cases hlt : k < len
      · by_cases h100 : k < 100
        · obtain ⟨⟨b, off, rfl, hcell, hbl⟩, hz⟩ := isrow_at HR.out hlt
          obtain ⟨hz, hzz⟩ := hz
          have hc : wr.cell? ⟨b, off + k, none⟩ = some (.int .u64 (natAt zs k)) := by rw [hbel.cell hbl]; exact hcell
          have HS : Hid (_ = _) := vcat_nats zs k
          have hvs : (bs (varN (natAt zs k))).size ≤ 10 := by rw [bs_size]; exact varN_len64 hzz
          have h100' : (k : Int) < 100 := by omega
          have hlt' : (k : Int) < (len : Int) := by omega
          clear hcell
          generalize natAt zs k = z at *
          go_wp2_with fail
          refine (var_nat _ _ hzz).mono ?_
          rintro e w7 ⟨rfl, hb7⟩
          have hbel2 := hbel.trans (hb7.mono hbel.size)
          clear hb7 hbel
          go_wp2
          go_roundw
          case rel => exact ⟨k + 1, by omega, by omega, by go_num, by rw [HS.out, ← bs_append], hbel2⟩
          case measure => simp [intOf]; omega
        · have h100' : decide ((k : Int) < 100) = false := by simp; omega
          have hlt' : (k : Int) < (len : Int) := by omega
          have HV : Hid (vcat (nats zs k) = vcat (natsFrom zs 0 k)) := by unfold Hid; rw [natsFrom_zero]
          rw [HV.out]
          clear HV hsz
          go_wp2
          go_loopw [9, 11] (fun s i wr => ∃ j : Nat, j ≤ k ∧ i = .int .i64 j ∧ s = .string (bs (vcat (natsFrom zs j k))) ∧ Below w.heap.size w wr) (fun _ i _ => 100 - (intOf i).toNat)
          case atStart => exact ⟨0, by omega, rfl, rfl, hbel⟩
          case round =>
            clear hbel
            obtain ⟨j, hj, rfl, rfl, hbel⟩ := hrel
            by_cases hjk : j < k
            · obtain ⟨⟨b, off, rfl, hcell, hbl⟩, _, hzz⟩ := isrow_at HR.out (show j < len by omega)
              have hc : wr.cell? ⟨b, off + j, none⟩ = some (.int .u64 (natAt zs j)) := by rw [hbel.cell hbl]; exact hcell
              have hvc : (vcat (natsFrom zs (j + 1) k)).length ≤ 1000 := by
                have := vcat_len (natsFrom zs (j + 1) k) (natsFrom_lt zs (j + 1) k fun i hi => HZ.out i (by omega))
                rw [natsFrom_len] at this; omega
              have h100' : (j : Int) < 100 := by omega
              have hlt' : (j : Int) < (len : Int) := by omega
              rw [natsFrom_cons zs j k hjk, vcat_cons]
              clear hcell
              generalize natAt zs j = z at *
              generalize hRe : vcat (natsFrom zs (j + 1) k) = R at *
              have HRe : Hid (_ = _) := hRe
              clear hRe
              have hp := varN_pos z
              have hl := varN_len64 hzz
              have hS : (bs (varN z ++ R)).size = (varN z).length + R.length := by rw [bs_size, List.length_append]
              have HD : Hid (_ = _) := bs_drop (varN z) R
              go_wp2_with fail
              refine (unvar_join _ _ _ hzz hvc).mono ?_
              rintro e w8 ⟨rfl, rfl⟩
              have hS1 : (varN z).length ≤ (bs (varN z ++ R)).size := by omega
              have hS2 : (bs (varN z ++ R)).size ≤ 1010 := by omega
              clear hS
              go_wp2
              go_roundw
              case rel => exact ⟨j + 1, by omega, by go_num, by rw [HRe.out, ← HD.out], hbel⟩
              case measure => simp [intOf]; omega
            · obtain rfl : j = k := by omega
              rw [natsFrom_end, vcat_nil]
              go_wp2_with fail
              refine (awake_any _).mono ?_
              rintro e w9 ⟨rfl, hb9⟩
              have hE : ((bs []).toList == []) = true := by decide +kernel
              have hbel2 := hbel.trans (hb9.mono hbel.size)
              go_wp2
              go_ret
              exact ⟨rfl, hbel2⟩
      · have hlt' : decide ((k : Int) < (len : Int)) = false := by simp; omega
        have HV : Hid (vcat (nats zs k) = vcat (natsFrom zs 0 k)) := by unfold Hid; rw [natsFrom_zero]
        rw [HV.out]
        clear HV hsz
        go_wp2
        go_loopw [9, 11] (fun s i wr => ∃ j : Nat, j ≤ k ∧ i = .int .i64 j ∧ s = .string (bs (vcat (natsFrom zs j k))) ∧ Below w.heap.size w wr) (fun _ i _ => 100 - (intOf i).toNat)
        case atStart => exact ⟨0, by omega, rfl, rfl, hbel⟩
        case round =>
          clear hbel
          obtain ⟨j, hj, rfl, rfl, hbel⟩ := hrel
          by_cases hjk : j < k
          · obtain ⟨⟨b, off, rfl, hcell, hbl⟩, _, hzz⟩ := isrow_at HR.out (show j < len by omega)
            have hc : wr.cell? ⟨b, off + j, none⟩ = some (.int .u64 (natAt zs j)) := by rw [hbel.cell hbl]; exact hcell
            have hvc : (vcat (natsFrom zs (j + 1) k)).length ≤ 1000 := by
              have := vcat_len (natsFrom zs (j + 1) k) (natsFrom_lt zs (j + 1) k fun i hi => HZ.out i (by omega))
              rw [natsFrom_len] at this; omega
            have h100' : (j : Int) < 100 := by omega
            have hlt' : (j : Int) < (len : Int) := by omega
            rw [natsFrom_cons zs j k hjk, vcat_cons]
            clear hcell
            generalize natAt zs j = z at *
            generalize hRe : vcat (natsFrom zs (j + 1) k) = R at *
            have HRe : Hid (_ = _) := hRe
            clear hRe
            have hp := varN_pos z
            have hl := varN_len64 hzz
            have hS : (bs (varN z ++ R)).size = (varN z).length + R.length := by rw [bs_size, List.length_append]
            have HD : Hid (_ = _) := bs_drop (varN z) R
            go_wp2_with fail
            refine (unvar_join _ _ _ hzz hvc).mono ?_
            rintro e w8 ⟨rfl, rfl⟩
            have hS1 : (varN z).length ≤ (bs (varN z ++ R)).size := by omega
            have hS2 : (bs (varN z ++ R)).size ≤ 1010 := by omega
            clear hS
            go_wp2
            go_roundw
            case rel => exact ⟨j + 1, by omega, by go_num, by rw [HRe.out, ← HD.out], hbel⟩
            case measure => simp [intOf]; omega
          · obtain rfl : j = k := by omega
            rw [natsFrom_end, vcat_nil]
            go_wp2_with fail
            refine (awake_any _).mono ?_
            rintro e w9 ⟨rfl, hb9⟩
            have hE : ((bs []).toList == []) = true := by decide +kernel
            have hbel2 := hbel.trans (hb9.mono hbel.size)
            go_wp2
            go_ret
            exact ⟨rfl, hbel2⟩
end Go.Proofs.Ytkphgjaklkfcfaa
