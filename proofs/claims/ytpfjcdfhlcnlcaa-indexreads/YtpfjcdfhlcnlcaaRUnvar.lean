/- Contract of the document's Unvar: by trying each length. -/
import Derived.Test.YtpfjcdfhlcnlcaaRVar
import Derived.Test.YtpfjcdfhlcnlcaaUnvar
import Derived.Test.YtpfjcdfhlcnlcaaFew
import Derived.Deep.RegionWith
namespace Go.Proofs.Ytpfjcdfhlcnlcaa
open Go.RowKit
set_option linter.unusedVariables false

theorem rsum_step (s : ByteArray) (k : Nat) (h : k < s.size) :
    IntKind.u64.wrap (((sumG (s.data.toList.take k) % 18446744073709551616 : Nat) : Int) + IntKind.u64.wrap ((s[k].toNat : Int) % 128 * ((128 ^ k % 18446744073709551616 : Nat) : Int))) = ((sumG (s.data.toList.take (k + 1)) % 18446744073709551616 : Nat) : Int) := by
  have hl : (s.data.toList.take k).length = k := by rw [List.length_take, size_toList]; omega
  rw [take_snoc s k h, sumG_snoc, hl]
  have e1 : ((s[k].toNat : Int) % 128 * ((128 ^ k % 18446744073709551616 : Nat) : Int)) = ((s[k].toNat % 128 * (128 ^ k % 18446744073709551616) : Nat) : Int) := by simp
  rw [e1, wrap64_of, Nat.mul_mod_mod]
  have e2 : (((sumG (s.data.toList.take k) % 18446744073709551616 : Nat) : Int) + ((s[k].toNat % 128 * 128 ^ k % 18446744073709551616 : Nat) : Int)) = ((sumG (s.data.toList.take k) % 18446744073709551616 + s[k].toNat % 128 * 128 ^ k % 18446744073709551616 : Nat) : Int) := by simp
  rw [e2, wrap64_of, ← Nat.add_mod]
theorem runit128_step (k : Nat) : IntKind.u64.wrap (((128 ^ k % 18446744073709551616 : Nat) : Int) * 128) = ((128 ^ (k + 1) % 18446744073709551616 : Nat) : Int) := by
  have e : (((128 ^ k % 18446744073709551616 : Nat) : Int) * 128) = ((128 ^ k % 18446744073709551616 * 128 : Nat) : Int) := by simp
  rw [e, wrap64_of, Nat.pow_succ, Nat.mod_mul_mod]

theorem rvar_nat (x : Nat) (w : World) (h1 : x < 18446744073709551616) :
    Calls Try.prog 27 #[.int .u64 x] w fun e w' => e = .returned (.string (bs (varN x))) ∧ Below w.heap.size w w' := rvar_any x w (by omega) (by omega)
theorem below_drew {B : Nat} {w wr w1 : World} (h : Below B w wr) (k : Below wr.drew.heap.size wr.drew w1) (hB : B ≤ wr.heap.size) : Below B w w1 := h.drew.trans (k.mono hB)
theorem bs_data (l : List Nat) : (bs l).data.toList = l.map UInt8.ofNat := by simp [bs, strOfNums]
theorem eq_test (G : Nat) (s : ByteArray) (k : Nat) : ((bs (varN G)).toList == (s.extract 0 k).toList) = decide (varB G = s.data.toList.take k) := by
  rw [ByteArray.toList_eq, ByteArray.toList_eq, bs_data, few_data]
  by_cases h : varB G = s.data.toList.take k
  · unfold varB at h; rw [h]; simp [varB, h]
  · unfold varB at h; simp [varB, h]

set_option maxRecDepth 100000 in
set_option maxHeartbeats 1000000 in
theorem runvar_any (s : ByteArray) (w : World) (hs : s.size ≤ 9223372036854775806) :
    Calls Try.prog 41 #[.string s] w fun e w' => e = .returned (.tuple #[.int .u64 (uv s.data.toList 0 0).1, .int .i64 (uv s.data.toList 0 0).2]) ∧ Below w.heap.size w w' := by
  go_enter Try.func41, Try.ntmps41
  go_wp2
  go_loopw [4] (fun v wr => ∃ n : Nat, 1 ≤ n ∧ n ≤ 11 ∧ n ≤ s.size + 1 ∧ v = .int .i64 n ∧ (∀ m, 1 ≤ m → m < n → varB (sumG (s.data.toList.take m) % 18446744073709551616) ≠ s.data.toList.take m) ∧ Below w.heap.size w wr)
    (fun v _ => 11 - (intOf v).toNat)
  case atStart => exact ⟨1, by omega, by omega, by omega, rfl, fun m h1 h2 => by omega, Below.refl _ _⟩
  case round =>
    obtain ⟨n, h1, h11, hns, rfl, hno, hbel⟩ := hrel
    have HNO : Hid _ := hno
    clear hno
    by_cases h10 : n ≤ 10
    · by_cases hsz : n ≤ s.size
      · have h10' : (n : Int) ≤ 10 := by omega
        have hsz' : (n : Int) ≤ (s.size : Int) := by omega
        go_wp2
        go_loop [5, 6, 7] (fun x u i => ∃ k : Nat, k ≤ n ∧ i = .int .i64 k ∧ x = .int .u64 (sumG (s.data.toList.take k) % 18446744073709551616 : Nat) ∧ u = .int .u64 (128 ^ k % 18446744073709551616 : Nat)) (fun _ _ i => n - (intOf i).toNat)
        case atStart => exact ⟨0, by omega, rfl, rfl, rfl⟩
        case round =>
          obtain ⟨k, hk, rfl, rfl, rfl⟩ := hrel
          by_cases hlt : k < n
          · have hks : k < s.size := by omega
            have H1 : Hid (_ = _) := rsum_step s k hks
            have H2 : Hid (_ = _) := runit128_step k
            have hb : s[k].toNat < 256 := s[k].toNat_lt
            generalize 128 ^ k % 18446744073709551616 = U at *
            generalize sumG (s.data.toList.take k) % 18446744073709551616 = G at *
            go_wp2
            go_round
            case rel => exact ⟨k + 1, by omega, by go_num, by rw [← H1.out], by rw [← H2.out]⟩
            case measure => simp [intOf]; omega
          · have hkn : k = n := by omega
            subst hkn
            have hl : sumG (s.data.toList.take k) % 18446744073709551616 < 18446744073709551616 := Nat.mod_lt _ (by decide)
            generalize hU : 128 ^ k % 18446744073709551616 = U at *
            generalize hG : sumG (s.data.toList.take k) % 18446744073709551616 = G at *
            have HG : Hid _ := hG
            clear hG hU
            by_cases heq : varB G = s.data.toList.take k
            · have ht := (eq_test G s k).trans (decide_eq_true heq)
              have HH : Hid (_ = _) := heq
              clear heq
              go_wp2
              go_region_with (go_at_call 27; refine (rvar_nat _ _ hl).mono ?_; rintro e w1 ⟨rfl, hb1⟩)
              have hb2 := below_drew hbel hb1 hbel.size
              clear hb1 hbel
              go_wp2
              go_ret2
              refine ⟨?_, hb2⟩
              rw [try_hit s.data.toList k (by rw [HG.out]; exact HH.out) (by rw [size_toList]; exact hsz), HG.out]
              rfl
            · have ht := (eq_test G s k).trans (decide_eq_false heq)
              have hno2 : Hid (∀ m, 1 ≤ m → m < k + 1 → varB (sumG (s.data.toList.take m) % 18446744073709551616) ≠ s.data.toList.take m) := by
                intro m a b
                by_cases hm : m < k
                · exact HNO.out m a hm
                · obtain rfl : m = k := by omega
                  rw [HG.out]; exact heq
              clear heq HNO HG
              go_wp2
              go_region_with (go_at_call 27; refine (rvar_nat _ _ hl).mono ?_; rintro e w1 ⟨rfl, hb1⟩)
              have hb2 := below_drew hbel hb1 hbel.size
              clear hb1 hbel
              go_wp2
              go_roundw
              case rel => exact ⟨k + 1, by omega, by omega, by omega, by go_num, hno2.out, hb2⟩
              case measure => simp [intOf]; omega
      · have hd : decide ((n : Int) ≤ (s.size : Int)) = false := by simp; omega
        have h10' : (n : Int) ≤ 10 := by omega
        have HU : Hid (_ = _) := try_none s.data.toList fun m a b c => HNO.out m a (by rw [size_toList] at c; omega)
        clear HNO
        go_wp2
        go_ret2
        refine ⟨?_, hbel⟩
        rw [HU.out]; rfl
    · have hd : decide ((n : Int) ≤ 10) = false := by simp; omega
      have HU : Hid (_ = _) := try_none s.data.toList fun m a b c => HNO.out m a (by omega)
      clear HNO
      go_wp2
      go_ret2
      refine ⟨?_, hbel⟩
      rw [HU.out]; rfl
end Go.Proofs.Ytpfjcdfhlcnlcaa
