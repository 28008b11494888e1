/- Contracts of deflate.flag, storedBlock and Stored. -/
import Derived.Test.YtibnkpfginffhaaBld
import Derived.Test.YtibnkpfginffhaaPutA
import Derived.Test.YtibnkpfginffhaaBsM
namespace Go.Proofs.Ytibnkpfginffhaa
open Go.RowKit
set_option linter.unusedVariables false

def flagN (last : Bool) : Nat := if last then 1 else 0
/-- A stored block's bytes. -/
def sblk (l : List UInt8) (last : Bool) : List UInt8 := (flagN last :: (putN l.length 2 ++ putN (65535 - l.length) 2)).map UInt8.ofNat ++ l
def stoG : Nat → List UInt8 → List UInt8
  | 0, l => sblk l true
  | k + 1, l => if 65535 < l.length then sblk (l.take 65535) false ++ stoG k (l.drop 65535) else sblk l true
/-- A stream of stored blocks. -/
def stoF (l : List UInt8) : List UInt8 := stoG l.length l
theorem stoG_enough : ∀ (k m : Nat) (l : List UInt8), l.length ≤ k → l.length ≤ m → stoG k l = stoG m l
  | 0, 0, l, _, _ => rfl
  | 0, m + 1, l, h, _ => by rw [stoG, stoG, if_neg (by omega)]
  | k + 1, 0, l, _, h => by rw [stoG, stoG, if_neg (by omega)]
  | k + 1, m + 1, l, h1, h2 => by
    rw [stoG, stoG]
    split
    · rw [stoG_enough k m _ (by rw [List.length_drop]; omega) (by rw [List.length_drop]; omega)]
    · rfl
theorem stoF_more {l : List UInt8} (h : 65535 < l.length) : stoF l = sblk (l.take 65535) false ++ stoF (l.drop 65535) := by
  unfold stoF
  obtain ⟨k, hk⟩ : ∃ k, l.length = k + 1 := ⟨l.length - 1, by omega⟩
  rw [hk, stoG, if_pos h, stoG_enough k (l.drop 65535).length _ (by rw [List.length_drop]; omega) (Nat.le_refl _)]
theorem stoF_last {l : List UInt8} (h : ¬ 65535 < l.length) : stoF l = sblk l true := by
  unfold stoF
  cases hk : l.length with
  | zero => rfl
  | succ k => rw [stoG, if_neg h]
theorem putN_not (n : Nat) (h : n ≤ 65535) : putN (18446744073709551615 - n) 2 = putN (65535 - n) 2 := by
  unfold putN
  simp only [List.range_succ, List.range_zero, List.nil_append, List.map_cons, List.map_nil, List.cons_append]
  congr 1
  · omega
  · congr 1
    simp
    omega
theorem flag_any (last : Bool) (w : World) : Calls Try.prog 69 #[.bool last] w fun e w' => e = .returned (.int .u64 (flagN last : Int)) ∧ w' = w := by
  go_enter Try.func69, Try.ntmps69
  cases last
  · go_wp2
    go_ret
    exact ⟨rfl, rfl⟩
  · go_wp2
    go_ret
    exact ⟨rfl, rfl⟩
theorem not64 (n : Nat) (h : n ≤ 65535) : bits BinOp.xor IntKind.u64 IntKind.u64.max (n : Int) = ((18446744073709551615 - n : Nat) : Int) := by
  have e : IntKind.u64.max = ((18446744073709551615 : Nat) : Int) := by decide
  rw [e, u64_xor_nat _ _ (by decide) (by omega)]
  congr 1
  apply Nat.eq_of_testBit_eq
  intro i
  rw [Nat.testBit_xor, show 18446744073709551615 - n = 2 ^ 64 - (n + 1) by omega, Nat.testBit_two_pow_sub_succ (by omega), show 18446744073709551615 = 2 ^ 64 - 1 by decide, Nat.testBit_two_pow_sub_one]
  by_cases hi : i < 64
  · simp [hi]
  · rw [Nat.testBit_lt_two_pow (Nat.lt_of_lt_of_le (show n < 2 ^ 64 by omega) (Nat.pow_le_pow_right (by decide) (by omega)))]; simp [hi]
theorem app_data (a b : ByteArray) : (a ++ b).data.toList = a.data.toList ++ b.data.toList := by simp [ByteArray.data_append]
set_option maxHeartbeats 1000000 in
set_option maxRecDepth 100000 in
theorem sblock_any (s : ByteArray) (last : Bool) (w : World) (hs : s.size ≤ 65535) : Calls Try.prog 45 #[.string s, .bool last] w fun e w' => (∃ r, e = .returned (.string r) ∧ r.data.toList = sblk s.data.toList last) ∧ Below w.heap.size w w' := by
  go_enter Try.func45, Try.ntmps45
  have hfl : flagN last ≤ 1 := by unfold flagN; split <;> omega
  go_wp2_with fail
  refine (flag_any last _).mono ?_
  rintro e w0 ⟨rfl, hw0⟩
  obtain rfl : w = w0 := hw0.symm
  clear hw0
  have HDA : Hid (((bs (putN (flagN last) 1) ++ bs (putN s.size 2)) ++ bs (putN (18446744073709551615 - s.size) 2) ++ s).data.toList = sblk s.data.toList last) := by
    have e1 : putN (flagN last) 1 = [flagN last] := by
      cases last <;> rfl
    unfold Hid
    rw [app_data, app_data, app_data, bs_data2, bs_data2, bs_data2, putN_not _ hs, e1]
    unfold sblk
    rw [size_toList]
    simp
  have hn64 := not64 s.size hs
  generalize flagN last = F at *
  go_wp2_with fail
  refine (put_any (F : Int) 1 _ (by omega) (by omega) (by decide)).mono ?_
  rintro e w1 ⟨rfl, hb1⟩
  have hz1 : (bs (putN F 1)).size = 1 := by rw [bs_size2, putN_len]
  go_wp2_with fail
  refine (put_any (s.size : Int) 2 _ (by omega) (by omega) (by decide)).mono ?_
  rintro e w2 ⟨rfl, hb2⟩
  have hz2 : (bs (putN s.size 2)).size = 2 := by rw [bs_size2, putN_len]
  have hz3 : (bs (putN (18446744073709551615 - s.size) 2)).size = 2 := by rw [bs_size2, putN_len]
  have HP3 : Hid (Calls _ _ _ _ _) := put_any ((18446744073709551615 - s.size : Nat) : Int) 2 w2 (by omega) (by omega) (by decide)
  simp only [Int.toNat_natCast, show (2 : Int).toNat = 2 from rfl] at HP3 ⊢
  generalize putN F 1 = A1 at *
  generalize putN s.size 2 = A2 at *
  generalize 18446744073709551615 - s.size = N64 at *
  generalize putN N64 2 = A3 at *
  go_wp2_with fail
  refine (Hid.out HP3 : Calls _ _ _ _ _).mono ?_
  rintro e w3 ⟨rfl, hb3⟩
  have HBB : Hid (Below w.heap.size w w3) := (hb1.trans (hb2.mono hb1.size)).trans (hb3.mono (Nat.le_trans hb1.size hb2.size))
  clear hb1 hb2 hb3 HP3
  go_wp2
  go_ret
  exact ⟨⟨_, rfl, HDA.out⟩, HBB.out⟩
set_option maxHeartbeats 1000000 in
set_option maxRecDepth 100000 in
theorem stored7_any (s0 : ByteArray) (w : World) (hs : s0.size ≤ 10000000) : Calls Try.prog 25 #[.string s0] w fun e w' => (∃ r, e = .returned (.string r) ∧ r.data.toList = stoF s0.data.toList) ∧ Below w.heap.size w w' := by
  have HB0 : Hid (Below w.heap.size w (w.alloc (.cells #[.pointer none, .slice none 0 0] 105))) := (Below.refl _ w).alloc (Nat.le_refl _) _
  have HL0 : Hid (BL w.heap.size w.heap.size [] (w.alloc (.cells #[.pointer none, .slice none 0 0] 105))) := bnew w
  go_enter Try.func25, Try.ntmps25
  go_wp2
  generalize World.alloc w _ = W0 at *
  go_loopw [0] (fun v wr => ∃ (s : ByteArray) (acc : List UInt8), v = .string s ∧ s.size ≤ s0.size ∧ acc.length ≤ 10 * (s0.size - s.size) ∧ acc ++ stoF s.data.toList = stoF s0.data.toList ∧ BL w.heap.size w.heap.size acc wr ∧ Below w.heap.size w wr) (fun v _ => match v with | .string s => s.size | _ => 0)
  case atStart => exact ⟨s0, [], rfl, Nat.le_refl _, by simp, rfl, HL0.out, HB0.out⟩
  case round =>
    clear HL0 HB0
    obtain ⟨s, acc, rfl, h1, h2, h3, hL, hB⟩ := hrel
    have hsz := hB.size
    by_cases hbig : 65535 < s.size
    · have hbi : (65535 : Int) < (s.size : Int) := by omega
      have hse : (s.extract 0 65535).size = 65535 := by simp; omega
      have hsr : (s.extract 65535 s.size).size = s.size - 65535 := by simp
      have HD1 : Hid ((s.extract 0 65535).data.toList = s.data.toList.take 65535) := by unfold Hid; rw [extract_data]; rfl
      have HD2 : Hid ((s.extract 65535 s.size).data.toList = s.data.toList.drop 65535) := by
        unfold Hid
        rw [extract_data, List.take_of_length_le (by rw [List.length_drop, size_toList]; omega)]
      have HM : Hid (stoF s.data.toList = _) := stoF_more (by rw [size_toList]; exact hbig)
      generalize hE1 : s.extract 0 65535 = S1 at *
      generalize hE2 : s.extract 65535 s.size = S2 at *
      go_wp2_with fail
      refine (sblock_any S1 false _ (by omega)).mono ?_
      rintro e w1 ⟨⟨r1, rfl, hr1⟩, hb1⟩
      have hr2 : r1.size = 65540 := by
        have := congrArg List.length hr1
        rw [HD1.out] at this
        simpa [sblk, putN, hbig, Nat.min_eq_left (Nat.le_of_lt hbig)] using this
      have HL1 : Hid (BL w.heap.size w.heap.size acc w1) := hL.below hb1
      have HB1 : Hid (Below w.heap.size w w1) := hB.trans (hb1.mono hsz)
      have hsz1 : w.heap.size ≤ w1.heap.size := Nat.le_trans hsz hb1.size
      have HR1 : Hid (r1.data.toList = sblk (s.data.toList.take 65535) false) := by unfold Hid; rw [hr1, HD1.out]
      clear hL hB hb1 hr1
      go_wp2_with fail
      refine (bwrite w.heap.size w.heap.size acc r1 w1 HL1.out (by omega) hsz1).mono ?_
      rintro e w2 ⟨⟨r2, rfl⟩, hL2, hb2⟩
      have HL2 : Hid (BL w.heap.size w.heap.size (acc ++ r1.data.toList) w2) := hL2
      have HB2 : Hid (Below w.heap.size w w2) := HB1.out.trans hb2
      have hla : (acc ++ r1.data.toList).length = acc.length + 65540 := by rw [List.length_append, size_toList, hr2]
      have H3 : Hid ((acc ++ r1.data.toList) ++ stoF S2.data.toList = stoF s0.data.toList) := by
        unfold Hid
        rw [HR1.out, HD2.out, List.append_assoc, ← HM.out]; exact h3
      have HLA : Hid _ := hla
      clear hL2 hb2 HL1 HB1 h3 hla HM HR1 HD1 HD2
      go_wp2
      go_roundw
      case rel => exact ⟨S2, _, rfl, by omega, by rw [HLA.out]; omega, H3.out, HL2.out, HB2.out⟩
      case measure => simp; omega
    · have hbi : ¬ (65535 : Int) < (s.size : Int) := by omega
      have HM : Hid (stoF s.data.toList = _) := stoF_last (by rw [size_toList]; exact hbig)
      go_wp2_with fail
      refine (sblock_any s true _ (by omega)).mono ?_
      rintro e w1 ⟨⟨r1, rfl, hr1⟩, hb1⟩
      have hr2 : r1.size = 5 + s.size := by
        have := congrArg List.length hr1
        simp [sblk, putN] at this
        omega
      have HL1 : Hid (BL w.heap.size w.heap.size acc w1) := hL.below hb1
      have HB1 : Hid (Below w.heap.size w w1) := hB.trans (hb1.mono hsz)
      have hsz1 : w.heap.size ≤ w1.heap.size := Nat.le_trans hsz hb1.size
      have H3 : Hid (acc ++ r1.data.toList = stoF s0.data.toList) := by
        unfold Hid
        rw [hr1, ← HM.out]; exact h3
      clear hL hB hb1 hr1 h3 HM
      go_wp2_with fail
      refine (bwrite w.heap.size w.heap.size acc r1 w1 HL1.out (by omega) hsz1).mono ?_
      rintro e w2 ⟨⟨r2, rfl⟩, hL2, hb2⟩
      have HB2 : Hid (Below w.heap.size w w2) := HB1.out.trans hb2
      have hsz2 : w.heap.size ≤ w2.heap.size := HB2.out.size
      clear hb2 HL1 HB1
      go_wp2_with fail
      refine (bstring w.heap.size w.heap.size _ w2 hL2 hsz2).mono ?_
      rintro e w3 ⟨rfl, hb3⟩
      have HB3 : Hid (Below w.heap.size w w3) := HB2.out.trans hb3
      clear hb3 hL2 HB2
      go_wp2
      go_ret
      exact ⟨⟨_, rfl, H3.out⟩, HB3.out⟩
end Go.Proofs.Ytibnkpfginffhaa
