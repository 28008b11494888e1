/- Contracts: wal's Frame, first. -/
import Derived.Test.YtkaikjlklhcnlaaWalM
import Derived.Test.YtkaikjlklhcnlaaCrc
import Derived.Test.YtkaikjlklhcnlaaClone
import Derived.Test.YtkaikjlklhcnlaaStrT
namespace Go.Proofs.Ytkaikjlklhcnlaa
open Go.RowKit
set_option linter.unusedVariables false
set_option linter.unusedSimpArgs false

theorem put4_any (x : Nat) (w : World) (hx : x < 18446744073709551616) :
    Calls Try.prog 33 #[.int .u64 (x : Int), .int .i64 4] w fun e w' => ∃ P, e = .returned (.string P) ∧ Hid (P = mkT (le4 x)) ∧ P.size = 4 ∧ Below w.heap.size w w' := by
  refine (put_any (x : Int) 4 w (by omega) (by omega) (by decide)).mono ?_
  rintro e w1 ⟨rfl, hb1⟩
  have he : bs (putN (x : Int).toNat (4 : Int).toNat) = mkT (le4 x) := by
    apply ba_ext
    rw [bs_data2, mkT_dl, Int.toNat_natCast]
    rfl
  exact ⟨_, rfl, he, by rw [he, mkT_sz, le4_len], hb1⟩
theorem crcL_any (s : List UInt8) (w : World) (hs : s.length ≤ 1099511627776) :
    Calls Try.prog 34 #[.string (mkT s)] w fun e w' => ∃ c : Nat, e = .returned (.int .u32 (c : Int)) ∧ Hid (c = crcV 0 s) ∧ c < 4294967296 ∧ Below w.heap.size w w' := by
  refine (crc32_any (mkT s) w (by rw [mkT_sz]; omega)).mono ?_
  rintro e w1 ⟨rfl, hb1⟩
  exact ⟨crcV 0 (mkT s).data.toList, rfl, by unfold Hid; rw [mkT_dl], crcV_lt _ _, hb1⟩
set_option maxRecDepth 100000 in
set_option maxHeartbeats 1000000 in
theorem frame_any (s : List UInt8) (w : World) (hs : s.length ≤ 1099511627776) :
    Calls Try.prog 14 #[.string (mkT s)] w fun e w' => e = .returned (.string (mkT (frm s))) ∧ Below w.heap.size w w' := by
  have hsz := mkT_sz s
  obtain ⟨n, hn⟩ : ∃ n, n = s.length := ⟨_, rfl⟩
  rw [← hn] at hsz hs
  have HN : Hid (n = s.length) := hn
  clear hn
  have HCR := fun W => crcL_any s W (by rw [← HN.out]; exact hs)
  have HC : Hid (∀ W, Calls Try.prog _ _ W _) := HCR
  clear HCR
  obtain ⟨T, hT⟩ : ∃ T, T = mkT s := ⟨_, rfl⟩
  have HT : Hid (T = mkT s) := hT
  rw [← hT] at hsz
  rw [← hT]
  clear hT
  go_enter Try.func14, Try.ntmps14
  go_wp2_with fail
  refine (put4_any n _ ?_).mono ?_
  · omega
  rintro e w1 ⟨P, rfl, HP, hPs, hb1⟩
  have HB1 : Hid (Below w.heap.size w w1) := hb1
  clear hb1
  go_wp2_with fail
  have HC1 := HC.out w1
  rw [← HT.out] at HC1
  refine HC1.mono ?_
  clear HC1
  rintro e w2 ⟨c, rfl, HCV, hc, hb2⟩
  have HB2 : Hid (Below w.heap.size w w2) := HB1.out.trans (hb2.mono HB1.out.size)
  clear hb2
  have hci : ((c : Nat) : Int) < 4294967296 := by omega
  go_wp2_with fail
  refine (put4_any c _ ?_).mono ?_
  · omega
  rintro e w3 ⟨Q, rfl, HQ, hQs, hb3⟩
  have HB3 : Hid (Below w.heap.size w w3) := HB2.out.trans (hb3.mono HB2.out.size)
  clear hb3
  have hPT : (P ++ T).size = 4 + n := by simp [ByteArray.size_append, hPs, hsz]
  go_wp2
  go_ret
  refine ⟨?_, HB3.out⟩
  rw [HP.out, HQ.out, HT.out, mkT_append, mkT_append, HCV.out, HN.out, List.append_assoc]
  rfl
end Go.Proofs.Ytkaikjlklhcnlaa
