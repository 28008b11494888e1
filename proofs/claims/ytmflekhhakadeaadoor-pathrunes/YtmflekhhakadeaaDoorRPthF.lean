/- The document's Count, Cut, Write and Fold. -/
import Derived.Test.YtmflekhhakadeaaDoorRPthN
import Derived.Test.YtmflekhhakadeaaDoorPthF
namespace Go.Proofs.YtmflekhhakadeaaDoor
open Go.RowKit
set_option linter.unusedVariables false
set_option linter.unusedSimpArgs false

set_option maxHeartbeats 1000000 in
set_option maxRecDepth 100000 in
theorem rcount_any (l : List UInt8) (w : World) (hs : l.length ≤ 1000000) :
    Calls Tryd.prog 24 #[.string ⟨l.toArray⟩] w fun e w' => e = .returned (.int .i64 (countL l : Int)) ∧ w' = w := by
  have hcl := countL_le _ l (Nat.le_refl _)
  go_enter Tryd.func24, Tryd.ntmps24
  go_wp2
  go_loop [0, 3] (fun v k => ∃ (m : List UInt8) (n : Nat), v = .string ⟨m.toArray⟩ ∧ k = .int .i64 (n : Int) ∧ m.length ≤ 1000000 ∧ n + countL m = countL l) (fun v _ => match v with | .string s => s.size | _ => 0)
  case atStart => exact ⟨l, 0, rfl, rfl, hs, by omega⟩
  case round =>
    obtain ⟨m, n, rfl, rfl, hm, hk⟩ := hrel
    have hsz : (ByteArray.mk m.toArray).size = m.length := List.size_toArray
    by_cases hne : m = []
    · have HE : Hid (n = countL l) := by unfold Hid; rw [← hk, hne, countL_nil]; rfl
      subst hne
      clear hk
      go_wp2
      go_ret
      rw [← HE.out]
      exact ⟨rfl, rfl⟩
    · have he : m.isEmpty = false := by simpa using hne
      have he2 : (m == []) = false := by simpa using hne
      have hw := rn_width m hne
      have HK : Hid (n + 1 + countL (m.drop (rn m).2) = countL l) := by unfold Hid; rw [← hk, countL_cons hne]; omega
      have hn9 : n ≤ 1000000 := by omega
      clear hk
      have hext := ext_drop m (rn m).2
      have HD := drop_less m hne
      have HR : Hid (Calls _ _ _ _ _) := runeL_any m w hne hm
      unfold Hid at HR
      have hdl : (m.drop (rn m).2).length ≤ 1000000 := by omega
      have hwi : ((rn m).2 : Int) ≤ (m.length : Int) := by omega
      go_wp2_with fail
      refine (HR : Calls _ _ _ _ _).mono ?_
      rintro e w1 ⟨rfl, rfl⟩
      clear HR
      generalize rnZ (rn m) = Z at *
      generalize (rn m).2 = D at *
      go_wp2
      go_round
      case rel => exact ⟨m.drop D, n + 1, rfl, by go_num, hdl, HK.out⟩
      case measure => show (m.drop D).toArray.size < m.toArray.size; rw [List.size_toArray, List.size_toArray]; exact HD
set_option maxHeartbeats 1000000 in
set_option maxRecDepth 100000 in
theorem rcut_any (l : List UInt8) (n : Int) (w : World) (hs : l.length ≤ 1000000) (hn0 : -9223372036854775808 ≤ n) (hn1 : n ≤ 9223372036854775807) :
    Calls Tryd.prog 26 #[.string ⟨l.toArray⟩, .int .i64 n] w fun e w' => e = .returned (.string ⟨(cutL (natN n) l).toArray⟩) ∧ w' = w := by
  have hsz : (ByteArray.mk l.toArray).size = l.length := List.size_toArray
  go_enter Tryd.func26, Tryd.ntmps26
  go_wp2
  go_loop [5, 6] (fun a k => ∃ (p j : Nat), a = .int .i64 (p : Int) ∧ k = .int .i64 (j : Int) ∧ p ≤ l.length ∧ j ≤ p ∧ l.take p ++ cutL (natN n - j) (l.drop p) = cutL (natN n) l) (fun a _ => l.length - (intOf a).toNat)
  case atStart => exact ⟨0, 0, rfl, rfl, Nat.zero_le _, Nat.le_refl _, by simp⟩
  case round =>
    obtain ⟨p, j, rfl, rfl, hp, hj, hk⟩ := hrel
    by_cases hjn : (j : Int) < n
    · by_cases hpl : p < l.length
      · have hne : l.drop p ≠ [] := fun e => by have := congrArg List.length e; rw [List.length_drop] at this; simp at this; omega
        have hw := rn_width _ hne
        rw [List.length_drop] at hw
        have HK : Hid (l.take (p + (rn (l.drop p)).2) ++ cutL (natN n - (j + 1)) (l.drop (p + (rn (l.drop p)).2)) = cutL (natN n) l) := by
          unfold Hid
          rw [← hk, show natN n - j = (natN n - (j + 1)) + 1 by unfold natN; omega, cutL_cons _ hne, List.drop_drop, ← List.append_assoc, take_add_drop]
        clear hk
        have hpi : (p : Int) < (l.length : Int) := by omega
        have hext := ext_drop l p
        have HR : Hid (Calls _ _ _ _ _) := runeL_any (l.drop p) w hne (by rw [List.length_drop]; omega)
        unfold Hid at HR
        have hj9 : j ≤ 1000000 := by omega
        go_wp2_with fail
        refine (HR : Calls _ _ _ _ _).mono ?_
        rintro e w1 ⟨rfl, rfl⟩
        clear HR
        generalize rnZ (rn (l.drop p)) = Z at *
        generalize (rn (l.drop p)).2 = D at *
        go_wp2
        go_round
        case rel => exact ⟨p + D, j + 1, by go_num, by go_num, by omega, by omega, HK.out⟩
        case measure => simp [intOf]; omega
      · have HE : Hid ((ByteArray.mk l.toArray).extract 0 p = ⟨(cutL (natN n) l).toArray⟩) := by
          unfold Hid
          rw [← hk, List.drop_of_length_le (by omega), cutL_nil, List.append_nil, ext_mk]
          simp
        clear hk
        have hpi : ¬ (p : Int) < (l.length : Int) := by omega
        obtain rfl : p = l.length := by omega
        have he9 : (ByteArray.mk l.toArray).extract 0 l.length = ⟨l.toArray⟩ := by rw [ext_mk]; simp
        go_wp2
        go_ret
        rw [← HE.out, he9]
        exact ⟨rfl, rfl⟩
    · have HE : Hid ((ByteArray.mk l.toArray).extract 0 p = ⟨(cutL (natN n) l).toArray⟩) := by
        unfold Hid
        rw [← hk, show natN n - j = 0 by unfold natN; omega, cutL, List.append_nil, ext_mk]
        simp
      clear hk
      have hpi : (p : Int) ≤ (l.length : Int) := by omega
      go_wp2
      go_ret
      first | (rw [← HE.out]; exact ⟨rfl, rfl⟩) | exact ⟨HE.out ▸ rfl, rfl⟩
theorem bs_mk (l : List Nat) : bs l = ⟨(l.map UInt8.ofNat).toArray⟩ := by
  unfold bs strOfNums
  congr 1
  apply Array.toList_inj.1
  simp
theorem conv_w1 (a : Nat) (W : World) : (convert 39 9 (.slice (some ⟨W.heap.size, 0, none⟩) 1 1)).run Tryd.prog (W.alloc (.cells #[.int .u8 (a : Int)] 5)) = .ok (.string ⟨#[UInt8.ofNat a]⟩) (W.alloc (.cells #[.int .u8 (a : Int)] 5)) := by
  have h : (W.alloc (.cells #[.int .u8 (a : Int)] 5)).ownsRow W.heap.size 5 1 (.slice (some ⟨W.heap.size, 0, none⟩) 1 1) 1 (cs [a]) := World.ownsRow_lit W #[.int .u8 (a : Int)] 1 (Nat.le_refl _) (by decide) rfl
  have := conv_bs Tryd.underlying39 Tryd.underlying5 Tryd.underlying9 h
  rw [bs_mk] at this
  exact this
theorem conv_w2 (a b : Nat) (W : World) : (convert 39 9 (.slice (some ⟨W.heap.size, 0, none⟩) 2 2)).run Tryd.prog (W.alloc (.cells #[.int .u8 (a : Int), .int .u8 (b : Int)] 5)) = .ok (.string ⟨#[UInt8.ofNat a, UInt8.ofNat b]⟩) (W.alloc (.cells #[.int .u8 (a : Int), .int .u8 (b : Int)] 5)) := by
  have h : (W.alloc (.cells #[.int .u8 (a : Int), .int .u8 (b : Int)] 5)).ownsRow W.heap.size 5 1 (.slice (some ⟨W.heap.size, 0, none⟩) 2 2) 2 (cs [a, b]) := World.ownsRow_lit W #[.int .u8 (a : Int), .int .u8 (b : Int)] 2 (Nat.le_refl _) (by decide) rfl
  have := conv_bs Tryd.underlying39 Tryd.underlying5 Tryd.underlying9 h
  rw [bs_mk] at this
  exact this
set_option maxHeartbeats 1000000 in
set_option maxRecDepth 100000 in
theorem rwrite_any (c : Nat) (w : World) (hc : c < 2048) :
    Calls Tryd.prog 40 #[.int .i64 (c : Int)] w fun e w' => e = .returned (.string ⟨(enc2 c).toArray⟩) ∧ Below w.heap.size w w' := by
  by_cases h : c < 128
  · have hi : (c : Int) < 128 := by omega
    have HE : Hid (enc2 c = [UInt8.ofNat c]) := by unfold Hid enc2; rw [if_pos h]
    have hcv := conv_w1 c w
    go_enter Tryd.func40, Tryd.ntmps40
    go_wp2
    go_ret
    rw [HE.out]
    exact ⟨rfl, (Below.refl _ w).alloc (Nat.le_refl _) _⟩
  · have hi : ¬ (c : Int) < 128 := by omega
    have hj : (c : Int) < 2048 := by omega
    have HE : Hid (enc2 c = [UInt8.ofNat (192 + c / 64), UInt8.ofNat (128 + c % 64)]) := by unfold Hid enc2; rw [if_neg h]
    have hcv := conv_w2 (192 + c / 64) (128 + c % 64) w
    have q1 : (c : Int) / 64 = ((c / 64 : Nat) : Int) := by omega
    have q2 : (c : Int) % 64 = ((c % 64 : Nat) : Int) := by omega
    have q3 : (192 : Int) + ((c / 64 : Nat) : Int) = ((192 + c / 64 : Nat) : Int) := by omega
    have q4 : (128 : Int) + ((c % 64 : Nat) : Int) = ((128 + c % 64 : Nat) : Int) := by omega
    have r1 : 192 + c / 64 < 256 := by omega
    have r2 : 128 + c % 64 < 256 := by omega
    generalize 192 + c / 64 = A1 at *
    generalize 128 + c % 64 = A2 at *
    generalize c / 64 = D1 at *
    generalize c % 64 = D2 at *
    go_enter Tryd.func40, Tryd.ntmps40
    go_wp2
    go_ret
    rw [HE.out]
    exact ⟨rfl, (Below.refl _ w).alloc (Nat.le_refl _) _⟩
theorem ext_take0 (l : List UInt8) (n : Nat) : (ByteArray.mk l.toArray).extract 0 n = ⟨(l.take n).toArray⟩ := by
  rw [ext_mk]
  show ByteArray.mk ((l.drop 0).take (n - 0)).toArray = _
  simp
theorem cat_mkF (a b : List UInt8) : (ByteArray.mk a.toArray) ++ (ByteArray.mk b.toArray) = ⟨(a ++ b).toArray⟩ := cat_mkB a b
theorem enc2_len (r : Nat) : (enc2 r).length ≤ 2 := by unfold enc2; split <;> simp
set_option maxHeartbeats 2000000 in
set_option maxRecDepth 100000 in
theorem rfold_any (l : List UInt8) (w : World) (hs : l.length ≤ 1000000) :
    Calls Tryd.prog 22 #[.string ⟨l.toArray⟩] w fun e w' => e = .returned (.string ⟨(foldL l).toArray⟩) ∧ Below w.heap.size w w' := by
  have hfl := fold_len _ l (Nat.le_refl _)
  go_enter Tryd.func22, Tryd.ntmps22
  go_wp2
  go_loopw [0, 3] (fun v t wr => ∃ (m acc : List UInt8), v = .string ⟨m.toArray⟩ ∧ t = .string ⟨acc.toArray⟩ ∧ m.length ≤ 1000000 ∧ acc ++ foldL m = foldL l ∧ Below w.heap.size w wr) (fun v _ _ => match v with | .string s => s.size | _ => 0)
  case atStart => exact ⟨l, [], rfl, rfl, hs, rfl, Below.refl _ _⟩
  case round =>
    obtain ⟨m, acc, rfl, rfl, hm, hk, hb⟩ := hrel
    have hsz : (ByteArray.mk m.toArray).size = m.length := List.size_toArray
    have hsa : (ByteArray.mk acc.toArray).size = acc.length := List.size_toArray
    have hal : acc.length ≤ 1000000 := by
      have := congrArg List.length hk
      rw [List.length_append, hfl] at this
      omega
    by_cases hne : m = []
    · have HE : Hid (acc = foldL l) := by unfold Hid; rw [← hk, hne, foldL_nil, List.append_nil]
      subst hne
      clear hk
      go_wp2
      go_ret
      rw [← HE.out]
      exact ⟨rfl, hb⟩
    · have he : m.isEmpty = false := by simpa using hne
      have he2 : (m == []) = false := by simpa using hne
      have hw := rn_width m hne
      have HK : Hid (acc ++ fp m ++ foldL (m.drop (rn m).2) = foldL l) := by unfold Hid; rw [← hk, foldL_cons hne, List.append_assoc]
      clear hk
      have hext := ext_drop m (rn m).2
      have hex0 := ext_take0 m (rn m).2
      have hex1 := ext_take0 m 1
      have HD := drop_less m hne
      have HR : Hid (Calls _ _ _ _ _) := runeL_any m wr hne hm
      unfold Hid at HR
      have hdl : (m.drop (rn m).2).length ≤ 1000000 := by omega
      have hwi : ((rn m).2 : Int) ≤ (m.length : Int) := by omega
      have hm1 : (1 : Int) ≤ (m.length : Int) := by omega
      have hct := cat_mkF acc (m.take (rn m).2)
      have hct1 := cat_mkF acc (m.take 1)
      have hl1 : (ByteArray.mk (m.take (rn m).2).toArray).size = (m.take (rn m).2).length := List.size_toArray
      have hl2 : (m.take (rn m).2).length ≤ 1000000 := by rw [List.length_take]; omega
      have hl3 : (m.take 1).length ≤ 1000000 := by rw [List.length_take]; omega
      have hrl := rn_le m
      have HFP : Hid (fp m = if smol (rn m).1 = (rn m).1 then m.take (rn m).2 else enc2 (smol (rn m).1)) := rfl
      go_wp2_with fail
      refine (HR : Calls _ _ _ _ _).mono ?_
      rintro e w1 ⟨rfl, hw1⟩
      obtain rfl := hw1.symm
      clear HR
      by_cases hbk : brk (rn m)
      · have hz : rnZ (rn m) = -1 := by unfold rnZ; rw [if_pos hbk]
        have h1 : (rn m).1 = 65533 := hbk.1
        have h2 : (rn m).2 = 1 := hbk.2
        have HF : Hid (fp m = m.take 1) := by unfold Hid; rw [HFP.out, h1, h2, if_pos smol_bad]
        rw [hz]
        clear hz h1 hbk HFP hrl
        generalize (rn m).2 = D at *
        clear h2
        go_wp2
        go_roundw
        case rel => exact ⟨m.drop D, acc ++ m.take 1, rfl, rfl, hdl, by rw [← HF.out]; exact HK.out, hb⟩
        case measure => show (m.drop D).toArray.size < m.toArray.size; rw [List.size_toArray, List.size_toArray]; exact HD
      · have hz : rnZ (rn m) = ((rn m).1 : Int) := by unfold rnZ; rw [if_neg hbk]
        rw [hz]
        clear hz hbk
        generalize (rn m).1 = R at *
        generalize (rn m).2 = D at *
        have h0 : ¬ (R : Int) < 0 := by omega
        by_cases h1 : (65 ≤ R ∧ R ≤ 90) ∨ (192 ≤ R ∧ R ≤ 222 ∧ R ≠ 215) ∨ (913 ≤ R ∧ R ≤ 937 ∧ R ≠ 930) ∨ (1040 ≤ R ∧ R ≤ 1071)
        · have hsm : smol R = R + 32 := by unfold smol; rw [if_pos h1]
          have HF : Hid (fp m = enc2 (R + 32)) := by unfold Hid; rw [HFP.out, hsm, if_neg (by omega)]
          have hR9 : R ≤ 1071 := by omega
          have HWR : Hid (∀ w, Calls _ _ _ w _) := fun w => rwrite_any (R + 32) w (by omega)
          have hcw := cat_mkF acc (enc2 (R + 32))
          have hel := enc2_len (R + 32)
          have hes : (ByteArray.mk (enc2 (R + 32)).toArray).size = (enc2 (R + 32)).length := List.size_toArray
          have hadd : (R : Int) + 32 = ((R + 32 : Nat) : Int) := by omega
          unfold Hid at HWR
          clear hsm HFP
          generalize enc2 (R + 32) = E at *
          generalize hQ : R + 32 = Q at *
          clear hQ
          rcases h1 with ⟨a, b⟩ | ⟨a, b, c⟩ | ⟨a, b, c⟩ | ⟨a, b⟩
          all_goals
            go_wp2_with fail
            all_goals first
              | (exfalso; omega)
              | (refine (HWR _).mono ?_
                 rintro e w2 ⟨rfl, hb2⟩
                 go_wp2
                 go_roundw
                 case rel => exact ⟨m.drop D, acc ++ E, rfl, rfl, hdl, by rw [← HF.out]; exact HK.out, hb.trans (hb2.mono hb.size)⟩
                 case measure => (show (m.drop D).toArray.size < m.toArray.size; rw [List.size_toArray, List.size_toArray]; exact HD))
        · by_cases h2 : 1024 ≤ R ∧ R ≤ 1039
          · have hsm : smol R = R + 80 := by unfold smol; rw [if_neg h1, if_pos h2]
            have HF : Hid (fp m = enc2 (R + 80)) := by unfold Hid; rw [HFP.out, hsm, if_neg (by omega)]
            have HWR : Hid (∀ w, Calls _ _ _ w _) := fun w => rwrite_any (R + 80) w (by omega)
            have hcw := cat_mkF acc (enc2 (R + 80))
            have hel := enc2_len (R + 80)
            have hes : (ByteArray.mk (enc2 (R + 80)).toArray).size = (enc2 (R + 80)).length := List.size_toArray
            have hadd : (R : Int) + 80 = ((R + 80 : Nat) : Int) := by omega
            unfold Hid at HWR
            clear hsm HFP h1
            generalize enc2 (R + 80) = E at *
            generalize hQ : R + 80 = Q at *
            clear hQ
            obtain ⟨a, b⟩ := h2
            go_wp2_with fail
            all_goals first
              | (exfalso; omega)
              | (refine (HWR _).mono ?_
                 rintro e w2 ⟨rfl, hb2⟩
                 go_wp2
                 go_roundw
                 case rel => exact ⟨m.drop D, acc ++ E, rfl, rfl, hdl, by rw [← HF.out]; exact HK.out, hb.trans (hb2.mono hb.size)⟩
                 case measure => (show (m.drop D).toArray.size < m.toArray.size; rw [List.size_toArray, List.size_toArray]; exact HD))
          · have hsm : smol R = R := by unfold smol; rw [if_neg h1, if_neg h2]
            have HF : Hid (fp m = m.take D) := by unfold Hid; rw [HFP.out, if_pos hsm]
            have H1 : Hid (¬ ((65 ≤ R ∧ R ≤ 90) ∨ (192 ≤ R ∧ R ≤ 222 ∧ R ≠ 215) ∨ (913 ≤ R ∧ R ≤ 937 ∧ R ≠ 930) ∨ (1040 ≤ R ∧ R ≤ 1071))) := h1
            have H2 : Hid (¬ (1024 ≤ R ∧ R ≤ 1039)) := h2
            clear hsm HFP h1 h2
            go_wp2
            all_goals first
              | (exfalso; have := H1.out; have := H2.out; simp only [bne_iff_ne, ne_eq] at *; omega)
              | (go_roundw
                 case rel => exact ⟨m.drop D, acc ++ m.take D, rfl, rfl, hdl, by rw [← HF.out]; exact HK.out, hb⟩
                 case measure => (show (m.drop D).toArray.size < m.toArray.size; rw [List.size_toArray, List.size_toArray]; exact HD))
end Go.Proofs.YtmflekhhakadeaaDoor
