/- The document's Name, Is, Count and Cut. -/
import Derived.Test.YtmflekhhakadeaaDoorRPth
import Derived.Test.YtmflekhhakadeaaDoorPthN
import Derived.Test.YtmflekhhakadeaaDoorRRun
namespace Go.Proofs.YtmflekhhakadeaaDoor
open Go.RowKit
set_option linter.unusedVariables false
set_option linter.unusedSimpArgs false

theorem runeL_any (l : List UInt8) (w : World) (hne : l ≠ []) (hs : l.length ≤ 1000000) :
    Calls Tryd.prog 28 #[.string ⟨l.toArray⟩] w fun e w' => e = .returned (.tuple #[.int .i64 (rnZ (rn l)), .int .i64 ((rn l).2 : Int)]) ∧ w' = w := by
  cases l with
  | nil => exact absurd rfl hne
  | cons b t => exact rune_any b t w (by simp at hs; omega)
theorem ext_drop (l : List UInt8) (n : Nat) : (ByteArray.mk l.toArray).extract n l.length = ⟨(l.drop n).toArray⟩ := by
  rw [ext_mk]
  show ByteArray.mk ((l.drop n).take (l.length - n)).toArray = _
  rw [List.take_of_length_le (by rw [List.length_drop]; exact Nat.le_refl _)]
theorem rnZ_le (x : Nat × Nat) (h : x.1 ≤ 1114111) : -1 ≤ rnZ x ∧ rnZ x ≤ 1114111 := by
  unfold rnZ
  split <;> omega
theorem rn_le (l : List UInt8) : (rn l).1 ≤ 1114111 := by
  cases l with
  | nil => simp [rn]
  | cons b t => rw [rn_eq (by simp)]; exact Lib.decodeL_rune _
theorem okR_Z (x : Nat × Nat) : okR x = !(decide (rnZ x < 32) || decide (rnZ x = 127) || decide (rnZ x = 47)) := by
  unfold okR rnZ
  by_cases h : brk x
  · simp [h]
  · simp [h]
    by_cases h1 : x.1 < 32
    · have : decide ((x.1 : Int) < 32) = true := by simp; omega
      simp [h1, this]
    · have : decide ((x.1 : Int) < 32) = false := by simp; omega
      simp [h1, this]
      by_cases h2 : x.1 = 127
      · simp [h2]
      · have : decide ((x.1 : Int) = 127) = false := by simp; omega
        simp [h2, this]
        by_cases h3 : x.1 = 47
        · simp [h3]
        · have : decide ((x.1 : Int) = 47) = false := by simp; omega
          simp [h3, this]
          omega
set_option maxHeartbeats 1000000 in
set_option maxRecDepth 100000 in
theorem rname_any (l : List UInt8) (w : World) (hs : l.length ≤ 140737488351232) :
    Calls Tryd.prog 12 #[.string ⟨l.toArray⟩] w fun e w' => e = .returned (.bool (nameL l)) ∧ w' = w := by
  have hsz : (ByteArray.mk l.toArray).size = l.length := List.size_toArray
  by_cases h1 : l = []
  · have HE : Hid (_ = _) := nameL_false (.inl h1)
    subst h1
    go_enter Tryd.func12, Tryd.ntmps12
    go_wp2
    go_ret
    rw [HE.out]
    exact ⟨rfl, rfl⟩
  have h1i : ¬ (l.length : Int) < 1 := by have := List.length_pos_iff.2 h1; omega
  have h1j : (1 : Int) ≤ (l.length : Int) := by omega
  by_cases h2 : 60 < l.length
  · have HE : Hid (_ = _) := nameL_false (.inr (.inl h2))
    have h2i : (60 : Int) < (l.length : Int) := by omega
    go_enter Tryd.func12, Tryd.ntmps12
    go_wp2
    go_ret
    rw [HE.out]
    exact ⟨rfl, rfl⟩
  have h2i : ¬ (60 : Int) < (l.length : Int) := by omega
  have h2j : (l.length : Int) ≤ 60 := by omega
  by_cases h3 : l = [46]
  · have HE : Hid (_ = _) := nameL_false (.inr (.inr (.inl h3)))
    subst h3
    clear h1 h2 h1i h1j h2i h2j
    go_enter Tryd.func12, Tryd.ntmps12
    go_wp2
    go_ret
    rw [HE.out]
    exact ⟨rfl, rfl⟩
  by_cases h4 : l = [46, 46]
  · have HE : Hid (_ = _) := nameL_false (.inr (.inr (.inr (.inl h4))))
    subst h4
    clear h1 h2 h3 h1i h1j h2i h2j
    go_enter Tryd.func12, Tryd.ntmps12
    go_wp2
    go_ret
    rw [HE.out]
    exact ⟨rfl, rfl⟩
  have HN : Hid (nameL l = runesOk l) := nameL_true h1 (by omega) h3 h4
  have hl : l.length ≤ 60 := by omega
  have h3' : (l == [46]) = false := by simpa using h3
  have h4' : (l == [46, 46]) = false := by simpa using h4
  go_enter Tryd.func12, Tryd.ntmps12
  go_wp2
  clear h3' h4' h3 h4 h1 h1i h1j h2 h2i h2j hsz
  go_loop [0] (fun v => ∃ m : List UInt8, v = .string ⟨m.toArray⟩ ∧ m.length ≤ 60 ∧ runesOk m = runesOk l) (fun v => match v with | .string s => s.size | _ => 0)
  case atStart => exact ⟨l, rfl, hl, rfl⟩
  case round =>
    obtain ⟨m, rfl, hm, hk⟩ := hrel
    have hsz : (ByteArray.mk m.toArray).size = m.length := List.size_toArray
    have HK : Hid (runesOk m = runesOk l) := hk
    clear hk
    by_cases hne : m = []
    · have HE : Hid (nameL l = true) := by unfold Hid; rw [HN.out, ← HK.out, hne, runesOk_nil]
      subst hne
      go_wp2
      go_ret
      rw [HE.out]
      exact ⟨rfl, rfl⟩
    · have he : m.isEmpty = false := by simpa using hne
      have he2 : (m == []) = false := by simpa using hne
      have hw := rn_width m hne
      have HC : Hid (_ = _) := runesOk_cons hne
      have HO : Hid (_ = _) := okR_Z (rn m)
      have hz := rnZ_le (rn m) (rn_le m)
      have hext := ext_drop m (rn m).2
      have HD := drop_less m hne
      have HR : Hid (Calls _ _ _ _ _) := runeL_any m w hne (by omega)
      unfold Hid at HR
      generalize rnZ (rn m) = Z at *
      go_wp2_with fail
      refine (HR : Calls _ _ _ _ _).mono ?_
      rintro e w1 ⟨rfl, rfl⟩
      clear HR
      by_cases hbad : Z < 32 ∨ Z = 127 ∨ Z = 47
      · have HE : Hid (nameL l = false) := by
          unfold Hid
          rw [HN.out, ← HK.out, HC.out, HO.out]
          rcases hbad with h | h | h <;> simp [h]
        clear HN HK HC HO
        rcases hbad with h | rfl | rfl
        · go_wp2
          go_ret
          rw [HE.out]
          exact ⟨rfl, rfl⟩
        · go_wp2
          go_ret
          rw [HE.out]
          exact ⟨rfl, rfl⟩
        · go_wp2
          go_ret
          rw [HE.out]
          exact ⟨rfl, rfl⟩
      · have g1 : ¬ Z < 32 := by omega
        have g2 : (Z == 127) = false := beq_eq_false_iff_ne.2 (by omega)
        have g3 : (Z == 47) = false := beq_eq_false_iff_ne.2 (by omega)
        have HE : Hid (runesOk (m.drop (rn m).2) = runesOk l) := by
          unfold Hid
          rw [← HK.out, HC.out, HO.out]
          have a1 : decide (Z < 32) = false := by simp; omega
          have a2 : decide (Z = 127) = false := by simp; omega
          have a3 : decide (Z = 47) = false := by simp; omega
          simp [a1, a2, a3]
        clear HK HC hbad HO
        have hdl : (m.drop (rn m).2).length ≤ 60 := by omega
        have hwi : ((rn m).2 : Int) ≤ (m.length : Int) := by omega
        generalize (rn m).2 = D at *
        go_wp2
        go_round
        case rel => exact ⟨m.drop D, rfl, hdl, HE.out⟩
        case measure => show (m.drop D).toArray.size < m.toArray.size; rw [List.size_toArray, List.size_toArray]; exact HD
set_option maxHeartbeats 1000000 in
set_option maxRecDepth 100000 in
theorem ris_any (l : List UInt8) (w : World) (hs : l.length ≤ 1000000) :
    Calls Tryd.prog 14 #[.string ⟨l.toArray⟩] w fun e w' => e = .returned (.bool (isL l)) ∧ Below w.heap.size w w' := by
  have hsz : (ByteArray.mk l.toArray).size = l.length := List.size_toArray
  have hpa : 0 < (parts l).length := List.length_pos_iff.2 (parts_ne _)
  have hla : (parts l).length ≤ 1000001 := by
    rw [parts_size]
    have : l.count 47 ≤ l.length := List.count_le_length
    omega
  have HPL : Hid (∀ p ∈ parts l, p.length ≤ l.length) := fun p hp => parts_le l p hp
  have HI : Hid (isL l = (decide (l.length ≤ 200) && decide ((parts l).length ≤ 8) && (parts l).all nameL)) := rfl
  go_enter Tryd.func14, Tryd.ntmps14
  go_wp2_with fail
  refine (rparts_any l _ hs).mono ?_
  rintro e w1 ⟨v1, rfl, hO1, hb1⟩
  obtain ⟨g1, c1, rfl, hg1, hg1'⟩ := hO1.form hpa
  have HO1 : Hid (OT w1 w.heap.size (.slice (some ⟨g1, 0, none⟩) (parts l).length c1) (parts l)) := hO1
  clear hO1
  generalize parts l = ps at *
  by_cases h1 : 200 < l.length
  · have HE : Hid (isL l = false) := by
      have : decide (l.length ≤ 200) = false := by simp; omega
      unfold Hid
      rw [HI.out]
      simp [this]
    have h1i : (200 : Int) < (l.length : Int) := by omega
    go_wp2
    go_ret
    rw [HE.out]
    exact ⟨rfl, hb1⟩
  have h1i : ¬ (200 : Int) < (l.length : Int) := by omega
  have h1j : (l.length : Int) ≤ 200 := by omega
  by_cases h8 : 8 < ps.length
  · have h8i : (8 : Int) < (ps.length : Int) := by omega
    have HE : Hid (isL l = false) := by
      have : decide (ps.length ≤ 8) = false := by simp; omega
      unfold Hid
      rw [HI.out]
      simp [this]
    go_wp2
    go_ret
    rw [HE.out]
    exact ⟨rfl, hb1⟩
  have h8i : ¬ (8 : Int) < (ps.length : Int) := by omega
  have h8j : (ps.length : Int) ≤ 8 := by omega
  have HI2 : Hid (isL l = ps.all nameL) := by
    have h2 : decide (ps.length ≤ 8) = true := by simp; omega
    have h3 : decide (l.length ≤ 200) = true := by simp; omega
    unfold Hid
    rw [HI.out, h2, h3, Bool.true_and, Bool.true_and]
  clear HI
  go_wp2
  go_loop [18] (fun v => ∃ (k : Nat), v = .int .i64 (k : Int) ∧ k ≤ ps.length ∧ (ps.take k).all nameL = true) (fun v => ps.length - (intOf v).toNat)
  case atStart => exact ⟨0, rfl, Nat.zero_le _, rfl⟩
  case round =>
    obtain ⟨k, rfl, hk, hall⟩ := hrel
    by_cases hlt : k < ps.length
    · have hcell := HO1.out.cell k hlt rfl
      have hpk := HPL.out _ (getD_mem hlt)
      have HT : Hid (_ = _) := take_all ps k hlt nameL
      have HF : Hid (nameL (ps.getD k []) = false → ps.all nameL = false) := fun h => all_false hlt h
      have HA : Hid ((ps.take k).all nameL = true) := hall
      clear hall
      generalize ps.getD k [] = q at *
      have HN : Hid (Calls _ _ _ _ _) := rname_any q w1 (by omega)
      cases hq : nameL q with
      | false =>
        unfold Hid at HN
        rw [hq] at HN
        go_wp2_with fail
        refine (HN : Calls _ _ _ _ _).mono ?_
        rintro e w2 ⟨rfl, rfl⟩
        go_wp2
        go_ret
        rw [HI2.out, HF.out hq]
        exact ⟨rfl, hb1⟩
      | true =>
        unfold Hid at HN
        rw [hq] at HN
        go_wp2_with fail
        refine (HN : Calls _ _ _ _ _).mono ?_
        rintro e w2 ⟨rfl, rfl⟩
        go_wp2
        go_round
        case rel => exact ⟨k + 1, by go_num, by omega, by rw [HT.out, HA.out, hq]; rfl⟩
        case measure => simp [intOf]; omega
    · have HE : Hid (isL l = true) := by unfold Hid; rw [HI2.out, ← hall, List.take_of_length_le (by omega)]
      clear hall
      go_wp2
      go_ret
      rw [HE.out]
      exact ⟨rfl, hb1⟩
end Go.Proofs.YtmflekhhakadeaaDoor
