/- Contract of the document's Rune. -/
import Derived.Test.YtmflekhhakadeaaDoorRows
import Derived.Test.YtmflekhhakadeaaDoorBase
import Derived.Test.YtmflekhhakadeaaDoorRRunM
namespace Go.Proofs.YtmflekhhakadeaaDoor
open Go.RowKit
set_option linter.unusedVariables false
set_option linter.unusedSimpArgs false

theorem rv_le (c : Nat) : ∀ l : List UInt8, l.length ≤ 3 → c ≤ 63 → rv c l ≤ 64 * 64 * 64 * 64
  | [], _, h => by simp [rv]; omega
  | [a], _, h => by simp [rv]; omega
  | [a, b], _, h => by simp [rv]; omega
  | [a, b, d], _, h => by simp [rv]; omega
  | a :: b :: d :: e :: r, h, _ => by simp at h
theorem rnZ_bad : rnZ (65533, 1) = -1 := by decide
theorem rnZ_good (c n : Nat) (h : 2 ≤ n) : rnZ (c, n) = (c : Int) := by
  unfold rnZ
  rw [if_neg (fun e => by have : n = 1 := e.2; omega)]
theorem at_next (b : UInt8) (t : List UInt8) (i : Nat) (hi : i < t.length) : (ByteArray.mk (b :: t).toArray)[i + 1]'(by show i + 1 < (b :: t).toArray.size; rw [List.size_toArray]; simp; omega) = t.getD i 0 := by
  rw [List.getD_eq_getElem?_getD, List.getElem?_eq_getElem hi]; rfl
set_option maxHeartbeats 4000000 in
set_option maxRecDepth 100000 in
theorem rune_any (b : UInt8) (t : List UInt8) (w : World) (hs : t.length ≤ 1000000) :
    Calls Tryd.prog 28 #[.string ⟨(b :: t).toArray⟩] w fun e w' => e = .returned (.tuple #[.int .i64 (rnZ (dcd b t)), .int .i64 ((dcd b t).2 : Int)]) ∧ w' = w := by
  have hsz : (ByteArray.mk (b :: t).toArray).size = t.length + 1 := by show (b :: t).toArray.size = _; simp
  have h0 : (ByteArray.mk (b :: t).toArray)[0]'(by rw [hsz]; omega) = b := rfl
  have hb := b.toNat_lt
  by_cases h1 : b.toNat < 128
  · have HE : Hid (dcd b t = (b.toNat, 1)) := dcd_ascii b t h1
    have HZ : Hid (rnZ (b.toNat, 1) = (b.toNat : Int)) := by unfold Hid rnZ; rw [if_neg (fun e => by have : b.toNat = 65533 := e.1; omega)]
    have h1i : (b.toNat : Int) < 128 := by omega
    rw [HE.out, HZ.out]
    clear HE HZ
    go_enter Tryd.func28, Tryd.ntmps28
    go_wp2
    go_ret2
    exact ⟨rfl, rfl⟩
  have h1i : ¬ (b.toNat : Int) < 128 := by omega
  by_cases hn : b.toNat < 192 ∨ 248 ≤ b.toNat
  · have HE : Hid (dcd b t = (65533, 1)) := dcd_none b t (by omega)
    rw [HE.out, rnZ_bad]
    clear HE
    rcases hn with hn | hn
    · have a1 : ¬ (192 : Int) ≤ (b.toNat : Int) := by omega
      have a2 : ¬ (224 : Int) ≤ (b.toNat : Int) := by omega
      have a3 : ¬ (240 : Int) ≤ (b.toNat : Int) := by omega
      go_enter Tryd.func28, Tryd.ntmps28
      go_wp2
      go_ret2
      exact ⟨rfl, rfl⟩
    · have a1 : (192 : Int) ≤ (b.toNat : Int) := by omega
      have a1' : ¬ (b.toNat : Int) < 224 := by omega
      have a2 : (224 : Int) ≤ (b.toNat : Int) := by omega
      have a2' : ¬ (b.toNat : Int) < 240 := by omega
      have a3 : (240 : Int) ≤ (b.toNat : Int) := by omega
      have a3' : ¬ (b.toNat : Int) < 248 := by omega
      go_enter Tryd.func28, Tryd.ntmps28
      go_wp2
      go_ret2
      exact ⟨rfl, rfl⟩
  by_cases g2 : b.toNat < 224
  · have hcl : cls b.toNat 2 192 128 := by unfold cls; omega
    have a1 : (192 : Int) ≤ (b.toNat : Int) := by omega
    have a1' : (b.toNat : Int) < 224 := by omega
    by_cases hsh : t.length + 1 < 2
    · have HE : Hid (dcd b t = (65533, 1)) := dcd_few b t _ _ _ hcl hsh
      rw [HE.out, rnZ_bad]
      have hshi : ((t.length : Int) + 1) < 2 := by omega
      clear HE hcl
      go_enter Tryd.func28, Tryd.ntmps28
      go_wp2
      go_ret2
      exact ⟨rfl, rfl⟩
    have HST : Hid (∀ i, i + 1 < 2 → cnt (t.getD i 0) = false → dcd b t = (65533, 1)) := fun i h1 h2 => dcd_stop b t _ _ _ i hcl h1 (by omega) h2
    have HFU : Hid ((∀ x ∈ t.take (2 - 1), cnt x = true) → dcd b t = if wrong (rv (b.toNat - 192) (t.take (2 - 1))) 128 then (65533, 1) else (rv (b.toNat - 192) (t.take (2 - 1)), 2)) := fun h => dcd_full b t _ _ _ hcl (by omega) h
    have HAT : Hid (∀ i (hi : i < t.length), (ByteArray.mk (b :: t).toArray)[i + 1]'(by show i + 1 < (b :: t).toArray.size; rw [List.size_toArray]; simp; omega) = t.getD i 0) := fun i hi => at_next b t i hi
    have hshi : ¬ ((t.length : Int) + 1) < 2 := by omega
    have hshj : (2 : Int) ≤ (t.length : Int) + 1 := by omega
    clear hcl
    go_enter Tryd.func28, Tryd.ntmps28
    go_wp2
    go_loop [4, 7] (fun c i => ∃ k : Nat, k + 1 ≤ 2 ∧ i = .int .i64 ((k : Int) + 1) ∧ c = .int .i64 ((rv (b.toNat - 192) (t.take k) : Nat) : Int) ∧ ∀ x ∈ t.take k, cnt x = true) (fun _ i => 2 - (intOf i).toNat)
    case atStart => exact ⟨0, by omega, rfl, by simp [rv]; omega, by simp⟩
    case round =>
      obtain ⟨k, hk, rfl, rfl, hall⟩ := hrel
      have hrl : rv (b.toNat - 192) (t.take k) ≤ 64 * 64 * 64 * 64 := rv_le _ _ (by rw [List.length_take]; omega) (by omega)
      have HA : Hid (∀ x ∈ t.take k, cnt x = true) := hall
      clear hall
      by_cases hlt : k + 1 < 2
      · have hgd := HAT.out k (by omega)
        have hkl : (k : Int) + 1 < ((ByteArray.mk (b :: t).toArray).size : Int) := by rw [hsz]; omega
        have hkl2 : k + 1 < (ByteArray.mk (b :: t).toArray).size := by rw [hsz]; omega
        have HT : Hid (t.take (k + 1) = t.take k ++ [t.getD k 0]) := by
          unfold Hid
          rw [List.take_succ_eq_append_getElem (by omega), List.getD_eq_getElem?_getD, List.getElem?_eq_getElem (by omega)]; rfl
        have HSTk := HST.out k hlt
        have HCN := cntN (t.getD k 0)
        have hx := (t.getD k 0).toNat_lt
        generalize t.getD k 0 = x at *
        by_cases hc : cnt x = true
        · have h2 := HCN.1 hc
          have c1 : ¬ (x.toNat : Int) < 128 := by omega
          have c2 : ¬ (191 : Int) < (x.toNat : Int) := by omega
          have HRV : Hid (rv (b.toNat - 192) (t.take (k + 1)) = 64 * rv (b.toNat - 192) (t.take k) + x.toNat % 64) := by unfold Hid; rw [HT.out, rv_snoc]
          have HM : Hid (∀ y ∈ t.take (k + 1), cnt y = true) := by
            unfold Hid
            rw [HT.out]
            intro y hy
            rcases List.mem_append.1 hy with hy | hy
            · exact HA.out y hy
            · simp at hy; subst hy; exact hc
          clear HSTk HCN hc HT
          generalize rv (b.toNat - 192) (t.take k) = C at *
          go_wp2
          go_round
          case rel => exact ⟨k + 1, by omega, by go_num, by rw [HRV.out]; congr 1; omega, HM.out⟩
          case measure => simp [intOf]; omega
        · have hcf : cnt x = false := by simpa using hc
          have HE : Hid (dcd b t = (65533, 1)) := HSTk hcf
          have h2 : x.toNat < 128 ∨ 191 < x.toNat := by
            have := (not_congr HCN).1 hc
            omega
          clear HSTk HCN hc hcf HT
          rcases h2 with h2 | h2
          · have c1 : (x.toNat : Int) < 128 := by omega
            go_wp2
            go_ret2
            rw [HE.out, rnZ_bad]
            exact ⟨rfl, rfl⟩
          · have c1 : ¬ (x.toNat : Int) < 128 := by omega
            have c2 : (191 : Int) < (x.toNat : Int) := by omega
            go_wp2
            go_ret2
            rw [HE.out, rnZ_bad]
            exact ⟨rfl, rfl⟩
      · obtain rfl : k = 2 - 1 := by omega
        have HE : Hid (_ = _) := HFU.out HA.out
        generalize rv (b.toNat - 192) (t.take (2 - 1)) = C at *
        have e9 : ((2 - 1 : Nat) : Int) + 1 = 2 := by omega
        by_cases hw : wrong C 128
        · have HD : Hid (dcd b t = (65533, 1)) := by unfold Hid; rw [HE.out, if_pos hw]
          clear HE
          unfold wrong at hw
          rcases hw with hw | hw | hw
          · have c1 : (C : Int) < 128 := by omega
            go_wp2
            go_ret2
            rw [HD.out, rnZ_bad]
            exact ⟨rfl, rfl⟩
          · have c1 : ¬ (C : Int) < 128 := by omega
            have c2 : (1114111 : Int) < (C : Int) := by omega
            go_wp2
            go_ret2
            rw [HD.out, rnZ_bad]
            exact ⟨rfl, rfl⟩
          · by_cases hl2 : C < 128
            · have c1 : (C : Int) < 128 := by omega
              go_wp2
              go_ret2
              rw [HD.out, rnZ_bad]
              exact ⟨rfl, rfl⟩
            · have c1 : ¬ (C : Int) < 128 := by omega
              have c2 : ¬ (1114111 : Int) < (C : Int) := by omega
              have c3 : (55296 : Int) ≤ (C : Int) := by omega
              have c4 : (C : Int) ≤ 57343 := by omega
              go_wp2
              go_ret2
              rw [HD.out, rnZ_bad]
              exact ⟨rfl, rfl⟩
        · have HD : Hid (dcd b t = (C, 2)) := by unfold Hid; rw [HE.out, if_neg hw]
          clear HE
          unfold wrong at hw
          have c1 : ¬ (C : Int) < 128 := by omega
          have c2 : ¬ (1114111 : Int) < (C : Int) := by omega
          by_cases h55 : 55296 ≤ C
          · have c3 : (55296 : Int) ≤ (C : Int) := by omega
            have c4 : ¬ (C : Int) ≤ 57343 := by omega
            clear hw
            go_wp2
            go_ret2
            rw [HD.out, rnZ_good C 2 (by omega)]
            exact ⟨rfl, rfl⟩
          · have c3 : ¬ (55296 : Int) ≤ (C : Int) := by omega
            clear hw
            go_wp2
            go_ret2
            rw [HD.out, rnZ_good C 2 (by omega)]
            exact ⟨rfl, rfl⟩
  by_cases g3 : b.toNat < 240
  · have hcl : cls b.toNat 3 224 2048 := by unfold cls; omega
    have a1 : (192 : Int) ≤ (b.toNat : Int) := by omega
    have a1' : ¬ (b.toNat : Int) < 224 := by omega
    have a2 : (224 : Int) ≤ (b.toNat : Int) := by omega
    have a2' : (b.toNat : Int) < 240 := by omega
    by_cases hsh : t.length + 1 < 3
    · have HE : Hid (dcd b t = (65533, 1)) := dcd_few b t _ _ _ hcl hsh
      rw [HE.out, rnZ_bad]
      have hshi : ((t.length : Int) + 1) < 3 := by omega
      clear HE hcl
      go_enter Tryd.func28, Tryd.ntmps28
      go_wp2
      go_ret2
      exact ⟨rfl, rfl⟩
    have HST : Hid (∀ i, i + 1 < 3 → cnt (t.getD i 0) = false → dcd b t = (65533, 1)) := fun i h1 h2 => dcd_stop b t _ _ _ i hcl h1 (by omega) h2
    have HFU : Hid ((∀ x ∈ t.take (3 - 1), cnt x = true) → dcd b t = if wrong (rv (b.toNat - 224) (t.take (3 - 1))) 2048 then (65533, 1) else (rv (b.toNat - 224) (t.take (3 - 1)), 3)) := fun h => dcd_full b t _ _ _ hcl (by omega) h
    have HAT : Hid (∀ i (hi : i < t.length), (ByteArray.mk (b :: t).toArray)[i + 1]'(by show i + 1 < (b :: t).toArray.size; rw [List.size_toArray]; simp; omega) = t.getD i 0) := fun i hi => at_next b t i hi
    have hshi : ¬ ((t.length : Int) + 1) < 3 := by omega
    have hshj : (3 : Int) ≤ (t.length : Int) + 1 := by omega
    clear hcl
    go_enter Tryd.func28, Tryd.ntmps28
    go_wp2
    go_loop [4, 7] (fun c i => ∃ k : Nat, k + 1 ≤ 3 ∧ i = .int .i64 ((k : Int) + 1) ∧ c = .int .i64 ((rv (b.toNat - 224) (t.take k) : Nat) : Int) ∧ ∀ x ∈ t.take k, cnt x = true) (fun _ i => 3 - (intOf i).toNat)
    case atStart => exact ⟨0, by omega, rfl, by simp [rv]; omega, by simp⟩
    case round =>
      obtain ⟨k, hk, rfl, rfl, hall⟩ := hrel
      have hrl : rv (b.toNat - 224) (t.take k) ≤ 64 * 64 * 64 * 64 := rv_le _ _ (by rw [List.length_take]; omega) (by omega)
      have HA : Hid (∀ x ∈ t.take k, cnt x = true) := hall
      clear hall
      by_cases hlt : k + 1 < 3
      · have hgd := HAT.out k (by omega)
        have hkl : (k : Int) + 1 < ((ByteArray.mk (b :: t).toArray).size : Int) := by rw [hsz]; omega
        have hkl2 : k + 1 < (ByteArray.mk (b :: t).toArray).size := by rw [hsz]; omega
        have HT : Hid (t.take (k + 1) = t.take k ++ [t.getD k 0]) := by
          unfold Hid
          rw [List.take_succ_eq_append_getElem (by omega), List.getD_eq_getElem?_getD, List.getElem?_eq_getElem (by omega)]; rfl
        have HSTk := HST.out k hlt
        have HCN := cntN (t.getD k 0)
        have hx := (t.getD k 0).toNat_lt
        generalize t.getD k 0 = x at *
        by_cases hc : cnt x = true
        · have h2 := HCN.1 hc
          have c1 : ¬ (x.toNat : Int) < 128 := by omega
          have c2 : ¬ (191 : Int) < (x.toNat : Int) := by omega
          have HRV : Hid (rv (b.toNat - 224) (t.take (k + 1)) = 64 * rv (b.toNat - 224) (t.take k) + x.toNat % 64) := by unfold Hid; rw [HT.out, rv_snoc]
          have HM : Hid (∀ y ∈ t.take (k + 1), cnt y = true) := by
            unfold Hid
            rw [HT.out]
            intro y hy
            rcases List.mem_append.1 hy with hy | hy
            · exact HA.out y hy
            · simp at hy; subst hy; exact hc
          clear HSTk HCN hc HT
          generalize rv (b.toNat - 224) (t.take k) = C at *
          go_wp2
          go_round
          case rel => exact ⟨k + 1, by omega, by go_num, by rw [HRV.out]; congr 1; omega, HM.out⟩
          case measure => simp [intOf]; omega
        · have hcf : cnt x = false := by simpa using hc
          have HE : Hid (dcd b t = (65533, 1)) := HSTk hcf
          have h2 : x.toNat < 128 ∨ 191 < x.toNat := by
            have := (not_congr HCN).1 hc
            omega
          clear HSTk HCN hc hcf HT
          rcases h2 with h2 | h2
          · have c1 : (x.toNat : Int) < 128 := by omega
            go_wp2
            go_ret2
            rw [HE.out, rnZ_bad]
            exact ⟨rfl, rfl⟩
          · have c1 : ¬ (x.toNat : Int) < 128 := by omega
            have c2 : (191 : Int) < (x.toNat : Int) := by omega
            go_wp2
            go_ret2
            rw [HE.out, rnZ_bad]
            exact ⟨rfl, rfl⟩
      · obtain rfl : k = 3 - 1 := by omega
        have HE : Hid (_ = _) := HFU.out HA.out
        generalize rv (b.toNat - 224) (t.take (3 - 1)) = C at *
        have e9 : ((3 - 1 : Nat) : Int) + 1 = 3 := by omega
        by_cases hw : wrong C 2048
        · have HD : Hid (dcd b t = (65533, 1)) := by unfold Hid; rw [HE.out, if_pos hw]
          clear HE
          unfold wrong at hw
          rcases hw with hw | hw | hw
          · have c1 : (C : Int) < 2048 := by omega
            go_wp2
            go_ret2
            rw [HD.out, rnZ_bad]
            exact ⟨rfl, rfl⟩
          · have c1 : ¬ (C : Int) < 2048 := by omega
            have c2 : (1114111 : Int) < (C : Int) := by omega
            go_wp2
            go_ret2
            rw [HD.out, rnZ_bad]
            exact ⟨rfl, rfl⟩
          · by_cases hl2 : C < 2048
            · have c1 : (C : Int) < 2048 := by omega
              go_wp2
              go_ret2
              rw [HD.out, rnZ_bad]
              exact ⟨rfl, rfl⟩
            · have c1 : ¬ (C : Int) < 2048 := by omega
              have c2 : ¬ (1114111 : Int) < (C : Int) := by omega
              have c3 : (55296 : Int) ≤ (C : Int) := by omega
              have c4 : (C : Int) ≤ 57343 := by omega
              go_wp2
              go_ret2
              rw [HD.out, rnZ_bad]
              exact ⟨rfl, rfl⟩
        · have HD : Hid (dcd b t = (C, 3)) := by unfold Hid; rw [HE.out, if_neg hw]
          clear HE
          unfold wrong at hw
          have c1 : ¬ (C : Int) < 2048 := by omega
          have c2 : ¬ (1114111 : Int) < (C : Int) := by omega
          by_cases h55 : 55296 ≤ C
          · have c3 : (55296 : Int) ≤ (C : Int) := by omega
            have c4 : ¬ (C : Int) ≤ 57343 := by omega
            clear hw
            go_wp2
            go_ret2
            rw [HD.out, rnZ_good C 3 (by omega)]
            exact ⟨rfl, rfl⟩
          · have c3 : ¬ (55296 : Int) ≤ (C : Int) := by omega
            clear hw
            go_wp2
            go_ret2
            rw [HD.out, rnZ_good C 3 (by omega)]
            exact ⟨rfl, rfl⟩
  have hcl : cls b.toNat 4 240 65536 := by unfold cls; omega
  have a1 : (192 : Int) ≤ (b.toNat : Int) := by omega
  have a1' : ¬ (b.toNat : Int) < 224 := by omega
  have a2 : (224 : Int) ≤ (b.toNat : Int) := by omega
  have a2' : ¬ (b.toNat : Int) < 240 := by omega
  have a3 : (240 : Int) ≤ (b.toNat : Int) := by omega
  have a3' : (b.toNat : Int) < 248 := by omega
  by_cases hsh : t.length + 1 < 4
  · have HE : Hid (dcd b t = (65533, 1)) := dcd_few b t _ _ _ hcl hsh
    rw [HE.out, rnZ_bad]
    have hshi : ((t.length : Int) + 1) < 4 := by omega
    clear HE hcl
    go_enter Tryd.func28, Tryd.ntmps28
    go_wp2
    go_ret2
    exact ⟨rfl, rfl⟩
  have HST : Hid (∀ i, i + 1 < 4 → cnt (t.getD i 0) = false → dcd b t = (65533, 1)) := fun i h1 h2 => dcd_stop b t _ _ _ i hcl h1 (by omega) h2
  have HFU : Hid ((∀ x ∈ t.take (4 - 1), cnt x = true) → dcd b t = if wrong (rv (b.toNat - 240) (t.take (4 - 1))) 65536 then (65533, 1) else (rv (b.toNat - 240) (t.take (4 - 1)), 4)) := fun h => dcd_full b t _ _ _ hcl (by omega) h
  have HAT : Hid (∀ i (hi : i < t.length), (ByteArray.mk (b :: t).toArray)[i + 1]'(by show i + 1 < (b :: t).toArray.size; rw [List.size_toArray]; simp; omega) = t.getD i 0) := fun i hi => at_next b t i hi
  have hshi : ¬ ((t.length : Int) + 1) < 4 := by omega
  have hshj : (4 : Int) ≤ (t.length : Int) + 1 := by omega
  clear hcl
  go_enter Tryd.func28, Tryd.ntmps28
  go_wp2
  go_loop [4, 7] (fun c i => ∃ k : Nat, k + 1 ≤ 4 ∧ i = .int .i64 ((k : Int) + 1) ∧ c = .int .i64 ((rv (b.toNat - 240) (t.take k) : Nat) : Int) ∧ ∀ x ∈ t.take k, cnt x = true) (fun _ i => 4 - (intOf i).toNat)
  case atStart => exact ⟨0, by omega, rfl, by simp [rv]; omega, by simp⟩
  case round =>
    obtain ⟨k, hk, rfl, rfl, hall⟩ := hrel
    have hrl : rv (b.toNat - 240) (t.take k) ≤ 64 * 64 * 64 * 64 := rv_le _ _ (by rw [List.length_take]; omega) (by omega)
    have HA : Hid (∀ x ∈ t.take k, cnt x = true) := hall
    clear hall
    by_cases hlt : k + 1 < 4
    · have hgd := HAT.out k (by omega)
      have hkl : (k : Int) + 1 < ((ByteArray.mk (b :: t).toArray).size : Int) := by rw [hsz]; omega
      have hkl2 : k + 1 < (ByteArray.mk (b :: t).toArray).size := by rw [hsz]; omega
      have HT : Hid (t.take (k + 1) = t.take k ++ [t.getD k 0]) := by
        unfold Hid
        rw [List.take_succ_eq_append_getElem (by omega), List.getD_eq_getElem?_getD, List.getElem?_eq_getElem (by omega)]; rfl
      have HSTk := HST.out k hlt
      have HCN := cntN (t.getD k 0)
      have hx := (t.getD k 0).toNat_lt
      generalize t.getD k 0 = x at *
      by_cases hc : cnt x = true
      · have h2 := HCN.1 hc
        have c1 : ¬ (x.toNat : Int) < 128 := by omega
        have c2 : ¬ (191 : Int) < (x.toNat : Int) := by omega
        have HRV : Hid (rv (b.toNat - 240) (t.take (k + 1)) = 64 * rv (b.toNat - 240) (t.take k) + x.toNat % 64) := by unfold Hid; rw [HT.out, rv_snoc]
        have HM : Hid (∀ y ∈ t.take (k + 1), cnt y = true) := by
          unfold Hid
          rw [HT.out]
          intro y hy
          rcases List.mem_append.1 hy with hy | hy
          · exact HA.out y hy
          · simp at hy; subst hy; exact hc
        clear HSTk HCN hc HT
        generalize rv (b.toNat - 240) (t.take k) = C at *
        go_wp2
        go_round
        case rel => exact ⟨k + 1, by omega, by go_num, by rw [HRV.out]; congr 1; omega, HM.out⟩
        case measure => simp [intOf]; omega
      · have hcf : cnt x = false := by simpa using hc
        have HE : Hid (dcd b t = (65533, 1)) := HSTk hcf
        have h2 : x.toNat < 128 ∨ 191 < x.toNat := by
          have := (not_congr HCN).1 hc
          omega
        clear HSTk HCN hc hcf HT
        rcases h2 with h2 | h2
        · have c1 : (x.toNat : Int) < 128 := by omega
          go_wp2
          go_ret2
          rw [HE.out, rnZ_bad]
          exact ⟨rfl, rfl⟩
        · have c1 : ¬ (x.toNat : Int) < 128 := by omega
          have c2 : (191 : Int) < (x.toNat : Int) := by omega
          go_wp2
          go_ret2
          rw [HE.out, rnZ_bad]
          exact ⟨rfl, rfl⟩
    · obtain rfl : k = 4 - 1 := by omega
      have HE : Hid (_ = _) := HFU.out HA.out
      generalize rv (b.toNat - 240) (t.take (4 - 1)) = C at *
      have e9 : ((4 - 1 : Nat) : Int) + 1 = 4 := by omega
      by_cases hw : wrong C 65536
      · have HD : Hid (dcd b t = (65533, 1)) := by unfold Hid; rw [HE.out, if_pos hw]
        clear HE
        unfold wrong at hw
        rcases hw with hw | hw | hw
        · have c1 : (C : Int) < 65536 := by omega
          go_wp2
          go_ret2
          rw [HD.out, rnZ_bad]
          exact ⟨rfl, rfl⟩
        · have c1 : ¬ (C : Int) < 65536 := by omega
          have c2 : (1114111 : Int) < (C : Int) := by omega
          go_wp2
          go_ret2
          rw [HD.out, rnZ_bad]
          exact ⟨rfl, rfl⟩
        · by_cases hl2 : C < 65536
          · have c1 : (C : Int) < 65536 := by omega
            go_wp2
            go_ret2
            rw [HD.out, rnZ_bad]
            exact ⟨rfl, rfl⟩
          · have c1 : ¬ (C : Int) < 65536 := by omega
            have c2 : ¬ (1114111 : Int) < (C : Int) := by omega
            have c3 : (55296 : Int) ≤ (C : Int) := by omega
            have c4 : (C : Int) ≤ 57343 := by omega
            go_wp2
            go_ret2
            rw [HD.out, rnZ_bad]
            exact ⟨rfl, rfl⟩
      · have HD : Hid (dcd b t = (C, 4)) := by unfold Hid; rw [HE.out, if_neg hw]
        clear HE
        unfold wrong at hw
        have c1 : ¬ (C : Int) < 65536 := by omega
        have c2 : ¬ (1114111 : Int) < (C : Int) := by omega
        by_cases h55 : 55296 ≤ C
        · have c3 : (55296 : Int) ≤ (C : Int) := by omega
          have c4 : ¬ (C : Int) ≤ 57343 := by omega
          clear hw
          go_wp2
          go_ret2
          rw [HD.out, rnZ_good C 4 (by omega)]
          exact ⟨rfl, rfl⟩
        · have c3 : ¬ (55296 : Int) ≤ (C : Int) := by omega
          clear hw
          go_wp2
          go_ret2
          rw [HD.out, rnZ_good C 4 (by omega)]
          exact ⟨rfl, rfl⟩
end Go.Proofs.YtmflekhhakadeaaDoor
