/- Contract of the document's Unhex, of a row of pairs. -/
import Derived.Test.YtkphgjaklkfcfaaHexed
namespace Go.Proofs.Ytkphgjaklkfcfaa
open Go.RowKit
set_option linter.unusedVariables false

theorem conv_one' (x : Nat) (hx : x < 256) (W : World) : (convert 43 9 (.slice (some ⟨W.heap.size, 0, none⟩) 1 1)).run Try.prog (W.alloc (.cells #[.int .u8 x] 5)) = .ok (.string (bs [x])) (W.alloc (.cells #[.int .u8 x] 5)) :=
  conv_bs (base := W.heap.size) (n := 1) (l := [x]) Try.underlying43 Try.underlying5 Try.underlying9 (World.ownsRow_lit W #[.int .u8 x] 1 (Nat.le_refl _) (by decide) rfl)
theorem unhex_cons {a b : UInt8} {r l : List UInt8} (h : unhex (a :: b :: r) = some l) : (wor a.toNat < 16 ∧ wor b.toNat < 16) ∧ ∃ q, unhex r = some q ∧ l = UInt8.ofNat (16 * wor a.toNat + wor b.toNat) :: q := by
  rw [unhex] at h
  by_cases x : wor a.toNat < 16 ∧ wor b.toNat < 16
  · rw [if_pos x] at h
    refine ⟨x, ?_⟩
    cases e : unhex r with
    | none => rw [e] at h; simp at h
    | some q => rw [e, Option.map_some] at h; exact ⟨q, rfl, (Option.some.inj h).symm⟩
  · rw [if_neg x] at h; cases h
theorem bs_data2 (l : List Nat) : (bs l).data.toList = l.map UInt8.ofNat := by simp [bs, strOfNums]
theorem bs_append2 (a b : List Nat) : bs a ++ bs b = bs (a ++ b) := by
  apply ba_ext
  rw [bs_data2, List.map_append, ← bs_data2, ← bs_data2]
  simp [ByteArray.data_append]
theorem bs_size2 (l : List Nat) : (bs l).size = l.length := by rw [← size_toList, bs_data2, List.length_map]
theorem ofNat_map (q : List UInt8) : (q.map UInt8.toNat).map UInt8.ofNat = q := by simp [Function.comp_def]

set_option maxRecDepth 100000 in
set_option maxHeartbeats 1000000 in
theorem runhex_any (s : ByteArray) (l : List UInt8) (w : World) (hs : s.size ≤ 100000) (hu : unhex s.data.toList = some l) :
    Calls Try.prog 23 #[.string s] w fun e w' => e = .returned (.string (bs (uhL s.data.toList))) ∧ Below w.heap.size w w' := by
  have HL : Hid (bs (uhL s.data.toList) = bs (l.map UInt8.toNat)) := by unfold Hid uhL; rw [hu]; rfl
  have HU0 : Hid _ := hu
  clear hu
  go_enter Try.func23, Try.ntmps23
  go_wp2
  go_loopw [3, 0] (fun v3 v0 wr => ∃ (t : ByteArray) (dec : List Nat) (q : List UInt8), t.size ≤ s.size ∧ dec.length ≤ 100000 ∧ dec.length + t.size ≤ s.size ∧ v0 = .string t ∧ v3 = .string (bs dec) ∧ unhex t.data.toList = some q ∧ l = dec.map UInt8.ofNat ++ q ∧ Below w.heap.size w wr) (fun _ v _ => strLen v)
  case atStart => exact ⟨s, [], l, by omega, by simp, by simp, rfl, rfl, HU0.out, rfl, Below.refl _ _⟩
  case round =>
    clear HU0
    obtain ⟨t, dec, q, hts, hd1, hd2, rfl, rfl, hu, hl, hbel⟩ := hrel
    by_cases h2 : 2 ≤ t.size
    · obtain ⟨a, b, r, ht⟩ := two_front t.data.toList (by rw [size_toList]; exact h2)
      rw [ht] at hu
      obtain ⟨hw, q2, hq2, hqe⟩ := unhex_cons hu
      have hf : (t.extract 0 2).data.toList = [a, b] := by rw [few_data, ht]; rfl
      have hr : (t.extract 2 t.size).data.toList = r := by
        rw [extract_data, ht]
        have : t.size = r.length + 2 := by rw [← size_toList, ht]; rfl
        rw [this]; simp
      have HRS : Hid ((t.extract 2 t.size).size + 2 = t.size) := by
        have : t.size = r.length + 2 := by rw [← size_toList, ht]; rfl
        unfold Hid; rw [← size_toList, hr]; omega
      have HQ : Hid (unhex (t.extract 2 t.size).data.toList = some q2) := by unfold Hid; rw [hr]; exact hq2
      have HE : Hid (l = (dec ++ [16 * wor a.toNat + wor b.toNat]).map UInt8.ofNat ++ q2) := by unfold Hid; rw [hl, hqe]; simp
      have hby : byOf a b = ((16 * wor a.toNat + wor b.toNat : Nat) : Int) := by unfold byOf; rw [if_pos hw]
      have hx : 16 * wor a.toNat + wor b.toNat < 256 := by omega
      have HBA : Hid (_ = _) := bs_append2 dec [16 * wor a.toNat + wor b.toNat]
      have hcv := conv_one' _ hx
      have s1 : (bs dec).size ≤ 100000 := by rw [bs_size2]; exact hd1
      have s2 : (bs [16 * wor a.toNat + wor b.toNat]).size ≤ 1 := by rw [bs_size2]; simp
      have HF : Hid _ := hf
      clear hu hl hq2 hqe hr ht hw hf
      generalize 16 * wor a.toNat + wor b.toNat = X at *
      go_wp2_with fail
      refine (byteOf_any _ a b HF.out _).mono ?_
      rintro e w1 ⟨rfl, hb1⟩
      rw [hby]
      have hb2 := hbel.trans (hb1.mono hbel.size)
      have hb3 := hb2.alloc hb2.size (.cells #[.int .u8 (X : Int)] 5)
      have HB3 : Hid _ := hb3
      have hcv1 := hcv w1
      clear hb1 hbel hb2 hb3 hby hcv
      go_wp2
      go_roundw
      case rel => exact ⟨_, dec ++ [X], q2, by have := HRS.out; omega, by rw [List.length_append]; simp; omega, by rw [List.length_append]; simp; have := HRS.out; omega, rfl, by rw [← HBA.out], HQ.out, HE.out, HB3.out⟩
      case measure => have := HRS.out; show (t.extract 2 t.size).size < t.size; omega
    · have hq0 : q = [] := by
        have hl1 : t.data.toList.length ≤ 1 := by rw [size_toList]; omega
        match h : t.data.toList, hl1 with
        | [], _ => rw [h] at hu; simpa [unhex] using hu.symm
        | [x], _ => rw [h] at hu; simp [unhex] at hu
      have HE : Hid (bs (uhL s.data.toList) = bs dec) := by
        unfold Hid
        rw [HL.out]
        apply ba_ext
        rw [bs_data2, bs_data2, hl, hq0, List.append_nil, ofNat_map]
      clear hu hl hq0 HL
      go_wp2
      all_goals
        go_ret
        refine ⟨?_, hbel⟩
        rw [HE.out]; rfl
end Go.Proofs.Ytkphgjaklkfcfaa
