/- Contracts of path.Parent and Compare. -/
import Derived.Test.YtkgjepgaekbniaaDoorRows
import Derived.Test.YtkgjepgaekbniaaDoorQBase
import Derived.Test.YtkgjepgaekbniaaDoorQClone
import Derived.Test.YtkgjepgaekbniaaDoorQPthM
import Derived.Test.YtkgjepgaekbniaaDoorQShelf
namespace Go.Proofs.YtkgjepgaekbniaaDoor
open Go.RowKit
set_option linter.unusedVariables false

/-- The library's variable holds some number. -/
def MaxV (w : World) : Prop := ∃ m, w.cell? ⟨0, 0, none⟩ = some (.int .i64 m)
theorem MaxV.below {w w' : World} (h : MaxV w) (hb : Below w.heap.size w w') : MaxV w' := by
  obtain ⟨m, hm⟩ := h
  exact ⟨m, by rw [← hm]; exact hb.cell (p := ⟨0, 0, none⟩) (World.block_lt_of_cell? _ _ hm)⟩
theorem MaxV.drew {w : World} (h : MaxV w) (n : Nat) : MaxV (w.drewN n) := by
  obtain ⟨m, hm⟩ := h
  exact ⟨m, by simpa using hm⟩
theorem at_bang (s : ByteArray) (i : Nat) : s.data[i]! = s.data.toList.getD i 0 := by
  rw [getElem!_def, List.getD_eq_getElem?_getD, Array.getElem?_toList]
  cases s.data[i]? <;> rfl
/-- What LastIndex says of the last slash. -/
theorem last_at (s : ByteArray) : (Lib.lastIndexByte s 47 = -1 ∧ ∀ x ∈ s.data.toList, x ≠ 47) ∨ ∃ i : Nat, i < s.size ∧ Lib.lastIndexByte s 47 = i ∧ s.data.toList = s.data.toList.take i ++ 47 :: s.data.toList.drop (i + 1) ∧ ∀ x ∈ s.data.toList.drop (i + 1), x ≠ 47 := by
  have hsl : s.data.toList.length = s.size := by simp
  rcases Lib.lastIndexByte_spec s 47 with ⟨h1, h2⟩ | ⟨i, h0, h1, h2, h3⟩
  · refine .inl ⟨h1, fun x hx e => ?_⟩
    obtain ⟨j, hj, hjx⟩ := List.getElem_of_mem hx
    refine h2 j (by omega) ?_
    rw [at_bang, List.getD_eq_getElem?_getD, List.getElem?_eq_getElem hj, hjx, e]
    rfl
  · refine .inr ⟨i, h0, h1, ?_, fun x hx e => ?_⟩
    · have : s.data.toList[i]'(by omega) = 47 := by
        rw [at_bang, List.getD_eq_getElem?_getD, List.getElem?_eq_getElem (by omega)] at h2
        apply UInt8.toNat_inj.1
        have e47 : (47 : UInt8).toNat = 47 := rfl
        rw [Option.getD_some] at h2
        omega
      conv => lhs; rw [← List.take_append_drop i s.data.toList]
      rw [List.drop_eq_getElem_cons (by omega), this]
    · obtain ⟨j, hj, hjx⟩ := List.getElem_of_mem hx
      rw [List.length_drop] at hj
      refine h3 (i + 1 + j) (by omega) (by omega) ?_
      rw [at_bang, List.getD_eq_getElem?_getD, List.getElem?_eq_getElem (by omega)]
      rw [List.getElem_drop] at hjx
      rw [Option.getD_some, hjx, e]
      rfl
theorem ext_mk (s : ByteArray) (a b : Nat) : s.extract a b = ⟨((s.data.toList.drop a).take (b - a)).toArray⟩ := by
  cases hh : s.extract a b with
  | mk x =>
    have := ByteArray.data_extract (a := s) (b := a) (e := b)
    rw [hh] at this
    have e : x = s.data.extract a b := this
    rw [e]
    congr 1
    apply Array.toList_inj.1
    rw [Array.toList_extract]
theorem ba_mk (s : ByteArray) : s = ⟨s.data.toList.toArray⟩ := by cases s; rfl
theorem lst_slash (s : ByteArray) (w : World) (hs : s.size ≤ 1000000) :
    Calls Tryd.prog 44 #[.string s, .string ⟨#[47]⟩] w fun e w' => e = .returned (.int .i64 (Lib.lastIndexByte s 47)) ∧ w' = w :=
  Tryd.strings_LastIndex_one s ⟨#[47]⟩ rfl (by omega) w
set_option maxHeartbeats 1000000 in
set_option maxRecDepth 100000 in
theorem parent_any (s : ByteArray) (w : World) (hs : s.size ≤ 1000000) :
    Calls Tryd.prog 29 #[.string s] w fun e w' => e = .returned (.string ⟨(parL s.data.toList).toArray⟩) ∧ Below w.heap.size w w' := by
  rcases last_at s with ⟨h1, h2⟩ | ⟨i, h0, h1, h2, h3⟩
  · have HP : Hid (parL s.data.toList = []) := parL_none h2
    have HC : Hid (Calls _ _ _ _ _) := clone_any (s.extract 0 0) w (by rw [ByteArray.size_extract]; omega)
    clear h2
    have HL : Hid (Calls _ _ _ _ _) := lst_slash s w hs
    unfold Hid at HL
    rw [h1] at HL
    go_enter Tryd.func29, Tryd.ntmps29
    go_wp2_with fail
    refine (Hid.out HL : Calls _ _ _ _ _).mono ?_
    rintro e w1 ⟨rfl, hw1⟩
    obtain rfl := hw1.symm
    clear HL
    go_wp2_with fail
    refine (Hid.out HC : Calls _ _ _ _ _).mono ?_
    rintro e w2 ⟨rfl, hb⟩
    go_wp2
    go_ret
    rw [HP.out]
    exact ⟨rfl, hb⟩
  · have HP : Hid (s.extract 0 i = ⟨(parL s.data.toList).toArray⟩) := by
      unfold Hid
      have e := parL_at (s.data.toList.take i) _ h3
      rw [← h2] at e
      rw [e, ext_mk]
      simp
    have HC : Hid (Calls _ _ _ _ _) := clone_any (s.extract 0 i) w (by rw [ByteArray.size_extract]; omega)
    clear h2 h3
    have HL : Hid (Calls _ _ _ _ _) := lst_slash s w hs
    unfold Hid at HL
    rw [h1] at HL
    have hm : max (i : Int) 0 = (i : Int) := by omega
    go_enter Tryd.func29, Tryd.ntmps29
    go_wp2_with fail
    refine (Hid.out HL : Calls _ _ _ _ _).mono ?_
    rintro e w1 ⟨rfl, hw1⟩
    obtain rfl := hw1.symm
    clear HL
    go_wp2_with fail
    refine (Hid.out HC : Calls _ _ _ _ _).mono ?_
    rintro e w2 ⟨rfl, hb⟩
    go_wp2
    go_ret
    rw [HP.out]
    exact ⟨rfl, hb⟩
theorem cut_no (l : List UInt8) (w : World) (hl : l.length ≤ 1000000) (hm : MaxV w) (h : ∀ x ∈ l, x ≠ 47) :
    Calls Tryd.prog 41 #[.string ⟨l.toArray⟩, .string ⟨#[47]⟩] w fun e w' => e = .returned (.tuple #[.string ⟨l.toArray⟩, .string ⟨#[]⟩, .bool false]) ∧ ∃ n, w' = w.drewN n := by
  obtain ⟨m, hm⟩ := hm
  have := Tryd.strings_Cut ⟨l.toArray⟩ ⟨#[47]⟩ m w (by show l.toArray.size < _; simp; omega) hm
  rw [show (ByteArray.mk l.toArray).data.toList = l by simp, show (ByteArray.mk #[47]).data.toList = [47] from rfl, cut_none l h] at this
  exact this
theorem cut_yes (p b : List UInt8) (w : World) (hl : (p ++ 47 :: b).length ≤ 1000000) (hm : MaxV w) (h : ∀ x ∈ p, x ≠ 47) :
    Calls Tryd.prog 41 #[.string ⟨(p ++ 47 :: b).toArray⟩, .string ⟨#[47]⟩] w fun e w' => e = .returned (.tuple #[.string ⟨p.toArray⟩, .string ⟨b.toArray⟩, .bool true]) ∧ ∃ n, w' = w.drewN n := by
  obtain ⟨m, hm⟩ := hm
  have := Tryd.strings_Cut ⟨(p ++ 47 :: b).toArray⟩ ⟨#[47]⟩ m w (by show (p ++ 47 :: b).toArray.size < _; rw [List.size_toArray]; omega) hm
  rw [show (ByteArray.mk (p ++ 47 :: b).toArray).data.toList = p ++ 47 :: b by simp, show (ByteArray.mk #[47]).data.toList = [47] from rfl, cut_at p b h] at this
  exact this
theorem cmp_any (a b : List UInt8) (w : World) : Calls Tryd.prog 42 #[.string ⟨a.toArray⟩, .string ⟨b.toArray⟩] w fun e w' => e = .returned (.int .i64 (Lib.compareBytes a b)) ∧ w' = w := by
  have := Tryd.strings_Compare ⟨a.toArray⟩ ⟨b.toArray⟩ w
  exact this
/-- What Cut answers of a text, and its parts. -/
def CutAt (l x r : List UInt8) (more : Bool) : Prop := (more = false ∧ x = l ∧ r = [] ∧ parts l = [l]) ∨ (more = true ∧ parts l = x :: parts r ∧ x.length + r.length < l.length)
theorem cut_any (l : List UInt8) (w : World) (hl : l.length ≤ 1000000) (hm : MaxV w) :
    ∃ x r more, CutAt l x r more ∧ Calls Tryd.prog 41 #[.string ⟨l.toArray⟩, .string ⟨#[47]⟩] w fun e w' => e = .returned (.tuple #[.string ⟨x.toArray⟩, .string ⟨r.toArray⟩, .bool more]) ∧ ∃ n, w' = w.drewN n := by
  rcases first_cases l with h | ⟨p, b, rfl, h⟩
  · exact ⟨l, [], false, .inl ⟨rfl, rfl, rfl, parts_none l h⟩, cut_no l w hl hm h⟩
  · exact ⟨p, b, true, .inr ⟨rfl, parts_slash p b h, by simp⟩, cut_yes p b w hl hm h⟩
set_option maxHeartbeats 1000000 in
set_option maxRecDepth 100000 in
theorem pcmp_any (a0 b0 : List UInt8) (w : World) (ha : a0.length ≤ 1000000) (hb : b0.length ≤ 1000000) (hm : MaxV w) :
    Calls Tryd.prog 28 #[.string ⟨a0.toArray⟩, .string ⟨b0.toArray⟩] w fun e w' => e = .returned (.int .i64 (pcm a0 b0)) ∧ ∃ n, w' = w.drewN n := by
  go_enter Tryd.func28, Tryd.ntmps28
  go_wp2
  go_loopw [0, 1] (fun u v wr => ∃ (a b : List UInt8) (n : Nat), u = .string ⟨a.toArray⟩ ∧ v = .string ⟨b.toArray⟩ ∧ a.length ≤ 1000000 ∧ b.length ≤ 1000000 ∧ pcm a b = pcm a0 b0 ∧ wr = w.drewN n) (fun u _ _ => match u with | .string s => s.size | _ => 0)
  case atStart => exact ⟨a0, b0, 0, rfl, rfl, ha, hb, rfl, rfl⟩
  case round =>
    obtain ⟨a, b, n, rfl, rfl, hla, hlb, hpc, rfl⟩ := hrel
    obtain ⟨x, r, more, hca, HA0⟩ := cut_any a (w.drewN n) hla (hm.drew n)
    have HA : Hid (Calls _ _ _ _ _) := HA0
    clear HA0
    have HP : Hid (pcm a b = pcm a0 b0) := hpc
    have HCA : Hid (CutAt a x r more) := hca
    clear hpc hca
    go_wp2_with fail
    refine (Hid.out HA : Calls _ _ _ _ _).mono ?_
    rintro e w1 ⟨rfl, n1, rfl⟩
    clear HA
    obtain ⟨y, s, more2, hcb, HB0⟩ := cut_any b (w.drewN (n + n1)) hlb (hm.drew (n + n1))
    have HB : Hid (Calls _ _ _ _ _) := HB0
    have HCB : Hid (CutAt b y s more2) := hcb
    clear HB0 hcb
    go_wp2_with fail
    refine (Hid.out HB : Calls _ _ _ _ _).mono ?_
    rintro e w2 ⟨rfl, n2, rfl⟩
    clear HB
    by_cases hxy : x = y
    · obtain rfl := hxy
      have hcz : Lib.compareBytes x x = 0 := (cmpB_ord.eq x x).2 rfl
      rcases HCA.out with ⟨rfl, rfl, rfl, hpa⟩ | ⟨rfl, hpa, hla2⟩
      · rcases HCB.out with ⟨rfl, rfl, rfl, hpb⟩ | ⟨rfl, hpb, hlb2⟩
        · have HE : Hid (pcm a0 b0 = 0) := by unfold Hid; rw [← HP.out]; exact (pcm_ord.eq _ _).2 rfl
          clear HP HCA HCB hpa hpb
          go_wp2
          go_ret
          rw [HE.out]
          exact ⟨rfl, _, rfl⟩
        · have HE : Hid (pcm a0 b0 = -1) := by
            unfold Hid
            rw [← HP.out]
            unfold pcm
            rw [hpa, hpb, lex, if_pos hcz]
            cases hs : parts s with
            | nil => exact absurd hs (parts_ne s)
            | cons q qs => rfl
          clear HP HCA HCB hpa hpb hlb2
          go_wp2
          go_ret
          rw [HE.out]
          exact ⟨rfl, _, rfl⟩
      · rcases HCB.out with ⟨rfl, rfl, rfl, hpb⟩ | ⟨rfl, hpb, hlb2⟩
        · have HE : Hid (pcm a0 b0 = 1) := by
            unfold Hid
            rw [← HP.out]
            unfold pcm
            rw [hpa, hpb, lex, if_pos hcz]
            cases hs : parts r with
            | nil => exact absurd hs (parts_ne r)
            | cons q qs => rfl
          clear HP HCA HCB hpa hpb hla2
          go_wp2
          go_ret
          rw [HE.out]
          exact ⟨rfl, _, rfl⟩
        · have HE : Hid (pcm r s = pcm a0 b0) := by
            unfold Hid
            rw [← HP.out]
            unfold pcm
            rw [hpa, hpb, lex, if_pos hcz]
          have hr : r.length < a.length := by omega
          have hs9 : s.length ≤ 1000000 := by omega
          clear HP HCA HCB hpa hpb
          go_wp2
          go_roundw
          case rel => exact ⟨r, s, n + n1 + n2, rfl, rfl, by omega, hs9, HE.out, rfl⟩
          case measure => show r.toArray.size < a.toArray.size; rw [List.size_toArray, List.size_toArray]; exact hr
    · have hne : (x == y) = false := by simpa using hxy
      have HE : Hid (pcm a0 b0 = Lib.compareBytes x y) := by
        unfold Hid
        have hc : ¬ Lib.compareBytes x y = 0 := fun e => hxy ((cmpB_ord.eq x y).1 e)
        obtain ⟨ta, hta⟩ : ∃ ta, parts a = x :: ta := by
          rcases HCA.out with ⟨rfl, rfl, rfl, hpa⟩ | ⟨rfl, hpa, hla2⟩
          · exact ⟨_, hpa⟩
          · exact ⟨_, hpa⟩
        obtain ⟨tb, htb⟩ : ∃ tb, parts b = y :: tb := by
          rcases HCB.out with ⟨rfl, rfl, rfl, hpb⟩ | ⟨rfl, hpb, hlb2⟩
          · exact ⟨_, hpb⟩
          · exact ⟨_, hpb⟩
        rw [← HP.out]
        unfold pcm
        rw [hta, htb, lex, if_neg hc]
      clear HP HCA HCB
      go_wp2_with fail
      refine (cmp_any x y _).mono ?_
      rintro e w3 ⟨rfl, rfl⟩
      go_wp2
      go_ret
      rw [HE.out]
      exact ⟨rfl, _, rfl⟩
end Go.Proofs.YtkgjepgaekbniaaDoor
