/- Contracts of path.Name and path.Is. -/
import Derived.Test.YtkgjepgaekbniaaDoorQPthC
import Derived.Test.YtkgjepgaekbniaaDoorQRunB
import Derived.Test.YtkgjepgaekbniaaDoorQStrR
namespace Go.Proofs.YtkgjepgaekbniaaDoor
open Go.RowKit
set_option linter.unusedVariables false

/-- What the laid variables give: the library's tables of UTF-8, and some number in MaxLen. -/
structure Lay11 (w : World) : Prop where
  max : MaxV w
  tabs : Lib.Utf8Tabs (Tryd.laysValid_ren.g 3) (Tryd.laysValid_ren.g 4) w
theorem Lay11.below {w w' : World} (h : Lay11 w) (hb : Below w.heap.size w w') : Lay11 w' := by
  refine ⟨h.max.below hb, fun c hc => ?_, fun i hi => ?_⟩
  · have := h.tabs.1 c hc
    rw [← this]
    exact hb.cell (p := ⟨_, _, none⟩) (World.block_lt_of_cell? _ _ this)
  · obtain ⟨h1, h2⟩ := h.tabs.2 i hi
    constructor
    · rw [← h1]
      exact hb.cell (p := ⟨_, _, none⟩) (World.block_lt_of_cell? _ _ h1)
    · rw [← h2]
      exact hb.cell (p := ⟨_, _, none⟩) (World.block_lt_of_cell? _ _ h2)
theorem vstr_any (s : ByteArray) (w : World) (hs : s.size ≤ 1000000) (hL : Lay11 w) :
    Calls Tryd.prog 62 #[.string s] w fun e w' => e = .returned (.bool (Lib.validD s.data.toList)) ∧ Below w.heap.size w w' :=
  Any.utf8_ValidString Tryd.laysValid s w (by omega) hL.tabs
/-- No rune that a name may not have; a broken byte shows as fffd. -/
def shown (l : List UInt8) : Bool := if h : l = [] then true else !(decide ((rn l).1 < 32) || decide ((rn l).1 = 127) || decide ((rn l).1 = 47)) && shown (l.drop (rn l).2)
termination_by l.length
decreasing_by exact drop_less l h
theorem shown_nil : shown [] = true := by rw [shown]; simp
theorem shown_cons {l : List UInt8} (h : l ≠ []) : shown l = (!(decide ((rn l).1 < 32) || decide ((rn l).1 = 127) || decide ((rn l).1 = 47)) && shown (l.drop (rn l).2)) := by rw [shown]; simp [h]
theorem ok_shown : ∀ (n : Nat) (l : List UInt8), l.length ≤ n → runesOk l = (shown l && Lib.validGoD n l)
  | 0, l, h => by
    obtain rfl : l = [] := List.length_eq_zero_iff.1 (by omega)
    rw [runesOk_nil, shown_nil]; rfl
  | n + 1, l, h => by
    by_cases e : l = []
    · subst e; rw [runesOk_nil, shown_nil]; simp [Lib.validGoD]
    · have hd := drop_less l e
      rw [runesOk_cons e, shown_cons e, Lib.validGoD, if_neg e, ← rn_eq e, ok_shown n _ (by omega)]
      unfold okR brk
      generalize (decide ((rn l).1 < 32) || decide ((rn l).1 = 127) || decide ((rn l).1 = 47)) = B
      by_cases hb : (rn l).1 = 65533 ∧ (rn l).2 = 1
      · rw [if_pos hb]; simp [hb]
      · rw [if_neg hb]; cases B <;> simp [hb]
theorem shown_at (s : ByteArray) (pos : Nat) (h : pos < s.size) : shown (s.data.toList.drop pos) = (!(decide ((Utf8.decode s pos).1 < 32) || decide ((Utf8.decode s pos).1 = 127) || decide ((Utf8.decode s pos).1 = 47)) && shown (s.data.toList.drop (pos + (Utf8.decode s pos).2))) := by
  rw [shown_cons (left_ne s pos h), List.drop_drop, dec_at s pos h]
theorem nameL_false {l : List UInt8} (h : l = [] ∨ 60 < l.length ∨ l = [46] ∨ l = [46, 46] ∨ runesOk l = false) : nameL l = false := by
  unfold nameL
  rcases h with rfl | h | rfl | rfl | h
  · simp
  · have : decide (l.length ≤ 60) = false := by simp; omega
    simp [this]
  · simp
  · simp
  · simp [h]
theorem nameL_true {l : List UInt8} (h1 : l ≠ []) (h2 : l.length ≤ 60) (h3 : l ≠ [46]) (h4 : l ≠ [46, 46]) : nameL l = runesOk l := by
  unfold nameL
  have : 1 ≤ l.length := List.length_pos_iff.2 h1
  simp [this, h2, h3, h4]
set_option maxHeartbeats 1000000 in
set_option maxRecDepth 100000 in
theorem name_any (l : List UInt8) (w : World) (hs : l.length ≤ 9223372036854775807) (hL : Lay11 w) :
    Calls Tryd.prog 51 #[.string ⟨l.toArray⟩] w fun e w' => e = .returned (.bool (nameL l)) ∧ Below w.heap.size w w' := by
  by_cases h1 : l = []
  · have HE : Hid (_ = _) := nameL_false (.inl h1)
    subst h1
    go_enter Tryd.func51, Tryd.ntmps51
    go_wp2
    go_ret
    rw [HE.out]
    exact ⟨rfl, Below.refl _ _⟩
  by_cases h2 : 60 < l.length
  · have HE : Hid (_ = _) := nameL_false (.inr (.inl h2))
    have h2i : (60 : Int) < (l.length : Int) := by omega
    go_enter Tryd.func51, Tryd.ntmps51
    go_wp2
    go_ret
    rw [HE.out]
    exact ⟨rfl, Below.refl _ _⟩
  by_cases h3 : l = [46]
  · have HE : Hid (_ = _) := nameL_false (.inr (.inr (.inl h3)))
    subst h3
    clear h1 h2
    go_enter Tryd.func51, Tryd.ntmps51
    go_wp2
    go_ret
    rw [HE.out]
    exact ⟨rfl, Below.refl _ _⟩
  by_cases h4 : l = [46, 46]
  · have HE : Hid (_ = _) := nameL_false (.inr (.inr (.inr (.inl h4))))
    subst h4
    clear h1 h2 h3
    go_enter Tryd.func51, Tryd.ntmps51
    go_wp2
    go_ret
    rw [HE.out]
    exact ⟨rfl, Below.refl _ _⟩
  have HN : Hid (nameL l = (shown l && Lib.validD l)) := by unfold Hid; rw [nameL_true h1 (by omega) h3 h4]; exact ok_shown _ l (Nat.le_refl _)
  have hl : l.length ≤ 60 := by omega
  have hli : (l.length : Int) ≤ 60 := by omega
  have he : l.isEmpty = false := by simpa using h1
  have h3' : (l == [46]) = false := by simpa using h3
  have h4' : (l == [46, 46]) = false := by simpa using h4
  have hsz : (ByteArray.mk l.toArray).size = l.length := List.size_toArray
  obtain ⟨s, hse⟩ : ∃ s : ByteArray, s = ⟨l.toArray⟩ := ⟨_, rfl⟩
  have hsl : s.data.toList = l := by rw [hse]
  have hss : s.size ≤ 60 := by rw [hse, hsz]; exact hl
  go_enter Tryd.func51, Tryd.ntmps51
  go_wp2
  clear h3' h4' he hli
  go_loopw [] (fun wr => ∃ (pos : Nat), wr.heap[w.heap.size]? = some (.stringIter s pos) ∧ pos ≤ s.size ∧ shown l = shown (s.data.toList.drop pos) ∧ Below w.heap.size w wr) (fun wr => s.size - wr.iterPos w.heap.size)
  case atStart =>
    refine ⟨0, ?_, Nat.zero_le _, by rw [hsl]; rfl, (Below.refl _ w).alloc (Nat.le_refl _) _⟩
    have := World.iter_heap w s 0
    rw [hse] at this ⊢
    simpa using this
  case round =>
    obtain ⟨pos, hit, hp, hk, hb⟩ := hrel
    by_cases hlt : pos < s.size
    · have hnx : ∀ ty, (Instr.next (.pointer (some ⟨w.heap.size, 0, none⟩)) true ty).run Tryd.prog wr = _ := fun ty => Lib.run_next_any_at wr w.heap.size s pos ty hit hlt
      have hw := dec_width s pos hlt
      have HC : Hid (_ = _) := shown_at s pos hlt
      have hit2 := Lib.iterAt_heap wr w.heap.size s pos (pos + (Utf8.decode s pos).2) hit
      have hb2 := Lib.below_iterAt hb (k := w.heap.size) (Nat.le_refl _) s (pos + (Utf8.decode s pos).2)
      have HK : Hid (shown l = shown (s.data.toList.drop pos)) := hk
      clear hk hse hsl hsz
      generalize (Utf8.decode s pos).1 = R at *
      by_cases hbad : R < 32 ∨ R = 127 ∨ R = 47
      · have HE : Hid (nameL l = false) := by
          unfold Hid
          rw [HN.out, HK.out, HC.out]
          rcases hbad with h | h | h <;> simp [h]
        clear HN HK HC
        rcases hbad with h | rfl | rfl
        · have hi : (R : Int) < 32 := by omega
          go_wp2
          go_ret
          rw [HE.out]
          exact ⟨rfl, hb2⟩
        · go_wp2
          go_ret
          rw [HE.out]
          exact ⟨rfl, hb2⟩
        · go_wp2
          go_ret
          rw [HE.out]
          exact ⟨rfl, hb2⟩
      · have g1 : ¬ (R : Int) < 32 := by omega
        have g1' : (32 : Int) ≤ (R : Int) := by omega
        have g2 : ¬ (R : Int) = 127 := by omega
        have g3 : ¬ (R : Int) = 47 := by omega
        have n2 : ((R : Int) == 127) = false := by simpa using g2
        have n3 : ((R : Int) == 47) = false := by simpa using g3
        have HE : Hid (shown l = shown (s.data.toList.drop (pos + (Utf8.decode s pos).2))) := by
          unfold Hid
          rw [HK.out, HC.out]
          have a1 : decide (R < 32) = false := by simp; omega
          have a2 : decide (R = 127) = false := by simp; omega
          have a3 : decide (R = 47) = false := by simp; omega
          simp [a1, a2, a3]
        clear HK HC hbad g2 g3
        go_wp2
        go_roundw
        case rel => exact ⟨pos + (Utf8.decode s pos).2, hit2, hw.2, HE.out, hb2⟩
        case measure =>
          simp only [World.iterPos, hit2, hit]
          omega
    · have hnx : ∀ ty, (Instr.next (.pointer (some ⟨w.heap.size, 0, none⟩)) true ty).run Tryd.prog wr = _ := fun ty => Lib.run_next_end_at wr w.heap.size s pos ty hit hlt
      have HE : Hid (nameL l = Lib.validD l) := by
        unfold Hid
        rw [HN.out, hk, left_end s pos hlt, shown_nil, Bool.true_and]
      have HV : Hid (Calls _ _ _ _ _) := vstr_any ⟨l.toArray⟩ wr (by rw [hsz]; omega) (hL.below hb)
      clear hk HN hse hsl hsz
      go_wp2_with fail
      refine (Hid.out HV : Calls _ _ _ _ _).mono ?_
      rintro e w1 ⟨rfl, hb3⟩
      go_wp2
      go_ret
      rw [HE.out]
      exact ⟨rfl, hb.trans (hb3.mono hb.size)⟩
theorem split_parts (l : List UInt8) : Lib.splitB ⟨#[47]⟩ 0 (Lib.countB ⟨l.toArray⟩ ⟨#[47]⟩) ⟨l.toArray⟩ = (parts l).map mkB := by
  have hc : Lib.countB ⟨l.toArray⟩ ⟨#[47]⟩ = l.count 47 := Lib.count_one 47 l
  have hk := splitB_K ⟨#[47]⟩ 0 (Lib.countB ⟨l.toArray⟩ ⟨#[47]⟩) ⟨l.toArray⟩
  have e : Lib.splitK (ByteArray.mk #[47]).data.toList 0 (Lib.countB ⟨l.toArray⟩ ⟨#[47]⟩) (ByteArray.mk l.toArray).data.toList = parts l := splitK_parts _ l (by rw [hc])
  rw [e] at hk
  rw [← hk, List.map_map]
  conv => lhs; rw [← List.map_id (Lib.splitB _ _ _ _)]
  exact List.map_congr_left fun a _ => mkB_inj a _ rfl
theorem parts_row (w : World) (ps : List (List UInt8)) (i : Nat) (hi : i < ps.length) :
    (w.alloc (.cells ((ps.map mkB).map Value.string).toArray 9)).cell? ⟨w.heap.size, i, none⟩ = some (.string (mkB (ps.getD i []))) := by
  rw [Lib.cell_of_heap (heap_alloc_new w _)]
  simp [hi, List.getD]
theorem getD_mem {ps : List (List UInt8)} {i : Nat} (hi : i < ps.length) : ps.getD i [] ∈ ps := by
  rw [List.getD_eq_getElem?_getD, List.getElem?_eq_getElem hi]
  exact List.getElem_mem hi
theorem take_all (ps : List (List UInt8)) (k : Nat) (hk : k < ps.length) (f : List UInt8 → Bool) : (ps.take (k + 1)).all f = ((ps.take k).all f && f (ps.getD k [])) := by
  rw [List.take_succ_eq_append_getElem hk, List.all_append, List.getD_eq_getElem?_getD, List.getElem?_eq_getElem hk]
  simp
theorem all_false {ps : List (List UInt8)} {f : List UInt8 → Bool} {k : Nat} (hk : k < ps.length) (h : f (ps.getD k []) = false) : ps.all f = false := by
  rw [List.all_eq_false]
  exact ⟨_, getD_mem hk, by rw [h]; decide⟩
set_option maxHeartbeats 1000000 in
set_option maxRecDepth 100000 in
theorem is_any (l : List UInt8) (w : World) (hs : l.length ≤ 9223372036854775807) (hL : Lay11 w) :
    Calls Tryd.prog 39 #[.string ⟨l.toArray⟩] w fun e w' => e = .returned (.bool (isL l)) ∧ Below w.heap.size w w' := by
  by_cases h1 : 200 < l.length
  · have HE : Hid (isL l = false) := by
      have : decide (l.length ≤ 200) = false := by simp; omega
      unfold Hid isL
      simp [this]
    have h1i : (200 : Int) < (l.length : Int) := by omega
    go_enter Tryd.func39, Tryd.ntmps39
    go_wp2
    go_ret
    rw [HE.out]
    exact ⟨rfl, Below.refl _ _⟩
  have h1i : ¬ (200 : Int) < (l.length : Int) := by omega
  have h1j : (l.length : Int) ≤ 200 := by omega
  have hmx := hL.max
  obtain ⟨m, hm⟩ := hmx
  have HS : Hid (Calls _ _ _ _ _) := Tryd.strings_Split ⟨l.toArray⟩ ⟨#[47]⟩ m w (by show l.toArray.size < _; rw [List.size_toArray]; omega) hm (by decide)
  have hcn : Lib.countB ⟨l.toArray⟩ ⟨#[47]⟩ + 1 = (parts l).length := by rw [parts_size]; congr 1; exact Lib.count_one 47 l
  unfold Hid at HS
  rw [split_parts, hcn] at HS
  have hpl : (parts l).length ≤ 201 := by rw [parts_size]; have := List.count_le_length (a := 47) (l := l); omega
  have HPL : Hid (∀ p ∈ parts l, p.length ≤ 200) := fun p hp => Nat.le_trans (parts_le l p hp) (by omega)
  have HI : Hid (isL l = (decide ((parts l).length ≤ 8) && (parts l).all nameL)) := by
    have h2 : decide (l.length ≤ 200) = true := by simp; omega
    unfold Hid isL
    rw [h2, Bool.true_and]
  clear hcn hm
  generalize parts l = ps at *
  have HR : Hid (∀ i, i < ps.length → (w.alloc (.cells ((ps.map mkB).map Value.string).toArray 9)).cell? ⟨w.heap.size, i, none⟩ = some (.string (mkB (ps.getD i [])))) := fun i hi => parts_row w ps i hi
  have HB0 : Hid (Below w.heap.size w (w.alloc (.cells ((ps.map mkB).map Value.string).toArray 9))) := (Below.refl _ w).alloc (Nat.le_refl _) _
  have hz0 : (w.alloc (.cells ((ps.map mkB).map Value.string).toArray 9)).heap.size = w.heap.size + 1 := by simp
  go_enter Tryd.func39, Tryd.ntmps39
  go_wp2_with fail
  refine (HS : Calls _ _ _ _ _).mono ?_
  rintro e w1 ⟨rfl, rfl⟩
  generalize World.alloc w _ = W0 at *
  clear HS
  by_cases h8 : 8 < ps.length
  · have h8i : (8 : Int) < (ps.length : Int) := by omega
    have HE : Hid (isL l = false) := by
      have : decide (ps.length ≤ 8) = false := by simp; omega
      unfold Hid
      rw [HI.out]
      simp [this]
    go_wp2
    go_ret
    rw [HE.out]
    exact ⟨rfl, HB0.out⟩
  have h8i : ¬ (8 : Int) < (ps.length : Int) := by omega
  have h8j : (ps.length : Int) ≤ 8 := by omega
  have HI2 : Hid (isL l = ps.all nameL) := by
    have h2 : decide (ps.length ≤ 8) = true := by simp; omega
    unfold Hid
    rw [HI.out, h2, Bool.true_and]
  clear HI
  go_wp2
  go_loopw [16] (fun v wr => ∃ (k : Nat), v = .int .i64 (k : Int) ∧ k ≤ ps.length ∧ (ps.take k).all nameL = true ∧ Below W0.heap.size W0 wr) (fun v _ => ps.length - (intOf v).toNat)
  case atStart => exact ⟨0, rfl, Nat.zero_le _, rfl, Below.refl _ _⟩
  case round =>
    obtain ⟨k, rfl, hk, hall, hb⟩ := hrel
    have HB : Hid (Below w.heap.size w wr) := HB0.out.trans (hb.mono (by omega))
    by_cases hlt : k < ps.length
    · have hcell : wr.cell? ⟨w.heap.size, k, none⟩ = some (.string (mkB (ps.getD k []))) := by
        rw [← HR.out k hlt]
        exact hb.cell (p := ⟨w.heap.size, k, none⟩) (by show w.heap.size < _; omega)
      have hpk := HPL.out _ (getD_mem hlt)
      have HT : Hid (_ = _) := take_all ps k hlt nameL
      have HF : Hid (nameL (ps.getD k []) = false → ps.all nameL = false) := fun h => all_false hlt h
      have HA : Hid ((ps.take k).all nameL = true) := hall
      have hzr := hb.size
      clear hall
      generalize ps.getD k [] = q at *
      have HN : Hid (Calls _ _ _ _ _) := name_any q wr (by omega) (hL.below (HB.out))
      cases hq : nameL q with
      | false =>
        unfold Hid at HN
        rw [hq] at HN
        go_wp2_with fail
        refine (HN : Calls _ _ _ _ _).mono ?_
        rintro e w2 ⟨rfl, hb2⟩
        go_wp2
        go_ret
        rw [HI2.out, HF.out hq]
        exact ⟨rfl, HB.out.trans (hb2.mono HB.out.size)⟩
      | true =>
        unfold Hid at HN
        rw [hq] at HN
        go_wp2_with fail
        refine (HN : Calls _ _ _ _ _).mono ?_
        rintro e w2 ⟨rfl, hb2⟩
        go_wp2
        go_roundw
        case rel => exact ⟨k + 1, by go_num, by omega, by rw [HT.out, HA.out, hq]; rfl, hb.trans (hb2.mono hb.size)⟩
        case measure => simp [intOf]; omega
    · have HE : Hid (isL l = true) := by unfold Hid; rw [HI2.out, ← hall, List.take_of_length_le (by omega)]
      clear hall
      go_wp2
      go_ret
      rw [HE.out]
      exact ⟨rfl, HB.out⟩
end Go.Proofs.YtkgjepgaekbniaaDoor
