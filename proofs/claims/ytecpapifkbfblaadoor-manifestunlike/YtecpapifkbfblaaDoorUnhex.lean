/- Contract of bits.Unhex: the bytes of a text of digits, or none. -/
import Derived.Test.YtecpapifkbfblaaDoorU8
import Derived.Test.YtecpapifkbfblaaDoorCrcM
import Derived.Test.YtecpapifkbfblaaDoorWorth
import Derived.Test.YtecpapifkbfblaaDoorBsM
import Derived.Lib.OthersKept
import Derived.Laws.RangeAny
namespace Go.Proofs.YtecpapifkbfblaaDoor
open Go.RowKit
set_option linter.unusedVariables false

theorem own_iter {w : World} {base gi : Nat} {e : TypeId} {sz n : Nat} {v : Value} {xs : List Value} {s : ByteArray} {p : Nat} (h : w.ownsRow base e sz v n xs) (hk : w.heap[gi]? = some (.stringIter s p)) (p' : Nat) : (w.iterAt gi s p').ownsRow base e sz v n xs := by
  obtain ⟨hl, h⟩ := h
  refine ⟨hl, ?_⟩
  rcases h with h | ⟨g, cap, cur, hv, hb, hg, hrest⟩
  · exact .inl h
  · have hne : g ≠ gi := fun e => by rw [e, hk] at hg; cases hg
    exact .inr ⟨g, cap, cur, hv, hb, by rw [Lib.iterAt_other _ _ _ _ _ hne]; exact hg, hrest⟩
theorem iter_kept {w w1 : World} {base gi : Nat} {e : TypeId} {sz n : Nat} {v : Value} {xs : List Value} {s : ByteArray} {p : Nat} {o : Obj} (h : w.ownsRow base e sz v n xs) (hk : w.heap[gi]? = some (.stringIter s p)) (hg : (w.alloc o).grownBy w1 v.ownBlock) : w1.heap[gi]? = some (.stringIter s p) := by
  have hlt : gi < w.heap.size := by
    rcases Nat.lt_or_ge gi w.heap.size with hl | hl
    · exact hl
    · rw [Array.getElem?_eq_none hl] at hk; cases hk
  have hne : some gi ≠ v.ownBlock := by
    intro e
    rcases h.2 with ⟨rfl, _⟩ | ⟨g, cap, cur, rfl, _, hg2, _⟩
    · cases e
    · simp only [Value.ownBlock, Option.some.injEq] at e; rw [← e, hk] at hg2; cases hg2
  rw [hg.block gi (by rw [World.size_alloc]; omega) hne, heap_alloc_old _ _ hlt]; exact hk
/-- The loop's state. -/
def UR (s : ByteArray) (k : Nat) (v5 : Value) (dec : List Nat) : Prop :=
  UP s.data.toList dec ∧ (k = 2 * dec.length ∨ (k = 2 * dec.length + 1 ∧ ∃ h : 2 * dec.length < s.size, wor s[2 * dec.length].toNat < 16 ∧ v5 = .int .u8 (wor s[2 * dec.length].toNat : Int)))
theorem drop_at (s : ByteArray) (k : Nat) (h : k < s.size) : s.data.toList.drop k = s[k] :: s.data.toList.drop (k + 1) := by
  rw [List.drop_eq_getElem_cons (by simpa using h)]; rfl
theorem UR_odd {s : ByteArray} {k : Nat} {dec : List Nat} (h : UP s.data.toList dec) (hk : k = 2 * dec.length) (hlt : k < s.size) (hw : wor s[k].toNat < 16) : UR s (k + 1) (.int .u8 (wor s[k].toNat : Int)) dec := by
  subst hk; exact ⟨h, .inr ⟨rfl, hlt, hw, rfl⟩⟩
theorem UR_even {s : ByteArray} {k : Nat} {dec : List Nat} {v5 : Value} (h : UP s.data.toList dec) (hk : k = 2 * dec.length + 1) (h2 : 2 * dec.length < s.size) (hlt : k < s.size) (hw2 : wor s[2 * dec.length].toNat < 16) (hw : wor s[k].toNat < 16) :
    UR s (k + 1) v5 (dec ++ [16 * wor s[2 * dec.length].toNat + wor s[k].toNat]) := by
  subst hk
  refine ⟨h.step (by rw [drop_at s _ h2, drop_at s _ hlt]) hw2 hw, .inl ?_⟩
  simp; omega
theorem UR_bad {s : ByteArray} {k : Nat} {dec : List Nat} {v5 : Value} (h : UR s k v5 dec) (hlt : k < s.size) (hw : ¬ wor s[k].toNat < 16) : unhex s.data.toList = none := by
  obtain ⟨hU, h⟩ := h
  rcases h with rfl | ⟨rfl, h2, _⟩
  · exact hU.bad (by rw [drop_at s _ hlt]; exact unhex_bad _ _ hw)
  · exact hU.bad (by rw [drop_at s _ h2, drop_at s _ hlt]; exact unhex_bad2 _ _ _ hw)
theorem bs_dec {l : List UInt8} {dec : List Nat} (h : unhex l = some (dec.map UInt8.ofNat)) : bs dec = bs (uhL l) := by
  apply ba_ext
  have e : ∀ l : List Nat, (bs l).data.toList = l.map UInt8.ofNat := fun l => by simp [bs, strOfNums]
  rw [e, e]
  unfold uhL
  rw [h, Option.getD_some, List.map_map]
  have : (UInt8.ofNat ∘ UInt8.toNat) = id := by funext x; simp
  rw [this, List.map_id]

set_option maxRecDepth 100000 in
set_option maxHeartbeats 2000000 in
theorem unhex_even (s : ByteArray) (w : World) (hs : s.size ≤ 140737488351232) (he : s.size % 2 = 0) :
    Calls Tryd.prog 71 #[.string s] w fun e w' => e = .returned (.tuple #[.string (bs (uhL s.data.toList)), .bool ((unhex s.data.toList).isSome)]) ∧ Below w.heap.size w w' := by
  obtain ⟨i0, hi, hz0, hz1, hz2⟩ := info_parts Tryd.infoU8
  have he' : (s.size : Int) % 2 ≤ 0 := by omega
  go_enter Tryd.func71, Tryd.ntmps71
  go_wp2_with (at_make; refine wpList_make_own _ rfl _ _ 31 rfl w.heap.size 5 i0 (.int .u8 0) 1 Tryd.underlying31 hi hz0 hz1 .i64 .i64 _ (s.size / 2) rfl rfl (by omega) (by rw [hz2]; omega) (by unfold maxLen; omega) (Nat.le_refl _) ?_; intro w1 hown hgrow)
  have hb1 : Below w.heap.size w w1 := (Below.refl _ w).grown hgrow (Nat.le_refl _) (fun k hk => by cases hk)
  have hb2 : Below w.heap.size w (w1.iter s 0) := hb1.alloc hb1.size _
  have ho2 : (w1.iter s 0).ownsRow w.heap.size 5 1 (.slice (some ⟨w.heap.size, 0, none⟩) 0 (s.size / 2)) 0 [] := hown.alloc _
  have hit := World.iter_heap w1 s 0
  have hgi : w.heap.size ≤ w1.heap.size := hb1.size
  clear hgrow hown hb1
  generalize w1.iter s 0 = W at *
  generalize w1.heap.size = gi at *
  go_loopw [4, 5] (fun v4 v5 wr => ∃ (k : Nat) (dec : List Nat), k ≤ s.size ∧ dec.length ≤ s.size ∧ UR s k v5 dec ∧ wr.heap[gi]? = some (.stringIter s k) ∧ wr.ownsRow w.heap.size 5 1 v4 dec.length (cs dec) ∧ Below w.heap.size w wr)
    (fun _ _ wr => s.size - wr.iterPos gi)
  case atStart => exact ⟨0, [], by omega, by simp, ⟨UP.start _, .inl rfl⟩, hit, ho2, hb2⟩
  case round =>
    clear hit ho2 hb2
    obtain ⟨k, dec, hk, hdl, hU, hit, hown, hbel⟩ := hrel
    have hpos : wr.iterPos gi = k := by unfold World.iterPos; rw [hit]
    by_cases hlt : k < s.size
    · have hn := fun ty => Lib.run_next_any_at (P := Tryd.prog) wr gi s k ty hit hlt
      have HU : Hid _ := hU
      have hit2 := fun p => Lib.iterAt_heap wr gi s k p hit
      have hown2 := fun p => own_iter hown hit p
      have hbel2 := fun p => Lib.below_iterAt hbel hgi s p
      by_cases hw : wor s[k].toNat < 16
      · have hasc := wor_lt128 _ hw
        rw [decode_ascii s k hlt hasc] at hn
        have HIT : Hid _ := hit2 (k + 1)
        have HOW : Hid _ := hown2 (k + 1)
        have HBE : Hid _ := hbel2 (k + 1)
        clear hit2 hown2 hbel2 hown hbel hU hit
        go_wp2_with fail
        have HP : Hid ((wr.iterAt gi s (k + 1)).iterPos gi = k + 1) := by unfold Hid World.iterPos; rw [HIT.out]
        generalize wr.iterAt gi s (k + 1) = W2 at *
        refine (worth_yes _ _ hw).mono ?_
        rintro e w3 ⟨rfl, rfl⟩
        obtain ⟨hUP, hU | ⟨hU, hl2, hw2, rfl⟩⟩ := HU.out
        · have HR : Hid (UR _ _ _ _) := UR_odd hUP hU hlt hw
          have hev : (k : Int) % 2 ≤ 0 := by omega
          clear hUP hU HU
          go_wp2
          go_roundw
          case rel => exact ⟨k + 1, dec, by omega, hdl, HR.out, HIT.out, HOW.out, HBE.out⟩
          case measure => rw [HP.out, hpos]; omega
        · have HR : Hid (∀ v5, UR s (k + 1) v5 (dec ++ [16 * wor s[2 * dec.length].toNat + wor s[k].toNat])) := fun _ => UR_even hUP hU hl2 hlt hw2 hw
          have hov : 1 ≤ (k : Int) % 2 := by omega
          have hnib := nib_go (wor s[2 * dec.length].toNat) (wor s[k].toNat) hw2 hw
          have hown3 : w3.ownsRow w.heap.size 5 1 u4 dec.length (cs dec) := HOW.out
          have hdl2 : 2 * dec.length + 1 ≤ s.size := by omega
          clear hUP hU HU HOW
          generalize wor s[2 * dec.length].toNat = A at *
          generalize wor s[k].toNat = D at *
          go_wp2_with (at_builtin; refine wpList_append_own _ rfl _ _ 31 rfl w.heap.size 5 i0 (.int .u8 0) 1 1 Tryd.underlying31 hi hz0 hz1 hz2 rfl (by decide) _ _ _ rfl (hown3.alloc _) ⟨w3.heap.size, 0, none⟩ 1 1 [.int .u8 ((16 * A + D : Nat) : Int)] rfl rfl (cell_one_new _ _ _) ?c2 ?c3 ?c4 ?c5 ?_)
          case c2 => intro u hu; simp at hu; subst hu; rfl
          case c3 => unfold maxLen; omega
          case c4 => omega
          case c5 => have := HBE.out.size; simp; omega
          intro v' w4 hown' hgrow _
          have hb' := bel_append HBE.out (below_size HBE.out (Nat.le_refl _)) hown3 hgrow
          have hit4 := iter_kept hown3 HIT.out hgrow
          have HP4 : Hid (w4.iterPos gi = k + 1) := by unfold Hid World.iterPos; rw [hit4]
          have ho' : Hid (w4.ownsRow w.heap.size 5 1 v' (dec ++ [16 * A + D]).length (cs (dec ++ [16 * A + D]))) := by unfold Hid; rw [cs_snoc, List.length_append]; exact hown'
          have HI4 : Hid _ := hit4
          clear hown' hgrow hown3 HBE hit4 HIT HP
          go_wp2
          go_roundw
          case rel => exact ⟨k + 1, dec ++ [16 * A + D], by omega, by rw [List.length_append]; simp; omega, HR.out _, HI4.out, ho'.out, hb'⟩
          case measure => rw [HP4.out, hpos]; omega
      · have hge : ∃ r : Nat, (Utf8.decode s k).1 = r ∧ ¬ wor r < 16 := by
          by_cases hasc : s[k].toNat < 128
          · exact ⟨s[k].toNat, by rw [decode_ascii s k hlt hasc], hw⟩
          · have := (decode_high s k hlt (by omega)).1
            exact ⟨_, rfl, wor_high _ this⟩
        obtain ⟨r, hr, hwr⟩ := hge
        rw [hr] at hn
        have HB : Hid (unhex s.data.toList = none) := UR_bad HU.out hlt hw
        have HBE : Hid _ := hbel2 (k + (Utf8.decode s k).2)
        clear hit2 hown2 hbel2 hown hbel hU hit HU hr
        generalize k + (Utf8.decode s k).2 = k2 at *
        go_wp2_with fail
        generalize wr.iterAt gi s k2 = W2 at *
        refine (worth_no _ _ hwr).mono ?_
        rintro e w3 ⟨rfl, rfl⟩
        go_wp2
        go_ret2
        refine ⟨?_, HBE.out⟩
        rw [uhL_none HB.out, HB.out]; rfl
    · have hn := fun ty => Lib.run_next_end_at (P := Tryd.prog) wr gi s k ty hit hlt
      have hall : unhex s.data.toList = some (dec.map UInt8.ofNat) := by
        refine hU.1.all ?_
        rw [size_toList]
        rcases hU.2 with h | ⟨h, h2, _⟩ <;> omega
      have HA : Hid (_ = _) := hall
      have hc := conv_bs (P := Tryd.prog) (dst := 9) Tryd.underlying31 Tryd.underlying5 Tryd.underlying9 hown
      rw [bs_dec hall] at hc
      clear hown hU hall hit
      go_wp2
      go_ret2
      refine ⟨?_, hbel⟩
      rw [HA.out]; rfl

set_option maxRecDepth 100000 in
set_option maxHeartbeats 400000 in
theorem unhex_odd (s : ByteArray) (w : World) (hs : s.size ≤ 140737488351232) (he : ¬ s.size % 2 = 0) :
    Calls Tryd.prog 71 #[.string s] w fun e w' => e = .returned (.tuple #[.string (bs (uhL s.data.toList)), .bool ((unhex s.data.toList).isSome)]) ∧ Below w.heap.size w w' := by
  have HB : Hid (unhex s.data.toList = none) := unhex_odd_none _ (by rw [size_toList]; omega)
  have he' : 1 ≤ (s.size : Int) % 2 := by omega
  go_enter Tryd.func71, Tryd.ntmps71
  go_wp2
  go_ret2
  refine ⟨?_, Below.refl _ _⟩
  rw [uhL_none HB.out, HB.out]; rfl
theorem unhex_any (s : ByteArray) (w : World) (hs : s.size ≤ 140737488351232) :
    Calls Tryd.prog 71 #[.string s] w fun e w' => e = .returned (.tuple #[.string (bs (uhL s.data.toList)), .bool ((unhex s.data.toList).isSome)]) ∧ Below w.heap.size w w' := by
  by_cases he : s.size % 2 = 0
  · exact unhex_even s w hs he
  · exact unhex_odd s w hs he
end Go.Proofs.YtecpapifkbfblaaDoor
