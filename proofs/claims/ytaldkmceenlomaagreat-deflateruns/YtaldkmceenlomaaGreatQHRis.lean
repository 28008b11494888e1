/- huff.rising: the symbols that have a count, by rising counts. -/
import Derived.Test.YtaldkmceenlomaaGreatQHInsA
import Derived.Test.YtaldkmceenlomaaGreatQHuffC
import Derived.Test.YtaldkmceenlomaaGreatQHMrg
import Derived.Lib.OwnBridge
namespace Go.Proofs.YtaldkmceenlomaaGreat
open Go.RowKit
set_option linter.unusedVariables false
set_option linter.unusedSimpArgs false

/-- The symbols below k that have a count. -/
def posL (zs : List Int) (k : Nat) : List Nat := (List.range k).filter fun i => decide (0 < zs.getD i 0)
theorem posL_yes {zs : List Int} {k : Nat} (h : 0 < zs.getD k 0) : posL zs (k + 1) = posL zs k ++ [k] := by
  unfold posL; rw [List.range_succ, List.filter_append]
  simp only [List.filter_cons, h, decide_true, if_true, List.filter_nil]
theorem posL_no {zs : List Int} {k : Nat} (h : ¬ 0 < zs.getD k 0) : posL zs (k + 1) = posL zs k := by
  unfold posL; rw [List.range_succ, List.filter_append]
  simp only [List.filter_cons, h, decide_false, List.filter_nil, List.append_nil]
  simp
theorem posL_len (zs : List Int) (k : Nat) : (posL zs k).length ≤ k := by
  have := List.length_filter_le (fun i => decide (0 < zs.getD i 0)) (List.range k)
  rw [List.length_range] at this
  exact this
theorem posL_mem {zs : List Int} {k i : Nat} : i ∈ posL zs k ↔ i < k ∧ 0 < zs.getD i 0 := by
  unfold posL; rw [List.mem_filter, List.mem_range, decide_eq_true_iff]
/-- Numbers as cells. -/
def nch (l : List Nat) : List Value := l.map fun n : Nat => Value.int .i64 (n : Int)
theorem nch_snoc (l : List Nat) (n : Nat) : nch (l ++ [n]) = nch l ++ [.int .i64 (n : Int)] := by simp [nch]
theorem nch_len (l : List Nat) : (nch l).length = l.length := by simp [nch]
theorem nch_at (l : List Nat) (i : Nat) (h : i < l.length) : (nch l)[i]? = some (.int .i64 (l.getD i 0 : Int)) := by
  simp [nch, List.getElem?_eq_getElem h, List.getD_eq_getElem?_getD]
theorem rising_of : ∀ (l : List Nat), (∀ i j, i < j → j < l.length → l.getD i 0 ≤ l.getD j 0) → Rising l
  | [], _ => trivial
  | a :: l, h => by
    refine ⟨fun v hv => ?_, rising_of l fun i j h1 h2 => by simpa using h (i + 1) (j + 1) (by omega) (by simpa using h2)⟩
    obtain ⟨j, hj, rfl⟩ := List.mem_iff_getElem.1 hv
    have := h 0 (j + 1) (by omega) (by simpa using hj)
    simpa [List.getD_eq_getElem?_getD, List.getElem?_eq_getElem hj] using this
/-- What rising answers: the symbols with a count, in some order in which the counts rise. -/
structure RisP (zs : List Int) (ss : List Nat) : Prop where
  perm : ss.Perm (posL zs zs.length)
  rise : Rising (ss.map fun i => (zs.getD i 0).toNat)
theorem rows_nums {w : World} {B n : Nat} {v : Value} {l : List Nat} (h : w.ownsRow B 3 1 v n (nch l)) : NR w v l := by
  have hl := h.1
  rw [nch_len, Nat.mul_one] at hl
  subst hl
  have hlt := h.lt
  rcases h.2 with ⟨rfl, h0⟩ | ⟨g, cap, cur, rfl, _, _, hc, _⟩
  · exact ⟨none, 0, by rw [h0], by omega, fun hne => absurd (List.eq_nil_of_length_eq_zero h0) hne⟩
  · exact ⟨_, cap, rfl, hc, fun _ => ⟨g, 0, rfl, (hlt g rfl).2, fun i hi => by rw [Nat.zero_add, h.cellAt i (by omega), nch_at _ _ hi]⟩⟩
/-- A number below N, as such. -/
def toF (N : Nat) [Inhabited (Fin N)] (i : Nat) : Fin N := if h : i < N then ⟨i, h⟩ else default
theorem toF_val {N : Nat} [Inhabited (Fin N)] {i : Nat} (h : i < N) : (toF N i).val = i := by unfold toF; rw [dif_pos h]

set_option maxRecDepth 100000 in
set_option maxHeartbeats 1000000 in
theorem insNil_any (f : Value) (w : World) :
    Calls Tryz.prog 136 #[.slice none 0 0, .int .i64 0, .int .i64 0, f] w fun e w' => e = .returned (.tuple #[]) ∧ w' = w := by
  go_enter Tryz.func136, Tryz.ntmps136
  go_wp2
  go_loopw [8] (fun i wr => i = .int .i64 1 ∧ wr = w) (fun i _ => 0)
  case atStart => exact ⟨rfl, rfl⟩
  case round =>
    obtain ⟨rfl, rfl⟩ := hrel
    go_wp2
    exact bodyPost_end (results_none rfl _ _ _) rfl ⟨rfl, rfl⟩
set_option maxRecDepth 100000 in
set_option maxHeartbeats 1000000 in
theorem stbNil_any (f : Value) (w : World) :
    Calls Tryz.prog 131 #[.slice none 0 0, .int .i64 0, f] w fun e w' => e = .returned (.tuple #[]) ∧ w' = w := by
  go_enter Tryz.func131, Tryz.ntmps131
  go_wp2
  go_loopw [7, 8] (fun i j wr => i = .int .i64 0 ∧ j = .int .i64 20 ∧ wr = w) (fun i _ _ => 0)
  case atStart => exact ⟨rfl, rfl, rfl⟩
  case round =>
    obtain ⟨rfl, rfl, rfl⟩ := hrel
    go_wp2_with fail
    refine (insNil_any f _).mono ?_
    rintro e w1 ⟨rfl, rfl⟩
    go_wp2
    go_loopw [6] (fun i wr => i = .int .i64 20 ∧ wr = w1) (fun i _ => 0)
    case atStart => exact ⟨rfl, rfl⟩
    case round =>
      obtain ⟨rfl, rfl⟩ := hrel
      go_wp2
      exact bodyPost_end (results_none rfl _ _ _) rfl ⟨rfl, rfl⟩
set_option maxRecDepth 100000 in
set_option maxHeartbeats 1000000 in
theorem sortNil_any (f : Value) (w : World) :
    Calls Tryz.prog 123 #[.slice none 0 0, f] w fun e w' => e = .returned (.tuple #[]) ∧ w' = w := by
  go_enter Tryz.func123, Tryz.ntmps123
  go_wp2_with fail
  refine (stbNil_any f _).mono ?_
  rintro e w1 ⟨rfl, rfl⟩
  go_wp2
  exact bodyPost_end (results_none rfl _ _ _) rfl ⟨rfl, rfl⟩
/-- The sort, in the words of rows. -/
theorem sortRow_any (zs : List Int) (l : List Nat) (B bx g o capz : Nat) (v : Value) (w : World) (hbx : w.cell? ⟨bx, 0, none⟩ = some (.slice (some ⟨g, o, none⟩) zs.length capz))
    (hc : ∀ i, i < zs.length → w.cell? ⟨g, o + i, none⟩ = some (.int .i64 (zs.getD i 0))) (h1 : bx < B) (h2 : g < B) (hB : B ≤ w.heap.size) (hl : l ≠ []) (hlt : ∀ i ∈ l, i < zs.length) (hlen : l.length ≤ 1000000)
    (hown : w.ownsRow B 3 1 v l.length (nch l)) :
    Calls Tryz.prog 123 #[v, .func (.func 124) #[] #[.pointer (some ⟨bx, 0, none⟩)]] w fun e w' =>
      e = .returned (.tuple #[]) ∧ ∃ ss : List Nat, ss.Perm l ∧ Rising (ss.map fun i => (zs.getD i 0).toNat) ∧ w'.ownsRow B 3 1 v ss.length (nch ss) ∧ Below B w w' := by
  have hN : 0 < zs.length := by
    cases l with
    | nil => exact absurd rfl hl
    | cons a r => have := hlt a (by simp); omega
  letI : Inhabited (Fin zs.length) := ⟨⟨0, hN⟩⟩
  have hl0 : 0 < l.length := by cases l with | nil => exact absurd rfl hl | cons a r => simp
  have hltB := hown.lt
  obtain ⟨blk, cap, rfl, hBb, hbl⟩ : ∃ blk cap, v = .slice (some ⟨blk, 0, none⟩) l.length cap ∧ B ≤ blk ∧ blk < w.heap.size := by
    rcases hown.2 with ⟨_, h0⟩ | ⟨blk, cap, cur, rfl, hb, _⟩
    · omega
    · exact ⟨blk, cap, rfl, hb, (hltB blk rfl).2⟩
  have hmap : nch l = (l.map (toF zs.length)).map (eF (N := zs.length)) := by
    unfold nch eF
    rw [List.map_map]
    refine List.map_congr_left fun i hi => ?_
    show _ = Value.int .i64 ((toF zs.length i).val : Int)
    rw [toF_val (hlt i hi)]
  rw [hmap] at hown
  have hH : Sort.Holds (eF (N := zs.length)) w blk 0 (l.map (toF zs.length)).toArray := by
    obtain ⟨g', cap', e1, _, _, _, _, _, hh⟩ := Lib.holds_of_ownsRow hown (by intro e; cases e)
    injection e1 with e2
    injection e2 with e3
    injection e3 with e4
    rw [e4]
    exact hh
  have hsz : (l.map (toF zs.length)).toArray.size = l.length := by simp
  have h := sortStable_any zs bx g o capz blk 0 cap (l.map (toF zs.length)).toArray w hbx hc (by omega) (by omega) (by omega) (by omega) hH (by rw [hsz]; exact hlen)
  rw [hsz] at h
  refine h.mono ?_
  rintro e w' ⟨rfl, d', q1, q2, k, rfl⟩
  have hs1 : d'.size = l.length := by rw [q1.1, hsz]
  have hpm : d'.toList.Perm (l.map (toF zs.length)) := by
    have := q1.2.2
    rw [← hs1, Array.extract_size] at this
    rw [show d'.size = (l.map (toF zs.length)).toArray.size by rw [hs1, hsz], Array.extract_size] at this
    exact this
  have hlm : d'.toList.length = l.length := by rw [Array.length_toList]; exact hs1
  have hback : (l.map (toF zs.length)).map (fun x => x.val) = l := by
    rw [List.map_map]
    conv => rhs; rw [← List.map_id l]
    exact List.map_congr_left fun i hi => toF_val (hlt i hi)
  have hnc : nch (d'.toList.map fun x => x.val) = d'.toList.map (eF (N := zs.length)) := by
    unfold nch; rw [List.map_map]; rfl
  refine ⟨rfl, d'.toList.map (fun x => x.val), ?_, ?_, ?_, ?_⟩
  · have := hpm.map (fun x : Fin zs.length => x.val)
    rw [hback] at this
    exact this
  · refine rising_of _ fun i j hij hj => ?_
    rw [List.length_map, List.length_map, Array.length_toList, hs1] at hj
    have := q2 i j (Nat.zero_le _) hij hj
    rw [ltZ] at this
    have hle := of_decide_eq_false this
    have hat : ∀ m, m < l.length → ((d'.toList.map (fun x => x.val)).map fun i => (zs.getD i 0).toNat).getD m 0 = (zs.getD (d'[m]!).val 0).toNat := fun m hm => by
      rw [List.map_map, List.getD_eq_getElem?_getD, List.getElem?_map, List.getElem?_eq_getElem (by rw [Array.length_toList, hs1]; exact hm)]
      simp [getElem!_pos, show m < d'.size by omega]
    rw [hat i (by omega), hat j hj]
    omega
  · rw [hnc, List.length_map, hlm]
    have := Lib.ownsRow_putRow (q := k) (k := l.length) (ys := d'.toList) hown hlm (Nat.le_refl _)
    rw [List.take_of_length_le (by omega), Array.toArray_toList] at this
    exact this
  · exact Lib.below_putRow (q := k) (d := d') (Below.refl B w) hBb
set_option maxRecDepth 100000 in
set_option maxHeartbeats 1000000 in
theorem rising_any (v : Value) (zs : List Int) (w : World) (hR : IQ w v zs) (hl : zs.length ≤ 320) :
    Calls Tryz.prog 113 #[v] w fun e w' => ∃ (u : Value) (ss : List Nat), e = .returned u ∧ RisP zs ss ∧ w'.ownsRow w.heap.size 3 1 u ss.length (nch ss) ∧ Below w.heap.size w w' := by
  obtain ⟨i0, hi, hz0, hz1, hz2⟩ := info_parts Tryz.infoI
  obtain ⟨g, o, cap, rfl, hg, hc⟩ := hR
  have HC : Hid (∀ i, i < zs.length → w.cell? ⟨g, o + i, none⟩ = some (.int .i64 (zs.getD i 0))) := hc
  clear hc
  go_enter Tryz.func113, Tryz.ntmps113
  go_wp2
  generalize hW1 : World.alloc w _ = w1
  have hsz1 : w1.heap.size = w.heap.size + 1 := by rw [← hW1, World.size_alloc]
  have hbx : w1.cell? ⟨w.heap.size, 0, none⟩ = some (.slice (some ⟨g, o, none⟩) zs.length cap) := by rw [← hW1]; exact World.cell?_alloc_mark _ _ _ _ _
  have hb1 : Below w.heap.size w w1 := by rw [← hW1]; exact (Below.refl _ w).alloc (Nat.le_refl _) _
  have HBX : Hid _ := hbx
  clear hW1 hbx
  have HC1 : Hid (∀ i, i < zs.length → w1.cell? ⟨g, o + i, none⟩ = some (.int .i64 (zs.getD i 0))) := fun i h => by rw [hb1.cell (p := ⟨g, o + i, none⟩) hg]; exact HC.out i h
  clear HC
  go_loopw [3, 8] (fun v i wr => ∃ k : Nat, k ≤ zs.length ∧ i = .int .i64 (k : Int) ∧ wr.ownsRow (w.heap.size + 1) 3 1 v (posL zs k).length (nch (posL zs k)) ∧ (posL zs k = [] → v = .slice none 0 0) ∧ Below (w.heap.size + 1) w1 wr) (fun _ i _ => zs.length - (intOf i).toNat)
  case atStart => exact ⟨0, by omega, rfl, World.ownsRow_nil _ _ _ _, fun _ => rfl, Below.refl _ _⟩
  case round =>
    obtain ⟨k, hk, rfl, hown, hnil, hbel⟩ := hrel
    have hbsz := hbel.size
    by_cases hlt : k < zs.length
    · have hki : (k : Int) < (zs.length : Int) := by omega
      have hc : wr.cell? ⟨g, o + k, none⟩ = some (.int .i64 (zs.getD k 0)) := by rw [hbel.cell (p := ⟨g, o + k, none⟩) (by show g < _; omega)]; exact HC1.out k hlt
      by_cases hp : 0 < zs.getD k 0
      · have HX : Hid (_ = _) := posL_yes hp
        have hpl := posL_len zs k
        generalize posL zs k = L at *
        generalize zs.getD k 0 = z at *
        go_wp2_with (at_builtin; refine wpList_append_own _ rfl _ _ 42 rfl (w.heap.size + 1) 3 i0 (.int .i64 0) 1 8 Tryz.underlying42 hi hz0 hz1 hz2 rfl (by decide) _ _ _ rfl (hown.alloc _) ⟨wr.heap.size, 0, none⟩ 1 1 [.int .i64 (k : Int)] rfl rfl (cell_one_new _ _ _) ?c2 ?c3 ?c4 ?c5 ?_)
        case c2 => first | rfl | (intro u hu; simp at hu; subst hu; rfl)
        case c3 => unfold maxLen; omega
        case c4 => omega
        case c5 => simp; omega
        intro v' w2 hown' hgrow _
        have hb2 := bel_append hbel (by omega) hown hgrow
        have ho2 : w2.ownsRow (w.heap.size + 1) 3 1 v' (posL zs (k + 1)).length (nch (posL zs (k + 1))) := by rw [HX.out, nch_snoc, List.length_append]; exact hown'
        clear hown hbel hown' hgrow
        go_wp2
        go_roundw
        case rel => exact ⟨k + 1, by omega, by go_num, ho2, fun h => by rw [HX.out] at h; simp at h, hb2⟩
        case measure => simp [intOf]; omega
      · have HX : Hid (_ = _) := posL_no hp
        generalize zs.getD k 0 = z at *
        rw [← HX.out] at hown hnil
        go_wp2
        go_roundw
        case rel => exact ⟨k + 1, by omega, by go_num, hown, hnil, hbel⟩
        case measure => simp [intOf]; omega
    · obtain rfl : k = zs.length := by omega
      have hbw : Below w.heap.size w wr := hb1.trans (hbel.mono (by omega))
      by_cases he : posL zs zs.length = []
      · obtain rfl := hnil he
        go_wp2_with fail
        refine (sortNil_any _ _).mono ?_
        rintro e w2 ⟨rfl, rfl⟩
        go_wp2
        go_ret
        refine ⟨_, [], rfl, ⟨by rw [he], trivial⟩, World.ownsRow_nil _ _ _ _, hbw⟩
      · have HS : Hid (_) := sortRow_any zs (posL zs zs.length) (w.heap.size + 1) w.heap.size g o cap _ wr
          (by rw [hbel.cell (p := ⟨w.heap.size, 0, none⟩) (by show w.heap.size < _; omega)]; exact HBX.out)
          (fun i hi => by rw [hbel.cell (p := ⟨g, o + i, none⟩) (by show g < _; omega)]; exact HC1.out i hi) (by omega) (by omega) (by omega) he (fun i h => (posL_mem.1 h).1) (by have := posL_len zs zs.length; omega) hown
        clear hown hnil hbel
        go_wp2_with fail
        refine (Hid.out HS : Calls _ _ _ _ _).mono ?_
        rintro e w2 ⟨rfl, ss, q1, q2, q3, q4⟩
        have hbF := hbw.trans (q4.mono (by omega))
        have hoF : w2.ownsRow w.heap.size 3 1 u3 ss.length (nch ss) := by
          obtain ⟨r1, r2⟩ := q3
          refine ⟨r1, ?_⟩
          rcases r2 with r | ⟨a, b, c, s1, s2, s3⟩
          · exact .inl r
          · exact .inr ⟨a, b, c, s1, by omega, s3⟩
        clear q3 q4
        go_wp2
        go_ret
        exact ⟨_, ss, rfl, ⟨q1, q2⟩, hoF, hbF⟩
end Go.Proofs.YtaldkmceenlomaaGreat
