/- huff.rising: the symbols that have a count, by rising counts. What huff.Lengths answers: plain mathematics, no program. -/
import Derived.Test.YtbknflckdbfogaaGreatQHInsA
import Derived.Test.YtbknflckdbfogaaGreatQHuffC
import Derived.Test.YtbknflckdbfogaaGreatQHMrg
import Derived.Lib.OwnBridge
import Derived.Test.YtbknflckdbfogaaGreatQHuffM
namespace Go.Proofs.YtbknflckdbfogaaGreat
open Go.RowKit
set_option linter.unusedVariables false
set_option linter.unusedSimpArgs false

/-- The symbols below k that have a count. -/
def posL (zs : List Int) (k : Nat) : List Nat := (List.range k).filter fun i => decide (0 < zs.getD i 0)
theorem posL_yes {zs : List Int} {k : Nat} (h : 0 < zs.getD k 0) : posL zs (k + 1) = posL zs k ++ [k] := by
  unfold posL; rw [List.range_succ, List.filter_append]
  simp only [List.filter_cons, h, decide_true, if_true, List.filter_nil]
theorem posL_no {zs : List Int} {k : Nat} (h : ¬ 0 < zs.getD k 0) : posL zs (k + 1) = posL zs k := by
  unfold posL; rw [List.range_succ, List.filter_append]
  simp only [List.filter_cons, h, decide_false, List.filter_nil, List.append_nil]
  simp
theorem posL_len (zs : List Int) (k : Nat) : (posL zs k).length ≤ k := by
  have := List.length_filter_le (fun i => decide (0 < zs.getD i 0)) (List.range k)
  rw [List.length_range] at this
  exact this
theorem posL_mem {zs : List Int} {k i : Nat} : i ∈ posL zs k ↔ i < k ∧ 0 < zs.getD i 0 := by
  unfold posL; rw [List.mem_filter, List.mem_range, decide_eq_true_iff]
/-- Numbers as cells. -/
theorem ris_left (l m : List Nat) (i : Nat) (h : i < l.length) : (l ++ m).getD i 0 = l.getD i 0 := by
  rw [List.getD_eq_getElem?_getD, List.getD_eq_getElem?_getD, List.getElem?_append_left h]
theorem ris_last (l : List Nat) (x : Nat) : (l ++ [x]).getD l.length 0 = x := by
  rw [List.getD_eq_getElem?_getD, List.getElem?_append_right (Nat.le_refl _), Nat.sub_self]; rfl
theorem posL_up (zs : List Int) : ∀ (k i j : Nat), i < j → j < (posL zs k).length → (posL zs k).getD i 0 < (posL zs k).getD j 0
  | 0, i, j, _, h => by unfold posL at h; simp at h
  | k + 1, i, j, hij, hj => by
    by_cases hp : 0 < zs.getD k 0
    · rw [posL_yes hp] at hj ⊢
      rw [List.length_append] at hj
      by_cases hk : j < (posL zs k).length
      · rw [ris_left _ _ _ (by omega), ris_left _ _ _ hk]
        exact posL_up zs k i j hij hk
      · have hjl : j = (posL zs k).length := by simp at hj; omega
        subst hjl
        rw [ris_left _ _ _ hij, ris_last]
        have : (posL zs k).getD i 0 ∈ posL zs k := by rw [List.getD_eq_getElem?_getD, List.getElem?_eq_getElem hij]; exact List.getElem_mem _
        exact (posL_mem.1 this).1
    · rw [posL_no hp] at hj ⊢
      exact posL_up zs k i j hij hj
def nch (l : List Nat) : List Value := l.map fun n : Nat => Value.int .i64 (n : Int)
theorem nch_snoc (l : List Nat) (n : Nat) : nch (l ++ [n]) = nch l ++ [.int .i64 (n : Int)] := by simp [nch]
theorem nch_len (l : List Nat) : (nch l).length = l.length := by simp [nch]
theorem nch_at (l : List Nat) (i : Nat) (h : i < l.length) : (nch l)[i]? = some (.int .i64 (l.getD i 0 : Int)) := by
  simp [nch, List.getElem?_eq_getElem h, List.getD_eq_getElem?_getD]
theorem rising_of : ∀ (l : List Nat), (∀ i j, i < j → j < l.length → l.getD i 0 ≤ l.getD j 0) → Rising l
  | [], _ => trivial
  | a :: l, h => by
    refine ⟨fun v hv => ?_, rising_of l fun i j h1 h2 => by simpa using h (i + 1) (j + 1) (by omega) (by simpa using h2)⟩
    obtain ⟨j, hj, rfl⟩ := List.mem_iff_getElem.1 hv
    have := h 0 (j + 1) (by omega) (by simpa using hj)
    simpa [List.getD_eq_getElem?_getD, List.getElem?_eq_getElem hj] using this
/-- Of like counts the lesser symbol stands ahead. -/
def TiesIn (zs : List Int) (ss : List Nat) : Prop := ∀ i j, i < j → j < ss.length → zs.getD (ss.getD i 0) 0 = zs.getD (ss.getD j 0) 0 → ss.getD i 0 < ss.getD j 0
/-- What rising answers: the symbols with a count, in some order in which the counts rise. -/
structure RisP (zs : List Int) (ss : List Nat) : Prop where
  perm : ss.Perm (posL zs zs.length)
  rise : Rising (ss.map fun i => (zs.getD i 0).toNat)
  tie : TiesIn zs ss
theorem rows_nums {w : World} {B n : Nat} {v : Value} {l : List Nat} (h : w.ownsRow B 3 1 v n (nch l)) : NR w v l := by
  have hl := h.1
  rw [nch_len, Nat.mul_one] at hl
  subst hl
  have hlt := h.lt
  rcases h.2 with ⟨rfl, h0⟩ | ⟨g, cap, cur, rfl, _, _, hc, _⟩
  · exact ⟨none, 0, by rw [h0], by omega, fun hne => absurd (List.eq_nil_of_length_eq_zero h0) hne⟩
  · exact ⟨_, cap, rfl, hc, fun _ => ⟨g, 0, rfl, (hlt g rfl).2, fun i hi => by rw [Nat.zero_add, h.cellAt i (by omega), nch_at _ _ hi]⟩⟩
/-- A number below N, as such. -/
def toF (N : Nat) [Inhabited (Fin N)] (i : Nat) : Fin N := if h : i < N then ⟨i, h⟩ else default
theorem toF_val {N : Nat} [Inhabited (Fin N)] {i : Nat} (h : i < N) : (toF N i).val = i := by unfold toF; rw [dif_pos h]

set_option maxRecDepth 100000 in
set_option maxHeartbeats 1000000 in
theorem insNil_any (f : Value) (w : World) :
    Calls Tryz.prog 135 #[.slice none 0 0, .int .i64 0, .int .i64 0, f] w fun e w' => e = .returned (.tuple #[]) ∧ w' = w := by
  go_enter Tryz.func135, Tryz.ntmps135
  go_wp2
  go_loopw [8] (fun i wr => i = .int .i64 1 ∧ wr = w) (fun i _ => 0)
  case atStart => exact ⟨rfl, rfl⟩
  case round =>
    obtain ⟨rfl, rfl⟩ := hrel
    go_wp2
    exact bodyPost_end (results_none rfl _ _ _) rfl ⟨rfl, rfl⟩
set_option maxRecDepth 100000 in
set_option maxHeartbeats 1000000 in
theorem stbNil_any (f : Value) (w : World) :
    Calls Tryz.prog 130 #[.slice none 0 0, .int .i64 0, f] w fun e w' => e = .returned (.tuple #[]) ∧ w' = w := by
  go_enter Tryz.func130, Tryz.ntmps130
  go_wp2
  go_loopw [7, 8] (fun i j wr => i = .int .i64 0 ∧ j = .int .i64 20 ∧ wr = w) (fun i _ _ => 0)
  case atStart => exact ⟨rfl, rfl, rfl⟩
  case round =>
    obtain ⟨rfl, rfl, rfl⟩ := hrel
    go_wp2_with fail
    refine (insNil_any f _).mono ?_
    rintro e w1 ⟨rfl, rfl⟩
    go_wp2
    go_loopw [6] (fun i wr => i = .int .i64 20 ∧ wr = w1) (fun i _ => 0)
    case atStart => exact ⟨rfl, rfl⟩
    case round =>
      obtain ⟨rfl, rfl⟩ := hrel
      go_wp2
      exact bodyPost_end (results_none rfl _ _ _) rfl ⟨rfl, rfl⟩
set_option maxRecDepth 100000 in
set_option maxHeartbeats 1000000 in
theorem sortNil_any (f : Value) (w : World) :
    Calls Tryz.prog 122 #[.slice none 0 0, f] w fun e w' => e = .returned (.tuple #[]) ∧ w' = w := by
  go_enter Tryz.func122, Tryz.ntmps122
  go_wp2_with fail
  refine (stbNil_any f _).mono ?_
  rintro e w1 ⟨rfl, rfl⟩
  go_wp2
  exact bodyPost_end (results_none rfl _ _ _) rfl ⟨rfl, rfl⟩
/-- The sort, in the words of rows. -/
theorem sortRow_any (zs : List Int) (l : List Nat) (B bx g o capz : Nat) (v : Value) (w : World) (hbx : w.cell? ⟨bx, 0, none⟩ = some (.slice (some ⟨g, o, none⟩) zs.length capz))
    (hc : ∀ i, i < zs.length → w.cell? ⟨g, o + i, none⟩ = some (.int .i64 (zs.getD i 0))) (h1 : bx < B) (h2 : g < B) (hB : B ≤ w.heap.size) (hl : l ≠ []) (hlt : ∀ i ∈ l, i < zs.length) (hlen : l.length ≤ 1000000)
    (hown : w.ownsRow B 3 1 v l.length (nch l)) (hup : ∀ i j, i < j → j < l.length → l.getD i 0 < l.getD j 0) :
    Calls Tryz.prog 122 #[v, .func (.func 123) #[] #[.pointer (some ⟨bx, 0, none⟩)]] w fun e w' =>
      e = .returned (.tuple #[]) ∧ ∃ ss : List Nat, ss.Perm l ∧ Rising (ss.map fun i => (zs.getD i 0).toNat) ∧ TiesIn zs ss ∧ w'.ownsRow B 3 1 v ss.length (nch ss) ∧ Below B w w' := by
  have hN : 0 < zs.length := by
    cases l with
    | nil => exact absurd rfl hl
    | cons a r => have := hlt a (by simp); omega
  letI : Inhabited (Fin zs.length) := ⟨⟨0, hN⟩⟩
  have hl0 : 0 < l.length := by cases l with | nil => exact absurd rfl hl | cons a r => simp
  have hltB := hown.lt
  obtain ⟨blk, cap, rfl, hBb, hbl⟩ : ∃ blk cap, v = .slice (some ⟨blk, 0, none⟩) l.length cap ∧ B ≤ blk ∧ blk < w.heap.size := by
    rcases hown.2 with ⟨_, h0⟩ | ⟨blk, cap, cur, rfl, hb, _⟩
    · omega
    · exact ⟨blk, cap, rfl, hb, (hltB blk rfl).2⟩
  have hmap : nch l = (l.map (toF zs.length)).map (eF (N := zs.length)) := by
    unfold nch eF
    rw [List.map_map]
    refine List.map_congr_left fun i hi => ?_
    show _ = Value.int .i64 ((toF zs.length i).val : Int)
    rw [toF_val (hlt i hi)]
  rw [hmap] at hown
  have hH : Sort.Holds (eF (N := zs.length)) w blk 0 (l.map (toF zs.length)).toArray := by
    obtain ⟨g', cap', e1, _, _, _, _, _, hh⟩ := Lib.holds_of_ownsRow hown (by intro e; cases e)
    injection e1 with e2
    injection e2 with e3
    injection e3 with e4
    rw [e4]
    exact hh
  have hsz : (l.map (toF zs.length)).toArray.size = l.length := by simp
  have h := sortStable_any zs bx g o capz blk 0 cap (l.map (toF zs.length)).toArray w hbx hc (by omega) (by omega) (by omega) (by omega) hH (by rw [hsz]; exact hlen)
  rw [hsz] at h
  refine h.mono ?_
  rintro e w' ⟨rfl, d', ⟨q1, qs⟩, q2, k, rfl⟩
  have hs1 : d'.size = l.length := by rw [q1.1, hsz]
  have hpm : d'.toList.Perm (l.map (toF zs.length)) := by
    have := q1.2.2
    rw [← hs1, Array.extract_size] at this
    rw [show d'.size = (l.map (toF zs.length)).toArray.size by rw [hs1, hsz], Array.extract_size] at this
    exact this
  have hlm : d'.toList.length = l.length := by rw [Array.length_toList]; exact hs1
  have hback : (l.map (toF zs.length)).map (fun x => x.val) = l := by
    rw [List.map_map]
    conv => rhs; rw [← List.map_id l]
    exact List.map_congr_left fun i hi => toF_val (hlt i hi)
  have hnc : nch (d'.toList.map fun x => x.val) = d'.toList.map (eF (N := zs.length)) := by
    unfold nch; rw [List.map_map]; rfl
  have hval : ∀ m, m < l.length → (d'.toList.map (fun x => x.val)).getD m 0 = (d'[m]!).val := fun m hm => by
    rw [List.getD_eq_getElem?_getD, List.getElem?_map, List.getElem?_eq_getElem (by rw [Array.length_toList, hs1]; exact hm)]
    simp [getElem!_pos, show m < d'.size by omega]
  have hst := qs (fun i j hij hj => by
    rw [hsz] at hj
    have hv : ∀ m, m < l.length → ((l.map (toF zs.length)).toArray[m]!).val = l.getD m 0 := fun m hm => by
      have hm' : m < (l.map (toF zs.length)).toArray.size := by rw [hsz]; exact hm
      rw [getElem!_pos (l.map (toF zs.length)).toArray m hm', List.getElem_toArray, List.getElem_map, toF_val (hlt _ (List.getElem_mem _)), List.getD_eq_getElem?_getD, List.getElem?_eq_getElem hm]
      rfl
    right; right
    rw [hv i (by omega), hv j hj]
    exact hup i j hij hj)
  refine ⟨rfl, d'.toList.map (fun x => x.val), ?_, ?_, ?_, ?_, ?_⟩
  · have := hpm.map (fun x : Fin zs.length => x.val)
    rw [hback] at this
    exact this
  · refine rising_of _ fun i j hij hj => ?_
    rw [List.length_map, List.length_map, Array.length_toList, hs1] at hj
    have := q2 i j (Nat.zero_le _) hij hj
    rw [ltZ] at this
    have hle := of_decide_eq_false this
    have hat : ∀ m, m < l.length → ((d'.toList.map (fun x => x.val)).map fun i => (zs.getD i 0).toNat).getD m 0 = (zs.getD (d'[m]!).val 0).toNat := fun m hm => by
      rw [List.map_map, List.getD_eq_getElem?_getD, List.getElem?_map, List.getElem?_eq_getElem (by rw [Array.length_toList, hs1]; exact hm)]
      simp [getElem!_pos, show m < d'.size by omega]
    rw [hat i (by omega), hat j hj]
    omega
  · intro i j hij hj he
    rw [List.length_map, Array.length_toList, hs1] at hj
    rw [hval i (by omega), hval j hj] at he ⊢
    rcases hst i j hij (by omega) with h | h | h
    · rw [ltZ] at h; have := of_decide_eq_true h; omega
    · rw [ltZ] at h; have := of_decide_eq_true h; omega
    · exact h
  · rw [hnc, List.length_map, hlm]
    have := Lib.ownsRow_putRow (q := k) (k := l.length) (ys := d'.toList) hown hlm (Nat.le_refl _)
    rw [List.take_of_length_le (by omega), Array.toArray_toList] at this
    exact this
  · exact Lib.below_putRow (q := k) (d := d') (Below.refl B w) hBb
set_option maxRecDepth 100000 in
set_option maxHeartbeats 1000000 in
theorem rising_any (v : Value) (zs : List Int) (w : World) (hR : IQ w v zs) (hl : zs.length ≤ 320) :
    Calls Tryz.prog 112 #[v] w fun e w' => ∃ (u : Value) (ss : List Nat), e = .returned u ∧ RisP zs ss ∧ w'.ownsRow w.heap.size 3 1 u ss.length (nch ss) ∧ Below w.heap.size w w' := by
  obtain ⟨i0, hi, hz0, hz1, hz2⟩ := info_parts Tryz.infoI
  obtain ⟨g, o, cap, rfl, hg, hc⟩ := hR
  have HC : Hid (∀ i, i < zs.length → w.cell? ⟨g, o + i, none⟩ = some (.int .i64 (zs.getD i 0))) := hc
  clear hc
  go_enter Tryz.func112, Tryz.ntmps112
  go_wp2
  generalize hW1 : World.alloc w _ = w1
  have hsz1 : w1.heap.size = w.heap.size + 1 := by rw [← hW1, World.size_alloc]
  have hbx : w1.cell? ⟨w.heap.size, 0, none⟩ = some (.slice (some ⟨g, o, none⟩) zs.length cap) := by rw [← hW1]; exact World.cell?_alloc_mark _ _ _ _ _
  have hb1 : Below w.heap.size w w1 := by rw [← hW1]; exact (Below.refl _ w).alloc (Nat.le_refl _) _
  have HBX : Hid _ := hbx
  clear hW1 hbx
  have HC1 : Hid (∀ i, i < zs.length → w1.cell? ⟨g, o + i, none⟩ = some (.int .i64 (zs.getD i 0))) := fun i h => by rw [hb1.cell (p := ⟨g, o + i, none⟩) hg]; exact HC.out i h
  clear HC
  go_loopw [3, 8] (fun v i wr => ∃ k : Nat, k ≤ zs.length ∧ i = .int .i64 (k : Int) ∧ wr.ownsRow (w.heap.size + 1) 3 1 v (posL zs k).length (nch (posL zs k)) ∧ (posL zs k = [] → v = .slice none 0 0) ∧ Below (w.heap.size + 1) w1 wr) (fun _ i _ => zs.length - (intOf i).toNat)
  case atStart => exact ⟨0, by omega, rfl, World.ownsRow_nil _ _ _ _, fun _ => rfl, Below.refl _ _⟩
  case round =>
    obtain ⟨k, hk, rfl, hown, hnil, hbel⟩ := hrel
    have hbsz := hbel.size
    by_cases hlt : k < zs.length
    · have hki : (k : Int) < (zs.length : Int) := by omega
      have hc : wr.cell? ⟨g, o + k, none⟩ = some (.int .i64 (zs.getD k 0)) := by rw [hbel.cell (p := ⟨g, o + k, none⟩) (by show g < _; omega)]; exact HC1.out k hlt
      by_cases hp : 0 < zs.getD k 0
      · have HX : Hid (_ = _) := posL_yes hp
        have hpl := posL_len zs k
        generalize posL zs k = L at *
        generalize zs.getD k 0 = z at *
        go_wp2_with (at_builtin; refine wpList_append_own _ rfl _ _ 40 rfl (w.heap.size + 1) 3 i0 (.int .i64 0) 1 8 Tryz.underlying40 hi hz0 hz1 hz2 rfl (by decide) _ _ _ rfl (hown.alloc _) ⟨wr.heap.size, 0, none⟩ 1 1 [.int .i64 (k : Int)] rfl rfl (cell_one_new _ _ _) ?c2 ?c3 ?c4 ?c5 ?_)
        case c2 => first | rfl | (intro u hu; simp at hu; subst hu; rfl)
        case c3 => unfold maxLen; omega
        case c4 => omega
        case c5 => simp; omega
        intro v' w2 hown' hgrow _
        have hb2 := bel_append hbel (by omega) hown hgrow
        have ho2 : w2.ownsRow (w.heap.size + 1) 3 1 v' (posL zs (k + 1)).length (nch (posL zs (k + 1))) := by rw [HX.out, nch_snoc, List.length_append]; exact hown'
        clear hown hbel hown' hgrow
        go_wp2
        go_roundw
        case rel => exact ⟨k + 1, by omega, by go_num, ho2, fun h => by rw [HX.out] at h; simp at h, hb2⟩
        case measure => simp [intOf]; omega
      · have HX : Hid (_ = _) := posL_no hp
        generalize zs.getD k 0 = z at *
        rw [← HX.out] at hown hnil
        go_wp2
        go_roundw
        case rel => exact ⟨k + 1, by omega, by go_num, hown, hnil, hbel⟩
        case measure => simp [intOf]; omega
    · obtain rfl : k = zs.length := by omega
      have hbw : Below w.heap.size w wr := hb1.trans (hbel.mono (by omega))
      by_cases he : posL zs zs.length = []
      · obtain rfl := hnil he
        go_wp2_with fail
        refine (sortNil_any _ _).mono ?_
        rintro e w2 ⟨rfl, rfl⟩
        go_wp2
        go_ret
        refine ⟨_, [], rfl, ⟨by rw [he], trivial, fun i j h1 h2 => by simp at h2⟩, World.ownsRow_nil _ _ _ _, hbw⟩
      · have HS : Hid (_) := sortRow_any zs (posL zs zs.length) (w.heap.size + 1) w.heap.size g o cap _ wr
          (by rw [hbel.cell (p := ⟨w.heap.size, 0, none⟩) (by show w.heap.size < _; omega)]; exact HBX.out)
          (fun i hi => by rw [hbel.cell (p := ⟨g, o + i, none⟩) (by show g < _; omega)]; exact HC1.out i hi) (by omega) (by omega) (by omega) he (fun i h => (posL_mem.1 h).1) (by have := posL_len zs zs.length; omega) hown (posL_up zs zs.length)
        clear hown hnil hbel
        go_wp2_with fail
        refine (Hid.out HS : Calls _ _ _ _ _).mono ?_
        rintro e w2 ⟨rfl, ss, q1, q2, qt, q3, q4⟩
        have hbF := hbw.trans (q4.mono (by omega))
        have hoF : w2.ownsRow w.heap.size 3 1 u3 ss.length (nch ss) := by
          obtain ⟨r1, r2⟩ := q3
          refine ⟨r1, ?_⟩
          rcases r2 with r | ⟨a, b, c, s1, s2, s3⟩
          · exact .inl r
          · exact .inr ⟨a, b, c, s1, by omega, s3⟩
        clear q3 q4
        go_wp2
        go_ret
        exact ⟨_, ss, rfl, ⟨q1, q2, qt⟩, hoF, hbF⟩
end Go.Proofs.YtbknflckdbfogaaGreat
namespace Go.Proofs.YtbknflckdbfogaaGreat
open Go
set_option linter.unusedVariables false

/-- Zeros, and the lengths of the first k symbols written in their places. -/
def putL (ss : List Nat) (f : Nat → Nat) (n : Nat) : Nat → List Nat
  | 0 => List.replicate n 0
  | k + 1 => (putL ss f n k).set (ss.getD k 0) (f k)
theorem putL_len (ss : List Nat) (f : Nat → Nat) (n : Nat) : ∀ k, (putL ss f n k).length = n
  | 0 => by simp [putL]
  | k + 1 => by rw [putL, List.length_set, putL_len ss f n k]
theorem getD_setN (l : List Nat) (i j v : Nat) : (l.set i v).getD j 0 = if i = j ∧ j < l.length then v else l.getD j 0 := by
  rw [List.getD_eq_getElem?_getD, List.getElem?_set, List.getD_eq_getElem?_getD]
  by_cases e : i = j
  · subst e
    by_cases h : i < l.length
    · simp [h]
    · simp [h]
  · simp [e]
theorem putL_out (ss : List Nat) (f : Nat → Nat) (n i : Nat) : ∀ k, (∀ j, j < k → ss.getD j 0 ≠ i) → (putL ss f n k).getD i 0 = 0
  | 0, _ => by
    unfold putL
    rw [List.getD_eq_getElem?_getD, List.getElem?_replicate]
    split <;> rfl
  | k + 1, hi => by
    rw [putL, getD_setN, if_neg (fun h => hi k (by omega) h.1), putL_out ss f n i k (fun j hj => hi j (by omega))]
theorem getD_inj {ss : List Nat} (hnd : ss.Nodup) {j k : Nat} (hj : j < ss.length) (hk : k < ss.length) (h : ss.getD j 0 = ss.getD k 0) : j = k := by
  rw [List.getD_eq_getElem?_getD, List.getElem?_eq_getElem hj, List.getD_eq_getElem?_getD, List.getElem?_eq_getElem hk] at h
  simp only [Option.getD_some] at h
  have hp := List.pairwise_iff_getElem.1 hnd
  rcases Nat.lt_trichotomy j k with q | q | q
  · exact absurd h (hp j k hj hk q)
  · exact q
  · exact absurd h.symm (hp k j hk hj q)
theorem putL_in (ss : List Nat) (f : Nat → Nat) (n : Nat) (hnd : ss.Nodup) (hlt : ∀ i ∈ ss, i < n) : ∀ k, k ≤ ss.length → ∀ j, j < k → (putL ss f n k).getD (ss.getD j 0) 0 = f j
  | 0, _, j, hj => by omega
  | k + 1, hk, j, hj => by
    have hgd : ∀ m, m < ss.length → ss.getD m 0 ∈ ss := fun m hm => by rw [List.getD_eq_getElem?_getD, List.getElem?_eq_getElem hm]; simp
    rw [putL, getD_setN, putL_len]
    by_cases e : j = k
    · subst e; rw [if_pos ⟨rfl, hlt _ (hgd j (by omega))⟩]
    · rw [if_neg, putL_in ss f n hnd hlt k (by omega) j (by omega)]
      intro h
      exact e (getD_inj hnd (by omega) (by omega) h.1).symm
/-- The sum over all places of what lies at the symbols. -/
theorem sum_set (g : Nat → Nat) (h0 : g 0 = 0) (l : List Nat) (i v : Nat) (hi : i < l.length) (hz : l.getD i 0 = 0) : ((l.set i v).map g).sum = (l.map g).sum + g v := by
  induction l generalizing i with
  | nil => simp at hi
  | cons a r ih =>
    cases i with
    | zero => simp at hz; subst hz; simp [h0]; omega
    | succ i => simp at hi hz; have := ih i hi (by simpa using hz); rw [List.set_cons_succ, List.map_cons, List.sum_cons, this, List.map_cons, List.sum_cons]; omega
theorem putL_sum (ss : List Nat) (f : Nat → Nat) (n : Nat) (hnd : ss.Nodup) (hlt : ∀ i ∈ ss, i < n) (g : Nat → Nat) (h0 : g 0 = 0) : ∀ k, k ≤ ss.length → ((putL ss f n k).map g).sum = sumK (fun j => g (f j)) k
  | 0, _ => by
    unfold putL
    rw [List.map_replicate, h0]
    simp [sumK]
  | k + 1, hk => by
    have hgd : ss.getD k 0 ∈ ss := by rw [List.getD_eq_getElem?_getD, List.getElem?_eq_getElem (show k < ss.length by omega)]; simp
    have hz : (putL ss f n k).getD (ss.getD k 0) 0 = 0 := putL_out ss f n _ k fun j hj e => by
      have := getD_inj hnd (show j < ss.length by omega) (by omega) e
      omega
    rw [putL, sum_set g h0 _ _ _ (by rw [putL_len]; exact hlt _ hgd) hz, putL_sum ss f n hnd hlt g h0 k (by omega), sumK]
theorem usedK_sum (ns : List Nat) : ∀ k, k ≤ ns.length → usedK ns k = ((ns.take k).map fun l => if 0 < l then 1 else 0).sum
  | 0, _ => by simp [usedK]
  | k + 1, hk => by
    rw [usedK, usedK_sum ns k (by omega), List.take_add_one, List.getElem?_eq_getElem (by omega), List.map_append, List.sum_append]
    congr 1
    simp [ln, List.getD_eq_getElem?_getD, List.getElem?_eq_getElem (show k < ns.length by omega)]
theorem allP_sum (ns : List Nat) : ∀ k, k ≤ ns.length → allP ns k = ((ns.take k).map fun l => if 0 < l then 2 ^ (15 - l) else 0).sum
  | 0, _ => by simp [allP, partP]
  | k + 1, hk => by
    have ih := allP_sum ns k (by omega)
    unfold allP at ih ⊢
    rw [partP, ih, List.take_add_one, List.getElem?_eq_getElem (show k < ns.length by omega), List.map_append, List.sum_append]
    congr 1
    simp [ln, List.getD_eq_getElem?_getD, List.getElem?_eq_getElem (show k < ns.length by omega)]
theorem sumK_mul (a : Nat) (f : Nat → Nat) : ∀ n, sumK (fun j => a * f j) n = a * sumK f n
  | 0 => by simp [sumK]
  | n + 1 => by rw [sumK, sumK, sumK_mul a f n, Nat.mul_add]
/-- The counts of the symbols. -/
def wOf (zs : List Int) (ss : List Nat) : List Nat := ss.map fun i => (zs.getD i 0).toNat
theorem wOf_len (zs : List Int) (ss : List Nat) : (wOf zs ss).length = ss.length := by simp [wOf]
/-- The length of the j-th symbol. -/
def lenF (zs : List Int) (ss : List Nat) (m : Nat) : Nat → Nat := if ss.length = 1 then fun _ => 1 else lenK (wOf zs ss) m
/-- The lengths that come out. -/
def lensOf (zs : List Int) (ss : List Nat) (m : Nat) : List Nat := putL ss (lenF zs ss m) zs.length ss.length
/-- What is promised of lengths. -/
structure LenP (zs : List Int) (m : Nat) (ls : List Nat) : Prop where
  len : ls.length = zs.length
  no : ∀ i, ¬ 0 < zs.getD i 0 → ls.getD i 0 = 0
  yes : ∀ i, i < zs.length → 0 < zs.getD i 0 → 1 ≤ ls.getD i 0
  le : ∀ i, ls.getD i 0 ≤ m
  fit : fitB ls = true
theorem lens_ok (zs : List Int) (ss : List Nat) (m : Nat) (h : RisP zs ss) (h1 : 1 ≤ m) (hm : m ≤ 15) (hp : ss.length ≤ 2 ^ m) : LenP zs m (lensOf zs ss m) := by
  have hmem : ∀ i, i ∈ ss ↔ i < zs.length ∧ 0 < zs.getD i 0 := fun i => (h.perm.mem_iff).trans posL_mem
  have hnd : ss.Nodup := (h.perm.nodup_iff).2 (by unfold posL; exact List.nodup_range.filter _)
  have hlt : ∀ i ∈ ss, i < zs.length := fun i hi => ((hmem i).1 hi).1
  have hgd : ∀ j, j < ss.length → ss.getD j 0 ∈ ss := fun j hj => by rw [List.getD_eq_getElem?_getD, List.getElem?_eq_getElem hj]; simp
  have hidx : ∀ i, i ∈ ss → ∃ j, j < ss.length ∧ ss.getD j 0 = i := fun i hi => by
    obtain ⟨j, hj, e⟩ := List.mem_iff_getElem.1 hi
    exact ⟨j, hj, by rw [List.getD_eq_getElem?_getD, List.getElem?_eq_getElem hj]; exact e⟩
  have hF1 : ∀ j, j < ss.length → 1 ≤ lenF zs ss m j := fun j hj => by
    unfold lenF
    split
    · exact Nat.le_refl _
    · exact lenK_pos h.rise (by rw [← wOf, wOf_len]; omega) h1 (by rw [← wOf, wOf_len]; exact hp) (by rw [← wOf, wOf_len]; exact hj)
  have hFm : ∀ j, lenF zs ss m j ≤ m := fun j => by
    unfold lenF
    split
    · exact h1
    · exact lenK_le _ _ _
  have hat : ∀ i, (i ∈ ss ∧ ∃ j, j < ss.length ∧ (lensOf zs ss m).getD i 0 = lenF zs ss m j) ∨ (i ∉ ss ∧ (lensOf zs ss m).getD i 0 = 0) := fun i => by
    by_cases hi : i ∈ ss
    · obtain ⟨j, hj, rfl⟩ := hidx i hi
      exact .inl ⟨hi, j, hj, putL_in ss _ _ hnd hlt ss.length (Nat.le_refl _) j hj⟩
    · exact .inr ⟨hi, putL_out ss _ _ i _ fun j hj e => hi (e ▸ hgd j hj)⟩
  refine ⟨putL_len _ _ _ _, fun i hi => ?_, fun i hi hz => ?_, fun i => ?_, ?_⟩
  · rcases hat i with ⟨h1, _⟩ | ⟨_, h2⟩
    · exact absurd ((hmem i).1 h1).2 hi
    · exact h2
  · rcases hat i with ⟨_, j, hj, e⟩ | ⟨h2, _⟩
    · rw [e]; exact hF1 j hj
    · exact absurd ((hmem i).2 ⟨hi, hz⟩) h2
  · rcases hat i with ⟨_, j, hj, e⟩ | ⟨_, e⟩
    · rw [e]; exact hFm j
    · rw [e]; omega
  · have hu : usedK (lensOf zs ss m) (lensOf zs ss m).length = ss.length := by
      rw [usedK_sum _ _ (Nat.le_refl _), List.take_length]
      unfold lensOf
      rw [putL_sum ss _ _ hnd hlt _ rfl _ (Nat.le_refl _), sumK_congr (g := fun _ => 1) _ (fun j hj => show (if 0 < lenF zs ss m j then 1 else 0) = 1 from if_pos (hF1 j hj)), sumK_const, Nat.mul_one]
    have ha : allP (lensOf zs ss m) (lensOf zs ss m).length = sumK (fun j => 2 ^ (15 - lenF zs ss m j)) ss.length := by
      rw [allP_sum _ _ (Nat.le_refl _), List.take_length]
      unfold lensOf
      rw [putL_sum ss _ _ hnd hlt _ rfl _ (Nat.le_refl _)]
      exact sumK_congr _ fun j hj => if_pos (hF1 j hj)
    unfold fitB
    rw [hu, ha]
    by_cases h0 : ss.length = 0
    · rw [if_pos h0]
    · rw [if_neg h0]
      by_cases h01 : ss.length = 1
      · rw [if_pos h01]
        have : lenF zs ss m = fun _ => 1 := by unfold lenF; rw [if_pos h01]
        rw [this, h01]; rfl
      · rw [if_neg h01]
        have : lenF zs ss m = lenK (wOf zs ss) m := by unfold lenF; rw [if_neg h01]
        rw [this]
        have hw := lenK_whole (most := m) h.rise (by rw [← wOf, wOf_len]; omega) h1 (by rw [← wOf, wOf_len]; exact hp)
        rw [← wOf, wOf_len] at hw
        have e : sumK (fun j => 2 ^ (15 - lenK (wOf zs ss) m j)) ss.length = 2 ^ (15 - m) * sumK (fun j => 2 ^ (m - lenK (wOf zs ss) m j)) ss.length := by
          rw [← sumK_mul]
          refine sumK_congr _ fun j hj => ?_
          have := lenK_le (wOf zs ss) m j
          rw [← Nat.pow_add]; congr 1; omega
        rw [e, hw, ← Nat.pow_add, show 15 - m + m = 15 by omega]; rfl
end Go.Proofs.YtbknflckdbfogaaGreat
