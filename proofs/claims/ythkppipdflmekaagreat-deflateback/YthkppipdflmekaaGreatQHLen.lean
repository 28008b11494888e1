/- huff.Lengths, where the counts are right and there are not too many symbols. -/
import Derived.Test.YthkppipdflmekaaGreatQHInsA
import Derived.Test.YthkppipdflmekaaGreatQMatchE
import Derived.Test.YthkppipdflmekaaGreatQHChk
import Derived.Lib.OwnBridge
import Derived.Test.YthkppipdflmekaaGreatQHuffM
set_option maxRecDepth 100000
set_option maxHeartbeats 2000000
namespace Go.Proofs.YthkppipdflmekaaGreat
open Go.RowKit
set_option linter.unusedVariables false
set_option linter.unusedSimpArgs false
def posL (zs : List Int) (k : Nat) : List Nat := (List.range k).filter fun i => decide (0 < zs.getD i 0)
theorem qq6 {zs : List Int} {k : Nat} (h : 0 < zs.getD k 0) : posL zs (k + 1) = posL zs k ++ [k] := by
 unfold posL; rw [List.range_succ, List.filter_append]
 simp only [List.filter_cons, h, decide_true, if_true, List.filter_nil]
theorem qvp {zs : List Int} {k : Nat} (h : ¬ 0 < zs.getD k 0) : posL zs (k + 1) = posL zs k := by
 unfold posL; rw [List.range_succ, List.filter_append]
 simp only [List.filter_cons, h, decide_false, List.filter_nil, List.append_nil]
 simp
theorem qlj (zs : List Int) (k : Nat) : (posL zs k).length ≤ k := by
 have := List.length_filter_le (fun i => decide (0 < zs.getD i 0)) (List.range k)
 rw [List.length_range] at this
 exact this
theorem qd0 {zs : List Int} {k i : Nat} : i ∈ posL zs k ↔ i < k ∧ 0 < zs.getD i 0 := by
 unfold posL; rw [List.mem_filter, List.mem_range, decide_eq_true_iff]
theorem qlb (l m : List Nat) (i : Nat) (h : i < l.length) : (l ++ m).getD i 0 = l.getD i 0 := by
 rw [List.getD_eq_getElem?_getD, List.getD_eq_getElem?_getD, List.getElem?_append_left h]
theorem qy7 (l : List Nat) (x : Nat) : (l ++ [x]).getD l.length 0 = x := by
 rw [List.getD_eq_getElem?_getD, List.getElem?_append_right (Nat.le_refl _), Nat.sub_self]; rfl
theorem qo3 (zs : List Int) : ∀ (k i j : Nat), i < j → j < (posL zs k).length → (posL zs k).getD i 0 < (posL zs k).getD j 0
 | 0, i, j, _, h => by unfold posL at h; simp at h
 | k + 1, i, j, hij, hj => by
  by_cases hp : 0 < zs.getD k 0
  · rw [qq6 hp] at hj ⊢
    rw [List.length_append] at hj
    by_cases hk : j < (posL zs k).length
    · rw [qlb _ _ _ (by omega), qlb _ _ _ hk]
      exact qo3 zs k i j hij hk
    · have hjl : j = (posL zs k).length := by simp at hj; omega
      subst hjl
      rw [qlb _ _ _ hij, qy7]
      have : (posL zs k).getD i 0 ∈ posL zs k := by rw [List.getD_eq_getElem?_getD, List.getElem?_eq_getElem hij]; exact List.getElem_mem _
      exact (qd0.1 this).1
  · rw [qvp hp] at hj ⊢
    exact qo3 zs k i j hij hj
def nch (l : List Nat) : List Value := l.map fun n : Nat => Value.int .i64 (n : Int)
theorem qzh (l : List Nat) (n : Nat) : nch (l ++ [n]) = nch l ++ [.int .i64 (n : Int)] := by simp [nch]
theorem qv4 (l : List Nat) : (nch l).length = l.length := by simp [nch]
theorem qrf (l : List Nat) (i : Nat) (h : i < l.length) : (nch l)[i]? = some (.int .i64 (l.getD i 0 : Int)) := by
 simp [nch, List.getElem?_eq_getElem h, List.getD_eq_getElem?_getD]
theorem qmz : ∀ (l : List Nat), (∀ i j, i < j → j < l.length → l.getD i 0 ≤ l.getD j 0) → qea l
 | [], _ => trivial
 | a :: l, h => by
  refine ⟨fun v hv => ?_, qmz l fun i j h1 h2 => by simpa using h (i + 1) (j + 1) (by omega) (by simpa using h2)⟩
  obtain ⟨j, hj, rfl⟩ := List.mem_iff_getElem.1 hv
  have := h 0 (j + 1) (by omega) (by simpa using hj)
  simpa [List.getD_eq_getElem?_getD, List.getElem?_eq_getElem hj] using this
def q1d (zs : List Int) (ss : List Nat) : Prop := ∀ i j, i < j → j < ss.length → zs.getD (ss.getD i 0) 0 = zs.getD (ss.getD j 0) 0 → ss.getD i 0 < ss.getD j 0
structure RisP (zs : List Int) (ss : List Nat) : Prop where
 perm : ss.Perm (posL zs zs.length)
 rise : qea (ss.map fun i => (zs.getD i 0).toNat)
 tie : q1d zs ss
theorem qvc {w : World} {B n : Nat} {v : Value} {l : List Nat} (h : w.ownsRow B 3 1 v n (nch l)) : NR w v l := by
 have hl := h.1
 rw [qv4, Nat.mul_one] at hl
 subst hl
 have hlt := h.lt
 rcases h.2 with ⟨rfl, h0⟩ | ⟨g, cap, cur, rfl, _, _, hc, _⟩
 · exact ⟨none, 0, by rw [h0], by omega, fun hne => absurd (List.eq_nil_of_length_eq_zero h0) hne⟩
 · exact ⟨_, cap, rfl, hc, fun _ => ⟨g, 0, rfl, (hlt g rfl).2, fun i hi => by rw [Nat.zero_add, h.cellAt i (by omega), qrf _ _ hi]⟩⟩
def toF (N : Nat) [Inhabited (Fin N)] (i : Nat) : Fin N := if h : i < N then ⟨i, h⟩ else default
theorem qok {N : Nat} [Inhabited (Fin N)] {i : Nat} (h : i < N) : (toF N i).val = i := by unfold toF; rw [dif_pos h]
theorem qts (f : Value) (w : World) :
    Calls Tryz.prog 133 #[.slice none 0 0, .int .i64 0, .int .i64 0, f] w fun e w' => e = .returned (.tuple #[]) ∧ w' = w := by
 go_enter Tryz.func133, Tryz.ntmps133
 go_wp2
 go_loopw [8] (fun i wr => i = .int .i64 1 ∧ wr = w) (fun i _ => 0)
 case atStart => exact ⟨rfl, rfl⟩
 case round =>
  obtain ⟨rfl, rfl⟩ := hrel
  go_wp2
  exact bodyPost_end (results_none rfl _ _ _) rfl ⟨rfl, rfl⟩
theorem qs0 (f : Value) (w : World) :
    Calls Tryz.prog 128 #[.slice none 0 0, .int .i64 0, f] w fun e w' => e = .returned (.tuple #[]) ∧ w' = w := by
 go_enter Tryz.func128, Tryz.ntmps128
 go_wp2
 go_loopw [7, 8] (fun i j wr => i = .int .i64 0 ∧ j = .int .i64 20 ∧ wr = w) (fun i _ _ => 0)
 case atStart => exact ⟨rfl, rfl, rfl⟩
 case round =>
  obtain ⟨rfl, rfl, rfl⟩ := hrel
  go_wp2_with fail
  refine (qts f _).mono ?_
  rintro e w1 ⟨rfl, rfl⟩
  go_wp2
  go_loopw [6] (fun i wr => i = .int .i64 20 ∧ wr = w1) (fun i _ => 0)
  case atStart => exact ⟨rfl, rfl⟩
  case round =>
   obtain ⟨rfl, rfl⟩ := hrel
   go_wp2
   exact bodyPost_end (results_none rfl _ _ _) rfl ⟨rfl, rfl⟩
theorem qor (f : Value) (w : World) :
    Calls Tryz.prog 120 #[.slice none 0 0, f] w fun e w' => e = .returned (.tuple #[]) ∧ w' = w := by
 go_enter Tryz.func120, Tryz.ntmps120
 go_wp2_with fail
 refine (qs0 f _).mono ?_
 rintro e w1 ⟨rfl, rfl⟩
 go_wp2
 exact bodyPost_end (results_none rfl _ _ _) rfl ⟨rfl, rfl⟩
theorem qoq (zs : List Int) (l : List Nat) (B bx g o capz : Nat) (v : Value) (w : World) (hbx : w.cell? ⟨bx, 0, none⟩ = some (.slice (some ⟨g, o, none⟩) zs.length capz))
    (hc : ∀ i, i < zs.length → w.cell? ⟨g, o + i, none⟩ = some (.int .i64 (zs.getD i 0))) (h1 : bx < B) (h2 : g < B) (hB : B ≤ w.heap.size) (hl : l ≠ []) (hlt : ∀ i ∈ l, i < zs.length) (hlen : l.length ≤ 1000000)
    (hown : w.ownsRow B 3 1 v l.length (nch l)) (hup : ∀ i j, i < j → j < l.length → l.getD i 0 < l.getD j 0) :
    Calls Tryz.prog 120 #[v, .func (.func 121) #[] #[.pointer (some ⟨bx, 0, none⟩)]] w fun e w' =>
     e = .returned (.tuple #[]) ∧ ∃ ss : List Nat, ss.Perm l ∧ qea (ss.map fun i => (zs.getD i 0).toNat) ∧ q1d zs ss ∧ w'.ownsRow B 3 1 v ss.length (nch ss) ∧ Below B w w' := by
 have hN : 0 < zs.length := by
  cases l with
  | nil => exact absurd rfl hl
  | cons a r => have := hlt a (by simp); omega
 letI : Inhabited (Fin zs.length) := ⟨⟨0, hN⟩⟩
 have hl0 : 0 < l.length := by cases l with | nil => exact absurd rfl hl | cons a r => simp
 have hltB := hown.lt
 obtain ⟨blk, cap, rfl, hBb, hbl⟩ : ∃ blk cap, v = .slice (some ⟨blk, 0, none⟩) l.length cap ∧ B ≤ blk ∧ blk < w.heap.size := by
  rcases hown.2 with ⟨_, h0⟩ | ⟨blk, cap, cur, rfl, hb, _⟩
  · omega
  · exact ⟨blk, cap, rfl, hb, (hltB blk rfl).2⟩
 have hmap : nch l = (l.map (toF zs.length)).map (eF (N := zs.length)) := by
  unfold nch eF
  rw [List.map_map]
  refine List.map_congr_left fun i hi => ?_
  show _ = Value.int .i64 ((toF zs.length i).val : Int)
  rw [qok (hlt i hi)]
 rw [hmap] at hown
 have hH : Sort.Holds (eF (N := zs.length)) w blk 0 (l.map (toF zs.length)).toArray := by
  obtain ⟨g', cap', e1, _, _, _, _, _, hh⟩ := Lib.holds_of_ownsRow hown (by intro e; cases e)
  injection e1 with e2
  injection e2 with e3
  injection e3 with e4
  rw [e4]
  exact hh
 have hsz : (l.map (toF zs.length)).toArray.size = l.length := by simp
 have h := qjp zs bx g o capz blk 0 cap (l.map (toF zs.length)).toArray w hbx hc (by omega) (by omega) (by omega) (by omega) hH (by rw [hsz]; exact hlen)
 rw [hsz] at h
 refine h.mono ?_
 rintro e w' ⟨rfl, d', ⟨q1, qs⟩, q2, k, rfl⟩
 have hs1 : d'.size = l.length := by rw [q1.1, hsz]
 have hpm : d'.toList.Perm (l.map (toF zs.length)) := by
  have := q1.2.2
  rw [← hs1, Array.extract_size] at this
  rw [show d'.size = (l.map (toF zs.length)).toArray.size by rw [hs1, hsz], Array.extract_size] at this
  exact this
 have hlm : d'.toList.length = l.length := by rw [Array.length_toList]; exact hs1
 have hback : (l.map (toF zs.length)).map (fun x => x.val) = l := by
  rw [List.map_map]
  conv => rhs; rw [← List.map_id l]
  exact List.map_congr_left fun i hi => qok (hlt i hi)
 have hnc : nch (d'.toList.map fun x => x.val) = d'.toList.map (eF (N := zs.length)) := by
  unfold nch; rw [List.map_map]; rfl
 have hval : ∀ m, m < l.length → (d'.toList.map (fun x => x.val)).getD m 0 = (d'[m]!).val := fun m hm => by
  rw [List.getD_eq_getElem?_getD, List.getElem?_map, List.getElem?_eq_getElem (by rw [Array.length_toList, hs1]; exact hm)]
  simp [getElem!_pos, show m < d'.size by omega]
 have hst := qs (fun i j hij hj => by
  rw [hsz] at hj
  have hv : ∀ m, m < l.length → ((l.map (toF zs.length)).toArray[m]!).val = l.getD m 0 := fun m hm => by
   have hm' : m < (l.map (toF zs.length)).toArray.size := by rw [hsz]; exact hm
   rw [getElem!_pos (l.map (toF zs.length)).toArray m hm', List.getElem_toArray, List.getElem_map, qok (hlt _ (List.getElem_mem _)), List.getD_eq_getElem?_getD, List.getElem?_eq_getElem hm]
   rfl
  right; right
  rw [hv i (by omega), hv j hj]
  exact hup i j hij hj)
 refine ⟨rfl, d'.toList.map (fun x => x.val), ?_, ?_, ?_, ?_, ?_⟩
 · have := hpm.map (fun x : Fin zs.length => x.val)
   rw [hback] at this
   exact this
 · refine qmz _ fun i j hij hj => ?_
   rw [List.length_map, List.length_map, Array.length_toList, hs1] at hj
   have := q2 i j (Nat.zero_le _) hij hj
   rw [ltZ] at this
   have hle := of_decide_eq_false this
   have hat : ∀ m, m < l.length → ((d'.toList.map (fun x => x.val)).map fun i => (zs.getD i 0).toNat).getD m 0 = (zs.getD (d'[m]!).val 0).toNat := fun m hm => by
    rw [List.map_map, List.getD_eq_getElem?_getD, List.getElem?_map, List.getElem?_eq_getElem (by rw [Array.length_toList, hs1]; exact hm)]
    simp [getElem!_pos, show m < d'.size by omega]
   rw [hat i (by omega), hat j hj]
   omega
 · intro i j hij hj he
   rw [List.length_map, Array.length_toList, hs1] at hj
   rw [hval i (by omega), hval j hj] at he ⊢
   rcases hst i j hij (by omega) with h | h | h
   · rw [ltZ] at h; have := of_decide_eq_true h; omega
   · rw [ltZ] at h; have := of_decide_eq_true h; omega
   · exact h
 · rw [hnc, List.length_map, hlm]
   have := Lib.ownsRow_putRow (q := k) (k := l.length) (ys := d'.toList) hown hlm (Nat.le_refl _)
   rw [List.take_of_length_le (by omega), Array.toArray_toList] at this
   exact this
 · exact Lib.below_putRow (q := k) (d := d') (Below.refl B w) hBb
theorem qtb (v : Value) (zs : List Int) (w : World) (hR : IQ w v zs) (hl : zs.length ≤ 320) :
    Calls Tryz.prog 110 #[v] w fun e w' => ∃ (u : Value) (ss : List Nat), e = .returned u ∧ RisP zs ss ∧ w'.ownsRow w.heap.size 3 1 u ss.length (nch ss) ∧ Below w.heap.size w w' := by
 obtain ⟨i0, hi, hz0, hz1, hz2⟩ := info_parts Tryz.infoI
 obtain ⟨g, o, cap, rfl, hg, hc⟩ := hR
 have HC : Hid (∀ i, i < zs.length → w.cell? ⟨g, o + i, none⟩ = some (.int .i64 (zs.getD i 0))) := hc
 clear hc
 go_enter Tryz.func110, Tryz.ntmps110
 go_wp2
 generalize hW1 : World.alloc w _ = w1
 have hsz1 : w1.heap.size = w.heap.size + 1 := by rw [← hW1, World.size_alloc]
 have hbx : w1.cell? ⟨w.heap.size, 0, none⟩ = some (.slice (some ⟨g, o, none⟩) zs.length cap) := by rw [← hW1]; exact World.cell?_alloc_mark _ _ _ _ _
 have hb1 : Below w.heap.size w w1 := by rw [← hW1]; exact (Below.refl _ w).alloc (Nat.le_refl _) _
 have HBX : Hid _ := hbx
 clear hW1 hbx
 have HC1 : Hid (∀ i, i < zs.length → w1.cell? ⟨g, o + i, none⟩ = some (.int .i64 (zs.getD i 0))) := fun i h => by rw [hb1.cell (p := ⟨g, o + i, none⟩) hg]; exact HC.out i h
 clear HC
 go_loopw [3, 8] (fun v i wr => ∃ k : Nat, k ≤ zs.length ∧ i = .int .i64 (k : Int) ∧ wr.ownsRow (w.heap.size + 1) 3 1 v (posL zs k).length (nch (posL zs k)) ∧ (posL zs k = [] → v = .slice none 0 0) ∧ Below (w.heap.size + 1) w1 wr) (fun _ i _ => zs.length - (intOf i).toNat)
 case atStart => exact ⟨0, by omega, rfl, World.ownsRow_nil _ _ _ _, fun _ => rfl, Below.refl _ _⟩
 case round =>
  obtain ⟨k, hk, rfl, hown, hnil, hbel⟩ := hrel
  have hbsz := hbel.size
  by_cases hlt : k < zs.length
  · have hki : (k : Int) < (zs.length : Int) := by omega
    have hc : wr.cell? ⟨g, o + k, none⟩ = some (.int .i64 (zs.getD k 0)) := by rw [hbel.cell (p := ⟨g, o + k, none⟩) (by show g < _; omega)]; exact HC1.out k hlt
    by_cases hp : 0 < zs.getD k 0
    · have HX : Hid (_ = _) := qq6 hp
      have hpl := qlj zs k
      generalize posL zs k = L at *
      generalize zs.getD k 0 = z at *
      go_wp2_with (at_builtin; refine wpList_append_own _ rfl _ _ 39 rfl (w.heap.size + 1) 3 i0 (.int .i64 0) 1 8 Tryz.underlying39 hi hz0 hz1 hz2 rfl (by decide) _ _ _ rfl (hown.alloc _) ⟨wr.heap.size, 0, none⟩ 1 1 [.int .i64 (k : Int)] rfl rfl (cell_one_new _ _ _) ?c2 ?c3 ?c4 ?c5 ?_)
      case c2 => first | rfl | (intro u hu; simp at hu; subst hu; rfl)
      case c3 => unfold maxLen; omega
      case c4 => omega
      case c5 => simp; omega
      intro v' w2 hown' hgrow _
      have hb2 := qg0 hbel (by omega) hown hgrow
      have ho2 : w2.ownsRow (w.heap.size + 1) 3 1 v' (posL zs (k + 1)).length (nch (posL zs (k + 1))) := by rw [HX.out, qzh, List.length_append]; exact hown'
      clear hown hbel hown' hgrow
      go_wp2
      go_roundw
      case rel => exact ⟨k + 1, by omega, by go_num, ho2, fun h => by rw [HX.out] at h; simp at h, hb2⟩
      case measure => simp [intOf]; omega
    · have HX : Hid (_ = _) := qvp hp
      generalize zs.getD k 0 = z at *
      rw [← HX.out] at hown hnil
      go_wp2
      go_roundw
      case rel => exact ⟨k + 1, by omega, by go_num, hown, hnil, hbel⟩
      case measure => simp [intOf]; omega
  · obtain rfl : k = zs.length := by omega
    have hbw : Below w.heap.size w wr := hb1.trans (hbel.mono (by omega))
    by_cases he : posL zs zs.length = []
    · obtain rfl := hnil he
      go_wp2_with fail
      refine (qor _ _).mono ?_
      rintro e w2 ⟨rfl, rfl⟩
      go_wp2
      go_ret
      refine ⟨_, [], rfl, ⟨by rw [he], trivial, fun i j h1 h2 => by simp at h2⟩, World.ownsRow_nil _ _ _ _, hbw⟩
    · have HS : Hid (_) := qoq zs (posL zs zs.length) (w.heap.size + 1) w.heap.size g o cap _ wr
        (by rw [hbel.cell (p := ⟨w.heap.size, 0, none⟩) (by show w.heap.size < _; omega)]; exact HBX.out)
        (fun i hi => by rw [hbel.cell (p := ⟨g, o + i, none⟩) (by show g < _; omega)]; exact HC1.out i hi) (by omega) (by omega) (by omega) he (fun i h => (qd0.1 h).1) (by have := qlj zs zs.length; omega) hown (qo3 zs zs.length)
      clear hown hnil hbel
      go_wp2_with fail
      refine (Hid.out HS : Calls _ _ _ _ _).mono ?_
      rintro e w2 ⟨rfl, ss, q1, q2, qt, q3, q4⟩
      have hbF := hbw.trans (q4.mono (by omega))
      have hoF : w2.ownsRow w.heap.size 3 1 u3 ss.length (nch ss) := by
       obtain ⟨r1, r2⟩ := q3
       refine ⟨r1, ?_⟩
       rcases r2 with r | ⟨a, b, c, s1, s2, s3⟩
       · exact .inl r
       · exact .inr ⟨a, b, c, s1, by omega, s3⟩
      clear q3 q4
      go_wp2
      go_ret
      exact ⟨_, ss, rfl, ⟨q1, q2, qt⟩, hoF, hbF⟩
open Go
set_option linter.unusedVariables false
def putL (ss : List Nat) (f : Nat → Nat) (n : Nat) : Nat → List Nat
 | 0 => List.replicate n 0
 | k + 1 => (putL ss f n k).set (ss.getD k 0) (f k)
theorem qdi (ss : List Nat) (f : Nat → Nat) (n : Nat) : ∀ k, (putL ss f n k).length = n
 | 0 => by simp [putL]
 | k + 1 => by rw [putL, List.length_set, qdi ss f n k]
theorem qga (l : List Nat) (i j v : Nat) : (l.set i v).getD j 0 = if i = j ∧ j < l.length then v else l.getD j 0 := by
 rw [List.getD_eq_getElem?_getD, List.getElem?_set, List.getD_eq_getElem?_getD]
 by_cases e : i = j
 · subst e
   by_cases h : i < l.length
   · simp [h]
   · simp [h]
 · simp [e]
theorem qlg (ss : List Nat) (f : Nat → Nat) (n i : Nat) : ∀ k, (∀ j, j < k → ss.getD j 0 ≠ i) → (putL ss f n k).getD i 0 = 0
 | 0, _ => by
  unfold putL
  rw [List.getD_eq_getElem?_getD, List.getElem?_replicate]
  split <;> rfl
 | k + 1, hi => by
  rw [putL, qga, if_neg (fun h => hi k (by omega) h.1), qlg ss f n i k (fun j hj => hi j (by omega))]
theorem qrp {ss : List Nat} (hnd : ss.Nodup) {j k : Nat} (hj : j < ss.length) (hk : k < ss.length) (h : ss.getD j 0 = ss.getD k 0) : j = k := by
 rw [List.getD_eq_getElem?_getD, List.getElem?_eq_getElem hj, List.getD_eq_getElem?_getD, List.getElem?_eq_getElem hk] at h
 simp only [Option.getD_some] at h
 have hp := List.pairwise_iff_getElem.1 hnd
 rcases Nat.lt_trichotomy j k with q | q | q
 · exact absurd h (hp j k hj hk q)
 · exact q
 · exact absurd h.symm (hp k j hk hj q)
theorem qvk (ss : List Nat) (f : Nat → Nat) (n : Nat) (hnd : ss.Nodup) (hlt : ∀ i ∈ ss, i < n) : ∀ k, k ≤ ss.length → ∀ j, j < k → (putL ss f n k).getD (ss.getD j 0) 0 = f j
 | 0, _, j, hj => by omega
 | k + 1, hk, j, hj => by
  have hgd : ∀ m, m < ss.length → ss.getD m 0 ∈ ss := fun m hm => by rw [List.getD_eq_getElem?_getD, List.getElem?_eq_getElem hm]; simp
  rw [putL, qga, qdi]
  by_cases e : j = k
  · subst e; rw [if_pos ⟨rfl, hlt _ (hgd j (by omega))⟩]
  · rw [if_neg, qvk ss f n hnd hlt k (by omega) j (by omega)]
    intro h
    exact e (qrp hnd (by omega) (by omega) h.1).symm
theorem q1x (g : Nat → Nat) (h0 : g 0 = 0) (l : List Nat) (i v : Nat) (hi : i < l.length) (hz : l.getD i 0 = 0) : ((l.set i v).map g).sum = (l.map g).sum + g v := by
 induction l generalizing i with
 | nil => simp at hi
 | cons a r ih =>
  cases i with
  | zero => simp at hz; subst hz; simp [h0]; omega
  | succ i => simp at hi hz; have := ih i hi (by simpa using hz); rw [List.set_cons_succ, List.map_cons, List.sum_cons, this, List.map_cons, List.sum_cons]; omega
theorem qlf (ss : List Nat) (f : Nat → Nat) (n : Nat) (hnd : ss.Nodup) (hlt : ∀ i ∈ ss, i < n) (g : Nat → Nat) (h0 : g 0 = 0) : ∀ k, k ≤ ss.length → ((putL ss f n k).map g).sum = sumK (fun j => g (f j)) k
 | 0, _ => by
  unfold putL
  rw [List.map_replicate, h0]
  simp [sumK]
 | k + 1, hk => by
  have hgd : ss.getD k 0 ∈ ss := by rw [List.getD_eq_getElem?_getD, List.getElem?_eq_getElem (show k < ss.length by omega)]; simp
  have hz : (putL ss f n k).getD (ss.getD k 0) 0 = 0 := qlg ss f n _ k fun j hj e => by
   have := qrp hnd (show j < ss.length by omega) (by omega) e
   omega
  rw [putL, q1x g h0 _ _ _ (by rw [qdi]; exact hlt _ hgd) hz, qlf ss f n hnd hlt g h0 k (by omega), sumK]
theorem qml (ns : List Nat) : ∀ k, k ≤ ns.length → qbg ns k = ((ns.take k).map fun l => if 0 < l then 1 else 0).sum
 | 0, _ => by simp [qbg]
 | k + 1, hk => by
  rw [qbg, qml ns k (by omega), List.take_add_one, List.getElem?_eq_getElem (by omega), List.map_append, List.sum_append]
  congr 1
  simp [ln, List.getD_eq_getElem?_getD, List.getElem?_eq_getElem (show k < ns.length by omega)]
theorem qsk (ns : List Nat) : ∀ k, k ≤ ns.length → allP ns k = ((ns.take k).map fun l => if 0 < l then 2 ^ (15 - l) else 0).sum
 | 0, _ => by simp [allP, qcp]
 | k + 1, hk => by
  have ih := qsk ns k (by omega)
  unfold allP at ih ⊢
  rw [qcp, ih, List.take_add_one, List.getElem?_eq_getElem (show k < ns.length by omega), List.map_append, List.sum_append]
  congr 1
  simp [ln, List.getD_eq_getElem?_getD, List.getElem?_eq_getElem (show k < ns.length by omega)]
theorem qqm (a : Nat) (f : Nat → Nat) : ∀ n, sumK (fun j => a * f j) n = a * sumK f n
 | 0 => by simp [sumK]
 | n + 1 => by rw [sumK, sumK, qqm a f n, Nat.mul_add]
def wOf (zs : List Int) (ss : List Nat) : List Nat := ss.map fun i => (zs.getD i 0).toNat
theorem qfg (zs : List Int) (ss : List Nat) : (wOf zs ss).length = ss.length := by simp [wOf]
def lenF (zs : List Int) (ss : List Nat) (m : Nat) : Nat → Nat := if ss.length = 1 then fun _ => 1 else lenK (wOf zs ss) m
def qby (zs : List Int) (ss : List Nat) (m : Nat) : List Nat := putL ss (lenF zs ss m) zs.length ss.length
structure LenP (zs : List Int) (m : Nat) (ls : List Nat) : Prop where
 len : ls.length = zs.length
 no : ∀ i, ¬ 0 < zs.getD i 0 → ls.getD i 0 = 0
 yes : ∀ i, i < zs.length → 0 < zs.getD i 0 → 1 ≤ ls.getD i 0
 le : ∀ i, ls.getD i 0 ≤ m
 fit : fitB ls = true
theorem q2x (zs : List Int) (ss : List Nat) (m : Nat) (h : RisP zs ss) (h1 : 1 ≤ m) (hm : m ≤ 15) (hp : ss.length ≤ 2 ^ m) : LenP zs m (qby zs ss m) := by
 have hmem : ∀ i, i ∈ ss ↔ i < zs.length ∧ 0 < zs.getD i 0 := fun i => (h.perm.mem_iff).trans qd0
 have hnd : ss.Nodup := (h.perm.nodup_iff).2 (by unfold posL; exact List.nodup_range.filter _)
 have hlt : ∀ i ∈ ss, i < zs.length := fun i hi => ((hmem i).1 hi).1
 have hgd : ∀ j, j < ss.length → ss.getD j 0 ∈ ss := fun j hj => by rw [List.getD_eq_getElem?_getD, List.getElem?_eq_getElem hj]; simp
 have hidx : ∀ i, i ∈ ss → ∃ j, j < ss.length ∧ ss.getD j 0 = i := fun i hi => by
  obtain ⟨j, hj, e⟩ := List.mem_iff_getElem.1 hi
  exact ⟨j, hj, by rw [List.getD_eq_getElem?_getD, List.getElem?_eq_getElem hj]; exact e⟩
 have hF1 : ∀ j, j < ss.length → 1 ≤ lenF zs ss m j := fun j hj => by
  unfold lenF
  split
  · exact Nat.le_refl _
  · exact qzk h.rise (by rw [← wOf, qfg]; omega) h1 (by rw [← wOf, qfg]; exact hp) (by rw [← wOf, qfg]; exact hj)
 have hFm : ∀ j, lenF zs ss m j ≤ m := fun j => by
  unfold lenF
  split
  · exact h1
  · exact qpg _ _ _
 have hat : ∀ i, (i ∈ ss ∧ ∃ j, j < ss.length ∧ (qby zs ss m).getD i 0 = lenF zs ss m j) ∨ (i ∉ ss ∧ (qby zs ss m).getD i 0 = 0) := fun i => by
  by_cases hi : i ∈ ss
  · obtain ⟨j, hj, rfl⟩ := hidx i hi
    exact .inl ⟨hi, j, hj, qvk ss _ _ hnd hlt ss.length (Nat.le_refl _) j hj⟩
  · exact .inr ⟨hi, qlg ss _ _ i _ fun j hj e => hi (e ▸ hgd j hj)⟩
 refine ⟨qdi _ _ _ _, fun i hi => ?_, fun i hi hz => ?_, fun i => ?_, ?_⟩
 · rcases hat i with ⟨h1, _⟩ | ⟨_, h2⟩
   · exact absurd ((hmem i).1 h1).2 hi
   · exact h2
 · rcases hat i with ⟨_, j, hj, e⟩ | ⟨h2, _⟩
   · rw [e]; exact hF1 j hj
   · exact absurd ((hmem i).2 ⟨hi, hz⟩) h2
 · rcases hat i with ⟨_, j, hj, e⟩ | ⟨_, e⟩
   · rw [e]; exact hFm j
   · rw [e]; omega
 · have hu : qbg (qby zs ss m) (qby zs ss m).length = ss.length := by
     rw [qml _ _ (Nat.le_refl _), List.take_length]
     unfold qby
     rw [qlf ss _ _ hnd hlt _ rfl _ (Nat.le_refl _), qdr (g := fun _ => 1) _ (fun j hj => show (if 0 < lenF zs ss m j then 1 else 0) = 1 from if_pos (hF1 j hj)), qev, Nat.mul_one]
   have ha : allP (qby zs ss m) (qby zs ss m).length = sumK (fun j => 2 ^ (15 - lenF zs ss m j)) ss.length := by
    rw [qsk _ _ (Nat.le_refl _), List.take_length]
    unfold qby
    rw [qlf ss _ _ hnd hlt _ rfl _ (Nat.le_refl _)]
    exact qdr _ fun j hj => if_pos (hF1 j hj)
   unfold fitB
   rw [hu, ha]
   by_cases h0 : ss.length = 0
   · rw [if_pos h0]
   · rw [if_neg h0]
     by_cases h01 : ss.length = 1
     · rw [if_pos h01]
       have : lenF zs ss m = fun _ => 1 := by unfold lenF; rw [if_pos h01]
       rw [this, h01]; rfl
     · rw [if_neg h01]
       have : lenF zs ss m = lenK (wOf zs ss) m := by unfold lenF; rw [if_neg h01]
       rw [this]
       have hw := qkm (most := m) h.rise (by rw [← wOf, qfg]; omega) h1 (by rw [← wOf, qfg]; exact hp)
       rw [← wOf, qfg] at hw
       have e : sumK (fun j => 2 ^ (15 - lenK (wOf zs ss) m j)) ss.length = 2 ^ (15 - m) * sumK (fun j => 2 ^ (m - lenK (wOf zs ss) m j)) ss.length := by
        rw [← qqm]
        refine qdr _ fun j hj => ?_
        have := qpg (wOf zs ss) m j
        rw [← Nat.pow_add]; congr 1; omega
       rw [e, hw, ← Nat.pow_add, show 15 - m + m = 15 by omega]; rfl
theorem q2w (n : Nat) : (madeCells (Value.int IntKind.i64 0).cells (n * 1)).toList = fz (fun _ => 0) n := by
 rw [Nat.mul_one]
 show (madeCells #[.int .i64 0] n).toList = _
 rw [toList_madeCells_one]
 unfold fz
 rw [List.map_const', List.length_range]; rfl
theorem qgr (n : Nat) (w : World) (hn : n ≤ 320) : ∃ w1, (Instr.makeSlice 39 (.int .i64 (n : Int)) (.int .i64 (n : Int))).run Tryz.prog w = .ok (.slice (some ⟨w.heap.size, 0, none⟩) n n) w1 ∧ w1.ownsRow w.heap.size 3 1 (.slice (some ⟨w.heap.size, 0, none⟩) n n) n (fz (fun _ => 0) n) ∧ Below w.heap.size w w1 := by
 obtain ⟨i0, hi, hz0, hz1, hz2⟩ := info_parts Tryz.infoI
 obtain ⟨w1, hmk, hown, hgr⟩ := run_makeSlice_full (P := Tryz.prog) (w := w) w.heap.size 39 3 i0 (.int .i64 0) 1 Tryz.underlying39 hi hz0 hz1 .i64 .i64 n (by omega) (by rw [hz2]; omega) (by unfold maxLen; omega) (Nat.le_refl _)
 rw [q2w] at hown
 exact ⟨w1, hmk, hown, (Below.refl _ w).grown hgr (Nat.le_refl _) (fun k hk => by cases hk)⟩
theorem qyy (v : Value) (n : Nat) (w : World) (hV : NR w v []) (hn : n ≤ 15) :
    Calls Tryz.prog 123 #[v, .int .i64 (n : Int)] w fun e w' => ∃ a cap, e = .returned (.slice a n cap) ∧ Below w.heap.size w w' := by
 obtain ⟨i0, hi, hz0, hz1, hz2⟩ := info_parts Tryz.infoRw
 have HNV : Hid (∀ W, Below w.heap.size w W → NR W v []) := fun W hb => hV.below hb
 obtain ⟨av, cv, rfl, _⟩ := hV
 go_enter Tryz.func123, Tryz.ntmps123
 go_wp2
 go_loopw [5, 6, 8] (fun r x i wr => ∃ (k : Nat) (vs : List Value), k ≤ n ∧ vs.length = k ∧ i = .int .i64 (k : Int) ∧ wr.ownsRow w.heap.size 222 2 x 0 (itC []) ∧ wr.ownsRow w.heap.size 220 1 r k vs ∧ Below w.heap.size w wr) (fun _ _ i _ => n - (intOf i).toNat)
 case atStart => exact ⟨0, [], Nat.zero_le _, rfl, rfl, World.ownsRow_nil _ _ _ _, World.ownsRow_nil _ _ _ _, Below.refl _ _⟩
 case round =>
  obtain ⟨k, vs, hk, hvs, rfl, hX, hR, hB⟩ := hrel
  have hsz := hB.size
  by_cases hlt : k < n
  · have hki : (k : Int) < (n : Int) := by omega
    have HPA : Hid (Calls _ _ _ _ _) := qm7 _ [] wr (PR.own (l := []) hX) (by simp) (by simp)
    obtain ⟨ax, cx, rfl⟩ := qb3 hX
    go_wp2_with fail
    refine (Hid.out HPA : Calls _ _ _ _ _).mono ?_
    rintro e w1 ⟨v1, rfl, hO1, hb1⟩
    have hB1 : Below w.heap.size w w1 := hB.trans (hb1.mono hsz)
    have HMA : Hid (Calls _ _ _ _ _) := qng _ _ [] [] w1 (HNV.out w1 hB1) (NR.own (l := []) hO1) (by simp)
    obtain ⟨a1, c1, rfl⟩ := qb3 hO1
    clear HPA
    go_wp2_with fail
    refine (Hid.out HMA : Calls _ _ _ _ _).mono ?_
    rintro e w2 ⟨v2, rfl, hO2, hb2⟩
    rw [show mrg [] [] = [] by rw [mrg]] at hO2
    have hO3 : w2.ownsRow w.heap.size 222 2 v2 0 (itC []) := qdb hO2 hB1.size
    have HB2 : Hid (Below w.heap.size w w2) := hB1.trans (hb2.mono hB1.size)
    have HR2 : Hid (w2.ownsRow w.heap.size 220 1 _ k vs) := qbp (qbp hR hb1) hb2
    obtain ⟨a2, c2, rfl⟩ := qb3 hO3
    have HO3 : Hid (w2.ownsRow w.heap.size 222 2 (.slice a2 0 c2) 0 (itC [])) := hO3
    have hsz2 := HB2.out.size
    clear HMA hO1 hO2 hb1 hb2 hB1 hO3 hX hR hB
    go_wp2_with (at_builtin; refine wpList_append_own _ rfl _ _ 218 rfl w.heap.size 220 i0 (.slice none 0 0) 1 24 Tryz.underlying218 hi hz0 hz1 hz2 rfl (by decide) _ _ _ rfl (HR2.out.alloc _) ⟨w2.heap.size, 0, none⟩ 1 1 [.slice a2 0 c2] rfl rfl (cell_one_new _ _ _) ?d2 ?d3 ?d4 ?d5 ?_)
    case d2 => first | rfl | (intro y hy; simp at hy; subst hy; rfl)
    case d3 => unfold maxLen; omega
    case d4 => omega
    case d5 => first | omega | (rw [World.size_alloc]; omega)
    intro v9 w9 hown hg9 _
    have HR9 : Hid (w9.ownsRow w.heap.size 220 1 v9 (k + 1) (vs ++ [.slice a2 0 c2])) := hown
    have HX9 : Hid (w9.ownsRow w.heap.size 222 2 (.slice a2 0 c2) 0 (itC [])) := qej (HO3.out.alloc _) (HR2.out.alloc _) (by decide) hg9
    have HB9 : Hid (Below w.heap.size w w9) := (HB2.out.alloc hsz2 _).grown hg9 (by rw [World.size_alloc]; omega) (fun q hq => (HR2.out.lt q hq).1)
    clear hown hg9 HR2 HO3 HB2
    go_wp2
    go_roundw
    case rel => exact ⟨k + 1, _, by omega, by simp; omega, by go_num, HX9.out, HR9.out, HB9.out⟩
    case measure => simp [intOf]; omega
  · obtain rfl : k = n := by omega
    obtain ⟨ar, cr, rfl⟩ := qb3 hR
    clear hX hR
    go_wp2
    go_ret
    exact ⟨_, _, rfl, hB⟩
theorem q0i (v : Value) (most : Nat) (w : World) (hV : NR w v []) (hm1 : 1 ≤ most) (hm : most ≤ 15) :
    Calls Tryz.prog 111 #[v, .int .i64 (most : Int)] w fun e w' => ∃ g, e = .returned (.slice (some ⟨g, 0, none⟩) 0 0) ∧ Below w.heap.size w w' := by
 obtain ⟨w1, hmk, hown, hb1⟩ := qgr 0 w (by omega)
 have HRA : Hid (Calls _ _ _ _ _) := qyy v most w1 (hV.below hb1) hm
 obtain ⟨av, cv, rfl, _⟩ := hV
 rw [List.length_nil] at HRA ⊢
 have hmk0 : (Instr.makeSlice 39 (.int .i64 0) (.int .i64 0)).run Tryz.prog w = .ok (.slice (some ⟨w.heap.size, 0, none⟩) 0 0) w1 := hmk
 go_enter Tryz.func111, Tryz.ntmps111
 go_wp2_with fail
 refine (Hid.out HRA : Calls _ _ _ _ _).mono ?_
 rintro e w2 ⟨ar, cr, rfl, hb2⟩
 have hbF := hb1.trans (hb2.mono hb1.size)
 have hIi : (0 : Int) ≤ (most : Int) - 1 := by omega
 clear HRA hmk hmk0 hown hb1 hb2
 go_wp2
 go_loopw [7, 8] (fun q i W => q = .int .i64 (-2) ∧ i = .int .i64 ((most : Int) - 1) ∧ W = w2) (fun _ i _ => 0)
 case atStart => exact ⟨rfl, rfl, rfl⟩
 case round =>
  obtain ⟨rfl, rfl, rfl⟩ := hrel
  go_wp2
  go_ret
  exact ⟨_, rfl, hbF⟩
theorem qm0 : ∀ (l : List Nat), qea l → ∀ i j, i < j → j < l.length → l.getD i 0 ≤ l.getD j 0
 | [], _, i, j, _, h => by simp at h
 | a :: l, ⟨h1, h2⟩, 0, j + 1, _, hj => by
  rw [List.getD_cons_zero, List.getD_cons_succ]
  have hj' : j < l.length := by simpa using hj
  exact h1 _ (by rw [List.getD_eq_getElem?_getD, List.getElem?_eq_getElem hj']; exact List.getElem_mem _)
 | a :: l, ⟨h1, h2⟩, i + 1, j + 1, hij, hj => by
  rw [List.getD_cons_succ, List.getD_cons_succ]
  exact qm0 l h2 i j (by omega) (by simpa using hj)
def byCS (zs : List Int) (a b : Nat) : Prop := (zs.getD a 0).toNat < (zs.getD b 0).toNat ∨ ((zs.getD a 0).toNat = (zs.getD b 0).toNat ∧ a < b)
theorem qy6 {zs : List Int} {ss : List Nat} (h : RisP zs ss) : ss.Pairwise (byCS zs) := by
 rw [List.pairwise_iff_getElem]
 intro i j hi hj hij
 have h1 := qm0 _ h.rise i j hij (by simpa using hj)
 have hm : ∀ k, (hk : k < ss.length) → (ss.map fun i => (zs.getD i 0).toNat).getD k 0 = (zs.getD ss[k] 0).toNat := fun k hk => by
  rw [List.getD_eq_getElem?_getD, List.getElem?_map, List.getElem?_eq_getElem hk]; rfl
 have hg : ∀ k, (hk : k < ss.length) → ss.getD k 0 = ss[k] := fun k hk => by
  rw [List.getD_eq_getElem?_getD, List.getElem?_eq_getElem hk]; rfl
 rw [hm i hi, hm j hj] at h1
 have hp : ∀ k, (hk : k < ss.length) → 0 < zs.getD ss[k] 0 := fun k hk => (qd0.1 (h.perm.mem_iff.1 (List.getElem_mem hk))).2
 have pi := hp i hi
 have pj := hp j hj
 unfold byCS
 by_cases he : (zs.getD ss[i] 0).toNat = (zs.getD ss[j] 0).toNat
 · right
   refine ⟨he, ?_⟩
   have := h.tie i j hij hj (by rw [hg i hi, hg j hj]; omega)
   rw [hg i hi, hg j hj] at this
   exact this
 · left; omega
def leCS (zs : List Int) (a b : Nat) : Bool := decide ((zs.getD a 0).toNat < (zs.getD b 0).toNat) || (decide ((zs.getD a 0).toNat = (zs.getD b 0).toNat) && decide (a ≤ b))
theorem qf6 (zs : List Int) (a b : Nat) : leCS zs a b = true ↔ ((zs.getD a 0).toNat < (zs.getD b 0).toNat ∨ ((zs.getD a 0).toNat = (zs.getD b 0).toNat ∧ a ≤ b)) := by
 unfold leCS; simp
def risF (zs : List Int) : List Nat := (posL zs zs.length).mergeSort (leCS zs)
theorem q2d {zs : List Int} {ss : List Nat} (h : RisP zs ss) : ss = risF zs := by
 have h1 : ss.Pairwise fun a b => leCS zs a b = true := (qy6 h).imp (fun {a b} q => by rw [qf6]; unfold byCS at q; omega)
 have h2 : (risF zs).Pairwise fun a b => leCS zs a b = true := List.pairwise_mergeSort (le := leCS zs) (fun a b c p q => by rw [qf6] at p q ⊢; omega) (fun a b => by rw [Bool.or_eq_true, qf6, qf6]; omega) _
 exact List.Perm.eq_of_pairwise (le := fun a b => leCS zs a b = true) (fun a b _ _ p q => by rw [qf6] at p q; omega) h1 h2 (h.perm.trans (List.mergeSort_perm _ _).symm)
theorem qn0 {zs : List Int} {m : Int} (h : chkC zs m = 0) : zs.length ≤ 320 ∧ 1 ≤ m ∧ m ≤ 15 ∧ ∀ z ∈ zs, 0 ≤ z ∧ z ≤ 1000000 := by
 unfold chkC at h
 by_cases h1 : 320 < zs.length
 · rw [if_pos h1] at h; cases h
 · rw [if_neg h1] at h
   by_cases h2 : m < 1 ∨ 15 < m
   · rw [if_pos h2] at h; cases h
   · rw [if_neg h2] at h
     by_cases h3 : ∃ z ∈ zs, z < 0 ∨ 1000000 < z
     · rw [if_pos h3] at h; cases h
     · refine ⟨by omega, by omega, by omega, fun z hz => ?_⟩
       constructor
       · exact Int.not_lt.1 fun q => h3 ⟨z, hz, .inl q⟩
       · exact Int.not_lt.1 fun q => h3 ⟨z, hz, .inr q⟩
theorem qir {w : World} {B n : Nat} {g : Nat} {xs : List Value} (h : w.ownsRow B 3 1 (.slice (some ⟨g, 0, none⟩) n n) n xs) : g < w.heap.size := (h.lt g rfl).2
theorem qlz (l : List Nat) (n : Nat) (h : l.length = n) : fz (fun i => l.getD i 0) n = nch l := by
 subst h
 apply List.ext_getElem?
 intro j
 by_cases hj : j < l.length
 · rw [qnq _ _ _ hj, qrf _ _ hj]
 · rw [List.getElem?_eq_none (by rw [qrs]; omega), List.getElem?_eq_none (by rw [qv4]; omega)]
theorem qkk {w w' : World} {B C n sz : Nat} {ty : TypeId} {v : Value} {xs : List Value} (h : w.ownsRow C ty sz v n xs) (hb : Below B w w') (hv : ∀ g, v.ownBlock = some g → g < B) : w'.ownsRow C ty sz v n xs := by
 refine ⟨h.1, ?_⟩
 rcases h.2 with h | ⟨g, cap, cur, rfl, h2, h3, h4⟩
 · exact .inl h
 · exact .inr ⟨g, cap, cur, rfl, h2, by rw [hb.block g (hv g rfl)]; exact h3, h4⟩
def wpF (ws : List Nat) (k : Nat) : Nat → Nat := fun j => if j < k then ws.getD j 0 else 0
theorem qnj (v : Value) (zs : List Int) (m : Nat) (w : World) (hR : IQ w v zs) (hk : chkC zs (m : Int) = 0) (hp : (posL zs zs.length).length ≤ 2 ^ m) :
    Calls Tryz.prog 97 #[v, .int .i64 (m : Int)] w fun e w' => ∃ (g : Nat) (ss : List Nat), e = .returned (.tuple #[.slice (some ⟨g, 0, none⟩) zs.length zs.length, .int .i64 0]) ∧ RisP zs ss ∧
     w'.ownsRow w.heap.size 3 1 (.slice (some ⟨g, 0, none⟩) zs.length zs.length) zs.length (nch (qby zs ss m)) ∧ Below w.heap.size w w' := by
 obtain ⟨h320, hm1, hm15, hzz⟩ := qn0 hk
 have HCK : Hid (Calls _ _ _ _ _) := qz9 v zs (m : Int) w hR (by omega)
 rw [hk] at HCK
 have HRS : Hid (Calls _ _ _ _ _) := qtb v zs w hR h320
 obtain ⟨g, o, cap, rfl, hg, hc⟩ := hR
 have HC : Hid (∀ i, i < zs.length → w.cell? ⟨g, o + i, none⟩ = some (.int .i64 (zs.getD i 0))) := hc
 have HZZ : Hid (∀ z ∈ zs, 0 ≤ z ∧ z ≤ 1000000) := hzz
 clear hc hzz
 go_enter Tryz.func97, Tryz.ntmps97
 go_wp2_with fail
 refine (Hid.out HCK : Calls _ _ _ _ _).mono ?_
 rintro e w1 ⟨rfl, hw1⟩
 obtain rfl := hw1.symm
 clear HCK
 go_wp2_with fail
 refine (Hid.out HRS : Calls _ _ _ _ _).mono ?_
 rintro e w1 ⟨u, ss, rfl, hris, hown, hb1⟩
 clear HRS hw1
 have hls : ss.length ≤ 2 ^ m := by rw [hris.perm.length_eq]; exact hp
 have hls2 : ss.length ≤ 320 := by rw [hris.perm.length_eq]; have := qlj zs zs.length; omega
 obtain ⟨a, cu, rfl⟩ := qb3 hown
 have hmn : ((m : Int)).toNat = m := by omega
 have hm0 : (0 : Int) ≤ (m : Int) := by omega
 have h2m : 2 ^ m ≤ 2 ^ 15 := Nat.pow_le_pow_right (by decide) (by omega)
 have hwr : wrap64 ((2 : Int) ^ m) = ((2 ^ m : Nat) : Int) := by
  rw [show (2 : Int) ^ m = ((2 ^ m : Nat) : Int) by simp]
  generalize 2 ^ m = P at *
  unfold wrap64
  omega
 have HLS : Hid (ss.length ≤ 2 ^ m) := hls
 have hnl : ¬ ((2 ^ m : Nat) : Int) < (ss.length : Int) := by omega
 clear h2m hls hp
 generalize hP : 2 ^ m = P at hwr hnl
 clear hP
 obtain ⟨w2, hmk, hout, hb2⟩ := qgr zs.length w1 h320
 have hslt : ∀ gs, a = some ⟨gs, 0, none⟩ → gs < w1.heap.size := fun gs e => (hown.lt gs (by rw [e]; rfl)).2
 have hsym2 := qbp hown hb2
 have hbw2 := hb1.trans (hb2.mono hb1.size)
 have hol := qir hout
 have hlt2 := hb1.size
 clear hown hb1 hb2
 have hmem : ∀ j, j < ss.length → ss.getD j 0 < zs.length := fun j hj => by
  have : ss.getD j 0 ∈ ss := by rw [List.getD_eq_getElem?_getD, List.getElem?_eq_getElem hj]; simp
  exact (qd0.1 (hris.perm.mem_iff.1 this)).1
 by_cases h1 : ss.length = 1
 · have hnl1 : ¬ (P : Int) < 1 := by omega
   obtain ⟨gs, rfl⟩ : ∃ gs, a = some ⟨gs, 0, none⟩ := by
    rcases hsym2.2 with ⟨e, h0⟩ | ⟨gs, c1, cur, e, _⟩
    · omega
    · injection e with e1; exact ⟨gs, e1⟩
   have hc0 : w2.cell? ⟨gs, 0, none⟩ = some (.int .i64 (ss.getD 0 0 : Int)) := by
    have := World.ownsRow.cells hsym2 (g := gs) rfl 0 _ (qrf ss 0 (by omega))
    rwa [Addr.add_mid] at this
   have hx := hmem 0 (by omega)
   have HL : Hid (fz (fun j => if j = ss.getD 0 0 then 1 else 0) zs.length = nch (qby zs ss m)) := by
    unfold Hid
    rw [← qlz (qby zs ss m) zs.length (qdi _ _ _ _)]
    refine qc2 fun j hj => ?_
    unfold qby lenF
    rw [if_pos h1, h1, putL, putL, qga, List.length_replicate]
    by_cases e : j = ss.getD 0 0
    · rw [if_pos e, if_pos ⟨e.symm, hj⟩]
    · rw [if_neg e, if_neg (fun q => e q.1.symm), List.getD_eq_getElem?_getD, List.getElem?_replicate, if_pos hj]; rfl
   rw [h1] at *
   generalize hxx : ss.getD 0 0 = x at *
   clear hxx
   have hxi : (x : Int) < (zs.length : Int) := by omega
   have hco : w2.cell? ⟨w1.heap.size, x, none⟩ = some (.int .i64 0) := by
    have := World.ownsRow.cells hout (g := w1.heap.size) rfl x _ (qnq _ _ x hx)
    rwa [Addr.add_mid, Nat.zero_add] at this
   have hfr : w2.frozen? ⟨w1.heap.size, x, none⟩ = false := by
    rcases hout.2 with ⟨e, _⟩ | ⟨g', c', cur, e, _, hg', _⟩
    · cases e
    · injection e with e1; injection e1 with e2; injection e2 with e3; rw [e3]; exact frozen_of_row _ _ _ _ _ hg'
   have hst := hout.stored x (.int .i64 ((1 : Nat) : Int))
   rw [qrr, HL.out] at hst
   have HST : Hid _ := hst.1
   have HBF : Hid (Below w.heap.size w (w2.setCell ⟨w1.heap.size, x, none⟩ (.int .i64 ((1 : Nat) : Int)))) := hbw2.setCell (p := ⟨w1.heap.size, x, none⟩) hlt2 _
   clear hst hout hsym2 hbw2
   go_wp2
   go_ret2
   exact ⟨_, ss, rfl, hris, qdb HST.out hlt2, HBF.out⟩
 · obtain ⟨w3, hmk3, hwts, hb3⟩ := qgr ss.length w2 hls2
   have hout3 := qbp hout hb3
   have hsym3 := qbp hsym2 hb3
   have hbw3 := hbw2.trans (hb3.mono hbw2.size)
   have hl3 := qir hwts
   have hsz2 := hbw2.size
   have h1i : ¬ (ss.length : Int) = 1 := by omega
   have HSY : Hid (∀ j, j < ss.length → ∃ gs, a = some ⟨gs, 0, none⟩ ∧ gs < w1.heap.size ∧ w3.cell? ⟨gs, j, none⟩ = some (.int .i64 (ss.getD j 0 : Int))) := fun j hj => by
    have hlt := hsym2.lt
    rcases hsym2.2 with ⟨e, h0⟩ | ⟨gs, c1, cur, e, _⟩
    · omega
    · injection e with e1
      subst e1
      refine ⟨gs, rfl, hslt gs rfl, ?_⟩
      have := World.ownsRow.cells hsym3 (g := gs) rfl j _ (qrf ss j hj)
      rwa [Addr.add_mid, Nat.zero_add] at this
   have HO3 : Hid _ := hout3
   have HBW3 : Hid (Below w.heap.size w w3) := hbw3
   have HC3 : Hid (∀ i, i < zs.length → w3.cell? ⟨g, o + i, none⟩ = some (.int .i64 (zs.getD i 0))) := fun i h => by rw [hbw3.cell (p := ⟨g, o + i, none⟩) hg]; exact HC.out i h
   have hgw2 : g < w2.heap.size := by omega
   clear hout hsym2 hbw2 hb3 hout3 hsym3 hbw3 HC
   have HZ : Hid (∀ j, j < ss.length → ((zs.getD (ss.getD j 0) 0).toNat : Int) = zs.getD (ss.getD j 0) 0) := fun j hj => by
    have : ss.getD j 0 ∈ ss := by rw [List.getD_eq_getElem?_getD, List.getElem?_eq_getElem hj]; simp
    have := (qd0.1 (hris.perm.mem_iff.1 this)).2
    omega
   have hwl : (wOf zs ss).length = ss.length := qfg zs ss
   have HWA : Hid (∀ j, j < ss.length → (wOf zs ss).getD j 0 = (zs.getD (ss.getD j 0) 0).toNat) := fun j hj => by
    unfold wOf
    rw [List.getD_eq_getElem?_getD, List.getElem?_map, List.getElem?_eq_getElem hj, List.getD_eq_getElem?_getD (l := ss), List.getElem?_eq_getElem hj]; rfl
   go_wp2
   go_loopw [44] (fun i wr => ∃ k : Nat, k ≤ ss.length ∧ i = .int .i64 (k : Int) ∧ wr.ownsRow w2.heap.size 3 1 (.slice (some ⟨w2.heap.size, 0, none⟩) ss.length ss.length) ss.length (fz (wpF (wOf zs ss) k) ss.length) ∧ Below w2.heap.size w3 wr) (fun i _ => ss.length - (intOf i).toNat)
   case atStart => exact ⟨0, by omega, rfl, by rw [qc2 (h := wpF (wOf zs ss) 0) (fun j _ => by simp [wpF])] at hwts; exact hwts, Below.refl _ _⟩
   case round =>
    clear hwts
    obtain ⟨k, hks, rfl, hwts, hbel⟩ := hrel
    by_cases hlt : k < ss.length
    · obtain ⟨gs, rfl, hgs, hcs⟩ := HSY.out k hlt
      have hki : (k : Int) < (ss.length : Int) := by omega
      have hx := hmem k hlt
      have c1 : wr.cell? ⟨gs, k, none⟩ = some (.int .i64 (ss.getD k 0 : Int)) := by rw [hbel.cell (p := ⟨gs, k, none⟩) (by show gs < _; omega)]; exact hcs
      have c2 : wr.cell? ⟨g, o + ss.getD k 0, none⟩ = some (.int .i64 ((zs.getD (ss.getD k 0) 0).toNat : Int)) := by
       rw [hbel.cell (p := ⟨g, _, none⟩) hgw2, HZ.out k hlt]; exact HC3.out _ hx
      have c3 := hwts.cellAt k (by omega)
      rw [qnq _ _ _ hlt] at c3
      have f3 := hwts.frozenAt k
      have hst := hwts.stored k (.int .i64 ((zs.getD (ss.getD k 0) 0).toNat : Int))
      rw [qrr, qc2 (h := wpF (wOf zs ss) (k + 1)) (fun j hj => by
       unfold wpF
       by_cases e : j = k
       · subst e; rw [if_pos rfl, if_pos (by omega), HWA.out j hj]
       · rw [if_neg e]
         by_cases q : j < k
         · rw [if_pos q, if_pos (by omega)]
         · rw [if_neg q, if_neg (by omega)])] at hst
      have HST : Hid _ := hst.1
      have HBF : Hid (Below w2.heap.size w3 (wr.setCell ⟨w2.heap.size, k, none⟩ (.int .i64 ((zs.getD (ss.getD k 0) 0).toNat : Int)))) := hbel.setCell (p := ⟨w2.heap.size, k, none⟩) (Nat.le_refl _) _
      generalize (zs.getD (ss.getD k 0) 0).toNat = y at *
      generalize hxx : ss.getD k 0 = x at *
      clear hxx hst hwts hbel
      have hxi : (x : Int) < (zs.length : Int) := by omega
      go_wp2
      go_roundw
      case rel => exact ⟨k + 1, by omega, by go_num, HST.out, HBF.out⟩
      case measure => simp [intOf]; omega
    · obtain rfl : k = ss.length := by omega
      rw [qc2 (h := fun i => (wOf zs ss).getD i 0) (fun j hj => by unfold wpF; rw [if_pos hj]), qlz _ _ hwl] at hwts
      have hbw4 : Below w.heap.size w wr := HBW3.out.trans (hbel.mono hsz2)
      have hsz34 := hbel.size
      have HNRW : Hid (NR wr _ _) := qvc hwts
      clear hwts HZ HC3
      by_cases h0 : ss.length = 0
      · have hss : ss = [] := List.eq_nil_of_length_eq_zero h0
        subst hss
        have HBN : Hid (Calls _ _ _ _ _) := q0i _ m wr HNRW.out (by omega) (by omega)
        have HOF : Hid (wr.ownsRow w1.heap.size 3 1 (.slice (some ⟨w1.heap.size, 0, none⟩) zs.length zs.length) zs.length (nch (qby zs [] m))) := by
         have := qkk HO3.out hbel (fun g' e => by simp [Value.ownBlock] at e; omega)
         rw [← qlz (qby zs [] m) zs.length (qdi _ _ _ _)]
         rw [qc2 (h := fun i => (qby zs [] m).getD i 0) (fun j hj => by
          show 0 = (List.replicate zs.length 0).getD j 0
          rw [List.getD_eq_getElem?_getD, List.getElem?_replicate, if_pos hj]; rfl)] at this
         exact this
        go_wp2_with fail
        refine (Hid.out HBN : Calls _ _ _ _ _).mono ?_
        rintro e w5 ⟨gb, rfl, hb5⟩
        have hoF := qdb (qbp HOF.out hb5) hlt2
        have hbF := hbw4.trans (hb5.mono hbw4.size)
        clear HBN HOF HO3 hb5 hbel
        go_wp2
        go_loopw [61] (fun i W => i = .int .i64 0 ∧ W = w5) (fun i _ => 0)
        case atStart => exact ⟨rfl, rfl⟩
        case round =>
         obtain ⟨rfl, rfl⟩ := hrel
         go_wp2
         go_ret2
         exact ⟨_, [], rfl, hris, hoF, hbF⟩
      · have hMx : ∀ y ∈ wOf zs ss, y ≤ 1000000 := fun y hy => by
          obtain ⟨i, hi, rfl⟩ := List.mem_map.1 hy
          have hil := (qd0.1 (hris.perm.mem_iff.1 hi)).1
          have hz : zs.getD i 0 ∈ zs := by rw [List.getD_eq_getElem?_getD, List.getElem?_eq_getElem hil]; simp
          have := HZZ.out _ hz
          omega
        have HBA : Hid (Calls _ _ _ _ _) := q0j _ (wOf zs ss) m wr HNRW.out (by omega) (by omega) (by omega) (by omega) (by rw [hwl]; exact HLS.out) hMx
        rw [hwl] at HBA
        go_wp2_with fail
        refine (Hid.out HBA : Calls _ _ _ _ _).mono ?_
        rintro e w5 ⟨gb, rfl, hbr, hb5⟩
        have hb35 : Below w2.heap.size w3 w5 := hbel.trans (hb5.mono (by omega))
        have hgb := hbr.lt gb rfl
        have HOF : Hid (w5.ownsRow w1.heap.size 3 1 (.slice (some ⟨w1.heap.size, 0, none⟩) zs.length zs.length) zs.length (fz (fun i => (putL ss (lenF zs ss m) zs.length 0).getD i 0) zs.length)) := by
         have := qkk HO3.out hb35 (fun g' e => by simp [Value.ownBlock] at e; omega)
         rw [qc2 (h := fun i => (putL ss (lenF zs ss m) zs.length 0).getD i 0) (fun j hj => by
          show 0 = (List.replicate zs.length 0).getD j 0
          rw [List.getD_eq_getElem?_getD, List.getElem?_replicate, if_pos hj]; rfl)] at this
         exact this
        have HBR : Hid (∀ j, j < ss.length → w5.cell? ⟨gb, j, none⟩ = some (.int .i64 (lenF zs ss m j : Int))) := fun j hj => by
         have := hbr.cellAt j (by omega)
         rw [qnq _ _ _ hj] at this
         unfold lenF; rw [if_neg h1]; exact this
        have HS5 : Hid (∀ j, j < ss.length → ∃ gs, a = some ⟨gs, 0, none⟩ ∧ gs < w1.heap.size ∧ w5.cell? ⟨gs, j, none⟩ = some (.int .i64 (ss.getD j 0 : Int))) := fun j hj => by
         obtain ⟨gs, e1, e2, e3⟩ := HSY.out j hj
         exact ⟨gs, e1, e2, by rw [hb35.cell (p := ⟨gs, j, none⟩) (by show gs < _; omega)]; exact e3⟩
        have HBW5 : Hid (Below w.heap.size w w5) := hbw4.trans (hb5.mono hbw4.size)
        clear HBA HNRW HO3 hbr hb5 hbel hb35 HSY hbw4 HBW3
        go_wp2
        go_loopw [61] (fun i wr => ∃ k : Nat, k ≤ ss.length ∧ i = .int .i64 (k : Int) ∧ wr.ownsRow w1.heap.size 3 1 (.slice (some ⟨w1.heap.size, 0, none⟩) zs.length zs.length) zs.length (fz (fun i => (putL ss (lenF zs ss m) zs.length k).getD i 0) zs.length) ∧ w5.grownBy wr (some w1.heap.size)) (fun i _ => ss.length - (intOf i).toNat)
        case atStart => exact ⟨0, by omega, rfl, HOF.out, qcj _ _⟩
        case round =>
         clear HOF
         obtain ⟨k, hks, rfl, hout, hgr⟩ := hrel
         by_cases hlt : k < ss.length
         · obtain ⟨gs, rfl, hgs, hcs⟩ := HS5.out k hlt
           have hki : (k : Int) < (ss.length : Int) := by omega
           have hx := hmem k hlt
           have c1 := hgr.cell hcs (by intro e; injection e with e; simp only at e; omega)
           have c2 := hgr.cell (HBR.out k hlt) (by intro e; injection e with e; simp only at e; omega)
           have c3 := hout.cellAt (ss.getD k 0) (by omega)
           rw [qnq _ _ _ hx] at c3
           have f3 := hout.frozenAt (ss.getD k 0)
           have hst := hout.stored (ss.getD k 0) (.int .i64 (lenF zs ss m k : Int))
           rw [qrr, qc2 (h := fun i => (putL ss (lenF zs ss m) zs.length (k + 1)).getD i 0) (fun j hj => by
            show (if j = ss.getD k 0 then _ else _) = (putL ss (lenF zs ss m) zs.length (k + 1)).getD j 0
            rw [putL, qga, qdi]
            by_cases e : j = ss.getD k 0
            · rw [if_pos e, if_pos ⟨e.symm, hj⟩]
            · rw [if_neg e, if_neg (fun q => e q.1.symm)])] at hst
           have HST : Hid _ := hst.1
           have HGF : Hid (w5.grownBy (wr.setCell ⟨w1.heap.size, ss.getD k 0, none⟩ (.int .i64 (lenF zs ss m k : Int))) (some w1.heap.size)) := gset hgr _ _
           clear hst hout hgr hcs
           generalize hyy : lenF zs ss m k = y at *
           generalize hxx : ss.getD k 0 = x at *
           clear hxx hyy
           have hxi : (x : Int) < (zs.length : Int) := by omega
           go_wp2
           go_roundw
           case rel => exact ⟨k + 1, by omega, by go_num, HST.out, HGF.out⟩
           case measure => simp [intOf]; omega
         · obtain rfl : k = ss.length := by omega
           have hoF : wr.ownsRow w.heap.size 3 1 (.slice (some ⟨w1.heap.size, 0, none⟩) zs.length zs.length) zs.length (nch (qby zs ss m)) := by
            rw [← qlz (qby zs ss m) zs.length (qdi _ _ _ _)]
            exact qdb hout hlt2
           have hbF : Below w.heap.size w wr := HBW5.out.grown hgr HBW5.out.size (fun q hq => by cases hq; exact hlt2)
           clear hout hgr
           go_wp2
           go_ret2
           exact ⟨_, ss, rfl, hris, hoF, hbF⟩
end Go.Proofs.YthkppipdflmekaaGreat
