/- Contracts of node's number, text, head and told: a node as bytes. -/
import Derived.Test.YtkgjepgaekbniaaDoorQNodK
import Derived.Test.YtkgjepgaekbniaaDoorQVar
import Derived.Test.YtkgjepgaekbniaaDoorQBldF
import Derived.Deep.RegionHeld3
namespace Go.Proofs.YtkgjepgaekbniaaDoor
open Go.RowKit
set_option linter.unusedVariables false
set_option linter.unusedSimpArgs false

/-- A number as bytes. -/
def vb (x : Nat) : List UInt8 := (varN x).map UInt8.ofNat
theorem bs_vb (x : Nat) : bs (varN x) = mkB (vb x) := by
  unfold bs strOfNums mkB vb
  congr 1
  apply Array.toList_inj.1
  simp
theorem vb_len (x : Nat) (h : x < 18446744073709551616) : (vb x).length ≤ 10 := by unfold vb; rw [List.length_map]; exact varN_len64 h
def headB (k : Nat) (a : List UInt8) (m t : Nat) : List UInt8 := vb k ++ (vb a.length ++ a) ++ vb m ++ vb t
/-- A node as bytes. -/
def tldN : Nd → List UInt8
  | .fol a m t => headB 1 a m.toNat t.toNat
  | .pla a m t s c => headB 2 a m.toNat t.toNat ++ vb s.toNat ++ vb c.length ++ c.flatten
  | .sym a m t g => headB 3 a m.toNat t.toNat ++ (vb g.length ++ g)
  | .ptr .. => []
  | .non => []
theorem catB (a b : List UInt8) : mkB a ++ mkB b = mkB (a ++ b) := by
  apply mkB_inj
  simp [ByteArray.data_append, mkB]
/-- Two texts one behind the other. -/
theorem cat_run (a b : List UInt8) (h : a.length + b.length ≤ 1000000000) (w : World) : (Op.stringOp .add (mkB a) (mkB b)).run Tryd.prog w = .ok (.string (mkB (a ++ b))) w := by
  rw [run_string_add_sum _ _ _ (by rw [mkB_size, mkB_size]; omega), catB]
set_option maxRecDepth 100000 in
set_option maxHeartbeats 400000 in
theorem num_any (x : Nat) (w : World) (hx : x ≤ 9223372036854775807) :
    Calls Tryd.prog 22 #[.int .i64 (x : Int)] w fun e w' => e = .returned (.string (mkB (vb x))) ∧ Below w.heap.size w w' := by
  have HV : Hid (Calls _ _ _ _ _) := var_any (x : Int) w (by omega) (by omega)
  unfold Hid at HV
  rw [Int.toNat_natCast, bs_vb] at HV
  have h1 : (0 : Int) ≤ (x : Int) := by omega
  have h2 : (x : Int) ≤ 9223372036854775807 := by omega
  go_enter Tryd.func22, Tryd.ntmps22
  go_wp2_with fail
  refine (HV : Calls _ _ _ _ _).mono ?_
  rintro e w1 ⟨rfl, hb⟩
  go_wp2
  go_ret
  exact ⟨rfl, hb⟩
set_option maxRecDepth 100000 in
set_option maxHeartbeats 400000 in
theorem text_any (a : List UInt8) (w : World) (ha : a.length ≤ 1000000) :
    Calls Tryd.prog 34 #[.string (mkB a)] w fun e w' => e = .returned (.string (mkB (vb a.length ++ a))) ∧ Below w.heap.size w w' := by
  have hz := mkB_size a
  have hz2 := mkB_size (vb a.length)
  have hl := vb_len a.length (by omega)
  have hc := catB (vb a.length) a
  go_enter Tryd.func34, Tryd.ntmps34
  go_wp2_with fail
  refine (num_any a.length _ (by omega)).mono ?_
  rintro e w1 ⟨rfl, hb⟩
  go_wp2
  go_ret
  exact ⟨rfl, hb⟩
set_option maxRecDepth 100000 in
set_option maxHeartbeats 1000000 in
theorem head_any (k : Nat) (a : List UInt8) (m t : Nat) (w : World) (hk : k ≤ 3) (ha : a.length ≤ 1000000) (hm : m ≤ 511) (ht : t ≤ 253402300799) :
    Calls Tryd.prog 32 #[.int .i64 (k : Int), .string (mkB a), .int .i64 (m : Int), .int .i64 (t : Int)] w fun e w' => e = .returned (.string (mkB (headB k a m t))) ∧ Below w.heap.size w w' := by
  have l1 := vb_len k (by omega)
  have l2 := vb_len a.length (by omega)
  have l3 := vb_len m (by omega)
  have l4 := vb_len t (by omega)
  have c1 := catB (vb k) (vb a.length ++ a)
  have c2 := catB (vb k ++ (vb a.length ++ a)) (vb m)
  have c3 := catB (vb k ++ (vb a.length ++ a) ++ vb m) (vb t)
  have z1 := mkB_size (vb k)
  have z2 := mkB_size (vb a.length ++ a)
  have z3 := mkB_size (vb k ++ (vb a.length ++ a))
  have z4 := mkB_size (vb m)
  have z5 := mkB_size (vb k ++ (vb a.length ++ a) ++ vb m)
  have z6 := mkB_size (vb t)
  have HH : Hid (headB k a m t = vb k ++ (vb a.length ++ a) ++ vb m ++ vb t) := rfl
  have y2 : (vb a.length ++ a).length ≤ 1000010 := by rw [List.length_append]; omega
  have y3 : (vb k ++ (vb a.length ++ a)).length ≤ 1000020 := by rw [List.length_append]; omega
  have y5 : (vb k ++ (vb a.length ++ a) ++ vb m).length ≤ 1000030 := by rw [List.length_append]; omega
  go_enter Tryd.func32, Tryd.ntmps32
  go_wp2_with fail
  refine (num_any k _ (by omega)).mono ?_
  rintro e w1 ⟨rfl, hb1⟩
  go_wp2_with fail
  refine (text_any a _ ha).mono ?_
  rintro e w2 ⟨rfl, hb2⟩
  have hB2 := belN hb1 hb2
  generalize vb a.length ++ a = T1 at *
  generalize vb k ++ T1 = T2 at *
  generalize T2 ++ vb m = T3 at *
  go_wp2_with fail
  refine (num_any m _ (by omega)).mono ?_
  rintro e w3 ⟨rfl, hb3⟩
  have hB3 := belN hB2 hb3
  go_wp2_with fail
  refine (num_any t _ (by omega)).mono ?_
  rintro e w4 ⟨rfl, hb4⟩
  go_wp2
  go_ret
  rw [HH.out]
  exact ⟨rfl, belN hB3 hb4⟩
theorem TR.join {w : World} {v : Value} {l : List (List UInt8)} (h : TR w v l) (hl : l.length ≤ 40000) (hx : l.flatten.length ≤ 10000000) :
    Calls Tryd.prog 33 #[v, .string ⟨#[]⟩] w fun e w' => e = .returned (.string (mkB l.flatten)) ∧ Below w.heap.size w w' := by
  obtain ⟨a, cap, rfl, hle, hc⟩ := h
  by_cases h0 : l = []
  · subst h0
    exact (Tryd.strings_Join_none a cap ⟨#[]⟩ w).mono fun e w' ⟨h1, h2⟩ => ⟨by rw [h1]; rfl, by rw [h2]; exact Below.refl _ _⟩
  · have hp := List.length_pos_iff.2 h0
    obtain ⟨x, hx0, hx1⟩ := hc 0 hp
    subst hx0
    have hx2 : w.cell? x = some (.string (mkB (l.getD 0 []))) := hx1
    have hsp : x = ⟨x.block, x.off, none⟩ := by
      unfold World.cell? at hx2
      split at hx2
      · split at hx2
        · cases hx2
        · rename_i h9
          cases x with
          | mk b o s => cases s with
            | none => rfl
            | some s => simp at h9
      · cases hx2
    have hblk := World.block_lt_of_cell? _ _ hx2
    have hj : ∀ (xs : List (List UInt8)), Lib.join ((xs.map mkB).map (·.data.toList)) (ByteArray.mk #[]).data.toList = xs.flatten := by
      intro xs
      cases xs with
      | nil => rfl
      | cons p ps =>
        rw [List.map_cons, List.map_cons, Lib.join_cons]
        unfold Lib.joinTail
        have e : ∀ q : List (List UInt8), ((q.map mkB).map (·.data.toList)).map ((ByteArray.mk #[]).data.toList ++ ·) = q := by
          intro q
          rw [List.map_map, List.map_map]
          conv => rhs; rw [← List.map_id q]
          exact List.map_congr_left fun a _ => rfl
        rw [e]
        rfl
    have := Tryd.strings_Join x.block x.off cap (l.map mkB) ⟨#[]⟩ w (fun j y hy => by
      have hjl : j < l.length := by
        have := (List.getElem?_eq_some_iff.1 hy).1
        simpa using this
      obtain ⟨x', hx', hc'⟩ := hc j hjl
      obtain rfl := Option.some.inj hx'
      rw [hsp] at hc'
      rw [Addr.add_lit] at hc'
      rw [hc']
      rw [List.getElem?_map, List.getElem?_eq_getElem hjl] at hy
      simp at hy
      rw [← hy, List.getD_eq_getElem?_getD, List.getElem?_eq_getElem hjl]
      rfl) hblk (by simp; omega) (by simpa using hle) (by rw [hj]; omega)
    rw [hj, List.length_map, ← hsp] at this
    exact this
set_option maxRecDepth 100000 in
set_option maxHeartbeats 4000000 in
theorem told_any (n : Nd) (v : Value) (w : World) (h : NV w v n) (hB : NB n) (hu : unfitN n = 0) :
    Calls Tryd.prog 23 #[v] w fun e w' => e = .returned (.string (mkB (tldN n))) ∧ Below w.heap.size w w' := by
  obtain ⟨hk0, his⟩ := unfit_zero hu
  have hat := isL_len his
  have hf : formN n = true := by
    unfold unfitN at hu
    rw [if_neg hk0, if_neg (by simp [his])] at hu
    split at hu
    · omega
    · rename_i h9; simpa using h9
  cases n with
  | fol a m t =>
    obtain rfl := h
    simp only [formN, datedN, Bool.and_eq_true, decide_eq_true_eq] at hf
    obtain ⟨⟨⟨f1, f2⟩, f3⟩, f4⟩ := hf
    obtain ⟨m, rfl⟩ := Int.eq_ofNat_of_zero_le f1
    obtain ⟨t, rfl⟩ := Int.eq_ofNat_of_zero_le f3
    simp only [atN] at hat
    have HT : Hid (tldN (.fol a (m : Int) (t : Int)) = headB 1 a m t) := rfl
    have q1 := taFF
    clear hk0 his hu hB
    go_enter Tryd.func23, Tryd.ntmps23
    go_wp2_with fail
    refine (head_any 1 a m t _ (by omega) (by omega) (by omega) (by omega)).mono ?_
    rintro e w1 ⟨rfl, hb1⟩
    go_wp2
    go_ret
    rw [HT.out]
    exact ⟨rfl, ((Below.refl _ w).alloc (Nat.le_refl _) _).trans (hb1.mono (by simp))⟩
  | pla a m t s c =>
    obtain ⟨u, rfl, hT⟩ := h
    simp only [formN, datedN, filledN, Bool.and_eq_true, decide_eq_true_eq] at hf
    obtain ⟨⟨⟨⟨f1, f2⟩, f3⟩, f4⟩, ⟨⟨⟨g1, g2⟩, g3⟩, g4⟩, g5⟩ := hf
    obtain ⟨m, rfl⟩ := Int.eq_ofNat_of_zero_le f1
    obtain ⟨t, rfl⟩ := Int.eq_ofNat_of_zero_le f3
    obtain ⟨s, rfl⟩ := Int.eq_ofNat_of_zero_le g1
    simp only [atN] at hat
    have hfl : c.flatten.length = c.length * 32 := by
      rw [List.length_flatten]
      have : c.map List.length = List.replicate c.length 32 := by
        apply List.ext_getElem (by simp)
        intro i h1 h2
        simp only [List.all_eq_true, decide_eq_true_eq] at g5
        simp [g5 _ (List.getElem_mem (by simpa using h1))]
      rw [this]
      simp
    have hcl : c.length ≤ 32768 := by omega
    have HJ : Hid (∀ W, Below w.heap.size w W → Calls _ _ _ W _) := fun W hb => (hT.below hb).join (by omega) (by omega)
    unfold Hid at HJ
    obtain ⟨ua, uc, rfl⟩ := hT.len
    have HTD : Hid (tldN (.pla a (m : Int) (t : Int) (s : Int) c) = headB 2 a m t ++ vb s ++ vb c.length ++ c.flatten) := rfl
    have q1 := taPF
    have q2 := taPP
    have l1 : (headB 2 a m t).length ≤ 300 := by
      unfold headB
      have := vb_len 2 (by omega); have := vb_len a.length (by omega); have := vb_len m (by omega); have := vb_len t (by omega)
      simp only [List.length_append]; omega
    have l2 := vb_len s (by omega)
    have l3 := vb_len c.length (by omega)
    have c1 := catB (headB 2 a m t) (vb s)
    have c2 := catB (headB 2 a m t ++ vb s) (vb c.length)
    have c3 := catB (headB 2 a m t ++ vb s ++ vb c.length) c.flatten
    have z1 := mkB_size (headB 2 a m t)
    have z2 := mkB_size (vb s)
    have z3 := mkB_size (headB 2 a m t ++ vb s)
    have z4 := mkB_size (vb c.length)
    have z5 := mkB_size (headB 2 a m t ++ vb s ++ vb c.length)
    have z6 := mkB_size c.flatten
    have y3 : (headB 2 a m t ++ vb s).length ≤ 400 := by rw [List.length_append]; omega
    have y5 : (headB 2 a m t ++ vb s ++ vb c.length).length ≤ 500 := by rw [List.length_append]; omega
    have r1 := cat_run (headB 2 a m t) (vb s) (by omega)
    have r2 := cat_run (headB 2 a m t ++ vb s) (vb c.length) (by omega)
    have r3 := cat_run (headB 2 a m t ++ vb s ++ vb c.length) c.flatten (by omega)
    clear c1 c2 c3 z1 z2 z3 z4 z5 z6
    have HHD : Hid (∀ W, Calls _ _ _ W _) := fun W => head_any 2 a m t W (by omega) (by omega) (by omega) (by omega)
    have HN1 : Hid (∀ W, Calls _ _ _ W _) := fun W => num_any s W (by omega)
    have HN2 : Hid (∀ W, Calls _ _ _ W _) := fun W => num_any c.length W (by omega)
    unfold Hid at HHD HN1 HN2
    rw [show ((2 : Nat) : Int) = 2 from rfl] at HHD
    clear hk0 his hu hB hT g5 g4 hfl
    generalize headB 2 a m t = HDR at *
    generalize vb s = VS at *
    generalize vb c.length = VC at *
    generalize c.flatten = CF at *
    generalize HDR ++ VS = X1 at *
    generalize X1 ++ VC = X2 at *
    generalize X2 ++ CF = X3 at *
    go_enter Tryd.func23, Tryd.ntmps23
    go_wp2
    have HB0 : Hid (Below w.heap.size w (w.alloc (.cells #[.string (mkB a), .int .i64 (m : Int), .int .i64 (t : Int), .int .i64 (s : Int), .slice ua c.length uc] 29))) := (Below.refl _ w).alloc (Nat.le_refl _) _
    have hbk := heap_alloc_new w (.cells #[.string (mkB a), .int .i64 (m : Int), .int .i64 (t : Int), .int .i64 (s : Int), .slice ua c.length uc] 29)
    have hsz : (w.alloc (.cells #[.string (mkB a), .int .i64 (m : Int), .int .i64 (t : Int), .int .i64 (s : Int), .slice ua c.length uc] 29)).heap.size = w.heap.size + 1 := by simp
    generalize w.alloc _ = W0 at *
    have k0 : W0.cell? ⟨w.heap.size, 0, none⟩ = some (.string (mkB a)) := by rw [Lib.cell_of_heap hbk]; rfl
    have k1 : W0.cell? ⟨w.heap.size, 1, none⟩ = some (.int .i64 (m : Int)) := by rw [Lib.cell_of_heap hbk]; rfl
    have k2 : W0.cell? ⟨w.heap.size, 2, none⟩ = some (.int .i64 (t : Int)) := by rw [Lib.cell_of_heap hbk]; rfl
    have k3 : W0.cell? ⟨w.heap.size, 3, none⟩ = some (.int .i64 (s : Int)) := by rw [Lib.cell_of_heap hbk]; rfl
    have k4 : W0.cell? ⟨w.heap.size, 4, none⟩ = some (.slice ua c.length uc) := by rw [Lib.cell_of_heap hbk]; rfl
    have HK5 : ∀ w', Below W0.heap.size W0 w' → Below W0.heap.size W0 w' ∧ w'.cell? ⟨w.heap.size, 0, none⟩ = some (.string (mkB a)) ∧ w'.cell? ⟨w.heap.size, 1, none⟩ = some (.int .i64 (m : Int)) ∧ w'.cell? ⟨w.heap.size, 2, none⟩ = some (.int .i64 (t : Int)) ∧ w'.cell? ⟨w.heap.size, 3, none⟩ = some (.int .i64 (s : Int)) ∧ w'.cell? ⟨w.heap.size, 4, none⟩ = some (.slice ua c.length uc) := fun w' hb =>
      ⟨hb, (hb.cell (p := ⟨w.heap.size, 0, none⟩) (by show w.heap.size < _; omega)).trans k0, (hb.cell (p := ⟨w.heap.size, 1, none⟩) (by show w.heap.size < _; omega)).trans k1, (hb.cell (p := ⟨w.heap.size, 2, none⟩) (by show w.heap.size < _; omega)).trans k2, (hb.cell (p := ⟨w.heap.size, 3, none⟩) (by show w.heap.size < _; omega)).trans k3, (hb.cell (p := ⟨w.heap.size, 4, none⟩) (by show w.heap.size < _; omega)).trans k4⟩
    have HJB : ∀ w', Below W0.heap.size W0 w' → Below w.heap.size w w' := fun w' h => HB0.out.trans (h.mono (by omega))
    have HKA : Hid (∀ w', Below W0.heap.size W0 w' → Below W0.heap.size W0 w' ∧ w'.cell? ⟨w.heap.size, 0, none⟩ = some (.string (mkB a)) ∧ w'.cell? ⟨w.heap.size, 1, none⟩ = some (.int .i64 (m : Int)) ∧ w'.cell? ⟨w.heap.size, 2, none⟩ = some (.int .i64 (t : Int)) ∧ w'.cell? ⟨w.heap.size, 3, none⟩ = some (.int .i64 (s : Int)) ∧ w'.cell? ⟨w.heap.size, 4, none⟩ = some (.slice ua c.length uc)) := HK5
    clear HK5
    go_region_held3 (fun w' => Below W0.heap.size W0 w' ∧ w'.cell? ⟨w.heap.size, 0, none⟩ = some (.string (mkB a)) ∧ w'.cell? ⟨w.heap.size, 1, none⟩ = some (.int .i64 (m : Int)) ∧ w'.cell? ⟨w.heap.size, 2, none⟩ = some (.int .i64 (t : Int)) ∧ w'.cell? ⟨w.heap.size, 3, none⟩ = some (.int .i64 (s : Int)) ∧ w'.cell? ⟨w.heap.size, 4, none⟩ = some (.slice ua c.length uc)) (first | exact HKA.out _ (Below.refl _ _) | exact HKA.out _ ((Below.refl _ _).drew) | assumption | exact HKA.out _ (belN (And.left (by assumption)) hb4) | exact HKA.out _ (belN (And.left (by assumption)) hb3) | exact HKA.out _ (belN (And.left (by assumption)) hb2) | exact HKA.out _ (belN (And.left (by assumption)) hb1)) (first | (go_at_call 32; refine (HHD _).mono ?_; rintro e w1 ⟨rfl, hb1⟩) | (go_at_call_of 22 (s : Int); refine (HN1 _).mono ?_; rintro e w2 ⟨rfl, hb2⟩) | (go_at_call 22; refine (HN2 _).mono ?_; rintro e w3 ⟨rfl, hb3⟩) | (go_at_call 33; refine (HJ _ ?_).mono ?_; (exact HJB _ (And.left (by assumption))); rintro e w4 ⟨rfl, hb4⟩))
    rename_i hH
    have hBf := HJB _ hH.1
    clear hH HKA
    go_wp2
    go_ret
    rw [HTD.out]
    exact ⟨rfl, hBf⟩
  | sym a m t g =>
    obtain rfl := h
    simp only [formN, datedN, targN, Bool.and_eq_true, decide_eq_true_eq] at hf
    obtain ⟨⟨⟨⟨f1, f2⟩, f3⟩, f4⟩, ⟨g1, g2⟩, g3⟩ := hf
    obtain ⟨m, rfl⟩ := Int.eq_ofNat_of_zero_le f1
    obtain ⟨t, rfl⟩ := Int.eq_ofNat_of_zero_le f3
    simp only [atN] at hat
    have HTD : Hid (tldN (.sym a (m : Int) (t : Int) g) = headB 3 a m t ++ (vb g.length ++ g)) := rfl
    have q1 := taSF
    have q2 := taSP
    have q3 := taSS
    have l1 : (headB 3 a m t).length ≤ 300 := by
      unfold headB
      have := vb_len 3 (by omega); have := vb_len a.length (by omega); have := vb_len m (by omega); have := vb_len t (by omega)
      simp only [List.length_append]; omega
    have l2 : (vb g.length ++ g).length ≤ 300 := by have := vb_len g.length (by omega); rw [List.length_append]; omega
    have r1 := cat_run (headB 3 a m t) (vb g.length ++ g) (by omega)
    have HHD : Hid (∀ W, Calls _ _ _ W _) := fun W => head_any 3 a m t W (by omega) (by omega) (by omega) (by omega)
    have HTX : Hid (∀ W, Calls _ _ _ W _) := fun W => text_any g W (by omega)
    unfold Hid at HHD HTX
    rw [show ((3 : Nat) : Int) = 3 from rfl] at HHD
    clear hk0 his hu hB g3 g1
    generalize headB 3 a m t = HDR at *
    generalize vb g.length ++ g = VG at *
    generalize HDR ++ VG = X1 at *
    go_enter Tryd.func23, Tryd.ntmps23
    go_wp2
    have HB0 : Hid (Below w.heap.size w (w.alloc (.cells #[.string (mkB a), .int .i64 (m : Int), .int .i64 (t : Int), .string (mkB g)] 44))) := (Below.refl _ w).alloc (Nat.le_refl _) _
    have hbk := heap_alloc_new w (.cells #[.string (mkB a), .int .i64 (m : Int), .int .i64 (t : Int), .string (mkB g)] 44)
    have hsz : (w.alloc (.cells #[.string (mkB a), .int .i64 (m : Int), .int .i64 (t : Int), .string (mkB g)] 44)).heap.size = w.heap.size + 1 := by simp
    generalize w.alloc _ = W0 at *
    have k0 : W0.cell? ⟨w.heap.size, 0, none⟩ = some (.string (mkB a)) := by rw [Lib.cell_of_heap hbk]; rfl
    have k1 : W0.cell? ⟨w.heap.size, 1, none⟩ = some (.int .i64 (m : Int)) := by rw [Lib.cell_of_heap hbk]; rfl
    have k2 : W0.cell? ⟨w.heap.size, 2, none⟩ = some (.int .i64 (t : Int)) := by rw [Lib.cell_of_heap hbk]; rfl
    have k3 : W0.cell? ⟨w.heap.size, 3, none⟩ = some (.string (mkB g)) := by rw [Lib.cell_of_heap hbk]; rfl
    have HJB : ∀ w', Below W0.heap.size W0 w' → Below w.heap.size w w' := fun w' h => HB0.out.trans (h.mono (by omega))
    have HKA : Hid (∀ w', Below W0.heap.size W0 w' → Below W0.heap.size W0 w' ∧ w'.cell? ⟨w.heap.size, 0, none⟩ = some (.string (mkB a)) ∧ w'.cell? ⟨w.heap.size, 1, none⟩ = some (.int .i64 (m : Int)) ∧ w'.cell? ⟨w.heap.size, 2, none⟩ = some (.int .i64 (t : Int)) ∧ w'.cell? ⟨w.heap.size, 3, none⟩ = some (.string (mkB g))) := fun w' hb =>
      ⟨hb, (hb.cell (p := ⟨w.heap.size, 0, none⟩) (by show w.heap.size < _; omega)).trans k0, (hb.cell (p := ⟨w.heap.size, 1, none⟩) (by show w.heap.size < _; omega)).trans k1, (hb.cell (p := ⟨w.heap.size, 2, none⟩) (by show w.heap.size < _; omega)).trans k2, (hb.cell (p := ⟨w.heap.size, 3, none⟩) (by show w.heap.size < _; omega)).trans k3⟩
    go_region_held3 (fun w' => Below W0.heap.size W0 w' ∧ w'.cell? ⟨w.heap.size, 0, none⟩ = some (.string (mkB a)) ∧ w'.cell? ⟨w.heap.size, 1, none⟩ = some (.int .i64 (m : Int)) ∧ w'.cell? ⟨w.heap.size, 2, none⟩ = some (.int .i64 (t : Int)) ∧ w'.cell? ⟨w.heap.size, 3, none⟩ = some (.string (mkB g))) (first | exact HKA.out _ (Below.refl _ _) | exact HKA.out _ ((Below.refl _ _).drew) | assumption | exact HKA.out _ (belN (And.left (by assumption)) hb2) | exact HKA.out _ (belN (And.left (by assumption)) hb1)) (first | (go_at_call 32; refine (HHD _).mono ?_; rintro e w1 ⟨rfl, hb1⟩) | (go_at_call 34; refine (HTX _).mono ?_; rintro e w2 ⟨rfl, hb2⟩))
    rename_i hH
    have hBf := HJB _ hH.1
    clear hH HKA
    go_wp2
    go_ret
    rw [HTD.out]
    exact ⟨rfl, hBf⟩
  | ptr a m t => exact absurd rfl hk0
  | non => exact absurd rfl hk0
end Go.Proofs.YtkgjepgaekbniaaDoor
