/- The walk of PathParts. -/
import Derived.Test.YtmflekhhakadeaaDoorAwk11
namespace Go.Proofs.YtmflekhhakadeaaDoor
open Go.RowKit
set_option linter.unusedVariables false

theorem belT3 {a b c : World} (h : Below a.heap.size a b) (k : Below b.heap.size b c) : Below a.heap.size a c := h.trans (k.mono h.size)
theorem cat_mk3 (a b : List UInt8) : (ByteArray.mk a.toArray) ++ (ByteArray.mk b.toArray) = ⟨(a ++ b).toArray⟩ := by
  have e : ((ByteArray.mk a.toArray) ++ (ByteArray.mk b.toArray)).data.toList = a ++ b := by simp [ByteArray.data_append]
  generalize (ByteArray.mk a.toArray) ++ (ByteArray.mk b.toArray) = x at *
  obtain ⟨d⟩ := x
  have : d.toList = a ++ b := e
  rw [← this]
theorem runes_slash : ∀ (n : Nat) (l : List UInt8), l.length ≤ n → runesOk l = true → ∀ x ∈ l, x ≠ 47
  | 0, l, h, _ => by
    obtain rfl : l = [] := List.length_eq_zero_iff.1 (by omega)
    simp
  | n + 1, [], h, _ => by simp
  | n + 1, b :: t, h, ho => by
    have hne : b :: t ≠ [] := by simp
    have hd := drop_less (b :: t) hne
    rw [runesOk_cons hne, Bool.and_eq_true, okR_iff] at ho
    obtain ⟨⟨h1, h2, h3, h4⟩, h5⟩ := ho
    have ih := runes_slash n _ (by omega) h5
    have hg := dcd_good b t h4
    intro x hx e
    subst e
    have hsp : (b :: t) = (b :: t).take (rn (b :: t)).2 ++ (b :: t).drop (rn (b :: t)).2 := (List.take_append_drop _ _).symm
    rw [hsp] at hx
    rcases List.mem_append.1 hx with hx | hx
    · obtain ⟨k, hk⟩ : ∃ k, (rn (b :: t)).2 = k + 1 := ⟨(rn (b :: t)).2 - 1, by have := hg.1; show (dcd b t).2 = (dcd b t).2 - 1 + 1; omega⟩
      rw [hk, List.take_succ_cons] at hx
      rcases List.mem_cons.1 hx with hx | hx
      · subst hx
        have : rn (47 :: t) = (47, 1) := dcd_ascii 47 t (by decide)
        rw [this] at h3
        exact h3 rfl
      · have hk' : (dcd b t).2 - 1 = k := by show (rn (b :: t)).2 - 1 = k; omega
        have := hg.2.2.1 47 (by rw [hk']; exact hx)
        simp [cnt] at this
    · exact ih 47 hx rfl
theorem name_slash {l : List UInt8} (h : nameL l = true) : ∀ x ∈ l, x ≠ 47 := by
  unfold nameL at h
  simp only [Bool.and_eq_true] at h
  exact runes_slash _ l (Nat.le_refl _) h.2
theorem isL_iff (l : List UInt8) : isL l = true ↔ l.length ≤ 200 ∧ (parts l).length ≤ 8 ∧ ∀ p ∈ parts l, nameL p = true := by
  unfold isL
  simp only [Bool.and_eq_true, decide_eq_true_eq, List.all_eq_true]
  exact ⟨fun h => ⟨h.1.1, h.1.2, h.2⟩, fun h => ⟨⟨h.1, h.2.1⟩, h.2.2⟩⟩
theorem is_base {l : List UInt8} (h : isL l = true) : nameL (basL l) = true := by
  rw [isL_iff] at h
  rw [← basL_last]
  exact h.2.2 _ (List.getLast_mem _)
/-- Of a path: it is its last part, or its folder, a slash and it. -/
theorem is_par {l : List UInt8} (h : isL l = true) : (parL l = [] ∧ basL l = l) ∨ (parL l ≠ [] ∧ l = parL l ++ 47 :: basL l ∧ isL (parL l) = true ∧ pcm (parL l) l = -1) := by
  rw [isL_iff] at h
  rcases last_cases l with hn | ⟨p, b, rfl, hb⟩
  · exact .inl ⟨parL_none hn, basL_none hn⟩
  · right
    rw [parL_at p b hb, basL_at p b hb]
    rw [parts_join, parts_none b hb] at h
    have hne : p ≠ [] := by
      rintro rfl
      have := h.2.2 [] (by simp [parts])
      simp [nameL] at this
    refine ⟨hne, rfl, ?_, pcm_in p b⟩
    rw [isL_iff]
    simp only [List.length_append, List.length_cons, List.mem_append] at h
    exact ⟨by omega, by omega, fun q hq => h.2.2 q (.inl hq)⟩
theorem is_in {l n : List UInt8} (h : isL l = true) (hn : nameL n = true) : isL (l ++ 47 :: n) = (decide (l.count 47 < 7) && decide ((l ++ 47 :: n).length ≤ 200)) := by
  rw [isL_iff] at h
  have hp : parts (l ++ 47 :: n) = parts l ++ [n] := by rw [parts_join, parts_none n (name_slash hn)]
  have hl : (parts l).length = l.count 47 + 1 := parts_size l
  rw [Bool.eq_iff_iff, isL_iff, hp]
  simp only [Bool.and_eq_true, decide_eq_true_eq, List.length_append, List.length_cons, List.length_nil, List.mem_append, List.mem_singleton]
  constructor
  · rintro ⟨h1, h2, h3⟩
    exact ⟨by omega, h1⟩
  · rintro ⟨h1, h2⟩
    refine ⟨h2, by omega, fun q hq => ?_⟩
    rcases hq with hq | rfl
    · exact h.2.2 q hq
    · exact hn
theorem count_take (l : List UInt8) (k : Nat) (hk : k < l.length) : (l.take (k + 1)).count 47 = (l.take k).count 47 + if l.getD k 0 = 47 then 1 else 0 := by
  rw [List.take_succ_eq_append_getElem hk, List.count_append, List.getD_eq_getElem?_getD, List.getElem?_eq_getElem hk, List.count_singleton]
  simp
set_option maxRecDepth 100000 in
set_option maxHeartbeats 4000000 in
theorem lawPathParts_walk (a0 a1 : ByteArray) (W : World) (b0 : a0.size ≤ 140737488351232) (b1 : a1.size ≤ 140737488351232) (hL : Lay11 W) :
    Calls Tryd.prog 8 #[.string a0, .string a1] W fun e w' => e = .returned (.bool true) ∧ Below W.heap.size W w' := by
  obtain ⟨l, rfl⟩ := ba_list a0
  obtain ⟨n, rfl⟩ := ba_list a1
  rw [mk_size] at b0 b1
  have H1 : Hid (Calls _ _ _ _ _) := is_any l W b0 hL
  unfold Hid at H1
  cases hi : isL l with
  | false =>
    rw [hi] at H1
    go_enter Tryd.func8, Tryd.ntmps8
    go_wp2_with fail
    refine (H1 : Calls _ _ _ _ _).mono ?_
    rintro e w1 ⟨rfl, hb1⟩
    go_wp2_with fail
    refine (awake11_any _ (hL.below hb1)).mono ?_
    rintro e w2 ⟨rfl, hb2⟩
    go_wp2
    go_ret
    exact ⟨rfl, belT3 hb1 hb2⟩
  | true =>
    rw [hi] at H1
    have HIN : Hid (nameL n = true → isL (l ++ 47 :: n) = (decide (l.count 47 < 7) && decide ((l ++ 47 :: n).length ≤ 200))) := is_in hi
    have HBN : Hid (nameL (basL l) = true) := is_base hi
    have HPR : Hid _ := is_par hi
    have hl2 : l.length ≤ 200 := ((isL_iff l).1 hi).1
    have HPA : Hid (∀ w, Calls _ _ _ w _) := fun w => parent_any ⟨l.toArray⟩ w (by rw [mk_size]; omega)
    have HBA : Hid (∀ w, Calls _ _ _ w _) := fun w => base_any ⟨l.toArray⟩ w (by rw [mk_size]; omega)
    clear hi
    unfold Hid at HPA HBA
    simp only at HPA HBA
    have hsz := mk_size l
    go_enter Tryd.func8, Tryd.ntmps8
    go_wp2_with fail
    refine (H1 : Calls _ _ _ _ _).mono ?_
    rintro e w1 ⟨rfl, hb1⟩
    go_wp2_with fail
    refine (HPA _).mono ?_
    rintro e w2 ⟨rfl, hb2⟩
    go_wp2_with fail
    refine (HBA _).mono ?_
    rintro e w3 ⟨rfl, hb3⟩
    have HB3 : Hid (Below W.heap.size W w3) := belT3 (belT3 hb1 hb2) hb3
    clear hb1 hb2 hb3 HPA HBA H1
    have hcn1 : (ByteArray.mk l.toArray) ++ (ByteArray.mk #[47]) = ⟨(l ++ [47]).toArray⟩ := cat_mk3 l [47]
    have hcn2 : (ByteArray.mk (l ++ [47]).toArray) ++ (ByteArray.mk n.toArray) = ⟨(l ++ 47 :: n).toArray⟩ := by rw [cat_mk3]; simp
    have HNB : Hid (∀ w, Lay11 w → Calls _ _ _ w _) := fun w h => name_any (basL l) w (by
      have := parts_le l (basL l) (by rw [← basL_last]; exact List.getLast_mem _)
      omega) h
    unfold Hid at HNB
    rw [HBN.out] at HNB
    have hself : (l != l) = false := by simp
    have hself2 : (l == l) = true := by simp
    rcases HPR.out with ⟨hp, hq⟩ | ⟨hp, hq, hip, hpc⟩
    · rw [hp, hq]
      rw [hq] at HNB
      clear HPR HBN hp hq
      have HBX : Hid (Below W.heap.size W w3) := HB3.out
      clear HB3
      go_wp2_with fail
      refine (HNB _ (hL.below HBX.out)).mono ?_
      rintro e w6 ⟨rfl, hb6⟩
      have HB6 : Hid (Below W.heap.size W w6) := belT3 HBX.out hb6
      clear hb6 HBX HNB
      go_wp2
      go_loop [8, 9] (fun d i => ∃ k : Nat, k ≤ l.length ∧ i = .int .i64 (k : Int) ∧ d = .int .i64 (((l.take k).count 47 : Nat) : Int)) (fun _ i => l.length - (intOf i).toNat)
      case atStart => exact ⟨0, Nat.zero_le _, rfl, rfl⟩
      case round =>
        obtain ⟨k, hk, rfl, rfl⟩ := hrel
        by_cases hlt : k < l.length
        · have HCT : Hid (_ = _) := count_take l k hlt
          have hcl : (l.take k).count 47 ≤ 200 := Nat.le_trans List.count_le_length (by rw [List.length_take]; omega)
          have hgd : (ByteArray.mk l.toArray)[k]'(by rw [mk_size]; exact hlt) = l.getD k 0 := by rw [List.getD_eq_getElem?_getD, List.getElem?_eq_getElem hlt]; rfl
          generalize l.getD k 0 = x at *
          generalize (l.take k).count 47 = cc at *
          by_cases h47 : x = 47
          · subst h47
            rw [if_pos rfl] at HCT
            go_wp2
            go_round
            case rel => exact ⟨k + 1, by omega, by go_num, by rw [HCT.out]; go_num⟩
            case measure => simp [intOf]; omega
          · have h47' : (x == 47) = false := by simpa using h47
            have h47n : ¬ x.toNat = 47 := fun e => h47 (UInt8.toNat_inj.1 (by rw [e]; rfl))
            have h47i : ((x.toNat : Int) == 47) = false := beq_eq_false_iff_ne.2 (by omega)
            rw [if_neg h47] at HCT
            go_wp2
            go_round
            case rel => exact ⟨k + 1, by omega, by go_num, by rw [HCT.out]; go_num⟩
            case measure => simp [intOf]; omega
        · have HKE : Hid (l.take k = l) := List.take_of_length_le (by omega)
          rw [HKE.out]
          have hcl : l.count 47 ≤ 200 := Nat.le_trans List.count_le_length hl2
          have HNN : Hid (∀ w, Lay11 w → Calls _ _ _ w _) := fun w h => name_any n w b1 h
          unfold Hid at HNN
          go_wp2_with fail
          refine (awake11_any _ (hL.below HB6.out)).mono ?_
          rintro e w7 ⟨rfl, hb7⟩
          have HB7 : Hid (Below W.heap.size W w7) := belT3 HB6.out hb7
          clear hb7 HB6
          cases hnn : nameL n with
          | false =>
            rw [hnn] at HNN
            go_wp2_with fail
            refine (HNN _ (hL.below HB7.out)).mono ?_
            rintro e w8 ⟨rfl, hb8⟩
            go_wp2
            go_ret
            exact ⟨rfl, belT3 HB7.out hb8⟩
          | true =>
            rw [hnn] at HNN
            have hnl : n.length ≤ 60 := by
              unfold nameL at hnn
              simp only [Bool.and_eq_true, decide_eq_true_eq] at hnn
              exact hnn.1.1.1.2
            have HII : Hid (∀ w, Lay11 w → Calls _ _ _ w _) := fun w h => is_any (l ++ 47 :: n) w (by simp; omega) h
            unfold Hid at HII
            rw [HIN.out hnn] at HII
            have hil : (l ++ 47 :: n).length = l.length + n.length + 1 := by simp; omega
            rw [hil] at HII
            go_wp2_with fail
            refine (HNN _ (hL.below HB7.out)).mono ?_
            rintro e w8 ⟨rfl, hb8⟩
            have HB8 : Hid (Below W.heap.size W w8) := belT3 HB7.out hb8
            clear hb8 HB7 HNN HIN
            generalize l.count 47 = cc at *
            by_cases h7 : cc < 7
            · rw [decide_eq_true h7, Bool.true_and] at HII
              have h7i : (cc : Int) < 7 := by omega
              by_cases h2 : l.length + n.length + 1 ≤ 200
              · rw [decide_eq_true h2] at HII
                have h2i : (l.length : Int) + ((n.length : Int) + 1) ≤ 200 := by omega
                have h2j : (l.length : Int) + (n.length : Int) + 1 ≤ 200 := by omega
                go_wp2_with fail
                refine (HII _ (hL.below HB8.out)).mono ?_
                rintro e w9 ⟨rfl, hb9⟩
                go_wp2
                go_ret
                exact ⟨rfl, belT3 HB8.out hb9⟩
              · rw [decide_eq_false h2] at HII
                have h2i : ¬ (l.length : Int) + ((n.length : Int) + 1) ≤ 200 := by omega
                have h2j : (200 : Int) < (l.length : Int) + ((n.length : Int) + 1) := by omega
                have h2k : ¬ (l.length : Int) + (n.length : Int) + 1 ≤ 200 := by omega
                have h2l : decide ((l.length : Int) + (n.length : Int) + 1 ≤ 200) = false := decide_eq_false h2k
                go_wp2_with fail
                refine (HII _ (hL.below HB8.out)).mono ?_
                rintro e w9 ⟨rfl, hb9⟩
                go_wp2
                go_ret
                exact ⟨rfl, belT3 HB8.out hb9⟩
            · rw [decide_eq_false h7, Bool.false_and] at HII
              have h7i : ¬ (cc : Int) < 7 := by omega
              have h7j : (7 : Int) ≤ (cc : Int) := by omega
              go_wp2_with fail
              refine (HII _ (hL.below HB8.out)).mono ?_
              rintro e w9 ⟨rfl, hb9⟩
              go_wp2
              go_ret
              exact ⟨rfl, belT3 HB8.out hb9⟩
    · have HIP : Hid (∀ w, Lay11 w → Calls _ _ _ w _) := fun w h => is_any (parL l) w (by
        have := congrArg List.length hq
        simp at this
        omega) h
      have HPC : Hid (∀ w, Lay11 w → Calls _ _ _ w _) := fun w h => pcmp_any (parL l) l w (by
        have := congrArg List.length hq
        simp at this
        omega) (by omega) h.max
      unfold Hid at HIP HPC
      rw [hip] at HIP
      rw [hpc] at HPC
      have hcp1 : (ByteArray.mk (parL l).toArray) ++ (ByteArray.mk #[47]) = ⟨(parL l ++ [47]).toArray⟩ := cat_mk3 _ [47]
      have hcp2 : (ByteArray.mk (parL l ++ [47]).toArray) ++ (ByteArray.mk (basL l).toArray) = ⟨l.toArray⟩ := by
        rw [cat_mk3]
        congr 2
        conv => rhs; rw [hq]
        simp
      have hpl : (parL l).length ≤ 200 := by have := congrArg List.length hq; simp at this; omega
      have hql : (basL l).length ≤ 200 := by have := congrArg List.length hq; simp at this; omega
      clear HPR HBN hq hip hpc
      generalize parL l = p at *
      generalize basL l = q at *
      have hp2 : p.isEmpty = false := by simpa using hp
      have hp3 : (p == []) = false := by simpa using hp
      go_wp2_with fail
      refine (HIP _ (hL.below HB3.out)).mono ?_
      rintro e w4 ⟨rfl, hb4⟩
      have HB4 : Hid (Below W.heap.size W w4) := belT3 HB3.out hb4
      clear hb4 HB3
      go_wp2_with fail
      refine (HPC _ (hL.below HB4.out)).mono ?_
      rintro e w5 ⟨rfl, n5, rfl⟩
      have HBX : Hid (Below W.heap.size W (w4.drewN n5)) := below_drewN HB4.out n5
      clear HB4
      go_wp2_with fail
      refine (HNB _ (hL.below HBX.out)).mono ?_
      rintro e w6 ⟨rfl, hb6⟩
      have HB6 : Hid (Below W.heap.size W w6) := belT3 HBX.out hb6
      clear hb6 HBX HNB
      go_wp2
      go_loop [8, 9] (fun d i => ∃ k : Nat, k ≤ l.length ∧ i = .int .i64 (k : Int) ∧ d = .int .i64 (((l.take k).count 47 : Nat) : Int)) (fun _ i => l.length - (intOf i).toNat)
      case atStart => exact ⟨0, Nat.zero_le _, rfl, rfl⟩
      case round =>
        obtain ⟨k, hk, rfl, rfl⟩ := hrel
        by_cases hlt : k < l.length
        · have HCT : Hid (_ = _) := count_take l k hlt
          have hcl : (l.take k).count 47 ≤ 200 := Nat.le_trans List.count_le_length (by rw [List.length_take]; omega)
          have hgd : (ByteArray.mk l.toArray)[k]'(by rw [mk_size]; exact hlt) = l.getD k 0 := by rw [List.getD_eq_getElem?_getD, List.getElem?_eq_getElem hlt]; rfl
          generalize l.getD k 0 = x at *
          generalize (l.take k).count 47 = cc at *
          by_cases h47 : x = 47
          · subst h47
            rw [if_pos rfl] at HCT
            go_wp2
            go_round
            case rel => exact ⟨k + 1, by omega, by go_num, by rw [HCT.out]; go_num⟩
            case measure => simp [intOf]; omega
          · have h47' : (x == 47) = false := by simpa using h47
            have h47n : ¬ x.toNat = 47 := fun e => h47 (UInt8.toNat_inj.1 (by rw [e]; rfl))
            have h47i : ((x.toNat : Int) == 47) = false := beq_eq_false_iff_ne.2 (by omega)
            rw [if_neg h47] at HCT
            go_wp2
            go_round
            case rel => exact ⟨k + 1, by omega, by go_num, by rw [HCT.out]; go_num⟩
            case measure => simp [intOf]; omega
        · have HKE : Hid (l.take k = l) := List.take_of_length_le (by omega)
          rw [HKE.out]
          have hcl : l.count 47 ≤ 200 := Nat.le_trans List.count_le_length hl2
          have HNN : Hid (∀ w, Lay11 w → Calls _ _ _ w _) := fun w h => name_any n w b1 h
          unfold Hid at HNN
          go_wp2_with fail
          refine (awake11_any _ (hL.below HB6.out)).mono ?_
          rintro e w7 ⟨rfl, hb7⟩
          have HB7 : Hid (Below W.heap.size W w7) := belT3 HB6.out hb7
          clear hb7 HB6
          cases hnn : nameL n with
          | false =>
            rw [hnn] at HNN
            go_wp2_with fail
            refine (HNN _ (hL.below HB7.out)).mono ?_
            rintro e w8 ⟨rfl, hb8⟩
            go_wp2
            go_ret
            exact ⟨rfl, belT3 HB7.out hb8⟩
          | true =>
            rw [hnn] at HNN
            have hnl : n.length ≤ 60 := by
              unfold nameL at hnn
              simp only [Bool.and_eq_true, decide_eq_true_eq] at hnn
              exact hnn.1.1.1.2
            have HII : Hid (∀ w, Lay11 w → Calls _ _ _ w _) := fun w h => is_any (l ++ 47 :: n) w (by simp; omega) h
            unfold Hid at HII
            rw [HIN.out hnn] at HII
            have hil : (l ++ 47 :: n).length = l.length + n.length + 1 := by simp; omega
            rw [hil] at HII
            go_wp2_with fail
            refine (HNN _ (hL.below HB7.out)).mono ?_
            rintro e w8 ⟨rfl, hb8⟩
            have HB8 : Hid (Below W.heap.size W w8) := belT3 HB7.out hb8
            clear hb8 HB7 HNN HIN
            generalize l.count 47 = cc at *
            by_cases h7 : cc < 7
            · rw [decide_eq_true h7, Bool.true_and] at HII
              have h7i : (cc : Int) < 7 := by omega
              by_cases h2 : l.length + n.length + 1 ≤ 200
              · rw [decide_eq_true h2] at HII
                have h2i : (l.length : Int) + ((n.length : Int) + 1) ≤ 200 := by omega
                have h2j : (l.length : Int) + (n.length : Int) + 1 ≤ 200 := by omega
                go_wp2_with fail
                refine (HII _ (hL.below HB8.out)).mono ?_
                rintro e w9 ⟨rfl, hb9⟩
                go_wp2
                go_ret
                exact ⟨rfl, belT3 HB8.out hb9⟩
              · rw [decide_eq_false h2] at HII
                have h2i : ¬ (l.length : Int) + ((n.length : Int) + 1) ≤ 200 := by omega
                have h2j : (200 : Int) < (l.length : Int) + ((n.length : Int) + 1) := by omega
                have h2k : ¬ (l.length : Int) + (n.length : Int) + 1 ≤ 200 := by omega
                have h2l : decide ((l.length : Int) + (n.length : Int) + 1 ≤ 200) = false := decide_eq_false h2k
                go_wp2_with fail
                refine (HII _ (hL.below HB8.out)).mono ?_
                rintro e w9 ⟨rfl, hb9⟩
                go_wp2
                go_ret
                exact ⟨rfl, belT3 HB8.out hb9⟩
            · rw [decide_eq_false h7, Bool.false_and] at HII
              have h7i : ¬ (cc : Int) < 7 := by omega
              have h7j : (7 : Int) ≤ (cc : Int) := by omega
              go_wp2_with fail
              refine (HII _ (hL.below HB8.out)).mono ?_
              rintro e w9 ⟨rfl, hb9⟩
              go_wp2
              go_ret
              exact ⟨rfl, belT3 HB8.out hb9⟩
end Go.Proofs.YtmflekhhakadeaaDoor
