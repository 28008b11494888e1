/- The walk of NodeFull. -/
import Derived.Test.YtomghgbbojfpnaaDoorNodX
import Derived.Test.YtomghgbbojfpnaaDoorNodA
import Derived.Test.YtomghgbbojfpnaaDoorAwk12
namespace Go.Proofs.YtomghgbbojfpnaaDoor
open Go.RowKit
set_option linter.unusedVariables false
set_option linter.unusedSimpArgs false

theorem conv_two (w : World) (q r : Nat) : (convert 59 9 (.slice (some ⟨w.heap.size, 0, none⟩) 2 2)).run Tryd.prog (w.alloc (.cells #[.int .u8 (97 + (q : Int)), .int .u8 (97 + (r : Int))] 5)) = .ok (.string (mkB [UInt8.ofNat (97 + q), UInt8.ofNat (97 + r)])) (w.alloc (.cells #[.int .u8 (97 + (q : Int)), .int .u8 (97 + (r : Int))] 5)) := by
  have := run_convert_bytes_arg (P := Tryd.prog) (w.alloc (.cells #[.int .u8 (97 + (q : Int)), .int .u8 (97 + (r : Int))] 5)) 59 5 Tryd.underlying59 Tryd.underlying5 w.heap.size 0 2 2 [97 + (q : Int), 97 + (r : Int)] rfl (fun i hi => by
    match i, hi with
    | 0, _ => simp
    | 1, _ => simp
    | i + 2, hi => omega) 9 Tryd.underlying9
  rw [this]
  have e1 : (97 + (q : Int)).toNat = 97 + q := by omega
  have e2 : (97 + (r : Int)).toNat = 97 + r := by omega
  unfold strOfNums mkB
  simp only [List.map_cons, List.map_nil, e1, e2]
theorem NO.fo (w : World) (B : Nat) (a : List UInt8) : NO w B (.iface 61 (.agg #[.string (mkB a), .int .i64 0, .int .i64 0])) (fo a) := rfl
/-- A node more. -/
theorem ON.more {w w6 : World} {B k : Nat} {v v' y : Value} {o : Obj} {l : List Nd} {nd : Nd} {vs : List Value} (hk : l.length = k) (hvl : vs.length = k) (hrow : w.ownsRow B 26 1 v k vs) (hnos : ∀ i, i < k → NO w B (vs.getD i .nilIface) (l.getD i .non))
    (hy : NO w B y nd) (hown' : w6.ownsRow B 26 1 v' (k + 1) (vs ++ [y])) (hgrow' : (w.alloc o).grownBy w6 v.ownBlock) : ON w6 B v' (l ++ [nd]) := by
  refine ⟨vs ++ [y], by rw [List.length_append, List.length_append, hvl, hk]; rfl, by rw [List.length_append, hk]; exact hown', fun i hi => ?_⟩
  rw [getD_snoc, getD_snoc, hvl, hk]
  by_cases e1 : i < k
  · rw [if_pos e1, if_pos e1]
    exact ((hnos i e1).alloc _).beside (hrow.alloc _) hgrow'
  · have e2 : i = k := by simp at hi; omega
    rw [if_neg e1, if_neg e1, if_pos e2, if_pos e2]
    exact (hy.alloc _).beside (hrow.alloc _) hgrow'
theorem fullN_NB (n d : Nat) (hd : d ≤ 10) : ∀ x ∈ fullN n d, NB x := by
  intro x hx
  unfold fullN at hx
  rcases List.mem_append.1 hx with h | h
  · obtain ⟨i, _, rfl⟩ := List.mem_map.1 h; show (nm i).length ≤ _; simp [nm]
  · obtain ⟨i, hi, rfl⟩ := List.mem_map.1 h
    show (nst (nm (n - 1)) i).length ≤ _
    rw [nst_len]; simp [nm]
    have := List.mem_range'_1.1 hi
    omega
set_option maxRecDepth 100000 in
set_option maxHeartbeats 4000000 in
theorem lawNodeFull_walk (a0 a1 : Int) (W : World) (b0 : -9223372036854775808 ≤ a0 ∧ a0 ≤ 9223372036854775807) (b1 : -9223372036854775808 ≤ a1 ∧ a1 ≤ 9223372036854775807) (hL : Lay11 W) :
    Calls Tryd.prog 6 #[.int .i64 a0, .int .i64 a1] W fun e w' => e = .returned (.bool true) ∧ Below W.heap.size W w' := by
  obtain ⟨i0, hi, hz0, hz1, hz2⟩ := info_parts Tryd.infoNd
  have HL : Hid (Lay11 W) := hL
  have HK : Hid (∀ w', Below W.heap.size W w' → Calls Tryd.prog 12 #[] w' fun e w'' => e = .returned (.bool true) ∧ Below w'.heap.size w' w'') := fun w' hb => awake12_any w' (hL.below hb)
  clear hL
  by_cases ha0_1 : a0 < 1
  · go_enter Tryd.func6, Tryd.ntmps6
    go_wp2_with fail
    refine (HK.out _ (Below.refl _ _)).mono ?_
    rintro e w3 ⟨rfl, hb3⟩
    go_wp2
    go_ret
    exact ⟨rfl, hb3⟩
  by_cases h260_a0 : 260 < a0
  · go_enter Tryd.func6, Tryd.ntmps6
    go_wp2_with fail
    refine (HK.out _ (Below.refl _ _)).mono ?_
    rintro e w3 ⟨rfl, hb3⟩
    go_wp2
    go_ret
    exact ⟨rfl, hb3⟩
  by_cases ha1_1 : a1 < 1
  · go_enter Tryd.func6, Tryd.ntmps6
    go_wp2_with fail
    refine (HK.out _ (Below.refl _ _)).mono ?_
    rintro e w3 ⟨rfl, hb3⟩
    go_wp2
    go_ret
    exact ⟨rfl, hb3⟩
  by_cases h10_a1 : 10 < a1
  · go_enter Tryd.func6, Tryd.ntmps6
    go_wp2_with fail
    refine (HK.out _ (Below.refl _ _)).mono ?_
    rintro e w3 ⟨rfl, hb3⟩
    go_wp2
    go_ret
    exact ⟨rfl, hb3⟩
  obtain ⟨n, rfl⟩ : ∃ n : Nat, a0 = (n : Int) := ⟨a0.toNat, by omega⟩
  obtain ⟨d, rfl⟩ : ∃ d : Nat, a1 = (d : Int) := ⟨a1.toNat, by omega⟩
  have hn1 : 1 ≤ n := by omega
  have hn2 : n ≤ 260 := by omega
  have hd1 : 1 ≤ d := by omega
  have hd2 : d ≤ 10 := by omega
  clear b0 b1
  go_enter Tryd.func6, Tryd.ntmps6
  go_wp2
  go_loopw [5, 6] (fun v i wr => ∃ k : Nat, i = .int .i64 (k : Int) ∧ k ≤ n ∧ ON wr W.heap.size v ((List.range' 0 k).map fun j => fo (nm j)) ∧ Below W.heap.size W wr) (fun _ i _ => match i with | .int _ z => n - z.toNat | _ => 0)
  case atStart =>
    refine ⟨0, rfl, by omega, ⟨[], rfl, ?_, fun i hi => by simp at hi⟩, (Below.refl _ _).alloc (Nat.le_refl _) _⟩
    exact World.ownsRow_made (base := W.heap.size) (e := 26) (size := 1) W #[] 0 (Nat.le_refl _) (by decide) rfl
  case round =>
    obtain ⟨k, hu6, hk1, hO, hB⟩ := hrel
    subst hu6
    have HO : Hid (ON wr W.heap.size u5 ((List.range' 0 k).map fun j => fo (nm j))) := hO
    have HB : Hid (Below W.heap.size W wr) := hB
    have hkl : ((List.range' 0 k).map fun j => fo (nm j)).length = k := by rw [List.length_map, List.length_range']
    obtain ⟨va, vc, hv⟩ : ∃ a c, u5 = .slice a k c := by obtain ⟨a, c, hv, _⟩ := hO.ln; rw [hkl] at hv; exact ⟨a, c, hv⟩
    clear hO hB
    subst hv
    by_cases hgo : k < n
    · have hgi : (k : Int) < (n : Int) := by omega
      obtain ⟨q, HQ⟩ : ∃ q, Hid (q = k / 26) := ⟨_, rfl⟩
      obtain ⟨r, HR⟩ : ∃ r, Hid (r = k % 26) := ⟨_, rfl⟩
      have hq : (k : Int).tdiv 26 = (q : Int) := by rw [HQ.out]; rfl
      have hr : (k : Int).tmod 26 = (r : Int) := by rw [HR.out]; rfl
      have hq2 : q ≤ 10 := by have := HQ.out; omega
      have hr2 : r ≤ 25 := by have := HR.out; omega
      have hu1 : IntKind.u8.wrap (97 + (q : Int)) = 97 + (q : Int) := by unfold IntKind.wrap; simp [IntKind.signed, IntKind.bits]; omega
      have hu2 : IntKind.u8.wrap (97 + (r : Int)) = 97 + (r : Int) := by unfold IntKind.wrap; simp [IntKind.signed, IntKind.bits]; omega
      have hcv := conv_two wr q r
      have HNM : Hid ([UInt8.ofNat (97 + q), UInt8.ofNat (97 + r)] = nm k) := by unfold Hid nm; rw [HQ.out, HR.out]
      have HB1 : Hid (Below wr.heap.size wr (wr.alloc (.cells #[.int .u8 (97 + (q : Int)), .int .u8 (97 + (r : Int))] 5))) := (Below.refl _ _).alloc (Nat.le_refl _) _
      generalize [UInt8.ofNat (97 + q), UInt8.ofNat (97 + r)] = nmk at *
      obtain ⟨vs, hvl, hrow, hnos⟩ := HO.out.below HB1.out
      rw [hkl] at hrow hvl hnos
      have hBs := HB.out.size
      go_wp2_with (at_builtin; refine wpList_append_own _ rfl _ _ 41 rfl W.heap.size 26 i0 .nilIface 1 16 Tryd.underlying41 hi hz0 hz1 hz2 rfl (by decide) _ _ _ rfl (hrow.alloc _) _ 1 _ [.iface 61 (.agg #[.string (mkB nmk), .int .i64 0, .int .i64 0])] rfl rfl ?c1 ?c5 ?c2 ?c3 ?c4 ?_)
      case c5 => intro y hy; simp at hy; subst hy; rfl
      case c1 =>
        intro j y hj
        match j, hj with
        | 0, hj => simp at hj; subst hj; simp [Addr.add_lit]
        | j + 1, hj => simp at hj
      case c2 => unfold maxLen; omega
      case c3 => omega
      case c4 => simp; omega
      intro v' w6 hown' hgrow' _
      have HA6 : Hid (ON w6 W.heap.size v' ((List.range' 0 (k + 1)).map fun j => fo (nm j))) := by
        unfold Hid
        rw [List.range'_1_concat, List.map_append, Nat.zero_add]
        show ON w6 W.heap.size v' (((List.range' 0 k).map fun j => fo (nm j)) ++ [fo (nm k)])
        rw [← HNM.out]
        exact ON.more hkl hvl hrow hnos (NO.fo _ _ _) hown' hgrow'
      have HB6 : Hid (Below W.heap.size W w6) := ((belN HB.out HB1.out).alloc (by have := HB1.out.size; omega) _).grown hgrow' (by have := HB1.out.size; simp; omega) (fun j hj => (World.ownsRow.lt hrow j hj).1)
      clear hcv hown' hgrow' hrow hnos
      go_wp2
      go_roundw
      case rel => exact ⟨k + 1, by simp, by omega, HA6.out, HB6.out⟩
      case measure => show n - ((k : Int) + 1).toNat < n - ((k : Int)).toNat; omega
    · have hkn : k = n := by omega
      subst hkn
      have hgi : ¬ (k : Int) < (k : Int) := by omega
      obtain ⟨m, HM⟩ : ∃ m, Hid (k = m + 1) := ⟨k - 1, by unfold Hid; omega⟩
      have hsub : (k : Int) - 1 = (m : Int) := by have := HM.out; omega
      obtain ⟨q, HQ⟩ : ∃ q, Hid (q = m / 26) := ⟨_, rfl⟩
      obtain ⟨r, HR⟩ : ∃ r, Hid (r = m % 26) := ⟨_, rfl⟩
      have hq : (m : Int).tdiv 26 = (q : Int) := by rw [HQ.out]; rfl
      have hr : (m : Int).tmod 26 = (r : Int) := by rw [HR.out]; rfl
      have hq2 : q ≤ 10 := by have := HQ.out; have := HM.out; omega
      have hr2 : r ≤ 25 := by have := HR.out; omega
      have hu1 : IntKind.u8.wrap (97 + (q : Int)) = 97 + (q : Int) := by unfold IntKind.wrap; simp [IntKind.signed, IntKind.bits]; omega
      have hu2 : IntKind.u8.wrap (97 + (r : Int)) = 97 + (r : Int) := by unfold IntKind.wrap; simp [IntKind.signed, IntKind.bits]; omega
      have hcv := conv_two wr q r
      have HNM : Hid ([UInt8.ofNat (97 + q), UInt8.ofNat (97 + r)] = nm m) := by unfold Hid nm; rw [HQ.out, HR.out]
      have HB1 : Hid (Below wr.heap.size wr (wr.alloc (.cells #[.int .u8 (97 + (q : Int)), .int .u8 (97 + (r : Int))] 5))) := (Below.refl _ _).alloc (Nat.le_refl _) _
      rw [HNM.out] at hcv
      have HO1 : Hid (ON (wr.alloc (.cells #[.int .u8 (97 + (q : Int)), .int .u8 (97 + (r : Int))] 5)) W.heap.size (.slice va k vc) ((List.range' 0 k).map fun j => fo (nm j))) := HO.out.below HB1.out
      have HBB : Hid (Below W.heap.size W (wr.alloc (.cells #[.int .u8 (97 + (q : Int)), .int .u8 (97 + (r : Int))] 5))) := belN HB.out HB1.out
      go_wp2
      clear hcv hq hr hu1 hu2 hq2 hr2 HO HB HB1
      go_loopw [5, 7, 8] (fun v s i wr => ∃ j : Nat, i = .int .i64 ((j : Int) + 1) ∧ j + 1 ≤ d ∧ s = .string (mkB (nst (nm m) j)) ∧ ON wr W.heap.size v (((List.range' 0 k).map fun j => fo (nm j)) ++ (List.range' 1 j).map fun j => fo (nst (nm m) j)) ∧ Below W.heap.size W wr) (fun _ _ i _ => match i with | .int _ z => d - z.toNat | _ => 0)
      case atStart =>
        exact ⟨0, rfl, by omega, rfl, by rw [show List.range' 1 0 = [] from rfl, List.map_nil, List.append_nil]; exact HO1.out, HBB.out⟩
      case round =>
        obtain ⟨j, hu8, hj1, hu7, hO, hB⟩ := hrel
        subst hu8 hu7
        have hkl : (((List.range' 0 k).map fun j => fo (nm j)) ++ (List.range' 1 j).map fun j => fo (nst (nm m) j)).length = k + j := by simp
        have HO2 : Hid (ON wr W.heap.size u5 (((List.range' 0 k).map fun j => fo (nm j)) ++ (List.range' 1 j).map fun j => fo (nst (nm m) j))) := hO
        have HB2 : Hid (Below W.heap.size W wr) := hB
        obtain ⟨kj, HKJ⟩ : ∃ kj, Hid (kj = k + j) := ⟨_, rfl⟩
        rw [← HKJ.out] at hkl
        obtain ⟨va, vc, hv⟩ : ∃ a c, u5 = .slice a kj c := by obtain ⟨a, c, hv, _⟩ := hO.ln; rw [hkl] at hv; exact ⟨a, c, hv⟩
        clear hO hB
        subst hv
        by_cases hgo : j + 1 < d
        · have hgi2 : (j : Int) + 1 < (d : Int) := by omega
          have HNS : Hid (mkB (nst (nm m) j) ++ (ByteArray.mk #[47, 120]) = mkB (nst (nm m) (j + 1))) := catB (nst (nm m) j) [47, 120]
          have hns := HNS.out
          have hnl := nst_len (nm m) j
          have hsz : (mkB (nst (nm m) j)).size = 2 + 2 * j := by rw [mkB_size, hnl]; rfl
          obtain ⟨vs, hvl, hrow, hnos⟩ := HO2.out
          rw [hkl] at hrow hvl hnos
          have hBs := HB2.out.size
          have hkj : kj ≤ 300 := by have := HKJ.out; omega
          go_wp2_with (at_builtin; refine wpList_append_own _ rfl _ _ 41 rfl W.heap.size 26 i0 .nilIface 1 16 Tryd.underlying41 hi hz0 hz1 hz2 rfl (by decide) _ _ _ rfl (hrow.alloc _) _ 1 _ [.iface 61 (.agg #[.string (mkB (nst (nm m) (j + 1))), .int .i64 0, .int .i64 0])] rfl rfl ?c1 ?c5 ?c2 ?c3 ?c4 ?_)
          case c5 => intro y hy; simp at hy; subst hy; rfl
          case c1 =>
            intro i y hj
            match i, hj with
            | 0, hj => simp at hj; subst hj; simp [Addr.add_lit]
            | i + 1, hj => simp at hj
          case c2 => unfold maxLen; omega
          case c3 => omega
          case c4 => simp; omega
          intro v' w6 hown' hgrow' _
          have HA6 : Hid (ON w6 W.heap.size v' (((List.range' 0 k).map fun j => fo (nm j)) ++ (List.range' 1 (j + 1)).map fun j => fo (nst (nm m) j))) := by
            unfold Hid
            rw [List.range'_1_concat, List.map_append, ← List.append_assoc, Nat.add_comm 1 j]
            exact ON.more hkl hvl hrow hnos (NO.fo _ _ _) hown' hgrow'
          have HB6 : Hid (Below W.heap.size W w6) := (HB2.out.alloc hBs _).grown hgrow' (by simp; omega) (fun j hj => (World.ownsRow.lt hrow j hj).1)
          clear hown' hgrow' hrow hnos
          go_wp2
          go_roundw
          case rel => exact ⟨j + 1, by simp, by omega, rfl, HA6.out, HB6.out⟩
          case measure => show d - ((j : Int) + 1 + 1).toNat < d - ((j : Int) + 1).toNat; omega
        · have hgi2 : ¬ (j : Int) + 1 < (d : Int) := by omega
          have HF : Hid (fullN k d = ((List.range' 0 k).map fun j => fo (nm j)) ++ (List.range' 1 j).map fun j => fo (nst (nm m) j)) := by
            unfold Hid fullN; rw [show k - 1 = m by have := HM.out; omega, show d - 1 = j by omega]
          have hchk := fullN_check k d hn1 hn2 hd1 hd2
          have henc := fullN_enc k d hn1
          rw [show k + (d - 1) = kj by have := HKJ.out; omega] at hchk
          have HE : Hid (Calls _ _ _ _ _) := encode_any (fullN k d) _ wr (by rw [HF.out]; exact HO2.out.ln) (fullN_NB k d hd2) (HL.out.below HB2.out) (by rw [fullN_len]; omega)
          unfold Hid at HE
          have HS : Hid (checkN (fullN k d) = 0 → 5 * k < (encR (fullN k d)).length) := fun h => by unfold encR; rw [if_pos h]; exact henc
          clear henc
          have hms := mkB_size (encR (fullN k d))
          generalize encR (fullN k d) = S at *
          generalize checkN (fullN k d) = ck at *
          have hkj : kj ≤ 300 := by have := HKJ.out; omega
          clear HO1 HBB HF HO2
          by_cases h2 : 200 < kj
          · rw [if_pos h2] at hchk
            subst hchk
            have h2i : (200 : Int) < (kj : Int) := by omega
            go_wp2_with fail
            refine (HE : Calls _ _ _ _ _).mono ?_
            rintro e w3 ⟨rfl, hb3⟩
            have HB3 : Hid (Below W.heap.size W w3) := belN HB2.out hb3
            clear hb3 HE
            go_wp2_with fail
            refine (HK.out _ HB3.out).mono ?_
            rintro e w4 ⟨rfl, hb4⟩
            have HB4 : Hid (Below W.heap.size W w4) := belN HB3.out hb4
            go_wp2
            go_ret
            exact ⟨rfl, HB4.out⟩
          rw [if_neg h2] at hchk
          have h2i : ¬ (200 : Int) < (kj : Int) := by omega
          by_cases h8 : 8 < d
          · rw [if_pos h8] at hchk
            subst hchk
            have h8i : (8 : Int) < (d : Int) := by omega
            go_wp2_with fail
            refine (HE : Calls _ _ _ _ _).mono ?_
            rintro e w3 ⟨rfl, hb3⟩
            have HB3 : Hid (Below W.heap.size W w3) := belN HB2.out hb3
            clear hb3 HE
            go_wp2_with fail
            refine (HK.out _ HB3.out).mono ?_
            rintro e w4 ⟨rfl, hb4⟩
            have HB4 : Hid (Below W.heap.size W w4) := belN HB3.out hb4
            go_wp2
            go_ret
            exact ⟨rfl, HB4.out⟩
          · rw [if_neg h8] at hchk
            subst hchk
            have h8i : ¬ (8 : Int) < (d : Int) := by omega
            have hs1 := HS.out rfl
            have hs2 : 5 * (k : Int) < (S.length : Int) := by omega
            go_wp2_with fail
            refine (HE : Calls _ _ _ _ _).mono ?_
            rintro e w3 ⟨rfl, hb3⟩
            have HB3 : Hid (Below W.heap.size W w3) := belN HB2.out hb3
            clear hb3 HE
            go_wp2_with fail
            refine (HK.out _ HB3.out).mono ?_
            rintro e w4 ⟨rfl, hb4⟩
            have HB4 : Hid (Below W.heap.size W w4) := belN HB3.out hb4
            go_wp2
            go_ret
            exact ⟨rfl, HB4.out⟩
end Go.Proofs.YtomghgbbojfpnaaDoor
