/- The document's Parts, Compare, Parent, Base. -/
import Derived.Test.YtmflekhhakadeaaDoorPthC
import Derived.Test.YtmflekhhakadeaaDoorStrR
import Derived.Deep.QuietTactic
import Derived.BigQuiet
namespace Go.Proofs.YtmflekhhakadeaaDoor
open Go.RowKit
set_option linter.unusedVariables false
set_option linter.unusedSimpArgs false

theorem takeS (l : List UInt8) (k : Nat) (h : k < l.length) : l.take (k + 1) = l.take k ++ [l.getD k 0] := by
  rw [List.take_succ_eq_append_getElem h, List.getD_eq_getElem?_getD, List.getElem?_eq_getElem h]; rfl
theorem one_mk (l : List UInt8) (k : Nat) (h : k < l.length) : (ByteArray.mk l.toArray).extract k (k + 1) = ⟨#[l.getD k 0]⟩ := by
  rw [ext_mk]
  congr 1
  rw [show k + 1 - k = 1 by omega]
  show ((l.drop k).take 1).toArray = _
  rw [List.drop_eq_getElem_cons h, List.getD_eq_getElem?_getD, List.getElem?_eq_getElem h]
  rfl
theorem cat_mkB (a b : List UInt8) : mkB a ++ mkB b = mkB (a ++ b) := by
  apply mkB_inj
  simp [ByteArray.data_append, mkB]
set_option maxHeartbeats 2000000 in
set_option maxRecDepth 100000 in
theorem rparts_any (l : List UInt8) (w : World) (hs : l.length ≤ 1000000) :
    Calls Tryd.prog 30 #[.string ⟨l.toArray⟩] w fun e w' => ∃ v, e = .returned v ∧ OT w' w.heap.size v (parts l) ∧ Below w.heap.size w w' := by
  obtain ⟨i0, hi, hz0, hz1, hz2⟩ := info_parts Tryd.infoTx
  have hsz : (ByteArray.mk l.toArray).size = l.length := List.size_toArray
  go_enter Tryd.func30, Tryd.ntmps30
  go_wp2
  go_loopw [3, 4] (fun v i wr => ∃ k : Nat, k ≤ l.length ∧ i = .int .i64 (k : Int) ∧ OT wr w.heap.size v (parts (l.take k)) ∧ Below w.heap.size w wr) (fun _ i _ => l.length - (intOf i).toNat)
  case atStart =>
    refine ⟨0, Nat.zero_le _, rfl, ?_, (Below.refl _ w).alloc (Nat.le_refl _) _⟩
    exact World.ownsRow_lit w #[.string ⟨#[]⟩] 1 (Nat.le_refl _) (by decide) rfl
  case round =>
    obtain ⟨k, hk, rfl, hO, hb⟩ := hrel
    have hpn : 0 < (parts (l.take k)).length := List.length_pos_iff.2 (parts_ne _)
    have hpl : (parts (l.take k)).length ≤ 1000001 := by
      rw [parts_size]
      have : (l.take k).count 47 ≤ (l.take k).length := List.count_le_length
      rw [List.length_take] at this
      omega
    have hwr := hb.size
    by_cases hlt : k < l.length
    · have hgd : (ByteArray.mk l.toArray)[k]'(by rw [hsz]; exact hlt) = l.getD k 0 := by rw [List.getD_eq_getElem?_getD, List.getElem?_eq_getElem hlt]; rfl
      have HT : Hid (_ = _) := takeS l k hlt
      have hone := one_mk l k hlt
      by_cases h47 : l.getD k 0 = 47
      · have HP : Hid (parts (l.take (k + 1)) = parts (l.take k) ++ [[]]) := by unfold Hid; rw [HT.out, h47, parts_snoc_slash]
        rw [h47] at hgd
        clear hone
        generalize parts (l.take k) = ps at *
        unfold OT at hO
        go_wp2_with (at_builtin; refine wpList_append_own _ rfl _ _ 33 rfl w.heap.size 9 i0 (.string ⟨#[]⟩) 1 16 Tryd.underlying33 hi hz0 hz1 hz2 rfl (by decide) _ _ _ rfl (hO.alloc _) _ 1 _ [.string ⟨#[]⟩] rfl rfl ?c1 ?c5 ?c2 ?c3 ?c4 ?_)
        case c5 => intro y hy; simp at hy; subst hy; rfl
        case c1 =>
          intro j y hj
          match j, hj with
          | 0, hj => simp at hj; subst hj; simp [Addr.add_lit]
          | j + 1, hj => simp at hj
        case c2 => unfold maxLen; omega
        case c3 => omega
        case c4 => simp; omega
        intro v' w2 hown' hgrow' _
        go_wp2
        go_roundw
        case rel =>
          refine ⟨k + 1, by omega, by go_num, ?_, (hb.alloc (by omega) _).grown hgrow' (by simp; omega) (fun j hj => (hO.lt j hj).1)⟩
          rw [HP.out]
          unfold OT
          rw [tc_snoc, List.length_append]
          exact hown'
        case measure => simp [intOf]; omega
      · have hc8 : ((l.getD k 0).toNat == 47) = false := by
          apply beq_eq_false_iff_ne.2
          intro e
          exact h47 (UInt8.toNat_inj.1 (by rw [e]; rfl))
        have hc9 : (((l.getD k 0).toNat : Int) == 47) = false := by
          have := beq_eq_false_iff_ne.1 hc8
          exact beq_eq_false_iff_ne.2 (by omega)
        have HP : Hid (parts (l.take (k + 1)) = (parts (l.take k)).set ((parts (l.take k)).length - 1) ((parts (l.take k)).getD ((parts (l.take k)).length - 1) [] ++ [l.getD k 0])) := by unfold Hid; rw [HT.out, parts_snoc _ h47]
        obtain ⟨g, cap, rfl, hg1, hg2⟩ := hO.form hpn
        have hcell := hO.cell ((parts (l.take k)).length - 1) (by omega) rfl
        have hfz := World.ownsRow.frozenAt hO ((parts (l.take k)).length - 1)
        have hst := World.ownsRow.stored hO ((parts (l.take k)).length - 1) (.string (mkB ((parts (l.take k)).getD ((parts (l.take k)).length - 1) [] ++ [l.getD k 0])))
        have hcat := cat_mkB ((parts (l.take k)).getD ((parts (l.take k)).length - 1) []) [l.getD k 0]
        have hll : ((parts (l.take k)).getD ((parts (l.take k)).length - 1) []).length ≤ 1000000 := by
          have := parts_le (l.take k) ((parts (l.take k)).getD ((parts (l.take k)).length - 1) []) (by
            rw [List.getD_eq_getElem?_getD, List.getElem?_eq_getElem (by omega)]
            exact List.getElem_mem _)
          rw [List.length_take] at this
          omega
        have hmb := mkB_size ((parts (l.take k)).getD ((parts (l.take k)).length - 1) [])
        rw [show mkB [l.getD k 0] = ⟨#[l.getD k 0]⟩ from rfl] at hcat
        clear h47 HT
        generalize parts (l.take k) = ps at *
        generalize l.getD k 0 = x at *
        generalize ps.getD (ps.length - 1) [] = q at *
        have HST : Hid _ := hst
        have hn1 : ((ps.length : Int) - 1) = ((ps.length - 1 : Nat) : Int) := by omega
        have hnl : ps.length - 1 < ps.length := by omega
        generalize hQ : mkB q = Q at *
        generalize hQ2 : mkB (q ++ [x]) = Q2 at *
        generalize hM : ps.length - 1 = m at *
        have hm0 : (m : Int) < (ps.length : Int) := by omega
        have HQ2 : Hid (mkB (q ++ [x]) = Q2) := hQ2
        clear hst hM hQ hQ2 hO
        go_wp2
        go_region
        go_wp2
        go_roundw
        case rel =>
          refine ⟨k + 1, by omega, by go_num, ?_, ?_⟩
          · rw [HP.out]
            unfold OT
            rw [tc_set, HQ2.out, List.length_set]
            exact HST.out.1
          · exact (hb.setCell (p := ⟨g, m, none⟩) hg1 _).drew
        case measure => simp [intOf]; omega
    · have HE : Hid (parts (l.take k) = parts l) := by unfold Hid; rw [List.take_of_length_le (by omega)]
      obtain ⟨g, cap, rfl, _, _⟩ := hO.form hpn
      rw [HE.out] at hO ⊢
      go_wp2
      go_ret
      exact ⟨_, rfl, hO, hb⟩
theorem less_iff : ∀ a b : List UInt8, Op.bytesLess a b = decide (Lib.compareBytes a b = -1)
  | [], [] => by simp [Op.bytesLess, Lib.compareBytes]
  | _ :: _, [] => by simp [Op.bytesLess, Lib.compareBytes]
  | [], _ :: _ => by simp [Op.bytesLess, Lib.compareBytes]
  | x :: a, y :: b => by
    rw [Op.bytesLess, Lib.compareBytes, less_iff a b]
    by_cases h1 : x < y
    · simp [h1]
    · by_cases h2 : y < x
      · have : ¬ x = y := fun e => by subst e; exact absurd h2 (UInt8.lt_irrefl x)
        simp [h1, h2, this]
      · have : x = y := UInt8.le_antisymm (UInt8.not_lt.1 h2) (UInt8.not_lt.1 h1)
        simp [h1, h2, this]
theorem mkB_list (a : List UInt8) : (mkB a).toList = a := by
  rw [ByteArray.toList_eq]; rfl
theorem lex_drop {xs ys : List (List UInt8)} {k : Nat} (h1 : k < xs.length) (h2 : k < ys.length) : lex Lib.compareBytes (xs.drop k) (ys.drop k) = if Lib.compareBytes (xs.getD k []) (ys.getD k []) = 0 then lex Lib.compareBytes (xs.drop (k + 1)) (ys.drop (k + 1)) else Lib.compareBytes (xs.getD k []) (ys.getD k []) := by
  rw [List.drop_eq_getElem_cons h1, List.drop_eq_getElem_cons h2, lex, List.getD_eq_getElem?_getD, List.getElem?_eq_getElem h1, List.getD_eq_getElem?_getD, List.getElem?_eq_getElem h2]
  rfl
set_option maxHeartbeats 2000000 in
set_option maxRecDepth 100000 in
theorem rcmp_any (a b : List UInt8) (w : World) (ha : a.length ≤ 1000000) (hb : b.length ≤ 1000000) :
    Calls Tryd.prog 20 #[.string ⟨a.toArray⟩, .string ⟨b.toArray⟩] w fun e w' => e = .returned (.int .i64 (pcm a b)) ∧ Below w.heap.size w w' := by
  have hpa : 0 < (parts a).length := List.length_pos_iff.2 (parts_ne _)
  have hpb : 0 < (parts b).length := List.length_pos_iff.2 (parts_ne _)
  have hla : (parts a).length ≤ 1000001 := by
    rw [parts_size]
    have : a.count 47 ≤ a.length := List.count_le_length
    omega
  have hlb : (parts b).length ≤ 1000001 := by
    rw [parts_size]
    have : b.count 47 ≤ b.length := List.count_le_length
    omega
  go_enter Tryd.func20, Tryd.ntmps20
  go_wp2_with fail
  refine (rparts_any a _ ha).mono ?_
  rintro e w1 ⟨v1, rfl, hO1, hb1⟩
  obtain ⟨g1, c1, rfl, hg1, hg1'⟩ := hO1.form hpa
  have HO1 : Hid (OT w1 w.heap.size (.slice (some ⟨g1, 0, none⟩) (parts a).length c1) (parts a)) := hO1
  have HB1 : Hid (Below w.heap.size w w1) := hb1
  clear hO1 hb1
  go_wp2_with fail
  refine (rparts_any b _ hb).mono ?_
  rintro e w2 ⟨v2, rfl, hO2, hb2⟩
  obtain ⟨g2, c2, rfl, hg2, hg2'⟩ := hO2.form hpb
  have HO2 : Hid (OT w2 w1.heap.size (.slice (some ⟨g2, 0, none⟩) (parts b).length c2) (parts b)) := hO2
  have HO3 : Hid (OT w2 w.heap.size (.slice (some ⟨g1, 0, none⟩) (parts a).length c1) (parts a)) := HO1.out.below hb2
  have HB2 : Hid (Below w.heap.size w w2) := HB1.out.trans (hb2.mono HB1.out.size)
  clear hO2 hb2 HO1 HB1
  have HPC : Hid (pcm a b = lex Lib.compareBytes (parts a) (parts b)) := rfl
  generalize parts a = xs at *
  generalize parts b = ys at *
  go_wp2
  go_loopw [14] (fun v wr => ∃ (k n : Nat), v = .int .i64 (k : Int) ∧ k ≤ xs.length ∧ k ≤ ys.length ∧ pcm a b = lex Lib.compareBytes (xs.drop k) (ys.drop k) ∧ wr = w2.drewN n) (fun v _ => xs.length - (intOf v).toNat)
  case atStart => exact ⟨0, 0, rfl, Nat.zero_le _, Nat.zero_le _, HPC.out, rfl⟩
  case round =>
    obtain ⟨k, n, rfl, hk1, hk2, hR, rfl⟩ := hrel
    have HR : Hid (pcm a b = lex Lib.compareBytes (xs.drop k) (ys.drop k)) := hR
    clear hR HPC
    by_cases hx : k < xs.length
    · by_cases hy : k < ys.length
      · have q1 := HO3.out.cell k hx rfl
        have q2 := HO2.out.cell k hy rfl
        have hkyi : ¬ (ys.length : Int) ≤ (k : Int) := by omega
        have hkyd : decide ((ys.length : Int) ≤ (k : Int)) = false := decide_eq_false hkyi
        have hkyj : (k : Int) < (ys.length : Int) := by omega
        have HL : Hid (_ = _) := lex_drop hx hy
        have HV := cmpB_ord.vals (xs.getD k []) (ys.getD k [])
        have HE := cmpB_ord.eq (xs.getD k []) (ys.getD k [])
        have e1 := less_iff (xs.getD k []) (ys.getD k [])
        have m1 := mkB_list (xs.getD k [])
        have m2 := mkB_list (ys.getD k [])
        generalize xs.getD k [] = p at *
        generalize ys.getD k [] = q at *
        generalize Lib.compareBytes p q = C at *
        rcases HV with rfl | rfl | rfl
        · have e2 : (p == q) = false := by simp at HE; simpa using HE
          have e3 : Op.bytesLess p q = true := by rw [e1]; decide
          have HRR : Hid (pcm a b = -1) := by unfold Hid; rw [HR.out, HL.out]; simp
          clear e1 HE HL HR
          go_wp2
          go_quiet (fail)
          go_wp2
          go_quiet (fail)
          go_wp2
          go_ret
          rw [HRR.out]
          exact ⟨rfl, by (try simp only [World.drewN_drewN]); exact below_drewN HB2.out _⟩
        · have e2 : p = q := HE.1 rfl
          have e3 : Op.bytesLess p q = false := by rw [e1]; decide
          have HRR : Hid (pcm a b = lex Lib.compareBytes (xs.drop (k + 1)) (ys.drop (k + 1))) := by unfold Hid; rw [HR.out, HL.out]; simp
          subst e2
          have e4 : (p == p) = true := by simp
          clear e1 HE HL HR m2
          go_wp2
          go_quiet (fail)
          go_wp2
          go_quiet (fail)
          go_wp2
          go_roundw
          case rel => exact ⟨k + 1, _, by go_num, by omega, by omega, HRR.out, by (try simp only [World.drewN_drewN]); rfl⟩
          case measure => simp [intOf]; omega
        · have e2 : (p == q) = false := by simp at HE; simpa using HE
          have e3 : Op.bytesLess p q = false := by rw [e1]; decide
          have HRR : Hid (pcm a b = 1) := by unfold Hid; rw [HR.out, HL.out]; simp
          clear e1 HE HL HR
          go_wp2
          go_quiet (fail)
          go_wp2
          go_ret
          rw [HRR.out]
          exact ⟨rfl, by (try simp only [World.drewN_drewN]); exact below_drewN HB2.out _⟩
      · have hkyi : (ys.length : Int) ≤ (k : Int) := by omega
        have hkyd : decide ((ys.length : Int) ≤ (k : Int)) = true := decide_eq_true hkyi
        have HRR : Hid (pcm a b = 1) := by
          unfold Hid
          rw [HR.out, List.drop_eq_getElem_cons hx, List.drop_of_length_le (l := ys) (by omega)]
          rfl
        go_wp2
        go_quiet (fail)
        go_wp2
        go_ret
        rw [HRR.out]
        exact ⟨rfl, by (try simp only [World.drewN_drewN]); exact below_drewN HB2.out _⟩
    · by_cases hy : xs.length < ys.length
      · have HRR : Hid (pcm a b = -1) := by
          unfold Hid
          rw [HR.out, List.drop_of_length_le (l := xs) (by omega), List.drop_eq_getElem_cons (l := ys) (by omega)]
          rfl
        go_wp2
        go_ret
        rw [HRR.out]
        exact ⟨rfl, by (try simp only [World.drewN_drewN]); exact below_drewN HB2.out _⟩
      · have HRR : Hid (pcm a b = 0) := by
          unfold Hid
          rw [HR.out, List.drop_of_length_le (l := xs) (by omega), List.drop_of_length_le (l := ys) (by omega)]
          rfl
        go_wp2
        go_ret
        rw [HRR.out]
        exact ⟨rfl, by (try simp only [World.drewN_drewN]); exact below_drewN HB2.out _⟩
set_option maxHeartbeats 2000000 in
set_option maxRecDepth 100000 in
theorem rbase_any (a : List UInt8) (w : World) (ha : a.length ≤ 1000000) :
    Calls Tryd.prog 18 #[.string ⟨a.toArray⟩] w fun e w' => e = .returned (.string ⟨(basL a).toArray⟩) ∧ Below w.heap.size w w' := by
  have hpa : 0 < (parts a).length := List.length_pos_iff.2 (parts_ne _)
  have hla : (parts a).length ≤ 1000001 := by
    rw [parts_size]
    have : a.count 47 ≤ a.length := List.count_le_length
    omega
  have HG : Hid (mkB ((parts a).getD ((parts a).length - 1) []) = ⟨(basL a).toArray⟩) := by
    unfold Hid
    rw [← basL_last, List.getLast_eq_getElem, List.getD_eq_getElem?_getD, List.getElem?_eq_getElem (by omega)]
    rfl
  go_enter Tryd.func18, Tryd.ntmps18
  go_wp2_with fail
  refine (rparts_any a _ ha).mono ?_
  rintro e w1 ⟨v1, rfl, hO1, hb1⟩
  obtain ⟨g1, c1, rfl, hg1, hg1'⟩ := hO1.form hpa
  have q1 := hO1.cell ((parts a).length - 1) (by omega) rfl
  rw [HG.out] at q1
  have hn1 : (((parts a).length : Int) - 1) = (((parts a).length - 1 : Nat) : Int) := by omega
  have hm0 : (((parts a).length - 1 : Nat) : Int) < ((parts a).length : Int) := by omega
  have hm1 : (parts a).length - 1 < (parts a).length := by omega
  clear hO1 HG
  generalize (parts a).length - 1 = m at *
  generalize (parts a).length = N at *
  go_wp2
  go_ret
  exact ⟨rfl, hb1⟩
set_option maxHeartbeats 2000000 in
set_option maxRecDepth 100000 in
theorem rparent_any (a : List UInt8) (w : World) (ha : a.length ≤ 1000000) :
    Calls Tryd.prog 16 #[.string ⟨a.toArray⟩] w fun e w' => e = .returned (.string ⟨(parL a).toArray⟩) ∧ w' = w := by
  have hsz : (ByteArray.mk a.toArray).size = a.length := List.size_toArray
  go_enter Tryd.func16, Tryd.ntmps16
  go_wp2
  go_loop [3] (fun v => ∃ k : Nat, k ≤ a.length ∧ v = .int .i64 ((k : Int) - 1) ∧ ∀ x ∈ a.drop k, x ≠ 47) (fun v => (intOf v + 1).toNat)
  case atStart => exact ⟨a.length, Nat.le_refl _, by rfl, by rw [List.drop_of_length_le (Nat.le_refl _)]; simp⟩
  case round =>
    obtain ⟨k, hk, rfl, hall⟩ := hrel
    have HA : Hid (∀ x ∈ a.drop k, x ≠ 47) := hall
    clear hall
    cases k with
    | zero =>
      have HE : Hid (parL a = []) := parL_none (by simpa using HA.out)
      have h0 : ¬ (0 : Int) ≤ ((0 : Nat) : Int) - 1 := by omega
      go_wp2
      go_ret
      rw [HE.out]
      exact ⟨rfl, rfl⟩
    | succ m =>
      have hm : m < a.length := by omega
      have e1 : ((m + 1 : Nat) : Int) - 1 = (m : Int) := by omega
      rw [e1]
      have hgd : (ByteArray.mk a.toArray)[m]'(by rw [hsz]; exact hm) = a.getD m 0 := by rw [List.getD_eq_getElem?_getD, List.getElem?_eq_getElem hm]; rfl
      have HD : Hid (a.drop m = a.getD m 0 :: a.drop (m + 1)) := by unfold Hid; rw [List.drop_eq_getElem_cons hm, List.getD_eq_getElem?_getD, List.getElem?_eq_getElem hm]; rfl
      clear e1
      by_cases h47 : a.getD m 0 = 47
      · rw [h47] at hgd
        have HE : Hid ((ByteArray.mk a.toArray).extract 0 m = ⟨(parL a).toArray⟩) := by
          unfold Hid
          have e : a = a.take m ++ 47 :: a.drop (m + 1) := by
            conv => lhs; rw [← List.take_append_drop m a, HD.out, h47]
          have := parL_at (a.take m) (a.drop (m + 1)) HA.out
          rw [← e] at this
          rw [this, ext_mk]
          simp
        clear h47
        go_wp2
        go_ret
        rw [HE.out]
        exact ⟨rfl, rfl⟩
      · have h47n : ¬ (a.getD m 0).toNat = 47 := fun e => h47 (UInt8.toNat_inj.1 (by rw [e]; rfl))
        have h47i : (((a.getD m 0).toNat : Int) == 47) = false := beq_eq_false_iff_ne.2 (by omega)
        have HN : Hid (∀ x ∈ a.drop m, x ≠ 47) := by
          unfold Hid
          rw [HD.out]
          intro x hx
          rcases List.mem_cons.1 hx with rfl | hx
          · exact h47
          · exact HA.out x hx
        clear h47 h47n HD
        generalize a.getD m 0 = x at *
        go_wp2
        go_round
        case rel => exact ⟨m, by omega, rfl, HN.out⟩
        case measure => simp [intOf]
end Go.Proofs.YtmflekhhakadeaaDoor
