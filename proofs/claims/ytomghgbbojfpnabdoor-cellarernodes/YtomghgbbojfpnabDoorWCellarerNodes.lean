/- The walk of CellarerNodes. -/
import Derived.Test.YtomghgbbojfpnabDoorNodY
import Derived.Test.YtomghgbbojfpnabDoorNodP
import Derived.Test.YtomghgbbojfpnabDoorPthF
namespace Go.Proofs.YtomghgbbojfpnabDoor
open Go.RowKit
set_option linter.unusedVariables false
set_option linter.unusedSimpArgs false

theorem nkindT_any (n : Nd) (v : Value) (w : World) (h : NV w v n) :
    Calls Tryd.prog 5 #[v] w fun e w' => e = .returned (.int .i64 (kindN n)) ∧ w' = w := by
  have HK : Hid (Calls _ _ _ _ _) := kindOf_any n v w h
  unfold Hid at HK
  generalize kindN n = kk at *
  have hform : (∃ T y, v = .iface T y) ∨ v = .nilIface := by
    cases n with
    | fol => exact .inl ⟨_, _, h⟩
    | pla => obtain ⟨y, h1, _⟩ := h; exact .inl ⟨_, _, h1⟩
    | sym => exact .inl ⟨_, _, h⟩
    | ptr => obtain ⟨b, h1, _⟩ := h; exact .inl ⟨_, _, h1⟩
    | non => exact .inr h
  rcases hform with ⟨T, y, rfl⟩ | rfl
  all_goals
    go_enter Tryd.func5, Tryd.ntmps5
    go_wp2_with fail
    refine (HK : Calls _ _ _ _ _).mono ?_
    rintro e w1 ⟨rfl, rfl⟩
    go_wp2
    go_ret
    exact ⟨rfl, rfl⟩
theorem nkF (a : List UInt8) (m t : Int) (w : World) : Calls Tryd.prog 5 #[.iface 26 (.agg #[.string (mkB a), .int .i64 m, .int .i64 t])] w fun e w' => e = .returned (.int .i64 1) ∧ w' = w := nkindT_any (.fol a m t) _ w rfl
theorem ab_is : isL [97, 47, 98] = true := by
  have h1 : parts [97, 47, 98] = [[97], [98]] := by decide
  have n1 : nameL [97] = true := by
    unfold nameL; rw [runesOk_cons (by simp)]
    have : rn [97] = (97, 1) := by decide
    rw [this]; simp [runesOk_nil, okR, brk]
  have n2 : nameL [98] = true := by
    unfold nameL; rw [runesOk_cons (by simp)]
    have : rn [98] = (98, 1) := by decide
    rw [this]; simp [runesOk_nil, okR, brk]
  unfold isL
  rw [h1]
  simp [n1, n2]
theorem foldB_any (l : List UInt8) (w : World) (hs : l.length ≤ 1000000) :
    Calls Tryd.prog 10 #[.string (mkB l)] w fun e w' => e = .returned (.string (mkB (foldL l))) ∧ Below w.heap.size w w' := fold_any (mkB l) w (by rw [mkB_size]; exact hs)
theorem enc_len {l : List Nd} (h : checkN l = 0) : (encN l).length ≤ 1000000000 := by
  obtain ⟨h1, h2⟩ := check_unfit h
  have := flat_len l h2
  unfold encN
  rw [List.length_append]
  have := vb_len l.length (by omega)
  omega
theorem ON.shapeT {w : World} {B : Nat} {v : Value} {l : List Nd} (h : ON w B v l) : ∃ a c, v = .slice a l.length c ∧ l.length ≤ c ∧ c ≤ 9223372036854775807 := by
  obtain ⟨vs, h1, h2, h3⟩ := h
  rcases h2.2 with ⟨rfl, h0⟩ | ⟨k, cap, cur, rfl, g2, g3, g4, g5, _⟩
  · exact ⟨none, 0, by rw [h0], by omega, by omega⟩
  · exact ⟨_, _, rfl, g4, by unfold maxLen at g5; omega⟩
/-- A fit node as a value: one of three. -/
theorem fit_forms {w : World} {u : Value} {n : Nd} (h : NV w u n) (hf : unfitN n = 0) :
    (∃ m t, u = .iface 26 (.agg #[.string (mkB (atN n)), .int .i64 m, .int .i64 t])) ∨ (∃ m t s a l c, u = .iface 64 (.agg #[.string (mkB (atN n)), .int .i64 m, .int .i64 t, .int .i64 s, .slice a l c])) ∨ ∃ m t g, u = .iface 66 (.agg #[.string (mkB (atN n)), .int .i64 m, .int .i64 t, .string (mkB g)]) := by
  cases n with
  | fol => exact .inl ⟨_, _, h⟩
  | pla =>
    obtain ⟨y, h1, h2⟩ := h
    obtain ⟨a, c, rfl, _⟩ := h2
    exact .inr (.inl ⟨_, _, _, _, _, _, h1⟩)
  | sym => exact .inr (.inr ⟨_, _, _, h⟩)
  | ptr => exact absurd hf (by unfold unfitN; simp [kindN])
  | non => exact absurd hf (by unfold unfitN; simp [kindN])
theorem fol_form {w : World} {u : Value} {n : Nd} (h : NV w u n) (hk : kindN n = 1) : ∃ m t, u = .iface 26 (.agg #[.string (mkB (atN n)), .int .i64 m, .int .i64 t]) := by
  cases n with
  | fol => exact ⟨_, _, h⟩
  | pla => exact absurd hk (by simp [kindN])
  | sym => exact absurd hk (by simp [kindN])
  | ptr => exact absurd hk (by simp [kindN])
  | non => exact absurd hk (by simp [kindN])
theorem cell_kept {w4 w y : World} {va : Option Addr} {L : List Nd} {n g o j : Nat} {u : Value} (HC : ∀ w', Below w4.heap.size w4 w' → ∀ j, j < n → ∃ x u, va = some x ∧ w'.cell? (x.add j) = some u ∧ NV w' u (L.getD j .non)) (hw : Below w4.heap.size w4 w) (hy : Below w4.heap.size w4 y) (hj : j < n) (hva : va = some ⟨g, o, none⟩) (h : w.cell? ⟨g, o + j, none⟩ = some u) : y.cell? ⟨g, o + j, none⟩ = some u := by
  obtain ⟨x, u0, hx, hc, _⟩ := HC w4 (Below.refl _ _) j hj
  rw [hva] at hx
  obtain rfl := Option.some.inj hx
  rw [Addr.add_mid] at hc
  have hlt : g < w4.heap.size := World.block_lt_of_cell? _ _ hc
  rw [hy.cell (p := ⟨g, o + j, none⟩) hlt, ← hw.cell (p := ⟨g, o + j, none⟩) hlt, h]
set_option maxRecDepth 100000 in
set_option maxHeartbeats 16000000 in
theorem lawCellarerNodes_walk (a0 : Option Addr) (len0 cap0 : Nat) (z0 : List Rc) (W : World) (b0 : IsRecs W a0 len0 cap0 z0) (hL : Lay11 W) :
    Calls Tryd.prog 3 #[.slice a0 len0 cap0] W fun e w' => e = .returned (.bool true) ∧ Below W.heap.size W w' := by
  have HNB : Hid (∀ n ∈ allN z0, NB n) := allN_NB b0
  have hlen := allN_len z0
  have HL : Hid (Lay11 W) := hL
  have HA : Hid (∀ w', Below W.heap.size W w' → Calls Tryd.prog 7 #[.slice a0 len0 cap0] w' fun e w'' => ∃ v, e = .returned v ∧ ON w'' w'.heap.size v (allN z0) ∧ Below w'.heap.size w' w'') := fun w' hb => all_any z0 a0 len0 cap0 w' (b0.below hb)
  have H1 : Hid (Calls _ _ _ _ _) := isB_any [97, 47, 98] W (by decide) hL
  unfold Hid at H1
  rw [ab_is] at H1
  clear b0 hL
  generalize allN z0 = L at *
  obtain ⟨n, HN⟩ : ∃ n, Hid (n = L.length) := ⟨_, rfl⟩
  rw [← HN.out] at hlen
  go_enter Tryd.func3, Tryd.ntmps3
  go_wp2_with fail
  refine (H1 : Calls _ _ _ _ _).mono ?_
  rintro e w1 ⟨rfl, hb1⟩
  have HB1 : Hid (Below W.heap.size W w1) := hb1
  clear hb1 H1
  go_wp2_with fail
  refine (nkF [] 0 0 _).mono ?_
  rintro e w2 ⟨rfl, hw2⟩
  subst hw2
  go_wp2_with fail
  refine (HA.out _ HB1.out).mono ?_
  rintro e w2 ⟨v2, rfl, hO2, hb2⟩
  obtain ⟨va, vc, hv⟩ : ∃ a c, v2 = .slice a n c := by obtain ⟨a, c, hv, _⟩ := hO2.ln; rw [← HN.out] at hv; exact ⟨a, c, hv⟩
  subst hv
  have HB2 : Hid (Below W.heap.size W w2) := belN HB1.out hb2
  have HE : Hid (Calls _ _ _ _ _) := encode_any L _ w2 hO2.ln HNB.out (HL.out.below HB2.out) (by have := HN.out; omega)
  unfold Hid at HE
  clear hO2 hb2 HB1 HA
  by_cases hck : checkN L = 0
  case neg =>
    rw [show encR L = [] by unfold encR; rw [if_neg hck]] at HE
    generalize checkN L = ck at *
    have hcb : (ck == 0) = false := beq_eq_false_iff_ne.2 hck
    have hcb2 : (ck != 0) = true := by rw [bne, hcb]; rfl
    have hml := mkB_list2 []
    go_wp2_with fail
    refine (HE : Calls _ _ _ _ _).mono ?_
    rintro e w3 ⟨rfl, hb3⟩
    have HB3 : Hid (Below W.heap.size W w3) := belN HB2.out hb3
    clear hb3 HE
    go_wp2
    go_ret
    exact ⟨rfl, HB3.out⟩
  have HCK : Hid (checkN L = 0) := hck
  rw [show encR L = encN L by unfold encR; rw [if_pos hck], hck] at HE
  have hel := enc_len hck
  have hdec := dec_enc L hck
  clear hck
  generalize encN L = S at *
  go_wp2_with fail
  refine (HE : Calls _ _ _ _ _).mono ?_
  rintro e w3 ⟨rfl, hb3⟩
  have HB3 : Hid (Below W.heap.size W w3) := belN HB2.out hb3
  clear hb3 HE HB2
  have HD : Hid (Calls _ _ _ _ _) := decode_any S w3 hel (HL.out.below HB3.out)
  unfold Hid at HD
  rw [hdec] at HD
  clear hdec
  go_wp2_with fail
  refine (HD : Calls _ _ _ _ _).mono ?_
  rintro e w4 ⟨v4, rfl, hO4, hb4⟩
  have HB4 : Hid (Below W.heap.size W w4) := belN HB3.out hb4
  obtain ⟨va4, vc4, hv, hvc4, hvc5⟩ := hO4.shapeT
  rw [← HN.out] at hv hvc4
  have HO4 : Hid (LN w4 v4 L) := hO4.ln
  subst hv
  clear hO4 hb4 HD HB3
  have HFIT : Hid (∀ j, j < n → unfitN (L.getD j .non) = 0 ∧ isL (atN (L.getD j .non)) = true) := fun j hj => by
    have h1 := (check_unfit HCK.out).2 _ (nd_mem (l := L) (k := j) (by have := HN.out; omega))
    exact ⟨h1, (unfit_zero h1).2⟩
  have HC : Hid (∀ w', Below w4.heap.size w4 w' → ∀ j, j < n → ∃ x u, va4 = some x ∧ w'.cell? (x.add j) = some u ∧ NV w' u (L.getD j .non)) := fun w' hb j hj => by
    obtain ⟨a, c, he, _, h2⟩ := HO4.out.below hb
    injection he with e1 e2 e3
    subst e1
    exact h2 j (by have := HN.out; omega)
  go_wp2
  go_loopw [39] (fun i wr => ∃ k : Nat, i = .int .i64 (k : Int) ∧ k ≤ n ∧ Below w4.heap.size w4 wr) (fun i _ => match i with | .int _ z => n - z.toNat | _ => 0)
  case atStart => exact ⟨0, rfl, by omega, Below.refl _ _⟩
  case round =>
    obtain ⟨k, hu39, hk1, hB⟩ := hrel
    subst hu39
    have HB : Hid (Below w4.heap.size w4 wr) := hB
    clear hB
    by_cases hgo : k < n
    case neg =>
      have hkn : k = n := by omega
      have hgi : ¬ (k : Int) < (n : Int) := by omega
      go_wp2
      go_ret
      exact ⟨rfl, belN HB4.out HB.out⟩
    have hgi : (k : Int) < (n : Int) := by omega
    obtain ⟨x, u, hx, hcx, hnv⟩ := HC.out wr HB.out k hgo
    subst hx
    obtain ⟨hfit, his⟩ := HFIT.out k hgo
    obtain ⟨g, o, hxe⟩ : ∃ g o, x = ⟨g, o, none⟩ := by
      obtain ⟨x', u', hx', hc', _⟩ := HC.out wr HB.out 0 (by omega)
      obtain rfl := Option.some.inj hx'
      have h2 : wr.cell? x = some u' := hc'
      obtain ⟨b, o, s⟩ := x
      cases s with
      | none => exact ⟨b, o, rfl⟩
      | some s => unfold World.cell? at h2; split at h2 <;> simp at h2
    subst hxe
    rw [Addr.add_mid] at hcx
    have HTF : Hid (parL (atN (L.getD k .non)) ≠ [] → ∃ q, q < k ∧ kindN (L.getD q .non) = 1 ∧ atN (L.getD q .non) = parL (atN (L.getD k .non)) ∧ ∀ j, q < j → j < k → ∃ r, atN (L.getD j .non) = parL (atN (L.getD k .non)) ++ 47 :: r) := fun hp => tree_fact HCK.out (by have := HN.out; omega) hp
    have hall := isL_len his
    have HFO : Hid (isL (foldL (atN (L.getD k .non))) = true) := is_fold his
    have hfl := fold_len _ (atN (L.getD k .non)) (Nat.le_refl _)
    have hforms := fit_forms hnv hfit
    have hpl := parL_len (atN (L.getD k .non))
    clear hnv hfit his
    generalize atN (L.getD k .non) = A at *
    have hms := mkB_size (foldL A)
    have hpm := mkB_list2 (parL A)
    have hpz := mkB_size (parL A)
    rcases hforms with ⟨m, t, rfl⟩ | ⟨m, t, s, ua, ul, uc, rfl⟩ | ⟨m, t, gg, rfl⟩
    · go_wp2_with fail
      refine (pathF_any A m t _).mono ?_
      rintro e x1 ⟨rfl, hb⟩
      have Bx1 : Hid (Below w4.heap.size w4 x1) := belN HB.out hb
      clear hb
      go_wp2_with fail
      refine (parentB_any A _ (by omega)).mono ?_
      rintro e x2 ⟨rfl, hb⟩
      have Bx2 : Hid (Below w4.heap.size w4 x2) := belN Bx1.out hb
      clear hb
      go_wp2_with fail
      refine (pathF_any A m t _).mono ?_
      rintro e x3 ⟨rfl, hb⟩
      have Bx3 : Hid (Below w4.heap.size w4 x3) := belN Bx2.out hb
      clear hb
      go_wp2_with fail
      refine (foldB_any A _ (by omega)).mono ?_
      rintro e x4 ⟨rfl, hb⟩
      have Bx4 : Hid (Below w4.heap.size w4 x4) := belN Bx3.out hb
      clear hb
      have hf2 : (mkB (foldL A)).size ≤ 200 := by omega
      have hf3 : ((mkB (foldL A)).size : Int) ≤ 200 := by omega
      have HIS : Hid (∀ w', Below w4.heap.size w4 w' → Calls Tryd.prog 4 #[.string (mkB (foldL A))] w' fun e w'' => e = .returned (.bool true) ∧ Below w'.heap.size w' w'') := fun w' hb => by
        have := isB_any (foldL A) w' (by omega) (HL.out.below (belN HB4.out hb))
        rw [HFO.out] at this; exact this
      go_wp2_with fail
      refine (pathF_any A m t _).mono ?_
      rintro e x5 ⟨rfl, hb⟩
      have Bx5 : Hid (Below w4.heap.size w4 x5) := belN Bx4.out hb
      clear hb
      go_wp2_with fail
      refine (foldB_any A _ (by omega)).mono ?_
      rintro e x6 ⟨rfl, hb⟩
      have Bx6 : Hid (Below w4.heap.size w4 x6) := belN Bx5.out hb
      clear hb
      go_wp2_with fail
      refine (HIS.out _ Bx6.out).mono ?_
      rintro e x7 ⟨rfl, hb⟩
      have Bx7 : Hid (Below w4.heap.size w4 x7) := belN Bx6.out hb
      clear hb
      clear HIS HFO hf2 hf3 hms hfl
      generalize parL A = P at *
      by_cases hP : P = []
      · subst hP
        go_wp2
        go_roundw
        case rel => exact ⟨k + 1, by simp, by omega, Bx7.out⟩
        case measure => show n - ((k : Int) + 1).toNat < n - ((k : Int)).toNat; omega
      have hPb : (P == []) = false := by simpa using hP
      have hPe : P.isEmpty = false := by simpa using hP
      obtain ⟨q, hq1, hq2, hq3, hq4⟩ := HTF.out hP
      have HQ2 : Hid (kindN (L.getD q .non) = 1) := hq2
      have HQ3 : Hid (atN (L.getD q .non) = P) := hq3
      have HQ4 : Hid (∀ j, q < j → j < k → ∃ r, atN (L.getD j .non) = P ++ 47 :: r) := hq4
      have hPl : P.length ≤ 200 := by omega
      clear hq2 hq3 hq4 HTF hP hcx
      go_wp2
      clear Bx1 Bx2 Bx3 Bx4 Bx5 Bx6 HB
      go_loopw [10] (fun kv wr => ∃ j : Nat, kv = .int .i64 (j : Int) ∧ q ≤ j ∧ j < k ∧ Below w4.heap.size w4 wr) (fun kv _ => match kv with | .int _ z => z.toNat | _ => 0)
      case atStart => exact ⟨k - 1, by congr 1; omega, by omega, by omega, Bx7.out⟩
      case round =>
        obtain ⟨j, hu10, hj1, hj2, hB⟩ := hrel
        subst hu10
        have HBj : Hid (Below w4.heap.size w4 wr) := hB
        clear hB
        obtain ⟨x', u', hx', hcj, hnvj⟩ := HC.out wr HBj.out j (by omega)
        obtain rfl := Option.some.inj hx'
        rw [Addr.add_mid] at hcj
        have hji : (0 : Int) ≤ (j : Int) := by omega
        have hjn : j < n := by omega
        have hjni : (j : Int) < (n : Int) := by omega
        by_cases hjq : j = q
        · subst hjq
          obtain ⟨m1, t1, rfl⟩ := fol_form hnvj HQ2.out
          rw [HQ3.out] at hcj hnvj
          have hself : (P != P) = false := by simp
          go_wp2_with fail
          refine (pathF_any P m1 t1 _).mono ?_
          rintro e y1 ⟨rfl, hb⟩
          have By1 : Hid (Below w4.heap.size w4 y1) := belN HBj.out hb
          clear hb
          have cy1 : y1.cell? ⟨g, o + j, none⟩ = some (.iface 26 (.agg #[.string (mkB P), .int .i64 m1, .int .i64 t1])) := cell_kept HC.out HBj.out By1.out hjn rfl hcj
          go_wp2_with fail
          refine (nkF P m1 t1 _).mono ?_
          rintro e y2 ⟨rfl, hw2⟩
          subst hw2
          go_wp2
          go_roundw
          case rel => exact ⟨k + 1, by simp, by omega, By1.out⟩
          case measure => show n - ((k : Int) + 1).toNat < n - ((k : Int)).toNat; omega
        · obtain ⟨r, hr⟩ := HQ4.out j (by omega) hj2
          obtain ⟨hfitj, hisj⟩ := HFIT.out j hjn
          have hlj := isL_len hisj
          have hfj := fit_forms hnvj hfitj
          clear hnvj hfitj hisj
          rw [hr] at hlj hfj
          have HP47 : Hid ((P ++ 47 :: r).take (P.length + 1) = P ++ [47]) := by unfold Hid; rw [show P ++ 47 :: r = (P ++ [47]) ++ r by simp, List.take_append_of_le_length (by simp), List.take_of_length_le (by simp)]
          have HCAT : Hid (mkB P ++ (ByteArray.mk #[47]) = mkB (P ++ [47])) := catB P [47]
          have hne1 : (P ++ 47 :: r == P) = false := by simp
          have hne2 : (P ++ 47 :: r != P) = true := by simp
          have hBl : (P ++ 47 :: r).length = P.length + 1 + r.length := by simp; omega
          have hext : (mkB (P ++ 47 :: r)).extract 0 (P.length + 1) = mkB (P ++ [47]) := by rw [← HP47.out]; unfold mkB; rw [ext_mk]; simp
          have hcat := HCAT.out
          have hself : (P ++ [47] != P ++ [47]) = false := by simp
          clear HP47 HCAT hr
          generalize P ++ 47 :: r = B at *
          generalize P ++ [47] = P47 at *
          have hBm := mkB_list2 B
          have hBz := mkB_size B
          have hPm := mkB_list2 P47
          have hle1 : ¬ B.length ≤ P.length := by omega
          have hle2 : ¬ (B.length : Int) ≤ (P.length : Int) := by omega
          have hle3 : P.length + 1 ≤ B.length := by omega
          have hle4 : (P.length : Int) + 1 ≤ (B.length : Int) := by omega
          rcases hfj with ⟨m1, t1, rfl⟩ | ⟨m1, t1, s1, ua1, ul1, uc1, rfl⟩ | ⟨m1, t1, gg1, rfl⟩
          · go_wp2_with fail
            refine (pathF_any B m1 t1 _).mono ?_
            rintro e y1 ⟨rfl, hb⟩
            have By1 : Hid (Below w4.heap.size w4 y1) := belN HBj.out hb
            clear hb
            have cy1 := cell_kept HC.out HBj.out By1.out hjn rfl hcj
            clear hcj
            go_wp2_with fail
            refine (pathF_any B m1 t1 _).mono ?_
            rintro e y2 ⟨rfl, hb⟩
            have By2 : Hid (Below w4.heap.size w4 y2) := belN By1.out hb
            clear hb
            go_wp2
            go_roundw
            case rel => exact ⟨j - 1, by congr 1; omega, by omega, by omega, By2.out⟩
            case measure => show ((j : Int) - 1).toNat < ((j : Int)).toNat; omega
          · go_wp2_with fail
            refine (pathP_any B m1 t1 s1 ua1 ul1 uc1 _).mono ?_
            rintro e y1 ⟨rfl, hb⟩
            have By1 : Hid (Below w4.heap.size w4 y1) := belN HBj.out hb
            clear hb
            have cy1 := cell_kept HC.out HBj.out By1.out hjn rfl hcj
            clear hcj
            go_wp2_with fail
            refine (pathP_any B m1 t1 s1 ua1 ul1 uc1 _).mono ?_
            rintro e y2 ⟨rfl, hb⟩
            have By2 : Hid (Below w4.heap.size w4 y2) := belN By1.out hb
            clear hb
            go_wp2
            go_roundw
            case rel => exact ⟨j - 1, by congr 1; omega, by omega, by omega, By2.out⟩
            case measure => show ((j : Int) - 1).toNat < ((j : Int)).toNat; omega
          · go_wp2_with fail
            refine (pathS_any B m1 t1 gg1 _).mono ?_
            rintro e y1 ⟨rfl, hb⟩
            have By1 : Hid (Below w4.heap.size w4 y1) := belN HBj.out hb
            clear hb
            have cy1 := cell_kept HC.out HBj.out By1.out hjn rfl hcj
            clear hcj
            go_wp2_with fail
            refine (pathS_any B m1 t1 gg1 _).mono ?_
            rintro e y2 ⟨rfl, hb⟩
            have By2 : Hid (Below w4.heap.size w4 y2) := belN By1.out hb
            clear hb
            go_wp2
            go_roundw
            case rel => exact ⟨j - 1, by congr 1; omega, by omega, by omega, By2.out⟩
            case measure => show ((j : Int) - 1).toNat < ((j : Int)).toNat; omega
    · go_wp2_with fail
      refine (pathP_any A m t s ua ul uc _).mono ?_
      rintro e x1 ⟨rfl, hb⟩
      have Bx1 : Hid (Below w4.heap.size w4 x1) := belN HB.out hb
      clear hb
      go_wp2_with fail
      refine (parentB_any A _ (by omega)).mono ?_
      rintro e x2 ⟨rfl, hb⟩
      have Bx2 : Hid (Below w4.heap.size w4 x2) := belN Bx1.out hb
      clear hb
      go_wp2_with fail
      refine (pathP_any A m t s ua ul uc _).mono ?_
      rintro e x3 ⟨rfl, hb⟩
      have Bx3 : Hid (Below w4.heap.size w4 x3) := belN Bx2.out hb
      clear hb
      go_wp2_with fail
      refine (foldB_any A _ (by omega)).mono ?_
      rintro e x4 ⟨rfl, hb⟩
      have Bx4 : Hid (Below w4.heap.size w4 x4) := belN Bx3.out hb
      clear hb
      have hf2 : (mkB (foldL A)).size ≤ 200 := by omega
      have hf3 : ((mkB (foldL A)).size : Int) ≤ 200 := by omega
      have HIS : Hid (∀ w', Below w4.heap.size w4 w' → Calls Tryd.prog 4 #[.string (mkB (foldL A))] w' fun e w'' => e = .returned (.bool true) ∧ Below w'.heap.size w' w'') := fun w' hb => by
        have := isB_any (foldL A) w' (by omega) (HL.out.below (belN HB4.out hb))
        rw [HFO.out] at this; exact this
      go_wp2_with fail
      refine (pathP_any A m t s ua ul uc _).mono ?_
      rintro e x5 ⟨rfl, hb⟩
      have Bx5 : Hid (Below w4.heap.size w4 x5) := belN Bx4.out hb
      clear hb
      go_wp2_with fail
      refine (foldB_any A _ (by omega)).mono ?_
      rintro e x6 ⟨rfl, hb⟩
      have Bx6 : Hid (Below w4.heap.size w4 x6) := belN Bx5.out hb
      clear hb
      go_wp2_with fail
      refine (HIS.out _ Bx6.out).mono ?_
      rintro e x7 ⟨rfl, hb⟩
      have Bx7 : Hid (Below w4.heap.size w4 x7) := belN Bx6.out hb
      clear hb
      clear HIS HFO hf2 hf3 hms hfl
      generalize parL A = P at *
      by_cases hP : P = []
      · subst hP
        go_wp2
        go_roundw
        case rel => exact ⟨k + 1, by simp, by omega, Bx7.out⟩
        case measure => show n - ((k : Int) + 1).toNat < n - ((k : Int)).toNat; omega
      have hPb : (P == []) = false := by simpa using hP
      have hPe : P.isEmpty = false := by simpa using hP
      obtain ⟨q, hq1, hq2, hq3, hq4⟩ := HTF.out hP
      have HQ2 : Hid (kindN (L.getD q .non) = 1) := hq2
      have HQ3 : Hid (atN (L.getD q .non) = P) := hq3
      have HQ4 : Hid (∀ j, q < j → j < k → ∃ r, atN (L.getD j .non) = P ++ 47 :: r) := hq4
      have hPl : P.length ≤ 200 := by omega
      clear hq2 hq3 hq4 HTF hP hcx
      go_wp2
      clear Bx1 Bx2 Bx3 Bx4 Bx5 Bx6 HB
      go_loopw [10] (fun kv wr => ∃ j : Nat, kv = .int .i64 (j : Int) ∧ q ≤ j ∧ j < k ∧ Below w4.heap.size w4 wr) (fun kv _ => match kv with | .int _ z => z.toNat | _ => 0)
      case atStart => exact ⟨k - 1, by congr 1; omega, by omega, by omega, Bx7.out⟩
      case round =>
        obtain ⟨j, hu10, hj1, hj2, hB⟩ := hrel
        subst hu10
        have HBj : Hid (Below w4.heap.size w4 wr) := hB
        clear hB
        obtain ⟨x', u', hx', hcj, hnvj⟩ := HC.out wr HBj.out j (by omega)
        obtain rfl := Option.some.inj hx'
        rw [Addr.add_mid] at hcj
        have hji : (0 : Int) ≤ (j : Int) := by omega
        have hjn : j < n := by omega
        have hjni : (j : Int) < (n : Int) := by omega
        by_cases hjq : j = q
        · subst hjq
          obtain ⟨m1, t1, rfl⟩ := fol_form hnvj HQ2.out
          rw [HQ3.out] at hcj hnvj
          have hself : (P != P) = false := by simp
          go_wp2_with fail
          refine (pathF_any P m1 t1 _).mono ?_
          rintro e y1 ⟨rfl, hb⟩
          have By1 : Hid (Below w4.heap.size w4 y1) := belN HBj.out hb
          clear hb
          have cy1 : y1.cell? ⟨g, o + j, none⟩ = some (.iface 26 (.agg #[.string (mkB P), .int .i64 m1, .int .i64 t1])) := cell_kept HC.out HBj.out By1.out hjn rfl hcj
          go_wp2_with fail
          refine (nkF P m1 t1 _).mono ?_
          rintro e y2 ⟨rfl, hw2⟩
          subst hw2
          go_wp2
          go_roundw
          case rel => exact ⟨k + 1, by simp, by omega, By1.out⟩
          case measure => show n - ((k : Int) + 1).toNat < n - ((k : Int)).toNat; omega
        · obtain ⟨r, hr⟩ := HQ4.out j (by omega) hj2
          obtain ⟨hfitj, hisj⟩ := HFIT.out j hjn
          have hlj := isL_len hisj
          have hfj := fit_forms hnvj hfitj
          clear hnvj hfitj hisj
          rw [hr] at hlj hfj
          have HP47 : Hid ((P ++ 47 :: r).take (P.length + 1) = P ++ [47]) := by unfold Hid; rw [show P ++ 47 :: r = (P ++ [47]) ++ r by simp, List.take_append_of_le_length (by simp), List.take_of_length_le (by simp)]
          have HCAT : Hid (mkB P ++ (ByteArray.mk #[47]) = mkB (P ++ [47])) := catB P [47]
          have hne1 : (P ++ 47 :: r == P) = false := by simp
          have hne2 : (P ++ 47 :: r != P) = true := by simp
          have hBl : (P ++ 47 :: r).length = P.length + 1 + r.length := by simp; omega
          have hext : (mkB (P ++ 47 :: r)).extract 0 (P.length + 1) = mkB (P ++ [47]) := by rw [← HP47.out]; unfold mkB; rw [ext_mk]; simp
          have hcat := HCAT.out
          have hself : (P ++ [47] != P ++ [47]) = false := by simp
          clear HP47 HCAT hr
          generalize P ++ 47 :: r = B at *
          generalize P ++ [47] = P47 at *
          have hBm := mkB_list2 B
          have hBz := mkB_size B
          have hPm := mkB_list2 P47
          have hle1 : ¬ B.length ≤ P.length := by omega
          have hle2 : ¬ (B.length : Int) ≤ (P.length : Int) := by omega
          have hle3 : P.length + 1 ≤ B.length := by omega
          have hle4 : (P.length : Int) + 1 ≤ (B.length : Int) := by omega
          rcases hfj with ⟨m1, t1, rfl⟩ | ⟨m1, t1, s1, ua1, ul1, uc1, rfl⟩ | ⟨m1, t1, gg1, rfl⟩
          · go_wp2_with fail
            refine (pathF_any B m1 t1 _).mono ?_
            rintro e y1 ⟨rfl, hb⟩
            have By1 : Hid (Below w4.heap.size w4 y1) := belN HBj.out hb
            clear hb
            have cy1 := cell_kept HC.out HBj.out By1.out hjn rfl hcj
            clear hcj
            go_wp2_with fail
            refine (pathF_any B m1 t1 _).mono ?_
            rintro e y2 ⟨rfl, hb⟩
            have By2 : Hid (Below w4.heap.size w4 y2) := belN By1.out hb
            clear hb
            go_wp2
            go_roundw
            case rel => exact ⟨j - 1, by congr 1; omega, by omega, by omega, By2.out⟩
            case measure => show ((j : Int) - 1).toNat < ((j : Int)).toNat; omega
          · go_wp2_with fail
            refine (pathP_any B m1 t1 s1 ua1 ul1 uc1 _).mono ?_
            rintro e y1 ⟨rfl, hb⟩
            have By1 : Hid (Below w4.heap.size w4 y1) := belN HBj.out hb
            clear hb
            have cy1 := cell_kept HC.out HBj.out By1.out hjn rfl hcj
            clear hcj
            go_wp2_with fail
            refine (pathP_any B m1 t1 s1 ua1 ul1 uc1 _).mono ?_
            rintro e y2 ⟨rfl, hb⟩
            have By2 : Hid (Below w4.heap.size w4 y2) := belN By1.out hb
            clear hb
            go_wp2
            go_roundw
            case rel => exact ⟨j - 1, by congr 1; omega, by omega, by omega, By2.out⟩
            case measure => show ((j : Int) - 1).toNat < ((j : Int)).toNat; omega
          · go_wp2_with fail
            refine (pathS_any B m1 t1 gg1 _).mono ?_
            rintro e y1 ⟨rfl, hb⟩
            have By1 : Hid (Below w4.heap.size w4 y1) := belN HBj.out hb
            clear hb
            have cy1 := cell_kept HC.out HBj.out By1.out hjn rfl hcj
            clear hcj
            go_wp2_with fail
            refine (pathS_any B m1 t1 gg1 _).mono ?_
            rintro e y2 ⟨rfl, hb⟩
            have By2 : Hid (Below w4.heap.size w4 y2) := belN By1.out hb
            clear hb
            go_wp2
            go_roundw
            case rel => exact ⟨j - 1, by congr 1; omega, by omega, by omega, By2.out⟩
            case measure => show ((j : Int) - 1).toNat < ((j : Int)).toNat; omega
    · go_wp2_with fail
      refine (pathS_any A m t gg _).mono ?_
      rintro e x1 ⟨rfl, hb⟩
      have Bx1 : Hid (Below w4.heap.size w4 x1) := belN HB.out hb
      clear hb
      go_wp2_with fail
      refine (parentB_any A _ (by omega)).mono ?_
      rintro e x2 ⟨rfl, hb⟩
      have Bx2 : Hid (Below w4.heap.size w4 x2) := belN Bx1.out hb
      clear hb
      go_wp2_with fail
      refine (pathS_any A m t gg _).mono ?_
      rintro e x3 ⟨rfl, hb⟩
      have Bx3 : Hid (Below w4.heap.size w4 x3) := belN Bx2.out hb
      clear hb
      go_wp2_with fail
      refine (foldB_any A _ (by omega)).mono ?_
      rintro e x4 ⟨rfl, hb⟩
      have Bx4 : Hid (Below w4.heap.size w4 x4) := belN Bx3.out hb
      clear hb
      have hf2 : (mkB (foldL A)).size ≤ 200 := by omega
      have hf3 : ((mkB (foldL A)).size : Int) ≤ 200 := by omega
      have HIS : Hid (∀ w', Below w4.heap.size w4 w' → Calls Tryd.prog 4 #[.string (mkB (foldL A))] w' fun e w'' => e = .returned (.bool true) ∧ Below w'.heap.size w' w'') := fun w' hb => by
        have := isB_any (foldL A) w' (by omega) (HL.out.below (belN HB4.out hb))
        rw [HFO.out] at this; exact this
      go_wp2_with fail
      refine (pathS_any A m t gg _).mono ?_
      rintro e x5 ⟨rfl, hb⟩
      have Bx5 : Hid (Below w4.heap.size w4 x5) := belN Bx4.out hb
      clear hb
      go_wp2_with fail
      refine (foldB_any A _ (by omega)).mono ?_
      rintro e x6 ⟨rfl, hb⟩
      have Bx6 : Hid (Below w4.heap.size w4 x6) := belN Bx5.out hb
      clear hb
      go_wp2_with fail
      refine (HIS.out _ Bx6.out).mono ?_
      rintro e x7 ⟨rfl, hb⟩
      have Bx7 : Hid (Below w4.heap.size w4 x7) := belN Bx6.out hb
      clear hb
      clear HIS HFO hf2 hf3 hms hfl
      generalize parL A = P at *
      by_cases hP : P = []
      · subst hP
        go_wp2
        go_roundw
        case rel => exact ⟨k + 1, by simp, by omega, Bx7.out⟩
        case measure => show n - ((k : Int) + 1).toNat < n - ((k : Int)).toNat; omega
      have hPb : (P == []) = false := by simpa using hP
      have hPe : P.isEmpty = false := by simpa using hP
      obtain ⟨q, hq1, hq2, hq3, hq4⟩ := HTF.out hP
      have HQ2 : Hid (kindN (L.getD q .non) = 1) := hq2
      have HQ3 : Hid (atN (L.getD q .non) = P) := hq3
      have HQ4 : Hid (∀ j, q < j → j < k → ∃ r, atN (L.getD j .non) = P ++ 47 :: r) := hq4
      have hPl : P.length ≤ 200 := by omega
      clear hq2 hq3 hq4 HTF hP hcx
      go_wp2
      clear Bx1 Bx2 Bx3 Bx4 Bx5 Bx6 HB
      go_loopw [10] (fun kv wr => ∃ j : Nat, kv = .int .i64 (j : Int) ∧ q ≤ j ∧ j < k ∧ Below w4.heap.size w4 wr) (fun kv _ => match kv with | .int _ z => z.toNat | _ => 0)
      case atStart => exact ⟨k - 1, by congr 1; omega, by omega, by omega, Bx7.out⟩
      case round =>
        obtain ⟨j, hu10, hj1, hj2, hB⟩ := hrel
        subst hu10
        have HBj : Hid (Below w4.heap.size w4 wr) := hB
        clear hB
        obtain ⟨x', u', hx', hcj, hnvj⟩ := HC.out wr HBj.out j (by omega)
        obtain rfl := Option.some.inj hx'
        rw [Addr.add_mid] at hcj
        have hji : (0 : Int) ≤ (j : Int) := by omega
        have hjn : j < n := by omega
        have hjni : (j : Int) < (n : Int) := by omega
        by_cases hjq : j = q
        · subst hjq
          obtain ⟨m1, t1, rfl⟩ := fol_form hnvj HQ2.out
          rw [HQ3.out] at hcj hnvj
          have hself : (P != P) = false := by simp
          go_wp2_with fail
          refine (pathF_any P m1 t1 _).mono ?_
          rintro e y1 ⟨rfl, hb⟩
          have By1 : Hid (Below w4.heap.size w4 y1) := belN HBj.out hb
          clear hb
          have cy1 : y1.cell? ⟨g, o + j, none⟩ = some (.iface 26 (.agg #[.string (mkB P), .int .i64 m1, .int .i64 t1])) := cell_kept HC.out HBj.out By1.out hjn rfl hcj
          go_wp2_with fail
          refine (nkF P m1 t1 _).mono ?_
          rintro e y2 ⟨rfl, hw2⟩
          subst hw2
          go_wp2
          go_roundw
          case rel => exact ⟨k + 1, by simp, by omega, By1.out⟩
          case measure => show n - ((k : Int) + 1).toNat < n - ((k : Int)).toNat; omega
        · obtain ⟨r, hr⟩ := HQ4.out j (by omega) hj2
          obtain ⟨hfitj, hisj⟩ := HFIT.out j hjn
          have hlj := isL_len hisj
          have hfj := fit_forms hnvj hfitj
          clear hnvj hfitj hisj
          rw [hr] at hlj hfj
          have HP47 : Hid ((P ++ 47 :: r).take (P.length + 1) = P ++ [47]) := by unfold Hid; rw [show P ++ 47 :: r = (P ++ [47]) ++ r by simp, List.take_append_of_le_length (by simp), List.take_of_length_le (by simp)]
          have HCAT : Hid (mkB P ++ (ByteArray.mk #[47]) = mkB (P ++ [47])) := catB P [47]
          have hne1 : (P ++ 47 :: r == P) = false := by simp
          have hne2 : (P ++ 47 :: r != P) = true := by simp
          have hBl : (P ++ 47 :: r).length = P.length + 1 + r.length := by simp; omega
          have hext : (mkB (P ++ 47 :: r)).extract 0 (P.length + 1) = mkB (P ++ [47]) := by rw [← HP47.out]; unfold mkB; rw [ext_mk]; simp
          have hcat := HCAT.out
          have hself : (P ++ [47] != P ++ [47]) = false := by simp
          clear HP47 HCAT hr
          generalize P ++ 47 :: r = B at *
          generalize P ++ [47] = P47 at *
          have hBm := mkB_list2 B
          have hBz := mkB_size B
          have hPm := mkB_list2 P47
          have hle1 : ¬ B.length ≤ P.length := by omega
          have hle2 : ¬ (B.length : Int) ≤ (P.length : Int) := by omega
          have hle3 : P.length + 1 ≤ B.length := by omega
          have hle4 : (P.length : Int) + 1 ≤ (B.length : Int) := by omega
          rcases hfj with ⟨m1, t1, rfl⟩ | ⟨m1, t1, s1, ua1, ul1, uc1, rfl⟩ | ⟨m1, t1, gg1, rfl⟩
          · go_wp2_with fail
            refine (pathF_any B m1 t1 _).mono ?_
            rintro e y1 ⟨rfl, hb⟩
            have By1 : Hid (Below w4.heap.size w4 y1) := belN HBj.out hb
            clear hb
            have cy1 := cell_kept HC.out HBj.out By1.out hjn rfl hcj
            clear hcj
            go_wp2_with fail
            refine (pathF_any B m1 t1 _).mono ?_
            rintro e y2 ⟨rfl, hb⟩
            have By2 : Hid (Below w4.heap.size w4 y2) := belN By1.out hb
            clear hb
            go_wp2
            go_roundw
            case rel => exact ⟨j - 1, by congr 1; omega, by omega, by omega, By2.out⟩
            case measure => show ((j : Int) - 1).toNat < ((j : Int)).toNat; omega
          · go_wp2_with fail
            refine (pathP_any B m1 t1 s1 ua1 ul1 uc1 _).mono ?_
            rintro e y1 ⟨rfl, hb⟩
            have By1 : Hid (Below w4.heap.size w4 y1) := belN HBj.out hb
            clear hb
            have cy1 := cell_kept HC.out HBj.out By1.out hjn rfl hcj
            clear hcj
            go_wp2_with fail
            refine (pathP_any B m1 t1 s1 ua1 ul1 uc1 _).mono ?_
            rintro e y2 ⟨rfl, hb⟩
            have By2 : Hid (Below w4.heap.size w4 y2) := belN By1.out hb
            clear hb
            go_wp2
            go_roundw
            case rel => exact ⟨j - 1, by congr 1; omega, by omega, by omega, By2.out⟩
            case measure => show ((j : Int) - 1).toNat < ((j : Int)).toNat; omega
          · go_wp2_with fail
            refine (pathS_any B m1 t1 gg1 _).mono ?_
            rintro e y1 ⟨rfl, hb⟩
            have By1 : Hid (Below w4.heap.size w4 y1) := belN HBj.out hb
            clear hb
            have cy1 := cell_kept HC.out HBj.out By1.out hjn rfl hcj
            clear hcj
            go_wp2_with fail
            refine (pathS_any B m1 t1 gg1 _).mono ?_
            rintro e y2 ⟨rfl, hb⟩
            have By2 : Hid (Below w4.heap.size w4 y2) := belN By1.out hb
            clear hb
            go_wp2
            go_roundw
            case rel => exact ⟨j - 1, by congr 1; omega, by omega, by omega, By2.out⟩
            case measure => show ((j : Int) - 1).toNat < ((j : Int)).toNat; omega
end Go.Proofs.YtomghgbbojfpnabDoor
