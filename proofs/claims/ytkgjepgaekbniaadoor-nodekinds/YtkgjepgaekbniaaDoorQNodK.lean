/- Contract of node.Check. -/
import Derived.Test.YtkgjepgaekbniaaDoorQNodU
import Derived.Test.YtkgjepgaekbniaaDoorQSetM
namespace Go.Proofs.YtkgjepgaekbniaaDoor
open Go.RowKit Go.Maps
set_option linter.unusedVariables false
set_option linter.unusedSimpArgs false

/-- v is a slice that shows these nodes. -/
def LN (w : World) (v : Value) (l : List Nd) : Prop :=
  ∃ a cap, v = .slice a l.length cap ∧ l.length ≤ cap ∧ ∀ i, i < l.length → ∃ x u, a = some x ∧ w.cell? (x.add i) = some u ∧ NV w u (l.getD i .non)
theorem LN.below {w w' : World} {v : Value} {l : List Nd} (h : LN w v l) (hb : Below w.heap.size w w') : LN w' v l := by
  obtain ⟨a, c, rfl, hle, hc⟩ := h
  refine ⟨a, c, rfl, hle, fun i hi => ?_⟩
  obtain ⟨x, u, hx, hxc, hn⟩ := hc i hi
  exact ⟨x, u, hx, by rw [← hxc]; exact hb.cell (World.block_lt_of_cell? _ _ hxc), hn.below hb⟩
theorem chkN_drop (a : List UInt8) (fs : List (List UInt8)) (l : List Nd) (k : Nat) (hk : k < l.length) : chkN a fs (l.drop k) = chkN a fs (l.getD k .non :: l.drop (k + 1)) := by
  rw [List.drop_eq_getElem_cons hk, List.getD_eq_getElem?_getD, List.getElem?_eq_getElem hk]
  rfl
theorem unfit_zero {n : Nd} (h : unfitN n = 0) : kindN n ≠ 0 ∧ isL (atN n) = true := by
  unfold unfitN at h
  split at h
  · omega
  · split at h
    · omega
    · rename_i h1 h2
      exact ⟨h1, by simpa using h2⟩
theorem parL_len : ∀ l : List UInt8, (parL l).length ≤ l.length
  | [] => by simp [parL]
  | c :: t => by
    rw [parL]
    split
    · have := parL_len t; simp; omega
    · simp
theorem isL_len {l : List UInt8} (h : isL l = true) : l.length ≤ 200 := by
  unfold isL at h
  simp only [Bool.and_eq_true, decide_eq_true_eq] at h
  exact h.1.1
theorem nd_mem {l : List Nd} {k : Nat} (hk : k < l.length) : l.getD k .non ∈ l := by
  rw [List.getD_eq_getElem?_getD, List.getElem?_eq_getElem hk]
  exact List.getElem_mem _
set_option maxRecDepth 100000 in
set_option maxHeartbeats 4000000 in
theorem check_any (ns : List Nd) (v : Value) (w : World) (h : LN w v ns) (hB : ∀ n ∈ ns, NB n) (hL : Lay11 w) (hlen : ns.length ≤ 9223372036854775807) :
    Calls Tryd.prog 20 #[v] w fun e w' => e = .returned (.int .i64 (checkN ns)) ∧ Below w.heap.size w w' := by
  have HLN : Hid (LN w v ns) := h
  obtain ⟨a0, cap, rfl, _, _⟩ := h
  by_cases hbig : 200 < ns.length
  · have HE : Hid (checkN ns = 2) := by unfold Hid checkN; rw [if_pos hbig]
    have hi : (200 : Int) < (ns.length : Int) := by omega
    go_enter Tryd.func20, Tryd.ntmps20
    go_wp2
    go_ret
    rw [HE.out]
    exact ⟨rfl, Below.refl _ _⟩
  have hi : ¬ (200 : Int) < (ns.length : Int) := by omega
  have HE : Hid (checkN ns = chkN [] [[]] ns) := by unfold Hid checkN; rw [if_neg hbig]
  have hmm := @run_makeMap Tryd.prog
  obtain ⟨w1, hins, hsm1, hgr1⟩ := (SM.new w).put (by unfold maxLen; omega) [] (by simp)
  rw [show mkB [] = ⟨#[]⟩ from rfl] at hins
  have HB1 : Hid (Below w.heap.size w w1) := ((Below.refl _ w).alloc (Nat.le_refl _) _).grown hgr1 (by simp) (fun j hj => by cases hj; exact Nat.le_refl _)
  have HS1 : Hid (SM w1 w.heap.size 1 [[]]) := hsm1
  have hz1 := hgr1.size
  rw [World.size_alloc] at hz1
  clear hsm1 hgr1
  go_enter Tryd.func20, Tryd.ntmps20
  go_wp2
  go_loopw [4, 19] (fun u i wr => ∃ (k : Nat) (a : List UInt8) (fs : List (List UInt8)), k ≤ ns.length ∧ i = .int .i64 (k : Int) ∧ u = .string (mkB a) ∧ a.length ≤ 200 ∧ chkN a fs (ns.drop k) = chkN [] [[]] ns ∧ SM wr w.heap.size (k + 1) fs ∧ Below w.heap.size w wr ∧ w.heap.size + 1 ≤ wr.heap.size) (fun _ i _ => ns.length - (intOf i).toNat)
  case atStart => exact ⟨0, [], [[]], Nat.zero_le _, rfl, rfl, by simp, rfl, HS1.out, HB1.out, hz1⟩
  case round =>
    obtain ⟨k, a, fs, hk, rfl, rfl, hal, hchk, hsm, hb, hwz⟩ := hrel
    have HSM : Hid (SM wr w.heap.size (k + 1) fs) := hsm
    have HB : Hid (Below w.heap.size w wr) := hb
    clear hsm hb
    by_cases hlt : k < ns.length
    · obtain ⟨a', c', hv', _, hnodes⟩ := HLN.out.below HB.out
      obtain ⟨x, u, hax, hcell, hNV⟩ := hnodes k hlt
      obtain ⟨rfl, rfl⟩ : a0 = a' ∧ cap = c' := by cases hv'; exact ⟨rfl, rfl⟩
      subst hax
      have hNB := hB _ (nd_mem hlt)
      have HC : Hid (chkN a fs (ns.getD k .non :: ns.drop (k + 1)) = chkN [] [[]] ns) := by unfold Hid; rw [← chkN_drop a fs ns k hlt]; exact hchk
      clear hnodes hv' hchk
      have HU : Hid (Calls _ _ _ _ _) := unfit_any _ u wr hNV hNB (hL.below HB.out)
      unfold Hid at HU
      generalize ns.getD k .non = n at *
      by_cases hu0 : unfitN n = 0
      · obtain ⟨hk0, his⟩ := unfit_zero hu0
        have hat := isL_len his
        have hpl := parL_len (atN n)
        have h9 := HC.out
        rw [chkN, if_neg (by rw [hu0]; simp)] at h9
        have HC1 : Hid (0 ≤ pcm a (atN n) → chkN [] [[]] ns = 4) := fun g => by rw [if_pos g] at h9; exact h9.symm
        have HC2 : Hid (¬ 0 ≤ pcm a (atN n) → parL (atN n) ∉ fs → chkN [] [[]] ns = 7) := fun g g2 => by rw [if_neg g, if_pos g2] at h9; exact h9.symm
        have HC3 : Hid (¬ 0 ≤ pcm a (atN n) → parL (atN n) ∈ fs → kindN n = 1 → chkN (atN n) (atN n :: fs) (ns.drop (k + 1)) = chkN [] [[]] ns) := fun g g2 g3 => by rw [if_neg g, if_neg (by simpa using g2), if_pos g3] at h9; exact h9
        have HC4 : Hid (¬ 0 ≤ pcm a (atN n) → parL (atN n) ∈ fs → ¬ kindN n = 1 → chkN (atN n) fs (ns.drop (k + 1)) = chkN [] [[]] ns) := fun g g2 g3 => by rw [if_neg g, if_neg (by simpa using g2), if_neg g3] at h9; exact h9
        clear h9
        rw [hu0] at HU
        have HKD : Hid (∀ W, Below wr.heap.size wr W → Calls _ _ _ W _) := fun W hb => kindOf_any n u W (hNV.below hb)
        unfold Hid at HKD
        clear HC hu0 his hNB
        cases n with
        | fol at' m t =>
          simp only [atN, kindN] at *
          obtain rfl := hNV
          go_wp2_with fail
          refine (HU : Calls _ _ _ _ _).mono ?_
          rintro e w2 ⟨rfl, hb2⟩
          have HB2 : Hid (Below w.heap.size w w2) := HB.out.trans (hb2.mono HB.out.size)
          have hL2 := hL.below HB2.out
          have HS2 : Hid (SM w2 w.heap.size (k + 1) fs) := HSM.out.below hb2
          have hz2 := hb2.size
          have HR2 : Hid (Below wr.heap.size wr w2) := hb2
          clear hb2 HU
          go_wp2_with fail
          refine (pathF_any at' m t _).mono ?_
          rintro e w3 ⟨rfl, hb3⟩
          have HB3 : Hid (Below w.heap.size w w3) := HB2.out.trans (hb3.mono HB2.out.size)
          have HR3 : Hid (Below wr.heap.size wr w3) := HR2.out.trans (hb3.mono HR2.out.size)
          have HS3 : Hid (SM w3 w.heap.size (k + 1) fs) := HS2.out.below hb3
          have hz3 := hb3.size
          clear hb3 HS2 HR2
          go_wp2_with fail
          refine (pcmpB_any a at' _ (by omega) (by omega) (hL.below HB3.out).max).mono ?_
          rintro e w4 ⟨rfl, n4, rfl⟩
          have HB4 : Hid (Below w.heap.size w (w3.drewN n4)) := below_drewN HB3.out n4
          by_cases hc : 0 ≤ pcm a at'
          · have HCX : Hid (_ = _) := HC1.out hc
            go_wp2
            go_ret
            rw [HE.out, HCX.out]
            exact ⟨rfl, HB4.out⟩
          go_wp2_with fail
          refine (parentB_any at' _ (by omega)).mono ?_
          rintro e w5 ⟨rfl, hb5⟩
          have HB5 : Hid (Below w.heap.size w w5) := HB4.out.trans (hb5.mono HB4.out.size)
          have HR5 : Hid (Below wr.heap.size wr w5) := (below_drewN HR3.out n4).trans (hb5.mono (below_drewN HR3.out n4).size)
          have hsm5 : SM w5 w.heap.size (k + 1) fs := (show SM (w3.drewN n4) w.heap.size (k + 1) fs from HS3.out).below hb5
          have hlook := hsm5.look (parL at') (by omega)
          have hz5 : w3.heap.size ≤ w5.heap.size := hb5.size
          have HS5 : Hid (SM w5 w.heap.size (k + 1) fs) := hsm5
          clear hb5 HS3 HR3 hsm5
          by_cases hin : parL at' ∈ fs
          case neg =>
            have hd : decide (parL at' ∈ fs) = false := decide_eq_false hin
            rw [hd] at hlook
            have HCX : Hid (_ = _) := HC2.out hc hin
            clear hin hd
            go_wp2
            go_ret
            rw [HE.out, HCX.out]
            exact ⟨rfl, HB5.out.alloc (by omega) _⟩
          have hd : decide (parL at' ∈ fs) = true := decide_eq_true hin
          rw [hd] at hlook
          have HCI := hin
          have HCY : Hid (parL at' ∈ fs) := hin
          clear hin hd HCI
          go_wp2_with fail
          have hR6 : Below wr.heap.size wr (w5.alloc (.cells #[] 68)) := HR5.out.alloc (by omega) _
          have hS6 : SM (w5.alloc (.cells #[] 68)) w.heap.size (k + 1) fs := HS5.out.below ((Below.refl _ _).alloc (Nat.le_refl _) _)
          have hB6 : Below w.heap.size w (w5.alloc (.cells #[] 68)) := HB5.out.alloc (by omega) _
          have hz6 : (w5.alloc (.cells #[] 68)).heap.size = w5.heap.size + 1 := by simp
          refine (HKD _ hR6).mono ?_
          rintro e w6 ⟨rfl, hw6⟩
          subst hw6
          have HCX : Hid (chkN at' (at' :: fs) (ns.drop (k + 1)) = chkN [] [[]] ns) := HC3.out hc HCY.out (by first | rfl | trivial | decide)
          obtain ⟨w7, hput, hsm7, hgr7⟩ := hS6.put (by unfold maxLen; omega) at' (by omega)
          have HB7 : Hid (Below w.heap.size w w7) := hB6.grown hgr7 (by omega) (fun j hj => by cases hj; exact Nat.le_refl _)
          have HS7 : Hid (SM w7 w.heap.size (k + 2) (at' :: fs)) := hsm7
          have hz7 := hgr7.size
          clear hsm7 hgr7 hB6 hS6 hR6
          go_wp2
          go_roundw
          case rel => exact ⟨k + 1, at', at' :: fs, by omega, by go_num, rfl, hat, HCX.out, HS7.out, HB7.out, by omega⟩
          case measure => simp [intOf]; omega
        | pla at' m t s c =>
          simp only [atN, kindN] at *
          obtain ⟨uv, rfl, hu⟩ := hNV
          obtain ⟨ua, uc, rfl⟩ := hu.len
          clear hu
          go_wp2_with fail
          refine (HU : Calls _ _ _ _ _).mono ?_
          rintro e w2 ⟨rfl, hb2⟩
          have HB2 : Hid (Below w.heap.size w w2) := HB.out.trans (hb2.mono HB.out.size)
          have hL2 := hL.below HB2.out
          have HS2 : Hid (SM w2 w.heap.size (k + 1) fs) := HSM.out.below hb2
          have hz2 := hb2.size
          have HR2 : Hid (Below wr.heap.size wr w2) := hb2
          clear hb2 HU
          go_wp2_with fail
          refine (pathP_any at' m t s _ _ _ _).mono ?_
          rintro e w3 ⟨rfl, hb3⟩
          have HB3 : Hid (Below w.heap.size w w3) := HB2.out.trans (hb3.mono HB2.out.size)
          have HR3 : Hid (Below wr.heap.size wr w3) := HR2.out.trans (hb3.mono HR2.out.size)
          have HS3 : Hid (SM w3 w.heap.size (k + 1) fs) := HS2.out.below hb3
          have hz3 := hb3.size
          clear hb3 HS2 HR2
          go_wp2_with fail
          refine (pcmpB_any a at' _ (by omega) (by omega) (hL.below HB3.out).max).mono ?_
          rintro e w4 ⟨rfl, n4, rfl⟩
          have HB4 : Hid (Below w.heap.size w (w3.drewN n4)) := below_drewN HB3.out n4
          by_cases hc : 0 ≤ pcm a at'
          · have HCX : Hid (_ = _) := HC1.out hc
            go_wp2
            go_ret
            rw [HE.out, HCX.out]
            exact ⟨rfl, HB4.out⟩
          go_wp2_with fail
          refine (parentB_any at' _ (by omega)).mono ?_
          rintro e w5 ⟨rfl, hb5⟩
          have HB5 : Hid (Below w.heap.size w w5) := HB4.out.trans (hb5.mono HB4.out.size)
          have HR5 : Hid (Below wr.heap.size wr w5) := (below_drewN HR3.out n4).trans (hb5.mono (below_drewN HR3.out n4).size)
          have hsm5 : SM w5 w.heap.size (k + 1) fs := (show SM (w3.drewN n4) w.heap.size (k + 1) fs from HS3.out).below hb5
          have hlook := hsm5.look (parL at') (by omega)
          have hz5 : w3.heap.size ≤ w5.heap.size := hb5.size
          have HS5 : Hid (SM w5 w.heap.size (k + 1) fs) := hsm5
          clear hb5 HS3 HR3 hsm5
          by_cases hin : parL at' ∈ fs
          case neg =>
            have hd : decide (parL at' ∈ fs) = false := decide_eq_false hin
            rw [hd] at hlook
            have HCX : Hid (_ = _) := HC2.out hc hin
            clear hin hd
            go_wp2
            go_ret
            rw [HE.out, HCX.out]
            exact ⟨rfl, HB5.out.alloc (by omega) _⟩
          have hd : decide (parL at' ∈ fs) = true := decide_eq_true hin
          rw [hd] at hlook
          have HCI := hin
          have HCY : Hid (parL at' ∈ fs) := hin
          clear hin hd HCI
          go_wp2_with fail
          have hR6 : Below wr.heap.size wr (w5.alloc (.cells #[] 68)) := HR5.out.alloc (by omega) _
          have hS6 : SM (w5.alloc (.cells #[] 68)) w.heap.size (k + 1) fs := HS5.out.below ((Below.refl _ _).alloc (Nat.le_refl _) _)
          have hB6 : Below w.heap.size w (w5.alloc (.cells #[] 68)) := HB5.out.alloc (by omega) _
          have hz6 : (w5.alloc (.cells #[] 68)).heap.size = w5.heap.size + 1 := by simp
          refine (HKD _ hR6).mono ?_
          rintro e w6 ⟨rfl, hw6⟩
          subst hw6
          have HCX : Hid (chkN at' fs (ns.drop (k + 1)) = chkN [] [[]] ns) := HC4.out hc HCY.out (by first | trivial | decide | simp)
          have HB7 : Hid (Below w.heap.size w (w5.alloc (.cells #[] 68))) := hB6
          have HS7 : Hid (SM (w5.alloc (.cells #[] 68)) w.heap.size (k + 1) fs) := hS6
          clear hB6 hS6 hR6
          go_wp2
          go_roundw
          case rel =>
            obtain ⟨D, d1, d2⟩ := HS7.out
            exact ⟨k + 1, at', fs, by omega, by go_num, rfl, hat, HCX.out, ⟨D, d1.mono (by omega), d2⟩, HB7.out, by omega⟩
          case measure => simp [intOf]; omega
        | sym at' m t g =>
          simp only [atN, kindN] at *
          obtain rfl := hNV
          go_wp2_with fail
          refine (HU : Calls _ _ _ _ _).mono ?_
          rintro e w2 ⟨rfl, hb2⟩
          have HB2 : Hid (Below w.heap.size w w2) := HB.out.trans (hb2.mono HB.out.size)
          have hL2 := hL.below HB2.out
          have HS2 : Hid (SM w2 w.heap.size (k + 1) fs) := HSM.out.below hb2
          have hz2 := hb2.size
          have HR2 : Hid (Below wr.heap.size wr w2) := hb2
          clear hb2 HU
          go_wp2_with fail
          refine (pathS_any at' m t g _).mono ?_
          rintro e w3 ⟨rfl, hb3⟩
          have HB3 : Hid (Below w.heap.size w w3) := HB2.out.trans (hb3.mono HB2.out.size)
          have HR3 : Hid (Below wr.heap.size wr w3) := HR2.out.trans (hb3.mono HR2.out.size)
          have HS3 : Hid (SM w3 w.heap.size (k + 1) fs) := HS2.out.below hb3
          have hz3 := hb3.size
          clear hb3 HS2 HR2
          go_wp2_with fail
          refine (pcmpB_any a at' _ (by omega) (by omega) (hL.below HB3.out).max).mono ?_
          rintro e w4 ⟨rfl, n4, rfl⟩
          have HB4 : Hid (Below w.heap.size w (w3.drewN n4)) := below_drewN HB3.out n4
          by_cases hc : 0 ≤ pcm a at'
          · have HCX : Hid (_ = _) := HC1.out hc
            go_wp2
            go_ret
            rw [HE.out, HCX.out]
            exact ⟨rfl, HB4.out⟩
          go_wp2_with fail
          refine (parentB_any at' _ (by omega)).mono ?_
          rintro e w5 ⟨rfl, hb5⟩
          have HB5 : Hid (Below w.heap.size w w5) := HB4.out.trans (hb5.mono HB4.out.size)
          have HR5 : Hid (Below wr.heap.size wr w5) := (below_drewN HR3.out n4).trans (hb5.mono (below_drewN HR3.out n4).size)
          have hsm5 : SM w5 w.heap.size (k + 1) fs := (show SM (w3.drewN n4) w.heap.size (k + 1) fs from HS3.out).below hb5
          have hlook := hsm5.look (parL at') (by omega)
          have hz5 : w3.heap.size ≤ w5.heap.size := hb5.size
          have HS5 : Hid (SM w5 w.heap.size (k + 1) fs) := hsm5
          clear hb5 HS3 HR3 hsm5
          by_cases hin : parL at' ∈ fs
          case neg =>
            have hd : decide (parL at' ∈ fs) = false := decide_eq_false hin
            rw [hd] at hlook
            have HCX : Hid (_ = _) := HC2.out hc hin
            clear hin hd
            go_wp2
            go_ret
            rw [HE.out, HCX.out]
            exact ⟨rfl, HB5.out.alloc (by omega) _⟩
          have hd : decide (parL at' ∈ fs) = true := decide_eq_true hin
          rw [hd] at hlook
          have HCI := hin
          have HCY : Hid (parL at' ∈ fs) := hin
          clear hin hd HCI
          go_wp2_with fail
          have hR6 : Below wr.heap.size wr (w5.alloc (.cells #[] 68)) := HR5.out.alloc (by omega) _
          have hS6 : SM (w5.alloc (.cells #[] 68)) w.heap.size (k + 1) fs := HS5.out.below ((Below.refl _ _).alloc (Nat.le_refl _) _)
          have hB6 : Below w.heap.size w (w5.alloc (.cells #[] 68)) := HB5.out.alloc (by omega) _
          have hz6 : (w5.alloc (.cells #[] 68)).heap.size = w5.heap.size + 1 := by simp
          refine (HKD _ hR6).mono ?_
          rintro e w6 ⟨rfl, hw6⟩
          subst hw6
          have HCX : Hid (chkN at' fs (ns.drop (k + 1)) = chkN [] [[]] ns) := HC4.out hc HCY.out (by first | trivial | decide | simp)
          have HB7 : Hid (Below w.heap.size w (w5.alloc (.cells #[] 68))) := hB6
          have HS7 : Hid (SM (w5.alloc (.cells #[] 68)) w.heap.size (k + 1) fs) := hS6
          clear hB6 hS6 hR6
          go_wp2
          go_roundw
          case rel =>
            obtain ⟨D, d1, d2⟩ := HS7.out
            exact ⟨k + 1, at', fs, by omega, by go_num, rfl, hat, HCX.out, ⟨D, d1.mono (by omega), d2⟩, HB7.out, by omega⟩
          case measure => simp [intOf]; omega
        | ptr at' m t => exact absurd rfl hk0
        | non => exact absurd rfl hk0
      · have HC2 : Hid (unfitN n = chkN [] [[]] ns) := by have h9 := HC.out; rw [chkN, if_pos hu0] at h9; exact h9
        have hne : (unfitN n == 0) = false := beq_eq_false_iff_ne.2 hu0
        have hne2 : (unfitN n != 0) = true := by rw [bne, hne]; rfl
        clear HC
        generalize unfitN n = U at *
        go_wp2_with fail
        refine (HU : Calls _ _ _ _ _).mono ?_
        rintro e w2 ⟨rfl, hb2⟩
        have HB2 : Hid (Below w.heap.size w w2) := HB.out.trans (hb2.mono HB.out.size)
        clear hb2 HU
        go_wp2
        go_ret
        rw [HE.out, ← HC2.out]
        exact ⟨rfl, HB2.out⟩
    · have HC : Hid (chkN [] [[]] ns = 0) := by unfold Hid; rw [← hchk, List.drop_of_length_le (by omega), chkN]
      clear hchk
      go_wp2
      go_ret
      rw [HE.out, HC.out]
      exact ⟨rfl, HB.out⟩
end Go.Proofs.YtkgjepgaekbniaaDoor
