/- The walk of DiskSwaps. (Written by wip/wds.py.) -/
import Derived.Test.YtgpfbahmkbdjmabDskP
import Derived.Test.YtgpfbahmkbdjmabDskR
namespace Go.Proofs.Ytgpfbahmkbdjmab
open Go.RowKit Go.Maps
set_option linter.unusedVariables false
set_option linter.unusedSimpArgs false

theorem mkT_of (s : ByteArray) : mkT s.data.toList = s := by cases s; simp [mkT]
theorem append_s {d : Nat} {S : DS} {K : Nat → Prop} {gs : List Nat} (x : List UInt8) (s : ByteArray) (w : World) (h : DK w d S K gs) (hx : x.length ≤ 9223372036854775807) (hda : s.size ≤ 1099511627776) (hl1 : S.now.length ≤ 1000000) (hl2 : S.steps.length ≤ 1000000) :
    Calls Try.prog 9 #[.pointer (some ⟨d, 0, none⟩), .string (mkT x), .string s] w fun e w' => e = .returned (.int .i64 (apE S x s.data.toList)) ∧ (∃ g gs', DK w' d (apS S x s.data.toList g) K gs' ∧ g ∉ gs ∧ ∀ k ∈ gs, k ∈ gs') ∧ Keeps K w w' := by
  have := append_any x s.data.toList w h hx (by simpa using hda) hl1 hl2
  rw [mkT_of] at this
  exact this
theorem DK.mem {w : World} {d : Nat} {S : DS} {K : Nat → Prop} {gs : List Nat} (h : DK w d S K gs) {p : List UInt8 × Nat} (hp : p ∈ S.now) : p.2 ∈ gs := by
  obtain ⟨_, _, _, _, h⟩ := h; exact (h.inN p hp).1
theorem ext_size (s : ByteArray) (n : Nat) (h : n ≤ s.size) : (s.extract 0 n).size = n := by simp [ByteArray.size_extract]; omega
theorem eq_str (a : List UInt8) (s : ByteArray) : ((mkT a).toList == s.toList) = (a == s.data.toList) := by rw [ByteArray.toList_eq, ByteArray.toList_eq, mkT_data]
set_option maxRecDepth 100000 in
set_option maxHeartbeats 8000000 in
theorem lawDiskSwaps_walk (old fresh : ByteArray) (settle : Bool) (a : Option Addr) (len cap : Nat) (zs : List Int) (w : World) (h0 : old.size ≤ 140737488351232) (h1 : fresh.size ≤ 140737488351232) (hk : IsRow .i64 w a len cap zs) :
    Calls Try.prog 5 #[.string old, .string fresh, .bool settle, .slice a len cap] w fun e w' => e = .returned (.bool true) ∧ Below w.heap.size w w' := by
  obtain ⟨hks, hkb⟩ := hk.ksl
  have HKS : Hid (KSl w (.slice a len cap) (zs.take len)) := hks
  have HKB : Hid (0 < (zs.take len).length → ∀ r, (Value.slice a len cap).ownBlock = some r → r < w.heap.size) := hkb
  clear hk hks hkb
  generalize zs.take len = ks at *
  by_cases ho : 100 < old.size
  · have hoi : (100 : Int) < (old.size : Int) := by omega
    by_cases hf : 100 < fresh.size
    · have hfi : (100 : Int) < (fresh.size : Int) := by omega
      go_enter Try.func5, Try.ntmps5
      go_wp2_with fail
      have hO := ext_size old 100 (by omega)
      generalize old.extract 0 100 = O at *
      have hFr := ext_size fresh 100 (by omega)
      generalize fresh.extract 0 100 = Fr at *
      have hOl : O.data.toList.length ≤ 100 := by simp; omega
      have hFl : Fr.data.toList.length ≤ 100 := by simp; omega
      clear hoi hfi ho hf h0 h1
      refine (new_good 1000 w (by decide) (by decide)).mono ?_
      rintro e w1 ⟨d, rfl, hd1, hb1⟩
      have HK1 : Hid (Keeps (fun k => k < w.heap.size) w w1) := Keeps.of_below hb1 (fun k hk => hk)
      have HA1 : Hid (Calls _ _ _ _ _) := append_s [97] O w1 hd1 (by simp) (by omega) (by simp [newS]) (by simp [newS])
      clear hd1 hb1
      go_wp2_with fail
      refine HA1.out.mono ?_
      rw [newS_eq, (ap_first 0 (-1) (by decide) (by decide) (by omega)).1]
      rintro e w2 ⟨rfl, ⟨g1, gs2, hd2, _, _⟩, hk2⟩
      rw [(ap_first g1 (-1) (by decide) (by decide) (by omega)).2] at hd2
      have HK2 : Hid (Keeps (fun k => k < w.heap.size) w w2) := HK1.out.trans hk2
      have HS2 : Hid (Calls _ _ _ _ _) := sync_any [97] w2 hd2 (by simp)
      clear hd2 hk2 HK1 HA1
      go_wp2_with fail
      refine HS2.out.mono ?_
      rw [(sy_one (by decide)).1, (sy_one (by decide)).2]
      rintro e w3 ⟨rfl, hd3, hk3⟩
      have HK3 : Hid (Keeps (fun k => k < w.heap.size) w w3) := HK2.out.trans hk3
      have HS3 : Hid (Calls _ _ _ _ _) := settle_any w3 hd3
      clear hd3 hk3 HK2 HS2
      go_wp2_with fail
      refine HS3.out.mono ?_
      rw [(se_one (by decide)).1, (se_one (by decide)).2]
      rintro e w4 ⟨rfl, hd4, hk4⟩
      have HK4 : Hid (Keeps (fun k => k < w.heap.size) w w4) := HK3.out.trans hk4
      have HG1 : Hid (g1 ∈ gs2) := hd4.mem (p := ([97], g1)) List.mem_cons_self
      have HA4 : Hid (Calls _ _ _ _ _) := append_s [98] Fr w4 hd4 (by simp) (by omega) (by simp [one]) (by simp [one])
      clear hd4 hk4 HK3 HS3
      go_wp2_with fail
      refine HA4.out.mono ?_
      rw [(two_ap (g2 := g1 + 1) hOl hFl (by omega)).1]
      rintro e w5 ⟨rfl, ⟨g2, gs5, hd5, hng, _⟩, hk5⟩
      have hne : g1 ≠ g2 := fun e => hng (e ▸ HG1.out)
      rw [(two_ap hOl hFl hne).2] at hd5
      have HK5 : Hid (Keeps (fun k => k < w.heap.size) w w5) := HK4.out.trans hk5
      have HS5 : Hid (Calls _ _ _ _ _) := sync_any [98] w5 hd5 (by simp)
      clear hd5 hk5 HK4 HA4 hng
      go_wp2_with fail
      refine HS5.out.mono ?_
      rw [(two_sy hne).1, (two_sy hne).2]
      rintro e w6 ⟨rfl, hd6, hk6⟩
      have HK6 : Hid (Keeps (fun k => k < w.heap.size) w w6) := HK5.out.trans hk6
      have HR6 : Hid (Calls _ _ _ _ _) := rename_any [98] [97] w6 hd6 (by simp) (by simp) (by simp [two]) (by simp [two])
      clear hd6 hk6 HK5 HS5
      go_wp2_with fail
      refine HR6.out.mono ?_
      rw [(two_rn hne).1, (two_rn hne).2]
      rintro e w7 ⟨rfl, hd7, hk7⟩
      have HK7 : Hid (Keeps (fun k => k < w.heap.size) w w7) := HK6.out.trans hk7
      have HD7 : Hid (DK w7 d _ (fun k => k < w.heap.size) gs5) := hd7
      clear hd7 hk7 HK6 HR6
      cases settle with
      | true =>
        have HS7 : Hid (Calls _ _ _ _ _) := settle_any w7 HD7.out
        go_wp2_with fail
        refine HS7.out.mono ?_
        rw [two_se.1, two_se.2]
        rintro e w8 ⟨rfl, hd8, hk8⟩
        have HK8 : Hid (Keeps (fun k => k < w.heap.size) w w8) := HK7.out.trans hk8
        have HC8 : Hid (Calls _ _ _ _ _) := crash_any ks (.slice a len cap) w8 hd8 (HKS.out.keeps HK8.out HKB.out) HKB.out (by simp [two])
        clear hd8 hk8 HK7 HS7 HD7
        go_wp2_with fail
        refine HC8.out.mono ?_
        rw [two_cr hne]
        rintro e w9 ⟨rfl, hd9, hk9⟩
        have hF : crF ks 0 [] [(([97] : List UInt8), g2)] = [([97], g2)] := rfl
        rw [hF] at hd9
        have HK9 : Hid (Keeps (fun k => k < w.heap.size) w w9) := HK8.out.trans hk9
        have hrd := rd_some (S := two g1 g2 O.data.toList (Fr.data.toList, Fr.data.toList.length) [([97], g2)] [([97], g2)] []) (x := [97]) (g := g2) (by simp [two]) (lk_one _ _)
        rw [(two_fl hne).2] at hrd
        have HRD : Hid _ := hrd
        have HR9 : Hid (Calls _ _ _ _ _) := read_any [97] w9 hd9 (by simp)
        have HD9 : Hid (DK w9 d _ (fun k => k < w.heap.size) gs5) := hd9
        have hus : usd (two g1 g2 O.data.toList (Fr.data.toList, Fr.data.toList.length) [([97], g2)] [([97], g2)] []).fl (two g1 g2 O.data.toList (Fr.data.toList, Fr.data.toList.length) [([97], g2)] [([97], g2)] []).now = Fr.data.toList.length := by
          show usd _ [([97], g2)] = _
          rw [usd_one, (two_fl hne).2]
        have HUS : Hid _ := hus
        clear hd9 hk9 hrd hF HC8 hus
        go_wp2_with fail
        refine HR9.out.mono ?_
        rw [HRD.out.1, HRD.out.2]
        rintro e w10 ⟨rfl, e10⟩
        have e10' := e10.symm
        subst e10'
        clear e10
        go_wp2_with fail
        refine (awake14_any w9).mono ?_
        rintro e w11 ⟨rfl, hb11⟩
        have HU : Hid (Calls _ _ _ _ _) := used_any w11 (HD9.out.below hb11) (by simp [two])
        have HK11 : Hid (Keeps (fun k => k < w.heap.size) w w11) := HK9.out.trans (Keeps.of_below hb11 HD9.out.Kb)
        have HKb11 : Hid (∀ k, k < w.heap.size → k < w11.heap.size) := fun k hk => Nat.lt_of_lt_of_le hk HK11.out.size
        clear hb11
        have hq : ((mkT Fr.data.toList).toList == Fr.toList) = true := by rw [eq_str]; simp
        have hml : ((mkT Fr.data.toList).size : Int) = (Fr.data.toList.length : Int) := by rw [mkT_size]
        go_wp2_with fail
        refine HU.out.mono ?_
        rw [HUS.out]
        rintro e w12 ⟨rfl, hb12⟩
        have HK12 : Hid (Below w.heap.size w w12) := (HK11.out.trans (Keeps.of_below hb12 HKb11.out)).below
        clear hb12
        go_wp2
        go_ret
        exact ⟨by simp, HK12.out⟩
      | false =>
        have HC8 : Hid (Calls _ _ _ _ _) := crash_any ks (.slice a len cap) w7 HD7.out (HKS.out.keeps HK7.out HKB.out) HKB.out (by simp [two])
        go_wp2_with fail
        refine HC8.out.mono ?_
        rw [two_cr hne]
        rintro e w9 ⟨rfl, hd9, hk9⟩
        obtain ⟨g, hg, hlkg, hlen⟩ := two_swap (o := O.data.toList) (d := Fr.data.toList) hne ks
        generalize crF ks 0 [⟨0, g2, [98], []⟩, ⟨1, g2, [98], [97]⟩] [([97], g1)] = F at *
        have HK9 : Hid (Keeps (fun k => k < w.heap.size) w w9) := HK7.out.trans hk9
        have hrd := rd_some (S := two g1 g2 O.data.toList (Fr.data.toList, Fr.data.toList.length) F F []) (x := [97]) (g := g) (by simp [two]) hlkg
        have HR9 : Hid (Calls _ _ _ _ _) := read_any [97] w9 hd9 (by simp)
        have HD9 : Hid (DK w9 d (two g1 g2 O.data.toList (Fr.data.toList, Fr.data.toList.length) F F []) (fun k => k < w.heap.size) gs5) := hd9
        have hus : ((two g1 g2 O.data.toList (Fr.data.toList, Fr.data.toList.length) F F []).fl g).1.length ≤ usd (two g1 g2 O.data.toList (Fr.data.toList, Fr.data.toList.length) F F []).fl (two g1 g2 O.data.toList (Fr.data.toList, Fr.data.toList.length) F F []).now := usd_ge (F := F) (p := ([97], g)) (lk_some_mem hlkg)
        have hv : ((two g1 g2 O.data.toList (Fr.data.toList, Fr.data.toList.length) F F []).fl g).1 = O.data.toList ∨ ((two g1 g2 O.data.toList (Fr.data.toList, Fr.data.toList.length) F F []).fl g).1 = Fr.data.toList := by
          rcases hg with rfl | rfl
          · rw [(two_fl hne).1]; exact .inl rfl
          · rw [(two_fl hne).2]; exact .inr rfl
        have hnl : (two g1 g2 O.data.toList (Fr.data.toList, Fr.data.toList.length) F F []).now.length ≤ 1000000 := by show F.length ≤ _; omega
        have HRD : Hid _ := hrd
        clear hd9 hk9 hrd HC8 hlkg hg HD7
        generalize two g1 g2 O.data.toList (Fr.data.toList, Fr.data.toList.length) F F [] = S9 at *
        have HV : Hid ((S9.fl g).1 = O.data.toList ∨ (S9.fl g).1 = Fr.data.toList) := hv
        go_wp2_with fail
        refine HR9.out.mono ?_
        rw [HRD.out.1, HRD.out.2]
        rintro e w10 ⟨rfl, e10⟩
        have e10' := e10.symm
        subst e10'
        clear e10 hv
        go_wp2_with fail
        refine (awake14_any w9).mono ?_
        rintro e w11 ⟨rfl, hb11⟩
        have HU : Hid (Calls _ _ _ _ _) := used_any w11 (HD9.out.below hb11) hnl
        have HK11 : Hid (Keeps (fun k => k < w.heap.size) w w11) := HK9.out.trans (Keeps.of_below hb11 HD9.out.Kb)
        have HKb11 : Hid (∀ k, k < w.heap.size → k < w11.heap.size) := fun k hk => Nat.lt_of_lt_of_le hk HK11.out.size
        clear hb11
        generalize (S9.fl g).1 = rv at *
        generalize usd S9.fl S9.now = us at *
        have hml : ((mkT rv).size : Int) = (rv.length : Int) := by rw [mkT_size]
        have husi : (rv.length : Int) ≤ (us : Int) := by omega
        by_cases hq1 : ((mkT rv).toList == Fr.toList) = true
        · go_wp2_with fail
          refine HU.out.mono ?_
          rintro e w12 ⟨rfl, hb12⟩
          have HK12 : Hid (Below w.heap.size w w12) := (HK11.out.trans (Keeps.of_below hb12 HKb11.out)).below
          clear hb12
          go_wp2
          go_ret
          exact ⟨by simp [hus], HK12.out⟩
        · have hq2 : ((mkT rv).toList == Fr.toList) = false := by simpa using hq1
          have hq3 : ((mkT rv).toList == O.toList) = true := by
            rw [eq_str] at hq1 ⊢
            rcases HV.out with h | h
            · rw [h]; simp
            · rw [h] at hq1; simp at hq1
          clear hq1
          go_wp2_with fail
          refine HU.out.mono ?_
          rintro e w12 ⟨rfl, hb12⟩
          have HK12 : Hid (Below w.heap.size w w12) := (HK11.out.trans (Keeps.of_below hb12 HKb11.out)).below
          clear hb12
          go_wp2
          go_ret
          exact ⟨by simp [hus], HK12.out⟩
    · have hfi : ¬ (100 : Int) < (fresh.size : Int) := by omega
      go_enter Try.func5, Try.ntmps5
      go_wp2_with fail
      have hO := ext_size old 100 (by omega)
      generalize old.extract 0 100 = O at *
      obtain ⟨Fr, hFe⟩ : ∃ Fr, Fr = fresh := ⟨_, rfl⟩
      have hFr : Fr.size ≤ 100 := by rw [hFe]; omega
      rw [← hFe]
      clear hFe
      have hOl : O.data.toList.length ≤ 100 := by simp; omega
      have hFl : Fr.data.toList.length ≤ 100 := by simp; omega
      clear hoi hfi ho hf h0 h1
      refine (new_good 1000 w (by decide) (by decide)).mono ?_
      rintro e w1 ⟨d, rfl, hd1, hb1⟩
      have HK1 : Hid (Keeps (fun k => k < w.heap.size) w w1) := Keeps.of_below hb1 (fun k hk => hk)
      have HA1 : Hid (Calls _ _ _ _ _) := append_s [97] O w1 hd1 (by simp) (by omega) (by simp [newS]) (by simp [newS])
      clear hd1 hb1
      go_wp2_with fail
      refine HA1.out.mono ?_
      rw [newS_eq, (ap_first 0 (-1) (by decide) (by decide) (by omega)).1]
      rintro e w2 ⟨rfl, ⟨g1, gs2, hd2, _, _⟩, hk2⟩
      rw [(ap_first g1 (-1) (by decide) (by decide) (by omega)).2] at hd2
      have HK2 : Hid (Keeps (fun k => k < w.heap.size) w w2) := HK1.out.trans hk2
      have HS2 : Hid (Calls _ _ _ _ _) := sync_any [97] w2 hd2 (by simp)
      clear hd2 hk2 HK1 HA1
      go_wp2_with fail
      refine HS2.out.mono ?_
      rw [(sy_one (by decide)).1, (sy_one (by decide)).2]
      rintro e w3 ⟨rfl, hd3, hk3⟩
      have HK3 : Hid (Keeps (fun k => k < w.heap.size) w w3) := HK2.out.trans hk3
      have HS3 : Hid (Calls _ _ _ _ _) := settle_any w3 hd3
      clear hd3 hk3 HK2 HS2
      go_wp2_with fail
      refine HS3.out.mono ?_
      rw [(se_one (by decide)).1, (se_one (by decide)).2]
      rintro e w4 ⟨rfl, hd4, hk4⟩
      have HK4 : Hid (Keeps (fun k => k < w.heap.size) w w4) := HK3.out.trans hk4
      have HG1 : Hid (g1 ∈ gs2) := hd4.mem (p := ([97], g1)) List.mem_cons_self
      have HA4 : Hid (Calls _ _ _ _ _) := append_s [98] Fr w4 hd4 (by simp) (by omega) (by simp [one]) (by simp [one])
      clear hd4 hk4 HK3 HS3
      go_wp2_with fail
      refine HA4.out.mono ?_
      rw [(two_ap (g2 := g1 + 1) hOl hFl (by omega)).1]
      rintro e w5 ⟨rfl, ⟨g2, gs5, hd5, hng, _⟩, hk5⟩
      have hne : g1 ≠ g2 := fun e => hng (e ▸ HG1.out)
      rw [(two_ap hOl hFl hne).2] at hd5
      have HK5 : Hid (Keeps (fun k => k < w.heap.size) w w5) := HK4.out.trans hk5
      have HS5 : Hid (Calls _ _ _ _ _) := sync_any [98] w5 hd5 (by simp)
      clear hd5 hk5 HK4 HA4 hng
      go_wp2_with fail
      refine HS5.out.mono ?_
      rw [(two_sy hne).1, (two_sy hne).2]
      rintro e w6 ⟨rfl, hd6, hk6⟩
      have HK6 : Hid (Keeps (fun k => k < w.heap.size) w w6) := HK5.out.trans hk6
      have HR6 : Hid (Calls _ _ _ _ _) := rename_any [98] [97] w6 hd6 (by simp) (by simp) (by simp [two]) (by simp [two])
      clear hd6 hk6 HK5 HS5
      go_wp2_with fail
      refine HR6.out.mono ?_
      rw [(two_rn hne).1, (two_rn hne).2]
      rintro e w7 ⟨rfl, hd7, hk7⟩
      have HK7 : Hid (Keeps (fun k => k < w.heap.size) w w7) := HK6.out.trans hk7
      have HD7 : Hid (DK w7 d _ (fun k => k < w.heap.size) gs5) := hd7
      clear hd7 hk7 HK6 HR6
      cases settle with
      | true =>
        have HS7 : Hid (Calls _ _ _ _ _) := settle_any w7 HD7.out
        go_wp2_with fail
        refine HS7.out.mono ?_
        rw [two_se.1, two_se.2]
        rintro e w8 ⟨rfl, hd8, hk8⟩
        have HK8 : Hid (Keeps (fun k => k < w.heap.size) w w8) := HK7.out.trans hk8
        have HC8 : Hid (Calls _ _ _ _ _) := crash_any ks (.slice a len cap) w8 hd8 (HKS.out.keeps HK8.out HKB.out) HKB.out (by simp [two])
        clear hd8 hk8 HK7 HS7 HD7
        go_wp2_with fail
        refine HC8.out.mono ?_
        rw [two_cr hne]
        rintro e w9 ⟨rfl, hd9, hk9⟩
        have hF : crF ks 0 [] [(([97] : List UInt8), g2)] = [([97], g2)] := rfl
        rw [hF] at hd9
        have HK9 : Hid (Keeps (fun k => k < w.heap.size) w w9) := HK8.out.trans hk9
        have hrd := rd_some (S := two g1 g2 O.data.toList (Fr.data.toList, Fr.data.toList.length) [([97], g2)] [([97], g2)] []) (x := [97]) (g := g2) (by simp [two]) (lk_one _ _)
        rw [(two_fl hne).2] at hrd
        have HRD : Hid _ := hrd
        have HR9 : Hid (Calls _ _ _ _ _) := read_any [97] w9 hd9 (by simp)
        have HD9 : Hid (DK w9 d _ (fun k => k < w.heap.size) gs5) := hd9
        have hus : usd (two g1 g2 O.data.toList (Fr.data.toList, Fr.data.toList.length) [([97], g2)] [([97], g2)] []).fl (two g1 g2 O.data.toList (Fr.data.toList, Fr.data.toList.length) [([97], g2)] [([97], g2)] []).now = Fr.data.toList.length := by
          show usd _ [([97], g2)] = _
          rw [usd_one, (two_fl hne).2]
        have HUS : Hid _ := hus
        clear hd9 hk9 hrd hF HC8 hus
        go_wp2_with fail
        refine HR9.out.mono ?_
        rw [HRD.out.1, HRD.out.2]
        rintro e w10 ⟨rfl, e10⟩
        have e10' := e10.symm
        subst e10'
        clear e10
        go_wp2_with fail
        refine (awake14_any w9).mono ?_
        rintro e w11 ⟨rfl, hb11⟩
        have HU : Hid (Calls _ _ _ _ _) := used_any w11 (HD9.out.below hb11) (by simp [two])
        have HK11 : Hid (Keeps (fun k => k < w.heap.size) w w11) := HK9.out.trans (Keeps.of_below hb11 HD9.out.Kb)
        have HKb11 : Hid (∀ k, k < w.heap.size → k < w11.heap.size) := fun k hk => Nat.lt_of_lt_of_le hk HK11.out.size
        clear hb11
        have hq : ((mkT Fr.data.toList).toList == Fr.toList) = true := by rw [eq_str]; simp
        have hml : ((mkT Fr.data.toList).size : Int) = (Fr.data.toList.length : Int) := by rw [mkT_size]
        go_wp2_with fail
        refine HU.out.mono ?_
        rw [HUS.out]
        rintro e w12 ⟨rfl, hb12⟩
        have HK12 : Hid (Below w.heap.size w w12) := (HK11.out.trans (Keeps.of_below hb12 HKb11.out)).below
        clear hb12
        go_wp2
        go_ret
        exact ⟨by simp, HK12.out⟩
      | false =>
        have HC8 : Hid (Calls _ _ _ _ _) := crash_any ks (.slice a len cap) w7 HD7.out (HKS.out.keeps HK7.out HKB.out) HKB.out (by simp [two])
        go_wp2_with fail
        refine HC8.out.mono ?_
        rw [two_cr hne]
        rintro e w9 ⟨rfl, hd9, hk9⟩
        obtain ⟨g, hg, hlkg, hlen⟩ := two_swap (o := O.data.toList) (d := Fr.data.toList) hne ks
        generalize crF ks 0 [⟨0, g2, [98], []⟩, ⟨1, g2, [98], [97]⟩] [([97], g1)] = F at *
        have HK9 : Hid (Keeps (fun k => k < w.heap.size) w w9) := HK7.out.trans hk9
        have hrd := rd_some (S := two g1 g2 O.data.toList (Fr.data.toList, Fr.data.toList.length) F F []) (x := [97]) (g := g) (by simp [two]) hlkg
        have HR9 : Hid (Calls _ _ _ _ _) := read_any [97] w9 hd9 (by simp)
        have HD9 : Hid (DK w9 d (two g1 g2 O.data.toList (Fr.data.toList, Fr.data.toList.length) F F []) (fun k => k < w.heap.size) gs5) := hd9
        have hus : ((two g1 g2 O.data.toList (Fr.data.toList, Fr.data.toList.length) F F []).fl g).1.length ≤ usd (two g1 g2 O.data.toList (Fr.data.toList, Fr.data.toList.length) F F []).fl (two g1 g2 O.data.toList (Fr.data.toList, Fr.data.toList.length) F F []).now := usd_ge (F := F) (p := ([97], g)) (lk_some_mem hlkg)
        have hv : ((two g1 g2 O.data.toList (Fr.data.toList, Fr.data.toList.length) F F []).fl g).1 = O.data.toList ∨ ((two g1 g2 O.data.toList (Fr.data.toList, Fr.data.toList.length) F F []).fl g).1 = Fr.data.toList := by
          rcases hg with rfl | rfl
          · rw [(two_fl hne).1]; exact .inl rfl
          · rw [(two_fl hne).2]; exact .inr rfl
        have hnl : (two g1 g2 O.data.toList (Fr.data.toList, Fr.data.toList.length) F F []).now.length ≤ 1000000 := by show F.length ≤ _; omega
        have HRD : Hid _ := hrd
        clear hd9 hk9 hrd HC8 hlkg hg HD7
        generalize two g1 g2 O.data.toList (Fr.data.toList, Fr.data.toList.length) F F [] = S9 at *
        have HV : Hid ((S9.fl g).1 = O.data.toList ∨ (S9.fl g).1 = Fr.data.toList) := hv
        go_wp2_with fail
        refine HR9.out.mono ?_
        rw [HRD.out.1, HRD.out.2]
        rintro e w10 ⟨rfl, e10⟩
        have e10' := e10.symm
        subst e10'
        clear e10 hv
        go_wp2_with fail
        refine (awake14_any w9).mono ?_
        rintro e w11 ⟨rfl, hb11⟩
        have HU : Hid (Calls _ _ _ _ _) := used_any w11 (HD9.out.below hb11) hnl
        have HK11 : Hid (Keeps (fun k => k < w.heap.size) w w11) := HK9.out.trans (Keeps.of_below hb11 HD9.out.Kb)
        have HKb11 : Hid (∀ k, k < w.heap.size → k < w11.heap.size) := fun k hk => Nat.lt_of_lt_of_le hk HK11.out.size
        clear hb11
        generalize (S9.fl g).1 = rv at *
        generalize usd S9.fl S9.now = us at *
        have hml : ((mkT rv).size : Int) = (rv.length : Int) := by rw [mkT_size]
        have husi : (rv.length : Int) ≤ (us : Int) := by omega
        by_cases hq1 : ((mkT rv).toList == Fr.toList) = true
        · go_wp2_with fail
          refine HU.out.mono ?_
          rintro e w12 ⟨rfl, hb12⟩
          have HK12 : Hid (Below w.heap.size w w12) := (HK11.out.trans (Keeps.of_below hb12 HKb11.out)).below
          clear hb12
          go_wp2
          go_ret
          exact ⟨by simp [hus], HK12.out⟩
        · have hq2 : ((mkT rv).toList == Fr.toList) = false := by simpa using hq1
          have hq3 : ((mkT rv).toList == O.toList) = true := by
            rw [eq_str] at hq1 ⊢
            rcases HV.out with h | h
            · rw [h]; simp
            · rw [h] at hq1; simp at hq1
          clear hq1
          go_wp2_with fail
          refine HU.out.mono ?_
          rintro e w12 ⟨rfl, hb12⟩
          have HK12 : Hid (Below w.heap.size w w12) := (HK11.out.trans (Keeps.of_below hb12 HKb11.out)).below
          clear hb12
          go_wp2
          go_ret
          exact ⟨by simp [hus], HK12.out⟩
  · have hoi : ¬ (100 : Int) < (old.size : Int) := by omega
    by_cases hf : 100 < fresh.size
    · have hfi : (100 : Int) < (fresh.size : Int) := by omega
      go_enter Try.func5, Try.ntmps5
      go_wp2_with fail
      obtain ⟨O, hOe⟩ : ∃ O, O = old := ⟨_, rfl⟩
      have hO : O.size ≤ 100 := by rw [hOe]; omega
      rw [← hOe]
      have hFr := ext_size fresh 100 (by omega)
      generalize fresh.extract 0 100 = Fr at *
      clear hOe
      have hOl : O.data.toList.length ≤ 100 := by simp; omega
      have hFl : Fr.data.toList.length ≤ 100 := by simp; omega
      clear hoi hfi ho hf h0 h1
      refine (new_good 1000 w (by decide) (by decide)).mono ?_
      rintro e w1 ⟨d, rfl, hd1, hb1⟩
      have HK1 : Hid (Keeps (fun k => k < w.heap.size) w w1) := Keeps.of_below hb1 (fun k hk => hk)
      have HA1 : Hid (Calls _ _ _ _ _) := append_s [97] O w1 hd1 (by simp) (by omega) (by simp [newS]) (by simp [newS])
      clear hd1 hb1
      go_wp2_with fail
      refine HA1.out.mono ?_
      rw [newS_eq, (ap_first 0 (-1) (by decide) (by decide) (by omega)).1]
      rintro e w2 ⟨rfl, ⟨g1, gs2, hd2, _, _⟩, hk2⟩
      rw [(ap_first g1 (-1) (by decide) (by decide) (by omega)).2] at hd2
      have HK2 : Hid (Keeps (fun k => k < w.heap.size) w w2) := HK1.out.trans hk2
      have HS2 : Hid (Calls _ _ _ _ _) := sync_any [97] w2 hd2 (by simp)
      clear hd2 hk2 HK1 HA1
      go_wp2_with fail
      refine HS2.out.mono ?_
      rw [(sy_one (by decide)).1, (sy_one (by decide)).2]
      rintro e w3 ⟨rfl, hd3, hk3⟩
      have HK3 : Hid (Keeps (fun k => k < w.heap.size) w w3) := HK2.out.trans hk3
      have HS3 : Hid (Calls _ _ _ _ _) := settle_any w3 hd3
      clear hd3 hk3 HK2 HS2
      go_wp2_with fail
      refine HS3.out.mono ?_
      rw [(se_one (by decide)).1, (se_one (by decide)).2]
      rintro e w4 ⟨rfl, hd4, hk4⟩
      have HK4 : Hid (Keeps (fun k => k < w.heap.size) w w4) := HK3.out.trans hk4
      have HG1 : Hid (g1 ∈ gs2) := hd4.mem (p := ([97], g1)) List.mem_cons_self
      have HA4 : Hid (Calls _ _ _ _ _) := append_s [98] Fr w4 hd4 (by simp) (by omega) (by simp [one]) (by simp [one])
      clear hd4 hk4 HK3 HS3
      go_wp2_with fail
      refine HA4.out.mono ?_
      rw [(two_ap (g2 := g1 + 1) hOl hFl (by omega)).1]
      rintro e w5 ⟨rfl, ⟨g2, gs5, hd5, hng, _⟩, hk5⟩
      have hne : g1 ≠ g2 := fun e => hng (e ▸ HG1.out)
      rw [(two_ap hOl hFl hne).2] at hd5
      have HK5 : Hid (Keeps (fun k => k < w.heap.size) w w5) := HK4.out.trans hk5
      have HS5 : Hid (Calls _ _ _ _ _) := sync_any [98] w5 hd5 (by simp)
      clear hd5 hk5 HK4 HA4 hng
      go_wp2_with fail
      refine HS5.out.mono ?_
      rw [(two_sy hne).1, (two_sy hne).2]
      rintro e w6 ⟨rfl, hd6, hk6⟩
      have HK6 : Hid (Keeps (fun k => k < w.heap.size) w w6) := HK5.out.trans hk6
      have HR6 : Hid (Calls _ _ _ _ _) := rename_any [98] [97] w6 hd6 (by simp) (by simp) (by simp [two]) (by simp [two])
      clear hd6 hk6 HK5 HS5
      go_wp2_with fail
      refine HR6.out.mono ?_
      rw [(two_rn hne).1, (two_rn hne).2]
      rintro e w7 ⟨rfl, hd7, hk7⟩
      have HK7 : Hid (Keeps (fun k => k < w.heap.size) w w7) := HK6.out.trans hk7
      have HD7 : Hid (DK w7 d _ (fun k => k < w.heap.size) gs5) := hd7
      clear hd7 hk7 HK6 HR6
      cases settle with
      | true =>
        have HS7 : Hid (Calls _ _ _ _ _) := settle_any w7 HD7.out
        go_wp2_with fail
        refine HS7.out.mono ?_
        rw [two_se.1, two_se.2]
        rintro e w8 ⟨rfl, hd8, hk8⟩
        have HK8 : Hid (Keeps (fun k => k < w.heap.size) w w8) := HK7.out.trans hk8
        have HC8 : Hid (Calls _ _ _ _ _) := crash_any ks (.slice a len cap) w8 hd8 (HKS.out.keeps HK8.out HKB.out) HKB.out (by simp [two])
        clear hd8 hk8 HK7 HS7 HD7
        go_wp2_with fail
        refine HC8.out.mono ?_
        rw [two_cr hne]
        rintro e w9 ⟨rfl, hd9, hk9⟩
        have hF : crF ks 0 [] [(([97] : List UInt8), g2)] = [([97], g2)] := rfl
        rw [hF] at hd9
        have HK9 : Hid (Keeps (fun k => k < w.heap.size) w w9) := HK8.out.trans hk9
        have hrd := rd_some (S := two g1 g2 O.data.toList (Fr.data.toList, Fr.data.toList.length) [([97], g2)] [([97], g2)] []) (x := [97]) (g := g2) (by simp [two]) (lk_one _ _)
        rw [(two_fl hne).2] at hrd
        have HRD : Hid _ := hrd
        have HR9 : Hid (Calls _ _ _ _ _) := read_any [97] w9 hd9 (by simp)
        have HD9 : Hid (DK w9 d _ (fun k => k < w.heap.size) gs5) := hd9
        have hus : usd (two g1 g2 O.data.toList (Fr.data.toList, Fr.data.toList.length) [([97], g2)] [([97], g2)] []).fl (two g1 g2 O.data.toList (Fr.data.toList, Fr.data.toList.length) [([97], g2)] [([97], g2)] []).now = Fr.data.toList.length := by
          show usd _ [([97], g2)] = _
          rw [usd_one, (two_fl hne).2]
        have HUS : Hid _ := hus
        clear hd9 hk9 hrd hF HC8 hus
        go_wp2_with fail
        refine HR9.out.mono ?_
        rw [HRD.out.1, HRD.out.2]
        rintro e w10 ⟨rfl, e10⟩
        have e10' := e10.symm
        subst e10'
        clear e10
        go_wp2_with fail
        refine (awake14_any w9).mono ?_
        rintro e w11 ⟨rfl, hb11⟩
        have HU : Hid (Calls _ _ _ _ _) := used_any w11 (HD9.out.below hb11) (by simp [two])
        have HK11 : Hid (Keeps (fun k => k < w.heap.size) w w11) := HK9.out.trans (Keeps.of_below hb11 HD9.out.Kb)
        have HKb11 : Hid (∀ k, k < w.heap.size → k < w11.heap.size) := fun k hk => Nat.lt_of_lt_of_le hk HK11.out.size
        clear hb11
        have hq : ((mkT Fr.data.toList).toList == Fr.toList) = true := by rw [eq_str]; simp
        have hml : ((mkT Fr.data.toList).size : Int) = (Fr.data.toList.length : Int) := by rw [mkT_size]
        go_wp2_with fail
        refine HU.out.mono ?_
        rw [HUS.out]
        rintro e w12 ⟨rfl, hb12⟩
        have HK12 : Hid (Below w.heap.size w w12) := (HK11.out.trans (Keeps.of_below hb12 HKb11.out)).below
        clear hb12
        go_wp2
        go_ret
        exact ⟨by simp, HK12.out⟩
      | false =>
        have HC8 : Hid (Calls _ _ _ _ _) := crash_any ks (.slice a len cap) w7 HD7.out (HKS.out.keeps HK7.out HKB.out) HKB.out (by simp [two])
        go_wp2_with fail
        refine HC8.out.mono ?_
        rw [two_cr hne]
        rintro e w9 ⟨rfl, hd9, hk9⟩
        obtain ⟨g, hg, hlkg, hlen⟩ := two_swap (o := O.data.toList) (d := Fr.data.toList) hne ks
        generalize crF ks 0 [⟨0, g2, [98], []⟩, ⟨1, g2, [98], [97]⟩] [([97], g1)] = F at *
        have HK9 : Hid (Keeps (fun k => k < w.heap.size) w w9) := HK7.out.trans hk9
        have hrd := rd_some (S := two g1 g2 O.data.toList (Fr.data.toList, Fr.data.toList.length) F F []) (x := [97]) (g := g) (by simp [two]) hlkg
        have HR9 : Hid (Calls _ _ _ _ _) := read_any [97] w9 hd9 (by simp)
        have HD9 : Hid (DK w9 d (two g1 g2 O.data.toList (Fr.data.toList, Fr.data.toList.length) F F []) (fun k => k < w.heap.size) gs5) := hd9
        have hus : ((two g1 g2 O.data.toList (Fr.data.toList, Fr.data.toList.length) F F []).fl g).1.length ≤ usd (two g1 g2 O.data.toList (Fr.data.toList, Fr.data.toList.length) F F []).fl (two g1 g2 O.data.toList (Fr.data.toList, Fr.data.toList.length) F F []).now := usd_ge (F := F) (p := ([97], g)) (lk_some_mem hlkg)
        have hv : ((two g1 g2 O.data.toList (Fr.data.toList, Fr.data.toList.length) F F []).fl g).1 = O.data.toList ∨ ((two g1 g2 O.data.toList (Fr.data.toList, Fr.data.toList.length) F F []).fl g).1 = Fr.data.toList := by
          rcases hg with rfl | rfl
          · rw [(two_fl hne).1]; exact .inl rfl
          · rw [(two_fl hne).2]; exact .inr rfl
        have hnl : (two g1 g2 O.data.toList (Fr.data.toList, Fr.data.toList.length) F F []).now.length ≤ 1000000 := by show F.length ≤ _; omega
        have HRD : Hid _ := hrd
        clear hd9 hk9 hrd HC8 hlkg hg HD7
        generalize two g1 g2 O.data.toList (Fr.data.toList, Fr.data.toList.length) F F [] = S9 at *
        have HV : Hid ((S9.fl g).1 = O.data.toList ∨ (S9.fl g).1 = Fr.data.toList) := hv
        go_wp2_with fail
        refine HR9.out.mono ?_
        rw [HRD.out.1, HRD.out.2]
        rintro e w10 ⟨rfl, e10⟩
        have e10' := e10.symm
        subst e10'
        clear e10 hv
        go_wp2_with fail
        refine (awake14_any w9).mono ?_
        rintro e w11 ⟨rfl, hb11⟩
        have HU : Hid (Calls _ _ _ _ _) := used_any w11 (HD9.out.below hb11) hnl
        have HK11 : Hid (Keeps (fun k => k < w.heap.size) w w11) := HK9.out.trans (Keeps.of_below hb11 HD9.out.Kb)
        have HKb11 : Hid (∀ k, k < w.heap.size → k < w11.heap.size) := fun k hk => Nat.lt_of_lt_of_le hk HK11.out.size
        clear hb11
        generalize (S9.fl g).1 = rv at *
        generalize usd S9.fl S9.now = us at *
        have hml : ((mkT rv).size : Int) = (rv.length : Int) := by rw [mkT_size]
        have husi : (rv.length : Int) ≤ (us : Int) := by omega
        by_cases hq1 : ((mkT rv).toList == Fr.toList) = true
        · go_wp2_with fail
          refine HU.out.mono ?_
          rintro e w12 ⟨rfl, hb12⟩
          have HK12 : Hid (Below w.heap.size w w12) := (HK11.out.trans (Keeps.of_below hb12 HKb11.out)).below
          clear hb12
          go_wp2
          go_ret
          exact ⟨by simp [hus], HK12.out⟩
        · have hq2 : ((mkT rv).toList == Fr.toList) = false := by simpa using hq1
          have hq3 : ((mkT rv).toList == O.toList) = true := by
            rw [eq_str] at hq1 ⊢
            rcases HV.out with h | h
            · rw [h]; simp
            · rw [h] at hq1; simp at hq1
          clear hq1
          go_wp2_with fail
          refine HU.out.mono ?_
          rintro e w12 ⟨rfl, hb12⟩
          have HK12 : Hid (Below w.heap.size w w12) := (HK11.out.trans (Keeps.of_below hb12 HKb11.out)).below
          clear hb12
          go_wp2
          go_ret
          exact ⟨by simp [hus], HK12.out⟩
    · have hfi : ¬ (100 : Int) < (fresh.size : Int) := by omega
      go_enter Try.func5, Try.ntmps5
      go_wp2_with fail
      obtain ⟨O, hOe⟩ : ∃ O, O = old := ⟨_, rfl⟩
      have hO : O.size ≤ 100 := by rw [hOe]; omega
      rw [← hOe]
      obtain ⟨Fr, hFe⟩ : ∃ Fr, Fr = fresh := ⟨_, rfl⟩
      have hFr : Fr.size ≤ 100 := by rw [hFe]; omega
      rw [← hFe]
      clear hOe
      clear hFe
      have hOl : O.data.toList.length ≤ 100 := by simp; omega
      have hFl : Fr.data.toList.length ≤ 100 := by simp; omega
      clear hoi hfi ho hf h0 h1
      refine (new_good 1000 w (by decide) (by decide)).mono ?_
      rintro e w1 ⟨d, rfl, hd1, hb1⟩
      have HK1 : Hid (Keeps (fun k => k < w.heap.size) w w1) := Keeps.of_below hb1 (fun k hk => hk)
      have HA1 : Hid (Calls _ _ _ _ _) := append_s [97] O w1 hd1 (by simp) (by omega) (by simp [newS]) (by simp [newS])
      clear hd1 hb1
      go_wp2_with fail
      refine HA1.out.mono ?_
      rw [newS_eq, (ap_first 0 (-1) (by decide) (by decide) (by omega)).1]
      rintro e w2 ⟨rfl, ⟨g1, gs2, hd2, _, _⟩, hk2⟩
      rw [(ap_first g1 (-1) (by decide) (by decide) (by omega)).2] at hd2
      have HK2 : Hid (Keeps (fun k => k < w.heap.size) w w2) := HK1.out.trans hk2
      have HS2 : Hid (Calls _ _ _ _ _) := sync_any [97] w2 hd2 (by simp)
      clear hd2 hk2 HK1 HA1
      go_wp2_with fail
      refine HS2.out.mono ?_
      rw [(sy_one (by decide)).1, (sy_one (by decide)).2]
      rintro e w3 ⟨rfl, hd3, hk3⟩
      have HK3 : Hid (Keeps (fun k => k < w.heap.size) w w3) := HK2.out.trans hk3
      have HS3 : Hid (Calls _ _ _ _ _) := settle_any w3 hd3
      clear hd3 hk3 HK2 HS2
      go_wp2_with fail
      refine HS3.out.mono ?_
      rw [(se_one (by decide)).1, (se_one (by decide)).2]
      rintro e w4 ⟨rfl, hd4, hk4⟩
      have HK4 : Hid (Keeps (fun k => k < w.heap.size) w w4) := HK3.out.trans hk4
      have HG1 : Hid (g1 ∈ gs2) := hd4.mem (p := ([97], g1)) List.mem_cons_self
      have HA4 : Hid (Calls _ _ _ _ _) := append_s [98] Fr w4 hd4 (by simp) (by omega) (by simp [one]) (by simp [one])
      clear hd4 hk4 HK3 HS3
      go_wp2_with fail
      refine HA4.out.mono ?_
      rw [(two_ap (g2 := g1 + 1) hOl hFl (by omega)).1]
      rintro e w5 ⟨rfl, ⟨g2, gs5, hd5, hng, _⟩, hk5⟩
      have hne : g1 ≠ g2 := fun e => hng (e ▸ HG1.out)
      rw [(two_ap hOl hFl hne).2] at hd5
      have HK5 : Hid (Keeps (fun k => k < w.heap.size) w w5) := HK4.out.trans hk5
      have HS5 : Hid (Calls _ _ _ _ _) := sync_any [98] w5 hd5 (by simp)
      clear hd5 hk5 HK4 HA4 hng
      go_wp2_with fail
      refine HS5.out.mono ?_
      rw [(two_sy hne).1, (two_sy hne).2]
      rintro e w6 ⟨rfl, hd6, hk6⟩
      have HK6 : Hid (Keeps (fun k => k < w.heap.size) w w6) := HK5.out.trans hk6
      have HR6 : Hid (Calls _ _ _ _ _) := rename_any [98] [97] w6 hd6 (by simp) (by simp) (by simp [two]) (by simp [two])
      clear hd6 hk6 HK5 HS5
      go_wp2_with fail
      refine HR6.out.mono ?_
      rw [(two_rn hne).1, (two_rn hne).2]
      rintro e w7 ⟨rfl, hd7, hk7⟩
      have HK7 : Hid (Keeps (fun k => k < w.heap.size) w w7) := HK6.out.trans hk7
      have HD7 : Hid (DK w7 d _ (fun k => k < w.heap.size) gs5) := hd7
      clear hd7 hk7 HK6 HR6
      cases settle with
      | true =>
        have HS7 : Hid (Calls _ _ _ _ _) := settle_any w7 HD7.out
        go_wp2_with fail
        refine HS7.out.mono ?_
        rw [two_se.1, two_se.2]
        rintro e w8 ⟨rfl, hd8, hk8⟩
        have HK8 : Hid (Keeps (fun k => k < w.heap.size) w w8) := HK7.out.trans hk8
        have HC8 : Hid (Calls _ _ _ _ _) := crash_any ks (.slice a len cap) w8 hd8 (HKS.out.keeps HK8.out HKB.out) HKB.out (by simp [two])
        clear hd8 hk8 HK7 HS7 HD7
        go_wp2_with fail
        refine HC8.out.mono ?_
        rw [two_cr hne]
        rintro e w9 ⟨rfl, hd9, hk9⟩
        have hF : crF ks 0 [] [(([97] : List UInt8), g2)] = [([97], g2)] := rfl
        rw [hF] at hd9
        have HK9 : Hid (Keeps (fun k => k < w.heap.size) w w9) := HK8.out.trans hk9
        have hrd := rd_some (S := two g1 g2 O.data.toList (Fr.data.toList, Fr.data.toList.length) [([97], g2)] [([97], g2)] []) (x := [97]) (g := g2) (by simp [two]) (lk_one _ _)
        rw [(two_fl hne).2] at hrd
        have HRD : Hid _ := hrd
        have HR9 : Hid (Calls _ _ _ _ _) := read_any [97] w9 hd9 (by simp)
        have HD9 : Hid (DK w9 d _ (fun k => k < w.heap.size) gs5) := hd9
        have hus : usd (two g1 g2 O.data.toList (Fr.data.toList, Fr.data.toList.length) [([97], g2)] [([97], g2)] []).fl (two g1 g2 O.data.toList (Fr.data.toList, Fr.data.toList.length) [([97], g2)] [([97], g2)] []).now = Fr.data.toList.length := by
          show usd _ [([97], g2)] = _
          rw [usd_one, (two_fl hne).2]
        have HUS : Hid _ := hus
        clear hd9 hk9 hrd hF HC8 hus
        go_wp2_with fail
        refine HR9.out.mono ?_
        rw [HRD.out.1, HRD.out.2]
        rintro e w10 ⟨rfl, e10⟩
        have e10' := e10.symm
        subst e10'
        clear e10
        go_wp2_with fail
        refine (awake14_any w9).mono ?_
        rintro e w11 ⟨rfl, hb11⟩
        have HU : Hid (Calls _ _ _ _ _) := used_any w11 (HD9.out.below hb11) (by simp [two])
        have HK11 : Hid (Keeps (fun k => k < w.heap.size) w w11) := HK9.out.trans (Keeps.of_below hb11 HD9.out.Kb)
        have HKb11 : Hid (∀ k, k < w.heap.size → k < w11.heap.size) := fun k hk => Nat.lt_of_lt_of_le hk HK11.out.size
        clear hb11
        have hq : ((mkT Fr.data.toList).toList == Fr.toList) = true := by rw [eq_str]; simp
        have hml : ((mkT Fr.data.toList).size : Int) = (Fr.data.toList.length : Int) := by rw [mkT_size]
        go_wp2_with fail
        refine HU.out.mono ?_
        rw [HUS.out]
        rintro e w12 ⟨rfl, hb12⟩
        have HK12 : Hid (Below w.heap.size w w12) := (HK11.out.trans (Keeps.of_below hb12 HKb11.out)).below
        clear hb12
        go_wp2
        go_ret
        exact ⟨by simp, HK12.out⟩
      | false =>
        have HC8 : Hid (Calls _ _ _ _ _) := crash_any ks (.slice a len cap) w7 HD7.out (HKS.out.keeps HK7.out HKB.out) HKB.out (by simp [two])
        go_wp2_with fail
        refine HC8.out.mono ?_
        rw [two_cr hne]
        rintro e w9 ⟨rfl, hd9, hk9⟩
        obtain ⟨g, hg, hlkg, hlen⟩ := two_swap (o := O.data.toList) (d := Fr.data.toList) hne ks
        generalize crF ks 0 [⟨0, g2, [98], []⟩, ⟨1, g2, [98], [97]⟩] [([97], g1)] = F at *
        have HK9 : Hid (Keeps (fun k => k < w.heap.size) w w9) := HK7.out.trans hk9
        have hrd := rd_some (S := two g1 g2 O.data.toList (Fr.data.toList, Fr.data.toList.length) F F []) (x := [97]) (g := g) (by simp [two]) hlkg
        have HR9 : Hid (Calls _ _ _ _ _) := read_any [97] w9 hd9 (by simp)
        have HD9 : Hid (DK w9 d (two g1 g2 O.data.toList (Fr.data.toList, Fr.data.toList.length) F F []) (fun k => k < w.heap.size) gs5) := hd9
        have hus : ((two g1 g2 O.data.toList (Fr.data.toList, Fr.data.toList.length) F F []).fl g).1.length ≤ usd (two g1 g2 O.data.toList (Fr.data.toList, Fr.data.toList.length) F F []).fl (two g1 g2 O.data.toList (Fr.data.toList, Fr.data.toList.length) F F []).now := usd_ge (F := F) (p := ([97], g)) (lk_some_mem hlkg)
        have hv : ((two g1 g2 O.data.toList (Fr.data.toList, Fr.data.toList.length) F F []).fl g).1 = O.data.toList ∨ ((two g1 g2 O.data.toList (Fr.data.toList, Fr.data.toList.length) F F []).fl g).1 = Fr.data.toList := by
          rcases hg with rfl | rfl
          · rw [(two_fl hne).1]; exact .inl rfl
          · rw [(two_fl hne).2]; exact .inr rfl
        have hnl : (two g1 g2 O.data.toList (Fr.data.toList, Fr.data.toList.length) F F []).now.length ≤ 1000000 := by show F.length ≤ _; omega
        have HRD : Hid _ := hrd
        clear hd9 hk9 hrd HC8 hlkg hg HD7
        generalize two g1 g2 O.data.toList (Fr.data.toList, Fr.data.toList.length) F F [] = S9 at *
        have HV : Hid ((S9.fl g).1 = O.data.toList ∨ (S9.fl g).1 = Fr.data.toList) := hv
        go_wp2_with fail
        refine HR9.out.mono ?_
        rw [HRD.out.1, HRD.out.2]
        rintro e w10 ⟨rfl, e10⟩
        have e10' := e10.symm
        subst e10'
        clear e10 hv
        go_wp2_with fail
        refine (awake14_any w9).mono ?_
        rintro e w11 ⟨rfl, hb11⟩
        have HU : Hid (Calls _ _ _ _ _) := used_any w11 (HD9.out.below hb11) hnl
        have HK11 : Hid (Keeps (fun k => k < w.heap.size) w w11) := HK9.out.trans (Keeps.of_below hb11 HD9.out.Kb)
        have HKb11 : Hid (∀ k, k < w.heap.size → k < w11.heap.size) := fun k hk => Nat.lt_of_lt_of_le hk HK11.out.size
        clear hb11
        generalize (S9.fl g).1 = rv at *
        generalize usd S9.fl S9.now = us at *
        have hml : ((mkT rv).size : Int) = (rv.length : Int) := by rw [mkT_size]
        have husi : (rv.length : Int) ≤ (us : Int) := by omega
        by_cases hq1 : ((mkT rv).toList == Fr.toList) = true
        · go_wp2_with fail
          refine HU.out.mono ?_
          rintro e w12 ⟨rfl, hb12⟩
          have HK12 : Hid (Below w.heap.size w w12) := (HK11.out.trans (Keeps.of_below hb12 HKb11.out)).below
          clear hb12
          go_wp2
          go_ret
          exact ⟨by simp [hus], HK12.out⟩
        · have hq2 : ((mkT rv).toList == Fr.toList) = false := by simpa using hq1
          have hq3 : ((mkT rv).toList == O.toList) = true := by
            rw [eq_str] at hq1 ⊢
            rcases HV.out with h | h
            · rw [h]; simp
            · rw [h] at hq1; simp at hq1
          clear hq1
          go_wp2_with fail
          refine HU.out.mono ?_
          rintro e w12 ⟨rfl, hb12⟩
          have HK12 : Hid (Below w.heap.size w w12) := (HK11.out.trans (Keeps.of_below hb12 HKb11.out)).below
          clear hb12
          go_wp2
          go_ret
          exact ⟨by simp [hus], HK12.out⟩
end Go.Proofs.Ytgpfbahmkbdjmab
