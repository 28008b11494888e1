/- Contracts of the document's Pieces of layer 3. -/
import Derived.Test.YthkppipdflmekaaGreatQRefB
import Derived.Test.YthkppipdflmekaaGreatQAllM
import Derived.Test.YthkppipdflmekaaGreatQPutA
set_option maxRecDepth 100000
set_option maxHeartbeats 1000000
namespace Go.Proofs.YthkppipdflmekaaGreat
open Go.RowKit
set_option linter.unusedVariables false
def lenP : Value → Nat | .slice _ n _ => n | _ => 0
theorem q4w (x k : Nat) : (((x : Int) / 2 ^ k).tmod 2 == 1) = x.testBit k := by
 rw [Int.tmod_eq_emod_of_nonneg (by apply Int.ediv_nonneg; omega; exact Int.le_of_lt (Int.pow_pos (by decide)))]
 have e : (x : Int) / 2 ^ k = ((x / 2 ^ k : Nat) : Int) := by simp
 rw [e, Nat.testBit_eq_decide_div_mod_eq]
 generalize x / 2 ^ k = q
 rw [show (((q : Int) % 2) == 1) = decide ((q : Int) % 2 = 1) from rfl]
 apply decide_eq_decide.2; omega
def OW (w : World) (v : Value) (L : List Bool) : Prop := ∃ g o cap, v = .slice (some ⟨g, o, none⟩) L.length cap ∧ g < w.heap.size ∧ ∀ j, j < L.length → w.cell? ⟨g, o + j, none⟩ = some (.bool (L.getD j false))
theorem OB.ow {w : World} {B : Nat} {v : Value} {L : List Bool} (h : OB w B v L) : OW w v L := by
 obtain ⟨g, cap, rfl, ho⟩ := h
 have hO : OB w B (.slice (some ⟨g, 0, none⟩) L.length cap) L := ⟨g, cap, rfl, ho⟩
 exact ⟨g, 0, cap, rfl, hO.lt.2, fun j hj => by rw [Nat.zero_add]; exact hO.cell j hj⟩
theorem qjv (v : Value) (L : List Bool) (w : World) (hO : OW w v L) (hL : L.length ≤ 100000) :
    Calls Tryz.prog 17 #[v] w fun e w' => ∃ v', e = .returned v' ∧ OB w' w.heap.size v' (qcs L) ∧ Below w.heap.size w w' := by
 obtain ⟨i0, hi, hz0, hz1, hz2⟩ := info_parts Tryz.infoBo
 obtain ⟨g, o, cap, rfl, hg, hc⟩ := hO
 have HN : Hid (∀ j u, (cbs L)[j]? = some u → (w.alloc (.cells #[] 4)).cell? ((⟨g, o, none⟩ : Addr).add j) = some u) := fun j u hu => by
  have hj : j < L.length := by have := (List.getElem?_eq_some_iff.1 hu).1; rwa [qfm] at this
  rw [Addr.add_lit, World.cell?_alloc_lt _ _ _ hg, hc j hj, ← qsd _ _ hj]; exact hu
 have HL : Hid ((cbs L).length = L.length * 1) := by unfold Hid; rw [qfm, Nat.mul_one]
 have H1 : Hid (∀ u ∈ cbs L, u.oneCell' = true) := qxa L
 have HE : Hid (qcs L = L ++ List.replicate ((L.length + 7) / 8 * 8 - L.length) false) := rfl
 clear hc
 generalize hLN : L.length = N at *
 obtain ⟨Z, hZ⟩ : ∃ Z, Z = (N + 7) / 8 * 8 - N := ⟨_, rfl⟩
 have HZ0 : Hid (∀ z, z < Z → ¬ (N + z) % 8 = 0) := fun z hz h => by omega
 have HZ1 : Hid ((N + Z) % 8 = 0) := by unfold Hid; omega
 have hZ8 : Z ≤ 8 := by omega
 rw [← hZ] at HE
 clear hZ
 go_enter Tryz.func17, Tryz.ntmps17
 go_wp2_with (at_builtin; refine wpList_append_own _ rfl _ _ 55 rfl w.heap.size 4 i0 (.bool false) 1 1 Tryz.underlying55 hi hz0 hz1 hz2 rfl (by decide) _ 0 [] rfl (World.ownsRow_made _ _ _ (Nat.le_refl _) (by decide) rfl) ⟨g, o, none⟩ N cap (cbs L) rfl HL.out HN.out H1.out ?c3 ?c4 ?c5 ?_)
 case c3 => unfold maxLen; omega
 case c4 => omega
 case c5 => simp
 intro v1 w1 hown1 hgrow1 hne1
 obtain ⟨hO1, hB1⟩ := q1a hown1 hgrow1 hne1
 clear hown1 hgrow1 hne1 HN HL H1
 go_wp2
 go_loopw [3] (fun v wr => ∃ z : Nat, z ≤ Z ∧ OB wr w.heap.size v (L ++ List.replicate z false) ∧ Below w.heap.size w wr) (fun v _ => N + Z - lenP v)
 case atStart => exact ⟨0, by omega, by simpa using hO1, hB1⟩
 case round =>
  clear hO1 hB1
  obtain ⟨z, hz, hO, hB⟩ := hrel
  have hLl : (L ++ List.replicate z false).length = N + z := by rw [List.length_append, List.length_replicate, hLN]
  obtain ⟨g2, cap2, rfl, ho2⟩ := hO
  rw [hLl] at ho2 ⊢
  have hBs := hB.size
  by_cases hlt : z < Z
  · have hm := HZ0.out z hlt
    have hm2 : ((N + z : Nat) : Int) % 8 > 0 := by omega
    have HS : Hid (L ++ List.replicate (z + 1) false = L ++ List.replicate z false ++ [false]) := by unfold Hid; rw [List.replicate_succ', List.append_assoc]
    generalize hq : N + z = q at *
    go_wp2_with (at_builtin; refine wpList_append_own _ rfl _ _ 55 rfl w.heap.size 4 i0 (.bool false) 1 1 Tryz.underlying55 hi hz0 hz1 hz2 rfl (by decide) _ _ _ rfl (ho2.alloc _) ⟨wr.heap.size, 0, none⟩ 1 1 [.bool false] rfl rfl (cell_one_new _ _ _) ?c2 ?c3 ?c4 ?c5 ?_)
    case c2 => first | rfl | (intro u hu; simp at hu; subst hu; rfl)
    case c3 => unfold maxLen; omega
    case c4 => omega
    case c5 => simp; omega
    intro v' w2 hown' hgrow' hne'
    have hlv : lenP v' = q + 1 := by obtain ⟨g3, cap3, rfl, _⟩ := OB.of (L := L ++ List.replicate z false ++ [false]) (by rw [qsc]; exact hown') hne'; show (L ++ List.replicate z false ++ [false]).length = q + 1; rw [List.length_append, hLl]; rfl
    obtain ⟨hO2, hB2⟩ := OB.push hBs hB ho2 _ hown' hgrow' hne'
    clear hown' hgrow' hne' ho2 hB
    go_wp2
    go_roundw
    case rel => exact ⟨z + 1, by omega, by rw [HS.out]; exact hO2, hB2⟩
    case measure => rw [hlv]; simp [lenP]; omega
  · obtain rfl : z = Z := by omega
    have hm := HZ1.out
    have hm2 : ¬ ((N + z : Nat) : Int) % 8 > 0 := by omega
    have HO : Hid (OB wr w.heap.size (.slice (some ⟨g2, 0, none⟩) (N + z) cap2) (qcs L)) := by rw [HE.out, ← hLl]; rw [← hLl] at ho2; exact ⟨g2, cap2, rfl, ho2⟩
    generalize hq : N + z = q at *
    go_wp2
    go_ret
    exact ⟨_, rfl, HO.out, hB⟩
theorem qmk (v : Value) (L : List Bool) (B : Nat) (w : World) (hO : OB w B v L) (hL : L.length ≤ 100000) :
    Calls Tryz.prog 17 #[v] w fun e w' => ∃ v', e = .returned v' ∧ OB w' w.heap.size v' (qcs L) ∧ Below w.heap.size w w' := qjv v L w hO.ow hL
theorem qpa (v : Value) (L : List Bool) (B j : Nat) (w : World) (hO : OB w B v L) (hL : L.length ≤ 1000000) (hj : j ≤ 100000) :
    Calls Tryz.prog 43 #[v, .int .i64 ((8 * j : Nat) : Int), .int .i64 8, .bool false] w fun e w' => e = .returned (.int .u32 ((qbe L j).toNat : Int)) ∧ w' = w := by
 have h := qkl v L B (8 * j) 8 w hO hL (by omega) (by decide)
 have e : (qbe L j).toNat = qal (fun i => L.getD (8 * j + i) false) 8 := by
  unfold qbe; rw [UInt8.toNat_ofNat', Nat.mod_eq_of_lt (qaw _ 8)]
 rw [e]; exact h
theorem qw5 (x : Nat) (hx : x < 256) (W : World) : (convert 54 9 (.slice (some ⟨W.heap.size, 0, none⟩) 1 1)).run Tryz.prog (W.alloc (.cells #[.int .u8 x] 5)) = .ok (.string (bs [x])) (W.alloc (.cells #[.int .u8 x] 5)) :=
 ql9 (base := W.heap.size) (n := 1) (l := [x]) Tryz.underlying54 Tryz.underlying5 Tryz.underlying9 (World.ownsRow_lit W #[.int .u8 x] 1 (Nat.le_refl _) (by decide) rfl)
def qll (L : List Bool) (k : Nat) : ByteArray := ⟨((List.range k).map (qbe L)).toArray⟩
theorem qtg (L : List Bool) (k : Nat) : qll L k ++ bs [(qbe L k).toNat] = qll L (k + 1) := by
 apply qhc
 rw [ByteArray.data_append, Array.toList_append, qb4]
 unfold qll
 simp [List.range_succ]
theorem qth (L : List Bool) (k : Nat) : (qll L k).size = k := by
 rw [← qad]; unfold qll; simp
theorem qtx (L : List Bool) (i : Nat) : (qcs L).getD i false = L.getD i false := by
 unfold qcs
 rw [List.getD_eq_getElem?_getD, List.getD_eq_getElem?_getD]
 by_cases h : i < L.length
 · rw [List.getElem?_append_left h]
 · rw [List.getElem?_append_right (by omega), List.getElem?_eq_none (l := L) (by omega)]
   by_cases h2 : i - L.length < (L.length + 7) / 8 * 8 - L.length
   · rw [List.getElem?_replicate, if_pos h2]; rfl
   · rw [List.getElem?_eq_none (by simpa using h2)]
theorem qvv (L : List Bool) : qll (qcs L) ((L.length + 7) / 8) = qb8 L := by
 unfold qll qb8 qhd
 congr 2
 apply List.map_congr_left
 intro j _
 exact qfk fun i _ => qtx L _
theorem qj9 (v : Value) (L : List Bool) (w : World) (hO : OW w v L) (hL : L.length ≤ 90000) :
    Calls Tryz.prog 19 #[v] w fun e w' => e = .returned (.string (qb8 L)) ∧ Below w.heap.size w w' := by
 have hE := qwu L
 have HP : Hid (_ = _) := qvv L
 generalize hK : (L.length + 7) / 8 = K at *
 have hK2 : K ≤ 20000 := by omega
 go_enter Tryz.func19, Tryz.ntmps19
 go_wp2_with fail
 refine (qjv v L _ hO (by omega)).mono ?_
 rintro e w1 ⟨v1, rfl, hO1, hB1⟩
 obtain ⟨g1, cap1, rfl, ho1⟩ := hO1
 have hO1 : OB w1 w.heap.size (.slice (some ⟨g1, 0, none⟩) (qcs L).length cap1) (qcs L) := ⟨g1, cap1, rfl, ho1⟩
 have HO1 : Hid (OB w1 w.heap.size (.slice (some ⟨g1, 0, none⟩) (K * 8) cap1) (qcs L)) := by unfold Hid; rw [← hE]; exact hO1
 have HM : Hid ((qcs L).length ≤ 1000000) := by unfold Hid; omega
 clear ho1 hO1
 rw [hE]
 clear hE hO
 go_wp2
 go_loopw [3, 5] (fun t i wr => ∃ k : Nat, k ≤ K ∧ i = .int .i64 ((8 * k : Nat) : Int) ∧ t = .string (qll (qcs L) k) ∧ Below w1.heap.size w1 wr) (fun _ i _ => 8 * K - (intOf i).toNat)
 case atStart => exact ⟨0, by omega, rfl, rfl, Below.refl _ _⟩
 case round =>
  obtain ⟨k, hk, rfl, rfl, hB⟩ := hrel
  by_cases hlt : k < K
  · have hN := qpa _ _ _ k wr (HO1.out.below hB) HM.out (by omega)
    have hb := (qbe (qcs L) k).toNat_lt
    have HS : Hid (_ = _) := qtg (qcs L) k
    have hps := qth (qcs L) k
    have hbs : (bs [(qbe (qcs L) k).toNat]).size = 1 := by rw [qdm]; rfl
    generalize (qbe (qcs L) k).toNat = X at *
    have hcv := qw5 X (by omega)
    have hlt8 : ((8 * k : Nat) : Int) < ((K * 8 : Nat) : Int) := by omega
    generalize hT : qll (qcs L) k = T at *
    clear hT
    generalize hk8 : 8 * k = k8 at *
    go_wp2_with fail
    refine hN.mono ?_
    rintro e w2 ⟨rfl, rfl⟩
    clear hN
    go_wp2
    exact ⟨⟨k + 1, by omega, congrArg _ (by omega), by rw [HS.out], hB.alloc hB.size _⟩, by simp [intOf]; omega⟩
  · obtain rfl : k = K := by omega
    have hnl : ¬ 8 * (k : Int) < (k : Int) * 8 := by omega
    go_wp2
    go_ret
    rw [← HP.out]
    exact ⟨rfl, hB1.trans (hB.mono hB1.size)⟩
theorem qmv (v : Value) (L : List Bool) (B : Nat) (w : World) (hO : OB w B v L) (hL : L.length ≤ 90000) :
    Calls Tryz.prog 19 #[v] w fun e w' => e = .returned (.string (qb8 L)) ∧ Below w.heap.size w w' := qj9 v L w hO.ow hL
theorem qc4 (v : Value) (L : List Bool) (B x n : Nat) (w : World) (hO : OB w B v L) (hL : L.length ≤ 100000) (hx : x < 4294967296) (hn : n ≤ 32) :
    Calls Tryz.prog 18 #[v, .int .u32 (x : Int), .int .i64 (n : Int), .bool false] w fun e w' => ∃ v', e = .returned v' ∧ OB w' w.heap.size v' (L ++ lowB x n) ∧ Below w.heap.size w w' := by
 obtain ⟨i0, hi, hz0, hz1, hz2⟩ := info_parts Tryz.infoBo
 obtain ⟨g, cap, rfl, ho⟩ := hO
 have hO : OB w B (.slice (some ⟨g, 0, none⟩) L.length cap) L := ⟨g, cap, rfl, ho⟩
 have HN : Hid (∀ j u, (cbs L)[j]? = some u → (w.alloc (.cells #[] 4)).cell? ((⟨g, 0, none⟩ : Addr).add j) = some u) := fun j u hu => by
  have hj : j < L.length := by have := (List.getElem?_eq_some_iff.1 hu).1; rwa [qfm] at this
  rw [Addr.add_lit, Nat.zero_add, World.cell?_alloc_lt _ _ _ hO.lt.2, hO.cell j hj, ← qsd _ _ hj]; exact hu
 have HL : Hid ((cbs L).length = L.length * 1) := by unfold Hid; rw [qfm, Nat.mul_one]
 have H1 : Hid (∀ u ∈ cbs L, u.oneCell' = true) := qxa L
 clear ho hO
 generalize hLN : L.length = N at *
 go_enter Tryz.func18, Tryz.ntmps18
 go_wp2_with (at_builtin; refine wpList_append_own _ rfl _ _ 55 rfl w.heap.size 4 i0 (.bool false) 1 1 Tryz.underlying55 hi hz0 hz1 hz2 rfl (by decide) _ 0 [] rfl (World.ownsRow_made _ _ _ (Nat.le_refl _) (by decide) rfl) ⟨g, 0, none⟩ N cap (cbs L) rfl HL.out HN.out H1.out ?c3 ?c4 ?c5 ?_)
 case c3 => unfold maxLen; omega
 case c4 => omega
 case c5 => simp
 intro v1 w1 hown1 hgrow1 hne1
 obtain ⟨hO1, hB1⟩ := q1a hown1 hgrow1 hne1
 clear hown1 hgrow1 hne1 HN HL H1
 go_wp2
 go_loopw [9, 10] (fun v i wr => ∃ k : Nat, k ≤ n ∧ i = .int .i64 (k : Int) ∧ OB wr w.heap.size v (L ++ lowB x k) ∧ Below w.heap.size w wr) (fun _ i _ => n - (intOf i).toNat)
 case atStart => exact ⟨0, by omega, rfl, by simpa [lowB] using hO1, hB1⟩
 case round =>
  clear hO1 hB1
  obtain ⟨k, hk, rfl, hO, hB⟩ := hrel
  by_cases hlt : k < n
  · have hLl : (L ++ lowB x k).length = N + k := by rw [List.length_append, qat, hLN]
    obtain ⟨g2, cap2, rfl, ho2⟩ := hO
    rw [hLl] at ho2
    have HS : Hid (_ = _) := qnh x k
    have HV : Hid (_ = _) := q4w x k
    have hBs := hB.size
    rw [hLl]
    go_wp2_with (at_builtin; refine wpList_append_own _ rfl _ _ 55 rfl w.heap.size 4 i0 (.bool false) 1 1 Tryz.underlying55 hi hz0 hz1 hz2 rfl (by decide) _ _ _ rfl (ho2.alloc _) ⟨wr.heap.size, 0, none⟩ 1 1 [.bool (((x : Int) / 2 ^ k).tmod 2 == 1)] rfl rfl (cell_one_new _ _ _) ?c2 ?c3 ?c4 ?c5 ?_)
    case c2 => first | rfl | (intro u hu; simp at hu; subst hu; rfl)
    case c3 => unfold maxLen; omega
    case c4 => omega
    case c5 => simp; omega
    intro v' w2 hown' hgrow' hne'
    rw [HV.out] at hown'
    obtain ⟨hO2, hB2⟩ := OB.push hBs hB ho2 _ hown' hgrow' hne'
    clear hown' hgrow' hne' ho2 hB
    go_wp2
    go_roundw
    case rel => exact ⟨k + 1, by omega, by go_num, by rw [HS.out, ← List.append_assoc]; exact hO2, hB2⟩
    case measure => simp [intOf]; omega
  · obtain rfl : k = n := by omega
    go_wp2
    go_ret
    exact ⟨_, rfl, hO, hB⟩
end Go.Proofs.YthkppipdflmekaaGreat
