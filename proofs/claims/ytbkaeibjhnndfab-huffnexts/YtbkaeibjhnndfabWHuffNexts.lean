/- HuffNexts: the walk. -/
import Derived.Test.YtbkaeibjhnndfabRefX
import Derived.Test.YtbkaeibjhnndfabAwake4
import Derived.Test.YtbkaeibjhnndfabFew
namespace Go.Proofs.Ytbkaeibjhnndfab
open Go.RowKit
set_option linter.unusedVariables false
set_option linter.unusedSimpArgs false

theorem Planted.keptBy {w w' : World} {B gt k gx p : Nat} {ns : List Nat} {s : ByteArray} (h : Planted w B gt ns k) (hS : SrcAt w gx s p) (hg : w.grownBy w' (some gx)) : Planted w' B gt ns k := by
  obtain ⟨n, br, path, h1, h2, ⟨gb, cap, hM⟩, h4⟩ := h
  refine ⟨n, br, path, h1, h2, ⟨gb, cap, hM.keptBy hg ?_ (hM.ne hS (by decide))⟩, h4⟩
  rintro rfl
  have h1 := hM.top
  unfold SrcAt at hS
  rw [hS] at h1
  simp only [Option.some.injEq, Obj.cells.injEq] at h1
  exact absurd h1.2.1 (by decide)
theorem UR.kept {w w' : World} {v : Value} {n : Nat} {c : Nat → Nat} {row : Option Nat} (h : UR w v n c) (hg : w.grownBy w' row) (hne : v.ownBlock ≠ row) : UR w' v n c := by
  obtain ⟨g, cap, rfl, hgl, hc⟩ := h
  exact ⟨g, cap, rfl, Nat.lt_of_lt_of_le hgl hg.size, fun i hi => hg.cell (hc i hi) (by simpa [Value.ownBlock] using hne)⟩
set_option maxRecDepth 100000 in
set_option maxHeartbeats 4000000 in
theorem lawHuffNexts_walk (a : Option Addr) (len cap : Nat) (zs : List Int) (s : ByteArray) (w : World) (hR : IsRow .i64 w a len cap zs) (hs : s.size ≤ 140737488351232) :
    Calls Try.prog 3 #[.slice a len cap, .string s] w fun e w' => e = .returned (.bool true) ∧ Below w.heap.size w w' := by
  have hfl : (fewZ len zs).length ≤ 400 := by unfold fewZ; rw [List.length_take]; omega
  have HFW := few4_any a len cap zs w hR
  have h10 : (s.extract 0 10).size ≤ 10 := by rw [few_size]; omega
  have HF10 : Hid (∀ W, Calls Try.prog 11 #[.string s, .int .i64 10] W fun e w' => e = .returned (.string (s.extract 0 10)) ∧ w' = W) := fun W => few_any s 10 W (by decide) (by omega)
  clear hR hs
  generalize fewZ len zs = ys at *
  generalize s.extract 0 10 = t at *
  go_enter Try.func3, Try.ntmps3
  go_wp2_with fail
  refine HFW.mono ?_
  rintro e w1 ⟨v1, rfl, hI, hB1⟩
  have hRF := rfit_any v1 ys w1 hI hfl
  by_cases he : errN ys = 0
  · obtain ⟨h320, h15, hfit⟩ := errN_zero he
    have hA15 := h15.all
    rw [he] at hRF
    go_wp2_with fail
    refine hRF.mono ?_
    rintro e w1' ⟨rfl, rfl⟩
    go_wp2_with fail
    refine (HF10.out _).mono ?_
    rintro e w1'' ⟨rfl, rfl⟩
    go_wp2_with fail
    refine (plant_ok v1 ys _ hI he).mono ?_
    rintro e w2 ⟨B, hBl, rfl, hP2, hb2⟩
    have hB2 := hB1.trans (hb2.mono hB1.size)
    go_wp2_with fail
    refine (srcOf_any t _).mono ?_
    rintro e w3 ⟨gx, rfl, hX3, hgx, hb3⟩
    have hB3 := hB2.trans (hb3.mono hB2.size)
    go_wp2_with fail
    refine (awake4_any _).mono ?_
    rintro e w4 ⟨rfl, hb4⟩
    have hB4 := hB3.trans (hb4.mono hB3.size)
    go_wp2_with fail
    refine (row_any t _ (by omega)).mono ?_
    rintro e w5 ⟨v5, rfl, hO5, hb5⟩
    have hB5 := hB4.trans (hb5.mono hB4.size)
    have hI5 := (((hI.below hb2).below hb3).below hb4).below hb5
    go_wp2_with fail
    refine (table4_any v1 ys _ hI5 h320 h15).mono ?_
    rintro e w6 ⟨v6, rfl, hU6, hb6, hlo6⟩
    have hB6 := hB5.trans (hb6.mono hB5.size)
    have hI6 := hI5.below hb6
    have hO6 := hO5.below hb6
    have hX4 := hX3.below hb4
    have hX6 := ((hX3.below hb4).below hb5).below hb6
    have hP6 := (((hP2.kept hb3).kept hb4).kept hb5).kept hb6
    have hx3 : gx < w3.heap.size := hX3.lt
    have hx4 : gx < w4.heap.size := hX4.lt
    have hx5 : gx < w5.heap.size := Nat.lt_of_lt_of_le hx4 hb5.size
    have hgx1 := Nat.le_trans hb2.size hgx
    have n1 : v1.ownBlock ≠ some gx := by
      obtain ⟨g, c, rfl, hg, _⟩ := hI
      intro e; simp [Value.ownBlock] at e; omega
    have n5 : v5.ownBlock ≠ some gx := by
      obtain ⟨g, c, rfl, ho⟩ := hO5
      intro e; have := (ho.lt gx e).1; omega
    have n6 : v6.ownBlock ≠ some gx := fun e => by have := hlo6 gx e; omega
    have HI6 : Hid (IR w6 v1 ys) := hI6
    have HO6 : Hid (OB w6 w4.heap.size v5 (rowOf t.data.toList)) := hO6
    have HU6 : Hid (UR w6 v6 ys.length (cdOf (toN ys))) := hU6
    have HX6 : Hid (SrcAt w6 gx t 0) := hX6
    have HP6 : Hid (Planted w6 B (B + 1) (toN ys) ys.length) := hP6
    have HB6 : Hid (Below w.heap.size w w6) := hB6
    have HE : Hid (errN ys = 0) := he
    have HA15 : Hid (all15 (toN ys)) := hA15
    have hgw : w.heap.size ≤ gx := Nat.le_trans hB1.size hgx1
    have hLl : (rowOf t.data.toList).length = 8 * t.size := by rw [rowOf_len, size_toList]
    clear hlo6 hI hI5 hI6 hO5 hO6 hU6 hX3 hX4 hX6 hP2 hP6 hB1 hB2 hB3 hB4 hB5 hB6 hb2 hb3 hb4 hb5 hb6 hRF HFW he hfit h15 hA15 HF10
    go_wp2
    go_loopw [11, 12] (fun q i wr => ∃ k p : Nat, k ≤ p ∧ p ≤ 8 * t.size ∧ q = .int .i64 (p : Int) ∧ i = .int .i64 (k : Int) ∧ SrcAt wr gx t p ∧ w6.grownBy wr (some gx)) (fun _ i _ => 90 - (intOf i).toNat)
    case atStart => exact ⟨0, 0, by omega, by omega, rfl, rfl, HX6.out, grefl _ _⟩
    case round =>
      obtain ⟨k, p, hkp, hp, rfl, rfl, hX, hG⟩ := hrel
      have hk80 : (k : Int) < 90 := by omega
      have hPw := HP6.out.keptBy HX6.out hG
      have hNX := next_any (toN ys) HA15.out (by rw [toN_len]; exact h320) B (B + 1) gx t p wr (by rw [toN_len]; exact hPw) hX (by omega) hp
      have HNX : Hid (Calls _ _ _ _ _) := hNX
      have HG : Hid (w6.grownBy wr (some gx)) := hG
      clear hNX hX hPw hG
      go_wp2_with fail
      refine (Hid.out HNX : Calls _ _ _ _ _).mono ?_
      rintro e w7 ⟨j, y, er, rfl, hN, hX7, hG7⟩
      have hG67 := gtrans HG.out hG7
      have hj := hN.1.1.lt HA15.out
      have hfe : (fun i => sbit t.data.toList (p + i)) = (fun i => (rowOf t.data.toList).getD (p + i) false) := funext fun i => (rowOf_at _ _).symm
      have HN : Hid (NextR (toN ys) (fun i => sbit t.data.toList (p + i)) (8 * t.size - p) j y er) := hN
      rw [hfe, ← hLl] at hN
      have hRN := rnext_any v1 v6 v5 ys (rowOf t.data.toList) w4.heap.size p j y er w7 (HI6.out.kept hG67 n1) (HU6.out.kept hG67 n6) (HO6.out.kept hG67 n5) HE.out (by omega) (by omega) hj hN
      have HX7 : Hid (SrcAt w7 gx t (p + j + 1)) := hX7
      have HG7 : Hid (w6.grownBy w7 (some gx)) := hG67
      have HPL := place_any gx t _ w7 hX7
      have HPL' : Hid (Calls _ _ _ _ _) := HPL
      have HB7 : Hid (Below w.heap.size w w7) := grown_below HB6.out hG67 HB6.out.size hgw
      clear hN hX7 hG7 hG67 hfe HPL HNX
      go_wp2_with fail
      refine hRN.mono ?_
      rintro e w8 ⟨rfl, rfl⟩
      clear hRN
      by_cases h0 : er = 0
      · subst h0
        have hpj : p + j + 1 ≤ 8 * t.size := by
          rcases HN.out.2 with ⟨_, _, h⟩ | ⟨h, _⟩
          · omega
          · omega
        clear HN
        go_wp2_with fail
        refine (Hid.out HPL' : Calls _ _ _ _ _).mono ?_
        rintro e w9 ⟨rfl, rfl⟩
        clear HPL'
        go_wp2
        go_roundw
        case rel => exact ⟨k + 1, p + j + 1, by omega, by omega, by go_num, by go_num, HX7.out, HG7.out⟩
        case measure => simp [intOf]; omega
      · have h0i : (er != 0) = true := by simp [h0]
        clear HN
        go_wp2_with fail
        refine (Hid.out HPL' : Calls _ _ _ _ _).mono ?_
        rintro e w9 ⟨rfl, rfl⟩
        clear HPL'
        go_wp2
        go_ret
        exact ⟨rfl, HB7.out⟩
  · have hei : ((errN ys : Int) != 0) = true := by simp; omega
    generalize errN ys = E at *
    go_wp2_with fail
    refine hRF.mono ?_
    rintro e w2 ⟨rfl, rfl⟩
    go_wp2_with fail
    refine (awake4_any _).mono ?_
    rintro e w5 ⟨rfl, hb5⟩
    have hB5 := hB1.trans (hb5.mono hB1.size)
    clear hB1 hb5 hI hRF
    go_wp2
    go_ret
    exact ⟨rfl, hB5⟩
end Go.Proofs.Ytbkaeibjhnndfab
