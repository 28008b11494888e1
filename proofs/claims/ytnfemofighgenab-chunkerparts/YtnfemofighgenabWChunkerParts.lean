/- The walk of ChunkerParts. -/
import Derived.Test.YtnfemofighgenabCnfA
import Derived.Test.YtnfemofighgenabChkU
import Derived.Test.YtnfemofighgenabArgs
namespace Go.Proofs.Ytnfemofighgenab
open Go.RowKit
set_option linter.unusedVariables false

/-- The first k parts, each cut to 300 bytes, behind one another. -/
def partsT (ss : List ByteArray) (k : Nat) : List UInt8 := ((List.range k).map fun j => ((strAt ss j).extract 0 300).data.toList).flatten
theorem partsT_zero (ss : List ByteArray) : partsT ss 0 = [] := rfl
theorem partsT_succ (ss : List ByteArray) (k : Nat) : partsT ss (k + 1) = partsT ss k ++ ((strAt ss k).extract 0 300).data.toList := by
  unfold partsT
  rw [List.range_succ, List.map_append, List.flatten_append]; simp
theorem partsT_len (ss : List ByteArray) : ∀ k, (partsT ss k).length ≤ 300 * k
  | 0 => by simp [partsT_zero]
  | k + 1 => by
    have := partsT_len ss k
    have h2 := few_size (strAt ss k) 300
    rw [partsT_succ, List.length_append, size_toList]; omega
theorem spl_len3 (mn bt mx : Nat) (s : List UInt8) : (spl mn bt mx s).length ≤ s.length + 1 := by
  unfold spl
  rw [List.length_append]
  have := ckW_len mn bt mx s [] []
  have := lastC_len (ckW mn bt mx [] [] s).2
  omega
theorem CnfAt.kept {w w' : World} {g : Nat} {mn bt mx : Int} {row : Option Nat} (h : CnfAt w g mn bt mx) (hg : w.grownBy w' row) (hne : some g ≠ row) : CnfAt w' g mn bt mx := (hg.block g h.lt hne).trans h
set_option maxRecDepth 100000 in
set_option maxHeartbeats 4000000 in
theorem lawChunkerParts_walk (a : Option Addr) (len cap : Nat) (ss : List ByteArray) (mn bt mx : Int) (w : World) (hr : IsStrs w a len cap ss) (hcf : (-9223372036854775808 ≤ mn ∧ mn ≤ 9223372036854775807) ∧ (-9223372036854775808 ≤ bt ∧ bt ≤ 9223372036854775807) ∧ (-9223372036854775808 ≤ mx ∧ mx ≤ 9223372036854775807)) :
    Calls Try.prog 3 #[.slice a len cap, .agg #[.int .i64 mn, .int .i64 bt, .int .i64 mx]] w fun e w' => e = .returned (.bool true) ∧ Below w.heap.size w w' := by
  have hlen := strs_len hr
  have HR : Hid _ := hr
  clear hr
  have hN := CnfAt.new w mn bt mx
  have hB0 : Below w.heap.size w (w.alloc (.cells #[.int .i64 mn, .int .i64 bt, .int .i64 mx] 24)) := (Below.refl _ w).alloc (Nat.le_refl _) _
  have hWs : (w.alloc (.cells #[.int .i64 mn, .int .i64 bt, .int .i64 mx] 24)).heap.size = w.heap.size + 1 := by simp
  go_enter Try.func3, Try.ntmps3
  go_wp2_with fail
  generalize w.alloc (.cells #[.int .i64 mn, .int .i64 bt, .int .i64 mx] 24) = W at *
  by_cases he : errC mn bt mx = 0
  · obtain ⟨e1, e2, e3, e4, e5⟩ := errC_zero he
    obtain ⟨mn, rfl⟩ := Int.eq_ofNat_of_zero_le (show 0 ≤ mn by omega)
    obtain ⟨bt, rfl⟩ := Int.eq_ofNat_of_zero_le e3
    obtain ⟨mx, rfl⟩ := Int.eq_ofNat_of_zero_le (show 0 ≤ mx by omega)
    have HEC : Hid _ := he
    refine (new_good mn bt mx _ he).mono ?_
    rintro e w1 ⟨g, rfl, hC1, hg1, hb1⟩
    have hN1 := hN.below hb1
    have hB1 := hB0.trans (hb1.mono hB0.size)
    have hgW : w.heap.size < g := by omega
    have hg1' := hC1.lt
    clear hN hb1 hg1 hB0 hcf he
    go_wp2
    have hO2 : OS (w1.alloc (.cells #[] 9)) w1.heap.size (.slice (some ⟨w1.heap.size, 0, none⟩) 0 0) [] := World.ownsRow_made _ _ _ (Nat.le_refl _) (by decide) rfl
    have hN2 : CnfAt (w1.alloc (.cells #[] 9)) w.heap.size mn bt mx := hN1.below ((Below.refl _ w1).alloc (Nat.le_refl _) _)
    have hC2 : CK (w1.alloc (.cells #[] 9)) g mn bt mx [] [] false := hC1.kept (row := none) (World.grownBy_alloc w1 _ none) (by simp)
    have hB2 : Below w.heap.size w (w1.alloc (.cells #[] 9)) := hB1.alloc hB1.size _
    have hs2 : w1.heap.size ≤ (w1.alloc (.cells #[] 9)).heap.size := by simp
    generalize w1.alloc (.cells #[] 9) = W2 at *
    have hB1s := hB1.size
    generalize w1.heap.size = B at *
    clear hN1 hC1 hB1
    go_loopw [7, 8, 9] (fun x v i wr => ∃ k : Nat, k ≤ len ∧ k ≤ 20 ∧ i = .int .i64 (k : Int) ∧ x = .string (bsU (partsT ss k)) ∧ OS wr B v (ckW mn bt mx [] [] (partsT ss k)).1 ∧ CK wr g mn bt mx (partsT ss k) (ckW mn bt mx [] [] (partsT ss k)).2 false ∧ CnfAt wr w.heap.size mn bt mx ∧ Below w.heap.size w wr ∧ B ≤ wr.heap.size) (fun _ _ i _ => 20 - (intOf i).toNat)
    case atStart => exact ⟨0, by omega, by omega, rfl, rfl, hO2, hC2, hN2, hB2, hs2⟩
    case round =>
      clear hO2 hC2 hN2 hB2 hs2
      obtain ⟨k, hk, hk20, rfl, rfl, hO, hC, hN, hB, hBs⟩ := hrel
      have hPL := partsT_len ss k
      have HL := ckW_left mn bt mx (by omega) (partsT ss k) [] [] (by simp; omega)
      have HLn := ckW_len mn bt mx (partsT ss k) [] []
      have hXs := bsU_size (partsT ss k)
      have hcl := hC.lt
      by_cases hgo : k < len ∧ k < 20
      · obtain ⟨hk1, hk2⟩ := hgo
        have d1 : decide ((k : Int) < (len : Int)) = true := by rw [decide_eq_true_iff]; omega
        have d1n : decide (k < len) = true := decide_eq_true hk1
        have d2 : decide ((k : Int) < 20) = true := by rw [decide_eq_true_iff]; omega
        obtain ⟨b, off, rfl, hcell, hb, hsz⟩ := strs_at HR.out hk1
        have hcell := bel_cell hB hb hcell
        have hki : (k : Int) < (len : Int) := by omega
        have HPS : Hid (_ = _) := partsT_succ ss k
        have HAP : Hid (_ = _) := ckW_append mn bt mx (partsT ss k) [] [] ((strAt ss k).extract 0 300).data.toList
        have hfs := few_size (strAt ss k) 300
        have HXA : Hid (bsU (partsT ss (k + 1)) = bsU (partsT ss k) ++ (strAt ss k).extract 0 300) := by
          unfold Hid
          rw [partsT_succ, ← bsU_append, bsU_self]
        generalize hST : strAt ss k = ST at *
        go_wp2_with fail
        refine (few_any ST 300 _ (by decide) hsz).mono ?_
        rintro e w0 ⟨rfl, rfl⟩
        rw [show (300 : Int).toNat = 300 from rfl]
        generalize ST.extract 0 300 = X at *
        have hXn := ckW_len mn bt mx X.data.toList (partsT ss k) (ckW mn bt mx [] [] (partsT ss k)).2
        rw [size_toList] at hXn
        go_wp2_with fail
        refine (write_any g mn bt mx (partsT ss k) (ckW mn bt mx [] [] (partsT ss k)).2 X _ hC HL (by omega) (by omega) (by omega) (by omega) (by omega)).mono ?_
        rintro e w3 ⟨u, rfl, hU3, hC3, hG3⟩
        have hO3 := hO.kept hG3 (fun e => by have := hO.lt g e; omega)
        have hN3 := hN.kept hG3 (by intro e; cases e; omega)
        have hB3 := grown_below hB hG3 hB.size (by omega)
        have hB3s : B ≤ w3.heap.size := Nat.le_trans hBs hG3.size
        rw [List.nil_append] at HAP
        rw [← HPS.out] at HAP hC3
        clear hO hC hN hG3
        obtain ⟨au, cu, rfl⟩ := hU3.shape
        have hown := hO3
        generalize (ckW mn bt mx [] [] (partsT ss k)).1 = CH at *
        generalize (ckW mn bt mx [] [] (partsT ss k)).2 = PD at *
        go_wp2_with (at_builtin; refine append_os rfl _ _ rfl B _ _ _ _ _ rfl rfl hO3 hU3 (by omega) hB3s ?_)
        intro v' w4 hO4 hg4
        have hC4 := hC3.kept hg4 (fun e => by have := hO3.lt g e.symm; omega)
        have hN4 := hN3.kept hg4 (fun e => by have := hO3.lt _ e.symm; omega)
        have hB4 : Below w.heap.size w w4 := hB3.grown hg4 hB3.size (fun j hj => by have := hO3.lt j hj; omega)
        have hB4s : B ≤ w4.heap.size := Nat.le_trans hB3s hg4.size
        have hO4 : OS w4 B v' (ckW mn bt mx [] [] (partsT ss (k + 1))).1 := by rw [HAP.out]; exact hO4
        have hC4 : CK w4 g mn bt mx (partsT ss (k + 1)) (ckW mn bt mx [] [] (partsT ss (k + 1))).2 false := by rw [HAP.out]; exact hC4
        clear hg4 hO3 hC3 hN3 hB3 hU3 hown
        generalize bsU (partsT ss k) = Y at *
        go_wp2
        go_roundw
        case rel => exact ⟨k + 1, by omega, by omega, by go_num, by rw [HXA.out], hO4, hC4, hN4, hB4, hB4s⟩
        case measure => simp [intOf]; omega
      · by_cases h1 : k < len
        · have d1 : decide ((k : Int) < (len : Int)) = true := by rw [decide_eq_true_iff]; omega
          have d1n : decide (k < len) = true := decide_eq_true h1
          have d2 : decide ((k : Int) < 20) = false := by rw [decide_eq_false_iff_not]; omega
          have d2n : decide (k < 20) = false := by rw [decide_eq_false_iff_not]; omega
          clear hgo
          go_wp2_with fail
          refine (close_any g mn bt mx _ _ false _ hC (by omega)).mono ?_
          rintro e w3 ⟨u, rfl, hU3, hC3, hG3⟩
          have hO3 := hO.kept hG3 (fun e => by have := hO.lt g e; omega)
          have hN3 := hN.kept hG3 (by intro e; cases e; omega)
          have hB3 := grown_below hB hG3 hB.size (by omega)
          have hB3s : B ≤ w3.heap.size := Nat.le_trans hBs hG3.size
          have hlc := lastC_len (ckW mn bt mx [] [] (partsT ss k)).2
          obtain ⟨au, cu, rfl⟩ := hU3.shape
          clear hO hC hN hG3 hB
          go_wp2_with (at_builtin; refine append_os rfl _ _ rfl B _ _ _ _ _ rfl rfl hO3 hU3 (by omega) hB3s ?_)
          intro v' w4 hO4 hg4
          have hC4 := hC3.kept hg4 (fun e => by have := hO3.lt g e.symm; omega)
          have hN4 := hN3.kept hg4 (fun e => by have := hO3.lt _ e.symm; omega)
          have hB4 : Below w.heap.size w w4 := hB3.grown hg4 hB3.size (fun j hj => by have := hO3.lt j hj; omega)
          have hB4s : B ≤ w4.heap.size := Nat.le_trans hB3s hg4.size
          have hO4 : OS w4 B v' (spl mn bt mx (partsT ss k)) := hO4
          clear hg4 hO3 hC3 hN3 hB3 hU3
          obtain ⟨c0, c1, c2⟩ := hN4.cells
          have hSL := spl_len3 mn bt mx (partsT ss k)
          go_wp2_with fail
          refine (split_good (bsU (partsT ss k)) mn bt mx _ HEC.out (by omega)).mono ?_
          rintro e w5 ⟨v5, rfl, hO5, hb5⟩
          rw [bsU_data] at hO5
          have hO45 := hO4.below hb5
          have hC5 := hC4.kept (gbelow (row := none) hb5) (by simp)
          have hB5 := hB4.trans (hb5.mono hB4.size)
          have hB5s : B ≤ w5.heap.size := Nat.le_trans hB4s hb5.size
          have hO5 := hO5.mono hB4s
          clear hO4 hC4 hN4 hb5 c0 c1 c2
          generalize spl mn bt mx (partsT ss k) = SP at *
          generalize bsU (partsT ss k) = Y at *
          generalize (ckW mn bt mx [] [] (partsT ss k)).1 = CH at *
          generalize (ckW mn bt mx [] [] (partsT ss k)).2 = PD at *
          generalize partsT ss k = PT at *
          go_wp2_with fail
          refine (write_closed g mn bt mx _ _ _ _ hC5).mono ?_
          rintro e w6 ⟨rfl, rfl⟩
          go_wp2_with fail
          refine (close_any g mn bt mx _ _ true _ hC5 (by simp)).mono ?_
          rintro e w7 ⟨u7, rfl, hU7, hC7, hG7⟩
          have hO47 := hO45.kept hG7 (fun e => by have := hO45.lt g e; omega)
          have hO57 := hO5.kept hG7 (fun e => by have := hO5.lt g e; omega)
          have hB7 := grown_below hB5 hG7 hB5.size (by omega)
          have hB7s : B ≤ w7.heap.size := Nat.le_trans hB5s hG7.size
          obtain ⟨a7, c7, rfl⟩ := hU7.shape
          have hO0 : OS w7 B (.slice none 0 0) [] := World.ownsRow_nil _ _ _ _
          rw [show lastC ([] : List UInt8) = [] from rfl] at *
          clear hO45 hO5 hB5 hC7 hG7 hC5
          go_wp2_with (at_builtin; refine append_os rfl _ _ rfl B _ _ _ _ _ rfl rfl hO0 hU7 (by simp) hB7s ?_)
          intro v8 w8 hO8 hg8
          have hb8 : Below w7.heap.size w7 w8 := ⟨hg8.os, hg8.tape, hg8.output, hg8.size, fun j hj => hg8.block j hj (by simp [Value.ownBlock])⟩
          have hO48 := hO47.below hb8
          have hO58 := hO57.below hb8
          have hB8 := hB7.trans (hb8.mono hB7.size)
          obtain ⟨a8, c8, rfl⟩ := hO8.shape
          clear hO47 hO57 hB7 hO0 hU7 hg8 hb8 hO8
          go_wp2_with fail
          refine (awake10_any _).mono ?_
          rintro e w9 ⟨rfl, hb9⟩
          have hO48 := hO48.below hb9
          have hO58 := hO58.below hb9
          have hB9 := hB8.trans (hb9.mono hB8.size)
          go_wp2_with fail
          refine (same_any _ _ SP SP _ hO48.rs hO58.rs (by omega) (by omega)).mono ?_
          rintro e w10 ⟨rfl, n, rfl⟩
          have hB10 := below_drewN hB9 n
          rw [show sameN SP SP = 0 from if_pos rfl]
          clear hO48 hO58
          go_wp2
          go_ret
          exact ⟨rfl, hB10⟩
        · have d1 : decide ((k : Int) < (len : Int)) = false := by rw [decide_eq_false_iff_not]; omega
          have d1n : decide (k < len) = false := decide_eq_false h1
          clear hgo
          go_wp2_with fail
          refine (close_any g mn bt mx _ _ false _ hC (by omega)).mono ?_
          rintro e w3 ⟨u, rfl, hU3, hC3, hG3⟩
          have hO3 := hO.kept hG3 (fun e => by have := hO.lt g e; omega)
          have hN3 := hN.kept hG3 (by intro e; cases e; omega)
          have hB3 := grown_below hB hG3 hB.size (by omega)
          have hB3s : B ≤ w3.heap.size := Nat.le_trans hBs hG3.size
          have hlc := lastC_len (ckW mn bt mx [] [] (partsT ss k)).2
          obtain ⟨au, cu, rfl⟩ := hU3.shape
          clear hO hC hN hG3 hB
          go_wp2_with (at_builtin; refine append_os rfl _ _ rfl B _ _ _ _ _ rfl rfl hO3 hU3 (by omega) hB3s ?_)
          intro v' w4 hO4 hg4
          have hC4 := hC3.kept hg4 (fun e => by have := hO3.lt g e.symm; omega)
          have hN4 := hN3.kept hg4 (fun e => by have := hO3.lt _ e.symm; omega)
          have hB4 : Below w.heap.size w w4 := hB3.grown hg4 hB3.size (fun j hj => by have := hO3.lt j hj; omega)
          have hB4s : B ≤ w4.heap.size := Nat.le_trans hB3s hg4.size
          have hO4 : OS w4 B v' (spl mn bt mx (partsT ss k)) := hO4
          clear hg4 hO3 hC3 hN3 hB3 hU3
          obtain ⟨c0, c1, c2⟩ := hN4.cells
          have hSL := spl_len3 mn bt mx (partsT ss k)
          go_wp2_with fail
          refine (split_good (bsU (partsT ss k)) mn bt mx _ HEC.out (by omega)).mono ?_
          rintro e w5 ⟨v5, rfl, hO5, hb5⟩
          rw [bsU_data] at hO5
          have hO45 := hO4.below hb5
          have hC5 := hC4.kept (gbelow (row := none) hb5) (by simp)
          have hB5 := hB4.trans (hb5.mono hB4.size)
          have hB5s : B ≤ w5.heap.size := Nat.le_trans hB4s hb5.size
          have hO5 := hO5.mono hB4s
          clear hO4 hC4 hN4 hb5 c0 c1 c2
          generalize spl mn bt mx (partsT ss k) = SP at *
          generalize bsU (partsT ss k) = Y at *
          generalize (ckW mn bt mx [] [] (partsT ss k)).1 = CH at *
          generalize (ckW mn bt mx [] [] (partsT ss k)).2 = PD at *
          generalize partsT ss k = PT at *
          go_wp2_with fail
          refine (write_closed g mn bt mx _ _ _ _ hC5).mono ?_
          rintro e w6 ⟨rfl, rfl⟩
          go_wp2_with fail
          refine (close_any g mn bt mx _ _ true _ hC5 (by simp)).mono ?_
          rintro e w7 ⟨u7, rfl, hU7, hC7, hG7⟩
          have hO47 := hO45.kept hG7 (fun e => by have := hO45.lt g e; omega)
          have hO57 := hO5.kept hG7 (fun e => by have := hO5.lt g e; omega)
          have hB7 := grown_below hB5 hG7 hB5.size (by omega)
          have hB7s : B ≤ w7.heap.size := Nat.le_trans hB5s hG7.size
          obtain ⟨a7, c7, rfl⟩ := hU7.shape
          have hO0 : OS w7 B (.slice none 0 0) [] := World.ownsRow_nil _ _ _ _
          rw [show lastC ([] : List UInt8) = [] from rfl] at *
          clear hO45 hO5 hB5 hC7 hG7 hC5
          go_wp2_with (at_builtin; refine append_os rfl _ _ rfl B _ _ _ _ _ rfl rfl hO0 hU7 (by simp) hB7s ?_)
          intro v8 w8 hO8 hg8
          have hb8 : Below w7.heap.size w7 w8 := ⟨hg8.os, hg8.tape, hg8.output, hg8.size, fun j hj => hg8.block j hj (by simp [Value.ownBlock])⟩
          have hO48 := hO47.below hb8
          have hO58 := hO57.below hb8
          have hB8 := hB7.trans (hb8.mono hB7.size)
          obtain ⟨a8, c8, rfl⟩ := hO8.shape
          clear hO47 hO57 hB7 hO0 hU7 hg8 hb8 hO8
          go_wp2_with fail
          refine (awake10_any _).mono ?_
          rintro e w9 ⟨rfl, hb9⟩
          have hO48 := hO48.below hb9
          have hO58 := hO58.below hb9
          have hB9 := hB8.trans (hb9.mono hB8.size)
          go_wp2_with fail
          refine (same_any _ _ SP SP _ hO48.rs hO58.rs (by omega) (by omega)).mono ?_
          rintro e w10 ⟨rfl, n, rfl⟩
          have hB10 := below_drewN hB9 n
          rw [show sameN SP SP = 0 from if_pos rfl]
          clear hO48 hO58
          go_wp2
          go_ret
          exact ⟨rfl, hB10⟩
  · have hn : (((errC mn bt mx : Nat) : Int) == 0) = false := by rw [beq_eq_false_iff_ne]; omega
    have hn2 : (((errC mn bt mx : Nat) : Int) != 0) = true := by rw [bne, hn]; rfl
    have HE : Hid _ := he
    clear he
    refine (new_bad mn bt mx _ HE.out).mono ?_
    rintro e w1 ⟨rfl, hb1⟩
    have hB1 := hB0.trans (hb1.mono hB0.size)
    generalize errC mn bt mx = E at *
    go_wp2_with fail
    refine (awake10_any _).mono ?_
    rintro e w2 ⟨rfl, hb2⟩
    have hB2 := hB1.trans (hb2.mono hB1.size)
    go_wp2
    go_ret
    exact ⟨rfl, hB2⟩
end Go.Proofs.Ytnfemofighgenab
