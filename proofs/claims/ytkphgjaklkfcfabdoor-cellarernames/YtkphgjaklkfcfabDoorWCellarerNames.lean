/- The walk of CellarerNames. -/
import Derived.Test.YtkphgjaklkfcfabDoorAbc
import Derived.Test.YtkphgjaklkfcfabDoorArgs
import Derived.Test.YtkphgjaklkfcfabDoorFew
import Derived.Test.YtkphgjaklkfcfabDoorVar
import Derived.Test.YtkphgjaklkfcfabDoorUnvar
import Derived.Test.YtkphgjaklkfcfabDoorCrc
import Derived.Test.YtkphgjaklkfcfabDoorNamesM
namespace Go.Proofs.YtkphgjaklkfcfabDoor
open Go.RowKit
attribute [local go_sem ↓] Go.wp_at_zero Go.wp_at_succ
set_option linter.unusedVariables false

theorem few200n (s : ByteArray) (w : World) (hs : s.size ≤ 9223372036854775807) :
    Calls Tryd.prog 6 #[.string s, .int .i64 200] w fun e w' => e = .returned (.string (s.extract 0 200)) ∧ w' = w := few_any s 200 w (by decide) hs
theorem var300 (w : World) : Calls Tryd.prog 16 #[.int .u64 300] w fun e w' => e = .returned (.string (bs [172, 2])) ∧ Below w.heap.size w w' := by
  have h := var_any 300 w (by decide) (by decide)
  rw [show varN (300 : Int).toNat = [172, 2] by rw [show (300 : Int).toNat = 300 by rfl, varN_big (by decide), varN_small (by decide)]] at h
  exact h
theorem unhex_nm (l : List UInt8) (w : World) :
    Calls Tryd.prog 17 #[.string (nameS l)] w fun e w' => e = .returned (.tuple #[.string (shaS l), .bool true]) ∧ Below w.heap.size w w' := by
  have h := unhex_any (nameS l) w (by rw [nameS_size]; omega)
  rw [unhex_nameS, show (unhex (nameS l).data.toList).isSome = true by rw [unhex_name]; rfl] at h
  exact h
theorem is_nm (l : List UInt8) (w : World) :
    Calls Tryd.prog 12 #[.string (nameS l)] w fun e w' => e = .returned (.bool true) ∧ Below w.heap.size w w' := by
  have h := is_any (nameS l) w (by rw [nameS_size]; omega)
  rw [isName_name] at h
  exact h
/-- The k-th text of the list, cut. -/
def tAt (ss : List ByteArray) (k : Nat) : ByteArray := (strAt ss k).extract 0 200
theorem tAt_size (ss : List ByteArray) (k : Nat) : (tAt ss k).size ≤ 200 := by unfold tAt; rw [few_size]; omega
theorem few_tAt (ss : List ByteArray) (k : Nat) (w : World) (hs : (strAt ss k).size ≤ 9223372036854775807) :
    Calls Tryd.prog 6 #[.string (strAt ss k), .int .i64 200] w fun e w' => e = .returned (.string (tAt ss k)) ∧ w' = w := few200n _ w hs
theorem var_of (X : ByteArray) (w : World) (h : X.size ≤ 200) :
    Calls Tryd.prog 16 #[.int .u64 (X.size : Int)] w fun e w' => e = .returned (.string (bs (varN X.size))) ∧ Below w.heap.size w w' := by
  have h := var_any X.size w (by omega) (by omega)
  rw [Int.toNat_natCast] at h
  exact h
theorem put_of (c : Nat) (w : World) (h : c < 4294967296) :
    Calls Tryd.prog 18 #[.int .u64 (c : Int), .int .i64 4] w fun e w' => e = .returned (.string (bs (putN c 4))) ∧ Below w.heap.size w w' := by
  have h := put_any c 4 w (by omega) (by omega) (by omega)
  rw [Int.toNat_natCast] at h
  exact h
/-- The worlds of the law. -/
def NW (w wr : World) : Prop := Roots wr ∧ Below w.heap.size w wr
theorem NW.drew {w wr : World} (h : NW w wr) : NW w wr.drew := ⟨h.1, h.2.drew⟩
/-- And where the j-th text lies. -/
def NC (w : World) (b j : Nat) (s : ByteArray) (wr : World) : Prop := NW w wr ∧ wr.cell? ⟨b, j, none⟩ = some (.string s)
theorem NC.next {w wr w1 : World} {b j : Nat} {s : ByteArray} (h : NC w b j s wr) (hb : Below wr.heap.size wr w1) : NC w b j s w1 :=
  ⟨⟨h.1.1.below hb, h.1.2.trans (hb.mono h.1.2.size)⟩, bel_cell hb (block_lt_of_cell h.2) h.2⟩
theorem NC.drew {w wr : World} {b j : Nat} {s : ByteArray} (h : NC w b j s wr) : NC w b j s wr.drew := ⟨⟨h.1.1, h.1.2.drew⟩, h.2⟩
theorem NC.held {w wr : World} {b j : Nat} {s : ByteArray} (h : NC w b j s wr) : NC w b j s wr ∧ wr.cell? ⟨b, j, none⟩ = some (.string s) := ⟨h, h.2⟩
theorem NC.out {w wr : World} {b j : Nat} {s : ByteArray} (h : NC w b j s wr ∧ wr.cell? ⟨b, j, none⟩ = some (.string s)) : NW w wr := h.1.1
theorem NC.after {w W : World} {b j : Nat} {s : ByteArray} {f : FuncId} {args : Array Value} {v : Value} (h : NC w b j s W)
    (hc : Calls Tryd.prog f args W fun e w' => e = .returned v ∧ Below W.heap.size W w') : Calls Tryd.prog f args W fun e w' => e = .returned v ∧ (NC w b j s w' ∧ w'.cell? ⟨b, j, none⟩ = some (.string s)) :=
  hc.mono fun e w' ⟨h1, h2⟩ => ⟨h1, (h.next h2).held⟩
theorem get4 (s : ByteArray) (c : Nat) (W : World) (hs : s.size = 4) (h : getN (s.data.toList.take 8) = c) : Calls Tryd.prog 21 #[.string s] W fun e w' => e = .returned (.int .u64 (c : Int)) ∧ w' = W := by
  have := get_any s W (by omega)
  rw [h] at this
  exact this
theorem NW.next {w wr w1 : World} (h : NW w wr) (hb : Below wr.heap.size wr w1) : NW w w1 := ⟨h.1.below hb, h.2.trans (hb.mono h.2.size)⟩

set_option maxRecDepth 100000 in
set_option maxHeartbeats 8000000 in
theorem lawCellarerNames_walk (a : Option Addr) (len cap : Nat) (ss : List ByteArray) (w : World) (hr : IsStrs w a len cap ss) (hR : Roots w) :
    Calls Tryd.prog 5 #[.slice a len cap] w fun e w' => e = .returned (.bool true) ∧ Below w.heap.size w w' := by
  have hl := strs_len hr
  have HR : Hid (IsStrs w a len cap ss) := hr
  have H0 : Hid (NW w w) := ⟨hR, Below.refl _ _⟩
  have HF : Hid (∀ n j, (catS (fun k => recS (tAt ss k)) j n).size ≤ 246 * n) := fun n j => catS_size _ (fun k => recS_size _ (tAt_size ss k)) n j
  clear hr hR
  go_enter Tryd.func5, Tryd.ntmps5
  go_wp2_with fail
  refine (name_abc _ H0.out.1).mono ?_
  rintro e w1 ⟨rfl, hb⟩
  have H1 : Hid (NW w w1) := H0.out.next hb
  clear hb H0
  go_wp2_with fail
  refine (var300 _).mono ?_
  rintro e w2 ⟨rfl, hb⟩
  have H2 : Hid (NW w w2) := H1.out.next hb
  clear hb H1
  have e2 : bs [172, 2] = ⟨#[172, 2]⟩ := by decide +kernel
  rw [e2]
  clear e2
  go_wp2_with fail
  go_loopw [3, 4] (fun v i wr => ∃ (k : Nat), k ≤ len ∧ k ≤ 12 ∧ i = .int .i64 (k : Int) ∧ v = .string (catS (fun k => recS (tAt ss k)) 0 k) ∧ NW w wr) (fun _ i _ => 12 - (intOf i).toNat)
  case atStart => exact ⟨0, by omega, by omega, rfl, rfl, H2.out⟩
  case round =>
    clear H2
    obtain ⟨k, hk, hk12, rfl, rfl, hP⟩ := hrel
    have HP : Hid (NW w wr) := hP
    clear hP
    by_cases hlt : k < len ∧ k < 12
    · obtain ⟨hlt, h12⟩ := hlt
      obtain ⟨b, off, rfl, hc, hb, hs⟩ := strs_at HR.out hlt
      have hc' := bel_cell HP.out.2 hb hc
      have hx := tAt_size ss k
      clear hc
      go_wp2_with fail
      refine (few_tAt ss k _ hs).mono ?_
      rintro e w3 ⟨rfl, rfl⟩
      have HC : Hid (catS (fun k => recS (tAt ss k)) 0 k ++ recS (tAt ss k) = catS (fun k => recS (tAt ss k)) 0 (k + 1)) := by
        have := catS_snoc (fun k => recS (tAt ss k)) k 0
        rw [Nat.zero_add] at this
        exact this
      have HE : Hid (recS (tAt ss k) = bs (varN (tAt ss k).size) ++ tAt ss k ++ shaS (tAt ss k).data.toList ++ bs (putN (crcV 0 (tAt ss k).data.toList) 4)) := rfl
      have hsz := HF.out k 0
      generalize catS (fun k => recS (tAt ss k)) 0 k = A at *
      generalize tAt ss k = X at *
      have hcr := crcV_lt 0 X.data.toList
      have sV := bs_size2 (varN X.size)
      have sV2 : (varN X.size).length ≤ 10 := varN_len64 (by omega)
      have sP : (bs (putN (crcV 0 X.data.toList) 4)).size = 4 := by rw [bs_size2, putN_len]
      have sS := shaS_size X.data.toList
      rw [← sV] at sV2
      clear sV
      clear hc' hs hb
      go_wp2_with fail
      refine (name_any X _ (by omega) HP.out.1).mono ?_
      rintro e w4 ⟨rfl, hb⟩
      have H4 : Hid (NW w w4) := HP.out.next hb
      clear hb HP
      go_wp2_with fail
      refine (unhex_nm X.data.toList _).mono ?_
      rintro e w5 ⟨rfl, hb⟩
      have H5 : Hid (NW w w5) := H4.out.next hb
      clear hb H4
      go_wp2_with fail
      refine (sum_any X _ (by omega) H5.out.1).mono ?_
      rintro e w6 ⟨rfl, hb⟩
      have H6 : Hid (NW w w6) := H5.out.next hb
      clear hb H5
      go_wp2_with fail
      refine (name_any X _ (by omega) H6.out.1).mono ?_
      rintro e w7 ⟨rfl, hb⟩
      have H7 : Hid (NW w w7) := H6.out.next hb
      clear hb H6
      go_wp2_with fail
      refine (is_nm X.data.toList _).mono ?_
      rintro e w8 ⟨rfl, hb⟩
      have H8 : Hid (NW w w8) := H7.out.next hb
      clear hb H7
      go_wp2_with fail
      refine (var_of X _ hx).mono ?_
      rintro e w9 ⟨rfl, hb⟩
      generalize bs (varN X.size) = V at *
      generalize shaS X.data.toList = S at *
      have H9 : Hid (NW w w9) := H8.out.next hb
      clear hb H8
      go_wp2_with fail
      refine (crc32_any X _ (by omega)).mono ?_
      rintro e w10 ⟨rfl, hb⟩
      have H10 : Hid (NW w w10) := H9.out.next hb
      clear hb H9
      go_wp2_with fail
      refine (put_of _ _ hcr).mono ?_
      rintro e w11 ⟨rfl, hb⟩
      generalize bs (putN (crcV 0 X.data.toList) 4) = P at *
      have H11 : Hid (NW w w11) := H10.out.next hb
      clear hb H10
      go_wp2
      go_roundw
      case rel => exact ⟨k + 1, by omega, by omega, by go_num, by rw [HE.out] at HC; exact congrArg _ HC.out, H11.out⟩
      case measure => simp [intOf]; omega
    · have hm : k = len ∧ k ≤ 12 ∨ k < len ∧ k = 12 := by omega
      have HZ : Hid (k - 0 = k) := Nat.sub_zero k
      clear hlt
      by_cases hl2 : k < len
      case' pos => have hl3 : ¬ (k : Int) < 12 := by omega
      case' neg => have hl3 : ¬ (k : Int) < (len : Int) := by omega
      all_goals
        go_wp2_with fail
        clear hl3
        go_loopw [3, 8] (fun v i wr => ∃ (j : Nat), j ≤ k ∧ i = .int .i64 (j : Int) ∧ v = .string (catS (fun k => recS (tAt ss k)) j (k - j)) ∧ NW w wr) (fun _ i _ => 12 - (intOf i).toNat)
        case atStart => exact ⟨0, by omega, rfl, by rw [HZ.out], HP.out⟩
        case round =>
          clear HP HZ
          obtain ⟨j, hj, rfl, rfl, hP⟩ := hrel
          have HP : Hid (NW w wr) := hP
          clear hP
          by_cases hlt : j < k
          · have hjl : j < len := by omega
            have hj12 : j < 12 := by omega
            obtain ⟨b, off, rfl, hc, hb, hs⟩ := strs_at HR.out hjl
            have hc' := bel_cell HP.out.2 hb hc
            have hx := tAt_size ss j
            have hrs := HF.out (k - (j + 1)) (j + 1)
            clear hc
            rw [show k - j = (k - (j + 1)) + 1 by omega, catS]
            generalize hRR : catS (fun k => recS (tAt ss k)) (j + 1) (k - (j + 1)) = R at *
            have HRR : Hid (_ = _) := hRR
            clear hRR
            obtain ⟨v, B, hv1, hv2, huv, hAs, hAx, hAB, hBs, hB1, hB2, hB3⟩ := rec_read (tAt ss j) R hx
            have HU : Hid (_ = _) := huv
            have HAX : Hid (_ = _) := hAx
            have HAB : Hid (_ = _) := hAB
            have HB1 : Hid (_ = _) := hB1
            have HB2 : Hid (_ = _) := hB2
            have HB3 : Hid (_ = _) := hB3
            clear huv hAx hAB hB1 hB2 hB3
            generalize recS (tAt ss j) ++ R = A at *
            go_wp2_with fail
            refine (unvar_any A _ (by omega)).mono ?_
            rintro e w3 ⟨rfl, rfl⟩
            rw [HU.out]
            clear HU
            rw [hAs] at HAB
            rw [hBs] at HB3
            have HCR : Hid (getN ((bs (putN (crcV 0 (tAt ss j).data.toList) 4)).data.toList.take 8) = crcV 0 (tAt ss j).data.toList) := putN_get4 _ (crcV_lt _ _)
            have hcr := crcV_lt 0 (tAt ss j).data.toList
            have sP : (bs (putN (crcV 0 (tAt ss j).data.toList) 4)).size = 4 := by rw [bs_size2, putN_len]
            go_wp2_with fail
            rw [HAX.out, HAB.out]
            have HFE := fun (W : World) => few_tAt ss j W hs
            have hS0 : NC w b (off + j) (strAt ss j) _ := ⟨HP.out, hc'⟩
            have HS0 : Hid (NC w b (off + j) (strAt ss j) _) := hS0
            have hB1 := HB1.out
            have hB2 := HB2.out
            clear hc' hb hs HAX HAB HP HB1 HB2 hAs hS0
            generalize tAt ss j = X at *
            generalize strAt ss j = X0 at *
            have hsx : X.size ≤ 140737488351232 := by omega
            have SUMX := fun (W : World) (h : NC w b (off + j) X0 W) => h.after (sum_any X W hsx h.1.1)
            have CRCX := fun (W : World) (h : NC w b (off + j) X0 W) => h.after (crc32_any X W hsx)
            have GETX := fun (W : World) => get4 (bs (putN (crcV 0 X.data.toList) 4)) (crcV 0 X.data.toList) W sP HCR.out
            generalize shaS X.data.toList = S at *
            generalize bs (putN (crcV 0 X.data.toList) 4) = P at *
            generalize crcV 0 X.data.toList = C at *
            clear HCR
            have H1 : Hid (∀ (W : World) (h : NC w b (off + j) X0 W), _) := SUMX
            have H2 : Hid (∀ (W : World) (h : NC w b (off + j) X0 W), _) := CRCX
            have H3 : Hid (∀ (W : World), _) := GETX
            have H4 : Hid (∀ (W : World), _) := HFE
            clear SUMX CRCX GETX HFE
            have hw64 : IntKind.u64.wrap (C : Int) = (C : Int) := by rw [wrap64_of, Nat.mod_eq_of_lt (by omega)]
            go_region_held (fun w' => NC w b (off + j) X0 w' ∧ w'.cell? ⟨b, off + j, none⟩ = some (.string X0)) (first | assumption | exact HS0.out.drew.held)
              (first
                | (go_at_call 9; refine (H1.out _ (And.left (by assumption))).mono ?_; rintro e w4 ⟨rfl, hS4⟩)
                | (go_at_call 19; refine (H2.out _ (And.left (by assumption))).mono ?_; rintro e w5 ⟨rfl, hS5⟩)
                | (go_at_call 21; refine (H3.out _).mono ?_; rintro e w6 ⟨rfl, rfl⟩)
                | (go_at_call 6; refine (H4.out _).mono ?_; rintro e w7 ⟨rfl, rfl⟩))
            all_goals
              go_wp2
              go_roundw
              case rel => exact ⟨j + 1, by omega, by go_num, by rw [HB3.out, HRR.out], NC.out (b := b) (j := off + j) (s := X0) (by assumption)⟩
              case measure => simp [intOf]; omega
          · have hjk : j = k := by omega
            subst hjk
            rw [Nat.sub_self, catS]
            by_cases hl4 : j < len
            case' pos => have hl3 : ¬ (j : Int) < 12 := by omega
            case' neg => have hl3 : ¬ (j : Int) < (len : Int) := by omega
            all_goals
              go_wp2
              go_ret
              exact ⟨rfl, HP.out.2⟩
end Go.Proofs.YtkphgjaklkfcfabDoor
