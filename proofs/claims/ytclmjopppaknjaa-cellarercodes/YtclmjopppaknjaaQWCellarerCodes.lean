/- CellarerCodes: the walk. -/
import Derived.Test.YtclmjopppaknjaaQCodM
import Derived.Test.YtclmjopppaknjaaQFew
import Derived.Deep.QuietTactic
import Derived.BigQuiet
import Derived.Deep.DeepCutAuto
import Derived.Deep.RegionHeld
namespace Go.Proofs.Ytclmjopppaknjaa
open Go.RowKit
set_option linter.unusedVariables false
set_option linter.unusedSimpArgs false

theorem few300 (s : ByteArray) (w : World) (hs : s.size ≤ 9223372036854775807) :
    Calls Try.prog 13 #[.string s, .int .i64 300] w fun e w' => e = .returned (.string (s.extract 0 300)) ∧ w' = w := few_any s 300 w (by decide) hs
/-- The bytes of a text. -/
def byL (s : ByteArray) : List Nat := s.data.toList.map UInt8.toNat
theorem byL_len (s : ByteArray) : (byL s).length = s.size := by unfold byL; rw [List.length_map]; rfl
theorem byL_at (s : ByteArray) (k : Nat) (h : k < s.size) : (byL s)[k]? = some s[k].toNat := by
  unfold byL
  rw [List.getElem?_map, List.getElem?_eq_getElem (show k < s.data.toList.length from h)]
  rfl
theorem byL_lt (s : ByteArray) : ∀ t ∈ byL s, t < 256 := fun t ht => by
  obtain ⟨b, _, rfl⟩ := List.mem_map.1 ht
  exact b.toNat_lt
theorem own_io {w : World} {B g n : Nat} {l : List Int} (h : w.ownsRow B 3 1 (.slice (some ⟨g, 0, none⟩) n n) n (ic l)) : IR w (.slice (some ⟨g, 0, none⟩) n n) l := IR.of h (by intro e; cases e)

set_option maxRecDepth 100000 in
set_option maxHeartbeats 4000000 in
theorem lawCellarerCodes_walk (s : ByteArray) (q : Int) (w : World) (hs : s.size ≤ 140737488351232) (hq : -9223372036854775808 ≤ q ∧ q ≤ 9223372036854775807) :
    Calls Try.prog 5 #[.string s, .int .i64 q] w fun e w' => e = .returned (.bool true) ∧ Below w.heap.size w w' := by
  have hzS := (zero_of_info Try.zeroSnk).1
  have hx : (s.extract 0 300).size ≤ 300 := by rw [few_size]; omega
  obtain ⟨m, hm8, hm15, hmq⟩ : ∃ m : Nat, 8 ≤ m ∧ m ≤ 15 ∧ max 8 (min q 15) = (m : Int) := ⟨(max 8 (min q 15)).toNat, by omega, by omega, by omega⟩
  go_enter Try.func5, Try.ntmps5
  go_wp2_with fail
  have HA0 : Hid (Calls _ _ _ _ _) := lengths_good (.slice (some ⟨w.heap.size, 0, none⟩) 4 4) [5, 1, 1, 0] 15 (w.alloc (.cells #[.int .i64 5, .int .i64 1, .int .i64 1, .int .i64 0] 3))
    ⟨w.heap.size, 0, 4, rfl, by rw [World.size_alloc]; omega, fun i hi => by
      rw [World.cell?_alloc_mark, Nat.zero_add]
      match i, hi with | 0, _ | 1, _ | 2, _ | 3, _ => rfl⟩ (by decide) (by decide)
  refine (Hid.out HA0 : Calls _ _ _ _ _).mono ?_
  rintro e w1 ⟨ga, ssa, rfl, hra, hoa, hba⟩
  have hca : w1.cell? ⟨ga, 0, none⟩ = some (.int .i64 1) := by
    have := World.ownsRow.cells hoa (g := ga) rfl 0 _ (nc_at _ 0 (by unfold lensOf; rw [putL_len]; decide))
    rw [codes_awake ssa hra] at this
    rwa [Addr.add_mid] at this
  have hb1 : Below w.heap.size w w1 := ((Below.refl _ w).alloc (Nat.le_refl _) _).trans (hba.mono (by rw [World.size_alloc]; omega))
  clear HA0 hra hoa hba
  go_wp2_with fail
  refine (few300 _ _ (by omega)).mono ?_
  rintro e w2 ⟨rfl, hw2⟩
  obtain rfl := hw2.symm
  clear hca
  obtain ⟨w3, hmk, hown3, hb3⟩ := make_ints 256 w1 (by omega)
  have hmk0 : (Instr.makeSlice 22 (.int .i64 256) (.int .i64 256)).run Try.prog w1 = .ok (.slice (some ⟨w1.heap.size, 0, none⟩) 256 256) w3 := hmk
  generalize s.extract 0 300 = X at *
  have hlX := byL_len X
  go_wp2
  clear hmk hmk0
  go_loopw [8] (fun i wr => ∃ k : Nat, k ≤ X.size ∧ i = .int .i64 (k : Int) ∧ wr.ownsRow w1.heap.size 3 1 (.slice (some ⟨w1.heap.size, 0, none⟩) 256 256) 256 (fz (cntF (byL X) k) 256) ∧ Below w1.heap.size w1 wr) (fun i _ => X.size - (intOf i).toNat)
  case atStart => exact ⟨0, by omega, rfl, by rw [fz_congr (h := cntF (byL X) 0) (fun j _ => (cntF_zero _ j).symm)] at hown3; exact hown3, hb3⟩
  case round =>
    clear hown3 hb3
    obtain ⟨k, hk, rfl, hown, hbel⟩ := hrel
    by_cases hlt : k < X.size
    · have hki : (k : Int) < (X.size : Int) := by omega
      have hat := byL_at X k hlt
      have ht256 : X[k].toNat < 256 := X[k].toNat_lt
      have hst := hown.stored X[k].toNat (.int .i64 ((cntF (byL X) k X[k].toNat + 1 : Nat) : Int))
      rw [fz_set, fz_congr (h := cntF (byL X) (k + 1)) (fun j _ => (cntF_step (byL X) k _ hat j).symm)] at hst
      have c1 := hown.cellAt X[k].toNat (by omega)
      rw [fz_at _ _ _ ht256] at c1
      have f1 := hown.frozenAt X[k].toNat
      have hle := cntF_le (byL X) k X[k].toNat
      have HST : Hid _ := hst.1
      have HBF : Hid (Below w1.heap.size w1 (wr.setCell ⟨w1.heap.size, X[k].toNat, none⟩ (.int .i64 ((cntF (byL X) k X[k].toNat + 1 : Nat) : Int)))) := hbel.setCell (p := ⟨w1.heap.size, X[k].toNat, none⟩) (Nat.le_refl _) _
      clear hst hown hbel hat
      generalize cntF (byL X) k X[k].toNat = c at *
      have hci : ((c + 1 : Nat) : Int) = (c : Int) + 1 := by omega
      rw [hci] at HST HBF
      generalize htt : X[k].toNat = t at *
      have hti : (t : Int) < 256 := by omega
      go_wp2
      go_roundw
      case rel => exact ⟨k + 1, by omega, by go_num, HST.out, HBF.out⟩
      case measure => simp [intOf]; omega
    · obtain rfl : k = X.size := by omega
      rw [← hlX, show fz (cntF (byL X) (byL X).length) 256 = ic (cntZ (byL X)) by unfold fz ic cntZ; rw [List.map_map]; rfl] at hown
      have hbw4 := hb1.trans (hbel.mono hb1.size)
      have hIR := own_io hown
      have hclen := cntZ_len (byL X)
      have HLG : Hid (Calls _ _ _ _ _) := lengths_good _ (cntZ (byL X)) m wr hIR.io (cntZ_chk _ (by omega) m hm8 hm15) (cntZ_few _ m hm8)
      rw [hclen] at HLG
      clear hown hbel hIR
      go_wp2_with fail
      refine (Hid.out HLG : Calls _ _ _ _ _).mono ?_
      rintro e w5 ⟨gl, ss, rfl, hris, hol, hb5⟩
      have hLP := lens_ok (cntZ (byL X)) ss m hris (by omega) hm15 (by rw [hris.perm.length_eq]; exact cntZ_few _ m hm8)
      have hbw5 := hbw4.trans (hb5.mono hbw4.size)
      have hnl : (lensOf (cntZ (byL X)) ss m).length = 256 := by rw [hLP.len, hclen]
      have he := zOf_err hLP hm15 (by omega)
      have HUS : Hid (∀ t ∈ byL X, Used (lensOf (cntZ (byL X)) ss m) (lensOf (cntZ (byL X)) ss m).length t) := fun t ht => by
        have h1 := byL_lt X t ht
        exact ⟨by rw [hnl]; exact h1, hLP.yes t (by rw [hclen]; exact h1) (cntZ_pos _ (byL_lt X) t ht)⟩
      have HLE : Hid (∀ t, ln (lensOf (cntZ (byL X)) ss m) t ≤ m) := fun t => hLP.le t
      have hft := hLP.fit
      clear HLG hris hLP hb5 hbw4
      generalize lensOf (cntZ (byL X)) ss m = ns at *
      rw [zOf_nc] at hol
      have hIL := own_io hol
      have hzl : (zOf ns).length = 256 := by rw [zOf_len, hnl]
      have HCO : Hid (Calls _ _ _ _ _) := codes_ok _ (zOf ns) w5 hIL he
      rw [hzl, zOf_toN] at HCO
      go_wp2_with fail
      refine (Hid.out HCO : Calls _ _ _ _ _).mono ?_
      rintro e w6 ⟨rfl, hC6, hb6⟩
      have hbw6 := hbw5.trans (hb6.mono hbw5.size)
      have HPO : Hid (Calls _ _ _ _ _) := plant_ok _ (zOf ns) w6 (hIL.below hb6) he
      rw [hzl, zOf_toN] at HPO
      clear HCO
      go_wp2_with fail
      refine (Hid.out HPO : Calls _ _ _ _ _).mono ?_
      rintro e w7 ⟨B, hBl, rfl, hP7, hb7⟩
      have hbw7 := hbw6.trans (hb7.mono hbw6.size)
      have hC7 := hC6.since hb7
      have hI7 := (hIL.below hb6).below hb7
      have hgl7 : gl < w7.heap.size := by have := (hol.lt gl rfl).2; have := hb6.size; have := hb7.size; omega
      have hgc7 : w5.heap.size < w7.heap.size := hC7.lt
      have HCL : Hid (∀ t, t < 256 → w7.cell? ⟨gl, t, none⟩ = some (.int .i64 (ln ns t : Int))) := fun t ht => by
        obtain ⟨g', c', e1, _, e3⟩ := hI7
        injection e1 with e4
        injection e4 with e5
        injection e5 with e6
        rw [e6, e3 t (by omega)]
        unfold ln zOf
        simp [List.getD_eq_getElem?_getD, List.getElem?_eq_getElem (show t < ns.length by omega)]
      clear HPO hC6 hIL hI7 hol hb6 hb7 hbw5 hbw6
      generalize w5.heap.size = gc at *
      have HA15 : Hid (all15 ns) := by
        have := (errN_zero he).2.1.all
        rwa [zOf_toN] at this
      have HFT : Hid (fitB ns = true) := hft
      have HC7 : Hid (CR w7 gc 256 (cdOf ns) (ln ns)) := hC7
      have HP7 : Hid (Planted w7 B (B + 1) ns 256) := hP7
      have HB7 : Hid (Below w.heap.size w w7) := hbw7
      have hsz7 := hbw7.size
      have HS0 : Hid (SinkAt (w7.alloc (.cells snk0 63)) w7.heap.size []) := sink_zero w7
      clear hC7 hP7 hbw7 he hft
      go_wp2
      go_loopw [16, 17] (fun n i wr => ∃ k : Nat, k ≤ X.size ∧ n = .int .i64 ((bitsOf ns ((byL X).take k)).length : Int) ∧ i = .int .i64 (k : Int) ∧ SinkAt wr w7.heap.size (bitsOf ns ((byL X).take k)) ∧ Below w7.heap.size w7 wr) (fun _ i _ => X.size - (intOf i).toNat)
      case atStart => exact ⟨0, by omega, rfl, rfl, HS0.out, (Below.refl _ w7).alloc (Nat.le_refl _) _⟩
      case round =>
        clear HS0
        obtain ⟨k, hk, rfl, rfl, hS, hB⟩ := hrel
        have hsL := bitsOf_le ns HA15.out ((byL X).take k)
        have htl : ((byL X).take k).length ≤ 300 := by rw [List.length_take]; omega
        by_cases hlt : k < X.size
        · have hki : (k : Int) < (X.size : Int) := by omega
          have hat := byL_at X k hlt
          have hus := HUS.out X[k].toNat (List.mem_of_getElem? hat)
          have ht256 : X[k].toNat < 256 := X[k].toNat_lt
          obtain ⟨c1, c2, c3⟩ := there_code ns (byL X) k X[k].toNat hat
          have hl15 := HA15.out.at X[k].toNat
          have hlm := HLE.out X[k].toNat
          have hC := HC7.out.since hB
          have ce : wr.cell? ⟨gc, X[k].toNat * 2, none⟩ = some (.int .u32 (cdOf ns X[k].toNat : Int)) := by rw [hC.cell (i := X[k].toNat * 2) (by omega), codeF_even]
          have co : wr.cell? ⟨gc, X[k].toNat * 2 + 1, none⟩ = some (.int .i64 (ln ns X[k].toNat : Int)) := by rw [hC.cell (i := X[k].toNat * 2 + 1) (by omega), codeF_odd]
          have cl : wr.cell? ⟨gl, X[k].toNat, none⟩ = some (.int .i64 (ln ns X[k].toNat : Int)) := by rw [hB.cell (p := ⟨gl, _, none⟩) hgl7]; exact HCL.out _ ht256
          have hcd := cd_lt ns HA15.out HFT.out X[k].toNat hus.1 hus.2
          rw [← cdOf_at ns X[k].toNat hus.2] at hcd
          have h32 : 2 ^ ln ns X[k].toNat ≤ 2 ^ 15 := Nat.pow_le_pow_right (by decide) hl15
          have hcx : cdOf ns X[k].toNat < 4294967296 := by omega
          have HTU : Hid (∀ W, SinkAt W w7.heap.size (bitsOf ns ((byL X).take k)) → Calls Try.prog 22 #[.pointer (some ⟨w7.heap.size, 0, none⟩), .int .u32 (cdOf ns X[k].toNat : Int), .int .i64 (ln ns X[k].toNat : Int)] W fun e w' => e = .returned (.tuple #[]) ∧ SinkAt w' w7.heap.size (bitsOf ns ((byL X).take (k + 1))) ∧ W.grownBy w' (some w7.heap.size)) := fun W h => by
            have := wturn_any w7.heap.size (bitsOf ns ((byL X).take k)) (cdOf ns X[k].toNat) (ln ns X[k].toNat : Int) W h hcx (by omega) (by omega)
            rw [near_small _ (by omega)] at this
            rw [c3]; exact this
          have HLN : Hid (((bitsOf ns ((byL X).take (k + 1))).length : Int) = ((bitsOf ns ((byL X).take k)).length : Int) + (ln ns X[k].toNat : Int)) := by
            unfold Hid; rw [c3, List.length_append, codeS_len]; omega
          have hSl := hS.lt
          have HSB : Hid (SinkAt wr w7.heap.size (bitsOf ns ((byL X).take k))) := hS
          have HBB : Hid (Below w7.heap.size w7 wr) := hB
          clear hC hcd h32 c1 c2 c3 hus hat hS hB
          generalize cdOf ns X[k].toNat = x at *
          generalize ln ns X[k].toNat = M at *
          generalize hLL : (bitsOf ns ((byL X).take k)).length = LL at *
          clear hLL
          generalize htt : X[k].toNat = t at *
          have hti : (t : Int) < 256 := by omega
          go_wp2_with fail
          refine (HTU.out _ (HSB.out.below ((Below.refl _ wr).alloc (Nat.le_refl _) _))).mono ?_
          rintro e w8 ⟨rfl, hS8, hG8⟩
          have d1 : w8.cell? ⟨wr.heap.size, 1, none⟩ = some (.int .i64 (M : Int)) := hG8.cell (World.cell?_alloc_mark _ _ _ _ _) (by intro e; injection e with e; simp only at e; omega)
          have d2 : w8.cell? ⟨gl, t, none⟩ = some (.int .i64 (M : Int)) := hG8.cell (by rw [World.cell?_alloc_lt _ _ _ (show gl < wr.heap.size by omega)]; exact cl) (by intro e; injection e with e; simp only at e; omega)
          have HB8 : Hid (Below w7.heap.size w7 w8) := (HBB.out.alloc HBB.out.size _).grown hG8 (by rw [World.size_alloc]; omega) (fun q hq => by cases hq; exact Nat.le_refl _)
          have HS8 : Hid (SinkAt w8 w7.heap.size (bitsOf ns ((byL X).take (k + 1)))) := hS8
          clear hS8 hG8 ce co cl HTU HSB HBB
          have hMm : ¬ (m : Int) < (M : Int) := by omega
          have hLLb : LL ≤ 4500 := by omega
          go_wp2
          go_quiet (fail)
          go_wp2
          go_roundw
          case rel => exact ⟨k + 1, by omega, by rw [HLN.out], by go_num, HS8.out.drewN nq, ⟨HB8.out.os, HB8.out.tape, HB8.out.output, HB8.out.size, HB8.out.block⟩⟩
          case measure => simp [intOf]; omega
        · obtain rfl : k = X.size := by omega
          rw [List.take_of_length_le (by omega)] at hS hsL ⊢
          have hls : (byL X).length ≤ 300 := by omega
          have HSw : Hid (SinkAt wr w7.heap.size (bitsOf ns (byL X))) := hS
          have HPw : Hid (Planted wr B (B + 1) ns 256) := HP7.out.kept hB
          have HBw : Hid (Below w.heap.size w wr) := HB7.out.trans (hB.mono hsz7)
          have hss : (packS (bitsOf ns (byL X))).size = ((bitsOf ns (byL X)).length + 7) / 8 := packS_size _
          have hLB : (bitsOf ns (byL X)).length ≤ 4500 := by omega
          clear hS hB HC7 HP7 HCL htl hsL
          go_wp2_with fail
          refine (count_any _ _ _ HSw.out).mono ?_
          rintro e w8 ⟨rfl, hw8⟩
          obtain rfl := hw8.symm
          go_wp2_with fail
          refine (all_any w7.heap.size (bitsOf ns (byL X)) _ HSw.out (by omega)).mono ?_
          rintro e w9 ⟨rfl, hb9⟩
          have HS9 : Hid (SinkAt w9 w7.heap.size (bitsOf ns (byL X))) := HSw.out.below hb9
          have HP9 : Hid (Planted w9 B (B + 1) ns 256) := HPw.out.kept hb9
          have HB9 : Hid (Below w.heap.size w w9) := HBw.out.trans (hb9.mono HBw.out.size)
          clear HSw HPw HBw hb9
          go_wp2_with fail
          refine (all_any w7.heap.size (bitsOf ns (byL X)) _ HS9.out (by omega)).mono ?_
          rintro e w10 ⟨rfl, hb10⟩
          have HPA : Hid (Planted w10 B (B + 1) ns 256) := HP9.out.kept hb10
          have HBA : Hid (Below w.heap.size w w10) := HB9.out.trans (hb10.mono HB9.out.size)
          clear HS9 HP9 HB9 hb10
          go_wp2_with fail
          refine (srcOf_any (packS (bitsOf ns (byL X))) _).mono ?_
          rintro e w11 ⟨gx, rfl, hX, hgx, hb11⟩
          have HX : Hid (SrcAt w11 gx (packS (bitsOf ns (byL X))) 0) := hX
          have HB11 : Hid (Below w10.heap.size w10 w11) := hb11
          clear hX hb11
          go_wp2
          go_loopw [20] (fun i wi => ∃ k : Nat, k ≤ X.size ∧ i = .int .i64 (k : Int) ∧ SrcAt wi gx (packS (bitsOf ns (byL X))) (bitsOf ns ((byL X).take k)).length ∧ Below w10.heap.size w10 wi) (fun i _ => X.size - (intOf i).toNat)
          case atStart => exact ⟨0, by omega, rfl, HX.out, HB11.out⟩
          case round =>
            clear HX HB11
            obtain ⟨k, hk, rfl, hX, hB⟩ := hrel
            by_cases hlt : k < X.size
            · have hki : (k : Int) < (X.size : Int) := by omega
              have hat := byL_at X k hlt
              obtain ⟨c1, c2, c3⟩ := there_code ns (byL X) k X[k].toNat hat
              have hut := HUS.out X[k].toNat (List.mem_of_getElem? hat)
              have hPn := HPA.out.kept hB
              rw [← hnl] at hPn
              have HNX : Hid (Calls _ _ _ _ _) := next_any ns HA15.out (by omega) B (B + 1) gx (packS (bitsOf ns (byL X))) _ wr hPn hX (by omega) (by omega)
              have HBi : Hid (Below w10.heap.size w10 wr) := hB
              have ht256 : X[k].toNat < 256 := X[k].toNat_lt
              clear hX hB hPn
              go_wp2_with fail
              refine (Hid.out HNX : Calls _ _ _ _ _).mono ?_
              rintro e w12 ⟨j, y, er, rfl, hN, hX12, hG12⟩
              obtain ⟨rfl, rfl, hj⟩ := next_code ns HA15.out HFT.out _ _ j _ y er hut c1 (by omega) hN
              have hX13 : SrcAt w12 gx (packS (bitsOf ns (byL X))) (bitsOf ns ((byL X).take (k + 1))).length := by
                rw [c3, List.length_append, codeS_len, ← hj, ← Nat.add_assoc]; exact hX12
              have HX13 : Hid (SrcAt w12 gx (packS (bitsOf ns (byL X))) (bitsOf ns ((byL X).take (k + 1))).length) := hX13
              have HB13 : Hid (Below w10.heap.size w10 w12) := grown_below HBi.out hG12 HBi.out.size hgx
              clear HNX hN hX12 hG12 hX13 c1 c2 c3 HBi hat hut
              generalize htt : X[k].toNat = t at *
              go_wp2
              go_roundw
              case rel => exact ⟨k + 1, by omega, by go_num, HX13.out, HB13.out⟩
              case measure => simp [intOf]; omega
            · obtain rfl : k = X.size := by omega
              rw [List.take_of_length_le (by omega)] at hX
              have hBw := HBA.out.trans (hB.mono HBA.out.size)
              go_wp2_with fail
              refine (place_any gx _ _ _ hX).mono ?_
              rintro e w13 ⟨rfl, hw13⟩
              obtain rfl := hw13.symm
              go_wp2_with fail
              refine (short_any gx _ _ _ hX (by omega)).mono ?_
              rintro e w14 ⟨rfl, n14, rfl⟩
              have hsh : decide (8 * (packS (bitsOf ns (byL X))).size < (bitsOf ns (byL X)).length) = false := by
                rw [decide_eq_false_iff_not]; omega
              rw [hsh]
              go_wp2
              go_ret
              exact ⟨rfl, ⟨hBw.os, hBw.tape, hBw.output, hBw.size, hBw.block⟩⟩
end Go.Proofs.Ytclmjopppaknjaa
