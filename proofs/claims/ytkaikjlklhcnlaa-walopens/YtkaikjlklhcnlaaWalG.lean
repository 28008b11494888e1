/- Contracts: a log's Add, Reset. -/
import Derived.Test.YtkaikjlklhcnlaaWalF
import Derived.Deep.RegionHeld3
namespace Go.Proofs.Ytkaikjlklhcnlaa
open Go.RowKit Go.Maps
set_option linter.unusedVariables false
set_option linter.unusedSimpArgs false

theorem rdV_big {w : World} {d : Nat} {S : DS} {K : Nat → Prop} {gs : List Nat} (h : DK w d S K gs) (x : List UInt8) : (rdV S x).length ≤ 1073741824 := by
  obtain ⟨_, _, _, _, h⟩ := h
  unfold rdV
  split
  · simp
  · split
    · rename_i g hg
      exact (h.file g (h.inN _ (lk_some_mem hg)).1).big
    · simp
theorem bdrew {B : Nat} {w w' : World} (h : Below B w.drew w') : Below B w w' := ⟨h.os, h.tape, h.output, h.size, h.block⟩
/-- A log that has been written to. -/
theorem LG.stored {w : World} {lb d : Nat} {K : Nat → Prop} {rs rn : List (List UInt8)} {tn tn' : Bool} {v u : Value} (h : LG w lb d K rs tn v) (hu : OS w 0 u rn) (hk : ∀ r, u.ownBlock = some r → K r ∧ r ≠ lb) :
    LG ((w.setCell ⟨lb, 1, none⟩ u).setCell ⟨lb, 2, none⟩ (.bool tn')) lb d K rn tn' u := by
  refine ⟨?_, own_kept hu (fun r hr => by rw [setc_o (hk r hr).2, setc_o (hk r hr).2]), h.kl, hk⟩
  rw [setc (setc h.cell)]
  rfl
/-- How a record's adding ended: the error, the disk, what the log in memory has. -/
structure AddP (w : World) (lb d : Nat) (K : Nat → Prop) (gs : List Nat) (rs rn : List (List UInt8)) (tn : Bool) (f : Nat → Int × DS) (z : Int) (w' : World) : Prop where
  ex : ∃ K' gs' g, z = (f g).1 ∧ LD w' lb d (f g).2 K' gs' (if z = 0 then rn else rs) (if z = 0 then false else tn) ∧ g ∉ gs ∧ (∀ k ∈ gs, k ∈ gs') ∧ (∀ k, K k → K' k)
  keep : Keeps (fun k => K k ∧ k ≠ lb) w w'
  sep : ∀ v', w'.cell? ⟨lb, 1, none⟩ = some v' → w.cell? ⟨lb, 1, none⟩ = some v' ∨ ∀ r, v'.ownBlock = some r → w.heap.size ≤ r
/-- The end of an adding that went well. -/
theorem addP_done {w w3 w4 w5 : World} {lb d g : Nat} {K K2 : Nat → Prop} {gs gs' : List Nat} {rs R : List (List UInt8)} {s : List UInt8} {tn : Bool} {v : Value} {a a' : Option Addr} {c c' : Nat} (f : Nat → Int × DS)
    (hz : 0 = (f g).1) (hgn : g ∉ gs ∧ ∀ k ∈ gs, k ∈ gs') (hd3 : DK w3 d (f g).2 K2 gs') (hg0 : LG w lb d K rs tn v) (hg3 : LG w3 lb d K2 rs tn v) (hkk : ∀ k, K k → K2 k) (hrb : ∀ r, (Value.slice a R.length c).ownBlock = some r → w.heap.size ≤ r ∧ K2 r)
    (hk3 : Keeps K w w3) (hb4 : Below w3.heap.size w3 w4) (hg5 : w4.grownBy w5 (Value.slice a R.length c).ownBlock) (hO5 : OS w5 w.heap.size (.slice a' (R.length + 1) c') (R ++ [s]))
    (hr5 : ∀ r, (Value.slice a' (R.length + 1) c').ownBlock = some r → (Value.slice a R.length c).ownBlock = some r ∨ w4.heap.size ≤ r ∧ r < w5.heap.size) (hKb : ∀ k, K k → k < w.heap.size) :
    AddP w lb d K gs rs (R ++ [s]) tn f 0 ((w5.setCell ⟨lb, 1, none⟩ (.slice a' (R.length + 1) c')).setCell ⟨lb, 2, none⟩ (.bool false)) := by
  have hlb := hg0.lt
  have hd4 := hd3.newAll hb4
  have hg4 : LG w4 lb d (fun k => K2 k ∨ w3.heap.size ≤ k ∧ k < w4.heap.size) rs tn v := hg3.below hb4 (fun k hk => .inl hk)
  have hd5 := hd4.grown hg5 (fun r hr => .inl (hrb r hr).2)
  have hlne : ∀ r, (Value.slice a R.length c).ownBlock = some r → r ≠ lb := fun r hr => by have := (hrb r hr).1; omega
  have hg5' : LG w5 lb d (fun k => (K2 k ∨ w3.heap.size ≤ k ∧ k < w4.heap.size) ∨ w4.heap.size ≤ k ∧ k < w5.heap.size) rs tn v := by
    refine ⟨(hg5.block lb hg4.lt (fun e => hlne lb e.symm rfl)).trans hg4.cell, own_kept hg4.row (fun r hr => hg5.block r (own_lt hg4.row hr).1 (fun e => ?_)), .inl hg4.kl, fun r hr => ⟨.inl (hg4.kr r hr).1, (hg4.kr r hr).2⟩⟩
    have h1 := (hrb r e.symm).1
    have h2 := (own_lt hg0.row hr).1
    omega
  have hr6 : ∀ r, (Value.slice a' (R.length + 1) c').ownBlock = some r → ((K2 r ∨ w3.heap.size ≤ r ∧ r < w4.heap.size) ∨ w4.heap.size ≤ r ∧ r < w5.heap.size) ∧ r ≠ lb := fun r hr => by
    obtain ⟨h1, h2⟩ := hO5.lt r hr
    refine ⟨?_, by omega⟩
    rcases hr5 r hr with h3 | h3
    · exact .inl (.inl (hrb r h3).2)
    · exact .inr h3
  refine ⟨⟨_, gs', g, hz, ⟨(hd5.setCell hg5'.kl _).setCell hg5'.kl _, _, hg5'.stored (hO5.mono (Nat.zero_le _)) hr6⟩, hgn.1, hgn.2, fun k hk => .inl (.inl (hkk k hk))⟩, ?_, ?_⟩
  rotate_left
  · intro v' hv'
    have hc := (hg5'.stored (tn' := false) (hO5.mono (Nat.zero_le _)) hr6).cells.2.1
    rw [hv'] at hc
    injection hc with hc
    subst hc
    exact .inr (fun r hr => (hO5.lt r hr).1)
  have k4 : Keeps (fun k => K k ∧ k ≠ lb) w w4 := (hk3.mono (fun k hk => hk.1)).trans (Keeps.of_below hb4 (fun k hk => Nat.lt_of_lt_of_le (hKb k hk.1) hk3.size))
  have k5 : Keeps (fun k => K k ∧ k ≠ lb) w w5 := k4.grown hg5 (fun k hk => Nat.lt_of_lt_of_le (hKb k hk.1) (Nat.le_trans hk3.size hb4.size)) (fun k hk hn => by
    have h1 := (hrb k hk).1
    have h2 := hKb k hn.1
    omega)
  exact (k5.setCell (fun h => h.2 rfl) _).setCell (fun h => h.2 rfl) _
set_option maxRecDepth 100000 in
set_option maxHeartbeats 1000000 in
theorem add_big {lb d : Nat} {K : Nat → Prop} {rs : List (List UInt8)} {tn : Bool} {v : Value} (s : List UInt8) (w : World) (h : LG w lb d K rs tn v) (hs : 5000 < s.length) (hs2 : s.length ≤ 1099511627776) :
    Calls Try.prog 19 #[.pointer (some ⟨lb, 0, none⟩), .string (mkT s)] w fun e w' => e = .returned (.int .i64 2) ∧ w' = w := by
  have hsz := mkT_sz s
  generalize mkT s = T at *
  generalize s.length = n at *
  have hi : (5000 : Int) < (n : Int) := by omega
  clear h
  go_enter Try.func19, Try.ntmps19
  go_wp2
  go_ret
  exact ⟨rfl, rfl⟩
set_option maxRecDepth 100000 in
set_option maxHeartbeats 2000000 in
theorem add_ext {lb d : Nat} {S : DS} {K : Nat → Prop} {gs : List Nat} {rs : List (List UInt8)} {tn : Bool} (s : List UInt8) (w : World) (h : LD w lb d S K gs rs tn) (hs : s.length ≤ 5000) (he : rdE S logN = 0) (hl : LB S 1000)
    (hR : (prs 200 (rdV S logN)).1.length < 200) (ht : (prs 200 (rdV S logN)).2 = (rdV S logN).length) :
    Calls Try.prog 19 #[.pointer (some ⟨lb, 0, none⟩), .string (mkT s)] w fun e w' => ∃ z, e = .returned (.int .i64 z) ∧ AddP w lb d K gs rs ((prs 200 (rdV S logN)).1 ++ [s]) tn (extS S (frm s)) z w' := by
  obtain ⟨hd, v, hg⟩ := h
  have HD : Hid (DK w d S K gs) := hd
  have HG : Hid (LG w lb d K rs tn v) := hg
  obtain ⟨c0, c1, c2⟩ := hg.cells
  have hlb := hg.lt
  have hbig := rdV_big hd logN
  have HR0 := read_any logN w hd (by decide)
  rw [he] at HR0
  have HR : Hid (Calls Try.prog _ _ _ _) := HR0
  have HL : Hid (LB S 1000) := hl
  clear hd hg HR0 hl he
  generalize rdV S logN = B at *
  have HP : Hid (∀ W, Calls Try.prog _ _ W _) := fun W => parse_any B W (by omega)
  have hBs := mkT_sz B
  obtain ⟨n, hn⟩ : ∃ n, B.length = n := ⟨_, rfl⟩
  rw [hn] at hBs ht hbig
  generalize (prs 200 B).1 = R at *
  have hss := mkT_sz s
  have HFR : Hid (∀ W, Calls Try.prog _ _ W _) := fun W => frame_any s W (by omega)
  have HCL : Hid (∀ W, Calls Try.prog _ _ W _) := fun W => clone_any (mkT s) W (by omega)
  have hsi : ¬ (5000 : Int) < (s.length : Int) := by omega
  generalize hTs : mkT s = T at *
  have HTS : Hid (mkT s = T) := hTs
  clear hTs
  generalize hTB : mkT B = TB at *
  clear hTB
  obtain ⟨m, hm⟩ : ∃ m, s.length = m := ⟨_, rfl⟩
  have HM : Hid (s.length = m) := hm
  rw [hm] at hss hsi hs
  clear hm
  go_enter Try.func19, Try.ntmps19
  go_wp2_with fail
  refine HR.out.mono ?_
  rintro e w1 ⟨rfl, e1⟩
  have e2 := e1.symm
  subst e2
  clear HR e1
  go_wp2_with fail
  refine (HP.out _).mono ?_
  rw [ht]
  rintro e w1 ⟨v1, rfl, hO, hb⟩
  obtain ⟨a, c, rfl⟩ := hO.shape
  have HO : Hid (OS w1 w.heap.size (.slice a R.length c) R) := hO
  have HB : Hid (Below w.heap.size w w1) := hb
  have d0 : w1.cell? ⟨lb, 0, none⟩ = some (.pointer (some ⟨d, 0, none⟩)) := (hb.cell (p := ⟨lb, 0, none⟩) hlb).trans c0
  have hlb1 : lb < w1.heap.size := Nat.lt_of_lt_of_le hlb hb.size
  obtain ⟨K1, hK1⟩ : ∃ K1 : Nat → Prop, K1 = fun k => K k ∨ w.heap.size ≤ k ∧ k < w1.heap.size := ⟨_, rfl⟩
  have HK1 : Hid (K1 = fun k => K k ∨ w.heap.size ≤ k ∧ k < w1.heap.size) := hK1
  have HD1 : Hid (DK w1 d S K1 gs) := by unfold Hid; rw [hK1]; exact HD.out.newAll hb
  clear hO hb HP ht hn hK1 c0 c1 c2
  have hR1 : ((R.length : Int) == 200) = false := by rw [beq_eq_false_iff_ne]; omega
  have HX : Hid (∀ W, Below w1.heap.size w1 W → Calls Try.prog 39 #[.pointer (some ⟨d, 0, none⟩), .string (mkT (frm s))] W (fun e w' => ∃ z, e = .returned (.int .i64 z) ∧ ExtP S (frm s) W d (fun k => K1 k ∨ w1.heap.size ≤ k ∧ k < W.heap.size) gs z w')) := fun W hW => extend_any (frm s) W (HD1.out.newAll hW) (by rw [frm_len, HM.out]; omega) HL.out
  clear hbig
  go_wp2_with fail
  have HKX : Hid (∀ W z w', Below w1.heap.size w1 W → ExtP S (frm s) W d (fun k => K1 k ∨ w1.heap.size ≤ k ∧ k < W.heap.size) gs z w' → w'.cell? ⟨lb, 0, none⟩ = some (.pointer (some ⟨d, 0, none⟩))) := by
    rintro W z w' hW ⟨g, gs', _, _, _, _, hk⟩
    have : K1 lb := by rw [HK1.out]; exact .inl HG.out.kl
    rw [hk.cell (.inl this), hW.cell (p := ⟨lb, 0, none⟩) hlb1]; exact d0
  go_region_held3 (fun w' : World => w'.cell? ⟨lb, 0, none⟩ = some (.pointer (some ⟨d, 0, none⟩))) (first | exact d0 | exact (hb2.cell (p := ⟨lb, 0, none⟩) hlb1).trans d0 | exact HKX.out _ _ _ (bdrew hb2) hp3) ((first | (go_at_call 14; refine (HFR.out _).mono ?_; rintro e w2 ⟨rfl, hb2⟩) | (go_at_call 39; refine (HX.out _ (bdrew hb2)).mono ?_; rintro e w3 ⟨z, rfl, hp3⟩)))
  have hb2' : Below w1.heap.size w1 w2 := (bdrew hb2)
  obtain ⟨g, gs', hz, hd3, hgn, hgs, hk3⟩ := hp3
  have HZ : Hid (z = (extS S (frm s) g).1) := hz
  have HGN : Hid (g ∉ gs ∧ ∀ k ∈ gs, k ∈ gs') := ⟨hgn, hgs⟩
  obtain ⟨K2, hK2⟩ : ∃ K2 : Nat → Prop, K2 = fun k => K1 k ∨ w1.heap.size ≤ k ∧ k < w2.heap.size := ⟨_, rfl⟩
  rw [← hK2] at hd3 hk3
  have HKK : Hid (∀ k, K k → K2 k) := fun k hk => by rw [hK2, HK1.out]; exact .inl (.inl hk)
  have HKR : Hid (∀ k, w.heap.size ≤ k → k < w1.heap.size → K2 k) := fun k h1 h2 => by rw [hK2, HK1.out]; exact .inl (.inr ⟨h1, h2⟩)
  have HD3 : Hid (DK w3 d (extS S (frm s) g).2 K2 gs') := hd3
  have HG3 : Hid (LG w3 lb d K2 rs tn v) := ((HG.out.below (HB.out.trans (hb2'.mono HB.out.size)) (fun k hk => hk)).kept (hk3.mono HKK.out) (fun k hk => hk)).kept (Keeps.refl _ _) HKK.out
  have HO3 : Hid (OS w3 w.heap.size (.slice a R.length c) R) := own_kept (own_kept HO.out (fun r hr => hb2'.block r (HO.out.lt r hr).2)) (fun r hr => hk3.block r (HKR.out r (HO.out.lt r hr).1 (HO.out.lt r hr).2))
  have HK3 : Hid (Keeps K w w3) := ((Keeps.of_below HB.out HD.out.Kb).trans (Keeps.of_below hb2' (fun k hk => Nat.lt_of_lt_of_le (HD.out.Kb k hk) HB.out.size))).trans (hk3.mono HKK.out)
  have hsz3 : w.heap.size ≤ w3.heap.size := Nat.le_trans HB.out.size (Nat.le_trans hb2'.size hk3.size)
  clear hb2 hb2' hd3 hgn hgs hk3 hz HX HKX HD1 HFR hK2 d0
  by_cases h0 : z = 0
  · subst h0
    go_wp2_with fail
    refine (HCL.out _).mono ?_
    rintro e w4 ⟨rfl, hb4⟩
    have HB4 : Hid (Below w3.heap.size w3 w4) := hb4
    have HO4 : Hid (OS w4 w.heap.size (.slice a R.length c) R) := HO3.out.below hb4
    have hsz4 : w.heap.size ≤ w4.heap.size := Nat.le_trans hsz3 hb4.size
    have HG4 : Hid (LG w4 lb d (fun k => K2 k ∨ w3.heap.size ≤ k ∧ k < w4.heap.size) rs tn v) := HG3.out.below hb4 (fun k hk => .inl hk)
    have HRB : Hid (∀ k, (Value.slice a R.length c).ownBlock = some k → w.heap.size ≤ k ∧ k < w1.heap.size) := fun k hk => HO.out.lt k hk
    clear hb4
    have hlne : ∀ r, (Value.slice a R.length c).ownBlock = some r → r ≠ lb := fun r hr => by have := (HRB.out r hr).1; omega
    have HLN : Hid (∀ r, (Value.slice a R.length c).ownBlock = some r → r ≠ lb) := hlne
    have HFZ : Hid (∀ W, w4.grownBy W (Value.slice a R.length c).ownBlock → W.frozen? ⟨lb, 1, none⟩ = false ∧ W.frozen? ⟨lb, 2, none⟩ = false ∧ W.cell? ⟨lb, 1, none⟩ = some v ∧ W.cell? ⟨lb, 2, none⟩ = some (.bool tn)) := fun W hW => by
      have hc := (hW.block lb HG4.out.lt (fun e => HLN.out lb e.symm rfl)).trans HG4.out.cell
      simp [World.frozen?, World.cell?, hc]
    clear hlne
    rw [← HTS.out]
    go_wp2_with (at_builtin; refine append_one rfl _ _ rfl w.heap.size (.slice a R.length c) R s rfl rfl HO4.out (by omega) hsz4 ?_; intro a' c' w5 hO5 hg5 hr5; obtain ⟨f1, f2, q1, q2⟩ := HFZ.out _ hg5)
    have HP : Hid _ := addP_done (s := s) (extS S (frm s)) HZ.out HGN.out HD3.out HG.out HG3.out HKK.out (fun r hr => ⟨(HRB.out r hr).1, HKR.out r (HRB.out r hr).1 (HRB.out r hr).2⟩) HK3.out HB4.out hg5 hO5 hr5 HD.out.Kb
    go_ret
    exact ⟨0, rfl, HP.out⟩
  · obtain ⟨z0, z1⟩ := neq_facts h0
    have HP : Hid (AddP w lb d K gs rs (R ++ [s]) tn (extS S (frm s)) z w3) := ⟨⟨K2, gs', g, HZ.out, by rw [if_neg h0, if_neg h0]; exact ⟨HD3.out, v, HG3.out⟩, HGN.out.1, HGN.out.2, HKK.out⟩, HK3.out.mono (fun k hk => hk.1), fun v' hv' => .inl (by rw [HG3.out.cells.2.1] at hv'; rw [← hv']; exact HG.out.cells.2.1)⟩
    clear h0
    go_wp2
    go_ret
    exact ⟨z, rfl, HP.out⟩
set_option maxRecDepth 100000 in
set_option maxHeartbeats 2000000 in
theorem add_rep {lb d : Nat} {S : DS} {K : Nat → Prop} {gs : List Nat} {rs : List (List UInt8)} {tn : Bool} (s : List UInt8) (w : World) (h : LD w lb d S K gs rs tn) (hs : s.length ≤ 5000) (he : rdE S logN = 0) (hl : LB S 1000)
    (hR : (prs 200 (rdV S logN)).1.length < 200) (ht : (prs 200 (rdV S logN)).2 < (rdV S logN).length) :
    Calls Try.prog 19 #[.pointer (some ⟨lb, 0, none⟩), .string (mkT s)] w fun e w' => ∃ z, e = .returned (.int .i64 z) ∧ AddP w lb d K gs rs ((prs 200 (rdV S logN)).1 ++ [s]) tn (repS S ((rdV S logN).take (prs 200 (rdV S logN)).2 ++ frm s)) z w' := by
  obtain ⟨hd, v, hg⟩ := h
  have HD : Hid (DK w d S K gs) := hd
  have HG : Hid (LG w lb d K rs tn v) := hg
  obtain ⟨c0, c1, c2⟩ := hg.cells
  have hlb := hg.lt
  have hbig := rdV_big hd logN
  have HR0 := read_any logN w hd (by decide)
  rw [he] at HR0
  have HR : Hid (Calls Try.prog _ _ _ _) := HR0
  have HL : Hid (LB S 1000) := hl
  clear hd hg HR0 hl he
  generalize rdV S logN = B at *
  have HP : Hid (∀ W, Calls Try.prog _ _ W _) := fun W => parse_any B W (by omega)
  have hBs := mkT_sz B
  obtain ⟨n, hn⟩ : ∃ n, B.length = n := ⟨_, rfl⟩
  rw [hn] at hBs ht hbig
  obtain ⟨t, htt⟩ : ∃ t, (prs 200 B).2 = t := ⟨_, rfl⟩
  rw [htt] at ht
  have HE : Hid (∀ X : ByteArray, X = mkT (frm s) → (mkT B).extract 0 t ++ X = mkT (B.take t ++ frm s)) := by
    rintro X rfl
    rw [mkT_cut, mkT_append]; simp
  have HEL : Hid ((B.take t ++ frm s).length ≤ 1099511627776) := by
    unfold Hid; rw [List.length_append, List.length_take, frm_len]; omega
  have hes : ((mkT B).extract 0 t).size = t := by rw [ext_size _ _ _ (by omega)]; omega
  have hti : (t : Int) < (n : Int) := by omega
  have htne : ((t : Int) == (n : Int)) = false := by rw [beq_eq_false_iff_ne]; omega
  have hfs : (mkT (frm s)).size ≤ 5008 := by rw [mkT_sz, frm_len]; omega
  have hsl : ∀ W : World, (Instr.slice 9 (.string (mkT B)) none (some (.int .i64 (t : Int))) none).run Try.prog W = .ok (.string ((mkT B).extract 0 t)) W := fun W => by
    rw [run_slice_string_to_if W 9 (mkT B) .i64 (t : Int) Try.underlying9, if_pos ⟨by omega, by rw [mkT_sz, hn]; omega⟩, Int.toNat_natCast]
  have hadd : ∀ W : World, (Op.stringOp .add ((mkT B).extract 0 t) (mkT (frm s))).run Try.prog W = .ok (.string (mkT (B.take t ++ frm s))) W := fun W => by
    rw [run_string_add_sum W _ _ (by omega), HE.out _ rfl]
  rw [htt]
  generalize (prs 200 B).1 = R at *
  generalize hX : B.take t ++ frm s = X at *
  clear hX
  have hss := mkT_sz s
  have HFR : Hid (∀ W, Calls Try.prog _ _ W _) := fun W => frame_any s W (by omega)
  have HCL : Hid (∀ W, Calls Try.prog _ _ W _) := fun W => clone_any (mkT s) W (by omega)
  have hsi : ¬ (5000 : Int) < (s.length : Int) := by omega
  generalize hTs : mkT s = T at *
  have HTS : Hid (mkT s = T) := hTs
  clear hTs
  generalize hTB : mkT B = TB at *
  clear hTB HE
  generalize TB.extract 0 t = ET at *
  obtain ⟨m, hm⟩ : ∃ m, s.length = m := ⟨_, rfl⟩
  have HM : Hid (s.length = m) := hm
  rw [hm] at hss hsi hs
  clear hm
  go_enter Try.func19, Try.ntmps19
  go_wp2_with fail
  refine HR.out.mono ?_
  rintro e w1 ⟨rfl, e1⟩
  have e2 := e1.symm
  subst e2
  clear HR e1
  go_wp2_with fail
  refine (HP.out _).mono ?_
  rw [htt]
  rintro e w1 ⟨v1, rfl, hO, hb⟩
  obtain ⟨a, c, rfl⟩ := hO.shape
  have HO : Hid (OS w1 w.heap.size (.slice a R.length c) R) := hO
  have HB : Hid (Below w.heap.size w w1) := hb
  have d0 : w1.cell? ⟨lb, 0, none⟩ = some (.pointer (some ⟨d, 0, none⟩)) := (hb.cell (p := ⟨lb, 0, none⟩) hlb).trans c0
  have hlb1 : lb < w1.heap.size := Nat.lt_of_lt_of_le hlb hb.size
  obtain ⟨K1, hK1⟩ : ∃ K1 : Nat → Prop, K1 = fun k => K k ∨ w.heap.size ≤ k ∧ k < w1.heap.size := ⟨_, rfl⟩
  have HK1 : Hid (K1 = fun k => K k ∨ w.heap.size ≤ k ∧ k < w1.heap.size) := hK1
  have HD1 : Hid (DK w1 d S K1 gs) := by unfold Hid; rw [hK1]; exact HD.out.newAll hb
  clear hO hb HP ht htt hn hK1 c0 c1 c2
  have hR1 : ((R.length : Int) == 200) = false := by rw [beq_eq_false_iff_ne]; omega
  have HX : Hid (∀ W, Below w1.heap.size w1 W → Calls Try.prog 38 #[.pointer (some ⟨d, 0, none⟩), .string (mkT X)] W (fun e w' => ∃ z, e = .returned (.int .i64 z) ∧ RepP S X W d (fun k => K1 k ∨ w1.heap.size ≤ k ∧ k < W.heap.size) gs z w')) := fun W hW => replace_any X W (HD1.out.newAll hW) HEL.out HL.out
  have htb : t ≤ 1073741824 := by omega
  have htbi : (t : Int) ≤ 1073741824 := by omega
  clear hbig
  go_wp2_with fail
  have HKX : Hid (∀ W z w', Below w1.heap.size w1 W → RepP S X W d (fun k => K1 k ∨ w1.heap.size ≤ k ∧ k < W.heap.size) gs z w' → w'.cell? ⟨lb, 0, none⟩ = some (.pointer (some ⟨d, 0, none⟩))) := by
    rintro W z w' hW ⟨g, gs', _, _, _, _, hk⟩
    have : K1 lb := by rw [HK1.out]; exact .inl HG.out.kl
    rw [hk.cell (.inl this), hW.cell (p := ⟨lb, 0, none⟩) hlb1]; exact d0
  go_region_held3 (fun w' : World => w'.cell? ⟨lb, 0, none⟩ = some (.pointer (some ⟨d, 0, none⟩))) (first | exact d0 | exact (hb2.cell (p := ⟨lb, 0, none⟩) hlb1).trans d0 | exact HKX.out _ _ _ (bdrew hb2) hp3) ((first | (go_at_call 14; refine (HFR.out _).mono ?_; rintro e w2 ⟨rfl, hb2⟩) | (go_at_call 38; refine (HX.out _ (bdrew hb2)).mono ?_; rintro e w3 ⟨z, rfl, hp3⟩)))
  all_goals
    have hb2' : Below w1.heap.size w1 w2 := (bdrew hb2)
    obtain ⟨g, gs', hz, hd3, hgn, hgs, hk3⟩ := hp3
    have HZ : Hid (z = (repS S X g).1) := hz
    have HGN : Hid (g ∉ gs ∧ ∀ k ∈ gs, k ∈ gs') := ⟨hgn, hgs⟩
    obtain ⟨K2, hK2⟩ : ∃ K2 : Nat → Prop, K2 = fun k => K1 k ∨ w1.heap.size ≤ k ∧ k < w2.heap.size := ⟨_, rfl⟩
    rw [← hK2] at hd3 hk3
    have HKK : Hid (∀ k, K k → K2 k) := fun k hk => by rw [hK2, HK1.out]; exact .inl (.inl hk)
    have HKR : Hid (∀ k, w.heap.size ≤ k → k < w1.heap.size → K2 k) := fun k h1 h2 => by rw [hK2, HK1.out]; exact .inl (.inr ⟨h1, h2⟩)
    have HD3 : Hid (DK w3 d (repS S X g).2 K2 gs') := hd3
    have HG3 : Hid (LG w3 lb d K2 rs tn v) := ((HG.out.below (HB.out.trans (hb2'.mono HB.out.size)) (fun k hk => hk)).kept (hk3.mono HKK.out) (fun k hk => hk)).kept (Keeps.refl _ _) HKK.out
    have HO3 : Hid (OS w3 w.heap.size (.slice a R.length c) R) := own_kept (own_kept HO.out (fun r hr => hb2'.block r (HO.out.lt r hr).2)) (fun r hr => hk3.block r (HKR.out r (HO.out.lt r hr).1 (HO.out.lt r hr).2))
    have HK3 : Hid (Keeps K w w3) := ((Keeps.of_below HB.out HD.out.Kb).trans (Keeps.of_below hb2' (fun k hk => Nat.lt_of_lt_of_le (HD.out.Kb k hk) HB.out.size))).trans (hk3.mono HKK.out)
    have hsz3 : w.heap.size ≤ w3.heap.size := Nat.le_trans HB.out.size (Nat.le_trans hb2'.size hk3.size)
    clear hb2 hb2' hd3 hgn hgs hk3 hz HX HKX HD1 HFR hK2 d0
    by_cases h0 : z = 0
    · subst h0
      go_wp2_with fail
      refine (HCL.out _).mono ?_
      rintro e w4 ⟨rfl, hb4⟩
      have HB4 : Hid (Below w3.heap.size w3 w4) := hb4
      have HO4 : Hid (OS w4 w.heap.size (.slice a R.length c) R) := HO3.out.below hb4
      have hsz4 : w.heap.size ≤ w4.heap.size := Nat.le_trans hsz3 hb4.size
      have HG4 : Hid (LG w4 lb d (fun k => K2 k ∨ w3.heap.size ≤ k ∧ k < w4.heap.size) rs tn v) := HG3.out.below hb4 (fun k hk => .inl hk)
      have HRB : Hid (∀ k, (Value.slice a R.length c).ownBlock = some k → w.heap.size ≤ k ∧ k < w1.heap.size) := fun k hk => HO.out.lt k hk
      clear hb4
      have hlne : ∀ r, (Value.slice a R.length c).ownBlock = some r → r ≠ lb := fun r hr => by have := (HRB.out r hr).1; omega
      have HLN : Hid (∀ r, (Value.slice a R.length c).ownBlock = some r → r ≠ lb) := hlne
      have HFZ : Hid (∀ W, w4.grownBy W (Value.slice a R.length c).ownBlock → W.frozen? ⟨lb, 1, none⟩ = false ∧ W.frozen? ⟨lb, 2, none⟩ = false ∧ W.cell? ⟨lb, 1, none⟩ = some v ∧ W.cell? ⟨lb, 2, none⟩ = some (.bool tn)) := fun W hW => by
        have hc := (hW.block lb HG4.out.lt (fun e => HLN.out lb e.symm rfl)).trans HG4.out.cell
        simp [World.frozen?, World.cell?, hc]
      clear hlne
      rw [← HTS.out]
      go_wp2_with (at_builtin; refine append_one rfl _ _ rfl w.heap.size (.slice a R.length c) R s rfl rfl HO4.out (by omega) hsz4 ?_; intro a' c' w5 hO5 hg5 hr5; obtain ⟨f1, f2, q1, q2⟩ := HFZ.out _ hg5)
      have HP : Hid _ := addP_done (s := s) (repS S X) HZ.out HGN.out HD3.out HG.out HG3.out HKK.out (fun r hr => ⟨(HRB.out r hr).1, HKR.out r (HRB.out r hr).1 (HRB.out r hr).2⟩) HK3.out HB4.out hg5 hO5 hr5 HD.out.Kb
      go_ret
      exact ⟨0, rfl, HP.out⟩
    · obtain ⟨z0, z1⟩ := neq_facts h0
      have HP : Hid (AddP w lb d K gs rs (R ++ [s]) tn (repS S X) z w3) := ⟨⟨K2, gs', g, HZ.out, by rw [if_neg h0, if_neg h0]; exact ⟨HD3.out, v, HG3.out⟩, HGN.out.1, HGN.out.2, HKK.out⟩, HK3.out.mono (fun k hk => hk.1), fun v' hv' => .inl (by rw [HG3.out.cells.2.1] at hv'; rw [← hv']; exact HG.out.cells.2.1)⟩
      clear h0
      go_wp2
      go_ret
      exact ⟨z, rfl, HP.out⟩
end Go.Proofs.Ytkaikjlklhcnlaa
