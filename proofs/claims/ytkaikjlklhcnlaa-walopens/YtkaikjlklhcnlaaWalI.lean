/- Contracts: what the laws of layer 15 share. -/
import Derived.Test.YtkaikjlklhcnlaaWalH
import Derived.Test.YtkaikjlklhcnlaaWalP
import Derived.Test.YtkaikjlklhcnlaaStrS
namespace Go.Proofs.Ytkaikjlklhcnlaa
open Go.RowKit Go.Maps
set_option linter.unusedVariables false
set_option linter.unusedSimpArgs false

theorem bdrewN {B : Nat} {w w' : World} (h : Below B w w') (n : Nat) : Below B w (w'.drewN n) := ⟨h.os, h.tape, h.output, h.size, h.block⟩
set_option maxRecDepth 100000 in
set_option maxHeartbeats 1000000 in
theorem same15_any {lb d : Nat} {K : Nat → Prop} {rs : List (List UInt8)} {tn : Bool} {v : Value} (u : Value) (want : List (List UInt8)) (w : World) (h : LG w lb d K rs tn v) (hu : RS w u want) (hl : rs.length ≤ 100000) (hw : want.length ≤ 100000) :
    Calls Try.prog 17 #[.pointer (some ⟨lb, 0, none⟩), u] w fun e w' => e = .returned (.bool (decide (rs = want))) ∧ Below w.heap.size w w' := by
  have HR : Hid (Calls Try.prog _ _ _ _) := records_any w h hl
  have HU : Hid (RS w u want) := hu
  obtain ⟨ua, uc, rfl, _⟩ := id hu
  clear h hu
  go_enter Try.func17, Try.ntmps17
  go_wp2_with fail
  refine HR.out.mono ?_
  rintro e w1 ⟨v', rfl, hO, hb⟩
  have HB : Hid (Below w.heap.size w w1) := hb
  have HS : Hid (Calls Try.prog _ _ _ _) := same_any v' (.slice ua want.length uc) rs want w1 hO.rs (HU.out.below hb) (by omega) (by omega)
  obtain ⟨a, c, rfl⟩ := hO.shape
  clear hO hb HR
  go_wp2_with fail
  refine HS.out.mono ?_
  by_cases hq : rs = want
  · have e1 : sameN rs want = 0 := if_pos hq
    have HQ : Hid (decide (rs = want) = true) := decide_eq_true hq
    rw [e1]
    rintro e w2 ⟨rfl, n, rfl⟩
    clear hq e1 HS
    go_wp2
    go_ret
    rw [HQ.out]
    exact ⟨rfl, bdrewN HB.out n⟩
  · have e1 : sameN rs want = -1 := if_neg hq
    have HQ : Hid (decide (rs = want) = false) := decide_eq_false hq
    rw [e1]
    rintro e w2 ⟨rfl, n, rfl⟩
    clear hq e1 HS
    go_wp2
    go_ret
    rw [HQ.out]
    exact ⟨rfl, bdrewN HB.out n⟩
set_option maxRecDepth 100000 in
set_option maxHeartbeats 1000000 in
theorem others_any {d : Nat} {S : DS} {K : Nat → Prop} {gs : List Nat} {T : Fo} {a : Nat} {B : List UInt8} {o : Nat} {room : Int} {N : Nat} (w : World) (h : DK w d S K gs) (hw : LW S T a B o room N) :
    Calls Try.prog 20 #[.pointer (some ⟨d, 0, none⟩)] w fun e w' => e = .returned (.bool true) ∧ Below w.heap.size w w' := by
  have HR0 := read_any othN w h (by decide)
  rw [hw.rdo.1, hw.rdo.2] at HR0
  have HR : Hid (Calls Try.prog _ _ _ _) := HR0
  obtain ⟨l1, l2, _, _⟩ := hw.len
  have HL : Hid (Calls Try.prog _ _ _ _) := list_any w h hw.dead (by omega)
  have hl := nms_len S.now
  have hq : ((mkT othD).toList == [115, 111, 109, 101, 116, 104, 105, 110, 103]) = true := by rw [mkT_toList]; decide
  clear HR0 hw h
  go_enter Try.func20, Try.ntmps20
  go_wp2_with fail
  refine HR.out.mono ?_
  rintro e w1 ⟨rfl, e1⟩
  have e2 := e1.symm
  subst e2
  clear HR e1
  generalize mkT othD = OD at *
  go_wp2_with fail
  refine HL.out.mono ?_
  rintro e w1 ⟨v, rfl, hO, hb⟩
  obtain ⟨va, vc, rfl⟩ := hO.shape
  have HB : Hid (Below w.heap.size w w1) := hb
  clear hO hb HL
  rw [hl]
  generalize S.now.length = n at *
  have l1i : (2 : Int) ≤ (n : Int) := by omega
  have l2i : (n : Int) ≤ 3 := by omega
  go_wp2
  go_ret
  exact ⟨rfl, HB.out⟩
/-- A disk with a log and another file, a log of it in memory; others hold all that lay below B0. -/
structure LS (w : World) (lb d : Nat) (S : DS) (T : Fo) (a : Nat) (B : List UInt8) (o : Nat) (room : Int) (N : Nat) (B0 : Nat) (rs : List (List UInt8)) (tn : Bool) : Prop where
  ld : ∃ K gs, LD w lb d S K gs rs tn ∧ ∀ k, k < B0 → K k
  lw : LW S T a B o room N
  lb0 : B0 ≤ lb
set_option maxRecDepth 100000 in
set_option maxHeartbeats 2000000 in
theorem start_any' (room : Int) (w : World) (h0 : 9 ≤ room) (h1 : room ≤ 1073741824) :
    Calls Try.prog 16 #[.int .i64 room] w fun e w' => ∃ lb d S a o, e = .returned (.tuple #[.pointer (some ⟨d, 0, none⟩), .pointer (some ⟨lb, 0, none⟩)]) ∧ LS w' lb d S [] a [] o room 0 w.heap.size [] false ∧ Below w.heap.size w w' ∧ ∀ v, w'.cell? ⟨lb, 1, none⟩ = some v → ∀ r, v.ownBlock = some r → w.heap.size ≤ r := by
  go_enter Try.func16, Try.ntmps16
  go_wp2_with fail
  refine (new_good room w (by omega) h1).mono ?_
  rintro e w1 ⟨d, rfl, hd1, hb1⟩
  have HD1 : Hid (DK w1 d (newS room) (fun k => k < w.heap.size) []) := hd1
  have HK1 : Hid (Keeps (fun k => k < w.heap.size) w w1) := Keeps.of_below hb1 (fun k hk => hk)
  clear hd1 hb1
  go_wp2_with fail
  refine (append_any othN othD w1 HD1.out (by decide) (by decide) (by simp [newS]) (by simp [newS])).mono ?_
  rintro e w2 ⟨rfl, ⟨o, gs2, hd2, _, _⟩, hk2⟩
  obtain ⟨e1, e2, hst⟩ := start1 h0 o
  rw [e1]
  have HD2 : Hid _ := hd2
  have HK2 : Hid (Keeps (fun k => k < w.heap.size) w w2) := HK1.out.trans hk2
  have HST : Hid (St2 (syS (apS (newS room) othN othD o) othN) o room) := hst
  have HSY := sync_any othN w2 HD2.out (by decide)
  rw [e2] at HSY
  generalize apS (newS room) othN othD o = S1 at *
  generalize syS S1 othN = S2 at *
  have HSY' : Hid (Calls Try.prog _ _ _ _) := HSY
  clear hd2 hk2 HD1 HK1 HSY e1 e2 hst
  go_wp2_with fail
  refine HSY'.out.mono ?_
  rintro e w3 ⟨rfl, hd3, hk3⟩
  have HD3 : Hid (DK w3 d S2 (fun k => k < w.heap.size) gs2) := hd3
  have HK3 : Hid (Keeps (fun k => k < w.heap.size) w w3) := HK2.out.trans hk3
  have HF : Hid (Calls Try.prog _ _ _ _) := format_any w3 hd3 ⟨by rw [HST.out.now]; simp, by have := HST.out.steps; omega⟩
  clear hd3 hk3 HSY' HD2 HK2
  go_wp2_with fail
  refine HF.out.mono ?_
  rintro e w4 ⟨z, rfl, g, gs4, hz, hd4, hgn, hgs, hk4⟩
  have hog : o ≠ g := fun e => by
    apply hgn
    obtain ⟨_, _, _, _, hd⟩ := HD3.out
    have := (hd.inN (othN, o) (by rw [HST.out.now]; exact List.mem_cons_self)).1
    rw [← e]; exact this
  obtain ⟨e5, hlw⟩ := HST.out.fmt h0 hog
  rw [e5] at hz
  subst hz
  have HLW : Hid (LW (repS S2 [] g).2 [] g [] o room 0) := hlw
  have HD4 : Hid (DK w4 d (repS S2 [] g).2 (fun k => k < w.heap.size) gs4) := hd4
  have HK4 : Hid (Keeps (fun k => k < w.heap.size) w w4) := HK3.out.trans hk4
  clear hd4 hgn hgs hk4 HF HD3 HK3 e5 hlw HST hog
  generalize (repS S2 [] g).2 = S3 at *
  obtain ⟨q1, q2⟩ := HLW.out.rd
  have HO := open_good' w4 HD4.out q1 (by rw [q2]; simp)
  rw [q2] at HO
  have hpn : prs 200 [] = ([], 0) := prs_nil 200
  rw [hpn] at HO
  have HO' : Hid (Calls Try.prog _ _ _ _) := HO
  clear HO q1 q2 hpn
  go_wp2_with fail
  refine HO'.out.mono ?_
  rintro e w5 ⟨lb, K5, rfl, hld, hkk, hlb, hb5, hvb5⟩
  have HVB : Hid (∀ v, w5.cell? ⟨lb, 1, none⟩ = some v → ∀ r, v.ownBlock = some r → w.heap.size ≤ r) := fun v hv r hr => Nat.le_trans HK4.out.size (hvb5 v hv r hr)
  have HLS : Hid (LS w5 lb d S3 [] g [] o room 0 w.heap.size [] false) := ⟨⟨K5, gs4, hld, fun k hk => hkk k hk⟩, HLW.out, Nat.le_trans HK4.out.size hlb⟩
  have HB5 : Hid (Below w.heap.size w w5) := HK4.out.below.trans (hb5.mono HK4.out.size)
  clear hld hkk hlb hb5 hvb5 HO'
  go_wp2
  go_ret2
  exact ⟨lb, d, S3, g, o, rfl, HLS.out, HB5.out, HVB.out⟩
theorem start_any (room : Int) (w : World) (h0 : 9 ≤ room) (h1 : room ≤ 1073741824) :
    Calls Try.prog 16 #[.int .i64 room] w fun e w' => ∃ lb d S a o, e = .returned (.tuple #[.pointer (some ⟨d, 0, none⟩), .pointer (some ⟨lb, 0, none⟩)]) ∧ LS w' lb d S [] a [] o room 0 w.heap.size [] false ∧ Below w.heap.size w w' :=
  (start_any' room w h0 h1).mono fun e w' ⟨lb, d, S, a, o, h1, h2, h3, _⟩ => ⟨lb, d, S, a, o, h1, h2, h3⟩
end Go.Proofs.Ytkaikjlklhcnlaa
