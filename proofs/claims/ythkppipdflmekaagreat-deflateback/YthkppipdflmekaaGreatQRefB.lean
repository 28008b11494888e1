/- Contracts of the document's Row, Within, Bit and Number of layer 3. -/
import Derived.Test.YthkppipdflmekaaGreatRows
import Derived.Test.YthkppipdflmekaaGreatQHuffM
import Derived.Deep.OwnRows
import Derived.Laws.OwnMore
import Derived.Deep.QuietTactic
import Derived.BigQuiet
import Derived.Test.YthkppipdflmekaaGreatQPutA
set_option maxRecDepth 100000
set_option maxHeartbeats 1000000
namespace Go.Proofs.YthkppipdflmekaaGreat
open Go.RowKit
set_option linter.unusedVariables false
theorem Tryz.infoBo : (Tryz.prog.info? 4).map (fun i => (i.zero, i.size, i.bytes)) = some (some (.bool false), 1, 1) := by kernel_rfl
def cbs (l : List Bool) : List Value := l.map Value.bool
theorem qfm (l : List Bool) : (cbs l).length = l.length := by simp [cbs]
theorem qsc (l : List Bool) (b : Bool) : cbs (l ++ [b]) = cbs l ++ [.bool b] := by simp [cbs]
theorem qsd (l : List Bool) (i : Nat) (h : i < l.length) : (cbs l)[i]? = some (.bool (l.getD i false)) := by
 simp [cbs, List.getElem?_eq_getElem h, List.getD_eq_getElem?_getD]
theorem qxa (l : List Bool) : ∀ v ∈ cbs l, v.oneCell' = true := by
 intro v hv
 simp [cbs] at hv
 rcases hv with ⟨_, rfl⟩ | ⟨_, rfl⟩ <;> rfl
def OB (w : World) (B : Nat) (v : Value) (L : List Bool) : Prop := ∃ g cap, v = .slice (some ⟨g, 0, none⟩) L.length cap ∧ w.ownsRow B 4 1 v L.length (cbs L)
theorem OB.drew {w : World} {B : Nat} {v : Value} {L : List Bool} (h : OB w B v L) : OB w.drew B v L := h
theorem OB.kept {w w' : World} {B : Nat} {v : Value} {L : List Bool} {row : Option Nat} (h : OB w B v L) (hg : w.grownBy w' row) (hne : v.ownBlock ≠ row) : OB w' B v L := by
 obtain ⟨g, cap, rfl, ho⟩ := h
 exact ⟨g, cap, rfl, ho.kept hg (.inr hne)⟩
theorem OB.below {w w' : World} {B : Nat} {v : Value} {L : List Bool} (h : OB w B v L) (hb : Below w.heap.size w w') : OB w' B v L := by
 obtain ⟨g, cap, rfl, ho⟩ := h
 exact ⟨g, cap, rfl, ho.kept (row := none) ⟨hb.os, hb.tape, hb.output, hb.size, fun k hk _ => hb.block k hk⟩ (.inr (by simp [Value.ownBlock]))⟩
theorem OB.of {w : World} {B n : Nat} {v : Value} {L : List Bool} (h : w.ownsRow B 4 1 v n (cbs L)) (hne : v ≠ .slice none 0 0) : OB w B v L := by
 have hl := h.1
 rw [qfm, Nat.mul_one] at hl
 subst hl
 rcases h.2 with ⟨q, _⟩ | ⟨g, cap, cur, rfl, _⟩
 · exact absurd q hne
 · exact ⟨g, cap, rfl, h⟩
theorem OB.cell {w : World} {B g cap : Nat} {L : List Bool} (h : OB w B (.slice (some ⟨g, 0, none⟩) L.length cap) L) (i : Nat) (hi : i < L.length) : w.cell? ⟨g, i, none⟩ = some (.bool (L.getD i false)) := by
 obtain ⟨g', cap', e, ho⟩ := h
 rw [ho.cellAt i (by omega), qsd _ _ hi]
theorem OB.lt {w : World} {B g n cap : Nat} {L : List Bool} (h : OB w B (.slice (some ⟨g, 0, none⟩) n cap) L) : B ≤ g ∧ g < w.heap.size := by
 obtain ⟨g', cap', e, ho⟩ := h
 exact ho.lt g rfl
theorem qy0 {w : World} {g n B : Nat} {L : List Bool} (h : w.rowIs g 4 n (fun j => .bool (L.getD j false))) (hB : B ≤ g) (hn : L.length = n) (hm : n ≤ 1000000) : OB w B (.slice (some ⟨g, 0, none⟩) n n) L := by
 obtain ⟨c, h1, h2, h3⟩ := h
 subst hn
 refine ⟨g, L.length, rfl, by rw [qfm, Nat.mul_one], .inr ⟨g, L.length, c, rfl, hB, h1, Nat.le_refl _, by unfold maxLen; omega, by rw [h2, Nat.mul_one], ?_⟩⟩
 apply List.ext_getElem?
 intro i
 rw [Nat.mul_one, List.getElem?_take]
 by_cases hi : i < L.length
 · rw [if_pos hi, qsd _ _ hi, ← h3 i hi]; simp
 · rw [if_neg hi, List.getElem?_eq_none (by rw [qfm]; omega)]
theorem q1a {w w1 : World} {v1 : Value} {L : List Bool} {N : Nat} (hown : w1.ownsRow w.heap.size 4 1 v1 N (cbs L)) (hg : (w.alloc (.cells #[] 4)).grownBy w1 (Value.ownBlock (.slice (some ⟨w.heap.size, 0, none⟩) 0 0)))
    (hne : ¬ v1 = .slice none 0 0) : OB w1 w.heap.size v1 L ∧ Below w.heap.size w w1 := by
 refine ⟨OB.of hown hne, ?_⟩
 exact ((Below.refl _ w).alloc (Nat.le_refl _) (.cells #[] 4)).grown hg (by simp) (fun k hk => by simp [Value.ownBlock] at hk; omega)
theorem OB.push {w wr w1 : World} {B : Nat} {v v1 : Value} {L : List Bool} {b : Bool} {n : Nat} (hB : B ≤ wr.heap.size) (hb : Below B w wr) (hO : wr.ownsRow B 4 1 v n (cbs L)) (o : Obj) (hown : w1.ownsRow B 4 1 v1 (n + 1) (cbs L ++ [.bool b])) (hg : (wr.alloc o).grownBy w1 v.ownBlock)
    (hne : ¬ v1 = .slice none 0 0) : OB w1 B v1 (L ++ [b]) ∧ Below B w w1 := by
 rw [← qsc] at hown
 exact ⟨OB.of hown hne, qg0 hb hB hO hg⟩
theorem q2a (s : ByteArray) (k : Nat) (h : k / 8 < s.size) : decide (0 < bits BinOp.and IntKind.u8 (s[k / 8].toNat : Int) (2 ^ (k % 8) % 256)) = sbit s.data.toList k := by
 have hb := s[k / 8].toNat_lt
 have h8 : k % 8 < 8 := Nat.mod_lt _ (by decide)
 have hp : 2 ^ (k % 8) < 256 := Nat.pow_lt_pow_right (a := 2) (by decide) h8
 have e2 : s.data.toList.getD (k / 8) 0 = s[k / 8] := by
  rw [List.getD_eq_getElem?_getD, List.getElem?_eq_getElem (by rw [qad]; exact h)]; rfl
 have e3 : ((2 : Int) ^ (k % 8)) % 256 = ((2 ^ (k % 8) : Nat) : Int) := by
  have e4 : ((2 : Int) ^ (k % 8)) = ((2 ^ (k % 8) : Nat) : Int) := by simp
  rw [e4]
  generalize 2 ^ (k % 8) = q at *
  omega
 rw [e3, u8_and_nat _ _ hb hp, nat_bit]
 unfold sbit
 rw [e2, Nat.testBit_eq_decide_div_mod_eq]
 have hp0 := Nat.two_pow_pos (k % 8)
 rcases Nat.mod_two_eq_zero_or_one (s[k / 8].toNat / 2 ^ (k % 8)) with e | e
 · rw [e]; simp
 · rw [e]
   clear e e3 hp
   generalize 2 ^ (k % 8) = q at hp0 ⊢
   simp
   omega
theorem qyx (s : ByteArray) (w : World) (hs : s.size ≤ 10000) :
    Calls Tryz.prog 36 #[.string s] w fun e w' => ∃ v, e = .returned v ∧ OB w' w.heap.size v (qow s.data.toList) ∧ Below w.heap.size w w' := by
 have hmk : ∀ W : World, (Instr.makeSlice 55 (.int .i64 (8 * (s.size : Int))) (.int .i64 (8 * (s.size : Int)))).run Tryz.prog W = .ok (.slice (some ⟨W.heap.size, 0, none⟩) (8 * s.size) (8 * s.size)) (W.alloc (.cells (madeCells #[.bool false] (8 * s.size)) 4)) := fun W => by
  have := run_make_row' (P := Tryz.prog) 55 4 (.bool false) 1 Tryz.underlying55 Tryz.infoBo rfl .i64 .i64 (8 * s.size) (by omega) (by omega) W
  simpa using this
 have HST : Hid ((w.alloc (.cells (madeCells #[.bool false] (8 * s.size)) 4)).rowIs w.heap.size 4 (8 * s.size) (fun _ => .bool false)) := World.rowIs_made w _ _ _
 have HB : Hid (Below w.heap.size w (w.alloc (.cells (madeCells #[.bool false] (8 * s.size)) 4))) := (Below.refl _ w).alloc (Nat.le_refl _) _
 go_enter Tryz.func36, Tryz.ntmps36
 go_wp2
 generalize w.alloc (.cells (madeCells #[.bool false] (8 * s.size)) 4) = W0 at *
 clear hmk
 go_loopw [11] (fun i wr => ∃ k : Nat, k ≤ 8 * s.size ∧ i = .int .i64 (k : Int) ∧ wr.rowIs w.heap.size 4 (8 * s.size) (fun j => .bool (decide (j < k) && sbit s.data.toList j)) ∧ Below w.heap.size w wr) (fun i _ => 8 * s.size - (intOf i).toNat)
 case atStart => exact ⟨0, by omega, rfl, HST.out.congr (fun i _ => by simp), HB.out⟩
 case round =>
  clear HST HB
  obtain ⟨k, hk, rfl, hR, hB⟩ := hrel
  by_cases hlt : k < 8 * s.size
  · have hc := hR.cell hlt
    have hf := hR.frozen k
    have HV : Hid (_ = _) := q2a s k (by omega)
    have HR : Hid ((wr.setCell ⟨w.heap.size, k, none⟩ (.bool (sbit s.data.toList k))).drew.rowIs w.heap.size 4 (8 * s.size) (fun j => .bool (decide (j < k + 1) && sbit s.data.toList j))) := ((hR.set k (.bool (sbit s.data.toList k))).congr fun j hj => by
     by_cases e : j = k
     · subst e; simp
     · simp [e, show (j < k + 1) = (j < k) by apply propext; omega]).drew
    have HB : Hid (Below w.heap.size w (wr.setCell ⟨w.heap.size, k, none⟩ (.bool (sbit s.data.toList k))).drew) := (hB.setCell (by simp) _).drew
    have i0 : (0 : Int) ≤ (k : Int) / 8 := by omega
    have i1 : (k : Int) / 8 < (s.size : Int) := by omega
    have i2 : (0 : Int) ≤ (k : Int) := by omega
    have i3 : (k : Int) < 8 * (s.size : Int) := by omega
    have t3 : ((k : Int) / 8).toNat = k / 8 := by omega
    clear hR hB
    go_wp2
    go_region
    go_wp2
    rw [HV.out]
    exact ⟨⟨k + 1, by omega, by go_num, HR.out, HB.out⟩, by simp [intOf]; omega⟩
  · obtain rfl : k = 8 * s.size := by omega
    have HO : Hid (OB wr w.heap.size (.slice (some ⟨w.heap.size, 0, none⟩) (8 * s.size) (8 * s.size)) (qow s.data.toList)) := qy0 (hR.congr (fun j hj => by rw [qqy]; simp [hj])) (Nat.le_refl _) (by rw [qii, qad]) (by omega)
    have HB : Hid (Below w.heap.size w wr) := hB
    clear hR hB
    go_wp2
    go_ret
    exact ⟨_, rfl, HO.out, HB.out⟩
theorem qq1 (v : Value) (L : List Bool) (B i : Nat) (w : World) (hO : OB w B v L) (hL : L.length ≤ 1000000) (hi : i ≤ 4000000000000000000) :
    Calls Tryz.prog 72 #[v, .int .i64 (i : Int)] w fun e w' => e = .returned (.int .u32 ((L.getD i false).toNat : Int)) ∧ w' = w := by
 obtain ⟨g, cap, rfl, ho⟩ := hO
 have hO : OB w B (.slice (some ⟨g, 0, none⟩) L.length cap) L := ⟨g, cap, rfl, ho⟩
 have i0 : (0 : Int) ≤ (i : Int) := by omega
 by_cases hlt : i < L.length
 · have hc := hO.cell i hlt
   have i1 : (i : Int) < (L.length : Int) := by omega
   clear ho hO
   cases hb : L.getD i false
   all_goals
    rw [hb] at hc
    go_enter Tryz.func72, Tryz.ntmps72
    go_wp2
    go_ret
    exact ⟨rfl, rfl⟩
 · have hb : L.getD i false = false := by rw [List.getD_eq_getElem?_getD, List.getElem?_eq_none (by omega)]; rfl
   rw [hb]
   have i1 : ¬ (i : Int) < (L.length : Int) := by omega
   clear ho hO
   go_enter Tryz.func72, Tryz.ntmps72
   go_wp2
   go_ret
   exact ⟨rfl, rfl⟩
theorem qxq (a : Nat) (f : Bool) (k : Nat) (h : a + f.toNat * 2 ^ k < 4294967296) : ((a : Int) + (f.toNat : Int) * 2 ^ k % 4294967296) % 4294967296 = ((a + f.toNat * 2 ^ k : Nat) : Int) := by
 have e1 : ((f.toNat * 2 ^ k : Nat) : Int) = (f.toNat : Int) * 2 ^ k := by simp
 rw [← e1]
 generalize f.toNat * 2 ^ k = q at *
 omega
theorem qkl (v : Value) (L : List Bool) (B p n : Nat) (w : World) (hO : OB w B v L) (hL : L.length ≤ 1000000) (hp : p ≤ 3000000000000000000) (hn : n ≤ 32) :
    Calls Tryz.prog 43 #[v, .int .i64 (p : Int), .int .i64 (n : Int), .bool false] w fun e w' => e = .returned (.int .u32 (qal (fun i => L.getD (p + i) false) n : Int)) ∧ w' = w := by
 go_enter Tryz.func43, Tryz.ntmps43
 go_wp2
 go_loop [9, 10] (fun x i => ∃ k : Nat, k ≤ n ∧ i = .int .i64 (k : Int) ∧ x = .int .u32 (qal (fun i => L.getD (p + i) false) k : Int)) (fun _ i => n - (intOf i).toNat)
 case atStart => exact ⟨0, by omega, rfl, rfl⟩
 case round =>
  obtain ⟨k, hk, rfl, rfl⟩ := hrel
  by_cases hlt : k < n
  · have hS : qal (fun i => L.getD (p + i) false) (k + 1) = qal (fun i => L.getD (p + i) false) k + (L.getD (p + k) false).toNat * 2 ^ k := rfl
    have hb := qeu (fun i => L.getD (p + i) false) (k + 1) (by omega)
    have HV : Hid (((qal (fun i => L.getD (p + i) false) k : Int) + ((L.getD (p + k) false).toNat : Int) * 2 ^ k % 4294967296) % 4294967296 = (qal (fun i => L.getD (p + i) false) (k + 1) : Int)) := by
     unfold Hid; rw [hS] at hb ⊢; exact qxq _ _ _ hb
    have hb0 := qeu (fun i => L.getD (p + i) false) k (by omega)
    clear hS hb
    generalize qal (fun i => L.getD (p + i) false) k = X at *
    have hpk : (p : Int) + (k : Int) = ((p + k : Nat) : Int) := by omega
    have HBt : Hid (∀ W, W = w → Calls Tryz.prog 72 #[v, .int .i64 ((p : Int) + (k : Int))] W fun e w' => e = .returned (.int .u32 ((L.getD (p + k) false).toNat : Int)) ∧ w' = W) := fun W hW => by subst hW; rw [hpk]; exact qq1 v L B (p + k) W hO hL (by omega)
    clear hpk
    generalize L.getD (p + k) false = bb at *
    go_wp2_with fail
    refine (HBt.out _ rfl).mono ?_
    rintro e w1 ⟨rfl, rfl⟩
    go_wp2
    go_round
    case rel => exact ⟨k + 1, by omega, by go_num, congrArg _ HV.out⟩
    case measure => simp [intOf]; omega
  · obtain rfl : k = n := by omega
    go_wp2
    go_ret
    exact ⟨rfl, rfl⟩
theorem qo9 (v : Value) (L : List Bool) (B p n : Nat) (w : World) (hO : OB w B v L) (hL : L.length ≤ 1000000) (hp : p ≤ 3000000000000000000) (hn : n ≤ 32) :
    Calls Tryz.prog 43 #[v, .int .i64 (p : Int), .int .i64 (n : Int), .bool true] w fun e w' => e = .returned (.int .u32 (qa8 (fun i => L.getD (p + i) false) n : Int)) ∧ w' = w := by
 go_enter Tryz.func43, Tryz.ntmps43
 go_wp2
 go_loop [9, 10] (fun x i => ∃ k : Nat, k ≤ n ∧ i = .int .i64 (k : Int) ∧ x = .int .u32 ((qa8 (fun i => L.getD (p + i) false) k * 2 ^ (n - k) : Nat) : Int)) (fun _ i => n - (intOf i).toNat)
 case atStart => exact ⟨0, by omega, rfl, by simp [qa8]⟩
 case round =>
  obtain ⟨k, hk, rfl, rfl⟩ := hrel
  by_cases hlt : k < n
  · have hS := qsm (fun i => L.getD (p + i) false) n k hlt
    have hb : qa8 (fun i => L.getD (p + i) false) (k + 1) * 2 ^ (n - (k + 1)) < 4294967296 := Nat.lt_of_lt_of_le (qfr _ n (k + 1) hlt) (Nat.pow_le_pow_right (n := 2) (i := n) (j := 32) (by decide) hn)
    have hb0 : qa8 (fun i => L.getD (p + i) false) k * 2 ^ (n - k) < 4294967296 := Nat.lt_of_lt_of_le (qfr _ n k (by omega)) (Nat.pow_le_pow_right (n := 2) (i := n) (j := 32) (by decide) hn)
    have HV : Hid ((((qa8 (fun i => L.getD (p + i) false) k * 2 ^ (n - k) : Nat) : Int) + ((L.getD (p + k) false).toNat : Int) * 2 ^ (n - 1 - k) % 4294967296) % 4294967296 = ((qa8 (fun i => L.getD (p + i) false) (k + 1) * 2 ^ (n - (k + 1)) : Nat) : Int)) := by
     unfold Hid; rw [← hS] at hb ⊢; exact qxq _ _ _ hb
    have i5 : (0 : Int) ≤ (n : Int) - 1 - (k : Int) := by omega
    have i6 : ((n : Int) - 1 - (k : Int)).toNat = n - 1 - k := by omega
    clear hS hb
    generalize qa8 (fun i => L.getD (p + i) false) k * 2 ^ (n - k) = X at *
    have hpk : (p : Int) + (k : Int) = ((p + k : Nat) : Int) := by omega
    have HBt : Hid (∀ W, W = w → Calls Tryz.prog 72 #[v, .int .i64 ((p : Int) + (k : Int))] W fun e w' => e = .returned (.int .u32 ((L.getD (p + k) false).toNat : Int)) ∧ w' = W) := fun W hW => by subst hW; rw [hpk]; exact qq1 v L B (p + k) W hO hL (by omega)
    clear hpk
    generalize L.getD (p + k) false = bb at *
    go_wp2_with fail
    refine (HBt.out _ rfl).mono ?_
    rintro e w1 ⟨rfl, rfl⟩
    go_wp2
    go_round
    case rel => exact ⟨k + 1, by omega, by go_num, congrArg _ HV.out⟩
    case measure => simp [intOf]; omega
  · obtain rfl : k = n := by omega
    go_wp2
    go_ret
    exact ⟨qlc (by simp), rfl⟩
end Go.Proofs.YthkppipdflmekaaGreat
