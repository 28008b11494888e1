/- Contracts of inflate.steps, Size and of the reader's size and of Next by a reader. -/
import Derived.Test.YthkppipdflmekaaGreatQDynE
import Derived.Test.YthkppipdflmekaaGreatQSrcT
import Derived.Deep.QuietTactic
import Derived.BigQuiet
set_option maxRecDepth 100000
set_option maxHeartbeats 4000000
namespace Go.Proofs.YthkppipdflmekaaGreat
open Go.RowKit
set_option linter.unusedVariables false
def KS (w w' : World) : Prop := w.heap.size ≤ w'.heap.size ∧ ∀ (b : Nat) (c : Array Value) (ty : TypeId) (p : Nat × Nat), w.heap[b]? = some (Obj.cells c ty p) → ty ≠ 142 → ty ≠ 89 → w'.heap[b]? = some (Obj.cells c ty p)
theorem KS.refl (w : World) : KS w w := ⟨Nat.le_refl _, fun _ _ _ _ h _ _ => h⟩
theorem KS.trans {a b c : World} (h : KS a b) (k : KS b c) : KS a c := ⟨Nat.le_trans h.1 k.1, fun i x t p hi h1 h2 => k.2 i x t p (h.2 i x t p hi h1 h2) h1 h2⟩
theorem qbd {w w' : World} (hb : Below w.heap.size w w') : KS w w' := ⟨hb.size, fun i x t p hi _ _ => (hb.block i (Array.getElem?_eq_some_iff.1 hi).1).trans hi⟩
theorem qa7 (w : World) (n : Nat) : KS w (w.drewN n) := ⟨Nat.le_refl _, fun _ _ _ _ h _ _ => h⟩
theorem qlw {w w' : World} {g : Nat} {c : Array Value} {ty : TypeId} {p : Nat × Nat} (hg : w.grownBy w' (some g)) (hb : w.heap[g]? = some (Obj.cells c ty p)) (ht : ty = 142 ∨ ty = 89) : KS w w' := by
 refine ⟨hg.size, fun b c' t p' hc h1 h2 => (hg.block b (Array.getElem?_eq_some_iff.1 hc).1 (fun e => ?_)).trans hc⟩
 obtain rfl : b = g := by cases e; rfl
 rw [hb] at hc
 simp only [Option.some.injEq, Obj.cells.injEq] at hc
 rcases ht with rfl | rfl
 · exact h1 hc.2.1.symm
 · exact h2 hc.2.1.symm
theorem qf4 {w w' : World} {B n : Nat} {ty : TypeId} {sz : Nat} {v : Value} {xs : List Value} (h : w.ownsRow B ty sz v n xs) (hk : KS w w') (h1 : ty ≠ 142) (h2 : ty ≠ 89) : w'.ownsRow B ty sz v n xs := by
 refine ⟨h.1, ?_⟩
 rcases h.2 with h | ⟨g, cap, cur, a1, a2, a3, a4⟩
 · exact .inl h
 · exact .inr ⟨g, cap, cur, a1, a2, hk.2 _ _ _ _ a3 h1 h2, a4⟩
theorem qao.ks {w w' : World} {B gt k : Nat} {ns : List Nat} (h : qao w B gt ns k) (hk : KS w w') : qao w' B gt ns k := by
 obtain ⟨n, br, path, h1, h2, ⟨gb, cap, h3⟩, h4⟩ := h
 exact ⟨n, br, path, h1, h2, ⟨gb, cap, ⟨hk.2 _ _ _ _ h3.top (by decide) (by decide), h3.low, qf4 h3.row hk (by decide) (by decide)⟩⟩, h4⟩
def qbl (w : World) (gc : Nat) (ls ds : List Nat) : Prop := ∃ B1 t1 B2 t2, w.heap[gc]? = some (.cells #[.pointer (some ⟨t1, 0, none⟩), .pointer (some ⟨t2, 0, none⟩)] 193 (0, 0)) ∧ qao w B1 t1 ls ls.length ∧ qao w B2 t2 ds ds.length
theorem qbl.ks {w w' : World} {gc : Nat} {ls ds : List Nat} (h : qbl w gc ls ds) (hk : KS w w') : qbl w' gc ls ds := by
 obtain ⟨B1, t1, B2, t2, h1, h2, h3⟩ := h
 exact ⟨B1, t1, B2, t2, hk.2 _ _ _ _ h1 (by decide) (by decide), h2.ks hk, h3.ks hk⟩
def q0o (w : World) (fp : Option Addr) : Prop := fp = none ∨ ∃ gc, fp = some ⟨gc, 0, none⟩ ∧ qbl w gc fixL fixD
theorem q0o.ks {w w' : World} {fp : Option Addr} (h : q0o w fp) (hk : KS w w') : q0o w' fp := by
 rcases h with h | ⟨gc, h1, h2⟩
 · exact .inl h
 · exact .inr ⟨gc, h1, h2.ks hk⟩
def RdAt (w : World) (B gr gx : Nat) (s : ByteArray) (p most out : Nat) : Prop := B ≤ gr ∧ B ≤ gx ∧ qa6 w gx s p ∧ ∃ fp, w.heap[gr]? = some (.cells #[.pointer (some ⟨gx, 0, none⟩), .int .i64 (most : Int), .int .i64 (out : Int), .pointer fp] 89 (0, 0)) ∧ q0o w fp
theorem RdAt.ne {w : World} {B gr gx : Nat} {s : ByteArray} {p most out : Nat} (h : RdAt w B gr gx s p most out) : gr ≠ gx := by
 obtain ⟨_, _, h1, fp, h2, _⟩ := h
 intro e
 subst e
 unfold qa6 at h1
 rw [h1] at h2
 simp only [Option.some.injEq, Obj.cells.injEq] at h2
 exact absurd h2.2.1 (by decide)
theorem RdAt.size {w : World} {B gr gx : Nat} {s : ByteArray} {p most out : Nat} (h : RdAt w B gr gx s p most out) : B ≤ w.heap.size := by
 obtain ⟨h0, _, _, fp, h2, _⟩ := h
 exact Nat.le_trans h0 (Nat.le_of_lt (Array.getElem?_eq_some_iff.1 h2).1)
theorem RdAt.cell0 {w : World} {B gr gx : Nat} {s : ByteArray} {p most out : Nat} (h : RdAt w B gr gx s p most out) : w.cell? ⟨gr, 0, none⟩ = some (.pointer (some ⟨gx, 0, none⟩)) := by
 obtain ⟨_, _, _, fp, h2, _⟩ := h
 rw [cell_of_row _ _ _ _ _ _ h2]; rfl
theorem RdAt.moved {w w' : World} {B gr gx : Nat} {s : ByteArray} {p q most out : Nat} (h : RdAt w B gr gx s p most out) (hg : w.grownBy w' (some gx)) (hS : qa6 w' gx s q) : RdAt w' B gr gx s q most out ∧ KS w w' ∧ Below B w w' := by
 have hne := h.ne
 have hsz := h.size
 obtain ⟨h1, h2, h3, fp, h4, h5⟩ := h
 have hk : KS w w' := qlw hg h3 (.inl rfl)
 refine ⟨⟨h1, h2, hS, fp, (hg.block gr (Array.getElem?_eq_some_iff.1 h4).1 (fun e => hne (by cases e; rfl))).trans h4, h5.ks hk⟩, hk, (Below.refl _ w).grown hg hsz (fun j hj => by cases hj; exact h2)⟩
theorem RdAt.below {w w' : World} {B gr gx : Nat} {s : ByteArray} {p most out : Nat} (h : RdAt w B gr gx s p most out) (hb : Below w.heap.size w w') : RdAt w' B gr gx s p most out := by
 obtain ⟨h1, h2, h3, fp, h4, h5⟩ := h
 exact ⟨h1, h2, h3.below hb, fp, (hb.block gr (Array.getElem?_eq_some_iff.1 h4).1).trans h4, h5.ks (qbd hb)⟩
theorem RdAt.drewN {w : World} {B gr gx : Nat} {s : ByteArray} {p most out : Nat} (h : RdAt w B gr gx s p most out) (n : Nat) : RdAt (w.drewN n) B gr gx s p most out := by
 obtain ⟨h1, h2, h3, fp, h4, h5⟩ := h
 exact ⟨h1, h2, h3, fp, h4, h5.ks (qa7 w n)⟩
def bF8 (s : ByteArray) : Nat → Bool := fun i => sbit s.data.toList i
theorem qre (n : Nat) (h : n ≤ 32) : near (n : Int) 32 = n := by have := qpc (n : Int) 32 (by decide); omega
theorem qcg {f : Nat → Bool} {L p n x : Nat} (h : tkF f L p n = .ok x) : p + n ≤ L ∧ x = qal (fun i => f (p + i)) n := by
 unfold tkF at h
 split at h
 · cases h
 · simp only [Except.ok.injEq] at h; exact ⟨by omega, h.symm⟩
theorem qcu {f : Nat → Bool} {L p n e : Nat} (h : tkF f L p n = .error e) : L < p + n ∧ e = 6 := by
 unfold tkF at h
 split at h
 · rename_i h1; simp only [Except.error.injEq] at h; exact ⟨h1, h.symm⟩
 · cases h
theorem qcn (B gr gx : Nat) (s : ByteArray) (p most out n x : Nat) (w : World) (hR : RdAt w B gr gx s p most out) (hs : s.size ≤ 100000000) (hn : n ≤ 32) (h : tkF (bF8 s) (8 * s.size) p n = .ok x) :
    Calls Tryz.prog 64 #[.pointer (some ⟨gr, 0, none⟩), .int .i64 (n : Int)] w fun e w' => e = .returned (.tuple #[.int .i64 (x : Int), .int .i64 0]) ∧ RdAt w' B gr gx s (p + n) most out ∧ KS w w' ∧ Below B w w' := by
 obtain ⟨hle, rfl⟩ := qcg h
 have c0 := hR.cell0
 have hlt := qaw (fun i => bF8 s (p + i)) n
 have h32 : 2 ^ n ≤ 2 ^ 32 := Nat.pow_le_pow_right (by decide) hn
 have htk := qk0 gx s p (n : Int) w hR.2.2.1 (by omega) (by omega) (by omega)
 rw [qre n hn] at htk
 have HTK : Hid (Calls Tryz.prog 87 #[.pointer (some ⟨gx, 0, none⟩), .int .i64 (n : Int)] w fun e w' => e = .returned (.int .u32 (qal (fun i => bF8 s (p + i)) n : Int)) ∧ qa6 w' gx s (p + n) ∧ w.grownBy w' (some gx)) := htk
 have HR : Hid (RdAt w B gr gx s p most out) := hR
 clear htk hR h
 generalize qal (fun i => bF8 s (p + i)) n = x at *
 have hx : x < 4294967296 := by omega
 clear hlt h32
 go_enter Tryz.func64, Tryz.ntmps64
 go_wp2_with fail
 refine (Hid.out HTK : Calls _ _ _ _ _).mono ?_
 rintro e w1 ⟨rfl, hS1, hG1⟩
 obtain ⟨hR1, hK1, hB1⟩ := HR.out.moved hG1 hS1
 have d0 := hR1.cell0
 have HS : Hid (Calls _ _ _ _ _) := qfz gx s (p + n) w1 hS1 (by omega)
 rw [decide_eq_false (show ¬ 8 * s.size < p + n by omega)] at HS
 have HR1 : Hid (RdAt w1 B gr gx s (p + n) most out) := hR1
 clear hS1 hG1 hR1
 go_wp2_with fail
 refine (Hid.out HS : Calls _ _ _ _ _).mono ?_
 rintro e w2 ⟨rfl, m, rfl⟩
 go_wp2
 go_ret2
 exact ⟨rfl, HR1.out.drewN m, hK1.trans (qa7 _ m), below_drewN hB1 m⟩
theorem qcb (B gr gx : Nat) (s : ByteArray) (p most out n er : Nat) (w : World) (hR : RdAt w B gr gx s p most out) (hs : s.size ≤ 100000000) (hn : n ≤ 32) (hp : p ≤ 8 * s.size) (h : tkF (bF8 s) (8 * s.size) p n = .error er) :
    Calls Tryz.prog 64 #[.pointer (some ⟨gr, 0, none⟩), .int .i64 (n : Int)] w fun e w' => e = .returned (.tuple #[.int .i64 0, .int .i64 (er : Int)]) ∧ KS w w' ∧ Below B w w' := by
 obtain ⟨hle, rfl⟩ := qcu h
 have c0 := hR.cell0
 have htk := qk0 gx s p (n : Int) w hR.2.2.1 (by omega) (by omega) (by omega)
 rw [qre n hn] at htk
 have HTK : Hid (Calls Tryz.prog 87 #[.pointer (some ⟨gx, 0, none⟩), .int .i64 (n : Int)] w fun e w' => e = .returned (.int .u32 (qal (fun i => bF8 s (p + i)) n : Int)) ∧ qa6 w' gx s (p + n) ∧ w.grownBy w' (some gx)) := htk
 have HR : Hid (RdAt w B gr gx s p most out) := hR
 clear htk hR h
 generalize qal (fun i => bF8 s (p + i)) n = x at *
 go_enter Tryz.func64, Tryz.ntmps64
 go_wp2_with fail
 refine (Hid.out HTK : Calls _ _ _ _ _).mono ?_
 rintro e w1 ⟨rfl, hS1, hG1⟩
 obtain ⟨hR1, hK1, hB1⟩ := HR.out.moved hG1 hS1
 have d0 := hR1.cell0
 have HS : Hid (Calls _ _ _ _ _) := qfz gx s (p + n) w1 hS1 (by omega)
 rw [decide_eq_true (show 8 * s.size < p + n by omega)] at HS
 clear hS1 hG1 hR1
 go_wp2_with fail
 refine (Hid.out HS : Calls _ _ _ _ _).mono ?_
 rintro e w2 ⟨rfl, m, rfl⟩
 go_wp2
 go_ret2
 exact ⟨rfl, hK1.trans (qa7 _ m), below_drewN hB1 m⟩
theorem RdAt.grew {w : World} {B gr gx : Nat} {s : ByteArray} {p most out : Nat} (h : RdAt w B gr gx s p most out) (o : Nat) : RdAt (w.setCell ⟨gr, 2, none⟩ (.int .i64 (o : Int))) B gr gx s p most o ∧ KS w (w.setCell ⟨gr, 2, none⟩ (.int .i64 (o : Int))) ∧ Below B w (w.setCell ⟨gr, 2, none⟩ (.int .i64 (o : Int))) := by
 have hne := h.ne
 obtain ⟨h1, h2, h3, fp, h4, h5⟩ := h
 have hg : w.grownBy (w.setCell ⟨gr, 2, none⟩ (.int .i64 (o : Int))) (some gr) := gset (qcj w _) 2 _
 have hk : KS w (w.setCell ⟨gr, 2, none⟩ (.int .i64 (o : Int))) := qlw hg h4 (.inr rfl)
 refine ⟨⟨h1, h2, (hg.block gx h3.lt (fun e => hne (by cases e; rfl))).trans h3, fp, ?_, h5.ks hk⟩, hk, (Below.refl _ w).setCell h1 _⟩
 rw [heap_setCell_same _ _ _ _ _ _ h4]; rfl
theorem qpj (B gr gx : Nat) (s : ByteArray) (p most out n : Nat) (w : World) (hR : RdAt w B gr gx s p most out) (ho : out ≤ 1000000) (hn : n ≤ 1000000) (hm : most ≤ 1000000) (h : out + n ≤ most) :
    Calls Tryz.prog 101 #[.pointer (some ⟨gr, 0, none⟩), .int .i64 (n : Int)] w fun e w' => e = .returned (.int .i64 0) ∧ RdAt w' B gr gx s p most (out + n) ∧ KS w w' ∧ Below B w w' := by
 obtain ⟨hR1, hK1, hB1⟩ := hR.grew (out + n)
 obtain ⟨_, _, _, fp, h4, _⟩ := id hR
 have c2 : w.cell? ⟨gr, 2, none⟩ = some (.int .i64 (out : Int)) := by rw [cell_of_row _ _ _ _ _ _ h4]; rfl
 have f2 : w.frozen? ⟨gr, 2, none⟩ = false := frozen_of_row _ _ _ _ _ h4
 have d1 : (w.setCell ⟨gr, 2, none⟩ (.int .i64 ((out + n : Nat) : Int))).cell? ⟨gr, 1, none⟩ = some (.int .i64 (most : Int)) := by
  obtain ⟨_, _, _, fp', h4', _⟩ := hR1
  rw [cell_of_row _ _ _ _ _ _ h4']; rfl
 have d2 : (w.setCell ⟨gr, 2, none⟩ (.int .i64 ((out + n : Nat) : Int))).cell? ⟨gr, 2, none⟩ = some (.int .i64 ((out + n : Nat) : Int)) := by
  obtain ⟨_, _, _, fp', h4', _⟩ := hR1
  rw [cell_of_row _ _ _ _ _ _ h4']; rfl
 have e1 : (out : Int) + (n : Int) = ((out + n : Nat) : Int) := by omega
 have HR1 : Hid _ := hR1
 have hle : ¬ (most : Int) < ((out + n : Nat) : Int) := by omega
 clear hR hR1 h4
 generalize hq : out + n = q at *
 go_enter Tryz.func101, Tryz.ntmps101
 go_wp2
 generalize World.setCell w _ _ = W1 at *
 go_quiet (fail)
 go_wp2
 go_ret
 exact ⟨rfl, RdAt.drewN HR1.out _, hK1.trans (qa7 _ _), below_drewN hB1 _⟩
theorem qly (B gr gx : Nat) (s : ByteArray) (p most out n : Nat) (w : World) (hR : RdAt w B gr gx s p most out) (ho : out ≤ 1000000) (hn : n ≤ 1000000) (hm : most ≤ 1000000) (h : most < out + n) :
    Calls Tryz.prog 101 #[.pointer (some ⟨gr, 0, none⟩), .int .i64 (n : Int)] w fun e w' => e = .returned (.int .i64 2) ∧ KS w w' ∧ Below B w w' := by
 obtain ⟨hR1, hK1, hB1⟩ := hR.grew (out + n)
 obtain ⟨_, _, _, fp, h4, _⟩ := id hR
 have c2 : w.cell? ⟨gr, 2, none⟩ = some (.int .i64 (out : Int)) := by rw [cell_of_row _ _ _ _ _ _ h4]; rfl
 have f2 : w.frozen? ⟨gr, 2, none⟩ = false := frozen_of_row _ _ _ _ _ h4
 have d1 : (w.setCell ⟨gr, 2, none⟩ (.int .i64 ((out + n : Nat) : Int))).cell? ⟨gr, 1, none⟩ = some (.int .i64 (most : Int)) := by
  obtain ⟨_, _, _, fp', h4', _⟩ := hR1
  rw [cell_of_row _ _ _ _ _ _ h4']; rfl
 have d2 : (w.setCell ⟨gr, 2, none⟩ (.int .i64 ((out + n : Nat) : Int))).cell? ⟨gr, 2, none⟩ = some (.int .i64 ((out + n : Nat) : Int)) := by
  obtain ⟨_, _, _, fp', h4', _⟩ := hR1
  rw [cell_of_row _ _ _ _ _ _ h4']; rfl
 have e1 : (out : Int) + (n : Int) = ((out + n : Nat) : Int) := by omega
 have hle : (most : Int) < ((out + n : Nat) : Int) := by omega
 clear hR hR1 h4
 generalize hq : out + n = q at *
 go_enter Tryz.func101, Tryz.ntmps101
 go_wp2
 generalize World.setCell w _ _ = W1 at *
 go_quiet (fail)
 go_wp2
 go_ret
 exact ⟨rfl, hK1.trans (qa7 _ _), below_drewN hB1 _⟩
theorem quw (i : Nat) (w : World) (h : i < 30) :
    Calls Tryz.prog 106 #[.int .i64 (i : Int), .int .i64 1, .int .i64 2] w fun e w' => e = .returned (.tuple #[.int .i64 ((qd9 i 1 2).1 : Int), .int .i64 ((qd9 i 1 2).2 : Int)]) ∧ w' = w := by
 rcases (show i = 0 ∨ i = 1 ∨ i = 2 ∨ i = 3 ∨ i = 4 ∨ i = 5 ∨ i = 6 ∨ i = 7 ∨ i = 8 ∨ i = 9 ∨ i = 10 ∨ i = 11 ∨ i = 12 ∨ i = 13 ∨ i = 14 ∨ i = 15 ∨ i = 16 ∨ i = 17 ∨ i = 18 ∨ i = 19 ∨ i = 20 ∨ i = 21 ∨ i = 22 ∨ i = 23 ∨ i = 24 ∨ i = 25 ∨ i = 26 ∨ i = 27 ∨ i = 28 ∨ i = 29 by omega) with rfl | rfl | rfl | rfl | rfl | rfl | rfl | rfl | rfl | rfl | rfl | rfl | rfl | rfl | rfl | rfl | rfl | rfl | rfl | rfl | rfl | rfl | rfl | rfl | rfl | rfl | rfl | rfl | rfl | rfl
 all_goals
  go_enter Tryz.func106, Tryz.ntmps106
  go_wp2
  go_ret2
  exact ⟨rfl, rfl⟩
theorem qsx (i : Nat) (w : World) (h : i < 28) :
    Calls Tryz.prog 106 #[.int .i64 (i : Int), .int .i64 3, .int .i64 4] w fun e w' => e = .returned (.tuple #[.int .i64 ((qd9 i 3 4).1 : Int), .int .i64 ((qd9 i 3 4).2 : Int)]) ∧ w' = w := by
 rcases (show i = 0 ∨ i = 1 ∨ i = 2 ∨ i = 3 ∨ i = 4 ∨ i = 5 ∨ i = 6 ∨ i = 7 ∨ i = 8 ∨ i = 9 ∨ i = 10 ∨ i = 11 ∨ i = 12 ∨ i = 13 ∨ i = 14 ∨ i = 15 ∨ i = 16 ∨ i = 17 ∨ i = 18 ∨ i = 19 ∨ i = 20 ∨ i = 21 ∨ i = 22 ∨ i = 23 ∨ i = 24 ∨ i = 25 ∨ i = 26 ∨ i = 27 by omega) with rfl | rfl | rfl | rfl | rfl | rfl | rfl | rfl | rfl | rfl | rfl | rfl | rfl | rfl | rfl | rfl | rfl | rfl | rfl | rfl | rfl | rfl | rfl | rfl | rfl | rfl | rfl | rfl
 all_goals
  go_enter Tryz.func106, Tryz.ntmps106
  go_wp2
  go_ret2
  exact ⟨rfl, rfl⟩
theorem qhk (i : Nat) (far : Bool) (w : World) :
    Calls Tryz.prog 94 #[.int .i64 (i : Int), .bool far] w fun e w' => e = .returned (.tuple #[.int .i64 ((szF i far).1 : Int), .int .i64 ((szF i far).2 : Int)]) ∧ w' = w := by
 have h0 : ¬ (i : Int) < 0 := by omega
 cases far
 · by_cases h1 : 29 ≤ i
   · have h1i : (29 : Int) ≤ (i : Int) := by omega
     have HS : Hid (szF i false = (0, 0)) := by unfold Hid szF; rw [if_neg (by decide), if_pos h1]
     rw [HS.out]
     go_enter Tryz.func94, Tryz.ntmps94
     go_wp2
     go_ret2
     exact ⟨rfl, rfl⟩
   · have h1i : ¬ (29 : Int) ≤ (i : Int) := by omega
     by_cases h2 : i = 28
     · subst h2
       go_enter Tryz.func94, Tryz.ntmps94
       go_wp2
       go_ret2
       exact ⟨rfl, rfl⟩
     · have h2i : ((i : Int) == 28) = false := by simp; omega
       have HS : Hid (szF i false = qd9 i 3 4) := by unfold Hid szF; rw [if_neg (by decide), if_neg h1, if_neg h2]
       have HC : Hid (Calls _ _ _ _ _) := qsx i w (by omega)
       rw [HS.out]
       generalize (qd9 i 3 4).1 = A1 at *
       generalize (qd9 i 3 4).2 = A2 at *
       go_enter Tryz.func94, Tryz.ntmps94
       go_wp2_with fail
       refine (Hid.out HC : Calls _ _ _ _ _).mono ?_
       rintro e w1 ⟨rfl, rfl⟩
       go_wp2
       go_ret2
       exact ⟨rfl, rfl⟩
 · by_cases h1 : i < 30
   · have h1i : (i : Int) < 30 := by omega
     have HS : Hid (szF i true = qd9 i 1 2) := by unfold Hid szF; rw [if_pos rfl, if_pos h1]
     have HC : Hid (Calls _ _ _ _ _) := quw i w h1
     rw [HS.out]
     generalize (qd9 i 1 2).1 = A1 at *
     generalize (qd9 i 1 2).2 = A2 at *
     go_enter Tryz.func94, Tryz.ntmps94
     go_wp2_with fail
     refine (Hid.out HC : Calls _ _ _ _ _).mono ?_
     rintro e w1 ⟨rfl, rfl⟩
     go_wp2
     go_ret2
     exact ⟨rfl, rfl⟩
   · have h1i : ¬ (i : Int) < 30 := by omega
     have HS : Hid (szF i true = (0, 0)) := by unfold Hid szF; rw [if_pos rfl, if_neg h1]
     rw [HS.out]
     go_enter Tryz.func94, Tryz.ntmps94
     go_wp2
     go_ret2
     exact ⟨rfl, rfl⟩
theorem qmp {f : Nat → Bool} {L p i x q : Nat} {far : Bool} (h : szE f L p i far = .ok (x, q)) : ¬ (szF i far).1 = 0 ∧ ∃ m, tkF f L p (szF i far).2 = .ok m ∧ x = (szF i far).1 + m ∧ q = p + (szF i far).2 := by
 unfold szE at h
 split at h
 · cases h
 · rename_i h1
   refine ⟨h1, ?_⟩
   cases ht : tkF f L p (szF i far).2 with
   | error e => rw [ht] at h; cases h
   | ok m =>
    rw [ht] at h
    simp only [Except.ok.injEq, Prod.mk.injEq] at h
    exact ⟨m, rfl, h.1.symm, h.2.symm⟩
theorem qom {f : Nat → Bool} {L p i er : Nat} {far : Bool} (h : szE f L p i far = .error er) : ((szF i far).1 = 0 ∧ er = 3) ∨ (¬ (szF i far).1 = 0 ∧ tkF f L p (szF i far).2 = .error er) := by
 unfold szE at h
 split at h
 · rename_i h1
   simp only [Except.error.injEq] at h
   exact .inl ⟨h1, h.symm⟩
 · rename_i h1
   refine .inr ⟨h1, ?_⟩
   cases ht : tkF f L p (szF i far).2 with
   | error e => rw [ht] at h; simp only [Except.error.injEq] at h; rw [h]
   | ok m => rw [ht] at h; cases h
theorem qqx (B gr gx : Nat) (s : ByteArray) (p most out i x q : Nat) (far : Bool) (w : World) (hR : RdAt w B gr gx s p most out) (hs : s.size ≤ 100000000) (h : szE (bF8 s) (8 * s.size) p i far = .ok (x, q)) :
    Calls Tryz.prog 116 #[.pointer (some ⟨gr, 0, none⟩), .int .i64 (i : Int), .bool far] w fun e w' => e = .returned (.tuple #[.int .i64 (x : Int), .int .i64 0]) ∧ RdAt w' B gr gx s q most out ∧ KS w w' ∧ Below B w w' := by
 obtain ⟨h0, m, hm, rfl, rfl⟩ := qmp h
 have hbd := qd8 far i
 have hml := qcg hm
 have hmb := qaw (fun j => bF8 s (p + j)) (szF i far).2
 have h13 : 2 ^ (szF i far).2 ≤ 2 ^ 13 := Nat.pow_le_pow_right (by decide) hbd.2
 have hm8 : m < 8192 := by rw [hml.2]; omega
 have HSZ : Hid (Calls _ _ _ _ _) := qhk i far w
 have HTK : Hid (Calls _ _ _ _ _) := qcn B gr gx s p most out (szF i far).2 m w hR hs (by omega) hm
 have h0i : (((szF i far).1 : Int) == 0) = false := by simp; omega
 clear hR h hm hmb h13 hml
 generalize (szF i far).1 = A1 at *
 generalize (szF i far).2 = A2 at *
 go_enter Tryz.func116, Tryz.ntmps116
 go_wp2_with fail
 refine (Hid.out HSZ : Calls _ _ _ _ _).mono ?_
 rintro e w1 ⟨rfl, hw1⟩
 obtain rfl : w = w1 := hw1.symm
 go_wp2_with fail
 refine (Hid.out HTK : Calls _ _ _ _ _).mono ?_
 rintro e w2 ⟨rfl, hR2, hK2, hB2⟩
 clear HTK HSZ hw1
 have HR2 : Hid _ := hR2
 clear hR2
 go_wp2
 go_ret2
 exact ⟨by go_num, HR2.out, hK2, hB2⟩
theorem qmw (B gr gx : Nat) (s : ByteArray) (p most out i er : Nat) (far : Bool) (w : World) (hR : RdAt w B gr gx s p most out) (hs : s.size ≤ 100000000) (hp : p ≤ 8 * s.size) (h : szE (bF8 s) (8 * s.size) p i far = .error er) :
    Calls Tryz.prog 116 #[.pointer (some ⟨gr, 0, none⟩), .int .i64 (i : Int), .bool far] w fun e w' => ∃ v, e = .returned (.tuple #[v, .int .i64 (er : Int)]) ∧ KS w w' ∧ Below B w w' := by
 have hbd := qd8 far i
 have HSZ : Hid (Calls _ _ _ _ _) := qhk i far w
 rcases qom h with ⟨h0, rfl⟩ | ⟨h0, hm⟩
 · rw [h0] at HSZ
   clear hR h hbd h0
   generalize (szF i far).2 = A2 at *
   go_enter Tryz.func116, Tryz.ntmps116
   go_wp2_with fail
   refine (Hid.out HSZ : Calls _ _ _ _ _).mono ?_
   rintro e w1 ⟨rfl, hw1⟩
   obtain rfl : w = w1 := hw1.symm
   go_wp2
   go_ret2
   exact ⟨_, rfl, KS.refl _, Below.refl _ _⟩
 · have HTK : Hid (Calls _ _ _ _ _) := qcb B gr gx s p most out (szF i far).2 er w hR hs (by omega) hp hm
   have h0i : (((szF i far).1 : Int) == 0) = false := by simp; omega
   clear hR h hm
   generalize (szF i far).1 = A1 at *
   generalize (szF i far).2 = A2 at *
   go_enter Tryz.func116, Tryz.ntmps116
   go_wp2_with fail
   refine (Hid.out HSZ : Calls _ _ _ _ _).mono ?_
   rintro e w1 ⟨rfl, hw1⟩
   obtain rfl : w = w1 := hw1.symm
   go_wp2_with fail
   refine (Hid.out HTK : Calls _ _ _ _ _).mono ?_
   rintro e w2 ⟨rfl, hK2, hB2⟩
   clear HTK HSZ hw1
   go_wp2
   go_ret2
   exact ⟨_, rfl, hK2, hB2⟩
theorem qla (B gr gx : Nat) (s : ByteArray) (p most out t q B1 gt : Nat) (ns : List Nat) (w : World) (hR : RdAt w B gr gx s p most out) (hs : s.size ≤ 100000000) (hp : p ≤ 8 * s.size) (hP : qao w B1 gt ns ns.length) (h15 : qbh ns) (hl : ns.length ≤ 320) (hf : fitB ns = true) (h : nxF ns (bF8 s) (8 * s.size) p = .ok (t, q)) :
    Calls Tryz.prog 104 #[.pointer (some ⟨gt, 0, none⟩), .pointer (some ⟨gx, 0, none⟩)] w fun e w' => e = .returned (.tuple #[.int .i64 (t : Int), .int .i64 0]) ∧ RdAt w' B gr gx s q most out ∧ KS w w' ∧ Below B w w' := by
 refine (qrd ns h15 hl B1 gt gx s p w hP hR.2.2.1 (by omega) hp).mono ?_
 rintro e w' ⟨j, y, er, rfl, hN, hS, hG⟩
 have hn := q2p ns h15 hf (bF8 s) (8 * s.size) p j y er hp hN
 rw [h] at hn
 unfold nxOf at hn
 rcases qe2 hN with ⟨rfl, hj, u, rfl, hu⟩ | ⟨_, rfl | rfl⟩
 · rw [if_pos rfl] at hn
   simp only [Except.ok.injEq, Prod.mk.injEq, Int.toNat_natCast] at hn
   obtain ⟨rfl, rfl⟩ := hn
   exact ⟨rfl, hR.moved hG hS⟩
 · rw [if_neg (by decide)] at hn; cases hn
 · rw [if_neg (by decide)] at hn; cases hn
theorem qik (B gr gx : Nat) (s : ByteArray) (p most out er B1 gt : Nat) (ns : List Nat) (w : World) (hR : RdAt w B gr gx s p most out) (hs : s.size ≤ 100000000) (hp : p ≤ 8 * s.size) (hP : qao w B1 gt ns ns.length) (h15 : qbh ns) (hl : ns.length ≤ 320) (hf : fitB ns = true) (h : nxF ns (bF8 s) (8 * s.size) p = .error er) :
    Calls Tryz.prog 104 #[.pointer (some ⟨gt, 0, none⟩), .pointer (some ⟨gx, 0, none⟩)] w fun e w' => e = .returned (.tuple #[.int .i64 0, .int .i64 (er : Int)]) ∧ er ≠ 0 ∧ KS w w' ∧ Below B w w' ∧ ∃ q, RdAt w' B gr gx s q most out := by
 refine (qrd ns h15 hl B1 gt gx s p w hP hR.2.2.1 (by omega) hp).mono ?_
 rintro e w' ⟨j, y, er', rfl, hN, hS, hG⟩
 have hn := q2p ns h15 hf (bF8 s) (8 * s.size) p j y er' hp hN
 rw [h] at hn
 unfold nxOf at hn
 obtain ⟨h1, h2, h3⟩ := hR.moved hG hS
 rcases qe2 hN with ⟨rfl, _⟩ | ⟨rfl, rfl | rfl⟩
 · rw [if_pos rfl] at hn; cases hn
 · rw [if_neg (by decide)] at hn
   simp only [Except.error.injEq] at hn
   subst hn
   exact ⟨rfl, by decide, h2, h3, _, h1⟩
 · rw [if_neg (by decide)] at hn
   simp only [Except.error.injEq] at hn
   subst hn
   exact ⟨rfl, by decide, h2, h3, _, h1⟩
end Go.Proofs.YthkppipdflmekaaGreat
