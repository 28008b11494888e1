/- A chunker.Chunker as it lies in memory; the contracts of slide, ends and cut. -/
import Derived.Test.YtnfemofighgenabRows
import Derived.Test.YtnfemofighgenabGrow
import Derived.Test.YtnfemofighgenabChkM
import Derived.Test.YtnfemofighgenabPolyB
import Derived.Deep.OwnRows
import Derived.Deep.QuietTactic
import Derived.BigQuiet
namespace Go.Proofs.Ytnfemofighgenab
open Go.RowKit
set_option linter.unusedVariables false

/-- The cells of a chunker: its configuration, the text ahead T, what no chunk has yet. -/
structure CF (f : Nat → Value) (mn bt mx : Nat) (T p : List UInt8) (cl : Bool) : Prop where
  c0 : f 0 = .int .i64 (mn : Int)
  c1 : f 1 = .int .i64 (bt : Int)
  c2 : f 2 = .int .i64 (mx : Int)
  win : ∃ win : Nat → UInt8, WI T win ∧ ∀ j, j < 16 → f (3 + j) = .int .u8 ((win j).toNat : Int)
  plc : f 19 = .int .i64 ((T.length % 16 : Nat) : Int)
  fp : f 20 = .int .u64 ((fpr T : Nat) : Int)
  any : ∀ j, j < 4096 → ∃ x : UInt8, f (21 + j) = .int .u8 (x.toNat : Int)
  buf : ∀ j, j < p.length → f (21 + j) = .int .u8 ((p.getD j 0).toNat : Int)
  len : f 4117 = .int .i64 (p.length : Int)
  cls : f 4118 = .bool cl
def CK (w : World) (g mn bt mx : Nat) (T p : List UInt8) (cl : Bool) : Prop := ∃ f, w.rowIs g 51 4119 f ∧ CF f mn bt mx T p cl
theorem CK.lt {w : World} {g mn bt mx : Nat} {T p : List UInt8} {cl : Bool} (h : CK w g mn bt mx T p cl) : g < w.heap.size := by
  obtain ⟨f, hR, _⟩ := h; exact hR.lt
theorem CK.kept {w w' : World} {g mn bt mx : Nat} {T p : List UInt8} {cl : Bool} {row : Option Nat} (h : CK w g mn bt mx T p cl) (hg : w.grownBy w' row) (hne : some g ≠ row) : CK w' g mn bt mx T p cl := by
  have hl := h.lt
  obtain ⟨f, hR, hF⟩ := h
  exact ⟨f, hR.of_block (hg.block g hl hne), hF⟩
theorem CK.drewN {w : World} {g mn bt mx : Nat} {T p : List UInt8} {cl : Bool} (h : CK w g mn bt mx T p cl) (n : Nat) : CK (w.drewN n) g mn bt mx T p cl := h
theorem CK.drew {w : World} {g mn bt mx : Nat} {T p : List UInt8} {cl : Bool} (h : CK w g mn bt mx T p cl) : CK w.drew g mn bt mx T p cl := h
theorem PR_fit : fitP PR = true := by decide +kernel
theorem PR_lt : PR < 18446744073709551616 := by decide
theorem OL_lt : OL < 18446744073709551616 := by decide
theorem fpr_64 (T : List UInt8) : fpr T < 18446744073709551616 := lt64 (by have := fpr_lt T; omega)
theorem times_old (b : Nat) (w : World) (hb : b < 18446744073709551616) : Calls Try.prog 30 #[.int .u64 3892338706152590, .int .u64 (b : Int), .int .u64 17349423945073011] w fun e w' => e = .returned (.tuple #[.int .u64 ((tm PR OL b : Nat) : Int), .int .i64 0]) ∧ w' = w :=
  ptimes_good OL b PR w OL_lt hb PR_lt PR_fit
theorem append_pr (p c : Nat) (w : World) (hp : p < 18446744073709551616) (hc : c < 256) : Calls Try.prog 31 #[.int .u64 (p : Int), .int .u8 (c : Int), .int .u64 17349423945073011] w fun e w' => e = .returned (.tuple #[.int .u64 ((nxt PR p c : Nat) : Int), .int .i64 0]) ∧ w' = w :=
  pappend_good p c PR w hp hc PR_lt PR_fit
theorem CF.slide {f : Nat → Value} {mn bt mx : Nat} {T p : List UInt8} {cl : Bool} (h : CF f mn bt mx T p cl) (c : UInt8) :
    CF (fun j => if j = 19 then .int .i64 (((T ++ [c]).length % 16 : Nat) : Int) else if j = 3 + T.length % 16 then .int .u8 (c.toNat : Int) else if j = 20 then .int .u64 ((fpr (T ++ [c]) : Nat) : Int) else f j) mn bt mx (T ++ [c]) p cl := by
  have hl : T.length % 16 < 16 := Nat.mod_lt _ (by decide)
  obtain ⟨win, hw, hwf⟩ := h.win
  refine ⟨?_, ?_, ?_, ⟨_, hw.step c, fun j hj => ?_⟩, ?_, ?_, fun j hj => ?_, fun j hj => ?_, ?_, ?_⟩
  · (try simp only); rw [if_neg (by omega), if_neg (by omega), if_neg (by omega)]; exact h.c0
  · (try simp only); rw [if_neg (by omega), if_neg (by omega), if_neg (by omega)]; exact h.c1
  · (try simp only); rw [if_neg (by omega), if_neg (by omega), if_neg (by omega)]; exact h.c2
  · (try simp only)
    rw [if_neg (by omega)]
    by_cases e : j = T.length % 16
    · rw [if_pos (by omega), if_pos e]
    · rw [if_neg (by omega), if_neg (by omega), if_neg e]; exact hwf j hj
  · simp
  · simp only; rw [if_neg (by omega), if_neg (by omega)]; simp
  · (try simp only); rw [if_neg (by omega), if_neg (by omega), if_neg (by omega)]; exact h.any j hj
  · (try simp only); rw [if_neg (by omega), if_neg (by omega), if_neg (by omega)]; exact h.buf j hj
  · (try simp only); rw [if_neg (by omega), if_neg (by omega), if_neg (by omega)]; exact h.len
  · (try simp only); rw [if_neg (by omega), if_neg (by omega), if_neg (by omega)]; exact h.cls
set_option maxRecDepth 100000 in
set_option maxHeartbeats 1000000 in
theorem slide_any (g mn bt mx : Nat) (T p : List UInt8) (cl : Bool) (c : UInt8) (w : World) (hC : CK w g mn bt mx T p cl) :
    Calls Try.prog 21 #[.pointer (some ⟨g, 0, none⟩), .int .u8 (c.toNat : Int)] w fun e w' => e = .returned (.tuple #[]) ∧ CK w' g mn bt mx (T ++ [c]) p cl ∧ w.grownBy w' (some g) := by
  obtain ⟨f, hR, hF⟩ := hC
  obtain ⟨win, hw, hwf⟩ := hF.win
  have HF : Hid _ := hF.slide c
  have hl : T.length % 16 < 16 := Nat.mod_lt _ (by decide)
  have p1 : w.cell? ⟨g, 19, none⟩ = some (.int .i64 ((T.length % 16 : Nat) : Int)) := by rw [hR.cell (by omega), hF.plc]
  have p2 : w.cell? ⟨g, 3 + T.length % 16, none⟩ = some (.int .u8 (((L16 T).getD 0 0).toNat : Int)) := by rw [hR.cell (by omega), hwf _ hl, hw.gone]
  have p3 : w.cell? ⟨g, 20, none⟩ = some (.int .u64 ((fpr T : Nat) : Int)) := by rw [hR.cell (by omega), hF.fp]
  have f1 := hR.frozen 19
  have f2 := hR.frozen (3 + T.length % 16)
  have f3 := hR.frozen 20
  have HS : Hid (_ = _) := fpr_step T c
  have hb0 := ((L16 T).getD 0 0).toNat_lt
  have hc := c.toNat_lt
  have hf64 := fpr_64 T
  have ht64 : tm PR OL ((L16 T).getD 0 0).toNat < 18446744073709551616 := lt64 (by have := tm_lt PR OL ((L16 T).getD 0 0).toNat PR_ne; rw [PR_bl] at this; omega)
  have HT := fun W => times_old ((L16 T).getD 0 0).toNat W (by omega)
  generalize ((L16 T).getD 0 0).toNat = b0 at *
  have hx64 := xor64 hf64 ht64
  have HA := fun W => append_pr (fpr T ^^^ tm PR OL b0) c.toNat W hx64 hc
  have HN : Hid (nxt PR (fpr T ^^^ tm PR OL b0) c.toNat = fpr (T ++ [c])) := HS.out
  have HP : Hid ((T ++ [c]).length % 16 = (T.length % 16 + 1) % 16) := by unfold Hid; simp
  generalize hPl : T.length % 16 = P at *
  have HPL : Hid (_ = _) := hPl
  have HT : Hid _ := HT
  have HA : Hid _ := HA
  clear hwf hw win hPl HS
  go_enter Try.func21, Try.ntmps21
  go_wp2
  go_quiet ((go_at_call 30; exact Calls.quiet_of_same (HT.out _)))
  go_wp2_with (first | (go_at_call 28; refine (padd_any _ _ _ hf64 ht64).mono ?_; rintro e w1 ⟨rfl, rfl⟩) | (go_at_call 31; refine (HA.out _).mono ?_; rintro e w1 ⟨rfl, rfl⟩))
  go_region
  rw [HN.out]
  have hR3 := (((show (w.drewN nq).rowIs g 51 4119 f from hR).set 20 (.int .u64 ((fpr (T ++ [c]) : Nat) : Int))).set (3 + P) (.int .u8 (c.toNat : Int))).drew
  have hG3 : w.grownBy (((w.drewN nq).setCell ⟨g, 20, none⟩ (.int .u64 ((fpr (T ++ [c]) : Nat) : Int))).setCell ⟨g, 3 + P, none⟩ (.int .u8 (c.toNat : Int))).drew (some g) := gdrew (gset (gset (gdrewN (grefl w _) nq) _ _) _ _)
  generalize (((w.drewN nq).setCell ⟨g, 20, none⟩ (.int .u64 ((fpr (T ++ [c]) : Nat) : Int))).setCell ⟨g, 3 + P, none⟩ (.int .u8 (c.toNat : Int))).drew = W3 at *
  have q1 : W3.cell? ⟨g, 19, none⟩ = some (.int .i64 (P : Int)) := by
    rw [hR3.cell (by omega)]
    (try simp only)
    rw [if_neg (by omega), if_neg (by omega), hF.plc, HPL.out]
  have q2 := hR3.frozen 19
  have hR4 : Hid _ := hR3.set 19 (.int .i64 (((T ++ [c]).length % 16 : Nat) : Int))
  have hP1 : ((P : Int) + 1) % 16 = (((T ++ [c]).length % 16 : Nat) : Int) := by rw [HP.out]; omega
  have hP2 : ((P : Int) + 1).tmod 16 = (((T ++ [c]).length % 16 : Nat) : Int) := by rw [Int.tmod_eq_emod_of_nonneg (by omega)]; exact hP1
  have HG : Hid _ := gset hG3 19 (.int .i64 (((T ++ [c]).length % 16 : Nat) : Int))
  clear hR hR3 hG3 HT HA HN HP p1 p2 p3 f1 f2 f3
  generalize (T ++ [c]).length % 16 = P2 at *
  go_wp2
  exact bodyPost_end (results_none rfl _ _ _) rfl ⟨rfl, ⟨_, hR4.out, HF.out⟩, HG.out⟩
theorem low_and (x bt : Nat) (hx : x < 18446744073709551616) (hb : bt ≤ 20) : (bits BinOp.and IntKind.u64 (x : Int) (((2 ^ bt - 1 : Nat)) : Int) == 0) = (x % 2 ^ bt == 0) := by
  have hp : 2 ^ bt ≤ 2 ^ 20 := Nat.pow_le_pow_right (by decide) hb
  have h0 : 0 < 2 ^ bt := Nat.pow_pos (by decide)
  rw [u64_and_nat x _ hx (by omega), Nat.and_two_pow_sub_one_eq_mod, Bool.eq_iff_iff, beq_iff_eq, beq_iff_eq]; omega
set_option maxRecDepth 100000 in
set_option maxHeartbeats 1000000 in
theorem ends_any (g mn bt mx : Nat) (T p : List UInt8) (cl : Bool) (w : World) (hC : CK w g mn bt mx T p cl) (hbt : bt ≤ 20) (hmn : mn ≤ 4096) (hmx : mx ≤ 4096) (hp : p.length ≤ 4096) :
    Calls Try.prog 22 #[.pointer (some ⟨g, 0, none⟩)] w fun e w' => e = .returned (.bool (endB mn bt mx T p.length)) ∧ ∃ n, w' = w.drewN n := by
  obtain ⟨f, hR, hF⟩ := hC
  have p0 : w.cell? ⟨g, 0, none⟩ = some (.int .i64 (mn : Int)) := by rw [hR.cell (by omega), hF.c0]
  have p1 : w.cell? ⟨g, 1, none⟩ = some (.int .i64 (bt : Int)) := by rw [hR.cell (by omega), hF.c1]
  have p2 : w.cell? ⟨g, 2, none⟩ = some (.int .i64 (mx : Int)) := by rw [hR.cell (by omega), hF.c2]
  have p3 : w.cell? ⟨g, 20, none⟩ = some (.int .u64 ((fpr T : Nat) : Int)) := by rw [hR.cell (by omega), hF.fp]
  have p4 : w.cell? ⟨g, 4117, none⟩ = some (.int .i64 (p.length : Int)) := by rw [hR.cell (by omega), hF.len]
  have HL : Hid (_ = _) := low_and (fpr T) bt (fpr_64 T) hbt
  obtain ⟨Q, hQ⟩ : ∃ Q, Q = 2 ^ bt := ⟨_, rfl⟩
  have hp20 : 2 ^ bt ≤ 2 ^ 20 := Nat.pow_le_pow_right (by decide) hbt
  have hpp : 0 < 2 ^ bt := Nat.pow_pos (by decide)
  have w1 : IntKind.u64.wrap (2 ^ bt) = (Q : Int) := by
    have := wrap64_id (m := 1) (k := bt) (by omega)
    simp only [Int.natCast_one, Int.one_mul, Nat.one_mul] at this
    rw [hQ]; exact this
  have w2 : IntKind.u64.wrap (1 * 2 ^ bt) = (Q : Int) := by rw [Int.one_mul]; exact w1
  have hQ1 : (Q : Int) - 1 = ((2 ^ bt - 1 : Nat) : Int) := by omega
  have hQl : 1 ≤ Q := by omega
  have hQu : Q ≤ 1048576 := by omega
  have HEn : Hid (endB mn bt mx T p.length = (decide (mx ≤ p.length) || (decide (mn ≤ p.length) && (fpr T % 2 ^ bt == 0)))) := rfl
  clear hR hF hp20 hpp hQ
  generalize 2 ^ bt - 1 = Q1 at *
  generalize fpr T % 2 ^ bt = R at *
  generalize fpr T = F at *
  generalize endB mn bt mx T p.length = E at *
  generalize p.length = n at *
  by_cases h1 : mx ≤ n
  · have h1i : (mx : Int) ≤ (n : Int) := by omega
    have HE : Hid (E = true) := by rw [HEn.out, decide_eq_true h1]; exact rfl
    clear HEn h1
    go_enter Try.func22, Try.ntmps22
    go_wp2
    go_quiet (fail)
    go_wp2
    go_ret
    rw [HE.out]; exact ⟨rfl, _, rfl⟩
  · have h1i : ¬ (mx : Int) ≤ (n : Int) := by omega
    by_cases h2 : mn ≤ n
    · have h2i : decide ((mn : Int) ≤ (n : Int)) = true := by simp; omega
      have h2n : decide (mn ≤ n) = true := by simp; omega
      have HE : Hid (E = (bits BinOp.and IntKind.u64 (F : Int) (Q1 : Int) == 0)) := by rw [HEn.out, decide_eq_false h1, decide_eq_true h2, Bool.false_or, Bool.true_and]; exact HL.out.symm
      clear HEn h1 h2 HL
      go_enter Try.func22, Try.ntmps22
      go_wp2
      go_quiet (fail)
      go_wp2
      go_quiet (fail)
      go_wp2
      go_ret
      rw [HE.out]; exact ⟨rfl, _, World.drewN_drewN ..⟩
    · have h2i : decide ((mn : Int) ≤ (n : Int)) = false := by simp; omega
      have h2n : decide (mn ≤ n) = false := by simp; omega
      have HE : Hid (E = false) := by rw [HEn.out, decide_eq_false h1, decide_eq_false h2]; exact rfl
      clear HEn h1 h2 HL
      go_enter Try.func22, Try.ntmps22
      go_wp2
      go_quiet (fail)
      go_wp2
      go_quiet (fail)
      go_wp2
      go_ret
      rw [HE.out]; exact ⟨rfl, _, World.drewN_drewN ..⟩
theorem Try.undC : Try.prog.underlying 49 = some (.array (Try.prog.arrayLen 49) (Try.prog.elem 49)) := by kernel_rfl
theorem Try.szC (W : World) : (sizeOf (Try.prog.elem 49)).run Try.prog W = .ok 1 W := by kernel_rfl
theorem Try.lenC : Try.prog.arrayLen 49 = 4096 := by kernel_rfl
theorem cut_arr {g n : Nat} (h : n ≤ 4096) (W : World) : (Instr.sliceAt 49 (.pointer (some ⟨g, 21, none⟩)) none (some (.int .i64 (n : Int))) none).run Try.prog W = .ok (.slice (some ⟨g, 21, none⟩) n 4096) W := by
  rw [run_sliceAt_array_h (ht := Try.undC) (h0 := by omega) (h2 := by rw [Try.lenC]; omega), Try.szC, Try.lenC]
  simp [Result.andThen, slicedAt, Addr.add]
/-- The bytes of a chunk, made a string. -/
def bsU (l : List UInt8) : ByteArray := ⟨l.toArray⟩
theorem strOf_bsU (l : List UInt8) : strOfNums (l.map fun b => (b.toNat : Int)) = bsU l := by
  simp [strOfNums, bsU, Function.comp_def]
theorem CF.cut {f : Nat → Value} {mn bt mx : Nat} {T p : List UInt8} {cl : Bool} (h : CF f mn bt mx T p cl) : CF (fun j => if j = 4117 then .int .i64 0 else f j) mn bt mx T [] cl := by
  obtain ⟨win, hw, hwf⟩ := h.win
  refine ⟨?_, ?_, ?_, ⟨win, hw, fun j hj => ?_⟩, ?_, ?_, fun j hj => ?_, fun j hj => ?_, ?_, ?_⟩
  · simp; exact h.c0
  · simp; exact h.c1
  · simp; exact h.c2
  · (try simp only); rw [if_neg (by omega)]; exact hwf j hj
  · simp; exact h.plc
  · simp; exact h.fp
  · (try simp only); rw [if_neg (by omega)]; exact h.any j hj
  · simp at hj
  · simp
  · simp; exact h.cls
set_option maxRecDepth 100000 in
set_option maxHeartbeats 1000000 in
theorem cut_any (g mn bt mx : Nat) (T p : List UInt8) (cl : Bool) (w : World) (hC : CK w g mn bt mx T p cl) (hp : p.length ≤ 4096) :
    Calls Try.prog 23 #[.pointer (some ⟨g, 0, none⟩)] w fun e w' => e = .returned (.string (bsU p)) ∧ CK w' g mn bt mx T [] cl ∧ w.grownBy w' (some g) := by
  obtain ⟨f, hR, hF⟩ := hC
  have p4 : w.cell? ⟨g, 4117, none⟩ = some (.int .i64 (p.length : Int)) := by rw [hR.cell (by omega), hF.len]
  have f4 := hR.frozen 4117
  have hcut := fun W => cut_arr (g := g) hp W
  have hcv : ∀ k, (convert 60 9 (.slice (some ⟨g, 21, none⟩) p.length 4096)).run Try.prog (w.drewN k) = .ok (.string (bsU p)) (w.drewN k) := fun k => by
    rw [← strOf_bsU]
    refine run_convert_bytes_arg (w.drewN k) _ _ Try.underlying60 Try.underlying5 g 21 p.length 4096 _ (by simp) (fun i hi => ?_) _ Try.underlying9
    rw [World.cell?_drewN, hR.cell (by omega), hF.buf i hi]
    simp [List.getD_eq_getElem?_getD, hi]
  have hcv0 := hcv 0
  rw [World.drewN_zero] at hcv0
  have HF : Hid _ := hF.cut
  have HR : Hid (∀ k, ((w.drewN k).setCell ⟨g, 4117, none⟩ (.int .i64 0)).rowIs g 51 4119 _) := fun k => (show (w.drewN k).rowIs g 51 4119 f from hR).set 4117 (.int .i64 0)
  have HG : Hid (∀ k, w.grownBy ((w.drewN k).setCell ⟨g, 4117, none⟩ (.int .i64 0)) (some g)) := fun k => gset (gdrewN (grefl w _) k) _ _
  clear hR hF
  generalize p.length = n at *
  go_enter Try.func23, Try.ntmps23
  go_wp2
  go_quiet (fail)
  go_wp2
  go_ret
  exact ⟨rfl, ⟨_, HR.out _, HF.out⟩, HG.out _⟩
end Go.Proofs.Ytnfemofighgenab
