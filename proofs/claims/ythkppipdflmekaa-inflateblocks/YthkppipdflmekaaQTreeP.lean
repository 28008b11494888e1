/- Contract of huff.Plant. -/
import Derived.Test.YthkppipdflmekaaQTreeA
namespace Go.Proofs.Ythkppipdflmekaa
open Go.RowKit
set_option linter.unusedVariables false

theorem isrow_below {k : IntKind} {w w' : World} {a : Option Addr} {len cap : Nat} {zs : List Int} (h : IsRow k w a len cap zs) (hb : Below w.heap.size w w') : IsRow k w' a len cap zs := by
  rcases h with h | ⟨x, rfl, hl, hm, hz, hcell, hwf⟩
  · exact .inl h
  · refine .inr ⟨x, rfl, hl, hm, hz, fun i hi => ?_, hwf⟩
    have hlt := World.block_lt_of_cell? w _ (hcell i hi)
    rw [hb.cell hlt]; exact hcell i hi
theorem CR.since {w w' : World} {g n : Nat} {b l : Nat → Nat} (h : CR w g n b l) (hb : Below w.heap.size w w') : CR w' g n b l := h.of_block (hb.block g h.lt)
/-- Which symbols have a code. -/
def Used (ns : List Nat) (k : Nat) : Nat → Prop := fun t => t < k ∧ 0 < ln ns t
theorem Used_yes (ns : List Nat) (k : Nat) (h : 0 < ln ns k) : (fun t => Used ns k t ∨ t = k) = Used ns (k + 1) := funext fun t => propext (by
  unfold Used
  by_cases e : t = k
  · subst e; simp [h]
  · simp [e]; omega)
theorem Used_no (ns : List Nat) (k : Nat) (h : ¬ 0 < ln ns k) : Used ns k = Used ns (k + 1) := funext fun t => propext (by
  unfold Used
  by_cases e : t = k
  · subst e; simp; omega
  · omega)
theorem Used_zero (ns : List Nat) : Used ns 0 = fun _ => False := funext fun t => propext (by unfold Used; simp)
/-- A tree of these lengths' codes, symbols below k. -/
def Planted (w : World) (B gt : Nat) (ns : List Nat) (k : Nat) : Prop := ∃ n br path, TreeI ns (Used ns k) (Used ns ns.length) n br path ∧ (∀ v, n ≤ v → ∀ c, br v c = 0) ∧ TreeAt w B gt n br ∧ n ≤ 1 + 15 * k
theorem Planted.kept {w w' : World} {B gt k : Nat} {ns : List Nat} (h : Planted w B gt ns k) (hb : Below w.heap.size w w') : Planted w' B gt ns k := by
  obtain ⟨n, br, path, h1, h2, h3, h4⟩ := h
  exact ⟨n, br, path, h1, h2, h3.kept hb, h4⟩
theorem make_tree (W : World) : (Instr.makeSlice 123 (.int .i64 1) (.int .i64 1)).run Try.prog W = .ok (.slice (some ⟨W.heap.size, 0, none⟩) 1 1) (W.alloc (.cells (madeCells #[.int .i64 0, .int .i64 0] 2) 122)) := by
  obtain ⟨i0, hi, hz0, hz1, hz2⟩ := info_parts Try.info2int
  have h := run_make (P := Try.prog) W 123 122 i0 _ Try.underlying123 hi hz0 .i64 .i64 1 1 (by omega) (by omega) (by rw [hz2]; omega) (by omega)
  rw [hz1] at h
  simpa [Value.cells] using h
theorem plant_start (W : World) (ns : List Nat) : Planted ((W.alloc (.cells (madeCells #[.int .i64 0, .int .i64 0] 2) 122)).alloc (.cells #[.slice (some ⟨W.heap.size, 0, none⟩) 1 1] 125)) W.heap.size (W.heap.size + 1) ns 0 := by
  refine ⟨1, fun _ _ => 0, fun _ => [], ?_, fun _ _ _ => rfl, ⟨W.heap.size, 1, ?_, Nat.le_succ _, ?_⟩, by omega⟩
  · rw [Used_zero]; exact (TreeI.start ns).more fun s h => h.elim
  · have := heap_alloc_new (W.alloc (.cells (madeCells #[.int .i64 0, .int .i64 0] 2) 122)) (.cells #[.slice (some ⟨W.heap.size, 0, none⟩) 1 1] 125)
    rw [World.size_alloc] at this
    exact this
  · have := World.ownsRow_lit (base := W.heap.size) (e := 122) (size := 2) W (madeCells #[.int .i64 0, .int .i64 0] 2) 1 (Nat.le_refl _) (by decide) (size_madeCells _ _)
    have e : (madeCells #[.int .i64 0, .int .i64 0] 2).toList = trC (fun _ _ => 0) 1 := by
      apply List.ext_getElem?
      intro j
      rcases (show j = 0 ∨ j = 1 ∨ 2 ≤ j by omega) with rfl | rfl | h
      · simp [madeCells, trC]
      · simp [madeCells, trC]
      · rw [List.getElem?_eq_none (by rw [Array.length_toList, size_madeCells]; exact h), List.getElem?_eq_none (by rw [trC_len]; exact h)]
    rw [e] at this
    exact this.alloc _
/-- One symbol more. -/
theorem plant_add (ns : List Nat) (h15 : all15 ns) (hf : fitB ns = true) (hl : ns.length ≤ 320) (k B gt : Nat) (hk : k < ns.length) (hp : 0 < ln ns k) (w : World) (h : Planted w B gt ns k) :
    Calls Try.prog 71 #[.pointer (some ⟨gt, 0, none⟩), .agg #[.int .u32 (cdOf ns k : Int), .int .i64 (ln ns k : Int)], .int .i64 (k : Int)] w fun e w' => e = .returned (.tuple #[]) ∧ Planted w' B gt ns (k + 1) ∧ Below B w w' := by
  obtain ⟨n, br, path, h1, h2, h3, h4⟩ := h
  have hlt := cd_lt ns h15 hf k hk hp
  rw [← cdOf_at ns k hp] at hlt
  have hl15 := h15.at k
  have h32 : 2 ^ ln ns k ≤ 2 ^ 15 := Nat.pow_le_pow_right (by decide) hl15
  refine (add_any ns (Used ns k) (Used ns ns.length) n k B gt br path w h1 h2 h3 ⟨hk, hp⟩ (fun t ht hpf => ?_) (fun t ht hpf => ?_) hp hl15 (by omega) (by omega) (by omega)).mono ?_
  · have := codeS_pf ns h15 hf t k (by have := ht.1; omega) hk ht.2 hp hpf
    have := ht.1; omega
  · exact (codeS_pf ns h15 hf k t hk ht.1 hp ht.2 hpf).symm
  · rintro e w' ⟨rfl, n', br', path', g1, g2, g3, g4, g5⟩
    rw [Used_yes ns k hp] at g1
    exact ⟨rfl, ⟨n', br', path', g1, g2, g3, by omega⟩, g5⟩
set_option maxRecDepth 100000 in
set_option maxHeartbeats 1000000 in
theorem plant_badO (v : Value) (zs : List Int) (w : World) (hR : IQ w v zs) (hl : zs.length ≤ 400) (he : errN zs ≠ 0) :
    Calls Try.prog 66 #[v] w fun e w' => e = .returned (.tuple #[.pointer none, .int .i64 (errN zs : Int)]) ∧ w' = w := by
  have hei : ((errN zs : Int) != 0) = true := by simp; omega
  have HCk : Hid (Calls Try.prog 70 #[v] w fun e w' => e = .returned (.tuple #[.slice none 0 0, .int .i64 (errN zs : Int)]) ∧ w' = w) := codes_badO v zs w hR hl he
  generalize errN zs = E at *
  go_enter Try.func66, Try.ntmps66
  go_wp2_with fail
  refine (Hid.out HCk : Calls _ _ _ _ _).mono ?_
  rintro e w1 ⟨rfl, rfl⟩
  go_wp2
  go_ret2
  exact ⟨rfl, rfl⟩
set_option maxRecDepth 100000 in
set_option maxHeartbeats 1000000 in
theorem plant_okO (v : Value) (zs : List Int) (w : World) (hR : IQ w v zs) (he : errN zs = 0) :
    Calls Try.prog 66 #[v] w fun e w' => ∃ B, w.heap.size ≤ B ∧ e = .returned (.tuple #[.pointer (some ⟨B + 1, 0, none⟩), .int .i64 0]) ∧ Planted w' B (B + 1) (toN zs) zs.length ∧ Below w.heap.size w w' := by
  obtain ⟨hl, h15, hf⟩ := errN_zero he
  have HCk : Hid (Calls Try.prog 70 #[v] w fun e w' => e = .returned (.tuple #[.slice (some ⟨w.heap.size, 0, none⟩) zs.length zs.length, .int .i64 0]) ∧ CR w' w.heap.size zs.length (cdOf (toN zs)) (ln (toN zs)) ∧ Below w.heap.size w w') := codes_okO v zs w hR he
  have HA15 : Hid (all15 (toN zs)) := h15.all
  have HF : Hid (fitB (toN zs) = true) := hf
  have HTL : Hid ((toN zs).length = zs.length) := toN_len zs
  have HL15 : Hid (∀ i, ln (toN zs) i ≤ 15) := fun i => h15.all.at i
  clear h15 hf he hR
  go_enter Try.func66, Try.ntmps66
  go_wp2_with fail
  refine (Hid.out HCk : Calls _ _ _ _ _).mono ?_
  rintro e w1 ⟨rfl, hC, hb1⟩
  clear HCk
  have HC : Hid (CR w1 w.heap.size zs.length (cdOf (toN zs)) (ln (toN zs))) := hC
  have HB1 : Hid (Below w.heap.size w w1) := hb1
  have hmk := make_tree
  have HP0 : Hid (Planted ((w1.alloc (.cells (madeCells #[.int .i64 0, .int .i64 0] 2) 122)).alloc (.cells #[.slice (some ⟨w1.heap.size, 0, none⟩) 1 1] 125)) w1.heap.size (w1.heap.size + 1) (toN zs) 0) := plant_start w1 _
  have HBl0 : Hid (Below w1.heap.size w1 ((w1.alloc (.cells (madeCells #[.int .i64 0, .int .i64 0] 2) 122)).alloc (.cells #[.slice (some ⟨w1.heap.size, 0, none⟩) 1 1] 125))) := ((Below.refl _ w1).alloc (Nat.le_refl _) _).alloc (by rw [World.size_alloc]; exact Nat.le_succ _) _
  have hg1 : w.heap.size < w1.heap.size := by
    obtain ⟨c, h1, _⟩ := hC
    exact (Array.getElem?_eq_some_iff.1 h1).1
  clear hC hb1
  go_wp2
  generalize World.alloc (World.alloc w1 _) _ = W2 at *
  clear hmk
  go_loopw [22] (fun i wr => ∃ k : Nat, k ≤ zs.length ∧ i = .int .i64 (k : Int) ∧ Planted wr w1.heap.size (w1.heap.size + 1) (toN zs) k ∧ Below w1.heap.size w1 wr) (fun i _ => zs.length - (intOf i).toNat)
  case atStart => exact ⟨0, by omega, rfl, HP0.out, HBl0.out⟩
  case round =>
    clear HP0 HBl0
    obtain ⟨k, hk, rfl, hP, hB⟩ := hrel
    by_cases hlt : k < zs.length
    · have ce : wr.cell? ⟨w.heap.size, k * 2, none⟩ = some (.int .u32 (cdOf (toN zs) k : Int)) := by rw [hB.cell (p := ⟨w.heap.size, k * 2, none⟩) hg1, HC.out.cell (i := k * 2) (by omega), codeF_even]
      have co : wr.cell? ⟨w.heap.size, k * 2 + 1, none⟩ = some (.int .i64 (ln (toN zs) k : Int)) := by rw [hB.cell (p := ⟨w.heap.size, k * 2 + 1, none⟩) hg1, HC.out.cell (i := k * 2 + 1) (by omega), codeF_odd]
      have hki : (k : Int) < (zs.length : Int) := by omega
      have hki0 : (0 : Int) ≤ (k : Int) := by omega
      have HP : Hid (Planted wr w1.heap.size (w1.heap.size + 1) (toN zs) k) := hP
      have HB : Hid (Below w1.heap.size w1 wr) := hB
      have hws : w1.heap.size ≤ wr.heap.size := hB.size
      have hl15 := HL15.out k
      clear hP hB
      by_cases hp : 0 < ln (toN zs) k
      · have HCall : Hid (∀ W, Planted W w1.heap.size (w1.heap.size + 1) (toN zs) k → Calls Try.prog 71 #[.pointer (some ⟨w1.heap.size + 1, 0, none⟩), .agg #[.int .u32 (cdOf (toN zs) k : Int), .int .i64 (ln (toN zs) k : Int)], .int .i64 (k : Int)] W fun e w' => e = .returned (.tuple #[]) ∧ Planted w' w1.heap.size (w1.heap.size + 1) (toN zs) (k + 1) ∧ Below w1.heap.size W w') :=
          fun W hW => plant_add (toN zs) HA15.out HF.out (by rw [HTL.out]; exact hl) k w1.heap.size (w1.heap.size + 1) (by rw [HTL.out]; exact hlt) hp W hW
        have hpi : (0 : Int) < (ln (toN zs) k : Int) := by omega
        generalize cdOf (toN zs) k = X at *
        generalize ln (toN zs) k = M at *
        go_wp2_with fail
        refine (HCall.out _ (HP.out.kept ((Below.refl _ wr).alloc (Nat.le_refl _) _))).mono ?_
        rintro e w3 ⟨rfl, hP3, hb3⟩
        have HP3 : Hid (Planted w3 w1.heap.size (w1.heap.size + 1) (toN zs) (k + 1)) := hP3
        have HB3 : Hid (Below w1.heap.size w1 w3) := (HB.out.alloc hws _).trans hb3
        clear hP3 hb3
        go_wp2
        go_roundw
        case rel => exact ⟨k + 1, by omega, by go_num, HP3.out, HB3.out⟩
        case measure => simp [intOf]; omega
      · have HPn : Hid (Planted wr w1.heap.size (w1.heap.size + 1) (toN zs) (k + 1)) := by
          obtain ⟨n, br, path, h1, h2, h3, h4⟩ := HP.out
          rw [Used_no (toN zs) k hp] at h1
          exact ⟨n, br, path, h1, h2, h3, by omega⟩
        obtain hM0 : ln (toN zs) k = 0 := by omega
        rw [hM0] at co
        generalize cdOf (toN zs) k = X at *
        go_wp2
        go_roundw
        case rel => exact ⟨k + 1, by omega, by go_num, HPn.out.kept ((Below.refl _ wr).alloc (Nat.le_refl _) _), HB.out.alloc hws _⟩
        case measure => simp [intOf]; omega
    · obtain rfl : k = zs.length := by omega
      have HP : Hid (Planted wr w1.heap.size (w1.heap.size + 1) (toN zs) zs.length) := hP
      have HBf : Hid (Below w.heap.size w wr) := HB1.out.trans (hB.mono (Nat.le_of_lt hg1))
      clear hP hB
      go_wp2
      go_ret2
      exact ⟨w1.heap.size, Nat.le_of_lt hg1, rfl, HP.out, HBf.out⟩
theorem plant_bad (v : Value) (zs : List Int) (w : World) (hR : IR w v zs) (hl : zs.length ≤ 400) (he : errN zs ≠ 0) :
    Calls Try.prog 66 #[v] w fun e w' => e = .returned (.tuple #[.pointer none, .int .i64 (errN zs : Int)]) ∧ w' = w :=
  plant_badO v zs w hR.io hl he
theorem plant_ok (v : Value) (zs : List Int) (w : World) (hR : IR w v zs) (he : errN zs = 0) :
    Calls Try.prog 66 #[v] w fun e w' => ∃ B, w.heap.size ≤ B ∧ e = .returned (.tuple #[.pointer (some ⟨B + 1, 0, none⟩), .int .i64 0]) ∧ Planted w' B (B + 1) (toN zs) zs.length ∧ Below w.heap.size w w' :=
  plant_okO v zs w hR.io he
end Go.Proofs.Ythkppipdflmekaa
