/- Contracts of inflate.tree, plant, times, told, Order. -/
import Derived.Test.YthkppipdflmekaaQInfU
namespace Go.Proofs.Ythkppipdflmekaa
open Go.RowKit
set_option linter.unusedVariables false

/-- Lengths as integers. -/
def zz (ns : List Nat) : List Int := ns.map fun n : Nat => (n : Int)
theorem zz_len (ns : List Nat) : (zz ns).length = ns.length := by simp [zz]
theorem zz_toN (ns : List Nat) : toN (zz ns) = ns := by simp [toN, zz, Function.comp_def]
theorem zz_at (ns : List Nat) (i : Nat) : (zz ns).getD i 0 = (ns.getD i 0 : Int) := by
  unfold zz
  rw [List.getD_eq_getElem?_getD, List.getElem?_map, List.getD_eq_getElem?_getD]
  cases ns[i]? <;> rfl
theorem zz_in15 (ns : List Nat) : in15 (zz ns) ↔ (ns.all fun n => decide (n ≤ 15)) = true := by
  rw [List.all_eq_true]
  constructor
  · intro h n hn
    obtain ⟨i, hi, rfl⟩ := List.getElem_of_mem hn
    have := (h i (by rw [zz_len]; exact hi)).2
    rw [zz_at, List.getD_eq_getElem?_getD, List.getElem?_eq_getElem hi] at this
    simp only [Option.getD_some] at this
    simp; omega
  · intro h i hi
    rw [zz_len] at hi
    have := h ns[i] (List.getElem_mem hi)
    rw [zz_at, List.getD_eq_getElem?_getD, List.getElem?_eq_getElem hi]
    simp only [Option.getD_some]
    simp at this; omega
theorem fitE_ok {ns : List Nat} (h : fitE ns = true) : errN (zz ns) = 0 ∧ Lens ns := by
  unfold fitE at h
  simp only [Bool.and_eq_true, decide_eq_true_eq] at h
  obtain ⟨⟨h1, h2⟩, h3⟩ := h
  refine ⟨errN_ok (by rw [zz_len]; omega) ((zz_in15 ns).2 h2) (by rw [zz_toN]; exact h3), ?_, h1, h3⟩
  intro n hn
  have := List.all_eq_true.1 h2 n hn
  simpa using this
theorem fitE_no {ns : List Nat} (h : fitE ns = false) : errN (zz ns) ≠ 0 := by
  intro he
  obtain ⟨h1, h2, h3⟩ := errN_zero he
  rw [zz_len] at h1
  rw [zz_toN] at h3
  have := (zz_in15 ns).1 h2
  unfold fitE at h
  rw [this, h3, decide_eq_true h1] at h
  cases h
set_option maxRecDepth 100000 in
set_option maxHeartbeats 1000000 in
theorem tree_ok (v : Value) (ns : List Nat) (w : World) (hR : IQ w v (zz ns)) (h : fitE ns = true) :
    Calls Try.prog 59 #[v] w fun e w' => ∃ B t, e = .returned (.tuple #[.pointer (some ⟨t, 0, none⟩), .int .i64 0]) ∧ Planted w' B t ns ns.length ∧ Below w.heap.size w w' := by
  have hp := plant_okO v (zz ns) w hR (fitE_ok h).1
  rw [zz_toN, zz_len] at hp
  have HP : Hid (Calls _ _ _ _ _) := hp
  clear hp hR
  go_enter Try.func59, Try.ntmps59
  go_wp2_with fail
  refine (Hid.out HP : Calls _ _ _ _ _).mono ?_
  rintro e w1 ⟨B, _, rfl, hP1, hB1⟩
  have HP1 : Hid (Planted w1 B (B + 1) ns ns.length) := hP1
  clear hP1
  go_wp2
  go_ret2
  exact ⟨B, B + 1, rfl, HP1.out, hB1⟩
set_option maxRecDepth 100000 in
set_option maxHeartbeats 1000000 in
theorem tree_err (v : Value) (ns : List Nat) (w : World) (hR : IQ w v (zz ns)) (hl : ns.length ≤ 400) (h : fitE ns = false) :
    Calls Try.prog 59 #[v] w fun e w' => e = .returned (.tuple #[.pointer none, .int .i64 3]) ∧ w' = w := by
  have he := fitE_no h
  have HP : Hid (Calls _ _ _ _ _) := plant_badO v (zz ns) w hR (by rw [zz_len]; exact hl) he
  have hei : ((errN (zz ns) : Int) != 0) = true := by simpa using he
  clear hR
  generalize errN (zz ns) = E at *
  go_enter Try.func59, Try.ntmps59
  go_wp2_with fail
  refine (Hid.out HP : Calls _ _ _ _ _).mono ?_
  rintro e w1 ⟨rfl, rfl⟩
  go_wp2
  go_ret2
  exact ⟨rfl, rfl⟩
set_option maxRecDepth 100000 in
set_option maxHeartbeats 1000000 in
theorem plant_good (v u : Value) (ls ds : List Nat) (w : World) (hL : IQ w v (zz ls)) (hD : IQ w u (zz ds)) (h1 : fitE ls = true) (h2 : fitE ds = true) :
    Calls Try.prog 53 #[v, u] w fun e w' => ∃ gc, e = .returned (.tuple #[.pointer (some ⟨gc, 0, none⟩), .int .i64 0]) ∧ CodesAt w' gc ls ds ∧ Below w.heap.size w w' := by
  have HT1 : Hid (Calls _ _ _ _ _) := tree_ok v ls w hL h1
  have HD : Hid (IQ w u (zz ds)) := hD
  clear hL hD
  go_enter Try.func53, Try.ntmps53
  go_wp2_with fail
  refine (Hid.out HT1 : Calls _ _ _ _ _).mono ?_
  rintro e w1 ⟨B1, t1, rfl, hP1, hB1⟩
  have HT2 : Hid (Calls _ _ _ _ _) := tree_ok u ds w1 (HD.out.below hB1) h2
  clear HT1
  go_wp2_with fail
  refine (Hid.out HT2 : Calls _ _ _ _ _).mono ?_
  rintro e w2 ⟨B2, t2, rfl, hP2, hB2⟩
  have hA : Below w2.heap.size w2 (w2.alloc (.cells #[.pointer (some ⟨t1, 0, none⟩), .pointer (some ⟨t2, 0, none⟩)] 110)) := (Below.refl _ w2).alloc (Nat.le_refl _) _
  have HC : Hid (CodesAt (w2.alloc (.cells #[.pointer (some ⟨t1, 0, none⟩), .pointer (some ⟨t2, 0, none⟩)] 110)) w2.heap.size ls ds) := ⟨B1, t1, B2, t2, heap_alloc_new w2 _, (hP1.kept hB2).kept hA, hP2.kept hA⟩
  have hBB : Below w.heap.size w w2 := hB1.trans (hB2.mono hB1.size)
  have HB : Hid (Below w.heap.size w (w2.alloc (.cells #[.pointer (some ⟨t1, 0, none⟩), .pointer (some ⟨t2, 0, none⟩)] 110))) := hBB.alloc hBB.size _
  clear hP1 hP2 hB1 hB2 hA hBB HT2
  go_wp2
  go_ret2
  exact ⟨w2.heap.size, rfl, HC.out, HB.out⟩
set_option maxRecDepth 100000 in
set_option maxHeartbeats 1000000 in
theorem plant_ill (v u : Value) (ls ds : List Nat) (w : World) (hL : IQ w v (zz ls)) (hD : IQ w u (zz ds)) (hl1 : ls.length ≤ 400) (hl2 : ds.length ≤ 400) (h : fitE ls = false ∨ fitE ds = false) :
    Calls Try.prog 53 #[v, u] w fun e w' => e = .returned (.tuple #[.pointer none, .int .i64 3]) ∧ Below w.heap.size w w' := by
  cases h1 : fitE ls
  · have HT1 : Hid (Calls _ _ _ _ _) := tree_err v ls w hL hl1 h1
    clear hL hD h
    go_enter Try.func53, Try.ntmps53
    go_wp2_with fail
    refine (Hid.out HT1 : Calls _ _ _ _ _).mono ?_
    rintro e w1 ⟨rfl, rfl⟩
    go_wp2
    go_ret2
    exact ⟨rfl, Below.refl _ _⟩
  · have h2 : fitE ds = false := by
      rcases h with h | h
      · rw [h1] at h; cases h
      · exact h
    have HT1 : Hid (Calls _ _ _ _ _) := tree_ok v ls w hL h1
    have HD : Hid (IQ w u (zz ds)) := hD
    clear hL hD h
    go_enter Try.func53, Try.ntmps53
    go_wp2_with fail
    refine (Hid.out HT1 : Calls _ _ _ _ _).mono ?_
    rintro e w1 ⟨B1, t1, rfl, hP1, hB1⟩
    have HT2 : Hid (Calls _ _ _ _ _) := tree_err u ds w1 (HD.out.below hB1) hl2 h2
    clear HT1 hP1
    go_wp2_with fail
    refine (Hid.out HT2 : Calls _ _ _ _ _).mono ?_
    rintro e w2 ⟨rfl, rfl⟩
    go_wp2
    go_ret2
    exact ⟨rfl, hB1⟩
theorem times_any (sym : Nat) (w : World) :
    Calls Try.prog 63 #[.int .i64 (sym : Int)] w fun e w' => e = .returned (.tuple #[.int .i64 ((tmF sym).1 : Int), .int .i64 ((tmF sym).2 : Int)]) ∧ w' = w := by
  by_cases h1 : sym = 16
  · subst h1
    go_enter Try.func63, Try.ntmps63
    go_wp2
    go_ret2
    exact ⟨rfl, rfl⟩
  · by_cases h2 : sym = 17
    · subst h2
      go_enter Try.func63, Try.ntmps63
      go_wp2
      go_ret2
      exact ⟨rfl, rfl⟩
    · by_cases h3 : sym = 18
      · subst h3
        go_enter Try.func63, Try.ntmps63
        go_wp2
        go_ret2
        exact ⟨rfl, rfl⟩
      · have HT : Hid (tmF sym = (1, 0)) := by unfold Hid tmF; rw [if_neg h1, if_neg h2, if_neg h3]
        have i1 : ((sym : Int) == 16) = false := by simp; omega
        have i2 : ((sym : Int) == 17) = false := by simp; omega
        have i3 : ((sym : Int) == 18) = false := by simp; omega
        rw [HT.out]
        go_enter Try.func63, Try.ntmps63
        go_wp2
        go_ret2
        exact ⟨rfl, rfl⟩
/-- Numbers as cells. -/
def nc (ns : List Nat) : List Value := ns.map fun n : Nat => Value.int .i64 (n : Int)
theorem nc_len (ns : List Nat) : (nc ns).length = ns.length := by simp [nc]
theorem nc_at (ns : List Nat) (i : Nat) (h : i < ns.length) : (nc ns)[i]? = some (.int .i64 (ns.getD i 0 : Int)) := by
  unfold nc
  rw [List.getElem?_map, List.getD_eq_getElem?_getD, List.getElem?_eq_getElem h]; rfl
theorem nc_app (a b : List Nat) : nc (a ++ b) = nc a ++ nc b := by simp [nc]
theorem nc_one (ns : List Nat) : ∀ v ∈ nc ns, v.oneCell' = true := by
  intro v hv
  simp [nc] at hv
  obtain ⟨z, _, rfl⟩ := hv
  rfl
theorem told_any (B n : Nat) (v : Value) (row : List Nat) (sym : Nat) (w : World) (hO : w.ownsRow B 3 1 v row.length (nc row)) (hl : row.length ≤ 100000) (h : sym = 16 → 0 < row.length) :
    Calls Try.prog 64 #[v, .int .i64 (sym : Int)] w fun e w' => e = .returned (.int .i64 (toldF row sym : Int)) ∧ w' = w := by
  by_cases h1 : sym = 16
  · have h0 := h h1
    subst h1
    obtain ⟨g, cap, rfl, _⟩ := own_frm0 hO h0
    have hc := hO.cellAt (row.length - 1) (by omega)
    rw [nc_at row _ (by omega)] at hc
    have HT : Hid (toldF row 16 = row.getD (row.length - 1) 0) := rfl
    have hix : (row.length : Int) - 1 = ((row.length - 1 : Nat) : Int) := by omega
    rw [HT.out]
    clear hO h
    generalize row.getD (row.length - 1) 0 = y at *
    go_enter Try.func64, Try.ntmps64
    go_wp2
    go_ret
    exact ⟨rfl, rfl⟩
  · have i1 : ((sym : Int) == 16) = false := by simp; omega
    by_cases h2 : sym = 17
    · subst h2
      go_enter Try.func64, Try.ntmps64
      go_wp2
      go_ret
      exact ⟨rfl, rfl⟩
    · have i2 : ((sym : Int) == 17) = false := by simp; omega
      by_cases h3 : sym = 18
      · subst h3
        go_enter Try.func64, Try.ntmps64
        go_wp2
        go_ret
        exact ⟨rfl, rfl⟩
      · have HT : Hid (toldF row sym = sym) := by unfold Hid toldF; rw [if_neg h1, if_neg (by omega)]
        have i3 : ((sym : Int) == 18) = false := by simp; omega
        rw [HT.out]
        clear hO h
        go_enter Try.func64, Try.ntmps64
        go_wp2
        go_ret
        exact ⟨rfl, rfl⟩
end Go.Proofs.Ythkppipdflmekaa
