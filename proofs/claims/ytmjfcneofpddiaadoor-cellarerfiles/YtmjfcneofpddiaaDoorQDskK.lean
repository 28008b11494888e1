/- Contracts: a file's cut; the number of keeps. Contract: the number of keeps (the closure of Crash). -/
import Derived.Test.YtmjfcneofpddiaaDoorQDskI
import Derived.Deep.QuietTactic
import Derived.BigQuiet
namespace Go.Proofs.YtmjfcneofpddiaaDoor
open Go.RowKit Go.Maps
set_option linter.unusedVariables false
set_option linter.unusedSimpArgs false

theorem own_cut {w : World} {v : Value} {n cap : Nat} {a : Option Addr} {l : List UInt8} (h : w.ownsRow 0 5 1 (.slice a l.length cap) l.length (cb l)) (m : Nat) (hm : m ≤ l.length) : w.ownsRow 0 5 1 (.slice a m cap) m (cb (l.take m)) := by
  obtain ⟨h1, h2⟩ := h
  refine ⟨by rw [cb_len, List.length_take]; omega, ?_⟩
  rcases h2 with ⟨h2, h3⟩ | ⟨g, cap', cur, h3, h4, h5, h6, h7, h8, h9⟩
  · injection h2 with e1 e2 e3
    subst e1 e3
    exact .inl ⟨by have : m = 0 := by omega
                   rw [this], by omega⟩
  · injection h3 with e1 e2 e3
    subst e1 e3
    refine .inr ⟨g, cap, cur, rfl, h4, h5, by omega, h7, h8, ?_⟩
    rw [Nat.mul_one] at h9 ⊢
    have : (cur.toList.take l.length).take m = (cb l).take m := by rw [h9]
    rw [List.take_take, Nat.min_eq_left hm] at this
    rw [this]
    simp [cb, List.map_take]
theorem cutF_eq (f : List UInt8 × Nat) (n : Int) (M : Nat) (hM : f.1.length - f.2 + 1 = M) : cutF f n = (f.1.take (f.2 + ((n.tmod M + M).tmod M).toNat), f.2 + ((n.tmod M + M).tmod M).toNat) := by
  unfold cutF; rw [hM]
set_option maxRecDepth 100000 in
set_option maxHeartbeats 2000000 in
theorem kcut_any {K : Nat → Prop} {g : Nat} {f : List UInt8 × Nat} {v : Value} (n : Int) (w : World) (h : FB w K g f v) (hn0 : -9223372036854775808 ≤ n) (hn1 : n ≤ 9223372036854775807) :
    Calls Tryd.prog 37 #[.pointer (some ⟨g, 0, none⟩), .int .i64 n] w fun e w' => e = .returned (.tuple #[]) ∧ ∃ v', w'.heap.size = w.heap.size ∧ (∀ k, k ≠ g → w'.heap[k]? = w.heap[k]?) ∧ w'.heap[g]? = some (.cells #[v', .int .i64 ((cutF f n).2 : Int)] 71 (0, 0)) ∧
      w'.ownsRow 0 5 1 v' (cutF f n).1.length (cb (cutF f n).1) ∧ v'.ownBlock = v.ownBlock ∧ (cutF f n).2 = (cutF f n).1.length ∧ w'.os = w.os ∧ w'.tape = w.tape ∧ w'.output = w.output := by
  obtain ⟨f0, f1, z0, z1⟩ := h.fcell
  obtain ⟨fa, fc, rfl, hfc⟩ := own_form h.row
  have hsafe := h.safe
  have hbig := h.big
  obtain ⟨M, hM⟩ : ∃ M, f.1.length - f.2 + 1 = M := ⟨_, rfl⟩
  have HCF : Hid _ := cutF_eq f n M hM
  have HH : Hid (FB w K g f (.slice fa f.1.length fc)) := h
  have hM1 : 1 ≤ M := by omega
  have hmi : (f.1.length : Int) - (f.2 : Int) + 1 = (M : Int) := by omega
  have a1 : -(M : Int) < n.tmod M := by
    have h1 := Int.tmod_lt_of_pos (-n) (show (0 : Int) < M by omega)
    rw [Int.neg_tmod] at h1; omega
  have a2 : n.tmod M < (M : Int) := Int.tmod_lt_of_pos n (by omega)
  obtain ⟨r, hr⟩ : ∃ r : Nat, (n.tmod M + M).tmod M = (r : Int) := ⟨((n.tmod M + M).tmod M).toNat, by rw [Int.toNat_of_nonneg (Int.tmod_nonneg _ (by omega))]⟩
  have hrM : (r : Int) < (M : Int) := by rw [← hr]; exact Int.tmod_lt_of_pos _ (by omega)
  have HR : Hid ((n.tmod M + M).tmod M = (r : Int)) := hr
  generalize hq : n.tmod M = q at *
  have HQ : Hid (n.tmod M = q) := hq
  have e1 : IntKind.i64.wrap ((f.1.length : Int) - (f.2 : Int)) = (f.1.length : Int) - (f.2 : Int) := by rw [IntKind.wrap_i64]; omega
  have e2 : IntKind.i64.wrap ((f.1.length : Int) - (f.2 : Int) + 1) = (M : Int) := by rw [IntKind.wrap_i64]; omega
  have e3 : IntKind.i64.wrap (q + (M : Int)) = q + (M : Int) := by rw [IntKind.wrap_i64]; omega
  have e4 : IntKind.i64.wrap ((f.2 : Int) + (r : Int)) = ((f.2 + r : Nat) : Int) := by rw [IntKind.wrap_i64]; omega
  have hMz : ¬ (M : Int) = 0 := by omega
  clear h hM hfc
  go_enter Tryd.func37, Tryd.ntmps37
  go_wp2
  go_quiet (fail)
  go_wp2
  go_region
  have HE4 : Hid ((f.2 : Int) + (r : Int) = ((f.2 + r : Nat) : Int)) := by unfold Hid; omega
  rw [show (f.2 : Int) + (r : Int) = ((f.2 + r : Nat) : Int) from by omega]
  have hfm : f.2 + r ≤ f.1.length := by omega
  have HCUT : Hid (cutF f n = (f.1.take (f.2 + r), f.2 + r)) := by unfold Hid; rw [HCF.out, HR.out]; simp
  generalize hm : f.2 + r = m at *
  have hc1 : ((w.drewN (nq + 1)).setCell ⟨g, 1, none⟩ (.int .i64 (m : Int))).heap[g]? = some (.cells #[.slice fa f.1.length fc, .int .i64 (m : Int)] 71 (0, 0)) := (setc (w := w.drewN (nq + 1)) HH.out.cell).trans rfl
  have ho1 : ∀ k, k ≠ g → ((w.drewN (nq + 1)).setCell ⟨g, 1, none⟩ (.int .i64 (m : Int))).heap[k]? = w.heap[k]? := fun k hk => setc_o (w := w.drewN (nq + 1)) hk
  have hs1 : ((w.drewN (nq + 1)).setCell ⟨g, 1, none⟩ (.int .i64 (m : Int))).heap.size = w.heap.size := by simp [World.setCell]
  have hst : ((w.drewN (nq + 1)).setCell ⟨g, 1, none⟩ (.int .i64 (m : Int))).os = w.os ∧ ((w.drewN (nq + 1)).setCell ⟨g, 1, none⟩ (.int .i64 (m : Int))).tape = w.tape ∧ ((w.drewN (nq + 1)).setCell ⟨g, 1, none⟩ (.int .i64 (m : Int))).output = w.output := ⟨rfl, rfl, rfl⟩
  generalize (w.drewN (nq + 1)).setCell ⟨g, 1, none⟩ (.int .i64 (m : Int)) = W1 at *
  have HC1 : Hid (W1.heap[g]? = some (.cells #[.slice fa f.1.length fc, .int .i64 (m : Int)] 71 (0, 0))) := hc1
  have HO1 : Hid (∀ k, k ≠ g → W1.heap[k]? = w.heap[k]?) := ho1
  have HS1 : Hid (W1.heap.size = w.heap.size ∧ W1.os = w.os ∧ W1.tape = w.tape ∧ W1.output = w.output) := ⟨hs1, hst⟩
  have g0 : W1.cell? ⟨g, 0, none⟩ = some (.slice fa f.1.length fc) := (cell_of_row _ _ _ _ _ _ hc1).trans rfl
  have g1 : W1.cell? ⟨g, 1, none⟩ = some (.int .i64 (m : Int)) := (cell_of_row _ _ _ _ _ _ hc1).trans rfl
  have y0 : W1.frozen? ⟨g, 0, none⟩ = false := frozen_of_row _ _ _ _ _ hc1
  have hfcl : f.1.length ≤ fc := by obtain ⟨_, _, e, h'⟩ := own_form HH.out.row; injection e with _ _ e3; omega
  have hmfc : (m : Int) ≤ (fc : Int) := by omega
  have hmfn : m ≤ fc := by omega
  have hm0 : (0 : Int) ≤ (m : Int) := by omega
  clear hc1 ho1 hs1 hst hm f0 f1 z0 z1 e1 e2 e3 e4 hr hq hmi a1 a2 hrM hMz HQ HR HE4 hbig hsafe hM1 HCF
  go_wp2
  go_region
  go_wp2
  go_end0
  have hcut := HCUT.out
  have hl2 : (f.1.take m).length = m := by rw [List.length_take]; omega
  rw [hcut]
  refine ⟨rfl, .slice fa m fc, ?_, fun k hk => (setc_o (w := W1.drew) hk).trans (HO1.out k hk), (setc (w := W1.drew) HC1.out).trans rfl, ?_, by cases fa <;> rfl, hl2.symm, HS1.out.2.1, HS1.out.2.2.1, HS1.out.2.2.2⟩
  · simp [World.setCell]; exact HS1.out.1
  · have hc := own_cut (v := .slice fa m fc) (n := m) HH.out.row m hfm
    show World.ownsRow _ _ _ _ _ (f.1.take m).length _
    rw [hl2]
    refine own_kept hc (fun r hr => ?_)
    have hne : r ≠ g := fun e => HH.out.ne_row (by rw [← e, ← hr]; cases fa <;> rfl)
    exact (setc_o (w := W1.drew) hne).trans (HO1.out r hne)
end Go.Proofs.YtmjfcneofpddiaaDoor
namespace Go.Proofs.YtmjfcneofpddiaaDoor
open Go.RowKit Go.Maps
set_option linter.unusedVariables false
set_option linter.unusedSimpArgs false

/-- v is a slice that shows these numbers. -/
def KSl (w : World) (v : Value) (ks : List Int) : Prop :=
  ∃ a cap, v = .slice a ks.length cap ∧ ks.length ≤ cap ∧ ks.length ≤ 9223372036854775807 ∧ (∀ i, i < ks.length → ∃ b o, a = some ⟨b, o, none⟩ ∧ b < w.heap.size ∧ w.cell? ⟨b, o + i, none⟩ = some (.int .i64 (ks.getD i 0))) ∧ ∀ z ∈ ks, -9223372036854775808 ≤ z ∧ z ≤ 9223372036854775807
theorem KSl.keeps {w w' : World} {K : Nat → Prop} {v : Value} {ks : List Int} (h : KSl w v ks) (hk : Keeps K w w') (hK : 0 < ks.length → ∀ r, v.ownBlock = some r → K r) : KSl w' v ks := by
  obtain ⟨a, cap, rfl, h1, h2, h3, h4⟩ := h
  refine ⟨a, cap, rfl, h1, h2, fun i hi => ?_, h4⟩
  obtain ⟨b, o, rfl, hb, hc⟩ := h3 i hi
  exact ⟨b, o, rfl, Nat.lt_of_lt_of_le hb hk.size, (hk.cell (hK (by omega) b rfl) _).trans hc⟩
theorem KSl.below {w w' : World} {v : Value} {ks : List Int} (h : KSl w v ks) (hb : Below w.heap.size w w') : KSl w' v ks := by
  obtain ⟨a, cap, rfl, h1, h2, h3, h4⟩ := h
  refine ⟨a, cap, rfl, h1, h2, fun i hi => ?_, h4⟩
  obtain ⟨b, o, rfl, hbl, hc⟩ := h3 i hi
  exact ⟨b, o, rfl, Nat.lt_of_lt_of_le hbl hb.size, (hb.cell (p := ⟨b, o + i, none⟩) hbl).trans hc⟩
theorem kpN_range {ks : List Int} (h : ∀ z ∈ ks, -9223372036854775808 ≤ z ∧ z ≤ 9223372036854775807) (i : Nat) : -9223372036854775808 ≤ kpN ks i ∧ kpN ks i ≤ 9223372036854775807 := by
  unfold kpN
  split
  · decide
  · rename_i hne
    have hlt : i % ks.length < ks.length := Nat.mod_lt _ (by omega)
    rw [List.getD_eq_getElem?_getD, List.getElem?_eq_getElem hlt]
    exact h _ (List.getElem_mem _)
set_option maxRecDepth 100000 in
set_option maxHeartbeats 1000000 in
theorem number_any (ks : List Int) (v : Value) (bx i : Nat) (w : World) (h : KSl w v ks) (hb : w.cell? ⟨bx, 0, none⟩ = some v) (hi : i ≤ 4611686018427387904) :
    Calls Tryd.prog 34 #[.int .i64 (i : Int), .pointer (some ⟨bx, 0, none⟩)] w fun e w' => e = .returned (.int .i64 (kpN ks i)) ∧ ∃ n, w' = w.drewN n := by
  obtain ⟨a, cap, rfl, h1, h2, h3, h4⟩ := h
  by_cases h0 : ks.length = 0
  · have HE : Hid (kpN ks i = 0) := by unfold Hid kpN; rw [if_pos h0]
    rw [h0] at hb
    clear h3 h4 h1 h2 h0
    go_enter Tryd.func34, Tryd.ntmps34
    go_wp2
    go_ret
    rw [HE.out]
    exact ⟨rfl, 0, rfl⟩
  have hlt : i % ks.length < ks.length := Nat.mod_lt _ (by omega)
  obtain ⟨b, o, rfl, hbl, hc⟩ := h3 _ hlt
  have HE : Hid (kpN ks i = ks.getD (i % ks.length) 0) := by unfold Hid kpN; rw [if_neg h0]
  have hm : (i : Int).tmod (ks.length : Int) = ((i % ks.length : Nat) : Int) := by rw [Int.tmod_eq_emod_of_nonneg (by omega)]; rfl
  have hz : ((ks.length : Int) == 0) = false := by rw [beq_eq_false_iff_ne]; omega
  have hzn : ¬ (ks.length : Int) = 0 := by omega
  generalize ks.getD (i % ks.length) 0 = z at *
  generalize i % ks.length = j at *
  have hj1 : (j : Int) < (ks.length : Int) := by omega
  have hj0 : (0 : Int) ≤ (j : Int) := by omega
  clear h3 h4 h0
  generalize ks.length = N at *
  go_enter Tryd.func34, Tryd.ntmps34
  go_wp2
  go_quiet (fail)
  go_wp2
  go_ret
  rw [HE.out]
  exact ⟨rfl, _, rfl⟩
end Go.Proofs.YtmjfcneofpddiaaDoor
