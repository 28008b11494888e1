/- deflate's codesOf and cut. -/
import Derived.Test.YthkppipdflmekaaGreatQMatchE
import Derived.Deep.OwnRows
import Derived.Deep.WholeRow
import Derived.Test.YthkppipdflmekaaGreatQHuffM
set_option maxRecDepth 100000
set_option maxHeartbeats 1000000
namespace Go.Proofs.YthkppipdflmekaaGreat
open Go.RowKit
set_option linter.unusedVariables false
def qgg (b l : Nat → Nat) : Nat → Value := fun j => if j % 2 = 0 then .int .u32 (b (j / 2) : Int) else .int .i64 (l (j / 2) : Int)
theorem qc5 (b l : Nat → Nat) (i : Nat) : qgg b l (i * 2) = .int .u32 (b i : Int) := by unfold qgg; rw [if_pos (by omega), show i * 2 / 2 = i by omega]
theorem qdw (b l : Nat → Nat) (i : Nat) : qgg b l (i * 2 + 1) = .int .i64 (l i : Int) := by unfold qgg; rw [if_neg (by omega), show (i * 2 + 1) / 2 = i by omega]
def bF (ns : List Nat) (n i s : Nat) : Nat := if 0 < ln ns s ∧ qbm ns n i s = true then cd ns (ln ns s) s else 0
def lF (ns : List Nat) (n i s : Nat) : Nat := if 0 < ln ns s ∧ qbm ns n i s = true then ln ns s else 0
theorem qxl (ns : List Nat) (n i s : Nat) (h : s ≠ i ∨ ln ns i ≠ n) : bF ns n (i + 1) s = bF ns n i s := by
 have : qbm ns n (i + 1) s = qbm ns n i s := by
  rw [Bool.eq_iff_iff, qag, qag]
  rcases h with h | h
  · omega
  · by_cases e : s = i
    · subst e; omega
    · omega
 unfold bF; rw [this]
theorem qwc (ns : List Nat) (n i s : Nat) (h : s ≠ i ∨ ln ns i ≠ n) : lF ns n (i + 1) s = lF ns n i s := by
 have : qbm ns n (i + 1) s = qbm ns n i s := by
  rw [Bool.eq_iff_iff, qag, qag]
  rcases h with h | h
  · omega
  · by_cases e : s = i
    · subst e; omega
    · omega
 unfold lF; rw [this]
theorem q3u (ns : List Nat) (n i : Nat) (h : ln ns i = n) (hn : 0 < n) : bF ns n (i + 1) i = cd ns n i := by
 unfold bF; rw [if_pos ⟨by omega, qag.2 (by omega)⟩, h]
theorem q2z (ns : List Nat) (n i : Nat) (h : ln ns i = n) (hn : 0 < n) : lF ns n (i + 1) i = n := by
 unfold lF; rw [if_pos ⟨by omega, qag.2 (by omega)⟩, h]
theorem q0l (ns : List Nat) (n s : Nat) (hs : s < ns.length) : bF ns n ns.length s = bF ns (n + 1) 0 s := by
 have : qbm ns n ns.length s = qbm ns (n + 1) 0 s := by rw [Bool.eq_iff_iff, qag, qag]; omega
 unfold bF; rw [this]
theorem qzl (ns : List Nat) (n s : Nat) (hs : s < ns.length) : lF ns n ns.length s = lF ns (n + 1) 0 s := by
 have : qbm ns n ns.length s = qbm ns (n + 1) 0 s := by rw [Bool.eq_iff_iff, qag, qag]; omega
 unfold lF; rw [this]
theorem qxt (ns : List Nat) (s : Nat) : bF ns 1 0 s = 0 ∧ lF ns 1 0 s = 0 := by
 have : ¬ (0 < ln ns s ∧ qbm ns 1 0 s = true) := fun h => by have := qag.1 h.2; omega
 unfold bF lF; rw [if_neg this, if_neg this]; exact ⟨rfl, rfl⟩
def cdOf (ns : List Nat) (s : Nat) : Nat := if 0 < ln ns s then cd ns (ln ns s) s else 0
theorem q40 (ns : List Nat) (h : qbh ns) (s : Nat) : bF ns 16 0 s = cdOf ns s ∧ lF ns 16 0 s = ln ns s := by
 have h15 := h.at s
 unfold bF lF cdOf
 by_cases h0 : 0 < ln ns s
 · have hc : 0 < ln ns s ∧ qbm ns 16 0 s = true := ⟨h0, qag.2 (by omega)⟩
   rw [if_pos hc, if_pos h0, if_pos hc]; exact ⟨rfl, rfl⟩
 · have hc : ¬ (0 < ln ns s ∧ qbm ns 16 0 s = true) := fun hh => h0 hh.1
   rw [if_neg hc, if_neg h0, if_neg hc]; exact ⟨rfl, by omega⟩
theorem Tryz.infoCode : (Tryz.prog.info? 164).map (fun i => (i.zero, i.size, i.bytes)) = some (some (.agg #[.int .u32 0, .int .i64 0]), 2, 16) := by kernel_rfl
theorem qtq (w : World) (n : Nat) : (w.alloc (.cells (madeCells #[.int .u32 0, .int .i64 0] (n * 2)) 164)).rowIs w.heap.size 164 (n * 2) (qgg (fun _ => 0) (fun _ => 0)) :=
 ⟨_, heap_alloc_new w _, size_madeCells _ _, fun i hi => by
  unfold qgg
  rcases Nat.mod_two_eq_zero_or_one i with e | e
  · simp [madeCells, hi, e]
  · simp [madeCells, hi, e]⟩
theorem qtp (n : Nat) (hn : n ≤ 1000) (W : World) : (Instr.makeSlice 160 (.int .i64 (n : Int)) (.int .i64 (n : Int))).run Tryz.prog W = .ok (.slice (some ⟨W.heap.size, 0, none⟩) n n) (W.alloc (.cells (madeCells #[.int .u32 0, .int .i64 0] (n * 2)) 164)) := by
 obtain ⟨i0, hi, hz0, hz1, hz2⟩ := info_parts Tryz.infoCode
 have h := run_make (P := Tryz.prog) W 160 164 i0 _ Tryz.underlying160 hi hz0 .i64 .i64 (n : Int) (n : Int) (by omega) (by omega) (by rw [hz2]; omega) (by omega)
 rw [hz1] at h
 simpa [Value.cells] using h
theorem q2c {w : World} {g n : Nat} {b l b' l' : Nat → Nat} {i x m : Nat} (h : w.rowIs g 164 n (qgg b l)) (hb : b' i = x) (hl : l' i = m) (hob : ∀ s, s ≠ i → b' s = b s) (hol : ∀ s, s ≠ i → l' s = l s) :
    ((w.setCell ⟨g, i * 2, none⟩ (.int .u32 (x : Int))).setCell ⟨g, i * 2 + 1, none⟩ (.int .i64 (m : Int))).rowIs g 164 n (qgg b' l') :=
 ((h.set (i * 2) _).set (i * 2 + 1) _).congr fun j hj => by
  by_cases e1 : j = i * 2 + 1
  · subst e1; rw [if_pos rfl, qdw, hl]
  · rw [if_neg e1]
    by_cases e2 : j = i * 2
    · subst e2; rw [if_pos rfl, qc5, hb]
    · rw [if_neg e2]
      unfold qgg
      rw [hob (j / 2) (by omega), hol (j / 2) (by omega)]
def CR (w : World) (g n : Nat) (b l : Nat → Nat) : Prop := w.rowIs g 164 (n * 2) (qgg b l)
theorem qt2 (v : Value) (zs : List Int) (w : World) (hR : IQ w v zs) (hl : zs.length ≤ 400) (he : errN zs ≠ 0) :
    Calls Tryz.prog 96 #[v] w fun e w' => e = .returned (.tuple #[.slice none 0 0, .int .i64 (errN zs : Int)]) ∧ w' = w := by
 have hei : ((errN zs : Int) != 0) = true := by simp; omega
 have HCk : Hid (Calls Tryz.prog 108 #[v] w fun e w' => e = .returned (.int .i64 (errN zs : Int)) ∧ w' = w) := qkr v zs w hR hl
 generalize errN zs = E at *
 go_enter Tryz.func96, Tryz.ntmps96
 go_wp2_with fail
 refine (Hid.out HCk : Calls _ _ _ _ _).mono ?_
 rintro e w1 ⟨rfl, rfl⟩
 go_wp2
 go_ret2
 exact ⟨rfl, rfl⟩
theorem qny (v : Value) (zs : List Int) (w : World) (hR : IQ w v zs) (he : errN zs = 0) :
    Calls Tryz.prog 96 #[v] w fun e w' => e = .returned (.tuple #[.slice (some ⟨w.heap.size, 0, none⟩) zs.length zs.length, .int .i64 0]) ∧ CR w' w.heap.size zs.length (cdOf (toN zs)) (ln (toN zs)) ∧ Below w.heap.size w w' := by
 obtain ⟨hl, h15, hf⟩ := qdu he
 have HCk : Hid (Calls Tryz.prog 108 #[v] w fun e w' => e = .returned (.int .i64 (errN zs : Int)) ∧ w' = w) := qkr v zs w hR (by omega)
 rw [he] at HCk
 obtain ⟨g, o, cap, rfl, hg, hc⟩ := hR
 have HC : Hid (∀ i, i < zs.length → w.cell? ⟨g, o + i, none⟩ = some (.int .i64 (zs.getD i 0))) := hc
 have H15 : Hid (in15 zs) := h15
 have HA15 : Hid (qbh (toN zs)) := h15.all
 have HBd : Hid (∀ n i, n ≤ 15 → cd (toN zs) n i ≤ 320 * 16384) := fun n i hn => Nat.le_trans (qw9 _ _ _ hn _) (Nat.mul_le_mul_right _ (by rw [qfh]; exact hl))
 have hmk := qtp zs.length (by omega)
 have HM : Hid (CR (w.alloc (.cells (madeCells #[.int .u32 0, .int .i64 0] (zs.length * 2)) 164)) w.heap.size zs.length (fun _ => 0) (fun _ => 0)) := qtq w zs.length
 have HB0 : Hid (Below w.heap.size w (w.alloc (.cells (madeCells #[.int .u32 0, .int .i64 0] (zs.length * 2)) 164))) := (Below.refl _ w).alloc (Nat.le_refl _) _
 have HTL : Hid ((toN zs).length = zs.length) := qfh zs
 have HTN : Hid (∀ i, i < zs.length → ((ln (toN zs) i : Nat) : Int) = zs.getD i 0) := fun i hi => qjy zs i hi (h15 i hi).1
 clear hc h15 hf he
 go_enter Tryz.func96, Tryz.ntmps96
 go_wp2_with fail
 refine (Hid.out HCk : Calls _ _ _ _ _).mono ?_
 rintro e w1 ⟨rfl, rfl⟩
 clear HCk
 go_wp2
 generalize w1.alloc (.cells (madeCells #[.int .u32 0, .int .i64 0] (zs.length * 2)) 164) = W1 at *
 clear hmk
 go_loopw [6, 7] (fun x n wr => ∃ m : Nat, 1 ≤ m ∧ m ≤ 16 ∧ n = .int .i64 (m : Int) ∧ x = .int .u32 (cd (toN zs) (m - 1) zs.length : Int) ∧ CR wr w1.heap.size zs.length (bF (toN zs) m 0) (lF (toN zs) m 0) ∧ Below w1.heap.size w1 wr) (fun _ n _ => 16 - (intOf n).toNat)
 case atStart => exact ⟨1, by omega, by omega, rfl, by rw [← HTL.out, q3h]; rfl, HM.out.congr (fun j hj => by unfold qgg; rw [(qxt _ _).1, (qxt _ _).2]), HB0.out⟩
 case round =>
  clear HM HB0
  obtain ⟨m, hm1, hm16, rfl, rfl, hR, hB⟩ := hrel
  by_cases hlt : m < 16
  · have hbd := HBd.out (m - 1) zs.length (by omega)
    have HR2 : Hid (2 * cd (toN zs) (m - 1) zs.length = cd (toN zs) m 0) := by
     have := q0a (toN zs) (m - 1)
     rw [show m - 1 + 1 = m by omega, HTL.out] at this
     exact this.symm
    have HCR : Hid (CR wr w1.heap.size zs.length (bF (toN zs) m 0) (lF (toN zs) m 0)) := hR
    have HBl : Hid (Below w1.heap.size w1 wr) := hB
    have hmi : (m : Int) ≤ 15 := by omega
    have hbd0 := HBd.out m 0 (by omega)
    have HX : Hid ((cd (toN zs) (m - 1) zs.length : Int) * 2 = (cd (toN zs) m 0 : Int)) := by unfold Hid; rw [← HR2.out]; omega
    generalize cd (toN zs) (m - 1) zs.length = X at *
    clear hR hB HR2
    go_wp2
    rw [HX.out]
    go_loopw [6, 26] (fun x i wi => ∃ j : Nat, j ≤ zs.length ∧ i = .int .i64 (j : Int) ∧ x = .int .u32 (cd (toN zs) m j : Int) ∧ CR wi w1.heap.size zs.length (bF (toN zs) m j) (lF (toN zs) m j) ∧ Below w1.heap.size w1 wi) (fun _ i _ => zs.length - (intOf i).toNat)
    case atStart => exact ⟨0, by omega, rfl, rfl, HCR.out, HBl.out⟩
    case round =>
     clear HCR HBl HX
     obtain ⟨j, hj, rfl, rfl, hR, hB⟩ := hrel
     by_cases hjl : j < zs.length
     · have hck : wr.cell? ⟨g, o + j, none⟩ = some (.int .i64 (ln (toN zs) j : Int)) := by rw [hB.cell (p := ⟨g, o + j, none⟩) hg, HC.out j hjl, HTN.out j hjl]
       have HNx := q3i (toN zs) m j (by omega) (by rw [HTL.out]; exact hjl)
       have hbj := HBd.out m j (by omega)
       have ce : wr.cell? ⟨w1.heap.size, j * 2, none⟩ = some (.int .u32 (bF (toN zs) m j j : Int)) := by rw [hR.cell (i := j * 2) (by omega), qc5]
       have co : wr.cell? ⟨w1.heap.size, j * 2 + 1, none⟩ = some (.int .i64 (lF (toN zs) m j j : Int)) := by rw [hR.cell (i := j * 2 + 1) (by omega), qdw]
       have fe := hR.frozen (j * 2)
       have fo := hR.frozen (j * 2 + 1)
       have hki : (j : Int) < (zs.length : Int) := by omega
       have hki0 : (0 : Int) ≤ (j : Int) := by omega
       by_cases hm : ln (toN zs) j = m
       · rw [if_pos hm] at HNx
         have HRn : Hid (CR ((wr.setCell ⟨w1.heap.size, j * 2, none⟩ (.int .u32 (cd (toN zs) m j : Int))).setCell ⟨w1.heap.size, j * 2 + 1, none⟩ (.int .i64 (m : Int))) w1.heap.size zs.length (bF (toN zs) m (j + 1)) (lF (toN zs) m (j + 1))) :=
          q2c hR (q3u _ _ _ hm (by omega)) (q2z _ _ _ hm (by omega)) (fun s hs => qxl _ _ _ _ (.inl hs)) (fun s hs => qwc _ _ _ _ (.inl hs))
         have HBn : Hid (Below w1.heap.size w1 ((wr.setCell ⟨w1.heap.size, j * 2, none⟩ (.int .u32 (cd (toN zs) m j : Int))).setCell ⟨w1.heap.size, j * 2 + 1, none⟩ (.int .i64 (m : Int)))) := (hB.setCell (by simp) _).setCell (by simp) _
         rw [hm] at hck
         have HN : Hid (cd (toN zs) m (j + 1) = cd (toN zs) m j + 1) := HNx
         clear HNx hR hB hm
         generalize cd (toN zs) m j = X2 at *
         generalize bF (toN zs) m j j = Y1 at *
         generalize lF (toN zs) m j j = Y2 at *
         go_wp2
         go_roundw
         case rel => exact ⟨j + 1, by omega, by go_num, by rw [HN.out]; rfl, HRn.out, HBn.out⟩
         case measure => simp [intOf]; omega
       · rw [if_neg hm] at HNx
         have hmi2 : ((ln (toN zs) j : Int) == (m : Int)) = false := by simp; omega
         have HRn : Hid (CR wr w1.heap.size zs.length (bF (toN zs) m (j + 1)) (lF (toN zs) m (j + 1))) := hR.congr (fun q hq => by unfold qgg; rw [qxl _ _ _ _ (.inr hm), qwc _ _ _ _ (.inr hm)])
         have HN : Hid (cd (toN zs) m (j + 1) = cd (toN zs) m j) := HNx
         have HBn : Hid (Below w1.heap.size w1 wr) := hB
         clear HNx hR hB hm ce co fe fo
         generalize ln (toN zs) j = n at *
         go_wp2
         go_roundw
         case rel => exact ⟨j + 1, by omega, by go_num, by rw [HN.out], HRn.out, HBn.out⟩
         case measure => simp [intOf]; omega
     · obtain rfl : j = zs.length := by omega
       have HRn : Hid (CR wr w1.heap.size zs.length (bF (toN zs) (m + 1) 0) (lF (toN zs) (m + 1) 0)) := hR.congr (fun q hq => by
        have hq2 : q / 2 < (toN zs).length := by rw [HTL.out]; omega
        unfold qgg; rw [← HTL.out, q0l _ _ _ hq2, qzl _ _ _ hq2])
       have HBn : Hid (Below w1.heap.size w1 wr) := hB
       clear hR hB
       go_wp2
       go_roundw
       case rel => exact ⟨m + 1, by omega, by omega, by go_num, rfl, HRn.out, HBn.out⟩
       case measure => simp [intOf]; omega
  · obtain rfl : m = 16 := by omega
    have HRn : Hid (CR wr w1.heap.size zs.length (cdOf (toN zs)) (ln (toN zs))) := hR.congr (fun q hq => by unfold qgg; rw [(q40 _ HA15.out _).1, (q40 _ HA15.out _).2])
    have HBn : Hid (Below w1.heap.size w1 wr) := hB
    clear hR hB
    go_wp2
    go_ret2
    exact ⟨rfl, HRn.out, HBn.out⟩
def qgq (ns : List Nat) : Nat → Nat
 | 0 => 0
 | k + 1 => qgq ns k + if ln ns k = 1 then 1 else 0
theorem qlm (ns : List Nat) : ∀ k, qgq ns k ≤ qbg ns k
 | 0 => Nat.le_refl _
 | k + 1 => by
  have := qlm ns k
  rw [qgq, qbg]
  split <;> split <;> omega
theorem qrc (ns : List Nat) (h15 : qbh ns) : ∀ k, qbg ns k = 1 → (allP ns k = 16384 ↔ qgq ns k = 1) ∧ allP ns k ≤ 16384
 | 0, h => by simp [qbg] at h
 | k + 1, h => by
  have hl := h15.at k
  rw [qbg] at h
  have e : allP ns (k + 1) = allP ns k + if 0 < ln ns k ∧ (fun _ => true) k = true then 2 ^ (15 - ln ns k) else 0 := rfl
  rw [e, qgq]
  by_cases hp : 0 < ln ns k
  · rw [if_pos hp] at h
    have h0 : qbg ns k = 0 := by omega
    have h1 := qmd ns k h0
    have h2 := qlm ns k
    rw [h1, if_pos ⟨hp, rfl⟩]
    have h14 : 2 ^ (15 - ln ns k) ≤ 2 ^ 14 := Nat.pow_le_pow_right (by decide) (by omega)
    refine ⟨?_, by omega⟩
    by_cases e1 : ln ns k = 1
    · rw [if_pos e1, e1]; omega
    · rw [if_neg e1]
      have h13 : 2 ^ (15 - ln ns k) ≤ 2 ^ 13 := Nat.pow_le_pow_right (by decide) (by omega)
      omega
  · rw [if_neg hp] at h
    have := qrc ns h15 k (by omega)
    rw [if_neg (fun hh => hp hh.1), if_neg (by omega)]
    exact this
theorem qzs (ns : List Nat) (h15 : qbh ns) : fitB ns = true ↔ (qbg ns ns.length = 0 ∨ allP ns ns.length = 32768 ∨ (qbg ns ns.length = 1 ∧ qgq ns ns.length = 1)) := by
 unfold fitB
 by_cases h0 : qbg ns ns.length = 0
 · rw [if_pos h0]; simp [h0]
 · rw [if_neg h0]
   by_cases h1 : qbg ns ns.length = 1
   · rw [if_pos h1]
     obtain ⟨h2, h3⟩ := qrc ns h15 _ h1
     simp only [beq_iff_eq]
     omega
   · rw [if_neg h1]
     simp only [beq_iff_eq]
     omega
theorem qwi (i : Nat) (h : i < 15) : ((2 ^ (15 - i) : Nat) : Int).tdiv 2 = ((2 ^ (15 - (i + 1)) : Nat) : Int) := by
 have e : 2 ^ (15 - i) = 2 * 2 ^ (15 - (i + 1)) := by rw [show 15 - i = (15 - (i + 1)) + 1 by omega, Nat.pow_succ, Nat.mul_comm]
 rw [e, Int.tdiv_eq_ediv_of_nonneg (by omega)]
 omega
theorem qeh (v : Value) (zs : List Int) (w : World) (hR : IQ w v zs) (hl : zs.length ≤ 400) :
    Calls Tryz.prog 68 #[v] w fun e w' => e = .returned (.int .i64 (errN zs : Int)) ∧ w' = w := by
 obtain ⟨g, o, cap, rfl, hg, hc⟩ := hR
 have HC : Hid (∀ i, i < zs.length → w.cell? ⟨g, o + i, none⟩ = some (.int .i64 (zs.getD i 0))) := hc
 clear hc
 by_cases hb : 320 < zs.length
 · have hbi : (320 : Int) < (zs.length : Int) := by omega
   have HE : Hid (_ = _) := qr2 hb
   go_enter Tryz.func68, Tryz.ntmps68
   go_wp2
   go_ret
   exact ⟨by rw [HE.out]; rfl, rfl⟩
 have hbi : ¬ (320 : Int) < (zs.length : Int) := by omega
 by_cases hin : in15 zs
 · have HIN : Hid (in15 zs) := hin
   have HE0 : Hid (fitB (toN zs) = true → errN zs = 0) := ql7 hb hin
   have HE4 : Hid (fitB (toN zs) = false → errN zs = 4) := qns hb hin
   have HFO : Hid (fitB (toN zs) = true ↔ (qbg (toN zs) zs.length = 0 ∨ allP (toN zs) zs.length = 32768 ∨ (qbg (toN zs) zs.length = 1 ∧ qgq (toN zs) zs.length = 1))) := by
    have := qzs (toN zs) hin.all
    rw [qfh] at this
    exact this
   have HU : Hid (∀ k, qbg (toN zs) k ≤ k) := qkv (toN zs)
   have HO : Hid (∀ k, qgq (toN zs) k ≤ qbg (toN zs) k) := qlm (toN zs)
   have HP : Hid (∀ k, allP (toN zs) k ≤ k * 16384) := qp2 (toN zs)
   clear hin
   go_enter Tryz.func68, Tryz.ntmps68
   go_wp2
   go_loop [17] (fun i => ∃ k : Nat, k ≤ zs.length ∧ i = .int .i64 (k : Int)) (fun i => zs.length - (intOf i).toNat)
   case atStart => exact ⟨0, by omega, rfl⟩
   case round =>
    obtain ⟨k, hk, rfl⟩ := hrel
    by_cases hlt : k < zs.length
    · have hck := HC.out k hlt
      obtain ⟨z0, z15⟩ := HIN.out k hlt
      generalize zs.getD k 0 = z at *
      have hki : (k : Int) < (zs.length : Int) := by omega
      have hki0 : (0 : Int) ≤ (k : Int) := by omega
      go_wp2
      go_round
      case rel => exact ⟨k + 1, by omega, by go_num⟩
      case measure => simp [intOf]; omega
    · obtain rfl : k = zs.length := by omega
      go_wp2
      go_loop [5, 6, 7, 30] (fun p u o i => ∃ k : Nat, k ≤ zs.length ∧ i = .int .i64 (k : Int) ∧ u = .int .i64 (qbg (toN zs) k : Int) ∧ p = .int .i64 (allP (toN zs) k : Int) ∧ o = .int .i64 (qgq (toN zs) k : Int)) (fun _ _ _ i => zs.length - (intOf i).toNat)
      case atStart => exact ⟨0, by omega, rfl, rfl, rfl, rfl⟩
      case round =>
       obtain ⟨k, hk, rfl, rfl, rfl, rfl⟩ := hrel
       have hu := HU.out k
       have hp := HP.out k
       have ho := HO.out k
       by_cases hlt : k < zs.length
       · have hck := HC.out k hlt
         obtain ⟨z0, z15⟩ := HIN.out k hlt
         have hln := qjy zs k hlt z0
         have HUs : Hid (qbg (toN zs) (k + 1) = qbg (toN zs) k + if 0 < ln (toN zs) k then 1 else 0) := rfl
         have HPs : Hid (allP (toN zs) (k + 1) = allP (toN zs) k + if 0 < ln (toN zs) k ∧ (fun _ => true) k = true then 2 ^ (15 - ln (toN zs) k) else 0) := rfl
         have HOs : Hid (qgq (toN zs) (k + 1) = qgq (toN zs) k + if ln (toN zs) k = 1 then 1 else 0) := rfl
         generalize qbg (toN zs) k = U at *
         generalize allP (toN zs) k = P at *
         generalize qgq (toN zs) k = O at *
         generalize ln (toN zs) k = n at *
         rw [← hln] at hck z0 z15
         clear hln
         have hki : (k : Int) < (zs.length : Int) := by omega
         have hki0 : (0 : Int) ≤ (k : Int) := by omega
         by_cases hn0 : 0 < n
         · have hni : (0 : Int) < (n : Int) := by omega
           go_wp2
           go_loop [10, 11] (fun p i => ∃ m : Nat, m ≤ n ∧ i = .int .i64 (m : Int) ∧ p = .int .i64 ((2 ^ (15 - m) : Nat) : Int)) (fun _ i => n - (intOf i).toNat)
           case atStart => exact ⟨0, by omega, rfl, rfl⟩
           case round =>
            obtain ⟨m, hm, rfl, rfl⟩ := hrel
            by_cases hmn : m < n
            · have hmi : (m : Int) < (n : Int) := by omega
              have hh := qwi m (by omega)
              have hle : 2 ^ (15 - m) ≤ 2 ^ 15 := Nat.pow_le_pow_right (by decide) (by omega)
              have hle2 : 2 ^ (15 - (m + 1)) ≤ 2 ^ 15 := Nat.pow_le_pow_right (by decide) (by omega)
              generalize hQ2 : 2 ^ (15 - (m + 1)) = Q2 at *
              generalize 2 ^ (15 - m) = Q1 at *
              go_wp2
              go_round
              case rel => exact ⟨m + 1, by omega, by go_num, by rw [hQ2]⟩
              case measure => simp [intOf]; omega
            · obtain rfl : m = n := by omega
              have h14 : 2 ^ (15 - m) ≤ 16384 := Nat.pow_le_pow_right (n := 2) (i := 15 - m) (j := 14) (by decide) (by omega)
              generalize 2 ^ (15 - m) = Q at *
              by_cases h1 : m = 1
              · subst h1
                go_wp2
                go_round
                case rel => exact ⟨k + 1, by omega, by go_num, by rw [HUs.out, if_pos hn0]; rfl, by rw [HPs.out, if_pos ⟨hn0, trivial⟩]; rfl, by rw [HOs.out, if_pos rfl]; rfl⟩
                case measure => simp [intOf]; omega
              · have h1i : ((m : Int) == 1) = false := by simp; omega
                go_wp2
                go_round
                case rel => exact ⟨k + 1, by omega, by go_num, by rw [HUs.out, if_pos hn0]; rfl, by rw [HPs.out, if_pos ⟨hn0, trivial⟩]; rfl, by rw [HOs.out, if_neg h1]; rfl⟩
                case measure => simp [intOf]; omega
         · obtain rfl : n = 0 := by omega
           go_wp2
           go_round
           case rel => exact ⟨k + 1, by omega, by go_num, by rw [HUs.out, if_neg hn0]; rfl, by rw [HPs.out, if_neg (fun h => hn0 h.1)]; rfl, by rw [HOs.out, if_neg (by decide)]; rfl⟩
           case measure => simp [intOf]; omega
       · obtain rfl : k = zs.length := by omega
         generalize qbg (toN zs) zs.length = U at *
         generalize allP (toN zs) zs.length = P at *
         generalize qgq (toN zs) zs.length = O at *
         by_cases h0 : U = 0
         · subst h0
           have hE : Hid (errN zs = 0) := HE0.out (HFO.out.2 (.inl rfl))
           go_wp2
           go_ret
           exact ⟨by rw [hE.out]; rfl, rfl⟩
         · have h0i : ((U : Int) == 0) = false := by simp; omega
           by_cases hP : P = 32768
           · subst hP
             have hE : Hid (errN zs = 0) := HE0.out (HFO.out.2 (.inr (.inl rfl)))
             go_wp2
             go_ret
             exact ⟨by rw [hE.out]; rfl, rfl⟩
           · have hPi : ((P : Int) == 32768) = false := by simp; omega
             by_cases h1 : U = 1
             · subst h1
               by_cases hO1 : O = 1
               · subst hO1
                 have hE : Hid (errN zs = 0) := HE0.out (HFO.out.2 (.inr (.inr ⟨rfl, rfl⟩)))
                 go_wp2
                 go_ret
                 exact ⟨by rw [hE.out]; rfl, rfl⟩
               · have hOi : ((O : Int) == 1) = false := by simp; omega
                 have hE : Hid (errN zs = 4) := HE4.out (by rw [← Bool.not_eq_true, HFO.out]; omega)
                 go_wp2
                 go_ret
                 exact ⟨by rw [hE.out]; rfl, rfl⟩
             · have h1i : ((U : Int) == 1) = false := by simp; omega
               have hE : Hid (errN zs = 4) := HE4.out (by rw [← Bool.not_eq_true, HFO.out]; omega)
               go_wp2
               go_ret
               exact ⟨by rw [hE.out]; rfl, rfl⟩
 · have HE : Hid (_ = _) := qr3 hb hin
   obtain ⟨K, hK, hbad, hgood⟩ := q4j hin
   have HG : Hid (∀ i, i < K → 0 ≤ zs.getD i 0 ∧ zs.getD i 0 ≤ 15) := hgood
   clear hin hgood
   go_enter Tryz.func68, Tryz.ntmps68
   go_wp2
   go_loop [17] (fun i => ∃ k : Nat, k ≤ K ∧ i = .int .i64 (k : Int)) (fun i => zs.length - (intOf i).toNat)
   case atStart => exact ⟨0, by omega, rfl⟩
   case round =>
    obtain ⟨k, hk, rfl⟩ := hrel
    have hck := HC.out k (by omega)
    have hki : (k : Int) < (zs.length : Int) := by omega
    have hki0 : (0 : Int) ≤ (k : Int) := by omega
    by_cases hlt : k < K
    · obtain ⟨z0, z15⟩ := HG.out k hlt
      clear hbad
      generalize zs.getD k 0 = z at *
      go_wp2
      go_round
      case rel => exact ⟨k + 1, by omega, by go_num⟩
      case measure => simp [intOf]; omega
    · obtain rfl : k = K := by omega
      generalize zs.getD k 0 = z at *
      rcases hbad with hbad | hbad
      · go_wp2
        go_ret
        exact ⟨by rw [HE.out]; rfl, rfl⟩
      · have hz0 : ¬ z < 0 := by omega
        go_wp2
        go_ret
        exact ⟨by rw [HE.out]; rfl, rfl⟩
theorem qtd (v : Value) (zs : List Int) (s : Nat) (w : World) (hR : IQ w v zs) (hl : zs.length ≤ 320) (hin : in15 zs) (hs : s < zs.length) :
    Calls Tryz.prog 92 #[v, .int .i64 (s : Int)] w fun e w' => e = .returned (.int .u32 (cd (toN zs) (ln (toN zs) s) s : Int)) ∧ w' = w := by
 obtain ⟨g, o, cap, rfl, hg, hc⟩ := hR
 have HC : Hid (∀ i, i < zs.length → w.cell? ⟨g, o + i, none⟩ = some (.int .i64 (ln (toN zs) i : Int))) := fun i hi => by rw [hc i hi, qjy zs i hi (hin i hi).1]
 have HL15 : Hid (∀ i, ln (toN zs) i ≤ 15) := fun i => hin.all.at i
 have hcs := HC.out s hs
 have hn15 := HL15.out s
 have HCD : Hid (cd (toN zs) (ln (toN zs) s) s = cdK (toN zs) (ln (toN zs) s) s zs.length) := by unfold Hid cd; rw [qfh]
 have HBd : Hid (∀ k, k ≤ 320 → cdK (toN zs) (ln (toN zs) s) s k ≤ 320 * 16384) := fun k hk => Nat.le_trans (qw9 _ _ _ hn15 _) (Nat.mul_le_mul_right _ hk)
 have HSt : Hid (∀ k, cdK (toN zs) (ln (toN zs) s) s (k + 1) = cdK (toN zs) (ln (toN zs) s) s k + if 0 < ln (toN zs) k ∧ qbm (toN zs) (ln (toN zs) s) s k = true then 2 ^ (ln (toN zs) s - ln (toN zs) k) else 0) := fun k => rfl
 rw [HCD.out]
 clear hc hin HCD
 generalize hN : ln (toN zs) s = N at *
 have hsi : (s : Int) < (zs.length : Int) := by omega
 have hsi0 : (0 : Int) ≤ (s : Int) := by omega
 go_enter Tryz.func92, Tryz.ntmps92
 go_wp2
 go_loop [5, 10] (fun x i => ∃ k : Nat, k ≤ zs.length ∧ i = .int .i64 (k : Int) ∧ x = .int .u32 (cdK (toN zs) N s k : Int)) (fun _ i => zs.length - (intOf i).toNat)
 case atStart => exact ⟨0, by omega, rfl, rfl⟩
 case round =>
  obtain ⟨k, hk, rfl, rfl⟩ := hrel
  have hbd := HBd.out k (by omega)
  by_cases hlt : k < zs.length
  · have hck := HC.out k hlt
    have HS := HSt.out k
    have HA : Hid (∀ q, q = ln (toN zs) k → (qbm (toN zs) N s k = true ↔ q < N ∨ (q = N ∧ k < s))) := fun q hq => by rw [hq]; exact qag
    have HAk := HA.out _ rfl
    have hbd2 := HBd.out (k + 1) (by omega)
    have hki : (k : Int) < (zs.length : Int) := by omega
    have hki0 : (0 : Int) ≤ (k : Int) := by omega
    have HS' : Hid (cdK (toN zs) N s (k + 1) = cdK (toN zs) N s k + if 0 < ln (toN zs) k ∧ qbm (toN zs) N s k = true then 2 ^ (N - ln (toN zs) k) else 0) := HS
    have hm15 := HL15.out k
    clear HS HA
    generalize hX : cdK (toN zs) N s k = X at *
    generalize hY : cdK (toN zs) N s (k + 1) = Y at *
    generalize hm : ln (toN zs) k = m at *
    by_cases hc : 0 < m ∧ qbm (toN zs) N s k = true
    · have HY : Hid (Y = X + 2 ^ (N - m)) := by unfold Hid; rw [HS'.out, if_pos hc]
      have hor := HAk.1 hc.2
      have hm0 := hc.1
      have hm0i : (0 : Int) < (m : Int) := by omega
      have hle : m ≤ N := by omega
      have hp : (2 : Int) ^ (N - m) = ((2 ^ (N - m) : Nat) : Int) := by simp
      have hp15 : 2 ^ (N - m) ≤ 2 ^ 15 := Nat.pow_le_pow_right (by decide) (by omega)
      have hsub : (0 : Int) ≤ (N : Int) - (m : Int) := by omega
      have hsubn : ((N : Int) - (m : Int)).toNat = N - m := by omega
      have HQ1 : Hid (m = N → 2 ^ (N - m) = 1) := fun h => by rw [h, Nat.sub_self]
      clear HAk HS' hc
      generalize 2 ^ (N - m) = Q at *
      rcases hor with h1 | ⟨h1, h2⟩
      · have h1i : (m : Int) < (N : Int) := by omega
        go_wp2
        go_round
        case rel => exact ⟨k + 1, by omega, by go_num, by rw [hY, HY.out]; go_num⟩
        case measure => simp [intOf]; omega
      · have h1i : ¬ (m : Int) < (N : Int) := by omega
        have h1e : ((m : Int) == (N : Int)) = true := by simp; omega
        have h2i : (k : Int) < (s : Int) := by omega
        obtain rfl := HQ1.out h1
        go_wp2
        go_round
        case rel => exact ⟨k + 1, by omega, by go_num, by rw [hY, HY.out]; go_num⟩
        case measure => simp [intOf]; omega
    · have HY : Hid (Y = X) := by unfold Hid; rw [HS'.out, if_neg hc]; rfl
      by_cases hm0 : 0 < m
      · have hno : ¬ (m < N ∨ (m = N ∧ k < s)) := fun h => hc ⟨hm0, HAk.2 h⟩
        have hm0i : (0 : Int) < (m : Int) := by omega
        clear HAk HS' hc
        have h1i : ¬ (m : Int) < (N : Int) := by omega
        by_cases hmN : m = N
        · have h1e : ((m : Int) == (N : Int)) = true := by simp; omega
          have h2i : ¬ (k : Int) < (s : Int) := by omega
          clear hno
          go_wp2
          go_round
          case rel => exact ⟨k + 1, by omega, by go_num, by rw [hY, HY.out]⟩
          case measure => simp [intOf]; omega
        · have h1e : ((m : Int) == (N : Int)) = false := by simp; omega
          clear hno
          go_wp2
          go_round
          case rel => exact ⟨k + 1, by omega, by go_num, by rw [hY, HY.out]⟩
          case measure => simp [intOf]; omega
      · obtain rfl : m = 0 := by omega
        clear HAk HS' hc
        go_wp2
        go_round
        case rel => exact ⟨k + 1, by omega, by go_num, by rw [hY, HY.out]⟩
        case measure => simp [intOf]; omega
  · obtain rfl : k = zs.length := by omega
    go_wp2
    go_ret
    exact ⟨rfl, rfl⟩
open Go
set_option linter.unusedVariables false
theorem qd6 (ns : List Nat) (s : Nat) (h : 0 < ln ns s) : cdOf ns s = cd ns (ln ns s) s := by unfold cdOf; rw [if_pos h]
def qau (ns : List Nat) (s : Nat) : List Bool := qdg (cdOf ns s) (ln ns s)
theorem qai (ns : List Nat) (s : Nat) : (qau ns s).length = ln ns s := qcq _ _
theorem qgv (x n m : Nat) (h : m ≤ n) : (qdg x n).take m = qdg (x / 2 ^ (n - m)) m := by
 apply List.ext_getElem?
 intro i
 by_cases hi : i < m
 · rw [List.getElem?_take, if_pos hi]
   unfold qdg
   rw [List.getElem?_map, List.getElem?_map, List.getElem?_range (by omega), List.getElem?_range hi]
   simp only [Option.map_some]
   rw [Nat.testBit_div_two_pow, show m - 1 - i + (n - m) = n - 1 - i by omega]
 · rw [List.getElem?_eq_none (by rw [List.length_take, qcq]; omega), List.getElem?_eq_none (by rw [qcq]; omega)]
theorem qnn {x y n : Nat} (hx : x < 2 ^ n) (hy : y < 2 ^ n) (h : qdg x n = qdg y n) : x = y := by
 have h1 := qjw x n
 have h2 := qjw y n
 rw [Nat.mod_eq_of_lt hx] at h1
 rw [Nat.mod_eq_of_lt hy] at h2
 rw [← h1, ← h2]
 refine qhy n fun i hi => ?_
 rw [← qrk x n i hi, ← qrk y n i hi, h]
theorem qfa (ns : List Nat) (h15 : qbh ns) (hf : fitB ns = true) (s t : Nat) (hs : s < ns.length) (ht : t < ns.length) (ps : 0 < ln ns s) (pt : 0 < ln ns t) (h : qau ns s <+: qau ns t) : s = t := by
 by_cases hne : s = t
 · exact hne
 exfalso
 have hl := h.length_le
 rw [qai, qai] at hl
 have e : qau ns s = (qau ns t).take (ln ns s) := by have := List.prefix_iff_eq_take.1 h; rwa [qai] at this
 unfold qau at e
 rw [qgv _ _ _ hl] at e
 have b1 := qw7 ns h15 hf s hs ps
 have b2 := qw7 ns h15 hf t ht pt
 rw [← qd6 ns s ps] at b1
 rw [← qd6 ns t pt] at b2
 have b3 : cdOf ns t / 2 ^ (ln ns t - ln ns s) < 2 ^ ln ns s := by
  rw [Nat.div_lt_iff_lt_mul (Nat.two_pow_pos _), ← Nat.pow_add, show ln ns s + (ln ns t - ln ns s) = ln ns t by omega]; exact b2
 have e2 := qnn b1 b3 e
 rcases qp5 ns t s (fun h => hne h.symm) with h1 | h1
 · have := qsb ns h15 t s hs ps h1
   rw [← qd6 ns s ps, ← qd6 ns t pt] at this
   omega
 · have := qsb ns h15 s t ht pt h1
   have hle := qag.1 h1
   have e3 : ln ns s = ln ns t := by omega
   rw [← qd6 ns s ps, ← qd6 ns t pt, e3, Nat.sub_self, Nat.pow_zero, Nat.div_one] at this
   rw [e3, Nat.sub_self, Nat.pow_zero, Nat.div_one] at e2
   omega
structure TreeI (ns : List Nat) (A E : Nat → Prop) (n : Nat) (br : Nat → Bool → Int) (path : Nat → List Bool) : Prop where
 pos : 0 < n
 root : path 0 = []
 inj : ∀ u v, u < n → v < n → path u = path v → u = v
 par : ∀ u, u < n → u ≠ 0 → ∃ p b, p < n ∧ br p b = (u : Int) ∧ path u = path p ++ [b]
 up : ∀ u b, u < n → 0 < br u b → ∃ v : Nat, br u b = (v : Int) ∧ v < n ∧ path v = path u ++ [b]
 leaf : ∀ u b, u < n → br u b < 0 → ∃ s : Nat, A s ∧ br u b = -1 - (s : Int) ∧ qau ns s = path u ++ [b]
 none : ∀ u b, u < n → br u b = 0 → ∀ s, A s → ¬ (path u ++ [b]) <+: qau ns s
 ext : ∀ u, u < n → u ≠ 0 → ∃ s, E s ∧ path u <+: qau ns s ∧ path u ≠ qau ns s
def qb7 (br : Nat → Bool → Int) (u : Nat) (b : Bool) (x : Int) : Nat → Bool → Int := fun v c => if v = u ∧ c = b then x else br v c
theorem TreeI.start (ns : List Nat) : TreeI ns (fun _ => False) (fun _ => False) 1 (fun _ _ => 0) (fun _ => []) :=
 ⟨by decide, rfl, fun u v hu hv _ => by omega, fun u hu h0 => by omega, fun u b _ h => by omega, fun u b _ h => by omega, fun u b _ _ s h => h.elim, fun u hu h0 => by omega⟩
theorem TreeI.more {ns : List Nat} {A E F : Nat → Prop} {n : Nat} {br : Nat → Bool → Int} {path : Nat → List Bool} (h : TreeI ns A E n br path) (hF : ∀ s, E s → F s) : TreeI ns A F n br path :=
 ⟨h.pos, h.root, h.inj, h.par, h.up, h.leaf, h.none, fun u hu h0 => by obtain ⟨s, h1, h2⟩ := h.ext u hu h0; exact ⟨s, hF s h1, h2⟩⟩
theorem qk6 {p q : List Bool} {b c : Bool} (h : p ++ [b] = q ++ [c]) : p = q ∧ b = c := by
 have := List.append_inj' h rfl
 exact ⟨this.1, by simpa using this.2⟩
theorem TreeI.node {ns : List Nat} {A E : Nat → Prop} {n : Nat} {br : Nat → Bool → Int} {path : Nat → List Bool} (h : TreeI ns A E n br path) (hz : ∀ c, br n c = 0) (u : Nat) (b : Bool) (hu : u < n) (h0 : br u b = 0)
    (hE : ∃ s, E s ∧ (path u ++ [b]) <+: qau ns s ∧ path u ++ [b] ≠ qau ns s) : TreeI ns A E (n + 1) (qb7 br u b (n : Int)) (fun v => if v = n then path u ++ [b] else path v) := by
 have hne : u ≠ n := by omega
 have fresh : ∀ v, v < n → path v ≠ path u ++ [b] := fun v hv e => by
  by_cases hv0 : v = 0
  · subst hv0; rw [h.root] at e; simp at e
  · obtain ⟨p, c, hp, hbr, hpath⟩ := h.par v hv hv0
    rw [hpath] at e
    obtain ⟨e1, e2⟩ := qk6 e
    have := h.inj p u hp hu e1
    subst this; subst e2
    rw [h0] at hbr
    omega
 have hbn : ∀ c, qb7 br u b (n : Int) n c = 0 := fun c => by unfold qb7; rw [if_neg (by omega)]; exact hz c
 refine ⟨by omega, ?_, ?_, ?_, ?_, ?_, ?_, ?_⟩
 · show (if 0 = n then _ else path 0) = _
   rw [if_neg (by have := h.pos; omega)]; exact h.root
 · intro v w hv hw e
   by_cases e1 : v = n
   · by_cases e2 : w = n
     · omega
     · rw [if_pos e1, if_neg e2] at e; exact absurd e.symm (fresh w (by omega))
   · by_cases e2 : w = n
     · rw [if_neg e1, if_pos e2] at e; exact absurd e (fresh v (by omega))
     · rw [if_neg e1, if_neg e2] at e; exact h.inj v w (by omega) (by omega) e
 · intro v hv hv0
   by_cases e1 : v = n
   · subst e1
     exact ⟨u, b, by omega, by unfold qb7; rw [if_pos ⟨rfl, rfl⟩], by rw [if_pos rfl, if_neg hne]⟩
   · obtain ⟨p, c, hp, hbr, hpath⟩ := h.par v (by omega) hv0
     refine ⟨p, c, by omega, ?_, by rw [if_neg e1, if_neg (by omega)]; exact hpath⟩
     unfold qb7
     rw [if_neg]
     · exact hbr
     · rintro ⟨rfl, rfl⟩
       rw [h0] at hbr; omega
 · intro v c hv hx
   by_cases e1 : v = n
   · subst e1; rw [hbn] at hx; omega
   · by_cases e2 : v = u ∧ c = b
     · obtain ⟨rfl, rfl⟩ := e2
       exact ⟨n, by unfold qb7; rw [if_pos ⟨rfl, rfl⟩], by omega, by rw [if_pos rfl, if_neg e1]⟩
     · unfold qb7 at hx ⊢
       rw [if_neg e2] at hx ⊢
       obtain ⟨x, h1, h2, h3⟩ := h.up v c (by omega) hx
       exact ⟨x, h1, by omega, by rw [if_neg (by omega), if_neg e1]; exact h3⟩
 · intro v c hv hx
   by_cases e1 : v = n
   · subst e1; rw [hbn] at hx; omega
   · by_cases e2 : v = u ∧ c = b
     · unfold qb7 at hx; rw [if_pos e2] at hx; omega
     · unfold qb7 at hx ⊢
       rw [if_neg e2] at hx ⊢
       obtain ⟨x, h1, h2, h3⟩ := h.leaf v c (by omega) hx
       exact ⟨x, h1, h2, by rw [if_neg e1]; exact h3⟩
 · intro v c hv hx s hs hp
   by_cases e1 : v = n
   · rw [if_pos e1] at hp
     exact h.none u b hu h0 s hs (List.IsPrefix.trans (List.prefix_append _ _) hp)
   · rw [if_neg e1] at hp
     by_cases e2 : v = u ∧ c = b
     · unfold qb7 at hx; rw [if_pos e2] at hx; have := h.pos; omega
     · unfold qb7 at hx; rw [if_neg e2] at hx
       exact h.none v c (by omega) hx s hs hp
 · intro v hv hv0
   by_cases e1 : v = n
   · obtain ⟨s, h1, h2, h3⟩ := hE
     exact ⟨s, h1, by rw [if_pos e1]; exact h2, by rw [if_pos e1]; exact h3⟩
   · obtain ⟨s, h1, h2, h3⟩ := h.ext v (by omega) hv0
     exact ⟨s, h1, by rw [if_neg e1]; exact h2, by rw [if_neg e1]; exact h3⟩
theorem TreeI.follows {ns : List Nat} {A E : Nat → Prop} {n : Nat} {br : Nat → Bool → Int} {path : Nat → List Bool} (h : TreeI ns A E n br path) (x : Nat) (c : Bool) (hx : x < n) :
    ∀ (m u : Nat), (path u).length ≤ m → u < n → (path x ++ [c]) <+: path u → br x c ≠ 0
 | 0, u, hm, hu, hp => by
  have := hp.length_le
  simp at this
  omega
 | m + 1, u, hm, hu, hp => by
  by_cases hu0 : u = 0
  · subst hu0; rw [h.root] at hp; simp at hp
  · obtain ⟨p, b, hpn, hbr, hpath⟩ := h.par u hu hu0
    rw [hpath] at hp
    rcases List.prefix_concat_iff.1 hp with e | e
    · obtain ⟨e1, e2⟩ := qk6 e
      have := h.inj x p hx hpn e1
      subst this; subst e2
      rw [hbr]; omega
    · exact h.follows x c hx m p (by rw [hpath] at hm; simp at hm; omega) hpn e
theorem TreeI.code {ns : List Nat} {A E : Nat → Prop} {n : Nat} {br : Nat → Bool → Int} {path : Nat → List Bool} (h : TreeI ns A E n br path) (u : Nat) (b : Bool) (s : Nat) (hu : u < n) (hs : path u ++ [b] = qau ns s) (h0 : br u b = 0) (hpf : ∀ t, A t → qau ns t <+: qau ns s → False) :
    TreeI ns (fun t => A t ∨ t = s) E n (qb7 br u b (-1 - (s : Int))) path := by
 refine ⟨h.pos, h.root, h.inj, ?_, ?_, ?_, ?_, h.ext⟩
 · intro v hv hv0
   obtain ⟨p, c, hp, hbr, hpath⟩ := h.par v hv hv0
   refine ⟨p, c, hp, ?_, hpath⟩
   unfold qb7
   rw [if_neg]
   · exact hbr
   · rintro ⟨rfl, rfl⟩
     rw [h0] at hbr; omega
 · intro v c hv hx
   by_cases e2 : v = u ∧ c = b
   · unfold qb7 at hx; rw [if_pos e2] at hx; omega
   · unfold qb7 at hx ⊢
     rw [if_neg e2] at hx ⊢
     exact h.up v c hv hx
 · intro v c hv hx
   by_cases e2 : v = u ∧ c = b
   · obtain ⟨rfl, rfl⟩ := e2
     exact ⟨s, .inr rfl, by unfold qb7; rw [if_pos ⟨rfl, rfl⟩], hs.symm⟩
   · unfold qb7 at hx ⊢
     rw [if_neg e2] at hx ⊢
     obtain ⟨x, h1, h2, h3⟩ := h.leaf v c hv hx
     exact ⟨x, .inl h1, h2, h3⟩
 · intro v c hv hx t ht hp
   by_cases e2 : v = u ∧ c = b
   · unfold qb7 at hx; rw [if_pos e2] at hx; omega
   · unfold qb7 at hx; rw [if_neg e2] at hx
     rcases ht with ht | rfl
     · exact h.none v c hv hx t ht hp
     · rw [← hs] at hp
       rcases List.prefix_concat_iff.1 hp with e | e
       · obtain ⟨e3, e4⟩ := qk6 e
         exact e2 ⟨h.inj v u hv hu e3, e4⟩
       · exact h.follows v c hv _ u (Nat.le_refl _) hu e hx
set_option linter.unusedSimpArgs false
theorem qen (v : Value) (zs : List Int) (w : World) (hR : IQ w v zs) (he : errN zs = 0) :
    Calls Tryz.prog 77 #[v] w fun e w' => e = .returned (.slice (some ⟨w.heap.size, 0, none⟩) zs.length zs.length) ∧ CR w' w.heap.size zs.length (cdOf (toN zs)) (ln (toN zs)) ∧ Below w.heap.size w w' := by
 have HC : Hid (Calls _ _ _ _ _) := qny v zs w hR he
 obtain ⟨g, o, cap, rfl, _⟩ := hR
 go_enter Tryz.func77, Tryz.ntmps77
 go_wp2_with fail
 refine (Hid.out HC : Calls _ _ _ _ _).mono ?_
 rintro e w1 ⟨rfl, h1, h2⟩
 have H1 : Hid _ := h1
 clear h1 HC
 go_wp2
 go_ret
 exact ⟨rfl, H1.out, h2⟩
def cutN (zs : List Int) (least : Nat) : Nat → Nat
 | 0 => 0
 | n + 1 => if least < n + 1 ∧ zs.getD n 0 = 0 then cutN zs least n else n + 1
theorem qeo (zs : List Int) (least : Nat) : ∀ n, cutN zs least n ≤ n
 | 0 => Nat.le_refl _
 | n + 1 => by
  have := qeo zs least n
  rw [cutN]; split <;> omega
theorem ql8 (zs : List Int) (least : Nat) : ∀ n, least ≤ n → least ≤ cutN zs least n
 | 0, h => h
 | n + 1, h => by
  rw [cutN]
  split
  · rename_i q; exact ql8 zs least n (by omega)
  · exact h
theorem qnx (zs : List Int) (least : Nat) : ∀ n j, cutN zs least n ≤ j → j < n → zs.getD j 0 = 0
 | 0, j, _, h => by omega
 | n + 1, j, h1, h2 => by
  rw [cutN] at h1
  split at h1
  · rename_i q
    by_cases e : j = n
    · subst e; exact q.2
    · exact qnx zs least n j h1 (by omega)
  · omega
theorem Tryz.undC : Tryz.prog.underlying 39 = some (.slice (Tryz.prog.elem 39)) := by kernel_rfl
theorem Tryz.szC (W : World) : (sizeOf (Tryz.prog.elem 39)).run Tryz.prog W = .ok 1 W := by kernel_rfl
theorem q3c {g o N cap m : Nat} (h : m ≤ cap) (W : World) : (Instr.slice 39 (.slice (some ⟨g, o, none⟩) N cap) none (some (.int .i64 (m : Int))) none).run Tryz.prog W = .ok (.slice (some ⟨g, o, none⟩) m cap) W := by
 rw [run_slice_h (ht := Tryz.undC) (h0 := by omega) (h2 := by omega), Tryz.szC]
 simp [Result.andThen, sliced, Addr.add]
theorem qw3 (g o cap : Nat) (zs : List Int) (least : Nat) (w : World) (hg : g < w.heap.size) (hc : ∀ i, i < zs.length → w.cell? ⟨g, o + i, none⟩ = some (.int .i64 (zs.getD i 0))) (hcap : zs.length ≤ cap) (hl : zs.length ≤ 1000) (hle : least ≤ 1000) :
    Calls Tryz.prog 79 #[.slice (some ⟨g, o, none⟩) zs.length cap, .int .i64 (least : Int)] w fun e w' => e = .returned (.slice (some ⟨g, o, none⟩) (cutN zs least zs.length) cap) ∧ w' = w := by
 have HC : Hid (∀ i, i < zs.length → w.cell? ⟨g, o + i, none⟩ = some (.int .i64 (zs.getD i 0))) := hc
 clear hc
 go_enter Tryz.func79, Tryz.ntmps79
 go_wp2
 go_loop [5] (fun v => ∃ n : Nat, n ≤ zs.length ∧ v = .int .i64 (n : Int) ∧ cutN zs least n = cutN zs least zs.length) (fun v => (intOf v).toNat)
 case atStart => exact ⟨zs.length, Nat.le_refl _, rfl, rfl⟩
 case round =>
  obtain ⟨n, hn, rfl, he⟩ := hrel
  have hcut := fun W => q3c (g := g) (o := o) (N := zs.length) (cap := cap) (m := n) (by omega) W
  have HCU : Hid _ := hcut
  clear hcut
  by_cases h1 : least < n
  · obtain ⟨m, rfl⟩ : ∃ m, n = m + 1 := ⟨n - 1, by omega⟩
    have h1i : (least : Int) < (m : Int) + 1 := by omega
    have hcm := HC.out m (by omega)
    have hmi : (m : Int) < (zs.length : Int) := by omega
    rw [show ((m + 1 : Nat) : Int) = (m : Int) + 1 by omega]
    by_cases h2 : zs.getD m 0 = 0
    · have HE : Hid (cutN zs least m = cutN zs least zs.length) := by unfold Hid; rw [← he, cutN, if_pos ⟨h1, h2⟩]
      rw [h2] at hcm
      clear he
      go_wp2
      go_round
      case rel => exact ⟨m, by omega, rfl, HE.out⟩
      case measure => simp [intOf]
    · have HE : Hid (m + 1 = cutN zs least zs.length) := by unfold Hid; rw [← he, cutN, if_neg (fun q => h2 q.2)]
      have hcut := HCU.out
      rw [show ((m + 1 : Nat) : Int) = (m : Int) + 1 by omega] at hcut
      generalize zs.getD m 0 = z at *
      clear he HCU
      go_wp2
      go_ret
      exact ⟨by rw [← HE.out]; rfl, rfl⟩
  · have HE : Hid (n = cutN zs least zs.length) := by
      unfold Hid; rw [← he]
      cases n with
      | zero => rfl
      | succ n => rw [cutN, if_neg (fun q => h1 q.1)]
    have h1i : ¬ (least : Int) < (n : Int) := by omega
    have hcut := HCU.out
    clear he HCU
    go_wp2
    go_ret
    exact ⟨by rw [← HE.out]; rfl, rfl⟩
end Go.Proofs.YthkppipdflmekaaGreat
