/- Codes by their lengths: plain mathematics, no program. -/
import Derived.WalkKit
import Derived.WalkSpells
import Derived.WalkLawsBesides
import Derived.Handy
import Derived.Laws.BytesArg
import Derived.WalkSmall
import Derived.Laws.BitsAllLaws
import Derived.Laws.OwnMore
namespace Go.Proofs.YthkppipdflmekaaGreat
open Go.RowKit
theorem qg0 {B : Nat} {w wr w1 : World} {e : TypeId} {sz n : Nat} {v : Value} {xs : List Value} {o : Obj} (hbel : Below B w wr) (hB : B ≤ wr.heap.size)
    (hown : wr.ownsRow B e sz v n xs) (hg : (wr.alloc o).grownBy w1 v.ownBlock) : Below B w w1 :=
 (hbel.alloc hB o).grown hg (by rw [World.size_alloc]; omega) fun k hk => (hown.lt k hk).1
theorem qfc {B : Nat} {w wr : World} (h : Below B w wr) (hB : B ≤ w.heap.size) : B ≤ wr.heap.size := Nat.le_trans hB h.size
theorem qz4 {P : Program} {w : World} {base : Nat} {src e dst : TypeId} {v : Value} {xs : List Int} {n : Nat} (hs : P.underlying src = some (.slice e)) (he : P.underlying e = some (.int .u8)) (hd : P.underlying dst = some .string)
    (h : w.ownsRow base e 1 v n (xs.map (Value.int .u8))) : (convert src dst v).run P w = .ok (.string (strOfNums xs)) w := by
 have h' := h
 obtain ⟨hl, h⟩ := h
 simp at hl
 rcases h with ⟨rfl, rfl⟩ | ⟨g, cap, cur, rfl, _⟩
 · obtain rfl : xs = [] := by simpa using hl
   exact run_convert_bytes_nil w src e hs he 0 0 dst hd
 · refine run_convert_bytes_arg w src e hs he g 0 n cap xs hl (fun i hi => ?_) dst hd
   have := h'.cellAt i (by omega)
   simp only [Nat.zero_add, this, List.getElem?_map, List.getD]
   rw [List.getElem?_eq_getElem (by omega)]
   rfl
def bs (l : List Nat) : ByteArray := strOfNums (l.map fun n : Nat => (n : Int))
def cs (l : List Nat) : List Value := l.map fun n : Nat => Value.int .u8 (n : Int)
theorem cs_eq (l : List Nat) : cs l = (l.map fun n : Nat => (n : Int)).map (Value.int .u8) := by simp [cs]
theorem qpq (l : List Nat) (n : Nat) : cs (l ++ [n]) = cs l ++ [.int .u8 (n : Int)] := by simp [cs]
theorem ql9 {P : Program} {w : World} {base : Nat} {src e dst : TypeId} {v : Value} {l : List Nat} {n : Nat} (hs : P.underlying src = some (.slice e)) (he : P.underlying e = some (.int .u8)) (hd : P.underlying dst = some .string)
    (h : w.ownsRow base e 1 v n (cs l)) : (convert src dst v).run P w = .ok (.string (bs l)) w :=
 qz4 hs he hd (cs_eq l ▸ h)
set_option linter.unusedVariables false
theorem qdl {a b c : World} {row : Option Nat} (h : a.grownBy b row) (k : b.grownBy c row) : a.grownBy c row :=
 ⟨k.os.trans h.os, k.tape.trans h.tape, k.output.trans h.output, Nat.le_trans h.size k.size, fun i hi hn => (k.block i (Nat.lt_of_lt_of_le hi h.size) hn).trans (h.block i hi hn)⟩
theorem qcj (w : World) (row : Option Nat) : w.grownBy w row := World.grownBy.refl w row
theorem q02 {a b : World} {row : Option Nat} (h : a.grownBy b row) (n : Nat) : a.grownBy (b.drewN n) row := ⟨h.os, h.tape, h.output, h.size, h.block⟩
theorem q4q {a b : World} {row : Option Nat} (h : a.grownBy b row) : a.grownBy b.drew row := ⟨h.os, h.tape, h.output, h.size, h.block⟩
theorem gset {a b : World} {g : Nat} (h : a.grownBy b (some g)) (j : Nat) (v : Value) : a.grownBy (b.setCell ⟨g, j, none⟩ v) (some g) :=
 qdl h ⟨rfl, rfl, rfl, by simp, fun k hk hne => heap_setCell_other _ _ _ _ (fun e => hne (by rw [e]))⟩
theorem q03 {a b : World} {row : Option Nat} (h : a.grownBy b row) (o : Obj) : a.grownBy (b.alloc o) row := qdl h (World.grownBy_alloc b o row)
theorem qrq {a b : World} {row : Option Nat} (h : Below a.heap.size a b) : a.grownBy b row := ⟨h.os, h.tape, h.output, h.size, fun k hk _ => h.block k hk⟩
open Go
set_option linter.unusedVariables false
def qal (f : Nat → Bool) : Nat → Nat
 | 0 => 0
 | n + 1 => qal f n + (f n).toNat * 2 ^ n
def qa8 (f : Nat → Bool) : Nat → Nat
 | 0 => 0
 | n + 1 => 2 * qa8 f n + (f n).toNat
theorem qaw (f : Nat → Bool) : ∀ n, qal f n < 2 ^ n
 | 0 => by simp [qal]
 | n + 1 => by
  have := qaw f n
  rw [qal, Nat.pow_succ]
  cases f n <;> simp <;> omega
theorem qhi (f : Nat → Bool) : ∀ n, qa8 f n < 2 ^ n
 | 0 => by simp [qa8]
 | n + 1 => by
  have := qhi f n
  rw [qa8, Nat.pow_succ]
  cases f n <;> simp <;> omega
theorem qaz {f g : Nat → Bool} : ∀ n, (∀ i, i < n → f i = g i) → qal f n = qal g n
 | 0, _ => rfl
 | n + 1, h => by rw [qal, qal, qaz n (fun i hi => h i (by omega)), h n (by omega)]
theorem qhy {f g : Nat → Bool} : ∀ n, (∀ i, i < n → f i = g i) → qa8 f n = qa8 g n
 | 0, _ => rfl
 | n + 1, h => by rw [qa8, qa8, qhy n (fun i hi => h i (by omega)), h n (by omega)]
theorem qeu (f : Nat → Bool) (n : Nat) (h : n ≤ 32) : qal f n < 4294967296 :=
 Nat.lt_of_lt_of_le (qaw f n) (Nat.pow_le_pow_right (n := 2) (i := n) (j := 32) (by decide) h)
theorem qsn (f : Nat → Bool) (n : Nat) (h : n ≤ 32) : qa8 f n < 4294967296 :=
 Nat.lt_of_lt_of_le (qhi f n) (Nat.pow_le_pow_right (n := 2) (i := n) (j := 32) (by decide) h)
theorem qqf (f : Nat → Bool) (n : Nat) : qal f n ||| ((f n).toNat * 2 ^ n) = qal f (n + 1) := by
 have h := qaw f n
 rw [qal, Nat.mul_comm, Nat.or_comm, ← Nat.two_pow_add_eq_or_of_lt h, Nat.add_comm]
theorem qib (f : Nat → Bool) : ∀ n j, (qal f n).testBit j = (decide (j < n) && f j)
 | 0, j => by simp [qal]
 | n + 1, j => by
  rw [← qqf, Nat.testBit_or, qib f n j]
  by_cases h : j = n
  · subst h
    cases f j <;> simp
  · have e : ((f n).toNat * 2 ^ n).testBit j = false := by
      cases f n
      · simp
      · simp [Nat.testBit_two_pow]; omega
    rw [e]
    simp [show (j < n + 1) = (j < n) by apply propext; omega]
theorem qhz (f : Nat → Bool) : ∀ n j, (qa8 f n).testBit j = (decide (j < n) && f (n - 1 - j))
 | 0, j => by simp [qa8]
 | n + 1, 0 => by
  rw [qa8, Nat.testBit_zero, Nat.mul_add_mod]
  cases h : f n <;> simp [h]
 | n + 1, j + 1 => by
  rw [Nat.testBit_succ, show qa8 f (n + 1) / 2 = qa8 f n by rw [qa8]; cases f n <;> simp <;> omega, qhz f n j]
  rw [show n + 1 - 1 - (j + 1) = n - 1 - j by omega]
  simp
theorem qsm (f : Nat → Bool) (n m : Nat) (h : m < n) : qa8 f m * 2 ^ (n - m) + (f m).toNat * 2 ^ (n - 1 - m) = qa8 f (m + 1) * 2 ^ (n - (m + 1)) := by
 rw [qa8, show n - m = n - (m + 1) + 1 by omega, show n - 1 - m = n - (m + 1) by omega, Nat.pow_succ]
 generalize 2 ^ (n - (m + 1)) = p
 rw [Nat.add_mul]
 have : qa8 f m * (p * 2) = 2 * qa8 f m * p := by rw [Nat.mul_comm p 2, ← Nat.mul_assoc, Nat.mul_comm (qa8 f m) 2]
 omega
theorem qfr (f : Nat → Bool) (n m : Nat) (h : m ≤ n) : qa8 f m * 2 ^ (n - m) < 2 ^ n := by
 have := qhi f m
 calc qa8 f m * 2 ^ (n - m) < 2 ^ m * 2 ^ (n - m) := Nat.mul_lt_mul_of_pos_right this (Nat.two_pow_pos _)
  _ = 2 ^ n := by rw [← Nat.pow_add]; congr 1; omega
def sbit (s : List UInt8) (i : Nat) : Bool := (s.getD (i / 8) 0).toNat.testBit (i % 8)
theorem qih (s : List UInt8) (i : Nat) (h : 8 * s.length ≤ i) : sbit s i = false := by
 unfold sbit
 rw [List.getD_eq_getElem?_getD, List.getElem?_eq_none (by omega)]
 simp
def qbe (L : List Bool) (j : Nat) : UInt8 := UInt8.ofNat (qal (fun i => L.getD (8 * j + i) false) 8)
def qhd (L : List Bool) : List UInt8 := (List.range ((L.length + 7) / 8)).map (qbe L)
theorem qio (L : List Bool) : (qhd L).length = (L.length + 7) / 8 := by simp [qhd]
theorem qiq (L : List Bool) (j i : Nat) (hi : i < 8) : (qbe L j).toNat.testBit i = L.getD (8 * j + i) false := by
 unfold qbe
 rw [UInt8.toNat_ofNat', Nat.mod_eq_of_lt (qaw _ 8), qib]
 simp [hi]
theorem qvu (L : List Bool) (i : Nat) : sbit (qhd L) i = L.getD i false := by
 by_cases h : i / 8 < (L.length + 7) / 8
 · unfold sbit
   rw [List.getD_eq_getElem?_getD, qhd, List.getElem?_map, List.getElem?_range h]
   simp only [Option.map_some, Option.getD_some]
   rw [qiq _ _ _ (Nat.mod_lt _ (by decide)), show 8 * (i / 8) + i % 8 = i by omega]
 · rw [qih _ _ (by rw [qio]; omega), List.getD_eq_getElem?_getD, List.getElem?_eq_none (by omega)]
   rfl
def lowB (x n : Nat) : List Bool := (List.range n).map fun i => x.testBit i
def qdg (x n : Nat) : List Bool := (List.range n).map fun i => x.testBit (n - 1 - i)
theorem qat (x n : Nat) : (lowB x n).length = n := by simp [lowB]
theorem qcq (x n : Nat) : (qdg x n).length = n := by simp [qdg]
theorem qnh (x n : Nat) : lowB x (n + 1) = lowB x n ++ [x.testBit n] := by simp [lowB, List.range_succ]
theorem qgt (x n i : Nat) (h : i < n) : (lowB x n).getD i false = x.testBit i := by
 simp [lowB, List.getD_eq_getElem?_getD, List.getElem?_map, List.getElem?_range h]
theorem qrk (x n i : Nat) (h : i < n) : (qdg x n).getD i false = x.testBit (n - 1 - i) := by
 simp [qdg, List.getD_eq_getElem?_getD, List.getElem?_map, List.getElem?_range h]
theorem qfv (x n : Nat) : qal (fun i => x.testBit i) n = x % 2 ^ n := by
 apply Nat.eq_of_testBit_eq
 intro j
 rw [qib, Nat.testBit_mod_two_pow]
theorem qjw (x n : Nat) : qa8 (fun i => x.testBit (n - 1 - i)) n = x % 2 ^ n := by
 apply Nat.eq_of_testBit_eq
 intro j
 rw [qhz, Nat.testBit_mod_two_pow]
 by_cases h : j < n
 · simp [h, show n - 1 - (n - 1 - j) = j by omega]
 · simp [h]
def qcs (L : List Bool) : List Bool := L ++ List.replicate ((L.length + 7) / 8 * 8 - L.length) false
theorem qwu (L : List Bool) : (qcs L).length = (L.length + 7) / 8 * 8 := by simp [qcs]; omega
def qow (s : List UInt8) : List Bool := (List.range (8 * s.length)).map (sbit s)
theorem qii (s : List UInt8) : (qow s).length = 8 * s.length := by simp [qow]
theorem qqy (s : List UInt8) (i : Nat) : (qow s).getD i false = sbit s i := by
 by_cases h : i < 8 * s.length
 · simp [qow, List.getD_eq_getElem?_getD, List.getElem?_map, List.getElem?_range h]
 · rw [qih s i (by omega), List.getD_eq_getElem?_getD, List.getElem?_eq_none (by rw [qii]; omega)]; rfl
theorem qba (s : ByteArray) (a b : Nat) : (s.extract a b).data.toList = (s.data.toList.drop a).take (b - a) := by
 rw [ByteArray.data_extract, Array.toList_extract]
theorem qry (s : ByteArray) (n : Nat) : (s.extract 0 n).data.toList = s.data.toList.take n := by rw [qba]; simp
theorem qad (s : ByteArray) : s.data.toList.length = s.size := by simp
theorem qzv (s : ByteArray) (n : Nat) : (s.extract 0 n).size = min n s.size := by
 rw [← qad, qry, List.length_take, qad]
theorem qhc {a b : ByteArray} (h : a.data.toList = b.data.toList) : a = b := by
 cases a; cases b; congr 1; exact Array.toList_inj.1 h
theorem q26 (s : ByteArray) (n : Nat) (h : s.size ≤ n) : s.extract 0 n = s := by
 apply qhc; rw [qry, List.take_of_length_le (by rw [qad]; exact h)]
theorem qch {w : World} {base : Nat} {e : TypeId} {sz n : Nat} {v : Value} {xs : List Value} (h : w.ownsRow base e sz v n xs) (hn : 0 < n) : ∃ g cap, v = .slice (some ⟨g, 0, none⟩) n cap ∧ base ≤ g ∧ n ≤ cap ∧ g < w.heap.size := by
 have hl := h.lt
 rcases h.2 with ⟨_, h0⟩ | ⟨g, cap, cur, rfl, hg, _, hc, _⟩
 · omega
 · exact ⟨g, cap, rfl, hg, hc, (hl g rfl).2⟩
theorem qb4 (l : List Nat) : (bs l).data.toList = l.map UInt8.ofNat := by simp [bs, strOfNums]
theorem qgx (a b : List Nat) : bs a ++ bs b = bs (a ++ b) := by
 apply qhc
 rw [qb4, List.map_append, ← qb4, ← qb4]
 simp [ByteArray.data_append]
theorem qdm (l : List Nat) : (bs l).size = l.length := by rw [← qad, qb4, List.length_map]
theorem qv0 (q : List UInt8) : (q.map UInt8.toNat).map UInt8.ofNat = q := by simp [Function.comp_def]
def ln (ns : List Nat) (i : Nat) : Nat := ns.getD i 0
def qbg (ns : List Nat) : Nat → Nat
 | 0 => 0
 | k + 1 => qbg ns k + if 0 < ln ns k then 1 else 0
def qcp (ns : List Nat) (p : Nat → Bool) : Nat → Nat
 | 0 => 0
 | k + 1 => qcp ns p k + if 0 < ln ns k ∧ p k = true then 2 ^ (15 - ln ns k) else 0
def qbh (ns : List Nat) : Prop := ∀ n ∈ ns, n ≤ 15
theorem qbh.at {ns : List Nat} (h : qbh ns) (i : Nat) : ln ns i ≤ 15 := by
 unfold ln
 rw [List.getD_eq_getElem?_getD]
 by_cases hi : i < ns.length
 · rw [List.getElem?_eq_getElem hi]; exact h _ (List.getElem_mem hi)
 · rw [List.getElem?_eq_none (by omega)]; exact Nat.zero_le _
theorem qki (ns : List Nat) {p q : Nat → Bool} (h : ∀ t, p t = true → q t = true) : ∀ k, qcp ns p k ≤ qcp ns q k
 | 0 => Nat.le_refl _
 | k + 1 => by
  have := qki ns h k
  rw [qcp, qcp]
  by_cases h1 : 0 < ln ns k ∧ p k = true
  · rw [if_pos h1, if_pos ⟨h1.1, h k h1.2⟩]; omega
  · rw [if_neg h1]; omega
theorem qgm (ns : List Nat) {p q : Nat → Bool} (h : ∀ t, p t = true → q t = true) (s : Nat) (hs : 0 < ln ns s) (hp : p s = false) (hq : q s = true) :
    ∀ k, s < k → qcp ns p k + 2 ^ (15 - ln ns s) ≤ qcp ns q k
 | 0, hk => by omega
 | k + 1, hk => by
  by_cases e : s = k
  · subst e
    have := qki ns h s
    rw [qcp, qcp, if_neg (by rw [hp]; simp), if_pos ⟨hs, hq⟩]; omega
  · have := qgm ns h s hs hp hq k (by omega)
    rw [qcp, qcp]
    by_cases h1 : 0 < ln ns k ∧ p k = true
    · rw [if_pos h1, if_pos ⟨h1.1, h k h1.2⟩]; omega
    · rw [if_neg h1]; omega
def allP (ns : List Nat) (k : Nat) : Nat := qcp ns (fun _ => true) k
def fitB (ns : List Nat) : Bool := if qbg ns ns.length = 0 then true else if qbg ns ns.length = 1 then allP ns ns.length == 16384 else allP ns ns.length == 32768
theorem qmd (ns : List Nat) : ∀ k, qbg ns k = 0 → allP ns k = 0
 | 0, _ => rfl
 | k + 1, h => by
  rw [qbg] at h
  have h1 := qmd ns k (by omega)
  have h2 : ¬ 0 < ln ns k := fun hh => by rw [if_pos hh] at h; omega
  unfold allP at h1 ⊢
  rw [qcp, h1, if_neg (by intro hh; exact h2 hh.1)]
theorem q24 (ns : List Nat) (h : fitB ns = true) : allP ns ns.length ≤ 32768 := by
 unfold fitB at h
 split at h
 · rename_i h0; rw [qmd _ _ h0]; decide
 · split at h
   · have : allP ns ns.length = 16384 := by simpa using h
     omega
   · have : allP ns ns.length = 32768 := by simpa using h
     omega
def qbm (ns : List Nat) (n s t : Nat) : Bool := decide (ln ns t < n) || (decide (ln ns t = n) && decide (t < s))
theorem qag {ns : List Nat} {n s t : Nat} : qbm ns n s t = true ↔ ln ns t < n ∨ (ln ns t = n ∧ t < s) := by unfold qbm; simp
theorem qxp {ns : List Nat} {n s t : Nat} : qbm ns n s t = false ↔ ¬ (ln ns t < n ∨ (ln ns t = n ∧ t < s)) := by rw [← qag]; simp
def cdK (ns : List Nat) (n s : Nat) : Nat → Nat
 | 0 => 0
 | k + 1 => cdK ns n s k + if 0 < ln ns k ∧ qbm ns n s k = true then 2 ^ (n - ln ns k) else 0
def cd (ns : List Nat) (n s : Nat) : Nat := cdK ns n s ns.length
theorem qw9 (ns : List Nat) (n s : Nat) (hn : n ≤ 15) : ∀ k, cdK ns n s k ≤ k * 16384
 | 0 => Nat.zero_le _
 | k + 1 => by
  have := qw9 ns n s hn k
  rw [cdK]
  by_cases h : 0 < ln ns k ∧ qbm ns n s k = true
  · rw [if_pos h]
    have h14 : 2 ^ (n - ln ns k) ≤ 16384 := Nat.pow_le_pow_right (n := 2) (i := n - ln ns k) (j := 14) (by decide) (by omega)
    omega
  · rw [if_neg h, Nat.add_zero, Nat.succ_mul]; exact Nat.le_trans this (Nat.le_add_right _ _)
theorem qhv (ns : List Nat) (n s : Nat) (hn : n ≤ 15) : ∀ k, cdK ns n s k * 2 ^ (15 - n) = qcp ns (qbm ns n s) k
 | 0 => by simp [cdK, qcp]
 | k + 1 => by
  rw [cdK, qcp, Nat.add_mul, qhv ns n s hn k]
  congr 1
  by_cases h : 0 < ln ns k ∧ qbm ns n s k = true
  · rw [if_pos h, if_pos h, ← Nat.pow_add]
    congr 1
    have : ln ns k ≤ n := by
     have := qag.1 h.2
     omega
    omega
  · rw [if_neg h, if_neg h]; simp
theorem qks (ns : List Nat) (s : Nat) : qbm ns (ln ns s) s s = false := by rw [qxp]; omega
theorem qp4 (ns : List Nat) (s t u : Nat) (h : qbm ns (ln ns s) s t = true) (k : qbm ns (ln ns t) t u = true) : qbm ns (ln ns s) s u = true := by
 rw [qag] at *
 omega
theorem qw8 (ns : List Nat) (h15 : qbh ns) (s t : Nat) (ht : t < ns.length) (hp : 0 < ln ns t) (h : qbm ns (ln ns s) s t = true) :
    (cd ns (ln ns t) t + 1) * 2 ^ (15 - ln ns t) ≤ cd ns (ln ns s) s * 2 ^ (15 - ln ns s) := by
 unfold cd
 rw [Nat.add_mul, qhv ns _ t (h15.at t), qhv ns _ s (h15.at s), Nat.one_mul]
 exact qgm ns (fun u hu => qp4 ns s t u h hu) t hp (qks ns t) h _ ht
theorem q4s (ns : List Nat) (h15 : qbh ns) (s : Nat) (hs : s < ns.length) (hp : 0 < ln ns s) : (cd ns (ln ns s) s + 1) * 2 ^ (15 - ln ns s) ≤ allP ns ns.length := by
 unfold cd
 rw [Nat.add_mul, qhv ns _ s (h15.at s), Nat.one_mul]
 exact qgm ns (fun _ _ => rfl) s hp (qks ns s) rfl _ hs
theorem qw7 (ns : List Nat) (h15 : qbh ns) (hf : fitB ns = true) (s : Nat) (hs : s < ns.length) (hp : 0 < ln ns s) : cd ns (ln ns s) s < 2 ^ ln ns s := by
 have h1 := q4s ns h15 s hs hp
 have h2 := q24 ns hf
 have h3 := h15.at s
 have e : 32768 = 2 ^ ln ns s * 2 ^ (15 - ln ns s) := by rw [← Nat.pow_add, show ln ns s + (15 - ln ns s) = 15 by omega]
 rw [e] at h2
 have := Nat.le_of_mul_le_mul_right (Nat.le_trans h1 h2) (Nat.two_pow_pos _)
 omega
theorem qp5 (ns : List Nat) (s t : Nat) (h : s ≠ t) : qbm ns (ln ns s) s t = true ∨ qbm ns (ln ns t) t s = true := by
 rw [qag, qag]
 omega
theorem qsb (ns : List Nat) (h15 : qbh ns) (s t : Nat) (ht : t < ns.length) (hp : 0 < ln ns t) (h : qbm ns (ln ns s) s t = true) : cd ns (ln ns t) t < cd ns (ln ns s) s / 2 ^ (ln ns s - ln ns t) := by
 have h1 := qw8 ns h15 s t ht hp h
 have hle : ln ns t ≤ ln ns s := by have := qag.1 h; omega
 have h3 := h15.at s
 have e : 2 ^ (15 - ln ns t) = 2 ^ (ln ns s - ln ns t) * 2 ^ (15 - ln ns s) := by rw [← Nat.pow_add]; congr 1; omega
 rw [e, ← Nat.mul_assoc] at h1
 have h4 := Nat.le_of_mul_le_mul_right h1 (Nat.two_pow_pos _)
 exact (Nat.le_div_iff_mul_le (Nat.two_pow_pos _)).2 h4
/-! ### The order in which they are reckoned -/
theorem q3i (ns : List Nat) (n i : Nat) (hn : 0 < n) (hi : i < ns.length) : cd ns n (i + 1) = cd ns n i + if ln ns i = n then 1 else 0 := by
 have key : ∀ k, cdK ns n (i + 1) k = cdK ns n i k + if i < k ∧ ln ns i = n then 1 else 0 := by
  intro k
  induction k with
  | zero => simp [cdK]
  | succ k ih =>
   rw [cdK, cdK, ih]
   by_cases e : k = i
   · subst e
     rw [if_neg (show ¬ (k < k ∧ ln ns k = n) by omega)]
     by_cases h : ln ns k = n
     · rw [if_pos (show 0 < ln ns k ∧ qbm ns n (k + 1) k = true from ⟨by omega, qag.2 (by omega)⟩), if_neg (show ¬ (0 < ln ns k ∧ qbm ns n k k = true) from fun hh => by have := qag.1 hh.2; omega), if_pos (show k < k + 1 ∧ ln ns k = n by omega), h, Nat.sub_self]
     · rw [if_neg (show ¬ (k < k + 1 ∧ ln ns k = n) by omega)]
       by_cases h2 : 0 < ln ns k ∧ qbm ns n k k = true
       · have := qag.1 h2.2
         rw [if_pos h2, if_pos ⟨h2.1, qag.2 (by omega)⟩]; omega
       · rw [if_neg h2, if_neg (fun hh => h2 ⟨hh.1, qag.2 (by have := qag.1 hh.2; omega)⟩)]
   · have a1 : (if 0 < ln ns k ∧ qbm ns n (i + 1) k = true then 2 ^ (n - ln ns k) else 0) = if 0 < ln ns k ∧ qbm ns n i k = true then 2 ^ (n - ln ns k) else 0 := by
       by_cases h2 : 0 < ln ns k ∧ qbm ns n i k = true
       · have := qag.1 h2.2
         rw [if_pos h2, if_pos ⟨h2.1, qag.2 (by omega)⟩]
       · rw [if_neg h2, if_neg (fun hh => h2 ⟨hh.1, qag.2 (by have := qag.1 hh.2; omega)⟩)]
     rw [a1]
     by_cases h3 : i < k ∧ ln ns i = n
     · rw [if_pos h3, if_pos (show i < k + 1 ∧ ln ns i = n by omega)]; omega
     · rw [if_neg h3, if_neg (show ¬ (i < k + 1 ∧ ln ns i = n) by omega)]
       omega
 unfold cd
 rw [key]
 by_cases h : ln ns i = n
 · rw [if_pos ⟨hi, h⟩, if_pos h]
 · rw [if_neg (fun hh => h hh.2), if_neg h]
theorem q0a (ns : List Nat) (n : Nat) : cd ns (n + 1) 0 = 2 * cd ns n ns.length := by
 have key : ∀ k, k ≤ ns.length → cdK ns (n + 1) 0 k = 2 * cdK ns n ns.length k := by
  intro k
  induction k with
  | zero => intro _; simp [cdK]
  | succ k ih =>
   intro hk
   rw [cdK, cdK, ih (by omega)]
   have a1 : qbm ns (n + 1) 0 k = qbm ns n ns.length k := by
    rw [Bool.eq_iff_iff, qag, qag]; omega
   rw [a1]
   by_cases h : 0 < ln ns k ∧ qbm ns n ns.length k = true
   · rw [if_pos h, if_pos h]
     have hle : ln ns k ≤ n := by have := qag.1 h.2; omega
     rw [show n + 1 - ln ns k = n - ln ns k + 1 by omega, Nat.pow_succ]; omega
   · rw [if_neg h, if_neg h]; omega
 exact key _ (Nat.le_refl _)
theorem q3h (ns : List Nat) : cd ns 0 ns.length = 0 := by
 have key : ∀ k, cdK ns 0 ns.length k = 0 := by
  intro k
  induction k with
  | zero => rfl
  | succ k ih =>
   rw [cdK, ih, if_neg]
   intro h
   have := qag.1 h.2
   omega
 exact key _
end Go.Proofs.YthkppipdflmekaaGreat
