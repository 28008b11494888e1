/- Codes by their lengths: plain mathematics, no program. -/
import Derived.WalkKit
import Derived.WalkSpells
import Derived.WalkLawsBesides
import Derived.Handy
import Derived.Laws.BytesArg
import Derived.WalkSmall
import Derived.Laws.BitsAllLaws
import Derived.Laws.OwnMore
namespace Go.Proofs.YthkppipdflmekaaGreat
open Go.RowKit
theorem qfs {B : Nat} {w wr w1 : World} {e : TypeId} {sz n : Nat} {v : Value} {xs : List Value} {o : Obj} (hbel : Below B w wr) (hB : B ≤ wr.heap.size)
  (hown : wr.ownsRow B e sz v n xs) (hg : (wr.alloc o).grownBy w1 v.ownBlock) : Below B w w1 :=
 (hbel.alloc hB o).grown hg (by rw [World.size_alloc]; omega) fun k hk => (hown.lt k hk).1
theorem qeb {B : Nat} {w wr : World} (h : Below B w wr) (hB : B ≤ w.heap.size) : B ≤ wr.heap.size := Nat.le_trans hB h.size
theorem conv_own {P : Program} {w : World} {base : Nat} {src e dst : TypeId} {v : Value} {xs : List Int} {n : Nat} (hs : P.underlying src = some (.slice e)) (he : P.underlying e = some (.int .u8)) (hd : P.underlying dst = some .string)
  (h : w.ownsRow base e 1 v n (xs.map (Value.int .u8))) : (convert src dst v).run P w = .ok (.string (strOfNums xs)) w := by
 have h' := h
 obtain ⟨hl, h⟩ := h
 simp at hl
 rcases h with ⟨rfl, rfl⟩ | ⟨g, cap, cur, rfl, _⟩
 · obtain rfl : xs = [] := by simpa using hl
  exact run_convert_bytes_nil w src e hs he 0 0 dst hd
 · refine run_convert_bytes_arg w src e hs he g 0 n cap xs hl (fun i hi => ?_) dst hd
  have := h'.cellAt i (by omega)
  simp only [Nat.zero_add, this, List.getElem?_map, List.getD]
  rw [List.getElem?_eq_getElem (by omega)]
  rfl
def bs (l : List Nat) : ByteArray := strOfNums (l.map fun n : Nat => (n : Int))
def cs (l : List Nat) : List Value := l.map fun n : Nat => Value.int .u8 (n : Int)
theorem cs_eq (l : List Nat) : cs l = (l.map fun n : Nat => (n : Int)).map (Value.int .u8) := by simp [cs]
theorem cs_snoc (l : List Nat) (n : Nat) : cs (l ++ [n]) = cs l ++ [.int .u8 (n : Int)] := by simp [cs]
theorem conv_bs {P : Program} {w : World} {base : Nat} {src e dst : TypeId} {v : Value} {l : List Nat} {n : Nat} (hs : P.underlying src = some (.slice e)) (he : P.underlying e = some (.int .u8)) (hd : P.underlying dst = some .string)
  (h : w.ownsRow base e 1 v n (cs l)) : (convert src dst v).run P w = .ok (.string (bs l)) w :=
 conv_own hs he hd (cs_eq l ▸ h)
set_option linter.unusedVariables false
theorem qcn {a b c : World} {row : Option Nat} (h : a.grownBy b row) (k : b.grownBy c row) : a.grownBy c row :=
 ⟨k.os.trans h.os, k.tape.trans h.tape, k.output.trans h.output, Nat.le_trans h.size k.size, fun i hi hn => (k.block i (Nat.lt_of_lt_of_le hi h.size) hn).trans (h.block i hi hn)⟩
theorem grefl (w : World) (row : Option Nat) : w.grownBy w row := World.grownBy.refl w row
theorem gdrewN {a b : World} {row : Option Nat} (h : a.grownBy b row) (n : Nat) : a.grownBy (b.drewN n) row := ⟨h.os, h.tape, h.output, h.size, h.block⟩
theorem gdrew {a b : World} {row : Option Nat} (h : a.grownBy b row) : a.grownBy b.drew row := ⟨h.os, h.tape, h.output, h.size, h.block⟩
theorem gset {a b : World} {g : Nat} (h : a.grownBy b (some g)) (j : Nat) (v : Value) : a.grownBy (b.setCell ⟨g, j, none⟩ v) (some g) :=
 qcn h ⟨rfl, rfl, rfl, by simp, fun k hk hne => heap_setCell_other _ _ _ _ (fun e => hne (by rw [e]))⟩
theorem galloc {a b : World} {row : Option Nat} (h : a.grownBy b row) (o : Obj) : a.grownBy (b.alloc o) row := qcn h (World.grownBy_alloc b o row)
theorem gbelow {a b : World} {row : Option Nat} (h : Below a.heap.size a b) : a.grownBy b row := ⟨h.os, h.tape, h.output, h.size, fun k hk _ => h.block k hk⟩
open Go
set_option linter.unusedVariables false
def takeN (f : Nat → Bool) : Nat → Nat
 | 0 => 0
 | n + 1 => takeN f n + (f n).toNat * 2 ^ n
def turnN (f : Nat → Bool) : Nat → Nat
 | 0 => 0
 | n + 1 => 2 * turnN f n + (f n).toNat
theorem qas (f : Nat → Bool) : ∀ n, takeN f n < 2 ^ n
 | 0 => by simp [takeN]
 | n + 1 => by
  have := qas f n
  rw [takeN, Nat.pow_succ]
  cases f n <;> simp <;> omega
theorem qf6 (f : Nat → Bool) : ∀ n, turnN f n < 2 ^ n
 | 0 => by simp [turnN]
 | n + 1 => by
  have := qf6 f n
  rw [turnN, Nat.pow_succ]
  cases f n <;> simp <;> omega
theorem qau {f g : Nat → Bool} : ∀ n, (∀ i, i < n → f i = g i) → takeN f n = takeN g n
 | 0, _ => rfl
 | n + 1, h => by rw [takeN, takeN, qau n (fun i hi => h i (by omega)), h n (by omega)]
theorem qgm {f g : Nat → Bool} : ∀ n, (∀ i, i < n → f i = g i) → turnN f n = turnN g n
 | 0, _ => rfl
 | n + 1, h => by rw [turnN, turnN, qgm n (fun i hi => h i (by omega)), h n (by omega)]
theorem qds (f : Nat → Bool) (n : Nat) (h : n ≤ 32) : takeN f n < 4294967296 :=
 Nat.lt_of_lt_of_le (qas f n) (Nat.pow_le_pow_right (n := 2) (i := n) (j := 32) (by decide) h)
theorem turnN_lt32 (f : Nat → Bool) (n : Nat) (h : n ≤ 32) : turnN f n < 4294967296 :=
 Nat.lt_of_lt_of_le (qf6 f n) (Nat.pow_le_pow_right (n := 2) (i := n) (j := 32) (by decide) h)
theorem takeN_or (f : Nat → Bool) (n : Nat) : takeN f n ||| ((f n).toNat * 2 ^ n) = takeN f (n + 1) := by
 have h := qas f n
 rw [takeN, Nat.mul_comm, Nat.or_comm, ← Nat.two_pow_add_eq_or_of_lt h, Nat.add_comm]
theorem qgz (f : Nat → Bool) : ∀ n j, (takeN f n).testBit j = (decide (j < n) && f j)
 | 0, j => by simp [takeN]
 | n + 1, j => by
  rw [← takeN_or, Nat.testBit_or, qgz f n j]
  by_cases h : j = n
  · subst h
   cases f j <;> simp
  · have e : ((f n).toNat * 2 ^ n).testBit j = false := by
    cases f n
    · simp
    · simp [Nat.testBit_two_pow]; omega
   rw [e]
   simp [show (j < n + 1) = (j < n) by apply propext; omega]
theorem qgn (f : Nat → Bool) : ∀ n j, (turnN f n).testBit j = (decide (j < n) && f (n - 1 - j))
 | 0, j => by simp [turnN]
 | n + 1, 0 => by
  rw [turnN, Nat.testBit_zero, Nat.mul_add_mod]
  cases h : f n <;> simp [h]
 | n + 1, j + 1 => by
  rw [Nat.testBit_succ, show turnN f (n + 1) / 2 = turnN f n by rw [turnN]; cases f n <;> simp <;> omega, qgn f n j]
  rw [show n + 1 - 1 - (j + 1) = n - 1 - j by omega]
  simp
theorem turnN_part (f : Nat → Bool) (n m : Nat) (h : m < n) : turnN f m * 2 ^ (n - m) + (f m).toNat * 2 ^ (n - 1 - m) = turnN f (m + 1) * 2 ^ (n - (m + 1)) := by
 rw [turnN, show n - m = n - (m + 1) + 1 by omega, show n - 1 - m = n - (m + 1) by omega, Nat.pow_succ]
 generalize 2 ^ (n - (m + 1)) = p
 rw [Nat.add_mul]
 have : turnN f m * (p * 2) = 2 * turnN f m * p := by rw [Nat.mul_comm p 2, ← Nat.mul_assoc, Nat.mul_comm (turnN f m) 2]
 omega
theorem qeo (f : Nat → Bool) (n m : Nat) (h : m ≤ n) : turnN f m * 2 ^ (n - m) < 2 ^ n := by
 have := qf6 f m
 calc turnN f m * 2 ^ (n - m) < 2 ^ m * 2 ^ (n - m) := Nat.mul_lt_mul_of_pos_right this (Nat.two_pow_pos _)
  _ = 2 ^ n := by rw [← Nat.pow_add]; congr 1; omega
def sbit (s : List UInt8) (i : Nat) : Bool := (s.getD (i / 8) 0).toNat.testBit (i % 8)
theorem qg5 (s : List UInt8) (i : Nat) (h : 8 * s.length ≤ i) : sbit s i = false := by
 unfold sbit
 rw [List.getD_eq_getElem?_getD, List.getElem?_eq_none (by omega)]
 simp
def packB (L : List Bool) (j : Nat) : UInt8 := UInt8.ofNat (takeN (fun i => L.getD (8 * j + i) false) 8)
def packL (L : List Bool) : List UInt8 := (List.range ((L.length + 7) / 8)).map (packB L)
theorem qhb (L : List Bool) : (packL L).length = (L.length + 7) / 8 := by simp [packL]
theorem qhd (L : List Bool) (j i : Nat) (hi : i < 8) : (packB L j).toNat.testBit i = L.getD (8 * j + i) false := by
 unfold packB
 rw [UInt8.toNat_ofNat', Nat.mod_eq_of_lt (qas _ 8), qgz]
 simp [hi]
theorem packL_bit (L : List Bool) (i : Nat) : sbit (packL L) i = L.getD i false := by
 by_cases h : i / 8 < (L.length + 7) / 8
 · unfold sbit
  rw [List.getD_eq_getElem?_getD, packL, List.getElem?_map, List.getElem?_range h]
  simp only [Option.map_some, Option.getD_some]
  rw [qhd _ _ _ (Nat.mod_lt _ (by decide)), show 8 * (i / 8) + i % 8 = i by omega]
 · rw [qg5 _ _ (by rw [qhb]; omega), List.getD_eq_getElem?_getD, List.getElem?_eq_none (by omega)]
  rfl
def lowB (x n : Nat) : List Bool := (List.range n).map fun i => x.testBit i
def highB (x n : Nat) : List Bool := (List.range n).map fun i => x.testBit (n - 1 - i)
theorem qaq (x n : Nat) : (lowB x n).length = n := by simp [lowB]
theorem qb1 (x n : Nat) : (highB x n).length = n := by simp [highB]
theorem lowB_succ (x n : Nat) : lowB x (n + 1) = lowB x n ++ [x.testBit n] := by simp [lowB, List.range_succ]
theorem qfl (x n i : Nat) (h : i < n) : (lowB x n).getD i false = x.testBit i := by
 simp [lowB, List.getD_eq_getElem?_getD, List.getElem?_map, List.getElem?_range h]
theorem highB_at (x n i : Nat) (h : i < n) : (highB x n).getD i false = x.testBit (n - 1 - i) := by
 simp [highB, List.getD_eq_getElem?_getD, List.getElem?_map, List.getElem?_range h]
theorem qes (x n : Nat) : takeN (fun i => x.testBit i) n = x % 2 ^ n := by
 apply Nat.eq_of_testBit_eq
 intro j
 rw [qgz, Nat.testBit_mod_two_pow]
theorem turnN_high (x n : Nat) : turnN (fun i => x.testBit (n - 1 - i)) n = x % 2 ^ n := by
 apply Nat.eq_of_testBit_eq
 intro j
 rw [qgn, Nat.testBit_mod_two_pow]
 by_cases h : j < n
 · simp [h, show n - 1 - (n - 1 - j) = j by omega]
 · simp [h]
def evenL (L : List Bool) : List Bool := L ++ List.replicate ((L.length + 7) / 8 * 8 - L.length) false
theorem evenL_len (L : List Bool) : (evenL L).length = (L.length + 7) / 8 * 8 := by simp [evenL]; omega
def rowOf (s : List UInt8) : List Bool := (List.range (8 * s.length)).map (sbit s)
theorem qg6 (s : List UInt8) : (rowOf s).length = 8 * s.length := by simp [rowOf]
theorem rowOf_at (s : List UInt8) (i : Nat) : (rowOf s).getD i false = sbit s i := by
 by_cases h : i < 8 * s.length
 · simp [rowOf, List.getD_eq_getElem?_getD, List.getElem?_map, List.getElem?_range h]
 · rw [qg5 s i (by omega), List.getD_eq_getElem?_getD, List.getElem?_eq_none (by rw [qg6]; omega)]; rfl
theorem qa4 (s : ByteArray) (a b : Nat) : (s.extract a b).data.toList = (s.data.toList.drop a).take (b - a) := by
 rw [ByteArray.data_extract, Array.toList_extract]
theorem few_data (s : ByteArray) (n : Nat) : (s.extract 0 n).data.toList = s.data.toList.take n := by rw [qa4]; simp
theorem qad (s : ByteArray) : s.data.toList.length = s.size := by simp
theorem few_size (s : ByteArray) (n : Nat) : (s.extract 0 n).size = min n s.size := by
 rw [← qad, few_data, List.length_take, qad]
theorem qf3 {a b : ByteArray} (h : a.data.toList = b.data.toList) : a = b := by
 cases a; cases b; congr 1; exact Array.toList_inj.1 h
theorem few_all (s : ByteArray) (n : Nat) (h : s.size ≤ n) : s.extract 0 n = s := by
 apply qf3; rw [few_data, List.take_of_length_le (by rw [qad]; exact h)]
theorem qbv {w : World} {base : Nat} {e : TypeId} {sz n : Nat} {v : Value} {xs : List Value} (h : w.ownsRow base e sz v n xs) (hn : 0 < n) : ∃ g cap, v = .slice (some ⟨g, 0, none⟩) n cap ∧ base ≤ g ∧ n ≤ cap ∧ g < w.heap.size := by
 have hl := h.lt
 rcases h.2 with ⟨_, h0⟩ | ⟨g, cap, cur, rfl, hg, _, hc, _⟩
 · omega
 · exact ⟨g, cap, rfl, hg, hc, (hl g rfl).2⟩
theorem qbn (l : List Nat) : (bs l).data.toList = l.map UInt8.ofNat := by simp [bs, strOfNums]
theorem qfp (a b : List Nat) : bs a ++ bs b = bs (a ++ b) := by
 apply qf3
 rw [qbn, List.map_append, ← qbn, ← qbn]
 simp [ByteArray.data_append]
theorem qco (l : List Nat) : (bs l).size = l.length := by rw [← qad, qbn, List.length_map]
theorem ofNat_map (q : List UInt8) : (q.map UInt8.toNat).map UInt8.ofNat = q := by simp [Function.comp_def]
def ln (ns : List Nat) (i : Nat) : Nat := ns.getD i 0
def usedK (ns : List Nat) : Nat → Nat
 | 0 => 0
 | k + 1 => usedK ns k + if 0 < ln ns k then 1 else 0
def partP (ns : List Nat) (p : Nat → Bool) : Nat → Nat
 | 0 => 0
 | k + 1 => partP ns p k + if 0 < ln ns k ∧ p k = true then 2 ^ (15 - ln ns k) else 0
def all15 (ns : List Nat) : Prop := ∀ n ∈ ns, n ≤ 15
theorem all15.at {ns : List Nat} (h : all15 ns) (i : Nat) : ln ns i ≤ 15 := by
 unfold ln
 rw [List.getD_eq_getElem?_getD]
 by_cases hi : i < ns.length
 · rw [List.getElem?_eq_getElem hi]; exact h _ (List.getElem_mem hi)
 · rw [List.getElem?_eq_none (by omega)]; exact Nat.zero_le _
theorem partP_mono (ns : List Nat) {p q : Nat → Bool} (h : ∀ t, p t = true → q t = true) : ∀ k, partP ns p k ≤ partP ns q k
 | 0 => Nat.le_refl _
 | k + 1 => by
  have := partP_mono ns h k
  rw [partP, partP]
  by_cases h1 : 0 < ln ns k ∧ p k = true
  · rw [if_pos h1, if_pos ⟨h1.1, h k h1.2⟩]; omega
  · rw [if_neg h1]; omega
theorem qff (ns : List Nat) {p q : Nat → Bool} (h : ∀ t, p t = true → q t = true) (s : Nat) (hs : 0 < ln ns s) (hp : p s = false) (hq : q s = true) :
  ∀ k, s < k → partP ns p k + 2 ^ (15 - ln ns s) ≤ partP ns q k
 | 0, hk => by omega
 | k + 1, hk => by
  by_cases e : s = k
  · subst e
   have := partP_mono ns h s
   rw [partP, partP, if_neg (by rw [hp]; simp), if_pos ⟨hs, hq⟩]; omega
  · have := qff ns h s hs hp hq k (by omega)
   rw [partP, partP]
   by_cases h1 : 0 < ln ns k ∧ p k = true
   · rw [if_pos h1, if_pos ⟨h1.1, h k h1.2⟩]; omega
   · rw [if_neg h1]; omega
def allP (ns : List Nat) (k : Nat) : Nat := partP ns (fun _ => true) k
def fitB (ns : List Nat) : Bool := if usedK ns ns.length = 0 then true else if usedK ns ns.length = 1 then allP ns ns.length == 16384 else allP ns ns.length == 32768
theorem allP_pos (ns : List Nat) : ∀ k, usedK ns k = 0 → allP ns k = 0
 | 0, _ => rfl
 | k + 1, h => by
  rw [usedK] at h
  have h1 := allP_pos ns k (by omega)
  have h2 : ¬ 0 < ln ns k := fun hh => by rw [if_pos hh] at h; omega
  unfold allP at h1 ⊢
  rw [partP, h1, if_neg (by intro hh; exact h2 hh.1)]
theorem fitB_le (ns : List Nat) (h : fitB ns = true) : allP ns ns.length ≤ 32768 := by
 unfold fitB at h
 split at h
 · rename_i h0; rw [allP_pos _ _ h0]; decide
 · split at h
  · have : allP ns ns.length = 16384 := by simpa using h
   omega
  · have : allP ns ns.length = 32768 := by simpa using h
   omega
def ahead (ns : List Nat) (n s t : Nat) : Bool := decide (ln ns t < n) || (decide (ln ns t = n) && decide (t < s))
theorem qag {ns : List Nat} {n s t : Nat} : ahead ns n s t = true ↔ ln ns t < n ∨ (ln ns t = n ∧ t < s) := by unfold ahead; simp
theorem ahead_not {ns : List Nat} {n s t : Nat} : ahead ns n s t = false ↔ ¬ (ln ns t < n ∨ (ln ns t = n ∧ t < s)) := by rw [← qag]; simp
def cdK (ns : List Nat) (n s : Nat) : Nat → Nat
 | 0 => 0
 | k + 1 => cdK ns n s k + if 0 < ln ns k ∧ ahead ns n s k = true then 2 ^ (n - ln ns k) else 0
def cd (ns : List Nat) (n s : Nat) : Nat := cdK ns n s ns.length
theorem cdK_le (ns : List Nat) (n s : Nat) (hn : n ≤ 15) : ∀ k, cdK ns n s k ≤ k * 16384
 | 0 => Nat.zero_le _
 | k + 1 => by
  have := cdK_le ns n s hn k
  rw [cdK]
  by_cases h : 0 < ln ns k ∧ ahead ns n s k = true
  · rw [if_pos h]
   have h14 : 2 ^ (n - ln ns k) ≤ 16384 := Nat.pow_le_pow_right (n := 2) (i := n - ln ns k) (j := 14) (by decide) (by omega)
   omega
  · rw [if_neg h, Nat.add_zero, Nat.succ_mul]; exact Nat.le_trans this (Nat.le_add_right _ _)
theorem qgj (ns : List Nat) (n s : Nat) (hn : n ≤ 15) : ∀ k, cdK ns n s k * 2 ^ (15 - n) = partP ns (ahead ns n s) k
 | 0 => by simp [cdK, partP]
 | k + 1 => by
  rw [cdK, partP, Nat.add_mul, qgj ns n s hn k]
  congr 1
  by_cases h : 0 < ln ns k ∧ ahead ns n s k = true
  · rw [if_pos h, if_pos h, ← Nat.pow_add]
   congr 1
   have : ln ns k ≤ n := by
    have := qag.1 h.2
    omega
   omega
  · rw [if_neg h, if_neg h]; simp
theorem ahead_self (ns : List Nat) (s : Nat) : ahead ns (ln ns s) s s = false := by rw [ahead_not]; omega
theorem ahead_trans (ns : List Nat) (s t u : Nat) (h : ahead ns (ln ns s) s t = true) (k : ahead ns (ln ns t) t u = true) : ahead ns (ln ns s) s u = true := by
 rw [qag] at *
 omega
theorem cd_before (ns : List Nat) (h15 : all15 ns) (s t : Nat) (ht : t < ns.length) (hp : 0 < ln ns t) (h : ahead ns (ln ns s) s t = true) :
  (cd ns (ln ns t) t + 1) * 2 ^ (15 - ln ns t) ≤ cd ns (ln ns s) s * 2 ^ (15 - ln ns s) := by
 unfold cd
 rw [Nat.add_mul, qgj ns _ t (h15.at t), qgj ns _ s (h15.at s), Nat.one_mul]
 exact qff ns (fun u hu => ahead_trans ns s t u h hu) t hp (ahead_self ns t) h _ ht
theorem cd_end (ns : List Nat) (h15 : all15 ns) (s : Nat) (hs : s < ns.length) (hp : 0 < ln ns s) : (cd ns (ln ns s) s + 1) * 2 ^ (15 - ln ns s) ≤ allP ns ns.length := by
 unfold cd
 rw [Nat.add_mul, qgj ns _ s (h15.at s), Nat.one_mul]
 exact qff ns (fun _ _ => rfl) s hp (ahead_self ns s) rfl _ hs
theorem cd_lt (ns : List Nat) (h15 : all15 ns) (hf : fitB ns = true) (s : Nat) (hs : s < ns.length) (hp : 0 < ln ns s) : cd ns (ln ns s) s < 2 ^ ln ns s := by
 have h1 := cd_end ns h15 s hs hp
 have h2 := fitB_le ns hf
 have h3 := h15.at s
 have e : 32768 = 2 ^ ln ns s * 2 ^ (15 - ln ns s) := by rw [← Nat.pow_add, show ln ns s + (15 - ln ns s) = 15 by omega]
 rw [e] at h2
 have := Nat.le_of_mul_le_mul_right (Nat.le_trans h1 h2) (Nat.two_pow_pos _)
 omega
theorem ahead_total (ns : List Nat) (s t : Nat) (h : s ≠ t) : ahead ns (ln ns s) s t = true ∨ ahead ns (ln ns t) t s = true := by
 rw [qag, qag]
 omega
theorem cd_apart (ns : List Nat) (h15 : all15 ns) (s t : Nat) (ht : t < ns.length) (hp : 0 < ln ns t) (h : ahead ns (ln ns s) s t = true) : cd ns (ln ns t) t < cd ns (ln ns s) s / 2 ^ (ln ns s - ln ns t) := by
 have h1 := cd_before ns h15 s t ht hp h
 have hle : ln ns t ≤ ln ns s := by have := qag.1 h; omega
 have h3 := h15.at s
 have e : 2 ^ (15 - ln ns t) = 2 ^ (ln ns s - ln ns t) * 2 ^ (15 - ln ns s) := by rw [← Nat.pow_add]; congr 1; omega
 rw [e, ← Nat.mul_assoc] at h1
 have h4 := Nat.le_of_mul_le_mul_right h1 (Nat.two_pow_pos _)
 exact (Nat.le_div_iff_mul_le (Nat.two_pow_pos _)).2 h4
/-! ### The order in which they are reckoned -/
theorem cd_next (ns : List Nat) (n i : Nat) (hn : 0 < n) (hi : i < ns.length) : cd ns n (i + 1) = cd ns n i + if ln ns i = n then 1 else 0 := by
 have key : ∀ k, cdK ns n (i + 1) k = cdK ns n i k + if i < k ∧ ln ns i = n then 1 else 0 := by
  intro k
  induction k with
  | zero => simp [cdK]
  | succ k ih =>
   rw [cdK, cdK, ih]
   by_cases e : k = i
   · subst e
    rw [if_neg (show ¬ (k < k ∧ ln ns k = n) by omega)]
    by_cases h : ln ns k = n
    · rw [if_pos (show 0 < ln ns k ∧ ahead ns n (k + 1) k = true from ⟨by omega, qag.2 (by omega)⟩), if_neg (show ¬ (0 < ln ns k ∧ ahead ns n k k = true) from fun hh => by have := qag.1 hh.2; omega), if_pos (show k < k + 1 ∧ ln ns k = n by omega), h, Nat.sub_self]
    · rw [if_neg (show ¬ (k < k + 1 ∧ ln ns k = n) by omega)]
     by_cases h2 : 0 < ln ns k ∧ ahead ns n k k = true
     · have := qag.1 h2.2
      rw [if_pos h2, if_pos ⟨h2.1, qag.2 (by omega)⟩]; omega
     · rw [if_neg h2, if_neg (fun hh => h2 ⟨hh.1, qag.2 (by have := qag.1 hh.2; omega)⟩)]
   · have a1 : (if 0 < ln ns k ∧ ahead ns n (i + 1) k = true then 2 ^ (n - ln ns k) else 0) = if 0 < ln ns k ∧ ahead ns n i k = true then 2 ^ (n - ln ns k) else 0 := by
     by_cases h2 : 0 < ln ns k ∧ ahead ns n i k = true
     · have := qag.1 h2.2
      rw [if_pos h2, if_pos ⟨h2.1, qag.2 (by omega)⟩]
     · rw [if_neg h2, if_neg (fun hh => h2 ⟨hh.1, qag.2 (by have := qag.1 hh.2; omega)⟩)]
    rw [a1]
    by_cases h3 : i < k ∧ ln ns i = n
    · rw [if_pos h3, if_pos (show i < k + 1 ∧ ln ns i = n by omega)]; omega
    · rw [if_neg h3, if_neg (show ¬ (i < k + 1 ∧ ln ns i = n) by omega)]
     omega
 unfold cd
 rw [key]
 by_cases h : ln ns i = n
 · rw [if_pos ⟨hi, h⟩, if_pos h]
 · rw [if_neg (fun hh => h hh.2), if_neg h]
theorem cd_round (ns : List Nat) (n : Nat) : cd ns (n + 1) 0 = 2 * cd ns n ns.length := by
 have key : ∀ k, k ≤ ns.length → cdK ns (n + 1) 0 k = 2 * cdK ns n ns.length k := by
  intro k
  induction k with
  | zero => intro _; simp [cdK]
  | succ k ih =>
   intro hk
   rw [cdK, cdK, ih (by omega)]
   have a1 : ahead ns (n + 1) 0 k = ahead ns n ns.length k := by
    rw [Bool.eq_iff_iff, qag, qag]; omega
   rw [a1]
   by_cases h : 0 < ln ns k ∧ ahead ns n ns.length k = true
   · rw [if_pos h, if_pos h]
    have hle : ln ns k ≤ n := by have := qag.1 h.2; omega
    rw [show n + 1 - ln ns k = n - ln ns k + 1 by omega, Nat.pow_succ]; omega
   · rw [if_neg h, if_neg h]; omega
 exact key _ (Nat.le_refl _)
theorem cd_zero (ns : List Nat) : cd ns 0 ns.length = 0 := by
 have key : ∀ k, cdK ns 0 ns.length k = 0 := by
  intro k
  induction k with
  | zero => rfl
  | succ k ih =>
   rw [cdK, ih, if_neg]
   intro h
   have := qag.1 h.2
   omega
 exact key _
end Go.Proofs.YthkppipdflmekaaGreat
