/- Contract of huff.Plant. -/
import Derived.Test.YthkppipdflmekaaGreatQDCut
import Derived.Test.YthkppipdflmekaaGreatQHuffM
import Derived.Laws.OwnMore
import Derived.Deep.AppendLies
import Derived.OneCell
import Derived.Deep.DrawnRows
set_option maxRecDepth 100000
set_option maxHeartbeats 1000000
namespace Go.Proofs.YthkppipdflmekaaGreat
open Go.RowKit
set_option linter.unusedVariables false
def trC (br : Nat → Bool → Int) (n : Nat) : List Value := (List.range (n * 2)).map fun j => .int .i64 (br (j / 2) (j % 2 == 1))
theorem qh0 (br : Nat → Bool → Int) (n : Nat) : (trC br n).length = n * 2 := by simp [trC]
theorem qub (br : Nat → Bool → Int) (n u : Nat) (b : Bool) (hu : u < n) : (trC br n)[u * 2 + b.toNat]? = some (.int .i64 (br u b)) := by
 have hb : b.toNat < 2 := Bool.toNat_lt b
 unfold trC
 rw [List.getElem?_map, List.getElem?_range (by omega)]
 simp only [Option.map_some]
 rw [show (u * 2 + b.toNat) / 2 = u by omega, show (u * 2 + b.toNat) % 2 = b.toNat by omega]
 cases b <;> rfl
theorem q1j (br : Nat → Bool → Int) (n u : Nat) (b : Bool) (x : Int) (hu : u < n) : (trC br n).set (u * 2 + b.toNat) (.int .i64 x) = trC (qb7 br u b x) n := by
 have hb : b.toNat < 2 := Bool.toNat_lt b
 apply List.ext_getElem?
 intro j
 by_cases hj : j < n * 2
 · rw [List.getElem?_set]
   by_cases e : u * 2 + b.toNat = j
   · subst e
     rw [if_pos rfl, if_pos (by rw [qh0]; omega), qub _ _ _ _ hu]
     unfold qb7; rw [if_pos ⟨rfl, rfl⟩]
   · rw [if_neg e]
     unfold trC
     rw [List.getElem?_map, List.getElem?_map, List.getElem?_range hj]
     simp only [Option.map_some]
     unfold qb7
     rw [if_neg]
     rintro ⟨h1, h2⟩
     apply e
     rw [← h1, ← h2]
     rcases Nat.mod_two_eq_zero_or_one j with h | h <;> simp [h] <;> omega
 · rw [List.getElem?_eq_none (by rw [List.length_set, qh0]; omega), List.getElem?_eq_none (by rw [qh0]; omega)]
theorem qx0 (br : Nat → Bool → Int) (n : Nat) (h : ∀ c, br n c = 0) : trC br n ++ [.int .i64 0, .int .i64 0] = trC br (n + 1) := by
 unfold trC
 rw [show (n + 1) * 2 = n * 2 + 1 + 1 by omega, List.range_succ, List.range_succ, List.map_append, List.map_append]
 simp only [List.map_cons, List.map_nil, List.append_assoc, List.cons_append, List.nil_append]
 rw [show n * 2 / 2 = n by omega, show (n * 2 + 1) / 2 = n by omega, h, h]
structure TreeIn (w : World) (B gt gb cap n : Nat) (br : Nat → Bool → Int) : Prop where
 top : w.heap[gt]? = some (.cells #[.slice (some ⟨gb, 0, none⟩) n cap] 210 (0, 0))
 low : B ≤ gt
 row : w.ownsRow B 207 2 (.slice (some ⟨gb, 0, none⟩) n cap) n (trC br n)
def qjm (w : World) (B gt n : Nat) (br : Nat → Bool → Int) : Prop := ∃ gb cap, TreeIn w B gt gb cap n br
theorem TreeIn.ne {w : World} {B gt gb cap n k : Nat} {br : Nat → Bool → Int} {c : Array Value} {t : TypeId} (h : TreeIn w B gt gb cap n br) (hk : w.heap[k]? = some (.cells c t (0, 0))) (ht : t ≠ 207) : k ≠ gb := by
 rcases h.row.2 with ⟨h', _⟩ | ⟨g', cap', cur, h', _, hg, _⟩
 · simp at h'
 · simp only [Value.slice.injEq, Option.some.injEq, Addr.mk.injEq, and_true, true_and] at h'
   obtain ⟨rfl, rfl⟩ := h'
   rintro rfl
   rw [hk] at hg
   simp only [Option.some.injEq, Obj.cells.injEq] at hg
   exact ht hg.2.1
theorem TreeIn.ne0 {w : World} {B gt gb cap n : Nat} {br : Nat → Bool → Int} (h : TreeIn w B gt gb cap n br) : gt ≠ gb := h.ne h.top (by decide)
theorem TreeIn.top0 {w : World} {B gt gb cap n : Nat} {br : Nat → Bool → Int} (h : TreeIn w B gt gb cap n br) : w.cell? ⟨gt, 0, none⟩ = some (.slice (some ⟨gb, 0, none⟩) n cap) := by rw [cell_of_row _ _ _ _ _ _ h.top]; rfl
theorem TreeIn.free0 {w : World} {B gt gb cap n : Nat} {br : Nat → Bool → Int} (h : TreeIn w B gt gb cap n br) : w.frozen? ⟨gt, 0, none⟩ = false := frozen_of_row _ _ _ _ _ h.top
theorem TreeIn.at {w : World} {B gt gb cap n u : Nat} {b : Bool} {br : Nat → Bool → Int} (h : TreeIn w B gt gb cap n br) (hu : u < n) : w.cell? ⟨gb, u * 2 + b.toNat, none⟩ = some (.int .i64 (br u b)) := by
 have hb : b.toNat < 2 := Bool.toNat_lt b
 rw [h.row.cellAt _ (by omega), qub _ _ _ _ hu]
theorem TreeIn.set {w : World} {B gt gb cap n u : Nat} {b : Bool} {br : Nat → Bool → Int} (h : TreeIn w B gt gb cap n br) (x : Int) (hu : u < n) : TreeIn (w.setCell ⟨gb, u * 2 + b.toNat, none⟩ (.int .i64 x)) B gt gb cap n (qb7 br u b x) :=
 ⟨by rw [heap_setCell_other _ _ _ _ h.ne0]; exact h.top, h.low, by have := (h.row.stored (u * 2 + b.toNat) (.int .i64 x)).1; rwa [q1j _ _ _ _ _ hu] at this⟩
theorem TreeIn.drew {w : World} {B gt gb cap n : Nat} {br : Nat → Bool → Int} (h : TreeIn w B gt gb cap n br) : TreeIn w.drew B gt gb cap n br := ⟨h.top, h.low, h.row⟩
theorem TreeIn.lowb {w : World} {B gt gb cap n : Nat} {br : Nat → Bool → Int} (h : TreeIn w B gt gb cap n br) : B ≤ gb := (h.row.lt gb rfl).1
theorem TreeIn.lt {w : World} {B gt gb cap n : Nat} {br : Nat → Bool → Int} (h : TreeIn w B gt gb cap n br) : gt < w.heap.size := (Array.getElem?_eq_some_iff.1 h.top).1
theorem TreeIn.kept {w w' : World} {B gt gb cap n : Nat} {br : Nat → Bool → Int} (h : TreeIn w B gt gb cap n br) (hb : Below w.heap.size w w') : TreeIn w' B gt gb cap n br := by
 refine ⟨(hb.block gt h.lt).trans h.top, h.low, h.row.1, ?_⟩
 rcases h.row.2 with h' | ⟨g', cap', cur, h', hl, hg, rest⟩
 · exact .inl h'
 · exact .inr ⟨g', cap', cur, h', hl, (hb.block g' (Array.getElem?_eq_some_iff.1 hg).1).trans hg, rest⟩
theorem qjm.kept {w w' : World} {B gt n : Nat} {br : Nat → Bool → Int} (h : qjm w B gt n br) (hb : Below w.heap.size w w') : qjm w' B gt n br := by
 obtain ⟨gb, cap, h⟩ := h; exact ⟨gb, cap, h.kept hb⟩
theorem TreeIn.more {w w1 : World} {B gt gb cap n : Nat} {br : Nat → Bool → Int} {o : Obj} {v : Value} (h : TreeIn w B gt gb cap n br) (hz : ∀ c, br n c = 0) (hg : (w.alloc o).grownBy w1 (some gb))
    (hown : w1.ownsRow B 207 2 v (n + 1) (trC br n ++ [.int .i64 0, .int .i64 0])) : ∃ gb' cap', v = .slice (some ⟨gb', 0, none⟩) (n + 1) cap' ∧ TreeIn (w1.setCell ⟨gt, 0, none⟩ v) B gt gb' cap' (n + 1) br := by
 rw [qx0 _ _ hz] at hown
 obtain ⟨gb', cap', rfl, hl, hlt⟩ := hown.form (by omega)
 have ht : w1.heap[gt]? = some (.cells #[.slice (some ⟨gb, 0, none⟩) n cap] 210 (0, 0)) := by
  rw [hg.block gt (by rw [World.size_alloc]; exact Nat.lt_succ_of_lt h.lt) (fun e => h.ne0 (by cases e; rfl)), heap_alloc_old _ _ h.lt]; exact h.top
 have hne : gb' ≠ gt := by
  rcases hown.2 with ⟨h', _⟩ | ⟨g', cap', cur, h', _, hgg, _⟩
  · simp at h'
  · simp only [Value.slice.injEq, Option.some.injEq, Addr.mk.injEq, and_true, true_and] at h'
    obtain ⟨rfl, rfl⟩ := h'
    rintro rfl
    rw [ht] at hgg
    simp only [Option.some.injEq, Obj.cells.injEq] at hgg
    exact absurd hgg.2.1 (by decide)
 refine ⟨gb', cap', rfl, ?_, h.low, ownsRow_setCell_other hown (by simp [Value.ownBlock, hne]) _⟩
 rw [heap_setCell_same _ _ _ _ _ _ ht]; rfl
theorem q4v (x i : Nat) (hx : x < 4294967296) : bits .and .u32 ((x : Int) / 2 ^ i) 1 = ((x.testBit i).toNat : Int) := by
 have e : (x : Int) / 2 ^ i = ((x / 2 ^ i : Nat) : Int) := by simp
 have hlt : x / 2 ^ i < 4294967296 := Nat.lt_of_le_of_lt (Nat.div_le_self _ _) hx
 rw [e, show (1 : Int) = ((1 : Nat) : Int) by rfl, u32_and_nat _ _ hlt (by decide), Nat.and_one_is_mod, Nat.toNat_testBit]
theorem qdv (ns : List Nat) (s k : Nat) (hk : k < ln ns s) : (qau ns s).take k ++ [(cdOf ns s).testBit (ln ns s - 1 - k)] = (qau ns s).take (k + 1) := by
 rw [List.take_add_one]
 congr 1
 unfold qau qdg
 rw [List.getElem?_map, List.getElem?_range hk]
 rfl
theorem Tryz.info2int : (Tryz.prog.info? 207).map (fun i => (i.zero, i.size, i.bytes)) = some (some (.agg #[.int .i64 0, .int .i64 0]), 2, 16) := by kernel_rfl
theorem TreeI.open_ {ns : List Nat} {A E : Nat → Prop} {n s u k : Nat} {br : Nat → Bool → Int} {path : Nat → List Bool} (h : TreeI ns A E n br path) (hs : E s) (hu : u < n) (hp : path u = (qau ns s).take k) (hk : k + 1 < ln ns s)
    (hpA : ∀ t, A t → qau ns t <+: qau ns s → False) (hne : br u ((cdOf ns s).testBit (ln ns s - 1 - k)) ≠ 0) : ∃ v : Nat, br u ((cdOf ns s).testBit (ln ns s - 1 - k)) = (v : Int) ∧ v < n ∧ path v = (qau ns s).take (k + 1) := by
 have e := qdv ns s k (by omega)
 by_cases h1 : 0 < br u ((cdOf ns s).testBit (ln ns s - 1 - k))
 · obtain ⟨v, h2, h3, h4⟩ := h.up u _ hu h1
   exact ⟨v, h2, h3, by rw [h4, hp, e]⟩
 · have hlt : br u ((cdOf ns s).testBit (ln ns s - 1 - k)) < 0 := by omega
   obtain ⟨t, h2, h3, h4⟩ := h.leaf u _ hu hlt
   exact (hpA t h2 (by rw [h4, hp, e]; exact List.take_prefix _ _)).elim
theorem TreeI.shut_ {ns : List Nat} {A E : Nat → Prop} {n s u k : Nat} {br : Nat → Bool → Int} {path : Nat → List Bool} (h : TreeI ns A E n br path) (hu : u < n) (hp : path u = (qau ns s).take k) (hk : k + 1 = ln ns s)
    (hpA : ∀ t, A t → qau ns t <+: qau ns s → False) (hpE : ∀ t, E t → qau ns s <+: qau ns t → t = s) : path u ++ [(cdOf ns s).testBit 0] = qau ns s ∧ br u ((cdOf ns s).testBit 0) = 0 := by
 have e := qdv ns s k (by omega)
 rw [show ln ns s - 1 - k = 0 by omega, ← hp, List.take_of_length_le (by rw [qai]; omega)] at e
 refine ⟨e, ?_⟩
 by_cases h1 : 0 < br u ((cdOf ns s).testBit 0)
 · obtain ⟨v, h2, h3, h4⟩ := h.up u _ hu h1
   obtain ⟨t, h5, h6, h7⟩ := h.ext v h3 (by omega)
   rw [h4, e] at h6 h7
   obtain rfl := hpE t h5 h6
   exact absurd rfl h7
 · by_cases h2 : br u ((cdOf ns s).testBit 0) < 0
   · obtain ⟨t, h2, h3, h4⟩ := h.leaf u _ hu h2
     exact (hpA t h2 (by rw [h4, e]; exact List.prefix_refl _)).elim
   · omega
def Way (ns : List Nat) (A E : Nat → Prop) (s n0 B gt u k : Nat) (W w : World) : Prop := ∃ n br path gb cap, TreeI ns A E n br path ∧ (∀ v, n ≤ v → ∀ c, br v c = 0) ∧ TreeIn w B gt gb cap n br ∧ u < n ∧ path u = (qau ns s).take k ∧ n ≤ n0 + k ∧ Below B W w
theorem q3w (ns : List Nat) (A E : Nat → Prop) (n0 s B gt : Nat) (br0 : Nat → Bool → Int) (path0 : Nat → List Bool) (w : World) (hT : TreeI ns A E n0 br0 path0) (hz : ∀ v, n0 ≤ v → ∀ c, br0 v c = 0) (hM : qjm w B gt n0 br0)
    (hs : E s) (hpA : ∀ t, A t → qau ns t <+: qau ns s → False) (hpE : ∀ t, E t → qau ns s <+: qau ns t → t = s) (hl1 : 0 < ln ns s) (hl2 : ln ns s ≤ 15) (hx : cdOf ns s < 4294967296) (hn0 : n0 ≤ 10000) (hs0 : s < 10000) :
    Calls Tryz.prog 135 #[.pointer (some ⟨gt, 0, none⟩), .agg #[.int .u32 (cdOf ns s : Int), .int .i64 (ln ns s : Int)], .int .i64 (s : Int)] w fun e w' => e = .returned (.tuple #[]) ∧
     ∃ n br path, TreeI ns (fun t => A t ∨ t = s) E n br path ∧ (∀ v, n ≤ v → ∀ c, br v c = 0) ∧ qjm w' B gt n br ∧ n ≤ n0 + 15 ∧ Below B w w' := by
 obtain ⟨gb0, cap0, hM⟩ := hM
 have HL : Hid (B ≤ w.heap.size) := Nat.le_trans hM.low (Nat.le_of_lt hM.lt)
 have hgN := hM.lt
 have HW : Hid (Way ns A E s n0 B gt 0 0 w (w.alloc (.cells #[.int .u32 (cdOf ns s : Int), .int .i64 (ln ns s : Int)] 164))) :=
  ⟨n0, br0, path0, gb0, cap0, hT, hz, hM.kept ((Below.refl _ w).alloc (Nat.le_refl _) _), hT.pos, by rw [hT.root]; rfl, by omega, (Below.refl _ w).alloc HL.out _⟩
 have HN : Hid ((w.alloc (.cells #[.int .u32 (cdOf ns s : Int), .int .i64 (ln ns s : Int)] 164)).heap[w.heap.size]? = some (.cells #[.int .u32 (cdOf ns s : Int), .int .i64 (ln ns s : Int)] 164 (0, 0))) := heap_alloc_new w _
 have HA : Hid (∀ t, A t → qau ns t <+: qau ns s → False) := hpA
 have HE : Hid (∀ t, E t → qau ns s <+: qau ns t → t = s) := hpE
 have HB : Hid (∀ i : Nat, bits .and .u32 ((cdOf ns s : Int) / 2 ^ i) 1 = (((cdOf ns s).testBit i).toNat : Int)) := fun i => q4v _ i hx
 obtain ⟨i0, hi0, hz0, hz1, hz2⟩ := info_parts Tryz.info2int
 clear hT hz hM hpA hpE
 go_enter Tryz.func135, Tryz.ntmps135
 go_wp2
 generalize hW1 : w.alloc (.cells #[.int .u32 (cdOf ns s : Int), .int .i64 (ln ns s : Int)] 164) = W1 at *
 clear hW1
 go_loopw [6, 7] (fun a i wr => ∃ u k : Nat, k < ln ns s ∧ a = .int .i64 (u : Int) ∧ i = .int .i64 ((ln ns s - 1 - k : Nat) : Int) ∧ Way ns A E s n0 B gt u k w wr ∧ wr.heap[w.heap.size]? = some (.cells #[.int .u32 (cdOf ns s : Int), .int .i64 (ln ns s : Int)] 164 (0, 0))) (fun _ i _ => (intOf i).toNat)
 case atStart => exact ⟨0, 0, by omega, rfl, by go_num, HW.out, HN.out⟩
 case round =>
  clear HW HN
  obtain ⟨u, k, hk, rfl, rfl, hW, hN⟩ := hrel
  obtain ⟨n, br, path, gb, cap, hT, hz, hM, hu, hp, hn, hbl⟩ := hW
  have cx : wr.cell? ⟨w.heap.size, 0, none⟩ = some (.int .u32 (cdOf ns s : Int)) := by rw [cell_of_row _ _ _ _ _ _ hN]; rfl
  have hNb := hM.ne hN (by decide)
  have hNt : w.heap.size ≠ gt := by omega
  have ct := hM.top0
  have ft := hM.free0
  have hui : (u : Int) < (n : Int) := by omega
  have hu0 : (0 : Int) ≤ (u : Int) := by omega
  by_cases hk1 : k + 1 < ln ns s
  · have hbit := HB.out (ln ns s - 1 - k)
    have cb := hM.at (b := (cdOf ns s).testBit (ln ns s - 1 - k)) hu
    have fb := hM.row.frozenAt (u * 2 + ((cdOf ns s).testBit (ln ns s - 1 - k)).toNat)
    have hb2 : ((cdOf ns s).testBit (ln ns s - 1 - k)).toNat < 2 := Bool.toNat_lt _
    have hip : (0 : Int) < ((ln ns s - 1 - k : Nat) : Int) := by omega
    have hip2 : 0 < ln ns s - 1 - k := by omega
    have hi15 : ln ns s - 1 - k < 15 := by omega
    by_cases h0 : br u ((cdOf ns s).testBit (ln ns s - 1 - k)) = 0
    · rw [h0] at cb
      have hTn := hT.node (hz n (Nat.le_refl _)) u ((cdOf ns s).testBit (ln ns s - 1 - k)) hu h0 ⟨s, hs, by rw [hp, qdv _ _ _ hk]; exact List.take_prefix _ _, fun e => by
       have := congrArg List.length e
       rw [hp, qdv _ _ _ hk, List.length_take, qai] at this
       omega⟩
      generalize hi : ln ns s - 1 - k = i at *
      generalize hb : (cdOf ns s).testBit i = b at *
      generalize hbv : b.toNat = bv at *
      have HMs : Hid (TreeIn (wr.setCell ⟨gb, u * 2 + bv, none⟩ (.int .i64 (n : Int))).drew B gt gb cap n (qb7 br u b (n : Int))) := by have := (hM.set (b := b) (n : Int) hu).drew; rwa [hbv] at this
      have HBs : Hid (Below B w (wr.setCell ⟨gb, u * 2 + bv, none⟩ (.int .i64 (n : Int))).drew) := (hbl.setCell hM.lowb _).drew
      have HNs : Hid ((wr.setCell ⟨gb, u * 2 + bv, none⟩ (.int .i64 (n : Int))).drew.heap[w.heap.size]? = some (.cells #[.int .u32 (cdOf ns s : Int), .int .i64 (ln ns s : Int)] 164 (0, 0))) := (heap_setCell_other _ _ _ _ hNb).trans hN
      have HTn : Hid (TreeI ns A E (n + 1) (qb7 br u b ↑n) fun v => if v = n then path u ++ [b] else path v) := hTn
      have HZ : Hid (∀ v, n ≤ v → ∀ c, qb7 br u b (n : Int) v c = 0) := fun v hv c => by unfold qb7; rw [if_neg (by omega)]; exact hz v hv c
      clear hTn hz hT hN hM hbl
      go_wp2
      go_region
      generalize World.drew (World.setCell wr _ _) = W2 at *
      clear ct ft cb fb cx
      have ct := HMs.out.top0
      have ft := HMs.out.free0
      have HRow : Hid (W2.ownsRow B 207 2 (.slice (some ⟨gb, 0, none⟩) n cap) n (trC (qb7 br u b (n : Int)) n)) := HMs.out.row
      have hgl := HMs.out.lt
      go_wp2_with (at_builtin; refine wpList_append_own _ rfl _ _ 208 rfl B 207 i0 (.agg #[.int .i64 0, .int .i64 0]) 2 16 Tryz.underlying208 hi0 hz0 hz1 hz2 rfl (by decide) _ _ _ rfl (HRow.out.alloc _) ⟨W2.heap.size, 0, none⟩ 1 1 [.int .i64 0, .int .i64 0] rfl rfl ?c1 ?c2 ?c3 ?c4 ?c5 ?_)
      case c1 =>
       intro j y hy
       have e : (⟨W2.heap.size, 0, none⟩ : Addr).add j = ⟨W2.heap.size, j, none⟩ := by unfold Addr.add; split <;> simp_all
       rw [e, cell_of_row _ _ _ _ _ _ (heap_alloc_new W2 (.cells #[.int .i64 0, .int .i64 0] 207))]
       simpa using hy
      case c2 => intro y hy; simp at hy; subst hy; rfl
      case c3 => unfold maxLen; omega
      case c4 => omega
      case c5 => rw [World.size_alloc]; exact Nat.le_trans (qfc HBs.out HL.out) (Nat.le_succ _)
      intro v1 w1 hown hg hnil
      obtain ⟨gb1, cap1, rfl, hM1⟩ := HMs.out.more (HZ.out n (Nat.le_refl _)) hg hown
      have hne1 := hM1.ne0
      have hne2 : gb1 ≠ gt := fun e => hne1 e.symm
      have HM1 : Hid (TreeIn _ _ _ _ _ _ _) := hM1
      have ft1 : w1.frozen? ⟨gt, 0, none⟩ = false := by
       have := (World.frozen?_of_block (w := W2) (w' := w1) (a := ⟨gt, 0, none⟩) (by
        rw [hg.block gt (by rw [World.size_alloc]; omega) (fun e => HMs.out.ne0 (by cases e; rfl)), heap_alloc_old _ _ hgl]))
       rw [this]; exact ft
      have ct1 : w1.cell? ⟨gt, 0, none⟩ = some (.slice (some ⟨gb, 0, none⟩) n cap) := hg.cell (by rw [← ct]; exact World.cell?_of_block (heap_alloc_old _ _ hgl)) (fun e => HMs.out.ne0 (by cases e; rfl))
      have cb1 : w1.cell? ⟨gb1, u * 2 + bv, none⟩ = some (.int .i64 (n : Int)) := by
       have h1 := hown.cellAt (u * 2 + bv) (by omega)
       rw [h1, List.getElem?_append_left (by rw [qh0]; omega), ← hbv, qub _ _ _ _ hu]
       unfold qb7; rw [if_pos ⟨rfl, rfl⟩]
      have HB1 : Hid (Below B w (w1.setCell ⟨gt, 0, none⟩ (.slice (some ⟨gb1, 0, none⟩) (n + 1) cap1))) :=
       ((HBs.out.alloc (qfc HBs.out HL.out) _).grown hg (by rw [World.size_alloc]; exact Nat.le_trans (qfc HBs.out HL.out) (Nat.le_succ _)) (fun k hk => by cases hk; exact HMs.out.lowb)).setCell HMs.out.low _
      have hNW : w.heap.size < W2.heap.size := by have := (Array.getElem?_eq_some_iff.1 HNs.out).1; exact this
      have HN1 : Hid ((w1.setCell ⟨gt, 0, none⟩ (.slice (some ⟨gb1, 0, none⟩) (n + 1) cap1)).heap[w.heap.size]? = some (.cells #[.int .u32 (cdOf ns s : Int), .int .i64 (ln ns s : Int)] 164 (0, 0))) := by
       unfold Hid
       rw [heap_setCell_other _ _ _ _ hNt, hg.block _ (by rw [World.size_alloc]; omega) (fun e => hNb (by cases e; rfl)), heap_alloc_old _ _ hNW]; exact HNs.out
      have HX : Hid (Way ns A E s n0 B gt n (k + 1) w (w1.setCell ⟨gt, 0, none⟩ (.slice (some ⟨gb1, 0, none⟩) (n + 1) cap1))) :=
       ⟨n + 1, _, _, gb1, cap1, HTn.out, fun v hv c => HZ.out v (by omega) c, HM1.out, by omega, by
        show (if n = n then path u ++ [b] else path n) = _
        rw [if_pos rfl, hp, ← hb, ← hi, qdv _ _ _ hk], by omega, HB1.out⟩
      clear hM1 hown hg hnil ct ft HMs HBs HNs HTn HZ HRow
      have hui1 : (u : Int) < ((n + 1 : Nat) : Int) := by omega
      have hui2 : (u : Int) < (n : Int) + 1 := by omega
      go_wp2
      go_roundw
      case rel => exact ⟨n, k + 1, by omega, rfl, by go_num, HX.out, HN1.out⟩
      case measure => simp [intOf]; omega
    · obtain ⟨v, hv1, hv2, hv3⟩ := hT.open_ hs hu hp hk1 HA.out h0
      rw [hv1] at cb h0
      have hv0 : ((v : Int) == 0) = false := by simp; omega
      have HX : Hid (Way ns A E s n0 B gt v (k + 1) w wr) := ⟨n, br, path, gb, cap, hT, hz, hM, hv2, hv3, by omega, hbl⟩
      have HN1 : Hid (wr.heap[w.heap.size]? = some (.cells #[.int .u32 (cdOf ns s : Int), .int .i64 (ln ns s : Int)] 164 (0, 0))) := hN
      clear hT hz hM hbl hN hv1 hv3 hp
      generalize hi : ln ns s - 1 - k = i at *
      generalize hb : (cdOf ns s).testBit i = b at *
      generalize hbv : b.toNat = bv at *
      go_wp2
      go_roundw
      case rel => exact ⟨v, k + 1, by omega, rfl, by go_num, HX.out, HN1.out⟩
      case measure => simp [intOf]; omega
  · have hk2 : k + 1 = ln ns s := by omega
    obtain ⟨hsh, h0⟩ := hT.shut_ hu hp hk2 HA.out HE.out
    have hbit := HB.out 0
    rw [Int.pow_zero, Int.ediv_one] at hbit
    have cb := hM.at (b := (cdOf ns s).testBit 0) hu
    have fb := hM.row.frozenAt (u * 2 + ((cdOf ns s).testBit 0).toNat)
    have hb2 : ((cdOf ns s).testBit 0).toNat < 2 := Bool.toNat_lt _
    have hi0' : ln ns s - 1 - k = 0 := by omega
    rw [hi0']
    have HTn : Hid (TreeI ns (fun t => A t ∨ t = s) E n (qb7 br u ((cdOf ns s).testBit 0) (-1 - (s : Int))) path) := hT.code u _ s hu hsh h0 HA.out
    have HZ : Hid (∀ v, n ≤ v → ∀ c, qb7 br u ((cdOf ns s).testBit 0) (-1 - (s : Int)) v c = 0) := fun v hv c => by unfold qb7; rw [if_neg (by omega)]; exact hz v hv c
    have HMs : Hid (qjm (wr.setCell ⟨gb, u * 2 + ((cdOf ns s).testBit 0).toNat, none⟩ (.int .i64 (-1 - (s : Int)))).drew B gt n (qb7 br u ((cdOf ns s).testBit 0) (-1 - (s : Int)))) := ⟨gb, cap, (hM.set (-1 - (s : Int)) hu).drew⟩
    have HBs : Hid (Below B w (wr.setCell ⟨gb, u * 2 + ((cdOf ns s).testBit 0).toNat, none⟩ (.int .i64 (-1 - (s : Int)))).drew) := (hbl.setCell hM.lowb _).drew
    clear hT hz hM hbl hN hsh h0
    generalize (cdOf ns s).testBit 0 = b at *
    generalize hbv : b.toNat = bv at *
    go_wp2
    go_region
    go_wp2
    exact bodyPost_end (results_none rfl _ _ _) rfl ⟨rfl, n, _, path, HTn.out, HZ.out, HMs.out, by omega, HBs.out⟩
theorem CR.since {w w' : World} {g n : Nat} {b l : Nat → Nat} (h : CR w g n b l) (hb : Below w.heap.size w w') : CR w' g n b l := h.of_block (hb.block g h.lt)
def Used (ns : List Nat) (k : Nat) : Nat → Prop := fun t => t < k ∧ 0 < ln ns t
theorem q0n (ns : List Nat) (k : Nat) (h : 0 < ln ns k) : (fun t => Used ns k t ∨ t = k) = Used ns (k + 1) := funext fun t => propext (by
 unfold Used
 by_cases e : t = k
 · subst e; simp [h]
 · simp [e]; omega)
theorem q3x (ns : List Nat) (k : Nat) (h : ¬ 0 < ln ns k) : Used ns k = Used ns (k + 1) := funext fun t => propext (by
 unfold Used
 by_cases e : t = k
 · subst e; simp; omega
 · omega)
theorem qxr (ns : List Nat) : Used ns 0 = fun _ => False := funext fun t => propext (by unfold Used; simp)
def qao (w : World) (B gt : Nat) (ns : List Nat) (k : Nat) : Prop := ∃ n br path, TreeI ns (Used ns k) (Used ns ns.length) n br path ∧ (∀ v, n ≤ v → ∀ c, br v c = 0) ∧ qjm w B gt n br ∧ n ≤ 1 + 15 * k
theorem qao.kept {w w' : World} {B gt k : Nat} {ns : List Nat} (h : qao w B gt ns k) (hb : Below w.heap.size w w') : qao w' B gt ns k := by
 obtain ⟨n, br, path, h1, h2, h3, h4⟩ := h
 exact ⟨n, br, path, h1, h2, h3.kept hb, h4⟩
theorem qwb (W : World) : (Instr.makeSlice 208 (.int .i64 1) (.int .i64 1)).run Tryz.prog W = .ok (.slice (some ⟨W.heap.size, 0, none⟩) 1 1) (W.alloc (.cells (madeCells #[.int .i64 0, .int .i64 0] 2) 207)) := by
 obtain ⟨i0, hi, hz0, hz1, hz2⟩ := info_parts Tryz.info2int
 have h := run_make (P := Tryz.prog) W 208 207 i0 _ Tryz.underlying208 hi hz0 .i64 .i64 1 1 (by omega) (by omega) (by rw [hz2]; omega) (by omega)
 rw [hz1] at h
 simpa [Value.cells] using h
theorem qo4 (W : World) (ns : List Nat) : qao ((W.alloc (.cells (madeCells #[.int .i64 0, .int .i64 0] 2) 207)).alloc (.cells #[.slice (some ⟨W.heap.size, 0, none⟩) 1 1] 210)) W.heap.size (W.heap.size + 1) ns 0 := by
 refine ⟨1, fun _ _ => 0, fun _ => [], ?_, fun _ _ _ => rfl, ⟨W.heap.size, 1, ?_, Nat.le_succ _, ?_⟩, by omega⟩
 · rw [qxr]; exact (TreeI.start ns).more fun s h => h.elim
 · have := heap_alloc_new (W.alloc (.cells (madeCells #[.int .i64 0, .int .i64 0] 2) 207)) (.cells #[.slice (some ⟨W.heap.size, 0, none⟩) 1 1] 210)
   rw [World.size_alloc] at this
   exact this
 · have := World.ownsRow_lit (base := W.heap.size) (e := 207) (size := 2) W (madeCells #[.int .i64 0, .int .i64 0] 2) 1 (Nat.le_refl _) (by decide) (size_madeCells _ _)
   have e : (madeCells #[.int .i64 0, .int .i64 0] 2).toList = trC (fun _ _ => 0) 1 := by
    apply List.ext_getElem?
    intro j
    rcases (show j = 0 ∨ j = 1 ∨ 2 ≤ j by omega) with rfl | rfl | h
    · simp [madeCells, trC]
    · simp [madeCells, trC]
    · rw [List.getElem?_eq_none (by rw [Array.length_toList, size_madeCells]; exact h), List.getElem?_eq_none (by rw [qh0]; exact h)]
   rw [e] at this
   exact this.alloc _
theorem qvs (ns : List Nat) (h15 : qbh ns) (hf : fitB ns = true) (hl : ns.length ≤ 320) (k B gt : Nat) (hk : k < ns.length) (hp : 0 < ln ns k) (w : World) (h : qao w B gt ns k) :
    Calls Tryz.prog 135 #[.pointer (some ⟨gt, 0, none⟩), .agg #[.int .u32 (cdOf ns k : Int), .int .i64 (ln ns k : Int)], .int .i64 (k : Int)] w fun e w' => e = .returned (.tuple #[]) ∧ qao w' B gt ns (k + 1) ∧ Below B w w' := by
 obtain ⟨n, br, path, h1, h2, h3, h4⟩ := h
 have hlt := qw7 ns h15 hf k hk hp
 rw [← qd6 ns k hp] at hlt
 have hl15 := h15.at k
 have h32 : 2 ^ ln ns k ≤ 2 ^ 15 := Nat.pow_le_pow_right (by decide) hl15
 refine (q3w ns (Used ns k) (Used ns ns.length) n k B gt br path w h1 h2 h3 ⟨hk, hp⟩ (fun t ht hpf => ?_) (fun t ht hpf => ?_) hp hl15 (by omega) (by omega) (by omega)).mono ?_
 · have := qfa ns h15 hf t k (by have := ht.1; omega) hk ht.2 hp hpf
   have := ht.1; omega
 · exact (qfa ns h15 hf k t hk ht.1 hp ht.2 hpf).symm
 · rintro e w' ⟨rfl, n', br', path', g1, g2, g3, g4, g5⟩
   rw [q0n ns k hp] at g1
   exact ⟨rfl, ⟨n', br', path', g1, g2, g3, by omega⟩, g5⟩
theorem qtf (v : Value) (zs : List Int) (w : World) (hR : IQ w v zs) (hl : zs.length ≤ 400) (he : errN zs ≠ 0) :
    Calls Tryz.prog 132 #[v] w fun e w' => e = .returned (.tuple #[.pointer none, .int .i64 (errN zs : Int)]) ∧ w' = w := by
 have hei : ((errN zs : Int) != 0) = true := by simp; omega
 have HCk : Hid (Calls Tryz.prog 96 #[v] w fun e w' => e = .returned (.tuple #[.slice none 0 0, .int .i64 (errN zs : Int)]) ∧ w' = w) := qt2 v zs w hR hl he
 generalize errN zs = E at *
 go_enter Tryz.func132, Tryz.ntmps132
 go_wp2_with fail
 refine (Hid.out HCk : Calls _ _ _ _ _).mono ?_
 rintro e w1 ⟨rfl, rfl⟩
 go_wp2
 go_ret2
 exact ⟨rfl, rfl⟩
theorem qvq (v : Value) (zs : List Int) (w : World) (hR : IQ w v zs) (he : errN zs = 0) :
    Calls Tryz.prog 132 #[v] w fun e w' => ∃ B, w.heap.size ≤ B ∧ e = .returned (.tuple #[.pointer (some ⟨B + 1, 0, none⟩), .int .i64 0]) ∧ qao w' B (B + 1) (toN zs) zs.length ∧ Below w.heap.size w w' := by
 obtain ⟨hl, h15, hf⟩ := qdu he
 have HCk : Hid (Calls Tryz.prog 96 #[v] w fun e w' => e = .returned (.tuple #[.slice (some ⟨w.heap.size, 0, none⟩) zs.length zs.length, .int .i64 0]) ∧ CR w' w.heap.size zs.length (cdOf (toN zs)) (ln (toN zs)) ∧ Below w.heap.size w w') := qny v zs w hR he
 have HA15 : Hid (qbh (toN zs)) := h15.all
 have HF : Hid (fitB (toN zs) = true) := hf
 have HTL : Hid ((toN zs).length = zs.length) := qfh zs
 have HL15 : Hid (∀ i, ln (toN zs) i ≤ 15) := fun i => h15.all.at i
 clear h15 hf he hR
 go_enter Tryz.func132, Tryz.ntmps132
 go_wp2_with fail
 refine (Hid.out HCk : Calls _ _ _ _ _).mono ?_
 rintro e w1 ⟨rfl, hC, hb1⟩
 clear HCk
 have HC : Hid (CR w1 w.heap.size zs.length (cdOf (toN zs)) (ln (toN zs))) := hC
 have HB1 : Hid (Below w.heap.size w w1) := hb1
 have hmk := qwb
 have HP0 : Hid (qao ((w1.alloc (.cells (madeCells #[.int .i64 0, .int .i64 0] 2) 207)).alloc (.cells #[.slice (some ⟨w1.heap.size, 0, none⟩) 1 1] 210)) w1.heap.size (w1.heap.size + 1) (toN zs) 0) := qo4 w1 _
 have HBl0 : Hid (Below w1.heap.size w1 ((w1.alloc (.cells (madeCells #[.int .i64 0, .int .i64 0] 2) 207)).alloc (.cells #[.slice (some ⟨w1.heap.size, 0, none⟩) 1 1] 210))) := ((Below.refl _ w1).alloc (Nat.le_refl _) _).alloc (by rw [World.size_alloc]; exact Nat.le_succ _) _
 have hg1 : w.heap.size < w1.heap.size := by
  obtain ⟨c, h1, _⟩ := hC
  exact (Array.getElem?_eq_some_iff.1 h1).1
 clear hC hb1
 go_wp2
 generalize World.alloc (World.alloc w1 _) _ = W2 at *
 clear hmk
 go_loopw [22] (fun i wr => ∃ k : Nat, k ≤ zs.length ∧ i = .int .i64 (k : Int) ∧ qao wr w1.heap.size (w1.heap.size + 1) (toN zs) k ∧ Below w1.heap.size w1 wr) (fun i _ => zs.length - (intOf i).toNat)
 case atStart => exact ⟨0, by omega, rfl, HP0.out, HBl0.out⟩
 case round =>
  clear HP0 HBl0
  obtain ⟨k, hk, rfl, hP, hB⟩ := hrel
  by_cases hlt : k < zs.length
  · have ce : wr.cell? ⟨w.heap.size, k * 2, none⟩ = some (.int .u32 (cdOf (toN zs) k : Int)) := by rw [hB.cell (p := ⟨w.heap.size, k * 2, none⟩) hg1, HC.out.cell (i := k * 2) (by omega), qc5]
    have co : wr.cell? ⟨w.heap.size, k * 2 + 1, none⟩ = some (.int .i64 (ln (toN zs) k : Int)) := by rw [hB.cell (p := ⟨w.heap.size, k * 2 + 1, none⟩) hg1, HC.out.cell (i := k * 2 + 1) (by omega), qdw]
    have hki : (k : Int) < (zs.length : Int) := by omega
    have hki0 : (0 : Int) ≤ (k : Int) := by omega
    have HP : Hid (qao wr w1.heap.size (w1.heap.size + 1) (toN zs) k) := hP
    have HB : Hid (Below w1.heap.size w1 wr) := hB
    have hws : w1.heap.size ≤ wr.heap.size := hB.size
    have hl15 := HL15.out k
    clear hP hB
    by_cases hp : 0 < ln (toN zs) k
    · have HCall : Hid (∀ W, qao W w1.heap.size (w1.heap.size + 1) (toN zs) k → Calls Tryz.prog 135 #[.pointer (some ⟨w1.heap.size + 1, 0, none⟩), .agg #[.int .u32 (cdOf (toN zs) k : Int), .int .i64 (ln (toN zs) k : Int)], .int .i64 (k : Int)] W fun e w' => e = .returned (.tuple #[]) ∧ qao w' w1.heap.size (w1.heap.size + 1) (toN zs) (k + 1) ∧ Below w1.heap.size W w') :=
        fun W hW => qvs (toN zs) HA15.out HF.out (by rw [HTL.out]; exact hl) k w1.heap.size (w1.heap.size + 1) (by rw [HTL.out]; exact hlt) hp W hW
      have hpi : (0 : Int) < (ln (toN zs) k : Int) := by omega
      generalize cdOf (toN zs) k = X at *
      generalize ln (toN zs) k = M at *
      go_wp2_with fail
      refine (HCall.out _ (HP.out.kept ((Below.refl _ wr).alloc (Nat.le_refl _) _))).mono ?_
      rintro e w3 ⟨rfl, hP3, hb3⟩
      have HP3 : Hid (qao w3 w1.heap.size (w1.heap.size + 1) (toN zs) (k + 1)) := hP3
      have HB3 : Hid (Below w1.heap.size w1 w3) := (HB.out.alloc hws _).trans hb3
      clear hP3 hb3
      go_wp2
      go_roundw
      case rel => exact ⟨k + 1, by omega, by go_num, HP3.out, HB3.out⟩
      case measure => simp [intOf]; omega
    · have HPn : Hid (qao wr w1.heap.size (w1.heap.size + 1) (toN zs) (k + 1)) := by
        obtain ⟨n, br, path, h1, h2, h3, h4⟩ := HP.out
        rw [q3x (toN zs) k hp] at h1
        exact ⟨n, br, path, h1, h2, h3, by omega⟩
      obtain hM0 : ln (toN zs) k = 0 := by omega
      rw [hM0] at co
      generalize cdOf (toN zs) k = X at *
      go_wp2
      go_roundw
      case rel => exact ⟨k + 1, by omega, by go_num, HPn.out.kept ((Below.refl _ wr).alloc (Nat.le_refl _) _), HB.out.alloc hws _⟩
      case measure => simp [intOf]; omega
  · obtain rfl : k = zs.length := by omega
    have HP : Hid (qao wr w1.heap.size (w1.heap.size + 1) (toN zs) zs.length) := hP
    have HBf : Hid (Below w.heap.size w wr) := HB1.out.trans (hB.mono (Nat.le_of_lt hg1))
    clear hP hB
    go_wp2
    go_ret2
    exact ⟨w1.heap.size, Nat.le_of_lt hg1, rfl, HP.out, HBf.out⟩
end Go.Proofs.YthkppipdflmekaaGreat
