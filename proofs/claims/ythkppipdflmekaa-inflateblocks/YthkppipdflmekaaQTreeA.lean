/- Contract of (*huff.Tree).add. -/
import Derived.Test.YthkppipdflmekaaQTreeR
import Derived.Deep.DrawnRows
namespace Go.Proofs.Ythkppipdflmekaa
open Go.RowKit
set_option linter.unusedVariables false

theorem Try.info2int : (Try.prog.info? 122).map (fun i => (i.zero, i.size, i.bytes)) = some (some (.agg #[.int .i64 0, .int .i64 0]), 2, 16) := by kernel_rfl
theorem TreeI.open_ {ns : List Nat} {A E : Nat → Prop} {n s u k : Nat} {br : Nat → Bool → Int} {path : Nat → List Bool} (h : TreeI ns A E n br path) (hs : E s) (hu : u < n) (hp : path u = (codeS ns s).take k) (hk : k + 1 < ln ns s)
    (hpA : ∀ t, A t → codeS ns t <+: codeS ns s → False) (hne : br u ((cdOf ns s).testBit (ln ns s - 1 - k)) ≠ 0) : ∃ v : Nat, br u ((cdOf ns s).testBit (ln ns s - 1 - k)) = (v : Int) ∧ v < n ∧ path v = (codeS ns s).take (k + 1) := by
  have e := codeS_take ns s k (by omega)
  by_cases h1 : 0 < br u ((cdOf ns s).testBit (ln ns s - 1 - k))
  · obtain ⟨v, h2, h3, h4⟩ := h.up u _ hu h1
    exact ⟨v, h2, h3, by rw [h4, hp, e]⟩
  · have hlt : br u ((cdOf ns s).testBit (ln ns s - 1 - k)) < 0 := by omega
    obtain ⟨t, h2, h3, h4⟩ := h.leaf u _ hu hlt
    exact (hpA t h2 (by rw [h4, hp, e]; exact List.take_prefix _ _)).elim
theorem TreeI.shut_ {ns : List Nat} {A E : Nat → Prop} {n s u k : Nat} {br : Nat → Bool → Int} {path : Nat → List Bool} (h : TreeI ns A E n br path) (hu : u < n) (hp : path u = (codeS ns s).take k) (hk : k + 1 = ln ns s)
    (hpA : ∀ t, A t → codeS ns t <+: codeS ns s → False) (hpE : ∀ t, E t → codeS ns s <+: codeS ns t → t = s) : path u ++ [(cdOf ns s).testBit 0] = codeS ns s ∧ br u ((cdOf ns s).testBit 0) = 0 := by
  have e := codeS_take ns s k (by omega)
  rw [show ln ns s - 1 - k = 0 by omega, ← hp, List.take_of_length_le (by rw [codeS_len]; omega)] at e
  refine ⟨e, ?_⟩
  by_cases h1 : 0 < br u ((cdOf ns s).testBit 0)
  · obtain ⟨v, h2, h3, h4⟩ := h.up u _ hu h1
    obtain ⟨t, h5, h6, h7⟩ := h.ext v h3 (by omega)
    rw [h4, e] at h6 h7
    obtain rfl := hpE t h5 h6
    exact absurd rfl h7
  · by_cases h2 : br u ((cdOf ns s).testBit 0) < 0
    · obtain ⟨t, h2, h3, h4⟩ := h.leaf u _ hu h2
      exact (hpA t h2 (by rw [h4, e]; exact List.prefix_refl _)).elim
    · omega
/-- On the way to a code: k bits of it are behind us, we are at u. -/
def Way (ns : List Nat) (A E : Nat → Prop) (s n0 B gt u k : Nat) (W w : World) : Prop := ∃ n br path gb cap, TreeI ns A E n br path ∧ (∀ v, n ≤ v → ∀ c, br v c = 0) ∧ TreeIn w B gt gb cap n br ∧ u < n ∧ path u = (codeS ns s).take k ∧ n ≤ n0 + k ∧ Below B W w
set_option maxRecDepth 100000 in
set_option maxHeartbeats 1000000 in
theorem add_any (ns : List Nat) (A E : Nat → Prop) (n0 s B gt : Nat) (br0 : Nat → Bool → Int) (path0 : Nat → List Bool) (w : World) (hT : TreeI ns A E n0 br0 path0) (hz : ∀ v, n0 ≤ v → ∀ c, br0 v c = 0) (hM : TreeAt w B gt n0 br0)
    (hs : E s) (hpA : ∀ t, A t → codeS ns t <+: codeS ns s → False) (hpE : ∀ t, E t → codeS ns s <+: codeS ns t → t = s) (hl1 : 0 < ln ns s) (hl2 : ln ns s ≤ 15) (hx : cdOf ns s < 4294967296) (hn0 : n0 ≤ 10000) (hs0 : s < 10000) :
    Calls Try.prog 71 #[.pointer (some ⟨gt, 0, none⟩), .agg #[.int .u32 (cdOf ns s : Int), .int .i64 (ln ns s : Int)], .int .i64 (s : Int)] w fun e w' => e = .returned (.tuple #[]) ∧
      ∃ n br path, TreeI ns (fun t => A t ∨ t = s) E n br path ∧ (∀ v, n ≤ v → ∀ c, br v c = 0) ∧ TreeAt w' B gt n br ∧ n ≤ n0 + 15 ∧ Below B w w' := by
  obtain ⟨gb0, cap0, hM⟩ := hM
  have HL : Hid (B ≤ w.heap.size) := Nat.le_trans hM.low (Nat.le_of_lt hM.lt)
  have hgN := hM.lt
  have HW : Hid (Way ns A E s n0 B gt 0 0 w (w.alloc (.cells #[.int .u32 (cdOf ns s : Int), .int .i64 (ln ns s : Int)] 143))) :=
    ⟨n0, br0, path0, gb0, cap0, hT, hz, hM.kept ((Below.refl _ w).alloc (Nat.le_refl _) _), hT.pos, by rw [hT.root]; rfl, by omega, (Below.refl _ w).alloc HL.out _⟩
  have HN : Hid ((w.alloc (.cells #[.int .u32 (cdOf ns s : Int), .int .i64 (ln ns s : Int)] 143)).heap[w.heap.size]? = some (.cells #[.int .u32 (cdOf ns s : Int), .int .i64 (ln ns s : Int)] 143 (0, 0))) := heap_alloc_new w _
  have HA : Hid (∀ t, A t → codeS ns t <+: codeS ns s → False) := hpA
  have HE : Hid (∀ t, E t → codeS ns s <+: codeS ns t → t = s) := hpE
  have HB : Hid (∀ i : Nat, bits .and .u32 ((cdOf ns s : Int) / 2 ^ i) 1 = (((cdOf ns s).testBit i).toNat : Int)) := fun i => bit_of _ i hx
  obtain ⟨i0, hi0, hz0, hz1, hz2⟩ := info_parts Try.info2int
  clear hT hz hM hpA hpE
  go_enter Try.func71, Try.ntmps71
  go_wp2
  generalize hW1 : w.alloc (.cells #[.int .u32 (cdOf ns s : Int), .int .i64 (ln ns s : Int)] 143) = W1 at *
  clear hW1
  go_loopw [6, 7] (fun a i wr => ∃ u k : Nat, k < ln ns s ∧ a = .int .i64 (u : Int) ∧ i = .int .i64 ((ln ns s - 1 - k : Nat) : Int) ∧ Way ns A E s n0 B gt u k w wr ∧ wr.heap[w.heap.size]? = some (.cells #[.int .u32 (cdOf ns s : Int), .int .i64 (ln ns s : Int)] 143 (0, 0))) (fun _ i _ => (intOf i).toNat)
  case atStart => exact ⟨0, 0, by omega, rfl, by go_num, HW.out, HN.out⟩
  case round =>
    clear HW HN
    obtain ⟨u, k, hk, rfl, rfl, hW, hN⟩ := hrel
    obtain ⟨n, br, path, gb, cap, hT, hz, hM, hu, hp, hn, hbl⟩ := hW
    have cx : wr.cell? ⟨w.heap.size, 0, none⟩ = some (.int .u32 (cdOf ns s : Int)) := by rw [cell_of_row _ _ _ _ _ _ hN]; rfl
    have hNb := hM.ne hN (by decide)
    have hNt : w.heap.size ≠ gt := by omega
    have ct := hM.top0
    have ft := hM.free0
    have hui : (u : Int) < (n : Int) := by omega
    have hu0 : (0 : Int) ≤ (u : Int) := by omega
    by_cases hk1 : k + 1 < ln ns s
    · have hbit := HB.out (ln ns s - 1 - k)
      have cb := hM.at (b := (cdOf ns s).testBit (ln ns s - 1 - k)) hu
      have fb := hM.row.frozenAt (u * 2 + ((cdOf ns s).testBit (ln ns s - 1 - k)).toNat)
      have hb2 : ((cdOf ns s).testBit (ln ns s - 1 - k)).toNat < 2 := Bool.toNat_lt _
      have hip : (0 : Int) < ((ln ns s - 1 - k : Nat) : Int) := by omega
      have hip2 : 0 < ln ns s - 1 - k := by omega
      have hi15 : ln ns s - 1 - k < 15 := by omega
      by_cases h0 : br u ((cdOf ns s).testBit (ln ns s - 1 - k)) = 0
      · rw [h0] at cb
        have hTn := hT.node (hz n (Nat.le_refl _)) u ((cdOf ns s).testBit (ln ns s - 1 - k)) hu h0 ⟨s, hs, by rw [hp, codeS_take _ _ _ hk]; exact List.take_prefix _ _, fun e => by
          have := congrArg List.length e
          rw [hp, codeS_take _ _ _ hk, List.length_take, codeS_len] at this
          omega⟩
        generalize hi : ln ns s - 1 - k = i at *
        generalize hb : (cdOf ns s).testBit i = b at *
        generalize hbv : b.toNat = bv at *
        have HMs : Hid (TreeIn (wr.setCell ⟨gb, u * 2 + bv, none⟩ (.int .i64 (n : Int))).drew B gt gb cap n (setBr br u b (n : Int))) := by have := (hM.set (b := b) (n : Int) hu).drew; rwa [hbv] at this
        have HBs : Hid (Below B w (wr.setCell ⟨gb, u * 2 + bv, none⟩ (.int .i64 (n : Int))).drew) := (hbl.setCell hM.lowb _).drew
        have HNs : Hid ((wr.setCell ⟨gb, u * 2 + bv, none⟩ (.int .i64 (n : Int))).drew.heap[w.heap.size]? = some (.cells #[.int .u32 (cdOf ns s : Int), .int .i64 (ln ns s : Int)] 143 (0, 0))) := (heap_setCell_other _ _ _ _ hNb).trans hN
        have HTn : Hid (TreeI ns A E (n + 1) (setBr br u b ↑n) fun v => if v = n then path u ++ [b] else path v) := hTn
        have HZ : Hid (∀ v, n ≤ v → ∀ c, setBr br u b (n : Int) v c = 0) := fun v hv c => by unfold setBr; rw [if_neg (by omega)]; exact hz v hv c
        clear hTn hz hT hN hM hbl
        go_wp2
        go_region
        generalize World.drew (World.setCell wr _ _) = W2 at *
        clear ct ft cb fb cx
        have ct := HMs.out.top0
        have ft := HMs.out.free0
        have HRow : Hid (W2.ownsRow B 122 2 (.slice (some ⟨gb, 0, none⟩) n cap) n (trC (setBr br u b (n : Int)) n)) := HMs.out.row
        have hgl := HMs.out.lt
        go_wp2_with (at_builtin; refine wpList_append_own _ rfl _ _ 123 rfl B 122 i0 (.agg #[.int .i64 0, .int .i64 0]) 2 16 Try.underlying123 hi0 hz0 hz1 hz2 rfl (by decide) _ _ _ rfl (HRow.out.alloc _) ⟨W2.heap.size, 0, none⟩ 1 1 [.int .i64 0, .int .i64 0] rfl rfl ?c1 ?c2 ?c3 ?c4 ?c5 ?_)
        case c1 =>
          intro j y hy
          have e : (⟨W2.heap.size, 0, none⟩ : Addr).add j = ⟨W2.heap.size, j, none⟩ := by unfold Addr.add; split <;> simp_all
          rw [e, cell_of_row _ _ _ _ _ _ (heap_alloc_new W2 (.cells #[.int .i64 0, .int .i64 0] 122))]
          simpa using hy
        case c2 => intro y hy; simp at hy; subst hy; rfl
        case c3 => unfold maxLen; omega
        case c4 => omega
        case c5 => rw [World.size_alloc]; exact Nat.le_trans (below_size HBs.out HL.out) (Nat.le_succ _)
        intro v1 w1 hown hg hnil
        obtain ⟨gb1, cap1, rfl, hM1⟩ := HMs.out.more (HZ.out n (Nat.le_refl _)) hg hown
        have hne1 := hM1.ne0
        have hne2 : gb1 ≠ gt := fun e => hne1 e.symm
        have HM1 : Hid (TreeIn _ _ _ _ _ _ _) := hM1
        have ft1 : w1.frozen? ⟨gt, 0, none⟩ = false := by
          have := (World.frozen?_of_block (w := W2) (w' := w1) (a := ⟨gt, 0, none⟩) (by
            rw [hg.block gt (by rw [World.size_alloc]; omega) (fun e => HMs.out.ne0 (by cases e; rfl)), heap_alloc_old _ _ hgl]))
          rw [this]; exact ft
        have ct1 : w1.cell? ⟨gt, 0, none⟩ = some (.slice (some ⟨gb, 0, none⟩) n cap) := hg.cell (by rw [← ct]; exact World.cell?_of_block (heap_alloc_old _ _ hgl)) (fun e => HMs.out.ne0 (by cases e; rfl))
        have cb1 : w1.cell? ⟨gb1, u * 2 + bv, none⟩ = some (.int .i64 (n : Int)) := by
          have h1 := hown.cellAt (u * 2 + bv) (by omega)
          rw [h1, List.getElem?_append_left (by rw [trC_len]; omega), ← hbv, trC_at _ _ _ _ hu]
          unfold setBr; rw [if_pos ⟨rfl, rfl⟩]
        have HB1 : Hid (Below B w (w1.setCell ⟨gt, 0, none⟩ (.slice (some ⟨gb1, 0, none⟩) (n + 1) cap1))) :=
          ((HBs.out.alloc (below_size HBs.out HL.out) _).grown hg (by rw [World.size_alloc]; exact Nat.le_trans (below_size HBs.out HL.out) (Nat.le_succ _)) (fun k hk => by cases hk; exact HMs.out.lowb)).setCell HMs.out.low _
        have hNW : w.heap.size < W2.heap.size := by have := (Array.getElem?_eq_some_iff.1 HNs.out).1; exact this
        have HN1 : Hid ((w1.setCell ⟨gt, 0, none⟩ (.slice (some ⟨gb1, 0, none⟩) (n + 1) cap1)).heap[w.heap.size]? = some (.cells #[.int .u32 (cdOf ns s : Int), .int .i64 (ln ns s : Int)] 143 (0, 0))) := by
          unfold Hid
          rw [heap_setCell_other _ _ _ _ hNt, hg.block _ (by rw [World.size_alloc]; omega) (fun e => hNb (by cases e; rfl)), heap_alloc_old _ _ hNW]; exact HNs.out
        have HX : Hid (Way ns A E s n0 B gt n (k + 1) w (w1.setCell ⟨gt, 0, none⟩ (.slice (some ⟨gb1, 0, none⟩) (n + 1) cap1))) :=
          ⟨n + 1, _, _, gb1, cap1, HTn.out, fun v hv c => HZ.out v (by omega) c, HM1.out, by omega, by
            show (if n = n then path u ++ [b] else path n) = _
            rw [if_pos rfl, hp, ← hb, ← hi, codeS_take _ _ _ hk], by omega, HB1.out⟩
        clear hM1 hown hg hnil ct ft HMs HBs HNs HTn HZ HRow
        have hui1 : (u : Int) < ((n + 1 : Nat) : Int) := by omega
        have hui2 : (u : Int) < (n : Int) + 1 := by omega
        go_wp2
        go_roundw
        case rel => exact ⟨n, k + 1, by omega, rfl, by go_num, HX.out, HN1.out⟩
        case measure => simp [intOf]; omega
      · obtain ⟨v, hv1, hv2, hv3⟩ := hT.open_ hs hu hp hk1 HA.out h0
        rw [hv1] at cb h0
        have hv0 : ((v : Int) == 0) = false := by simp; omega
        have HX : Hid (Way ns A E s n0 B gt v (k + 1) w wr) := ⟨n, br, path, gb, cap, hT, hz, hM, hv2, hv3, by omega, hbl⟩
        have HN1 : Hid (wr.heap[w.heap.size]? = some (.cells #[.int .u32 (cdOf ns s : Int), .int .i64 (ln ns s : Int)] 143 (0, 0))) := hN
        clear hT hz hM hbl hN hv1 hv3 hp
        generalize hi : ln ns s - 1 - k = i at *
        generalize hb : (cdOf ns s).testBit i = b at *
        generalize hbv : b.toNat = bv at *
        go_wp2
        go_roundw
        case rel => exact ⟨v, k + 1, by omega, rfl, by go_num, HX.out, HN1.out⟩
        case measure => simp [intOf]; omega
    · have hk2 : k + 1 = ln ns s := by omega
      obtain ⟨hsh, h0⟩ := hT.shut_ hu hp hk2 HA.out HE.out
      have hbit := HB.out 0
      rw [Int.pow_zero, Int.ediv_one] at hbit
      have cb := hM.at (b := (cdOf ns s).testBit 0) hu
      have fb := hM.row.frozenAt (u * 2 + ((cdOf ns s).testBit 0).toNat)
      have hb2 : ((cdOf ns s).testBit 0).toNat < 2 := Bool.toNat_lt _
      have hi0' : ln ns s - 1 - k = 0 := by omega
      rw [hi0']
      have HTn : Hid (TreeI ns (fun t => A t ∨ t = s) E n (setBr br u ((cdOf ns s).testBit 0) (-1 - (s : Int))) path) := hT.code u _ s hu hsh h0 HA.out
      have HZ : Hid (∀ v, n ≤ v → ∀ c, setBr br u ((cdOf ns s).testBit 0) (-1 - (s : Int)) v c = 0) := fun v hv c => by unfold setBr; rw [if_neg (by omega)]; exact hz v hv c
      have HMs : Hid (TreeAt (wr.setCell ⟨gb, u * 2 + ((cdOf ns s).testBit 0).toNat, none⟩ (.int .i64 (-1 - (s : Int)))).drew B gt n (setBr br u ((cdOf ns s).testBit 0) (-1 - (s : Int)))) := ⟨gb, cap, (hM.set (-1 - (s : Int)) hu).drew⟩
      have HBs : Hid (Below B w (wr.setCell ⟨gb, u * 2 + ((cdOf ns s).testBit 0).toNat, none⟩ (.int .i64 (-1 - (s : Int)))).drew) := (hbl.setCell hM.lowb _).drew
      clear hT hz hM hbl hN hsh h0
      generalize (cdOf ns s).testBit 0 = b at *
      generalize hbv : b.toNat = bv at *
      go_wp2
      go_region
      go_wp2
      exact bodyPost_end (results_none rfl _ _ _) rfl ⟨rfl, n, _, path, HTn.out, HZ.out, HMs.out, by omega, HBs.out⟩
end Go.Proofs.Ythkppipdflmekaa
