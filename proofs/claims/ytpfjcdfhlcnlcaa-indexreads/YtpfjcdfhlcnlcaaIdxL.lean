/- The laws' few heads. -/
import Derived.Test.YtpfjcdfhlcnlcaaIdxE
import Derived.Test.YtpfjcdfhlcnlcaaGrow
import Derived.Lib.SlBytesConst
namespace Go.Proofs.Ytpfjcdfhlcnlcaa
open Go.RowKit Go.Maps
set_option linter.unusedVariables false
set_option linter.unusedSimpArgs false

theorem and65535 (n : Int) : bits .and .i64 n 65535 = n % 65536 := by
  have h127 : (BitVec.ofInt 64 65535).toNat = 2 ^ 16 - 1 := by decide
  have key : (BitVec.ofInt 64 n &&& BitVec.ofInt 64 65535).toNat = (n % ((2 ^ 64 : Nat) : Int)).toNat % 2 ^ 16 := by
    rw [BitVec.toNat_and, BitVec.toNat_ofInt, h127, Nat.and_two_pow_sub_one_eq_mod]
  show IntKind.i64.wrap ((BitVec.ofInt 64 n &&& BitVec.ofInt 64 65535).toNat : Nat) = n % 65536
  rw [key, IntKind.wrap_i64]
  omega
def hexd (d : Nat) : Nat := if d < 10 then 48 + d else 87 + d
/-- The name of 64 digits, its first k made of a text. -/
def digL (q : List UInt8) (k : Nat) : List Nat := (List.range 64).map fun i => if i < k ∧ i < q.length then hexd ((q.getD i 0).toNat % 16) else hexd (i % 16)
theorem digL_len (q : List UInt8) (k : Nat) : (digL q k).length = 64 := by simp [digL]
theorem digL_get (q : List UInt8) (k i : Nat) (hi : i < 64) : (digL q k)[i]? = some (if i < k ∧ i < q.length then hexd ((q.getD i 0).toNat % 16) else hexd (i % 16)) := by
  unfold digL
  rw [List.getElem?_map, List.getElem?_range hi]; rfl
theorem digL_out (q : List UInt8) (k i : Nat) (hi : ¬ i < 64) : (digL q k)[i]? = none := List.getElem?_eq_none (by rw [digL_len]; omega)
theorem digL_set (q : List UInt8) (k : Nat) (hk : k < q.length) (h64 : k < 64) : (digL q k).set k (hexd ((q.getD k 0).toNat % 16)) = digL q (k + 1) := by
  apply List.ext_getElem? fun i => ?_
  by_cases hi : i < 64
  · rw [digL_get q (k + 1) i hi, List.getElem?_set]
    by_cases e : k = i
    · subst e; rw [if_pos rfl, if_pos (by rw [digL_len]; exact h64), if_pos ⟨by omega, hk⟩]
    · rw [if_neg e, digL_get q k i hi]
      congr 1
      by_cases h : i < k ∧ i < q.length
      · rw [if_pos h, if_pos ⟨by omega, h.2⟩]
      · rw [if_neg h, if_neg (by omega)]
  · rw [digL_out q (k + 1) i hi, List.getElem?_eq_none (by rw [List.length_set, digL_len]; omega)]
theorem digL_end (q : List UInt8) (k : Nat) (h : q.length ≤ k ∨ 64 ≤ k) : digL q k = digL q 64 := by
  apply List.ext_getElem? fun i => ?_
  by_cases hi : i < 64
  · rw [digL_get q k i hi, digL_get q 64 i hi]
    congr 1
    by_cases h' : i < q.length
    · rw [if_pos ⟨by omega, h'⟩, if_pos ⟨hi, h'⟩]
    · rw [if_neg (by omega), if_neg (by omega)]
  · rw [digL_out _ _ _ hi, digL_out _ _ _ hi]
def cells64 : Array Value := #[.int .u8 48, .int .u8 49, .int .u8 50, .int .u8 51, .int .u8 52, .int .u8 53, .int .u8 54, .int .u8 55, .int .u8 56, .int .u8 57, .int .u8 97, .int .u8 98, .int .u8 99, .int .u8 100, .int .u8 101, .int .u8 102, .int .u8 48, .int .u8 49, .int .u8 50, .int .u8 51, .int .u8 52, .int .u8 53, .int .u8 54, .int .u8 55, .int .u8 56, .int .u8 57, .int .u8 97, .int .u8 98, .int .u8 99, .int .u8 100, .int .u8 101, .int .u8 102, .int .u8 48, .int .u8 49, .int .u8 50, .int .u8 51, .int .u8 52, .int .u8 53, .int .u8 54, .int .u8 55, .int .u8 56, .int .u8 57, .int .u8 97, .int .u8 98, .int .u8 99, .int .u8 100, .int .u8 101, .int .u8 102, .int .u8 48, .int .u8 49, .int .u8 50, .int .u8 51, .int .u8 52, .int .u8 53, .int .u8 54, .int .u8 55, .int .u8 56, .int .u8 57, .int .u8 97, .int .u8 98, .int .u8 99, .int .u8 100, .int .u8 101, .int .u8 102]
theorem digL0 (q : List UInt8) : cells64 = (cs (digL q 0)).toArray := by
  have h : digL q 0 = digL [] 0 := by unfold digL; simp
  rw [h]; rfl
/-- A row of 64 bytes that was made of a text. -/
def DR (w : World) (g : Nat) (l : List Nat) : Prop := w.heap[g]? = some (.cells (cs l).toArray 5 (64, 65))
theorem DR.set {w : World} {g : Nat} {l : List Nat} (h : DR w g l) (j n : Nat) : DR (w.setCell ⟨g, j, none⟩ (.int .u8 (n : Int))) g (l.set j n) := by
  unfold DR at h ⊢
  have : (w.setCell ⟨g, j, none⟩ (.int .u8 (n : Int))).heap[g]? = some (.cells ((cs l).toArray.setIfInBounds j (.int .u8 (n : Int))) 5 (64, 65)) := by simp [World.setCell, Array.getElem?_modify, h]
  rw [this]
  congr 2
  apply Array.toList_inj.1
  simp [cs, List.map_set]
theorem DR.cell {w : World} {g : Nat} {l : List Nat} (h : DR w g l) (j : Nat) : w.cell? ⟨g, j, none⟩ = l[j]?.map (fun n : Nat => Value.int .u8 (n : Int)) := by
  rw [cell_of_row _ _ _ _ _ _ h]; simp [cs]
theorem DR.fz {w : World} {g : Nat} {l : List Nat} (h : DR w g l) (j : Nat) (hj : j < 64) : w.frozen? ⟨g, j, none⟩ = false := by
  unfold DR at h
  simp [World.frozen?, h]; omega
theorem DR.conv {w : World} {g : Nat} {l : List Nat} (h : DR w g l) (hl : l.length = 64) : (convert 70 9 (.slice (some ⟨g, 0, none⟩) 64 64)).run Try.prog w = .ok (.string (bs l)) w := by
  refine run_convert_bytes_arg w 70 5 Try.underlying70 Try.underlying5 g 0 64 64 (l.map fun n : Nat => (n : Int)) (by simpa using hl) (fun i hi => ?_) 9 Try.underlying9
  rw [Nat.zero_add, h.cell i, List.getElem?_eq_getElem (by omega)]
  simp [List.getElem?_eq_getElem (show i < l.length by omega)]
/-- A head of the laws. -/
def fewH (h : Hd) : Hd := ⟨(digL h.n 64).map UInt8.ofNat, h.m % 65536, h.c, h.p % 65536, h.s % 65536, h.a % 65536⟩
def fewL (l : List Hd) : List Hd := (l.take 12).map fewH
theorem hexd_lt (d : Nat) (h : d < 16) : hexd d < 256 := by unfold hexd; split <;> omega
theorem bs_dig (l : List Nat) : bs l = mkB (l.map UInt8.ofNat) := by
  unfold bs strOfNums mkB
  congr 1
  apply Array.toList_inj.1
  simp
theorem digs_at : ∀ d : Fin 16, (⟨#[48, 49, 50, 51, 52, 53, 54, 55, 56, 57, 97, 98, 99, 100, 101, 102]⟩ : ByteArray)[d.val]'(by have := d.isLt; exact this) = UInt8.ofNat (hexd d.val) := by decide
theorem hex_at (l : List UInt8) (j : Nat) (hj : j < (mkB l).size) (h2 : ((mkB l)[j]'hj).toNat % 16 < (⟨#[48, 49, 50, 51, 52, 53, 54, 55, 56, 57, 97, 98, 99, 100, 101, 102]⟩ : ByteArray).size) :
    ((⟨#[48, 49, 50, 51, 52, 53, 54, 55, 56, 57, 97, 98, 99, 100, 101, 102]⟩ : ByteArray)[((mkB l)[j]'hj).toNat % 16]'h2).toNat = hexd ((l.getD j 0).toNat % 16) := by
  have hl : j < l.length := by rw [← mkB_size l]; exact hj
  have e1 : (mkB l)[j]'hj = l.getD j 0 := by
    rw [List.getD_eq_getElem?_getD, List.getElem?_eq_getElem hl]
    rfl
  have e2 := digs_at ⟨((mkB l)[j]'hj).toNat % 16, Nat.mod_lt _ (by decide)⟩
  simp only at e2
  rw [e2, e1]
  have := hexd_lt ((l.getD j 0).toNat % 16) (Nat.mod_lt _ (by decide))
  exact UInt8.toNat_ofNat_of_lt this
theorem dflt_eq : (digL [] 0).map (fun n : Nat => Value.int .u8 (n : Int)) = cs (digL [] 0) := rfl
/-- Heads in a row of one's own. -/
def HO (w : World) (B : Nat) (v : Value) (l : List Hd) : Prop := w.ownsRow B 38 6 v l.length (hdsC l)
theorem hdC_one (h : Hd) : ∀ v ∈ hdC h, v.oneCell' = true := by
  intro v hv
  simp only [hdC, List.mem_cons, List.not_mem_nil, or_false] at hv
  rcases hv with rfl | rfl | rfl | rfl | rfl | rfl <;> rfl
theorem hdsC_one (l : List Hd) : ∀ v ∈ hdsC l, v.oneCell' = true := by
  intro v hv
  obtain ⟨x, _, hx⟩ := List.mem_flatMap.1 hv
  exact hdC_one x v hx
theorem hdsC_append (a b : List Hd) : hdsC (a ++ b) = hdsC a ++ hdsC b := by simp [hdsC]
def hdV (x : Hd) : Array Value := #[.string (mkB x.n), .int .i64 x.m, .int .u32 x.c, .int .i64 x.p, .int .i64 x.s, .int .i64 x.a]
theorem Try.infoHd : (Try.prog.info? 38).map (fun i => (i.zero, i.size, i.bytes)) = some (some (.agg #[.string ⟨#[]⟩, .int .i64 0, .int .u32 0, .int .i64 0, .int .i64 0, .int .i64 0]), 6, 56) := by kernel_rfl
theorem HO.below {w w' : World} {B : Nat} {v : Value} {l : List Hd} (h : HO w B v l) (hb : Below w.heap.size w w') : HO w' B v l := by
  have hlt := World.ownsRow.lt h
  refine ⟨h.1, ?_⟩
  rcases h.2 with h | ⟨g, cap, cur, rfl, h2, h3, h4⟩
  · exact .inl h
  · exact .inr ⟨g, cap, cur, rfl, h2, (hb.block _ (hlt g rfl).2).trans h3, h4⟩
theorem HO.shape {w : World} {B : Nat} {v : Value} {l : List Hd} (h : HO w B v l) : ∃ a c, v = .slice a l.length c := by
  rcases h.2 with ⟨rfl, h0⟩ | ⟨g', cap, cur, rfl, _⟩
  · exact ⟨none, 0, by rw [h0]⟩
  · exact ⟨_, cap, rfl⟩
theorem HO.made (w : World) (x : Hd) : HO (w.alloc (.cells (hdV x) 38)) w.heap.size (.slice (some ⟨w.heap.size, 0, none⟩) 1 1) [x] :=
  ⟨rfl, .inr ⟨w.heap.size, 1, hdV x, rfl, Nat.le_refl _, heap_alloc_new w _, Nat.le_refl _, by decide, rfl, rfl⟩⟩
theorem HO.hv {w : World} {B : Nat} {v : Value} {l : List Hd} {K : Nat → Prop} (h : HO w B v l) (hK : ∀ k, v.ownBlock = some k → K k) : HV w K v l := by
  have h' := h
  rcases h.2 with ⟨rfl, h0⟩ | ⟨g, cap, cur, rfl, _, _, hc, _⟩
  · have : l = [] := List.length_eq_zero_iff.1 h0
    subst this
    exact ⟨none, 0, rfl, Nat.le_refl _, fun h => absurd rfl h⟩
  · refine ⟨_, cap, rfl, hc, fun _ => ⟨g, 0, rfl, hK g rfl, (World.ownsRow.lt h g rfl).2, fun j u hu => ?_⟩⟩
    have := World.ownsRow.cells h' (g := g) rfl j u hu
    rw [Addr.add_lit] at this
    exact this
/-- append(s, x) for one head x. -/
theorem append_hd {w : World} {ops : Array Oper} {rest : List Oper} {o : Oper} {a : Act} {Q : Exit → Act → World → Prop} (hgd : o.guard = none) (s y : Operand)
    (ho : o.op = .call { callee := .builtin .append, args := #[s, y], argTypes := #[32, 32] })
    (B : Nat) (v : Value) (l : List Hd) (x : Hd) (hs : a.eval s = v) (hx : a.eval y = .slice (some ⟨w.heap.size, 0, none⟩) 1 1) (hO : HO w B v l) (hl : l.length + 1 ≤ 1000000) (hB : B ≤ w.heap.size)
    (h : ∀ a' c' w', HO w' B (.slice a' (l.length + 1) c') (l ++ [x]) → w.grownBy w' v.ownBlock → wpList Try.prog ops Q rest (a.put o.dst (.slice a' (l.length + 1) c')) w') : wpList Try.prog ops Q (o :: rest) a (w.alloc (.cells (hdV x) 38)) := by
  obtain ⟨i0, hi, hz0, hz1, hz2⟩ := info_parts Try.infoHd
  have hb : Below w.heap.size w (w.alloc (.cells (hdV x) 38)) := (Below.refl _ _).alloc (Nat.le_refl _) _
  have hN : ∀ j u, (hdsC [x])[j]? = some u → (w.alloc (.cells (hdV x) 38)).cell? ((⟨w.heap.size, 0, none⟩ : Addr).add j) = some u := fun j u hu => World.ownsRow.cells (HO.made w x) (g := w.heap.size) rfl j u hu
  refine wpList_append_own_at _ hgd s y 32 ho B 38 i0 (.agg #[.string ⟨#[]⟩, .int .i64 0, .int .u32 0, .int .i64 0, .int .i64 0, .int .i64 0]) 6 56 Try.underlying32 hi hz0 hz1 hz2 rfl (by decide) v _ _ hs (hO.below hb) ⟨w.heap.size, 0, none⟩ 1 1 (hdsC [x]) hx (by rw [hdsC_len]; rfl) hN (hdsC_one _) (by unfold maxLen; omega) (by omega) (by rw [World.size_alloc]; omega) ?_
  intro v' w' hown hg _ _
  have hO' : HO w' B v' (l ++ [x]) := by unfold HO; rw [hdsC_append, List.length_append]; exact hown
  obtain ⟨a', c', rfl⟩ := hO'.shape
  have e : (l ++ [x]).length = l.length + 1 := by simp
  rw [e] at hO' ⊢
  exact h a' c' w' hO' (gtrans (gbelow hb) hg)
set_option maxRecDepth 100000 in
set_option maxHeartbeats 4000000 in
theorem few17_any (v : Value) (l : List Hd) (w : World) (hV : HV w (fun k => k < w.heap.size) v l) :
    Calls Try.prog 17 #[v] w fun e w' => ∃ a' c', e = .returned (.slice a' (fewL l).length c') ∧ HO w' w.heap.size (.slice a' (fewL l).length c') (fewL l) ∧ Below w.heap.size w w' := by
  have HVV : Hid (HV w (fun k => k < w.heap.size) v l) := hV
  obtain ⟨a0, cap, rfl, hcap, -⟩ := hV
  have hzh := zeroHd
  obtain ⟨n, hn⟩ : ∃ n, n = l.length := ⟨_, rfl⟩
  have HN : Hid (n = l.length) := hn
  rw [← hn] at HVV hcap
  rw [← hn]
  clear hn
  go_enter Try.func17, Try.ntmps17
  go_wp2
  go_loopw [3, 4] (fun s i wr => ∃ (k : Nat) (ua : Option Addr) (uc : Nat), k ≤ n ∧ k ≤ 12 ∧ i = .int .i64 (k : Int) ∧ s = .slice ua k uc ∧ HO wr w.heap.size (.slice ua k uc) ((l.take k).map fewH) ∧ Below w.heap.size w wr) (fun _ i _ => 12 - (intOf i).toNat)
  case atStart => exact ⟨0, _, _, Nat.zero_le _, Nat.zero_le _, rfl, rfl, ⟨rfl, .inr ⟨w.heap.size, 0, #[], rfl, Nat.le_refl _, heap_alloc_new w _, Nat.le_refl _, by decide, rfl, rfl⟩⟩, (Below.refl _ w).alloc (Nat.le_refl _) _⟩
  case round =>
    obtain ⟨k, ua, uc, hk, hk12, rfl, rfl, hO, hb⟩ := hrel
    have HHO : Hid (HO wr w.heap.size (.slice ua k uc) ((l.take k).map fewH)) := hO
    have HB : Hid (Below w.heap.size w wr) := hb
    clear hO hb
    by_cases hlt : k < n ∧ k < 12
    · obtain ⟨h1, h2⟩ := hlt
      have h1i : (k : Int) < (n : Int) := by omega
      have h2i : (k : Int) < 12 := by omega
      obtain ⟨y, hy⟩ : ∃ y, l[k]? = some y := ⟨_, List.getElem?_eq_getElem (by rw [← HN.out]; exact h1)⟩
      have hkp : Keeps (fun j => j < w.heap.size) w wr := Keeps.of_below HB.out (fun j hj => hj)
      obtain ⟨g, o, rfl, hg, -, -, e0, e1, e2, e3, e4, e5⟩ := (HVV.out.kept hkp (fun _ h => h)).at hy
      have HT : Hid ((l.take (k + 1)).map fewH = (l.take k).map fewH ++ [fewH y]) := by unfold Hid; rw [List.take_add_one, hy]; simp
      have hlen : ((l.take k).map fewH).length = k := by rw [List.length_map, List.length_take]; have := HN.out; omega
      have HLEN : Hid (((l.take k).map fewH).length = k) := hlen
      generalize (l.take k).map fewH = G at *
      clear hkp hlen
      obtain ⟨W2, hW2⟩ : ∃ W2, W2 = wr.alloc (.cells #[.string (mkB y.n), .int .i64 y.m, .int .u32 y.c, .int .i64 y.p, .int .i64 y.s, .int .i64 y.a] 38) := ⟨_, rfl⟩
      have hb2 : Below wr.heap.size wr W2 := by rw [hW2]; exact (Below.refl _ wr).alloc (Nat.le_refl _) _
      have HB2 : Hid (Below w.heap.size w W2) := HB.out.trans (hb2.mono HB.out.size)
      have HO2 : Hid (HO W2 w.heap.size (.slice ua k uc) G) := HHO.out.below hb2
      have hN2 : W2.heap[wr.heap.size]? = some (.cells #[.string (mkB y.n), .int .i64 y.m, .int .u32 y.c, .int .i64 y.p, .int .i64 y.s, .int .i64 y.a] 38 (0, 0)) := by rw [hW2]; exact heap_alloc_new wr _
      have HN2 : Hid (W2.heap[wr.heap.size]? = _) := hN2
      have hsz2 : W2.heap.size = wr.heap.size + 1 := by rw [hW2]; simp
      clear hb2 hN2
      go_upto_region 6 with fail
      rw [← hW2]
      clear hW2 e0 e1 e2 e3 e4 e5
      have hkc : (convert 70 70 (.slice (some ⟨wr.heap.size + 1, 0, none⟩) 64 64)).run Try.prog (W2.alloc (.cells #[.int .u8 48, .int .u8 49, .int .u8 50, .int .u8 51, .int .u8 52, .int .u8 53, .int .u8 54, .int .u8 55, .int .u8 56, .int .u8 57, .int .u8 97, .int .u8 98, .int .u8 99, .int .u8 100, .int .u8 101, .int .u8 102, .int .u8 48, .int .u8 49, .int .u8 50, .int .u8 51, .int .u8 52, .int .u8 53, .int .u8 54, .int .u8 55, .int .u8 56, .int .u8 57, .int .u8 97, .int .u8 98, .int .u8 99, .int .u8 100, .int .u8 101, .int .u8 102, .int .u8 48, .int .u8 49, .int .u8 50, .int .u8 51, .int .u8 52, .int .u8 53, .int .u8 54, .int .u8 55, .int .u8 56, .int .u8 57, .int .u8 97, .int .u8 98, .int .u8 99, .int .u8 100, .int .u8 101, .int .u8 102, .int .u8 48, .int .u8 49, .int .u8 50, .int .u8 51, .int .u8 52, .int .u8 53, .int .u8 54, .int .u8 55, .int .u8 56, .int .u8 57, .int .u8 97, .int .u8 98, .int .u8 99, .int .u8 100, .int .u8 101, .int .u8 102] 5)) = .ok (.slice (some ⟨wr.heap.size + 1, 0, none⟩) 64 64) (W2.alloc (.cells cells64 5 (64, 65))) := by
        have h9 := Lib.run_convert_bytes_const (P := Try.prog) W2 70 5 cells64 64 64 Try.underlying70 Try.underlying5
        rw [hsz2] at h9
        exact h9
      go_upto_region 7 with fail
      obtain ⟨W3, hW3⟩ : ∃ W3, W3 = W2.alloc (.cells cells64 5 (64, 65)) := ⟨_, rfl⟩
      rw [← hW3]
      have hb3 : Below W2.heap.size W2 W3 := by rw [hW3]; exact (Below.refl _ W2).alloc (Nat.le_refl _) _
      have HR3 : Hid (DR W3 (wr.heap.size + 1) (digL y.n 0)) := by
        unfold Hid DR; rw [← digL0 y.n, hW3]; have h9 := heap_alloc_new W2 (.cells cells64 5 (64, 65)); rw [hsz2] at h9; exact h9
      have HB3 : Hid (Below w.heap.size w W3) := HB2.out.trans (hb3.mono HB2.out.size)
      have HO3 : Hid (HO W3 w.heap.size (.slice ua k uc) G) := HO2.out.below hb3
      have hN3 : W3.heap[wr.heap.size]? = some (.cells #[.string (mkB y.n), .int .i64 y.m, .int .u32 y.c, .int .i64 y.p, .int .i64 y.s, .int .i64 y.a] 38 (0, 0)) := (hb3.block _ (by omega)).trans HN2.out
      have HN3 : Hid (W3.heap[wr.heap.size]? = some (.cells #[.string (mkB y.n), .int .i64 y.m, .int .u32 y.c, .int .i64 y.p, .int .i64 y.s, .int .i64 y.a] 38 (0, 0))) := hN3
      clear hkc hW3 hb3 hN3 HB2 HO2 HN2
      go_wp2
      have hNb : w.heap.size ≤ wr.heap.size := HB.out.size
      have HOB : Hid (∀ r, (Value.slice ua k uc).ownBlock = some r → r < wr.heap.size) := fun r hr => (World.ownsRow.lt HHO.out r hr).2
      clear HHO HB
      generalize wr.heap.size = N at *
      have hyz := mkB_size y.n
      obtain ⟨yn, hyn⟩ : ∃ yn, yn = y.n.length := ⟨_, rfl⟩
      have HYN : Hid (yn = y.n.length) := hyn
      rw [← hyn] at hyz
      clear hyn
      go_loopw [7] (fun i wr => ∃ (j : Nat), j ≤ 64 ∧ j ≤ yn ∧ i = .int .i64 (j : Int) ∧ DR wr (N + 1) (digL y.n j) ∧ W3.grownBy wr (some (N + 1))) (fun i _ => 64 - (intOf i).toNat)
      case atStart => exact ⟨0, Nat.zero_le _, Nat.zero_le _, rfl, HR3.out, World.grownBy.refl _ _⟩
      case round =>
        obtain ⟨j, hj, hjn, rfl, hD, hgr⟩ := hrel
        have HD : Hid (DR wr (N + 1) (digL y.n j)) := hD
        have HGR : Hid (W3.grownBy wr (some (N + 1))) := hgr
        have hNq : wr.heap[N]? = some (.cells #[.string (mkB y.n), .int .i64 y.m, .int .u32 y.c, .int .i64 y.p, .int .i64 y.s, .int .i64 y.a] 38 (0, 0)) := (hgr.block _ (Array.getElem?_eq_some_iff.1 HN3.out).1 (fun e => by have := Option.some.inj e; omega)).trans HN3.out
        have b0 : wr.cell? ⟨N, 0, none⟩ = some (.string (mkB y.n)) := (cell_of_row _ _ _ _ _ _ hNq).trans rfl
        have HNq : Hid (wr.heap[N]? = _) := hNq
        clear hgr
        by_cases hjl : j < yn ∧ j < 64
        · obtain ⟨j1, j2⟩ := hjl
          have j1i : (j : Int) < (yn : Int) := by omega
          have j2i : (j : Int) < 64 := by omega
          have hcq := hD.cell j
          have hfq := hD.fz j j2
          rw [digL_get _ _ _ j2] at hcq
          generalize (if j < j ∧ j < y.n.length then hexd ((y.n.getD j 0).toNat % 16) else hexd (j % 16)) = old at hcq
          change wr.cell? ⟨N + 1, j, none⟩ = some (.int .u8 (old : Int)) at hcq
          clear hD hNq
          go_wp2
          refine ⟨⟨j + 1, by omega, by omega, by go_num, ?_, gset HGR.out _ _⟩, by simp [intOf]; omega⟩
          rw [hex_at]
          have h9 := HD.out.set j (hexd ((y.n.getD j 0).toNat % 16))
          rw [digL_set y.n j (by rw [← HYN.out]; exact j1) j2] at h9
          exact h9
        · have HDE : Hid (DR wr (N + 1) (digL y.n 64)) := by
            have h9 := HD.out
            rw [digL_end y.n j (by rw [← HYN.out]; omega)] at h9
            exact h9
          have b1 : wr.cell? ⟨N, 1, none⟩ = some (.int .i64 y.m) := (cell_of_row _ _ _ _ _ _ hNq).trans rfl
          have b2 : wr.cell? ⟨N, 2, none⟩ = some (.int .u32 y.c) := (cell_of_row _ _ _ _ _ _ hNq).trans rfl
          have b3 : wr.cell? ⟨N, 3, none⟩ = some (.int .i64 y.p) := (cell_of_row _ _ _ _ _ _ hNq).trans rfl
          have b4 : wr.cell? ⟨N, 4, none⟩ = some (.int .i64 y.s) := (cell_of_row _ _ _ _ _ _ hNq).trans rfl
          have b5 : wr.cell? ⟨N, 5, none⟩ = some (.int .i64 y.a) := (cell_of_row _ _ _ _ _ _ hNq).trans rfl
          have hcv := HDE.out.conv (digL_len _ _)
          rw [bs_dig (digL y.n 64)] at hcv
          have h65 := and65535
          have HOq : Hid (HO wr w.heap.size (.slice ua k uc) G) := World.ownsRow.kept HO3.out HGR.out (.inr (fun e => by have h8 := HOB.out _ e; omega))
          have HBq : Hid (Below w.heap.size w wr) := HB3.out.grown HGR.out HB3.out.size (fun z hz => by cases hz; omega)
          have hcase : ¬ (j : Int) < (yn : Int) ∨ ((j : Int) < (yn : Int) ∧ ¬ (j : Int) < 64) := by omega
          have HSZ : Hid (wr.alloc (.cells #[.string (mkB ((digL y.n 64).map UInt8.ofNat)), .int .i64 (y.m % 65536), .int .u32 y.c, .int .i64 (y.p % 65536), .int .i64 (y.s % 65536), .int .i64 (y.a % 65536)] 38) = wr.alloc (.cells (hdV (fewH y)) 38)) := rfl
          have HBz : Hid (w.heap.size ≤ wr.heap.size) := HBq.out.size
          have hG : G.length = k := HLEN.out
          have HOk : Hid (HO wr w.heap.size (.slice ua G.length uc) G) := by unfold Hid; rw [hG]; exact HOq.out
          clear hD HD hNq HR3 HB3 HO3 HN3 HGR HNq HDE
          rcases hcase with j1 | ⟨j1, j2⟩
          all_goals
            go_wp2_with (at_builtin; rw [show wr.alloc (.cells #[.string (mkB ((digL y.n 64).map UInt8.ofNat)), .int .i64 (y.m % 65536), .int .u32 y.c, .int .i64 (y.p % 65536), .int .i64 (y.s % 65536), .int .i64 (y.a % 65536)] 38) = wr.alloc (.cells (hdV (fewH y)) 38) from rfl]; refine append_hd rfl _ _ rfl w.heap.size (.slice ua G.length uc) G (fewH y) (by rw [hG]; rfl) rfl HOk.out (by omega) HBz.out ?_; intro a' c' w3 hO3 hg3; rw [hG] at hO3 ⊢; have HO5 : Hid (HO w3 w.heap.size (.slice a' (k + 1) c') ((l.take (k + 1)).map fewH)) := (by unfold Hid; rw [HT.out]; exact hO3); have HB5 : Hid (Below w.heap.size w w3) := HBq.out.grown hg3 HBz.out (fun r hr => (World.ownsRow.lt HOk.out r hr).1); clear hO3 hg3)
            refine ⟨⟨k + 1, a', c', by omega, by omega, by go_num, rfl, HO5.out, HB5.out⟩, by simp [intOf]; omega⟩
    · have hcase : ¬ (k : Int) < (n : Int) ∨ ((k : Int) < (n : Int) ∧ ¬ (k : Int) < 12) := by omega
      have HE : Hid ((l.take k).map fewH = fewL l) := by
        unfold Hid fewL
        rw [show l.take k = l.take 12 from by
          rcases hcase with h | ⟨h, h2⟩
          · rw [List.take_of_length_le (by have := HN.out; omega), List.take_of_length_le (by have := HN.out; omega)]
          · have : k = 12 := by omega
            rw [this]]
      have HKL : Hid ((fewL l).length = k) := by
        unfold Hid; rw [← HE.out, List.length_map, List.length_take]; have := HN.out; omega
      rcases hcase with j1 | ⟨j1, j2⟩
      all_goals
        go_wp2
        go_ret
        rw [HKL.out]
        rw [HE.out] at HHO
        exact ⟨ua, uc, rfl, HHO.out, HB.out⟩
end Go.Proofs.Ytpfjcdfhlcnlcaa
