/- Contract of the law's own 'awake' of layer 4: it returns true. Symbols whose codes stand one behind another are read again; what else HuffAgain's walk wants. What CellarerCodes' walk wants: plain mathematics, no program. Contract of the law's own Few: at most n bytes of a text. -/
import Derived.Test.YtclmjopppaknjaaQHuffD
import Derived.Laws.StructEq
import Derived.Test.YtclmjopppaknjaaQSnkM
import Derived.Test.YtclmjopppaknjaaQSnkA
import Derived.Test.YtclmjopppaknjaaQHLen
import Derived.Test.YtclmjopppaknjaaQHuffC
import Derived.Test.YtclmjopppaknjaaRows
import Derived.Test.YtclmjopppaknjaaQIntR
import Derived.Test.YtclmjopppaknjaaQSrc2
namespace Go.Proofs.Ytclmjopppaknjaa
open Go.RowKit
set_option linter.unusedVariables false

theorem aw4_ok : errN [2, 1, 3, 3] = 0 := by decide +kernel
theorem aw4_bad : errN [2, 2] = 4 := by decide +kernel
theorem aw4_cd0 : cdOf (toN [2, 1, 3, 3]) 0 = 2 ∧ ln (toN [2, 1, 3, 3]) 0 = 2 ∧ cdOf (toN [2, 1, 3, 3]) 3 = 7 ∧ ln (toN [2, 1, 3, 3]) 3 = 3 := by decide +kernel
theorem below_trans {a b c : World} (h : Below a.heap.size a b) (k : Below b.heap.size b c) : Below a.heap.size a c := h.trans (k.mono h.size)
theorem IR.lit (w : World) (zs : List Int) (n : Nat) (hn : n = zs.length) : IR (w.alloc (.cells (ic zs).toArray 3)) (.slice (some ⟨w.heap.size, 0, none⟩) n n) zs := by
  subst hn
  refine ⟨w.heap.size, zs.length, rfl, by rw [World.size_alloc]; omega, fun i hi => ?_⟩
  rw [cell_of_row _ _ _ _ _ _ (heap_alloc_new w _), List.getElem?_toArray, ic_at _ _ hi]
set_option maxRecDepth 100000 in
set_option maxHeartbeats 1000000 in
theorem awake4_any (w : World) : Calls Try.prog 9 #[] w fun e w' => e = .returned (.bool true) ∧ Below w.heap.size w w' := by
  have hI1 := IR.lit w [2, 1, 3, 3] 4 rfl
  go_enter Try.func9, Try.ntmps9
  go_wp2_with fail
  refine (codes_ok _ [2, 1, 3, 3] _ hI1 aw4_ok).mono ?_
  rintro e w1 ⟨rfl, hR1, hb1⟩
  have hB1 : Below w.heap.size w w1 := ((Below.refl _ w).alloc (Nat.le_refl _) _).trans (hb1.mono (by simp))
  have hI2 := IR.lit w1 [2, 2] 2 rfl
  have hlt := hR1.lt
  rw [World.size_alloc] at hlt
  have hsz : (w.alloc (.cells (ic [2, 1, 3, 3]).toArray 3)).heap.size = w.heap.size + 1 := World.size_alloc _ _
  obtain ⟨e0, e1, e2, e3⟩ := aw4_cd0
  have c0 : w1.cell? ⟨w.heap.size + 1, 0, none⟩ = some (.int .u32 2) := by rw [← hsz, hR1.cell (i := 0) (by decide)]; simp only [codeF, e0, e1]; rfl
  have c1 : w1.cell? ⟨w.heap.size + 1, 1, none⟩ = some (.int .i64 2) := by rw [← hsz, hR1.cell (i := 1) (by decide)]; simp only [codeF, e0, e1]; rfl
  have c6 : w1.cell? ⟨w.heap.size + 1, 6, none⟩ = some (.int .u32 7) := by rw [← hsz, hR1.cell (i := 6) (by decide)]; simp only [codeF, e2, e3]; rfl
  have c7 : w1.cell? ⟨w.heap.size + 1, 7, none⟩ = some (.int .i64 3) := by rw [← hsz, hR1.cell (i := 7) (by decide)]; simp only [codeF, e2, e3]; rfl
  clear hsz
  clear hR1 hb1 hI1 e0 e1 e2 e3
  go_wp2_with fail
  refine (codes_bad _ [2, 2] _ hI2 (by decide) (by rw [aw4_bad]; decide)).mono ?_
  rw [aw4_bad]
  rintro e w2 ⟨rfl, rfl⟩
  have hB2 : Below w.heap.size w (w1.alloc (.cells (ic [2, 2]).toArray 3)) := hB1.alloc hB1.size _
  clear hI2
  have c0' : (w1.alloc (.cells (ic [2, 2]).toArray 3)).cell? ⟨w.heap.size + 1, 0, none⟩ = some (.int .u32 2) := by rw [World.cell?_alloc_lt _ _ _ hlt]; exact c0
  have c1' : (w1.alloc (.cells (ic [2, 2]).toArray 3)).cell? ⟨w.heap.size + 1, 1, none⟩ = some (.int .i64 2) := by rw [World.cell?_alloc_lt _ _ _ hlt]; exact c1
  have c6' : (w1.alloc (.cells (ic [2, 2]).toArray 3)).cell? ⟨w.heap.size + 1, 6, none⟩ = some (.int .u32 7) := by rw [World.cell?_alloc_lt _ _ _ hlt]; exact c6
  have c7' : (w1.alloc (.cells (ic [2, 2]).toArray 3)).cell? ⟨w.heap.size + 1, 7, none⟩ = some (.int .i64 3) := by rw [World.cell?_alloc_lt _ _ _ hlt]; exact c7
  have hOut : ∀ x : World, x = w1.alloc (.cells (ic [2, 2]).toArray 3) → Below w.heap.size w x := fun x hx => by rw [hx]; exact hB2
  go_wp2
  go_ret
  exact ⟨rfl, hB2⟩
end Go.Proofs.Ytclmjopppaknjaa
namespace Go.Proofs.Ytclmjopppaknjaa
open Go.RowKit
set_option linter.unusedVariables false

/-- The codes of these symbols, one behind another. -/
def bitsOf (ns : List Nat) : List Nat → List Bool
  | [] => []
  | t :: r => codeS ns t ++ bitsOf ns r
theorem bitsOf_append (ns : List Nat) : ∀ a b, bitsOf ns (a ++ b) = bitsOf ns a ++ bitsOf ns b
  | [], b => rfl
  | t :: r, b => by rw [List.cons_append, bitsOf, bitsOf, bitsOf_append ns r b, List.append_assoc]
theorem bitsOf_one (ns : List Nat) (t : Nat) : bitsOf ns [t] = codeS ns t := by simp [bitsOf]
theorem bitsOf_le (ns : List Nat) (h : all15 ns) : ∀ l, (bitsOf ns l).length ≤ 15 * l.length
  | [] => Nat.zero_le _
  | t :: r => by
    have := bitsOf_le ns h r
    have h2 := h.at t
    rw [bitsOf, List.length_append, codeS_len, List.length_cons]; omega
/-- What is read where a code stands. -/
theorem next_code (ns : List Nat) (h15 : all15 ns) (hf : fitB ns = true) (f : Nat → Bool) (left j t : Nat) (y e : Int) (ht : Used ns ns.length t) (hft : pfB f (ln ns t) = codeS ns t) (hl : ln ns t ≤ left) (h : NextR ns f left j y e) :
    y = (t : Int) ∧ e = 0 ∧ j + 1 = ln ns t := by
  obtain ⟨⟨hu, _⟩, h⟩ := h
  have htp := ht.2
  have hj : j < ln ns t := by
    rcases Nat.lt_or_ge j (ln ns t) with hlt | hge
    · exact hlt
    · exfalso
      rcases hu with rfl | ⟨t', h1, h2, h3⟩
      · omega
      · have hp : codeS ns t <+: codeS ns t' := by rw [← hft]; exact (pfB_prefix f _ _ hge).trans h2
        obtain rfl := codeS_pf ns h15 hf t t' ht.1 h1.1 ht.2 h1.2 hp
        have := h2.length_le
        rw [pfB_len, codeS_len] at this
        exact h3 (h2.eq_of_length (by rw [pfB_len, codeS_len]; omega))
  have hp1 : pfB f (j + 1) <+: codeS ns t := by rw [← hft]; exact pfB_prefix f _ _ hj
  rcases h with ⟨h1, _⟩ | ⟨_, ⟨t', h1, h2, h3, h4⟩ | ⟨h1, _⟩⟩
  · omega
  · rw [← h2] at hp1
    obtain rfl := codeS_pf ns h15 hf t' t h1.1 ht.1 h1.2 ht.2 hp1
    have := congrArg List.length h2
    rw [codeS_len, pfB_len] at this
    exact ⟨h3, h4, this.symm⟩
  · exact absurd hp1 (h1 t ht)
/-- The bits of the symbol behind the first m. -/
theorem there_code (ns : List Nat) (ls : List Nat) (m t : Nat) (hm : ls[m]? = some t) : pfB (fun i => sbit (packS (bitsOf ns ls)).data.toList ((bitsOf ns (ls.take m)).length + i)) (ln ns t) = codeS ns t ∧
    (bitsOf ns (ls.take m)).length + ln ns t ≤ (bitsOf ns ls).length ∧ bitsOf ns (ls.take (m + 1)) = bitsOf ns (ls.take m) ++ codeS ns t := by
  have hlt : m < ls.length := (List.getElem?_eq_some_iff.1 hm).1
  have e1 : ls.take (m + 1) = ls.take m ++ [t] := by rw [List.take_add_one, hm]; rfl
  have e2 : bitsOf ns (ls.take (m + 1)) = bitsOf ns (ls.take m) ++ codeS ns t := by rw [e1, bitsOf_append, bitsOf_one]
  have e3 : bitsOf ns ls = (bitsOf ns (ls.take m) ++ codeS ns t) ++ bitsOf ns (ls.drop (m + 1)) := by rw [← e2, ← bitsOf_append, List.take_append_drop]
  refine ⟨?_, by rw [e3, List.length_append, List.length_append, codeS_len]; omega, e2⟩
  apply List.ext_getElem?
  intro i
  by_cases hi : i < ln ns t
  · unfold pfB
    rw [List.getElem?_map, List.getElem?_range hi]
    simp only [Option.map_some]
    rw [packS_data, packL_bit, e3, List.getD_eq_getElem?_getD, List.append_assoc, List.getElem?_append_right (by omega), Nat.add_sub_cancel_left, List.getElem?_append_left (by rw [codeS_len]; exact hi), List.getElem?_eq_getElem (by rw [codeS_len]; exact hi)]
    rfl
  · rw [List.getElem?_eq_none (by rw [pfB_len]; omega), List.getElem?_eq_none (by rw [codeS_len]; omega)]
theorem introw_at {w : World} {a : Option Addr} {len cap : Nat} {zs : List Int} (h : IsRow .i64 w a len cap zs) {k : Nat} (hk : k < len) :
    (∃ b off, a = some ⟨b, off, none⟩ ∧ w.cell? ⟨b, off + k, none⟩ = some (.int .i64 (zs.getD k 0)) ∧ b < w.heap.size) ∧ -9223372036854775808 ≤ zs.getD k 0 ∧ zs.getD k 0 ≤ 9223372036854775807 := by
  rcases h with ⟨_, h0, _⟩ | ⟨x, rfl, hl, hm, hz, hcell, hwf⟩
  · omega
  · obtain ⟨b, off, spot⟩ := x
    have hc := hcell k (by omega)
    have hmem : zs.getD k 0 ∈ zs := by
      rw [List.getD_eq_getElem?_getD, List.getElem?_eq_getElem (by omega)]; simp
    have hbd := bounds_i64 (hwf _ hmem)
    have hspot : spot = none := by simpa [Addr.add] using World.cell?_spot (hcell 0 (by omega))
    subst hspot
    have e2 : (⟨b, off, none⟩ : Addr).add k = ⟨b, off + k, none⟩ := by unfold Addr.add; split <;> simp_all
    rw [e2] at hc
    exact ⟨⟨b, off, rfl, hc, World.block_lt_of_cell? w _ hc⟩, hbd.1, hbd.2⟩
theorem Chain.keptRow {w w' : World} {g gb : Nat} {L : List Bool} {c : Array Value} {ty : TypeId} (hg : w.grownBy w' (some gb)) (hrow : w.heap[gb]? = some (.cells c ty (0, 0))) (hty : ty ≠ 113) : ∀ {m : Nat} {p : Option Addr}, Chain w g L m p → Chain w' g L m p
  | 0, _, h => h
  | m + 1, p, ⟨b, p', h1, h2, h3, h4⟩ => ⟨b, p', h1, h2, (hg.block b (lt_of_some h3) (fun e => by
      cases e
      rw [hrow] at h3
      simp only [Option.some.injEq, Obj.cells.injEq] at h3
      exact hty h3.2.1)).trans h3, Chain.keptRow hg hrow hty h4⟩
theorem SinkAt.keptRow {w w' : World} {g gb : Nat} {L : List Bool} {c : Array Value} {ty : TypeId} (h : SinkAt w g L) (hg : w.grownBy w' (some gb)) (hrow : w.heap[gb]? = some (.cells c ty (0, 0))) (hty : ty ≠ 113) (hne : g ≠ gb) : SinkAt w' g L := by
  have hl := h.lt
  obtain ⟨p, h1, h2⟩ := h
  exact ⟨p, (hg.block g hl (fun e => hne (by cases e; rfl))).trans h1, h2.keptRow hg hrow hty⟩
/-- These symbols as integers. -/
def symZ (ls : List Nat) : List Int := ls.map fun n : Nat => (n : Int)
theorem symZ_len (ls : List Nat) : (symZ ls).length = ls.length := by simp [symZ]
theorem symZ_at (ls : List Nat) (m t : Nat) (h : ls[m]? = some t) : (symZ ls).getD m 0 = (t : Int) := by simp [symZ, List.getD_eq_getElem?_getD, h]
theorem ic_snoc (ls : List Nat) (t : Nat) : ic (symZ (ls ++ [t])) = ic (symZ ls) ++ [.int .i64 (t : Int)] := by simp [ic, symZ]
theorem near_small (n : Nat) (h : n ≤ 32) : near (n : Int) 32 = n := by unfold near; omega
end Go.Proofs.Ytclmjopppaknjaa
namespace Go.Proofs.Ytclmjopppaknjaa
open Go
set_option linter.unusedVariables false

/-- A later symbol's length is never the greater one. -/
theorem outK_mono (ws : List Nat) {j k : Nat} (h : j ≤ k) : ∀ i c, outK ws k i c ≤ outK ws j i c
  | 0, c => Nat.le_refl _
  | i + 1, c => by
    have := outK_mono ws h i (nextC ws i c)
    rw [outK, outK]
    by_cases h1 : k < ones (rowK ws (i + 1)) c
    · rw [if_pos h1, if_pos (by omega)]; omega
    · rw [if_neg h1]; omega
theorem lenK_mono (ws : List Nat) (m : Nat) {j k : Nat} (h : j ≤ k) : lenK ws m k ≤ lenK ws m j := outK_mono ws h _ _
/-- Of three the last has one bit. -/
theorem len3 {ws : List Nat} (hR : Rising ws) (h3 : ws.length = 3) : lenK ws 15 2 = 1 := by
  have hw := lenK_whole (most := 15) hR (by omega) (by omega) (by rw [h3]; decide)
  have hp := lenK_pos (most := 15) (j := 2) hR (by omega) (by omega) (by rw [h3]; decide) (by omega)
  have m1 := lenK_mono ws 15 (show 1 ≤ 2 by omega)
  have m0 := lenK_mono ws 15 (show 0 ≤ 2 by omega)
  rw [h3] at hw
  simp only [sumK] at hw
  by_cases h : lenK ws 15 2 = 1
  · exact h
  · exfalso
    have e2 : 2 ^ (15 - lenK ws 15 2) ≤ 2 ^ 13 := Nat.pow_le_pow_right (by decide) (by omega)
    have e1 : 2 ^ (15 - lenK ws 15 1) ≤ 2 ^ 13 := Nat.pow_le_pow_right (by decide) (by omega)
    have e0 : 2 ^ (15 - lenK ws 15 0) ≤ 2 ^ 13 := Nat.pow_le_pow_right (by decide) (by omega)
    omega
theorem codes_awake (ss : List Nat) (h : RisP [5, 1, 1, 0] ss) : (lensOf [5, 1, 1, 0] ss 15).getD 0 0 = 1 := by
  have hp : ss.Perm [0, 1, 2] := h.perm
  have hl : ss.length = 3 := hp.length_eq
  have hnd : ss.Nodup := hp.nodup_iff.2 (by decide)
  have hr := h.rise
  have hmem : ∀ i, i ∈ ss ↔ i = 0 ∨ i = 1 ∨ i = 2 := fun i => by rw [hp.mem_iff]; simp
  match ss, hl with
  | [a, b, c], _ =>
    have ha := (hmem a).1 (by simp)
    have hb := (hmem b).1 (by simp)
    have hc := (hmem c).1 (by simp)
    have h0 := (hmem 0).2 (.inl rfl)
    have hc0 : c = 0 := by
      simp only [List.mem_cons, List.not_mem_nil, or_false] at h0
      simp only [List.map_cons, List.map_nil, Rising, List.mem_cons, List.not_mem_nil, or_false] at hr
      simp only [List.nodup_cons, List.mem_cons, List.not_mem_nil, or_false, not_or] at hnd
      rcases h0 with h0 | h0 | h0
      · subst h0
        have := hr.1 _ (.inl rfl)
        rcases hb with rfl | rfl | rfl
        · exact absurd rfl hnd.1.1
        · simp at this
        · simp at this
      · subst h0
        have := hr.2.1 _ rfl
        rcases hc with rfl | rfl | rfl
        · rfl
        · simp at this
        · simp at this
      · exact h0.symm
    have hin := putL_in [a, b, c] (lenF [5, 1, 1, 0] [a, b, c] 15) 4 hnd (fun i hi => by have := (hmem i).1 hi; omega) 3 (Nat.le_refl _) 2 (by omega)
    have e : (lensOf [5, 1, 1, 0] [a, b, c] 15).getD 0 0 = lenF [5, 1, 1, 0] [a, b, c] 15 2 := by
      subst hc0; exact hin
    rw [e]
    unfold lenF
    rw [if_neg (by simp)]
    exact len3 h.rise (by simp [wOf])
/-- How often each byte stands among the first k. -/
def cntF (l : List Nat) (k : Nat) : Nat → Nat := fun b => (l.take k).count b
theorem cntF_zero (l : List Nat) (b : Nat) : cntF l 0 b = 0 := by simp [cntF]
theorem cntF_step (l : List Nat) (k t : Nat) (h : l[k]? = some t) (b : Nat) : cntF l (k + 1) b = if b = t then cntF l k t + 1 else cntF l k b := by
  unfold cntF
  rw [List.take_add_one, h, List.count_append]
  by_cases e : b = t
  · subst e; rw [if_pos rfl]; simp
  · rw [if_neg e]
    have : List.count b [t] = 0 := List.count_eq_zero.2 (by simp; exact e)
    show _ + List.count b [t] = _
    rw [this]; rfl
theorem cntF_le (l : List Nat) (k b : Nat) : cntF l k b ≤ l.length := Nat.le_trans List.count_le_length (by rw [List.length_take]; omega)
/-- The counts. -/
def cntZ (l : List Nat) : List Int := (List.range 256).map fun b => (cntF l l.length b : Int)
theorem cntZ_len (l : List Nat) : (cntZ l).length = 256 := by simp [cntZ]
theorem cntZ_at (l : List Nat) (b : Nat) (h : b < 256) : (cntZ l).getD b 0 = (cntF l l.length b : Int) := by
  simp [cntZ, List.getD_eq_getElem?_getD, h]
theorem cntZ_pos (l : List Nat) (hl : ∀ t ∈ l, t < 256) (t : Nat) (h : t ∈ l) : 0 < (cntZ l).getD t 0 := by
  rw [cntZ_at l t (hl t h)]
  have : 0 < l.count t := List.count_pos_iff.2 h
  unfold cntF
  rw [List.take_length]
  omega
theorem cntZ_chk (l : List Nat) (hl : l.length ≤ 300) (m : Nat) (h1 : 8 ≤ m) (h2 : m ≤ 15) : chkC (cntZ l) (m : Int) = 0 := by
  unfold chkC
  rw [if_neg (by rw [cntZ_len]; omega), if_neg (by omega), if_neg]
  rintro ⟨z, hz, hq⟩
  obtain ⟨b, _, rfl⟩ := List.mem_map.1 hz
  have := cntF_le l l.length b
  omega
theorem cntZ_few (l : List Nat) (m : Nat) (h1 : 8 ≤ m) : (posL (cntZ l) (cntZ l).length).length ≤ 2 ^ m := by
  have := posL_len (cntZ l) (cntZ l).length
  rw [cntZ_len] at this
  have h : 2 ^ 8 ≤ 2 ^ m := Nat.pow_le_pow_right (by decide) h1
  rw [cntZ_len]
  omega
/-- Lengths as integers. -/
def zOf (ns : List Nat) : List Int := ns.map fun n : Nat => (n : Int)
theorem zOf_len (ns : List Nat) : (zOf ns).length = ns.length := by simp [zOf]
theorem zOf_toN (ns : List Nat) : toN (zOf ns) = ns := by
  unfold toN zOf
  rw [List.map_map]
  conv => rhs; rw [← List.map_id ns]
  exact List.map_congr_left fun i _ => by simp
theorem zOf_nc (ns : List Nat) : nc ns = ic (zOf ns) := by unfold nc ic zOf; rw [List.map_map]; rfl
theorem zOf_err {zs : List Int} {m : Nat} {ns : List Nat} (h : LenP zs m ns) (hm : m ≤ 15) (hl : zs.length ≤ 320) : errN (zOf ns) = 0 := by
  refine errN_ok (by rw [zOf_len, h.len]; omega) ?_ (by rw [zOf_toN]; exact h.fit)
  intro i hi
  rw [zOf_len] at hi
  have e : (zOf ns).getD i 0 = (ns.getD i 0 : Int) := by simp [zOf, List.getD_eq_getElem?_getD, List.getElem?_eq_getElem hi]
  have := h.le i
  rw [e]
  omega
end Go.Proofs.Ytclmjopppaknjaa
namespace Go.Proofs.Ytclmjopppaknjaa
open Go.RowKit
set_option linter.unusedVariables false

set_option maxRecDepth 100000 in
set_option maxHeartbeats 400000 in
theorem few_any (s : ByteArray) (n : Int) (w : World) (hn : 0 ≤ n) (hs : s.size ≤ 9223372036854775807) :
    Calls Try.prog 13 #[.string s, .int .i64 n] w fun e w' => e = .returned (.string (s.extract 0 n.toNat)) ∧ w' = w := by
  obtain ⟨m, rfl⟩ := Int.eq_ofNat_of_zero_le hn
  rw [Int.toNat_natCast]
  by_cases h : m < s.size
  · go_enter Try.func13, Try.ntmps13
    go_wp2
    go_ret
    exact ⟨rfl, rfl⟩
  · have HE : Hid (_ = _) := few_all s m (by omega)
    go_enter Try.func13, Try.ntmps13
    go_wp2
    go_ret
    rw [HE.out]
    exact ⟨rfl, rfl⟩
end Go.Proofs.Ytclmjopppaknjaa
