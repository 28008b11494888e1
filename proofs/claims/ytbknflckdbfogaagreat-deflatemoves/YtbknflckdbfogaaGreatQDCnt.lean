/- Rows of counts; deflate's lengthsOf. -/
import Derived.Test.YtbknflckdbfogaaGreatQDSgs
import Derived.Test.YtbknflckdbfogaaGreatQEncB
import Derived.Laws.MakeOwn
import Derived.Deep.RegionHeld3
namespace Go.Proofs.YtbknflckdbfogaaGreat
open Go.RowKit
set_option linter.unusedVariables false
set_option linter.unusedSimpArgs false

/-- A row of n counts in block g. -/
def NRw (w : World) (g n : Nat) (c : Nat → Nat) : Prop := w.heap[g]? = some (.cells ((List.range n).map fun i => Value.int .i64 (c i : Int)).toArray 3 (0, 0))
theorem NRw.lt {w : World} {g n : Nat} {c : Nat → Nat} (h : NRw w g n c) : g < w.heap.size := (Array.getElem?_eq_some_iff.1 h).1
theorem NRw.cell {w : World} {g n : Nat} {c : Nat → Nat} (h : NRw w g n c) (j : Nat) (hj : j < n) : w.cell? ⟨g, j, none⟩ = some (.int .i64 (c j : Int)) := by
  unfold NRw at h
  unfold World.cell?
  rw [h]
  simp [hj]
theorem NRw.fz {w : World} {g n : Nat} {c : Nat → Nat} (h : NRw w g n c) (j : Nat) : w.frozen? ⟨g, j, none⟩ = false := by
  unfold NRw at h
  simp [World.frozen?, h]
theorem NRw.keep {w w' : World} {g n : Nat} {c : Nat → Nat} (h : NRw w g n c) (hb : w'.heap[g]? = w.heap[g]?) : NRw w' g n c := hb.trans h
theorem NRw.eq {w : World} {g n : Nat} {b b' : Nat → Nat} (h : NRw w g n b) (hb : ∀ i, i < n → b' i = b i) : NRw w g n b' := by
  unfold NRw at h ⊢
  rw [h]
  congr 2
  congr 1
  apply List.map_congr_left
  intro i hi
  rw [hb i (List.mem_range.1 hi)]
theorem NRw.set {w : World} {g n : Nat} {b : Nat → Nat} (h : NRw w g n b) (j x : Nat) (b' : Nat → Nat) (hb : ∀ i, i < n → b' i = if i = j then x else b i) : NRw (w.setCell ⟨g, j, none⟩ (.int .i64 (x : Int))) g n b' := by
  unfold NRw at h ⊢
  have : (w.setCell ⟨g, j, none⟩ (.int .i64 (x : Int))).heap[g]? = some (.cells (((List.range n).map fun i => Value.int .i64 (b i : Int)).toArray.setIfInBounds j (.int .i64 (x : Int))) 3 (0, 0)) := by simp [World.setCell, Array.getElem?_modify, h]
  rw [this]
  congr 2
  apply Array.toList_inj.1
  rw [Array.toList_setIfInBounds]
  apply List.ext_getElem? fun i => ?_
  rw [List.getElem?_set]
  by_cases hi : i < n
  · have hb' := hb i hi
    by_cases e : j = i
    · subst e
      rw [if_pos rfl] at hb'
      simp [hi, hb']
    · rw [if_neg (fun h => e h.symm)] at hb'
      rw [if_neg e]
      simp [hi, hb']
  · simp [hi]; omega
theorem Tryz.infoIz : (Tryz.prog.info? 3).map (fun i => (i.zero, i.size, i.bytes)) = some (some (.int .i64 0), 1, 8) := by kernel_rfl
theorem made_it : ∀ n : Nat, madeCells #[Value.int .i64 0] n = ((List.range n).map fun _ => Value.int .i64 ((0 : Nat) : Int)).toArray := by
  intro n
  apply Array.toList_inj.1
  apply List.ext_getElem? fun i => ?_
  simp [madeCells]
  by_cases h : i < n <;> simp [h, Nat.mod_one]
def zeroRow (n : Nat) : Array Value := ((List.range n).map fun _ => Value.int .i64 ((0 : Nat) : Int)).toArray
set_option maxRecDepth 100000 in
theorem make_it (n : Nat) (hn : n ≤ 1000) (W : World) : (Instr.makeSlice 40 (.int .i64 (n : Int)) (.int .i64 (n : Int))).run Tryz.prog W = .ok (.slice (some ⟨W.heap.size, 0, none⟩) n n) (W.alloc (.cells (zeroRow n) 3)) := by
  obtain ⟨i0, hi, hz0, hz1, hz2⟩ := info_parts Tryz.infoIz
  have h := run_makeSlice (P := Tryz.prog) (w := W) 40 3 i0 (.int .i64 0) Tryz.underlying40 hi hz0 .i64 .i64 n n (by omega) (by omega) (by rw [hz1]; omega) (by rw [hz2]; omega) (by omega)
  rw [h]
  simp only [Int.toNat_natCast, hz1, Nat.mul_one, Value.cells]
  rw [made_it]; rfl
theorem NRw.made (W : World) (n : Nat) : NRw (W.alloc (.cells (zeroRow n) 3)) W.heap.size n (fun _ => 0) := heap_alloc_new W _
theorem NRw.iq {w : World} {g n : Nat} {c : Nat → Nat} (h : NRw w g n c) : IQ w (.slice (some ⟨g, 0, none⟩) n n) ((List.range n).map fun i => (c i : Int)) := by
  refine ⟨g, 0, n, by simp, h.lt, fun i hi => ?_⟩
  have hi' : i < n := by simpa using hi
  rw [Nat.zero_add, h.cell i hi', List.getD_eq_getElem?_getD, List.getElem?_map, List.getElem?_range hi']; rfl
/-- How many of the first k signs have symbol i; the same of distances. -/
def symC (l : List Sgn) (i : Nat) : Nat := l.countP fun s => s.sym == i
def farC (l : List Sgn) (i : Nat) : Nat := l.countP fun s => s.rep && s.far == i
/-- The best lengths for signs: of symbols, of distances. -/
def symF (l : List Sgn) : List Nat := lnCut (bestF ((List.range 286).map fun i => (symC l i : Int)) 15) 257
def farF (l : List Sgn) : List Nat := lnCut (bestF ((List.range 30).map fun i => (farC l i : Int)) 15) 1
theorem symC_snoc (l : List Sgn) (s : Sgn) (i : Nat) : symC (l ++ [s]) i = if i = s.sym then symC l i + 1 else symC l i := by
  unfold symC
  rw [List.countP_append]
  by_cases h : i = s.sym
  · subst h; simp
  · have : (s.sym == i) = false := beq_eq_false_iff_ne.2 (fun e => h e.symm)
    simp [h, this]
theorem farC_yes (l : List Sgn) (s : Sgn) (hr : s.rep = true) (i : Nat) : farC (l ++ [s]) i = if i = s.far then farC l i + 1 else farC l i := by
  unfold farC
  rw [List.countP_append]
  by_cases h : i = s.far
  · subst h; simp [hr]
  · have : (s.far == i) = false := beq_eq_false_iff_ne.2 (fun e => h e.symm)
    simp [h, this]
theorem farC_no (l : List Sgn) (s : Sgn) (hr : s.rep = false) (i : Nat) : farC (l ++ [s]) i = farC l i := by
  unfold farC
  rw [List.countP_append]; simp [hr]
theorem symC_le (l : List Sgn) (i : Nat) : symC l i ≤ l.length := List.countP_le_length
theorem farC_le (l : List Sgn) (i : Nat) : farC l i ≤ l.length := List.countP_le_length
theorem nch_cell {w : World} {B n g cap : Nat} {ls : List Nat} (h : w.ownsRow B 3 1 (.slice (some ⟨g, 0, none⟩) n cap) n (nch ls)) (i : Nat) (hi : i < ls.length) : w.cell? ⟨g, i, none⟩ = some (.int .i64 (ls.getD i 0 : Int)) := by
  have := World.ownsRow.cells h (g := g) rfl i (.int .i64 (ls.getD i 0 : Int)) (by
    unfold nch
    rw [List.getElem?_map, List.getD_eq_getElem?_getD, List.getElem?_eq_getElem hi]; rfl)
  rwa [Addr.add_mid, Nat.zero_add] at this
theorem iq_cut {w : World} {B n g cap : Nat} {ls : List Nat} (h : w.ownsRow B 3 1 (.slice (some ⟨g, 0, none⟩) n cap) n (nch ls)) (lo : Nat) (hl : ls.length = n) : IQ w (.slice (some ⟨g, 0, none⟩) (lnCut ls lo).length cap) (zL (lnCut ls lo)) := by
  have hle := cutN_le (zL ls) lo ls.length
  refine ⟨g, 0, cap, by rw [zL_len], (World.ownsRow.lt h g rfl).2, fun i hi => ?_⟩
  rw [zL_len, lnCut_len] at hi
  rw [Nat.zero_add, nch_cell h i (by omega), zL_at]
  have := lnCut_ln ls lo i
  unfold ln at this
  rw [this]
/-- deflate's cut of a row of one's own. -/
theorem cutL_row {w : World} {B n g : Nat} {ls : List Nat} {zs : List Int} (hlen : ls.length = zs.length) (hz : zs.length = n) (h : w.ownsRow B 3 1 (.slice (some ⟨g, 0, none⟩) n n) n (nch ls)) (lo : Nat) (hlo : lo ≤ 1000) (hn : n ≤ 1000) :
    Calls Tryz.prog 81 #[.slice (some ⟨g, 0, none⟩) n n, .int .i64 (lo : Int)] w fun e w' => e = .returned (.slice (some ⟨g, 0, none⟩) (lnCut ls lo).length n) ∧ w' = w := by
  have hl : (zL ls).length = n := by rw [zL_len]; omega
  have := cut_any g 0 n (zL ls) lo w (World.ownsRow.lt h g rfl).2 (fun i hi => by
    rw [Nat.zero_add, nch_cell h i (by rw [zL_len] at hi; exact hi), zL_at]) (by omega) (by omega) hlo
  rw [hl, show n = ls.length by omega] at this
  rw [show n = ls.length by omega, lnCut_len]
  exact this
set_option maxRecDepth 100000 in
set_option maxHeartbeats 4000000 in
theorem lengthsOf_any (v : Value) (l : List Sgn) (w : World) (hS : SgS w v l) (hl : l.length ≤ 10000) (hk : ∀ s ∈ l, s.sym < 286 ∧ (s.rep = true → s.far < 30)) :
    Calls Tryz.prog 52 #[v] w fun e w' => ∃ (g1 g2 : Nat) (ls ds : List Nat), e = .returned (.tuple #[.slice (some ⟨g1, 0, none⟩) ls.length 286, .slice (some ⟨g2, 0, none⟩) ds.length 30]) ∧
      LnOk (symF l) ls 257 286 15 (fun i => ∃ s ∈ l, s.sym = i) ∧ LnOk (farF l) ds 1 30 15 (fun i => ∃ s ∈ l, s.rep = true ∧ s.far = i) ∧
      IQ w' (.slice (some ⟨g1, 0, none⟩) ls.length 286) (zL ls) ∧ IQ w' (.slice (some ⟨g2, 0, none⟩) ds.length 30) (zL ds) ∧ Below w.heap.size w w' := by
  have HSG : Hid (SgS w v l) := hS
  have HK : Hid (∀ s ∈ l, s.sym < 286 ∧ (s.rep = true → s.far < 30)) := hk
  obtain ⟨a, cap, rfl, hcap, -⟩ := hS
  obtain ⟨n, hn⟩ : ∃ n, n = l.length := ⟨_, rfl⟩
  have HN : Hid (n = l.length) := hn
  rw [← hn] at HSG hcap hl ⊢
  have hm1 := make_it 286 (by omega)
  have hm2 := make_it 30 (by omega)
  rw [show ((286 : Nat) : Int) = 286 from rfl] at hm1
  rw [show ((30 : Nat) : Int) = 30 from rfl] at hm2
  clear hn hk
  go_enter Tryz.func52, Tryz.ntmps52
  go_upto_region 1 with fail
  go_cut [4, 5] (fun x y wx => ∃ g1 g2, x = .slice (some ⟨g1, 0, none⟩) 286 286 ∧ y = .slice (some ⟨g2, 0, none⟩) 30 30 ∧ NRw wx g1 286 (fun _ => 0) ∧ NRw wx g2 30 (fun _ => 0) ∧ g1 ≠ g2 ∧ w.heap.size ≤ g1 ∧ w.heap.size ≤ g2 ∧ Below w.heap.size w wx)
  case first =>
    have H1 : Hid (NRw ((w.alloc (.cells (zeroRow 286) 3)).alloc (.cells (zeroRow 30) 3)).drew w.heap.size 286 (fun _ => 0)) := heap_alloc2_old w _ _
    have H2 : Hid (NRw ((w.alloc (.cells (zeroRow 286) 3)).alloc (.cells (zeroRow 30) 3)).drew (w.heap.size + 1) 30 (fun _ => 0)) := heap_alloc2_new w _ _
    have H3 : Hid (NRw ((w.alloc (.cells (zeroRow 30) 3)).alloc (.cells (zeroRow 286) 3)).drew w.heap.size 30 (fun _ => 0)) := heap_alloc2_old w _ _
    have H4 : Hid (NRw ((w.alloc (.cells (zeroRow 30) 3)).alloc (.cells (zeroRow 286) 3)).drew (w.heap.size + 1) 286 (fun _ => 0)) := heap_alloc2_new w _ _
    have HB : Hid (∀ a b : Obj, Below w.heap.size w ((w.alloc a).alloc b).drew) := fun a b => (((Below.refl _ w).alloc (Nat.le_refl _) _).alloc (by simp) _).drew
    go_region
    all_goals go_wp2
    all_goals (go_meet; first | exact ⟨w.heap.size, w.heap.size + 1, rfl, rfl, H1.out, H2.out, by omega, Nat.le_refl _, by omega, HB.out _ _⟩ | exact ⟨w.heap.size + 1, w.heap.size, rfl, rfl, H4.out, H3.out, by omega, by omega, Nat.le_refl _, HB.out _ _⟩)
  case rest =>
    obtain ⟨g1, g2, rfl, rfl, hn1, hn2, hne, hg1, hg2, hb⟩ := hcut
    have HN1 : Hid (NRw wc g1 286 (fun _ => 0)) := hn1
    have HN2 : Hid (NRw wc g2 30 (fun _ => 0)) := hn2
    have HBC : Hid (Below w.heap.size w wc) := hb
    have hzg := zeroSg
    have hz9 : (Tryz.prog.info? 122).map (·.size) = some 9 := by kernel_rfl
    have HZ9 : Hid ((Tryz.prog.info? 122).map (·.size) = some 9) := hz9
    clear hz9 hn1 hn2 hb hm1 hm2
    go_wp2
    go_loopw [12] (fun i wr => ∃ k : Nat, k ≤ n ∧ i = .int .i64 (k : Int) ∧ NRw wr g1 286 (symC (l.take k)) ∧ NRw wr g2 30 (farC (l.take k)) ∧ Below w.heap.size w wr) (fun i _ => n - (intOf i).toNat)
    case atStart => exact ⟨0, Nat.zero_le _, rfl, HN1.out.eq (fun i _ => rfl), HN2.out.eq (fun i _ => rfl), HBC.out⟩
    case round =>
      clear HN1 HN2 HBC
      obtain ⟨k, hk, rfl, hn1, hn2, hb⟩ := hrel
      have HN1 : Hid (NRw wr g1 286 (symC (l.take k))) := hn1
      have HN2 : Hid (NRw wr g2 30 (farC (l.take k))) := hn2
      have HB : Hid (Below w.heap.size w wr) := hb
      have hl1 := hn1.lt
      have hl2 := hn2.lt
      have hsr := hb.size
      clear hn1 hn2 hb
      by_cases hlt : k < n
      · have hki : (k : Int) < (n : Int) := by omega
        obtain ⟨s, hs⟩ : ∃ s, l[k]? = some s := ⟨_, List.getElem?_eq_getElem (by rw [← HN.out]; exact hlt)⟩
        obtain ⟨g, rfl, hg, -, hcap2, hrg⟩ := (HSG.out.below HB.out).at hs
        have HRG : Hid (wr.rangeAt g (k * 9) (sgC s)) := hrg
        have HT1 : Hid (l.take (k + 1) = l.take k ++ [s]) := by unfold Hid; rw [List.take_add_one, hs]; rfl
        have hsk := HK.out s (List.mem_of_getElem? hs)
        have HFR : Hid (s.rep = true → s.far < 30) := hsk.2
        have hsym : s.sym < 286 := hsk.1
        have hsymi : (s.sym : Int) < 286 := by omega
        have hc1 : symC (l.take k) s.sym ≤ k := Nat.le_trans (symC_le _ _) (by rw [List.length_take]; omega)
        clear hrg hs hsk
        go_upto_region 5 with (first | (refine wpList_load_mid rfl 122 (Operand.tmp 14) rfl g (k * 9) rfl (sgC s) _ HRG.out Tryz.underlying122 rfl HZ9.out ?_) | (refine wpList_store_row rfl 122 (Operand.tmp 7) (Operand.tmp 15) rfl wr.heap.size (sgC s).toArray rfl rfl 122 sg0 (heap_alloc_new wr _) HZ9.out rfl (all_oneCell_toArray (sgC_one s)) ?_))
        have hpn : ∀ a : Act, a.put none undef = a := fun _ => rfl
        rw [hpn]
        obtain ⟨W3, hW3⟩ : ∃ W3, W3 = (wr.alloc (.cells sg0 122)).setRow wr.heap.size (sgC s).toArray := ⟨_, rfl⟩
        rw [← hW3]
        have hs3 : W3.heap[wr.heap.size]? = some (.cells (sgC s).toArray 122 (0, 0)) := by rw [hW3]; exact setRow_heap _ _ _ _ _ _ (heap_alloc_new wr _)
        have hb3 : Below wr.heap.size wr W3 := by rw [hW3]; exact below_setRow ((Below.refl _ _).alloc (Nat.le_refl _) _) (Nat.le_refl _) _
        have HB3 : Hid (Below w.heap.size w W3) := HB.out.trans (hb3.mono hsr)
        have HN13 : Hid (NRw W3 g1 286 (symC (l.take k))) := HN1.out.keep (hb3.block _ hl1)
        have HN23 : Hid (NRw W3 g2 30 (farC (l.take k))) := HN2.out.keep (hb3.block _ hl2)
        have HS3 : Hid (W3.heap[wr.heap.size]? = some (.cells (sgC s).toArray 122 (0, 0))) := hs3
        have hsz3 : wr.heap.size < W3.heap.size := (Array.getElem?_eq_some_iff.1 hs3).1
        have hl13 := HN13.out.lt
        have e0 : W3.cell? ⟨wr.heap.size, 0, none⟩ = some (.int .i64 (s.sym : Int)) := by rw [cell_of_row _ _ _ _ _ _ hs3]; rfl
        have e1 := HN13.out.cell s.sym hsym
        have e2 := HN13.out.fz s.sym
        have hw1 : IntKind.i64.wrap ((symC (l.take k) s.sym : Int) + 1) = ((symC (l.take k) s.sym + 1 : Nat) : Int) := by rw [IntKind.wrap_i64]; omega
        have HSC : Hid (∀ i, symC (l.take (k + 1)) i = if i = s.sym then symC (l.take k) s.sym + 1 else symC (l.take k) i) := fun i => by
          rw [HT1.out, symC_snoc]
          split
          · rename_i e; rw [e]
          · rfl
        clear hW3 hb3 hs3 HRG
        generalize hcc : symC (l.take k) s.sym = c at *
        clear hcc
        go_upto_region 6 with fail
        obtain ⟨W4, hW4⟩ : ∃ W4, W4 = W3.setCell ⟨g1, s.sym, none⟩ (.int .i64 ((c : Int) + 1)) := ⟨_, rfl⟩
        rw [← hW4]
        have HN14 : Hid (NRw W4 g1 286 (symC (l.take (k + 1)))) := by rw [hW4]; exact HN13.out.set s.sym (c + 1) _ (fun i _ => HSC.out i)
        have HN24 : Hid (NRw W4 g2 30 (farC (l.take k))) := by rw [hW4]; exact HN23.out.keep (heap_setCell_other _ _ _ _ (fun e => hne e.symm))
        have HS4 : Hid (W4.heap[wr.heap.size]? = some (.cells (sgC s).toArray 122 (0, 0))) := by rw [hW4]; exact (heap_setCell_other _ _ _ _ (fun e => Nat.lt_irrefl _ (e ▸ hl1))).trans HS3.out
        have HB4 : Hid (Below w.heap.size w W4) := by rw [hW4]; exact HB3.out.setCell hg1 _
        have hsz4 : wr.heap.size < W4.heap.size := (Array.getElem?_eq_some_iff.1 HS4.out).1
        have hl24 := HN24.out.lt
        have d4 : W4.cell? ⟨wr.heap.size, 4, none⟩ = some (.bool s.rep) := by rw [cell_of_row _ _ _ _ _ _ HS4.out]; rfl
        clear hW4 e0 e1 e2 hw1 HSC HN13 HN23 HS3 HB3
        by_cases hr : s.rep = true
        · have hfar : s.far < 30 := HFR.out hr
          have hfari : (s.far : Int) < 30 := by omega
          have HFC : Hid (∀ i, farC (l.take (k + 1)) i = if i = s.far then farC (l.take k) s.far + 1 else farC (l.take k) i) := fun i => by
            rw [HT1.out, farC_yes _ _ hr]
            split
            · rename_i e; rw [e]
            · rfl
          have hc2 : farC (l.take k) s.far ≤ k := Nat.le_trans (farC_le _ _) (by rw [List.length_take]; omega)
          rw [hr] at d4
          have e0 : W4.cell? ⟨wr.heap.size, 3, none⟩ = some (.bool s.more.code) := by rw [cell_of_row _ _ _ _ _ _ HS4.out]; rfl
          have e3 : W4.cell? ⟨wr.heap.size, 5, none⟩ = some (.int .i64 (s.far : Int)) := by rw [cell_of_row _ _ _ _ _ _ HS4.out]; rfl
          have e1 := HN24.out.cell s.far hfar
          have e2 := HN24.out.fz s.far
          have hw1 : IntKind.i64.wrap ((farC (l.take k) s.far : Int) + 1) = ((farC (l.take k) s.far + 1 : Nat) : Int) := by rw [IntKind.wrap_i64]; omega
          generalize hcc : farC (l.take k) s.far = c2 at *
          clear hcc hr
          go_upto_region 8 with fail
          obtain ⟨W5, hW5⟩ : ∃ W5, W5 = W4.setCell ⟨g2, s.far, none⟩ (.int .i64 ((c2 : Int) + 1)) := ⟨_, rfl⟩
          rw [← hW5]
          have HN15 : Hid (NRw W5 g1 286 (symC (l.take (k + 1)))) := by rw [hW5]; exact HN14.out.keep (heap_setCell_other _ _ _ _ hne)
          have HN25 : Hid (NRw W5 g2 30 (farC (l.take (k + 1)))) := by rw [hW5]; exact HN24.out.set s.far (c2 + 1) _ (fun i _ => HFC.out i)
          have HB5 : Hid (Below w.heap.size w W5) := by rw [hW5]; exact HB4.out.setCell hg2 _
          clear hW5 e0 e1 e2 e3 hw1 HFC d4
          go_wp2
          go_roundw
          case rel => exact ⟨k + 1, by omega, by go_num, HN15.out, HN25.out, HB5.out⟩
          case measure => simp [intOf]; omega
        · have hr' : s.rep = false := by cases h : s.rep <;> simp_all
          have HN25 : Hid (NRw W4 g2 30 (farC (l.take (k + 1)))) := HN24.out.eq (fun i _ => by rw [HT1.out, farC_no _ _ hr'])
          rw [hr'] at d4
          clear hr hr'
          go_wp2
          go_roundw
          case rel => exact ⟨k + 1, by omega, by go_num, HN14.out, HN25.out, HB4.out⟩
          case measure => simp [intOf]; omega
      · have hki : ¬ (k : Int) < (n : Int) := by omega
        obtain rfl : k = n := by omega
        rw [List.take_of_length_le (by rw [← HN.out]; exact Nat.le_refl _)] at HN1 HN2
        obtain ⟨zs, hz⟩ : ∃ zs, zs = (List.range 286).map fun i => (symC l i : Int) := ⟨_, rfl⟩
        obtain ⟨fs, hf⟩ : ∃ fs, fs = (List.range 30).map fun i => (farC l i : Int) := ⟨_, rfl⟩
        have hzl : zs.length = 286 := by rw [hz]; simp
        have hfl : fs.length = 30 := by rw [hf]; simp
        have hzg : ∀ i, i < 286 → zs.getD i 0 = (symC l i : Int) := fun i hi => by rw [hz, List.getD_eq_getElem?_getD, List.getElem?_map, List.getElem?_range hi]; rfl
        have hfg : ∀ i, i < 30 → fs.getD i 0 = (farC l i : Int) := fun i hi => by rw [hf, List.getD_eq_getElem?_getD, List.getElem?_map, List.getElem?_range hi]; rfl
        have hq1 : IQ wr (.slice (some ⟨g1, 0, none⟩) 286 286) zs := by rw [hz]; exact HN1.out.iq
        have hq2 : IQ wr (.slice (some ⟨g2, 0, none⟩) 30 30) fs := by rw [hf]; exact HN2.out.iq
        have hck1 : chkC zs ((15 : Nat) : Int) = 0 := chkC_ok (by omega) (by omega) (fun i hi => by rw [hzg i (by omega)]; have := symC_le l i; have := HN.out; omega)
        have hck2 : chkC fs ((15 : Nat) : Int) = 0 := chkC_ok (by omega) (by omega) (fun i hi => by rw [hfg i (by omega)]; have := farC_le l i; have := HN.out; omega)
        have HU1 : Hid (∀ i, (∃ s ∈ l, s.sym = i) → i < zs.length ∧ 0 < zs.getD i 0) := fun i ⟨s, hs, hi⟩ => by
          have h286 : i < 286 := by rw [← hi]; exact (HK.out s hs).1
          refine ⟨by omega, ?_⟩
          rw [hzg i h286]
          have : 0 < symC l i := by unfold symC; exact List.countP_pos_iff.2 ⟨s, hs, by simp [hi]⟩
          omega
        have HU2 : Hid (∀ i, (∃ s ∈ l, s.rep = true ∧ s.far = i) → i < fs.length ∧ 0 < fs.getD i 0) := fun i ⟨s, hs, hr, hi⟩ => by
          have h30 : i < 30 := by rw [← hi]; exact (HK.out s hs).2 hr
          refine ⟨by omega, ?_⟩
          rw [hfg i h30]
          have : 0 < farC l i := by unfold farC; exact List.countP_pos_iff.2 ⟨s, hs, by simp [hi, hr]⟩
          omega
        have HB1 := dbest_any _ zs 15 wr hq1 hck1 (by rw [hzl]; decide)
        have HB2 : Hid (∀ W, Below wr.heap.size wr W → Calls Tryz.prog 82 #[.slice (some ⟨g2, 0, none⟩) 30 30, .int .i64 15] W fun e w' => ∃ (g : Nat) (ls : List Nat), e = .returned (.slice (some ⟨g, 0, none⟩) 30 30) ∧ ls = bestF fs 15 ∧ LenP fs 15 ls ∧ w'.ownsRow W.heap.size 3 1 (.slice (some ⟨g, 0, none⟩) 30 30) 30 (nch ls) ∧ Below W.heap.size W w') := fun W hW => by
          have := dbest_any _ fs 15 W (hq2.below hW) hck2 (by rw [hfl]; decide)
          rw [hfl] at this
          exact this
        rw [hzl, show ((15 : Nat) : Int) = 15 from rfl] at HB1
        have HZL : Hid (zs.length = 286) := hzl
        have HFL : Hid (fs.length = 30) := hfl
        have HSF : Hid (lnCut (bestF zs 15) 257 = symF l) := by unfold Hid symF; rw [hz]
        have HFF : Hid (lnCut (bestF fs 15) 1 = farF l) := by unfold Hid farF; rw [hf]
        clear hz hf hzl hfl hzg hfg hq1 hq2 hck1 hck2
        go_wp2_with fail
        refine HB1.mono ?_
        rintro e w3 ⟨p1, ls, rfl, hle, hlp, ho3, hb3⟩
        have HLP : Hid (LenP zs 15 ls) := hlp
        have HE1 : Hid (lnCut ls 257 = symF l) := by unfold Hid; rw [hle]; exact HSF.out
        have HO3 : Hid (w3.ownsRow wr.heap.size 3 1 (.slice (some ⟨p1, 0, none⟩) 286 286) 286 (nch ls)) := ho3
        have HB3 : Hid (Below wr.heap.size wr w3) := hb3
        have hcu1 := cutL_row HLP.out.len HZL.out HO3.out 257 (by omega) (by omega)
        have hsr3 := hb3.size
        clear HB1 hle hlp ho3 hb3
        go_wp2_with fail
        refine hcu1.mono ?_
        rintro e w4 ⟨rfl, rfl⟩
        clear hcu1
        go_wp2_with fail
        refine (HB2.out _ HB3.out).mono ?_
        rintro e w5 ⟨p2, ds, rfl, hle, hlp, ho5, hb5⟩
        have HLP2 : Hid (LenP fs 15 ds) := hlp
        have HE2 : Hid (lnCut ds 1 = farF l) := by unfold Hid; rw [hle]; exact HFF.out
        have HO5 : Hid (w5.ownsRow w4.heap.size 3 1 (.slice (some ⟨p2, 0, none⟩) 30 30) 30 (nch ds)) := ho5
        have HB5 : Hid (Below wr.heap.size wr w5) := HB3.out.trans (hb5.mono HB3.out.size)
        have HO35 : Hid (w5.ownsRow wr.heap.size 3 1 (.slice (some ⟨p1, 0, none⟩) 286 286) 286 (nch ls)) := own_below HO3.out hb5
        have hcu2 := cutL_row HLP2.out.len HFL.out HO5.out 1 (by omega) (by omega)
        clear hle hlp ho5 hb5
        go_wp2_with fail
        refine hcu2.mono ?_
        rintro e w6 ⟨rfl, rfl⟩
        clear hcu2
        have HC1 : Hid (LnOk (symF l) (lnCut ls 257) 257 286 15 (fun i => ∃ s ∈ l, s.sym = i)) := by
          have h := HLP.out.cut 257 (by rw [HZL.out]; omega)
          exact ⟨HE1.out, h.le, h.fit, h.lo, by have := h.hi; rw [HZL.out] at this; exact this, fun i hi => h.pos i (HU1.out i hi)⟩
        have HC2 : Hid (LnOk (farF l) (lnCut ds 1) 1 30 15 (fun i => ∃ s ∈ l, s.rep = true ∧ s.far = i)) := by
          have h := HLP2.out.cut 1 (by rw [HFL.out]; omega)
          exact ⟨HE2.out, h.le, h.fit, h.lo, by have := h.hi; rw [HFL.out] at this; exact this, fun i hi => h.pos i (HU2.out i hi)⟩
        have HI1 : Hid (IQ w6 (.slice (some ⟨p1, 0, none⟩) (lnCut ls 257).length 286) (zL (lnCut ls 257))) := iq_cut HO35.out 257 (by rw [HLP.out.len, HZL.out])
        have HI2 : Hid (IQ w6 (.slice (some ⟨p2, 0, none⟩) (lnCut ds 1).length 30) (zL (lnCut ds 1))) := iq_cut HO5.out 1 (by rw [HLP2.out.len, HFL.out])
        have HBF : Hid (Below w.heap.size w w6) := HB.out.trans (HB5.out.mono hsr)
        go_wp2
        go_ret2
        exact ⟨p1, p2, lnCut ls 257, lnCut ds 1, rfl, HC1.out, HC2.out, HI1.out, HI2.out, HBF.out⟩
end Go.Proofs.YtbknflckdbfogaaGreat
