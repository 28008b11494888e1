/- Contracts: a disk's New; a folder's do. -/
import Derived.Test.YtmjfcneofpddiaaDoorQDskB
import Derived.LaidEqlPtr
namespace Go.Proofs.YtmjfcneofpddiaaDoor
open Go.RowKit Go.Maps
set_option linter.unusedVariables false
set_option linter.unusedSimpArgs false

theorem new_bad (room : Int) (w : World) (h : room < 0 ∨ 1073741824 < room) :
    Calls Tryd.prog 15 #[.int .i64 room] w fun e w' => e = .returned (.tuple #[.pointer none, .int .i64 1]) ∧ w' = w := by
  by_cases h0 : room < 0
  · go_enter Tryd.func15, Tryd.ntmps15
    go_wp2
    go_ret2
    exact ⟨rfl, rfl⟩
  · have h1 : (1073741824 : Int) < room := by omega
    clear h
    go_enter Tryd.func15, Tryd.ntmps15
    go_wp2
    go_ret2
    exact ⟨rfl, rfl⟩
theorem zeroDk (w : World) : (zeroValue 65).run Tryd.prog w = .ok (.agg #[.int .i64 0, .map none, .map none, .slice none 0 0, .int .i64 0, .bool false]) w := by kernel_rfl
set_option maxHeartbeats 1000000 in
theorem new_good (room : Int) (w : World) (h0 : 0 ≤ room) (h1 : room ≤ 1073741824) :
    Calls Tryd.prog 15 #[.int .i64 room] w fun e w' => ∃ d, e = .returned (.tuple #[.pointer (some ⟨d, 0, none⟩), .int .i64 0]) ∧ DK w' d (newS room) (fun k => k < w.heap.size) [] ∧ Below w.heap.size w w' := by
  have hmm := @run_makeMap Tryd.prog
  have hz := zeroDk
  go_enter Tryd.func15, Tryd.ntmps15
  go_wp2
  go_ret2
  refine ⟨w.heap.size + 2, rfl, ⟨w.heap.size, w.heap.size + 1, .slice none 0 0, fun _ => .slice none 0 0, ?_⟩, ((((Below.refl _ _).alloc (Nat.le_refl _) _).alloc (by simp) _).alloc (by simp; omega) _)⟩
  have e1 : ((w.alloc (.map #[] 0)).alloc (.map #[] 0)).heap.size = w.heap.size + 2 := by simp
  refine ⟨fun k hk => by simp; omega, by omega, by omega, by omega, by omega, fun r hr => (by cases hr), ?_, ?_, ?_, ?_, fun g hg => (by cases hg), fun g hg => (by cases hg), fun p hp => (by cases hp), fun p hp => (by cases hp), fun p hp => (by cases hp), h0, h1, (by show (-9223372036854775808 : Int) ≤ -1; decide), (by show (-1 : Int) ≤ 9223372036854775807; decide)⟩
  · rw [← e1]; exact heap_alloc_new _ _
  · refine (FM.kept (FM.new w) ?_)
    rw [Below.heap_alloc _ _ _ (by simp; omega), Below.heap_alloc _ _ _ (by simp)]
  · have := FM.new (w.alloc (.map #[] 0))
    rw [World.size_alloc] at this
    exact this.kept (Below.heap_alloc _ _ _ (by simp))
  · exact World.ownsRow_nil _ _ _ _

/-- A step as a value. -/
def stV (s : Stp) : Value := .agg #[.int .i64 s.what, .pointer (some ⟨s.g, 0, none⟩), .string (mkT s.nm), .string (mkT s.to)]
theorem Tryd.infoFl : (Tryd.prog.info? 71).map (fun i => (i.zero, i.size, i.bytes)) = some (some (.agg #[.slice none 0 0, .int .i64 0]), 2, 32) := by kernel_rfl
theorem eqlP_same (w : World) (a : Nat) : (binOp .eql 67 (.pointer (some ⟨a, 0, none⟩)) (.pointer (some ⟨a, 0, none⟩))).run Tryd.prog w = .ok (.bool true) w := by
  obtain ⟨i0, hi, hz0, hz1, hz2⟩ := info_parts Tryd.infoFl
  exact run_eql_ptr_same w _ Tryd.underlying67 hi
theorem eqlP_other (w : World) {a b : Nat} {ca cb : Array Value} {ta tb : TypeId} (hne : a ≠ b) (ha : w.heap[a]? = some (.cells ca ta (0, 0))) (hb : w.heap[b]? = some (.cells cb tb (0, 0))) :
    (binOp .eql 67 (.pointer (some ⟨a, 0, none⟩)) (.pointer (some ⟨b, 0, none⟩))).run Tryd.prog w = .ok (.bool false) w := by
  obtain ⟨i0, hi, hz0, hz1, hz2⟩ := info_parts Tryd.infoFl
  exact run_eql_ptr_other w Tryd.underlying67 hi (by rw [hz1]; decide) (fun e => hne (by injection e)) ha hb
theorem eqlP_nil (w : World) (a : Nat) : (binOp .eql 67 (.pointer none) (.pointer (some ⟨a, 0, none⟩))).run Tryd.prog w = .ok (.bool false) w := by
  have h : ∀ d : Nat, (Op.equalIn (d + 1) 67 (.pointer none) (.pointer (some ⟨a, 0, none⟩))).run Tryd.prog w = .ok false w := fun d => by simp [Op.equalIn, run_underlying Tryd.underlying67]
  simp only [binOp]
  simp [Op.equal, Op.maxDepth, h 9999]
section
variable (w : World) {ops : Array Oper} {rest : List Oper} {o : Oper} {a : Act} {Q : Exit → Act → World → Prop}
theorem wpList_delete_FM (hg : o.guard = none) (m x : Operand) (hop : o.op = Op.call { callee := Callee.builtin Builtin.delete, args := #[m, x], argTypes := #[62, 9] })
    (b : Nat) (F : Fo) (hm : a.eval m = .map (some b)) (h : FM w b F) (y : List UInt8) (hx : a.eval x = .string (mkT y)) (hy : y.length ≤ 9223372036854775807)
    (hK : ∀ w', FM w' b (dl F y) → w.mapTurned w' b → wpList Tryd.prog ops Q rest (a.put o.dst (.tuple #[])) w') : wpList Tryd.prog ops Q (o :: rest) a w := by
  refine wpList_plain hg fun K' hK' => ?_
  obtain ⟨w', hrun, r1, r2⟩ := h.del y hy o.type
  unfold Oper.wp
  simp [execOp, hop, resolve, invoke, builtin, hm, hx, hrun, Result.andThen]
  exact hK' _ _ (hK w' r1 r2)
theorem wpList_put_FM (hg : o.guard = none) (m x v : Operand) (hop : o.op = Op.mapUpdate 62 m x v)
    (b : Nat) (F : Fo) (hm : a.eval m = .map (some b)) (h : FM w b F) (hn : F.length < 9223372036854775807) (y : List UInt8) (hx : a.eval x = .string (mkT y)) (hy : y.length ≤ 9223372036854775807) (g : Nat) (hv : a.eval v = .pointer (some ⟨g, 0, none⟩))
    (hK : ∀ w', FM w' b (pt F y g) → w.mapTurned w' b → wpList Tryd.prog ops Q rest (a.put o.dst undef) w') : wpList Tryd.prog ops Q (o :: rest) a w := by
  refine wpList_plain hg fun K' hK' => ?_
  obtain ⟨w', hrun, r1, r2⟩ := h.put hn y hy g
  unfold Oper.wp
  simp [execOp, hop, hm, hx, hv, hrun, Result.andThen]
  exact hK' _ _ (hK w' r1 r2)
end
def isF (w : World) (g : Nat) : Prop := ∃ c, w.heap[g]? = some (.cells c 71 (0, 0))
set_option maxRecDepth 100000 in
set_option maxHeartbeats 2000000 in
theorem do_any (F : Fo) (s : Stp) (b : Nat) (w : World) (h : FM w b F) (hF : ∀ p ∈ F, isF w p.2) (hs : isF w s.g) (hlen : F.length ≤ 1000000) (hn : s.nm.length ≤ 80) (ht : s.to.length ≤ 80) (hw0 : 0 ≤ s.what) (hw2 : s.what ≤ 2) :
    Calls Tryd.prog 35 #[.map (some b), stV s] w fun e w' => e = .returned (.tuple #[]) ∧ FM w' b (doF F s) ∧ w.grownBy w' (some b) := by
  obtain ⟨what, g, nm, to⟩ := s
  simp only [stV] at *
  have hb := h.lt
  have HA : Hid (∀ k, k < w.heap.size → (w.alloc (.cells #[.int .i64 what, .pointer (some ⟨g, 0, none⟩), .string (mkT nm), .string (mkT to)] 74)).heap[k]? = w.heap[k]?) := fun k hk => Below.heap_alloc _ _ _ hk
  have h1 : FM (w.alloc (.cells #[.int .i64 what, .pointer (some ⟨g, 0, none⟩), .string (mkT nm), .string (mkT to)] 74)) b F := h.kept (HA.out b hb)
  have hlook := h1.look nm (by omega)
  have HG1 : Hid (w.grownBy (w.alloc (.cells #[.int .i64 what, .pointer (some ⟨g, 0, none⟩), .string (mkT nm), .string (mkT to)] 74)) (some b)) := World.grownBy_alloc w _ _
  have HF1 : Hid (FM (w.alloc (.cells #[.int .i64 what, .pointer (some ⟨g, 0, none⟩), .string (mkT nm), .string (mkT to)] 74)) b F) := h1
  have hwc : what = 0 ∨ what = 1 ∨ what = 2 := by omega
  have HN : Hid (∀ w1 w2 : World, w.grownBy w1 (some b) → w1.mapTurned w2 b → w.grownBy w2 (some b)) := fun w1 w2 g1 g2 => g1.trans g2.grown
  have hsz : w.heap.size ≠ b := by omega
  clear h1
  cases hl : lk F nm with
  | none =>
    rw [hl] at hlook
    simp only [gV, Option.isSome_none] at hlook
    have heq := eqlP_nil (w.alloc (.cells #[.int .i64 what, .pointer (some ⟨g, 0, none⟩), .string (mkT nm), .string (mkT to)] 74)) g
    rcases hwc with rfl | rfl | rfl
    · have HD : Hid (doF F ⟨0, g, nm, to⟩ = pt F nm g) := by unfold Hid doF; simp [hl]
      clear hF hs h hl heq
      go_enter Tryd.func35, Tryd.ntmps35
      go_wp2_with (first | (at_mapUpdate; refine wpList_put_FM _ rfl _ _ _ rfl b F rfl HF1.out (by omega) nm rfl (by omega) g rfl ?_; intro w2 hf2 ht2) | go_in)
      go_end0
      exact ⟨rfl, by rw [HD.out]; exact hf2, HN.out _ _ HG1.out ht2⟩
    · have HD : Hid (doF F ⟨1, g, nm, to⟩ = F) := by unfold Hid doF; simp [hl]
      clear hF hs h hl
      go_enter Tryd.func35, Tryd.ntmps35
      go_wp2
      go_end0
      exact ⟨rfl, by rw [HD.out]; exact HF1.out, HG1.out⟩
    · have HD : Hid (doF F ⟨2, g, nm, to⟩ = F) := by unfold Hid doF; simp [hl]
      clear hF hs h hl
      go_enter Tryd.func35, Tryd.ntmps35
      go_wp2
      go_end0
      exact ⟨rfl, by rw [HD.out]; exact HF1.out, HG1.out⟩
  | some h' =>
    rw [hl] at hlook
    simp only [gV, Option.isSome_some] at hlook
    by_cases hh : h' = g
    · subst hh
      have heq := eqlP_same (w.alloc (.cells #[.int .i64 what, .pointer (some ⟨h', 0, none⟩), .string (mkT nm), .string (mkT to)] 74)) h'
      rcases hwc with rfl | rfl | rfl
      · have HD : Hid (doF F ⟨0, h', nm, to⟩ = F) := by unfold Hid doF; simp [hl]
        clear hF hs h hl
        go_enter Tryd.func35, Tryd.ntmps35
        go_wp2
        go_end0
        exact ⟨rfl, by rw [HD.out]; exact HF1.out, HG1.out⟩
      · have HD : Hid (doF F ⟨1, h', nm, to⟩ = pt (dl F nm) to h') := by unfold Hid doF; simp [hl]
        have hdl := dl_len F nm
        clear hF hs h hl
        go_enter Tryd.func35, Tryd.ntmps35
        go_wp2_with (first | (at_delete; refine wpList_delete_FM _ rfl _ _ rfl b F rfl HF1.out nm rfl (by omega) ?_; intro w2 hf2 ht2; have hc1 : w2.cell? ⟨w.heap.size, 1, none⟩ = _ := World.cell?_of_block (a := ⟨w.heap.size, 1, none⟩) (ht2.grown.block w.heap.size (by simp) (fun e => hsz (Option.some.inj e))); have hc3 : w2.cell? ⟨w.heap.size, 3, none⟩ = _ := World.cell?_of_block (a := ⟨w.heap.size, 3, none⟩) (ht2.grown.block w.heap.size (by simp) (fun e => hsz (Option.some.inj e))); have HF2 : Hid (FM w2 b (dl F nm)) := hf2; have HG2 : Hid (w.grownBy w2 (some b)) := HN.out _ _ HG1.out ht2; clear hf2 ht2) | (at_mapUpdate; refine wpList_put_FM _ rfl _ _ _ rfl b (dl F nm) rfl HF2.out (by omega) to rfl (by omega) h' rfl ?_; intro w3 hf3 ht3) | go_in)
        go_end0
        exact ⟨rfl, by rw [HD.out]; exact hf3, HN.out _ _ HG2.out ht3⟩
      · have HD : Hid (doF F ⟨2, h', nm, to⟩ = dl F nm) := by unfold Hid doF; simp [hl]
        clear hF hs h hl
        go_enter Tryd.func35, Tryd.ntmps35
        go_wp2_with (first | (at_delete; refine wpList_delete_FM _ rfl _ _ rfl b F rfl HF1.out nm rfl (by omega) ?_; intro w2 hf2 ht2) | go_in)
        go_end0
        exact ⟨rfl, by rw [HD.out]; exact hf2, HN.out _ _ HG1.out ht2⟩
    · obtain ⟨ca, hca⟩ := hF _ (lk_some_mem hl)
      obtain ⟨cg, hcg⟩ := hs
      have hca' := (HA.out h' (Array.getElem?_eq_some_iff.1 hca).1).trans hca
      have hcg' := (HA.out g (Array.getElem?_eq_some_iff.1 hcg).1).trans hcg
      have heq := eqlP_other _ hh hca' hcg'
      have hll : ¬ lk F nm = some g := by rw [hl]; exact fun e => hh (Option.some.inj e)
      clear hca' hcg'
      rcases hwc with rfl | rfl | rfl
      · have HD : Hid (doF F ⟨0, g, nm, to⟩ = F) := by unfold Hid doF; simp [hl]
        clear hF h hl hll hca hcg
        go_enter Tryd.func35, Tryd.ntmps35
        go_wp2
        go_end0
        exact ⟨rfl, by rw [HD.out]; exact HF1.out, HG1.out⟩
      · have HD : Hid (doF F ⟨1, g, nm, to⟩ = F) := by unfold Hid doF; simp [hl, hh]
        clear hF h hl hll hca hcg
        go_enter Tryd.func35, Tryd.ntmps35
        go_wp2
        go_end0
        exact ⟨rfl, by rw [HD.out]; exact HF1.out, HG1.out⟩
      · have HD : Hid (doF F ⟨2, g, nm, to⟩ = F) := by unfold Hid doF; simp [hl, hh]
        clear hF h hl hll hca hcg
        go_enter Tryd.func35, Tryd.ntmps35
        go_wp2
        go_end0
        exact ⟨rfl, by rw [HD.out]; exact HF1.out, HG1.out⟩
end Go.Proofs.YtmjfcneofpddiaaDoor
