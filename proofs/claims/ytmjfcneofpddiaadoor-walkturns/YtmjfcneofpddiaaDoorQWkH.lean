/- Items appended; texts made of bytes (for the laws of layer 13). -/
import Derived.Test.YtmjfcneofpddiaaDoorQAwk13
import Derived.Test.YtmjfcneofpddiaaDoorQStrR
import Derived.Laws.MakeOwn
import Derived.Laws.OwnMore
namespace Go.Proofs.YtmjfcneofpddiaaDoor
open Go.RowKit Go.Maps
set_option linter.unusedVariables false
set_option linter.unusedSimpArgs false

def u8C (l : List UInt8) : List Value := l.map fun c => Value.int .u8 (c.toNat : Int)
theorem conv_B {w : World} {B : Nat} {v : Value} {l : List UInt8} (h : w.ownsRow B 5 1 v l.length (u8C l)) : (convert 69 9 v).run Tryd.prog w = .ok (.string (mkB l)) w := by
  have e : u8C l = (l.map fun c => (c.toNat : Int)).map (Value.int .u8) := by simp [u8C]
  rw [e] at h
  have := conv_own (P := Tryd.prog) Tryd.underlying69 Tryd.underlying5 Tryd.underlying9 h
  have e2 : strOfNums (l.map fun c => (c.toNat : Int)) = mkB l := by
    unfold strOfNums mkB
    refine congrArg ByteArray.mk (Array.ext' ?_)
    simp [Function.comp_def]
  rw [this, e2]
theorem make_zB (n : Nat) (hn : n ≤ 100000) (W : World) : ∃ W', (Instr.makeSlice 69 (.int .i64 (n : Int)) (.int .i64 (n : Int))).run Tryd.prog W = .ok (.slice (some ⟨W.heap.size, 0, none⟩) n n) W' ∧ (convert 69 9 (.slice (some ⟨W.heap.size, 0, none⟩) n n)).run Tryd.prog W' = .ok (.string (mkB (List.replicate n 0))) W' ∧ Below W.heap.size W W' := by
  obtain ⟨i0, hi, hz0, hz1, hz2⟩ := info_parts Tryd.infoU8
  obtain ⟨w1, hmk, hown, hgr⟩ := run_makeSlice_full (P := Tryd.prog) (w := W) 0 69 5 i0 (.int .u8 0) 1 Tryd.underlying69 hi hz0 hz1 .i64 .i64 n (by omega) (by rw [hz2]; omega) (by unfold maxLen; omega) (Nat.zero_le _)
  refine ⟨w1, hmk, ?_, (Below.refl _ W).grown hgr (Nat.le_refl _) (fun k hk => by cases hk)⟩
  have e : (madeCells (Value.int .u8 0).cells (n * 1)).toList = u8C (List.replicate n 0) := by
    rw [Nat.mul_one]
    show (madeCells #[.int .u8 0] n).toList = _
    rw [toList_madeCells_one]
    unfold u8C
    rw [List.map_replicate]; rfl
  rw [e] at hown
  exact conv_B (w := w1) (v := .slice (some ⟨W.heap.size, 0, none⟩) n n) (l := List.replicate n 0) (by rw [List.length_replicate]; exact hown)
theorem conv_two (a b : UInt8) (W : World) : (convert 69 9 (.slice (some ⟨W.heap.size, 0, none⟩) 2 2)).run Tryd.prog (W.alloc (.cells #[.int .u8 (a.toNat : Int), .int .u8 (b.toNat : Int)] 5)) = .ok (.string (mkB [a, b])) (W.alloc (.cells #[.int .u8 (a.toNat : Int), .int .u8 (b.toNat : Int)] 5)) :=
  conv_B (B := 0) (l := [a, b]) ⟨rfl, .inr ⟨W.heap.size, 2, _, rfl, Nat.zero_le _, heap_alloc_new _ _, Nat.le_refl _, by decide, rfl, rfl⟩⟩
def itV (x : It) : Array Value := #[.string (mkB x.p), .int .i64 x.k, .int .i64 x.m, .int .i64 x.t, .string (mkB x.d)]
theorem IO.below {w w' : World} {B : Nat} {v : Value} {l : List It} (h : IO w B v l) (hb : Below w.heap.size w w') : IO w' B v l := by
  refine World.ownsRow.kept h (row := none) ⟨hb.os, hb.tape, hb.output, hb.size, fun k hk _ => hb.block k hk⟩ ?_
  cases hv : v.ownBlock
  · exact .inl rfl
  · exact .inr (by simp)
theorem IO.shape {w : World} {B : Nat} {v : Value} {l : List It} (h : IO w B v l) : ∃ a c, v = .slice a l.length c := by
  rcases h.2 with ⟨rfl, h0⟩ | ⟨g', cap, cur, rfl, _⟩
  · exact ⟨none, 0, by rw [h0]⟩
  · exact ⟨_, cap, rfl⟩
theorem IO.lt {w : World} {B : Nat} {v : Value} {l : List It} (h : IO w B v l) (k : Nat) (hk : v.ownBlock = some k) : B ≤ k ∧ k < w.heap.size := World.ownsRow.lt h k hk
theorem IO.made (w : World) (x : It) : IO (w.alloc (.cells (itV x) 25)) w.heap.size (.slice (some ⟨w.heap.size, 0, none⟩) 1 1) [x] :=
  ⟨rfl, .inr ⟨w.heap.size, 1, itV x, rfl, Nat.le_refl _, heap_alloc_new w _, Nat.le_refl _, by decide, rfl, rfl⟩⟩
/-- append(s, x) for one item x. -/
theorem append_it {w : World} {ops : Array Oper} {rest : List Oper} {o : Oper} {a : Act} {Q : Exit → Act → World → Prop} (hgd : o.guard = none) (s y : Operand)
    (ho : o.op = .call { callee := .builtin .append, args := #[s, y], argTypes := #[22, 22] })
    (B : Nat) (v : Value) (l : List It) (x : It) (hs : a.eval s = v) (hx : a.eval y = .slice (some ⟨w.heap.size, 0, none⟩) 1 1) (hO : IO w B v l) (hl : l.length + 1 ≤ 1000000) (hB : B ≤ w.heap.size)
    (h : ∀ a' c' w', IO w' B (.slice a' (l.length + 1) c') (l ++ [x]) → w.grownBy w' v.ownBlock → wpList Tryd.prog ops Q rest (a.put o.dst (.slice a' (l.length + 1) c')) w') : wpList Tryd.prog ops Q (o :: rest) a (w.alloc (.cells (itV x) 25)) := by
  obtain ⟨i0, hi, hz0, hz1, hz2⟩ := info_parts Tryd.infoIt
  have hb : Below w.heap.size w (w.alloc (.cells (itV x) 25)) := (Below.refl _ _).alloc (Nat.le_refl _) _
  have hN : ∀ j u, (itsC [x])[j]? = some u → (w.alloc (.cells (itV x) 25)).cell? ((⟨w.heap.size, 0, none⟩ : Addr).add j) = some u := fun j u hu => World.ownsRow.cells (IO.made w x) (g := w.heap.size) rfl j u hu
  refine wpList_append_own_at _ hgd s y 22 ho B 25 i0 (.agg #[.string ⟨#[]⟩, .int .i64 0, .int .i64 0, .int .i64 0, .string ⟨#[]⟩]) 5 56 Tryd.underlying22 hi hz0 hz1 hz2 rfl (by decide) v _ _ hs (hO.below hb) ⟨w.heap.size, 0, none⟩ 1 1 (itsC [x]) hx (by rw [itsC_len]; rfl) hN (itsC_one _) (by unfold maxLen; omega) (by omega) (by rw [World.size_alloc]; omega) ?_
  intro v' w' hown hg _ _
  have hO' : IO w' B v' (l ++ [x]) := by unfold IO; rw [itsC_append, List.length_append]; exact hown
  obtain ⟨a', c', rfl⟩ := hO'.shape
  have e : (l ++ [x]).length = l.length + 1 := by simp
  rw [e] at hO' ⊢
  have hgb : w.grownBy (w.alloc (.cells (itV x) 25)) v.ownBlock := ⟨hb.os, hb.tape, hb.output, hb.size, fun k hk _ => hb.block k hk⟩
  exact h a' c' w' hO' ⟨hg.os.trans hgb.os, hg.tape.trans hgb.tape, hg.output.trans hgb.output, Nat.le_trans hgb.size hg.size, fun i hi hn => (hg.block i (Nat.lt_of_lt_of_le hi hgb.size) hn).trans (hgb.block i hi hn)⟩

/-! The law WalkFull (pure). -/
def zzI (sz : Nat) : It := ⟨[122, 122], 2, 0, 0, List.replicate sz 0⟩
def dI (i : Nat) : It := ⟨[UInt8.ofNat (97 + i / 26), UInt8.ofNat (97 + i % 26)], 1, 0, 0, []⟩
def fullL (sz n : Nat) : List It := zzI sz :: (List.range n).map dI
theorem fullL_succ (sz n : Nat) : fullL sz (n + 1) = fullL sz n ++ [dI n] := by simp [fullL, List.range_succ]
theorem fullL_len (sz n : Nat) : (fullL sz n).length = n + 1 := by simp [fullL]
theorem fit_dI : ∀ i : Fin 260, fitI (dI i.val) = 0 ∧ parL (dI i.val).p = [] := by decide +kernel
theorem fit_zz (sz : Nat) : fitI (zzI sz) = if 32768 < sz then 2 else 0 := by
  have h1 : isL [122, 122] = true := by decide +kernel
  have h2 : formI (zzI sz) = true := by unfold formI zzI; simp
  unfold fitI
  rw [h2]
  simp only [zzI, h1, List.length_replicate]
  simp
theorem dI_inj : ∀ i j, i < 260 → j < 260 → (dI i).p = (dI j).p → i = j := by
  intro i j hi hj h
  simp only [dI, List.cons.injEq, and_true] at h
  obtain ⟨h1, h2⟩ := h
  have e1 := congrArg UInt8.toNat h1
  have e2 := congrArg UInt8.toNat h2
  simp only [UInt8.toNat_ofNat'] at e1 e2
  omega
theorem zz_ne : ∀ i : Fin 260, (dI i.val).p ≠ [122, 122] := by decide +kernel
theorem full_nodup (sz n : Nat) (hn : n ≤ 260) : ((fullL sz n).map It.p).Nodup := by
  unfold fullL
  rw [List.map_cons, List.nodup_cons, List.map_map]
  refine ⟨fun h => ?_, ?_⟩
  · obtain ⟨i, hi, e⟩ := List.mem_map.1 h
    rw [List.mem_range] at hi
    exact zz_ne ⟨i, by omega⟩ e
  · rw [List.nodup_iff_pairwise_ne, List.pairwise_map]
    refine List.Pairwise.imp_of_mem (fun {a b} ha hb hab e => ?_) (List.nodup_iff_pairwise_ne.1 List.nodup_range)
    rw [List.mem_range] at ha hb
    exact hab (dI_inj a b (by omega) (by omega) e)
theorem mis_flat : ∀ (l : List It) (fs : List (List UInt8)), (l.map It.p).Nodup → (∀ x ∈ l, parL x.p = []) → [] ∈ fs → mis fs l = 0
  | [], _, _, _, _ => rfl
  | x :: r, fs, h1, h2, h3 => by
    rw [List.map_cons, List.nodup_cons] at h1
    rw [mis, if_neg, if_neg, mis_flat r _ h1.2 (fun y hy => h2 y (List.mem_cons_of_mem _ hy))]
    · split
      · exact List.mem_cons_of_mem _ h3
      · exact h3
    · rw [h2 x List.mem_cons_self]; simpa using h3
    · intro e
      apply h1.1
      cases r with
      | nil => cases e
      | cons y r => simp at e; simp [e]
theorem chk_full {sz n : Nat} {z : Int} (hn : n ≤ 260) (h : ChkP (fullL sz n) z) : z = if 200 < n + 1 ∨ 32768 < sz then 2 else 0 := by
  rcases h with ⟨h, rfl⟩ | ⟨h, h1, rfl⟩ | ⟨h, h1, l', h2, h3, rfl⟩
  · rw [fullL_len] at h; rw [if_pos (.inl h)]
  · rw [fullL_len] at h
    have hz := fit_zz sz
    by_cases hs : 32768 < sz
    · rw [if_pos hs] at hz
      rw [if_pos (.inr hs)]
      unfold fullL fstFit
      rw [if_neg (by rw [hz]; decide), hz]
    · exfalso
      rw [if_neg hs] at hz
      apply h1
      rw [fstFit_zero]
      intro x hx
      unfold fullL at hx
      rcases List.mem_cons.1 hx with rfl | hx
      · exact hz
      · obtain ⟨i, hi, rfl⟩ := List.mem_map.1 hx
        rw [List.mem_range] at hi
        exact (fit_dI ⟨i, by omega⟩).1
  · rw [fullL_len] at h
    have hz := h1 (zzI sz) List.mem_cons_self
    rw [fit_zz] at hz
    have hs : ¬ 32768 < sz := fun hs => by rw [if_pos hs] at hz; cases hz
    rw [if_neg (by omega)]
    refine mis_flat l' _ ((h2.map It.p).nodup_iff.2 (full_nodup sz n hn)) (fun x hx => ?_) List.mem_cons_self
    have hx' := h2.mem_iff.1 hx
    unfold fullL at hx'
    rcases List.mem_cons.1 hx' with rfl | hx'
    · show parL [122, 122] = []; decide
    · obtain ⟨i, hi, rfl⟩ := List.mem_map.1 hx'
      rw [List.mem_range] at hi
      exact (fit_dI ⟨i, by omega⟩).2
end Go.Proofs.YtmjfcneofpddiaaDoor
