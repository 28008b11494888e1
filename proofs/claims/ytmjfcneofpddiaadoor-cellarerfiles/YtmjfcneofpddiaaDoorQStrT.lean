/- Rows of texts of one's own. -/
import Derived.Test.YtmjfcneofpddiaaDoorQKeep
import Derived.Test.YtmjfcneofpddiaaDoorQGrow
import Derived.Test.YtmjfcneofpddiaaDoorQDskE
import Derived.Laws.OwnMore
import Derived.Deep.AppendLies
import Derived.Laws.AppendOwnNone
namespace Go.Proofs.YtmjfcneofpddiaaDoor
open Go.RowKit
set_option linter.unusedVariables false
set_option linter.unusedSimpArgs false

theorem Tryd.infoStr : (Tryd.prog.info? 9).map (fun i => (i.zero, i.size, i.bytes)) = some (some (.string ⟨#[]⟩), 1, 16) := by kernel_rfl
def sc (l : List (List UInt8)) : List Value := l.map fun x => .string (mkT x)
theorem sc_len (l : List (List UInt8)) : (sc l).length = l.length := by simp [sc]
theorem sc_snoc (l : List (List UInt8)) (x : List UInt8) : sc (l ++ [x]) = sc l ++ [.string (mkT x)] := by simp [sc]
theorem sc_append (l m : List (List UInt8)) : sc (l ++ m) = sc l ++ sc m := by simp [sc]
def OS (w : World) (B : Nat) (v : Value) (l : List (List UInt8)) : Prop := w.ownsRow B 9 1 v l.length (sc l)
theorem OS.kept {w w' : World} {B : Nat} {v : Value} {l : List (List UInt8)} {row : Option Nat} (h : OS w B v l) (hg : w.grownBy w' row) (hne : v.ownBlock ≠ row) : OS w' B v l := World.ownsRow.kept h hg (.inr hne)
theorem OS.mono {w : World} {B C : Nat} {v : Value} {l : List (List UInt8)} (h : OS w B v l) (hC : C ≤ B) : OS w C v l := ⟨h.1, by rcases h.2 with h0 | ⟨g, cap, cur, e, hB, r⟩; exact .inl h0; exact .inr ⟨g, cap, cur, e, Nat.le_trans hC hB, r⟩⟩
theorem OS.below {w w' : World} {B : Nat} {v : Value} {l : List (List UInt8)} (h : OS w B v l) (hb : Below w.heap.size w w') : OS w' B v l := by
  refine World.ownsRow.kept h (row := none) (gbelow hb) ?_
  cases hv : v.ownBlock
  · exact .inl rfl
  · exact .inr (by simp)
theorem OS.lt {w : World} {B : Nat} {v : Value} {l : List (List UInt8)} (h : OS w B v l) (k : Nat) (hk : v.ownBlock = some k) : B ≤ k ∧ k < w.heap.size := World.ownsRow.lt h k hk
/-- v is a slice of these texts, wherever it lies. -/
def RS (w : World) (v : Value) (l : List (List UInt8)) : Prop := ∃ a cap, v = .slice a l.length cap ∧ (l ≠ [] → ∃ g, a = some ⟨g, 0, none⟩ ∧ g < w.heap.size ∧ ∀ i, i < l.length → w.cell? ⟨g, i, none⟩ = some (.string (mkT (l.getD i []))))
theorem sc_at (l : List (List UInt8)) (i : Nat) (h : i < l.length) : (sc l)[i]? = some (.string (mkT (l.getD i []))) := by
  simp [sc, List.getElem?_eq_getElem h, List.getD_eq_getElem?_getD]
theorem OS.rs {w : World} {B : Nat} {v : Value} {l : List (List UInt8)} (h : OS w B v l) : RS w v l := by
  rcases h.2 with ⟨rfl, h0⟩ | ⟨g, cap, cur, rfl, hB, hh, _⟩
  · exact ⟨none, 0, by rw [h0], fun hne => absurd (List.length_eq_zero_iff.1 h0) hne⟩
  · refine ⟨some ⟨g, 0, none⟩, cap, rfl, fun _ => ⟨g, rfl, (h.lt g rfl).2, fun i hi => ?_⟩⟩
    rw [World.ownsRow.cellAt h i (by omega), sc_at l i hi]
theorem RS.below {w w' : World} {v : Value} {l : List (List UInt8)} (h : RS w v l) (hb : Below w.heap.size w w') : RS w' v l := by
  obtain ⟨a, cap, rfl, hf⟩ := h
  refine ⟨a, cap, rfl, fun hne => ?_⟩
  obtain ⟨g, rfl, hg, hc⟩ := hf hne
  exact ⟨g, rfl, Nat.lt_of_lt_of_le hg hb.size, fun i hi => by rw [hb.cell (p := ⟨g, i, none⟩) hg]; exact hc i hi⟩
theorem mkT_inj {a b : List UInt8} (h : mkT a = mkT b) : a = b := by
  unfold mkT at h
  have := congrArg (fun x : ByteArray => x.data.toList) h
  simpa using this
theorem mkT_self (s : ByteArray) : mkT s.data.toList = s := by cases s; rfl
theorem mkT_append (a b : List UInt8) : mkT a ++ mkT b = mkT (a ++ b) := by
  apply ba_ext
  rw [ByteArray.data_append, Array.toList_append, mkT_data, mkT_data, mkT_data]
theorem mkT_cut (l : List UInt8) (a b : Nat) : (mkT l).extract a b = mkT ((l.drop a).take (b - a)) := by
  apply ba_ext; rw [extract_data, mkT_data, mkT_data]
theorem mkT_sz (l : List UInt8) : (mkT l).size = l.length := by rw [← size_toList, mkT_data]
theorem mkT_dl (l : List UInt8) : (mkT l).data.toList = l := mkT_data l
theorem mkT_toList (l : List UInt8) : (mkT l).toList = l := by rw [ByteArray.toList_eq, mkT_data]
theorem mkT_beq (a b : List UInt8) : ((mkT a).toList == (mkT b).toList) = decide (a = b) := by
  rw [mkT_toList, mkT_toList]
  by_cases h : a = b
  · subst h; simp
  · rw [decide_eq_false h, beq_eq_false_iff_ne]; exact h
theorem append_os {w : World} {ops : Array Oper} {rest : List Oper} {o : Oper} {a : Act} {Q : Exit → Act → World → Prop} (hgd : o.guard = none) (s x : Operand)
    (ho : o.op = .call { callee := .builtin .append, args := #[s, x], argTypes := #[41, 41] })
    (B C : Nat) (v u : Value) (l m : List (List UInt8)) (hs : a.eval s = v) (hx : a.eval x = u) (hO : OS w B v l) (hU : OS w C u m) (hl : l.length + m.length ≤ 1000000) (hB : B ≤ w.heap.size)
    (h : ∀ v' w', OS w' B v' (l ++ m) → w.grownBy w' v.ownBlock → (v'.ownBlock = v.ownBlock ∨ v'.ownBlock = some w.heap.size) → wpList Tryd.prog ops Q rest (a.put o.dst v') w') : wpList Tryd.prog ops Q (o :: rest) a w := by
  obtain ⟨i0, hi, hz0, hz1, hz2⟩ := info_parts Tryd.infoStr
  have hU' := hU
  rcases hU.2 with ⟨rfl, h0⟩ | ⟨g, cap, cur, rfl, _, _⟩
  · have hm : m = [] := List.length_eq_zero_iff.1 h0
    subst hm
    refine wpList_append_own_none hgd s x 41 ho B 9 i0 1 Tryd.underlying41 hi v _ _ hs hO hx ?_
    exact h v w (by rw [List.append_nil]; exact hO) (World.grownBy.refl w _) (.inl rfl)
  · have hN : ∀ j y, (sc m)[j]? = some y → w.cell? ((⟨g, 0, none⟩ : Addr).add j) = some y := fun j y hy => by
      have hj : j < (sc m).length := (List.getElem?_eq_some_iff.1 hy).1
      rw [sc_len] at hj
      rw [Addr.add_lit, Nat.zero_add, World.ownsRow.cellAt hU' j (by omega)]; exact hy
    have H1 : ∀ y ∈ sc m, y.oneCell' = true := by
      intro y hy
      simp [sc] at hy
      obtain ⟨_, _, rfl⟩ := hy; rfl
    refine wpList_append_own_at _ hgd s x 41 ho B 9 i0 (.string ⟨#[]⟩) 1 16 Tryd.underlying41 hi hz0 hz1 hz2 rfl (by decide) v _ _ hs hO ⟨g, 0, none⟩ m.length cap (sc m) hx (by rw [sc_len, Nat.mul_one]) hN H1 (by unfold maxLen; omega) (by omega) hB ?_
    intro v' w' hown' hgrow' _ hat'
    refine h v' w' ?_ hgrow' hat'
    unfold OS
    rw [sc_append, List.length_append]; exact hown'
theorem OS.shape {w : World} {B : Nat} {v : Value} {l : List (List UInt8)} (h : OS w B v l) : ∃ a c, v = .slice a l.length c := by
  rcases h.2 with ⟨rfl, h0⟩ | ⟨g', cap, cur, rfl, _⟩
  · exact ⟨none, 0, by rw [h0]⟩
  · exact ⟨_, cap, rfl⟩
theorem OS.made (w : World) (X : List UInt8) : OS (w.alloc (.cells #[.string (mkT X)] 9)) w.heap.size (.slice (some ⟨w.heap.size, 0, none⟩) 1 1) [X] :=
  ⟨rfl, .inr ⟨w.heap.size, 1, #[.string (mkT X)], rfl, Nat.le_refl _, heap_alloc_new w _, Nat.le_refl _, by decide, rfl, rfl⟩⟩
/-- append(s, x) for one text x. -/
theorem append_one {w : World} {ops : Array Oper} {rest : List Oper} {o : Oper} {a : Act} {Q : Exit → Act → World → Prop} (hgd : o.guard = none) (s x : Operand)
    (ho : o.op = .call { callee := .builtin .append, args := #[s, x], argTypes := #[41, 41] })
    (B : Nat) (v : Value) (l : List (List UInt8)) (X : List UInt8) (hs : a.eval s = v) (hx : a.eval x = .slice (some ⟨w.heap.size, 0, none⟩) 1 1) (hO : OS w B v l) (hl : l.length + 1 ≤ 1000000) (hB : B ≤ w.heap.size)
    (h : ∀ a' c' w', OS w' B (.slice a' (l.length + 1) c') (l ++ [X]) → w.grownBy w' v.ownBlock → (∀ r, (Value.slice a' (l.length + 1) c').ownBlock = some r → v.ownBlock = some r ∨ w.heap.size ≤ r ∧ r < w'.heap.size) → wpList Tryd.prog ops Q rest (a.put o.dst (.slice a' (l.length + 1) c')) w') : wpList Tryd.prog ops Q (o :: rest) a (w.alloc (.cells #[.string (mkT X)] 9)) := by
  have hb : Below w.heap.size w (w.alloc (.cells #[.string (mkT X)] 9)) := (Below.refl _ _).alloc (Nat.le_refl _) _
  refine append_os hgd s x ho B w.heap.size v _ l [X] hs hx (hO.below hb) (OS.made w X) (by simpa using hl) (by rw [World.size_alloc]; omega) ?_
  intro v' w' hO' hg hat
  obtain ⟨a', c', rfl⟩ := hO'.shape
  have e : (l ++ [X]).length = l.length + 1 := by simp
  rw [e] at hO' ⊢
  refine h a' c' w' hO' (gtrans (gbelow hb) hg) (fun r hr => ?_)
  rw [e] at hat
  rcases hat with hat | hat
  · exact .inl (hat ▸ hr)
  · rw [hat] at hr
    cases hr
    exact .inr ⟨by simp, (hO'.lt _ hat).2⟩
end Go.Proofs.YtmjfcneofpddiaaDoor
