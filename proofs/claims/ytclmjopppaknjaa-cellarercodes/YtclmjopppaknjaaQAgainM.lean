/- Symbols whose codes stand one behind another are read again; what else HuffAgain's walk wants. -/
import Derived.Test.YtclmjopppaknjaaQTreeN
import Derived.Test.YtclmjopppaknjaaQSnkA
namespace Go.Proofs.Ytclmjopppaknjaa
open Go.RowKit
set_option linter.unusedVariables false

/-- The codes of these symbols, one behind another. -/
def bitsOf (ns : List Nat) : List Nat → List Bool
  | [] => []
  | t :: r => codeS ns t ++ bitsOf ns r
theorem bitsOf_append (ns : List Nat) : ∀ a b, bitsOf ns (a ++ b) = bitsOf ns a ++ bitsOf ns b
  | [], b => rfl
  | t :: r, b => by rw [List.cons_append, bitsOf, bitsOf, bitsOf_append ns r b, List.append_assoc]
theorem bitsOf_one (ns : List Nat) (t : Nat) : bitsOf ns [t] = codeS ns t := by simp [bitsOf]
theorem bitsOf_le (ns : List Nat) (h : all15 ns) : ∀ l, (bitsOf ns l).length ≤ 15 * l.length
  | [] => Nat.zero_le _
  | t :: r => by
    have := bitsOf_le ns h r
    have h2 := h.at t
    rw [bitsOf, List.length_append, codeS_len, List.length_cons]; omega
/-- What is read where a code stands. -/
theorem next_code (ns : List Nat) (h15 : all15 ns) (hf : fitB ns = true) (f : Nat → Bool) (left j t : Nat) (y e : Int) (ht : Used ns ns.length t) (hft : pfB f (ln ns t) = codeS ns t) (hl : ln ns t ≤ left) (h : NextR ns f left j y e) :
    y = (t : Int) ∧ e = 0 ∧ j + 1 = ln ns t := by
  obtain ⟨⟨hu, _⟩, h⟩ := h
  have htp := ht.2
  have hj : j < ln ns t := by
    rcases Nat.lt_or_ge j (ln ns t) with hlt | hge
    · exact hlt
    · exfalso
      rcases hu with rfl | ⟨t', h1, h2, h3⟩
      · omega
      · have hp : codeS ns t <+: codeS ns t' := by rw [← hft]; exact (pfB_prefix f _ _ hge).trans h2
        obtain rfl := codeS_pf ns h15 hf t t' ht.1 h1.1 ht.2 h1.2 hp
        have := h2.length_le
        rw [pfB_len, codeS_len] at this
        exact h3 (h2.eq_of_length (by rw [pfB_len, codeS_len]; omega))
  have hp1 : pfB f (j + 1) <+: codeS ns t := by rw [← hft]; exact pfB_prefix f _ _ hj
  rcases h with ⟨h1, _⟩ | ⟨_, ⟨t', h1, h2, h3, h4⟩ | ⟨h1, _⟩⟩
  · omega
  · rw [← h2] at hp1
    obtain rfl := codeS_pf ns h15 hf t' t h1.1 ht.1 h1.2 ht.2 hp1
    have := congrArg List.length h2
    rw [codeS_len, pfB_len] at this
    exact ⟨h3, h4, this.symm⟩
  · exact absurd hp1 (h1 t ht)
/-- The bits of the symbol behind the first m. -/
theorem there_code (ns : List Nat) (ls : List Nat) (m t : Nat) (hm : ls[m]? = some t) : pfB (fun i => sbit (packS (bitsOf ns ls)).data.toList ((bitsOf ns (ls.take m)).length + i)) (ln ns t) = codeS ns t ∧
    (bitsOf ns (ls.take m)).length + ln ns t ≤ (bitsOf ns ls).length ∧ bitsOf ns (ls.take (m + 1)) = bitsOf ns (ls.take m) ++ codeS ns t := by
  have hlt : m < ls.length := (List.getElem?_eq_some_iff.1 hm).1
  have e1 : ls.take (m + 1) = ls.take m ++ [t] := by rw [List.take_add_one, hm]; rfl
  have e2 : bitsOf ns (ls.take (m + 1)) = bitsOf ns (ls.take m) ++ codeS ns t := by rw [e1, bitsOf_append, bitsOf_one]
  have e3 : bitsOf ns ls = (bitsOf ns (ls.take m) ++ codeS ns t) ++ bitsOf ns (ls.drop (m + 1)) := by rw [← e2, ← bitsOf_append, List.take_append_drop]
  refine ⟨?_, by rw [e3, List.length_append, List.length_append, codeS_len]; omega, e2⟩
  apply List.ext_getElem?
  intro i
  by_cases hi : i < ln ns t
  · unfold pfB
    rw [List.getElem?_map, List.getElem?_range hi]
    simp only [Option.map_some]
    rw [packS_data, packL_bit, e3, List.getD_eq_getElem?_getD, List.append_assoc, List.getElem?_append_right (by omega), Nat.add_sub_cancel_left, List.getElem?_append_left (by rw [codeS_len]; exact hi), List.getElem?_eq_getElem (by rw [codeS_len]; exact hi)]
    rfl
  · rw [List.getElem?_eq_none (by rw [pfB_len]; omega), List.getElem?_eq_none (by rw [codeS_len]; omega)]
theorem introw_at {w : World} {a : Option Addr} {len cap : Nat} {zs : List Int} (h : IsRow .i64 w a len cap zs) {k : Nat} (hk : k < len) :
    (∃ b off, a = some ⟨b, off, none⟩ ∧ w.cell? ⟨b, off + k, none⟩ = some (.int .i64 (zs.getD k 0)) ∧ b < w.heap.size) ∧ -9223372036854775808 ≤ zs.getD k 0 ∧ zs.getD k 0 ≤ 9223372036854775807 := by
  rcases h with ⟨_, h0, _⟩ | ⟨x, rfl, hl, hm, hz, hcell, hwf⟩
  · omega
  · obtain ⟨b, off, spot⟩ := x
    have hc := hcell k (by omega)
    have hmem : zs.getD k 0 ∈ zs := by
      rw [List.getD_eq_getElem?_getD, List.getElem?_eq_getElem (by omega)]; simp
    have hbd := bounds_i64 (hwf _ hmem)
    have hspot : spot = none := by simpa [Addr.add] using World.cell?_spot (hcell 0 (by omega))
    subst hspot
    have e2 : (⟨b, off, none⟩ : Addr).add k = ⟨b, off + k, none⟩ := by unfold Addr.add; split <;> simp_all
    rw [e2] at hc
    exact ⟨⟨b, off, rfl, hc, World.block_lt_of_cell? w _ hc⟩, hbd.1, hbd.2⟩
theorem Chain.keptRow {w w' : World} {g gb : Nat} {L : List Bool} {c : Array Value} {ty : TypeId} (hg : w.grownBy w' (some gb)) (hrow : w.heap[gb]? = some (.cells c ty (0, 0))) (hty : ty ≠ 113) : ∀ {m : Nat} {p : Option Addr}, Chain w g L m p → Chain w' g L m p
  | 0, _, h => h
  | m + 1, p, ⟨b, p', h1, h2, h3, h4⟩ => ⟨b, p', h1, h2, (hg.block b (lt_of_some h3) (fun e => by
      cases e
      rw [hrow] at h3
      simp only [Option.some.injEq, Obj.cells.injEq] at h3
      exact hty h3.2.1)).trans h3, Chain.keptRow hg hrow hty h4⟩
theorem SinkAt.keptRow {w w' : World} {g gb : Nat} {L : List Bool} {c : Array Value} {ty : TypeId} (h : SinkAt w g L) (hg : w.grownBy w' (some gb)) (hrow : w.heap[gb]? = some (.cells c ty (0, 0))) (hty : ty ≠ 113) (hne : g ≠ gb) : SinkAt w' g L := by
  have hl := h.lt
  obtain ⟨p, h1, h2⟩ := h
  exact ⟨p, (hg.block g hl (fun e => hne (by cases e; rfl))).trans h1, h2.keptRow hg hrow hty⟩
/-- These symbols as integers. -/
def symZ (ls : List Nat) : List Int := ls.map fun n : Nat => (n : Int)
theorem symZ_len (ls : List Nat) : (symZ ls).length = ls.length := by simp [symZ]
theorem symZ_at (ls : List Nat) (m t : Nat) (h : ls[m]? = some t) : (symZ ls).getD m 0 = (t : Int) := by simp [symZ, List.getD_eq_getElem?_getD, h]
theorem ic_snoc (ls : List Nat) (t : Nat) : ic (symZ (ls ++ [t])) = ic (symZ ls) ++ [.int .i64 (t : Int)] := by simp [ic, symZ]
theorem near_small (n : Nat) (h : n ≤ 32) : near (n : Int) 32 = n := by unfold near; omega
end Go.Proofs.Ytclmjopppaknjaa
