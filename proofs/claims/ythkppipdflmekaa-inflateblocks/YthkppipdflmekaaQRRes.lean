/- The document's tokens, pure: what number and symbol say, held against tkE. Results of which the first stands in a cell. -/
import Derived.Test.YthkppipdflmekaaQRUni
import Derived.Laws.Rows
import Derived.Test.YthkppipdflmekaaQInfG
namespace Go.Proofs.Ythkppipdflmekaa
open Go.RowKit
set_option linter.unusedVariables false

theorem szF_big {i : Nat} (h : 29 ≤ i) : (szF i false).1 = 0 := by unfold szF; rw [if_neg (by decide), if_pos h]
theorem szF_far {d : Nat} (h : 29 < d) : (szF d true).1 = 0 := by unfold szF; rw [if_pos rfl, if_neg (by omega)]
theorem szF_pos {i : Nat} (h : i < 29) : (szF i false).1 ≠ 0 := by
  have key : ∀ i : Fin 29, (szF i.val false).1 ≠ 0 := by decide +kernel
  exact key ⟨i, h⟩
theorem szF_pos2 {d : Nat} (h : d < 30) : (szF d true).1 ≠ 0 := by
  have key : ∀ i : Fin 30, (szF i.val true).1 ≠ 0 := by decide +kernel
  exact key ⟨d, h⟩
theorem tkE_big {ds : List Nat} {f : Nat → Bool} {L most p out t : Nat} (h : 285 < t) : tkE ds f L most p out t = .error 3 := by
  unfold tkE szE
  rw [if_neg (by omega), if_pos (szF_big (by omega))]
theorem tkE_two {ds : List Nat} {L : List Bool} {m p o i q3 e3 d : Nat} (hi : i < 29) (hs : SymR ds L (nuP L.length p 0 (szF i false).2) (nuE L.length p 0 (szF i false).2) q3 e3 d) :
    (e3 ≠ 0 → tkE ds (fun j => L.getD j false) L.length m p o (i + 257) = .error e3) ∧ (e3 = 0 → p + (szF i false).2 ≤ L.length ∧ szE (fun j => L.getD j false) L.length p i false = .ok ((szF i false).1 + nuV L p 0 (szF i false).2, p + (szF i false).2) ∧ nxF ds (fun j => L.getD j false) L.length (p + (szF i false).2) = .ok (d, q3)) := by
  unfold tkE
  rw [if_neg (by omega), Nat.add_sub_cancel]
  by_cases h2 : nuE L.length p 0 (szF i false).2 = 0
  · obtain ⟨h3, h4, h5⟩ := nu_ok h2
    rw [h2, h4] at hs
    have hz : szE (fun j => L.getD j false) L.length p i false = .ok ((szF i false).1 + nuV L p 0 (szF i false).2, p + (szF i false).2) := by
      unfold szE; rw [if_neg (szF_pos hi), h3]
    rw [hz]
    simp only
    rcases hs with ⟨h, _⟩ | ⟨_, ⟨h, rfl⟩ | ⟨h, he, _⟩⟩
    · exact absurd rfl h
    · exact ⟨fun h => absurd rfl h, fun _ => ⟨h5, trivial, h⟩⟩
    · rw [h]; exact ⟨fun _ => rfl, fun h => absurd h he⟩
  · obtain ⟨h3, h4⟩ := nu_err h2
    have hz : szE (fun j => L.getD j false) L.length p i false = .error 6 := by
      unfold szE; rw [if_neg (szF_pos hi), h3]
    rw [hz]
    simp only
    rw [h4] at hs
    rcases hs with ⟨_, _, rfl, _⟩ | ⟨h, _⟩
    · exact ⟨fun _ => rfl, fun h => by cases h⟩
    · cases h
theorem tkE_far {ds : List Nat} {L : List Bool} {m p o i q3 d p2 n : Nat} (hz : szE (fun j => L.getD j false) L.length p i false = .ok (n, p2)) (hx : nxF ds (fun j => L.getD j false) L.length p2 = .ok (d, q3)) :
    (29 < d → tkE ds (fun j => L.getD j false) L.length m p o (i + 257) = .error 3) ∧
    (d < 30 → (nuE L.length q3 0 (szF d true).2 ≠ 0 → tkE ds (fun j => L.getD j false) L.length m p o (i + 257) = .error (nuE L.length q3 0 (szF d true).2)) ∧
      (nuE L.length q3 0 (szF d true).2 = 0 → nuP L.length q3 0 (szF d true).2 ≤ L.length ∧ q3 ≤ nuP L.length q3 0 (szF d true).2 ∧ tkE ds (fun j => L.getD j false) L.length m p o (i + 257) = if o < (szF d true).1 + nuV L q3 0 (szF d true).2 then .error 3 else if m < o + n then .error 2 else .ok (⟨0, (n : Int), (((szF d true).1 + nuV L q3 0 (szF d true).2 : Nat) : Int)⟩, nuP L.length q3 0 (szF d true).2, o + n))) := by
  unfold tkE
  rw [if_neg (by omega), Nat.add_sub_cancel, hz]
  simp only
  rw [hx]
  simp only
  refine ⟨fun h => ?_, fun h => ⟨fun h2 => ?_, fun h2 => ?_⟩⟩
  · unfold szE; rw [if_pos (szF_far h)]
  · obtain ⟨h3, h4⟩ := nu_err h2
    unfold szE; rw [if_neg (szF_pos2 h), h3, h4]
  · obtain ⟨h3, h4, h5⟩ := nu_ok h2
    refine ⟨by rw [h4]; omega, by rw [h4]; omega, ?_⟩
    unfold szE; rw [if_neg (szF_pos2 h), h3, h4]
/-- The walk's leaf: from what was seen to what the whole says. -/
theorem jt_made {ls ds : List Nat} {L : List Bool} {m p0 p o k i q3 d n e5 : Nat} {acc : List Tok} {r : Except Nat (List Tok × Nat × Nat)} (hk : L.length + 1 ≤ k + 1 + p0) (hp : p0 < p) (hn : 1 ≤ n) (hd : d < 30)
    (hr : (match tkE ds (fun j => L.getD j false) L.length m p o (i + 257) with | .error e => .error e | .ok (t, p2, out2) => tksF ls ds (fun j => L.getD j false) L.length m k p2 out2 (acc ++ [t])) = r)
    {p2 : Nat} (hz : szE (fun j => L.getD j false) L.length p i false = .ok (n, p2)) (h2 : p ≤ p2) (h3 : p2 < q3) (hx : nxF ds (fun j => L.getD j false) L.length p2 = .ok (d, q3))
    (he : e5 = wrE (o < (szF d true).1 + nuV L q3 0 (szF d true).2) (nuE L.length q3 0 (szF d true).2) 3) :
    JT ls ds L p0 m k (nuP L.length q3 0 (szF d true).2) o n e5 acc ⟨0, (n : Int), (((szF d true).1 + nuV L q3 0 (szF d true).2 : Nat) : Int)⟩ r := by
  obtain ⟨_, hfar⟩ := tkE_far (m := m) (o := o) hz hx
  obtain ⟨ha, hb⟩ := hfar hd
  unfold JT wrE at *
  by_cases h4 : nuE L.length q3 0 (szF d true).2 = 0
  · obtain ⟨h5, h5', h6⟩ := hb h4
    rw [h6] at hr
    rw [h4] at he
    by_cases hf : o < (szF d true).1 + nuV L q3 0 (szF d true).2
    · rw [if_pos hf] at hr
      rw [if_pos ⟨hf, rfl⟩] at he
      exact .inr ⟨by omega, by rw [he]; exact hr.symm⟩
    · rw [if_neg hf] at hr
      rw [if_neg (fun q => hf q.1)] at he
      refine .inl ⟨he, by omega, h5, hn, by omega, ?_⟩
      by_cases hm : m < o + n
      · rw [if_pos hm] at hr ⊢; exact hr
      · rw [if_neg hm] at hr ⊢; exact hr
  · rw [ha h4] at hr
    rw [if_neg (fun q => h4 q.2)] at he
    exact .inr ⟨by rw [he]; exact h4, by rw [he]; exact hr.symm⟩
theorem tk_err {ds : List Nat} {L : List Bool} {m p o i p2 e2 v2 q3 e3 d e4 : Nat} (hi : i < 29) (hn : p2 = nuP L.length p 0 (szF i false).2 ∧ e2 = nuE L.length p 0 (szF i false).2 ∧ v2 = nuV L p 0 (szF i false).2) (hs : SymR ds L p2 e2 q3 e3 d) {is : Prop} [Decidable is] (his : is ↔ 29 < d) (he : e4 = if decide is = true ∧ e3 = 0 then 3 else e3) (h4 : e4 ≠ 0) : tkE ds (fun j => L.getD j false) L.length m p o (i + 257) = .error e4 := by
  obtain ⟨rfl, rfl, rfl⟩ := hn
  obtain ⟨h1, h2⟩ := tkE_two (m := m) (o := o) hi hs
  by_cases h3 : e3 = 0
  · obtain ⟨_, hz, hx⟩ := h2 h3
    by_cases hd : is
    · rw [he, if_pos ⟨by simpa using hd, h3⟩]
      exact (tkE_far hz hx).1 (his.1 hd)
    · rw [if_neg (fun q => hd (by simpa using q.1))] at he
      omega
  · rw [he, if_neg (fun q => h3 q.2)]
    exact h1 h3
theorem tk_on {ds : List Nat} {L : List Bool} {p i p2 e2 v2 q3 e3 d : Nat} (hi : i < 29) (hn : p2 = nuP L.length p 0 (szF i false).2 ∧ e2 = nuE L.length p 0 (szF i false).2 ∧ v2 = nuV L p 0 (szF i false).2) (hs : SymR ds L p2 e2 q3 e3 d) {is : Prop} [Decidable is] (his : is ↔ 29 < d) (he : 0 = if decide is = true ∧ e3 = 0 then 3 else e3) :
    d < 30 ∧ p ≤ p2 ∧ p2 ≤ L.length ∧ szE (fun j => L.getD j false) L.length p i false = .ok ((szF i false).1 + v2, p2) ∧ nxF ds (fun j => L.getD j false) L.length p2 = .ok (d, q3) := by
  obtain ⟨rfl, rfl, rfl⟩ := hn
  obtain ⟨h1, h2⟩ := tkE_two (m := 0) (o := 0) hi hs
  by_cases h3 : e3 = 0
  · by_cases hd : is
    · rw [if_pos ⟨by simpa using hd, h3⟩] at he; cases he
    · obtain ⟨h5, hz, hx⟩ := h2 h3
      have hnu : nuP L.length p 0 (szF i false).2 = p + (szF i false).2 := by unfold nuP; rw [if_pos ⟨rfl, h5⟩]
      rw [hnu]
      have : ¬ 29 < d := fun q => hd (his.2 q)
      exact ⟨by omega, by omega, h5, hz, hx⟩
  · rw [if_neg (fun q => h3 q.2)] at he
    exact absurd he.symm h3
theorem wr_of {is is' : Prop} [Decidable is] [Decidable is'] {e5 e6 er : Nat} (h : is' ↔ is) (he : e6 = if decide is' = true ∧ e5 = 0 then er else e5) : e6 = wrE is e5 er := by
  rw [he]; unfold wrE
  by_cases hi : is
  · have hi' := h.2 hi
    simp [hi, hi']
  · have hi' : ¬ is' := fun q => hi (h.1 q)
    simp [hi, hi']
end Go.Proofs.Ythkppipdflmekaa
namespace Go.Proofs.Ythkppipdflmekaa
open Go.RowKit
set_option linter.unusedVariables false

theorem res_ct {P : Program} {fn : Func} {p t : Tmp} {ty : TypeId} (h : fn.results = #[.cell p ty, .tmp t]) (tmps : Array Value) (w : World) (g : Nat) (tt : TypeId) (cs : Array Value) (fr : Nat × Nat) (d : TypeDesc)
    (hp : tmps.getD p undef = .pointer (some ⟨g, 0, none⟩)) (hg : w.heap[g]? = some (.cells cs tt fr))
    (hu : P.underlying ty = some d) (hd : (match d with | .struct _ | .array _ _ => true | _ => false) = true) (hi : (P.info? ty).map (·.size) = some cs.size) (v : Value) (hv : tmps.getD t undef = v) :
    (results fn tmps).run P w = .ok (.tuple #[.agg cs, v]) w := by
  subst hv
  have hp' : tmps[p]?.getD undef = .pointer (some ⟨g, 0, none⟩) := by simpa using hp
  simp [results, h, hp', asAddr, run_loadVar_row w g tt ty cs fr d hg hu hd hi]
theorem res_ctt {P : Program} {fn : Func} {p t u : Tmp} {ty : TypeId} (h : fn.results = #[.cell p ty, .tmp t, .tmp u]) (tmps : Array Value) (w : World) (g : Nat) (tt : TypeId) (cs : Array Value) (fr : Nat × Nat) (d : TypeDesc)
    (hp : tmps.getD p undef = .pointer (some ⟨g, 0, none⟩)) (hg : w.heap[g]? = some (.cells cs tt fr))
    (hu : P.underlying ty = some d) (hd : (match d with | .struct _ | .array _ _ => true | _ => false) = true) (hi : (P.info? ty).map (·.size) = some cs.size) (v x : Value) (hv : tmps.getD t undef = v) (hx : tmps.getD u undef = x) :
    (results fn tmps).run P w = .ok (.tuple #[.agg cs, v, x]) w := by
  subst hv hx
  have hp' : tmps[p]?.getD undef = .pointer (some ⟨g, 0, none⟩) := by simpa using hp
  simp [results, h, hp', asAddr, run_loadVar_row w g tt ty cs fr d hg hu hd hi]
/-- An operation behind a guard that is met. -/
theorem armG_value {P : Program} {ops : Array Oper} {Q : Exit → Act → World → Prop} {o : Oper} {a : Act} {w : World} {K : Act → World → Prop} {E : Prop} (hw : Region.wanted o (yielded ops a.tmps) = true) (d : Option Tmp) (hd : o.dst = d) {v : Value} {w' : World}
    (hrun : (execOp a.eval o).run P w = .ok (.value v) w') (h : K (a.put d v) w') :
    if Region.wanted o (yielded ops a.tmps) = true then Oper.wp P o a w K Q else E := by
  subst hd
  rw [if_pos hw]
  unfold Oper.wp
  rw [hrun]
  exact h
theorem iSn (g N c p o m e : Nat) : (Try.prog.info? 58).map (·.size) = some (snC g N c p o m e).size := by
  have h : (Try.prog.info? 58).map (·.size) = some 5 := by kernel_rfl
  rw [h]; rfl
end Go.Proofs.Ythkppipdflmekaa
