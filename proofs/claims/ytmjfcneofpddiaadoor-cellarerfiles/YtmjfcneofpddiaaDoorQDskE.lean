/- Contracts: a disk's Append. -/
import Derived.Test.YtmjfcneofpddiaaDoorQDskD
namespace Go.Proofs.YtmjfcneofpddiaaDoor
open Go.RowKit Go.Maps
set_option linter.unusedVariables false
set_option linter.unusedSimpArgs false

theorem mkT_data (x : List UInt8) : (mkT x).data.toList = x := by simp [mkT]
theorem dname_x (x : List UInt8) (w : World) (hs : x.length ≤ 9223372036854775807) :
    Calls Tryd.prog 31 #[.string (mkT x)] w fun e w' => e = .returned (.bool (nameD x)) ∧ w' = w := by
  have := dname_any (mkT x) w (by rw [mkT_size]; exact hs)
  rw [mkT_data] at this
  exact this
theorem dieS_eq (S : DS) : (dieS S).now = S.now ∧ (dieS S).sure = S.sure ∧ (dieS S).steps = S.steps ∧ (dieS S).fl = S.fl ∧ (dieS S).room = S.room := by
  unfold dieS
  split
  · exact ⟨rfl, rfl, rfl, rfl, rfl⟩
  · split <;> exact ⟨rfl, rfl, rfl, rfl, rfl⟩
theorem usd_ge {fl : Nat → List UInt8 × Nat} {F : Fo} {p : List UInt8 × Nat} (h : p ∈ F) : (fl p.2).1.length ≤ usd fl F := by
  unfold usd
  induction F with
  | nil => cases h
  | cons a l ih =>
    rw [List.map_cons, List.sum_cons]
    rcases List.mem_cons.1 h with e | e
    · subst e; omega
    · have := ih e; omega
def updV (fv : Nat → Value) (g : Nat) (v : Value) : Nat → Value := fun k => if k = g then v else fv k
/-- A file has turned. -/
theorem DKc.setFile {w w' : World} {d : Nat} {S : DS} {K : Nat → Prop} {bn bs : Nat} {sv : Value} {gs : List Nat} {fv : Nat → Value} (h : DKc w d S K bn bs sv gs fv) {g : Nat} (hg : g ∈ gs) (f : List UInt8 × Nat) (v : Value) (hs : w.heap.size ≤ w'.heap.size)
    (ho : ∀ k, k < w.heap.size → k ≠ g → (fv g).ownBlock ≠ some k → w'.heap[k]? = w.heap[k]?) (hc : w'.heap[g]? = some (.cells #[v, .int .i64 (f.2 : Int)] 71 (0, 0))) (hr : w'.ownsRow 0 5 1 v f.1.length (cb f.1))
    (hv : ∀ r, v.ownBlock = some r → (fv g).ownBlock = some r ∨ w.heap.size ≤ r) (h1 : f.2 ≤ f.1.length) (h2 : f.1.length ≤ 1073741824) : DKc w' d { S with fl := updF S.fl g f } K bn bs sv gs (updV fv g v) := by
  obtain ⟨n1, n2, n3, n4⟩ := h.ne_d
  have F := h.file g hg
  have nT : ∀ {k : Nat} {cs : Array Value} {T : TypeId}, w.heap[k]? = some (.cells cs T (0, 0)) → T ≠ 71 → k ≠ g := fun hk hT e => by
    rw [e, F.cell] at hk; injection hk with hk; injection hk with _ e2; exact hT e2.symm
  have nR : ∀ {k : Nat} {cs : Array Value} {T : TypeId}, w.heap[k]? = some (.cells cs T (0, 0)) → T ≠ 5 → (fv g).ownBlock ≠ some k := fun hk hT e => by
    obtain ⟨_, cur, hcur⟩ := own_lt F.row e
    rw [hcur] at hk; injection hk with hk; injection hk with _ e2; exact hT e2.symm
  have nM : ∀ {k : Nat} {G : Fo}, FM w k G → k ≠ g ∧ (fv g).ownBlock ≠ some k := fun hk => by
    obtain ⟨es, c, hm⟩ := hk.isMap
    refine ⟨fun e => ?_, fun e => ?_⟩
    · rw [e, F.cell] at hm; cases hm
    · obtain ⟨_, cur, hcur⟩ := own_lt F.row e; rw [hcur] at hm; cases hm
  have hd : d < w.heap.size := (Array.getElem?_eq_some_iff.1 h.cell).1
  refine ⟨fun k hk => Nat.lt_of_lt_of_le (h.Kb k hk) hs, h.kd, h.kn, h.ks, h.ne, h.kst, (ho d hd (nT h.cell (by decide)) (nR h.cell (by decide))).trans h.cell, h.now.kept (ho bn h.now.lt (nM h.now).1 (nM h.now).2), h.sure.kept (ho bs h.sure.lt (nM h.sure).1 (nM h.sure).2), own_kept h.steps (fun r hr => ?_), fun g' hg' => ?_, fun a ha b hb hne r hra hrb => ?_, h.inN, h.inS, h.inT, h.room0, h.room1, h.left0, h.left1⟩
  · obtain ⟨hlt, cur, hcur⟩ := own_lt h.steps hr
    exact ho r hlt (nT hcur (by decide)) (nR hcur (by decide))
  · by_cases e : g' = g
    · subst e
      refine ⟨F.kg, fun r hr => ?_, ?_, ?_, ?_, ?_⟩
      · simp only [updV, if_pos] at hr
        intro hk
        rcases hv r hr with h3 | h3
        · exact F.kr r h3 hk
        · have := h.Kb r hk; omega
      · simp only [updV, if_pos, updF_same]; exact hc
      · simp only [updV, if_pos, updF_same]; exact hr
      · simp only [updF_same]; exact h1
      · simp only [updF_same]; exact h2
    · have F' := h.file g' hg'
      have e1 : updV fv g v g' = fv g' := by simp [updV, e]
      have e2 : (updF S.fl g f) g' = S.fl g' := updF_other _ _ e
      show FB w' K g' (updF S.fl g f g') (updV fv g v g')
      rw [e1, e2]
      refine F'.kept (ho g' F'.lt e (nR F'.cell (by decide))) (fun r hr => ?_)
      obtain ⟨hlt, cur, hcur⟩ := own_lt F'.row hr
      exact ho r hlt (nT hcur (by decide)) (fun e3 => h.apart g hg g' hg' (fun e4 => e e4.symm) r e3 hr)
  · by_cases ea : a = g
    · by_cases eb : b = g
      · exact hne (ea.trans eb.symm)
      · simp only [updV, if_pos ea] at hra
        simp only [updV, if_neg eb] at hrb
        rcases hv r hra with h3 | h3
        · exact h.apart g hg b hb (fun e => eb e.symm) r h3 hrb
        · have := (own_lt (h.file b hb).row hrb).1; omega
    · simp only [updV, if_neg ea] at hra
      by_cases eb : b = g
      · simp only [updV, if_pos eb] at hrb
        rcases hv r hrb with h3 | h3
        · exact h.apart a ha g hg ea r hra h3
        · have := (own_lt (h.file a ha).row hra).1; omega
      · simp only [updV, if_neg eb] at hrb
        exact h.apart a ha b hb hne r hra hrb
/-- A new file. -/
theorem DKc.addFile {w : World} {d : Nat} {S : DS} {K : Nat → Prop} {bn bs : Nat} {sv : Value} {gs : List Nat} {fv : Nat → Value} (h : DKc w d S K bn bs sv gs fv) :
    DKc (w.alloc (.cells #[.slice none 0 0, .int .i64 0] 71)) d { S with fl := updF S.fl w.heap.size ([], 0) } K bn bs sv (w.heap.size :: gs) (updV fv w.heap.size (.slice none 0 0)) := by
  have hB : Below w.heap.size w (w.alloc (.cells #[.slice none 0 0, .int .i64 0] 71)) := (Below.refl _ _).alloc (Nat.le_refl _) _
  have h' := h.below hB
  have hne : ∀ g ∈ gs, g ≠ w.heap.size := fun g hg => by have := (h.file g hg).lt; omega
  refine ⟨h'.Kb, h'.kd, h'.kn, h'.ks, h'.ne, h'.kst, h'.cell, h'.now, h'.sure, h'.steps, fun g hg => ?_, fun a ha b hb hab r hra hrb => ?_, fun p hp => ⟨List.mem_cons_of_mem _ (h.inN p hp).1, (h.inN p hp).2⟩, fun p hp => ⟨List.mem_cons_of_mem _ (h.inS p hp).1, (h.inS p hp).2⟩, fun s hs => ⟨List.mem_cons_of_mem _ (h.inT s hs).1, (h.inT s hs).2⟩, h.room0, h.room1, h.left0, h.left1⟩
  · show FB _ K g (updF S.fl w.heap.size ([], 0) g) (updV fv w.heap.size (.slice none 0 0) g)
    by_cases e : g = w.heap.size
    · subst e
      rw [updF_same, show updV fv w.heap.size (.slice none 0 0) w.heap.size = .slice none 0 0 by simp [updV]]
      exact ⟨fun hk => by have := h.Kb _ hk; omega, fun r hr => (by cases hr), heap_alloc_new _ _, World.ownsRow_nil _ _ _ _, Nat.le_refl _, Nat.zero_le _⟩
    · rw [updF_other _ _ e, show updV fv w.heap.size (.slice none 0 0) g = fv g by simp [updV, e]]
      exact h'.file g (by rcases List.mem_cons.1 hg with h1 | h1; exact absurd h1 e; exact h1)
  · by_cases ea : a = w.heap.size
    · simp only [updV, if_pos ea] at hra; cases hra
    · by_cases eb : b = w.heap.size
      · simp only [updV, if_pos eb] at hrb; cases hrb
      · simp only [updV, if_neg ea] at hra
        simp only [updV, if_neg eb] at hrb
        exact h.apart a (by rcases List.mem_cons.1 ha with h1 | h1; exact absurd h1 ea; exact h1) b (by rcases List.mem_cons.1 hb with h1 | h1; exact absurd h1 eb; exact h1) hab r hra hrb
end Go.Proofs.YtmjfcneofpddiaaDoor
