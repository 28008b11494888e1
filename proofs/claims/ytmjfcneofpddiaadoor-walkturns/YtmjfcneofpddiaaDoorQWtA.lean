/- What becomes of a tree in another one (pure). -/
import Derived.Test.YtmjfcneofpddiaaDoorQWpA
namespace Go.Proofs.YtmjfcneofpddiaaDoor
set_option linter.unusedVariables false
set_option linter.unusedSimpArgs false

structure Chg where
  p : List UInt8
  w : Int
def allC (l : List It) (k : Int) : List Chg := l.map fun x => ⟨x.p, k⟩
def chgN : List It → List It → List Chg
  | [], b => allC b 1
  | x :: a, [] => allC (x :: a) 2
  | x :: a, y :: b => if pcm x.p y.p = -1 then ⟨x.p, 2⟩ :: chgN a (y :: b) else if pcm x.p y.p = 1 then ⟨y.p, 1⟩ :: chgN (x :: a) b else (if x = y then [] else [⟨x.p, 3⟩]) ++ chgN a b
termination_by a b => a.length + b.length
theorem chg_nil (b : List It) : chgN [] b = allC b 1 := by rw [chgN]
theorem chg_nilr : ∀ a : List It, chgN a [] = allC a 2
  | [] => by rw [chgN]; rfl
  | x :: a => by rw [chgN]
theorem chg_cons (x y : It) (a b : List It) : chgN (x :: a) (y :: b) = if pcm x.p y.p = -1 then ⟨x.p, 2⟩ :: chgN a (y :: b) else if pcm x.p y.p = 1 then ⟨y.p, 1⟩ :: chgN (x :: a) b else (if x = y then [] else [⟨x.p, 3⟩]) ++ chgN a b := by rw [chgN]
theorem chg_len : ∀ (n : Nat) (a b : List It), a.length + b.length = n → (chgN a b).length ≤ n
  | n, [], b, h => by rw [chg_nil]; simp [allC]; simp at h; omega
  | n, x :: a, [], h => by rw [chg_nilr]; simp [allC]; simp at h; omega
  | n, x :: a, y :: b, h => by
    rw [chg_cons]
    simp only [List.length_cons] at h
    split
    · have := chg_len (n - 1) a (y :: b) (by simp; omega)
      simp; omega
    · split
      · have := chg_len (n - 1) (x :: a) b (by simp; omega)
        simp; omega
      · have := chg_len (n - 2) a b (by omega)
        split <;> simp <;> omega
termination_by n => n
theorem chg_self : ∀ l : List It, chgN l l = []
  | [] => by rw [chg_nil]; rfl
  | x :: l => by
    have e : pcm x.p x.p = 0 := (pcm_ord.eq _ _).2 rfl
    rw [chg_cons, if_neg (by rw [e]; decide), if_neg (by rw [e]; decide), if_pos rfl, chg_self l]; rfl
/-- The one is the other way about. -/
def trn (a b : Int) : Prop := (a = 1 ∧ b = 2) ∨ (a = 2 ∧ b = 1) ∨ (a = 3 ∧ b = 3)
def TurnL : List Chg → List Chg → Prop
  | [], [] => True
  | c :: l, d :: m => (c.p = d.p ∧ trn c.w d.w) ∧ TurnL l m
  | _, _ => False
theorem TurnL.len : ∀ {l m : List Chg}, TurnL l m → l.length = m.length
  | [], [], _ => rfl
  | c :: l, d :: m, h => by simp [TurnL.len h.2]
  | [], _ :: _, h => h.elim
  | _ :: _, [], h => h.elim
theorem TurnL.at : ∀ {l m : List Chg}, TurnL l m → ∀ {i : Nat} {c : Chg}, l[i]? = some c → ∃ d, m[i]? = some d ∧ c.p = d.p ∧ trn c.w d.w
  | [], [], _, i, c, h => by simp at h
  | c :: l, d :: m, h, 0, e, he => by simp at he; subst he; exact ⟨d, rfl, h.1⟩
  | c :: l, d :: m, h, i + 1, e, he => by
    obtain ⟨f, h1, h2⟩ := TurnL.at h.2 (i := i) (by simpa using he)
    exact ⟨f, by simpa using h1, h2⟩
  | [], _ :: _, h, _, _, _ => h.elim
  | _ :: _, [], h, _, _, _ => h.elim
theorem turn_all (l : List It) : TurnL (allC l 1) (allC l 2) ∧ TurnL (allC l 2) (allC l 1) := by
  induction l with
  | nil => exact ⟨trivial, trivial⟩
  | cons x l ih => exact ⟨⟨⟨rfl, .inl ⟨rfl, rfl⟩⟩, ih.1⟩, ⟨⟨rfl, .inr (.inl ⟨rfl, rfl⟩)⟩, ih.2⟩⟩
theorem chg_turn : ∀ (n : Nat) (a b : List It), a.length + b.length ≤ n → TurnL (chgN a b) (chgN b a)
  | n, [], b, h => by rw [chg_nil, chg_nilr]; exact (turn_all b).1
  | n, x :: a, [], h => by rw [chg_nilr, chg_nil]; exact (turn_all _).2
  | 0, x :: a, y :: b, h => by simp at h
  | n + 1, x :: a, y :: b, h => by
    rw [chg_cons, chg_cons]
    simp only [List.length_cons] at h
    have hanti := pcm_ord.anti x.p y.p
    rcases pcm_ord.vals x.p y.p with e | e | e
    · have e2 : pcm y.p x.p = 1 := by omega
      rw [if_pos e, if_neg (by rw [e2]; decide), if_pos e2]
      exact ⟨⟨rfl, .inr (.inl ⟨rfl, rfl⟩)⟩, chg_turn n a (y :: b) (by simp; omega)⟩
    · have e2 : pcm y.p x.p = 0 := by omega
      have hp : x.p = y.p := (pcm_ord.eq _ _).1 e
      have n1 : ¬ pcm x.p y.p = -1 := by rw [e]; decide
      have n2 : ¬ pcm x.p y.p = 1 := by rw [e]; decide
      have n3 : ¬ pcm y.p x.p = -1 := by rw [e2]; decide
      have n4 : ¬ pcm y.p x.p = 1 := by rw [e2]; decide
      rw [if_neg n1, if_neg n2, if_neg n3, if_neg n4]
      by_cases h1 : x = y
      · rw [if_pos h1, if_pos h1.symm]; exact chg_turn n a b (by omega)
      · rw [if_neg h1, if_neg (fun e3 => h1 e3.symm)]
        exact ⟨⟨hp, .inr (.inr ⟨rfl, rfl⟩)⟩, chg_turn n a b (by omega)⟩
    · have e2 : pcm y.p x.p = -1 := by omega
      rw [if_neg (by rw [e]; decide), if_pos e, if_pos e2]
      exact ⟨⟨rfl, .inl ⟨rfl, rfl⟩⟩, chg_turn n (x :: a) b (by simp; omega)⟩
/-- Sorted lists of one tree are one list. -/
theorem srt_one : ∀ (l m : List It), Srt l → Srt m → l.Perm m → (l.map It.p).Nodup → l = m
  | [], m, _, _, hp, _ => hp.nil_eq
  | x :: l, [], _, _, hp, _ => by simp at hp
  | x :: l, y :: m, hs, ht, hp, hn => by
    unfold Srt at hs ht
    rw [List.pairwise_cons] at hs ht
    have hxy : x = y := by
      rcases List.mem_cons.1 (hp.mem_iff.1 (List.mem_cons_self (a := x) (l := l))) with h | h
      · exact h
      · rcases List.mem_cons.1 (hp.mem_iff.2 (List.mem_cons_self (a := y) (l := m))) with h2 | h2
        · exact h2.symm
        · have e1 := ht.1 x h
          have e2 := hs.1 y h2
          have hanti := pcm_ord.anti x.p y.p
          have e3 : pcm x.p y.p = 0 := by
            rcases pcm_ord.vals x.p y.p with e | e | e
            · exact absurd e e1
            · exact e
            · exact absurd (show pcm y.p x.p = -1 by omega) e2
          rw [List.map_cons, List.nodup_cons] at hn
          exact absurd (List.mem_map.2 ⟨y, h2, ((pcm_ord.eq _ _).1 e3).symm⟩) hn.1
    subst hxy
    rw [List.map_cons, List.nodup_cons] at hn
    rw [srt_one l m hs.2 ht.2 ((List.perm_cons x).1 hp) hn.2]
end Go.Proofs.YtmjfcneofpddiaaDoor
