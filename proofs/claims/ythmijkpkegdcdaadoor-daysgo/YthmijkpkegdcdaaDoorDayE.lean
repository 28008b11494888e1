/- Dates as bytes: their order is that of the days; unlike days have unlike dates. Pure. -/
import Derived.Test.YthmijkpkegdcdaaDoorDayD
namespace Go.Proofs.YthmijkpkegdcdaaDoor
open Go.RowKit
set_option linter.unusedVariables false

/-- Which of two rows of numbers is the lesser. -/
def lessN : List Nat → List Nat → Bool
  | _, [] => false
  | [], _ :: _ => true
  | a :: x, b :: y => decide (a < b) || (decide (a = b) && lessN x y)
theorem less_bytes : ∀ (l k : List Nat), (∀ n ∈ l, n < 256) → (∀ n ∈ k, n < 256) → Op.bytesLess (l.map UInt8.ofNat) (k.map UInt8.ofNat) = lessN l k
  | [], [], _, _ => rfl
  | [], _ :: _, _, _ => rfl
  | _ :: _, [], _, _ => rfl
  | a :: l, b :: k, h1, h2 => by
    have ha : a < 256 := h1 a (by simp)
    have hb : b < 256 := h2 b (by simp)
    have ih := less_bytes l k (fun n hn => h1 n (by simp [hn])) (fun n hn => h2 n (by simp [hn]))
    have e1 : (decide (UInt8.ofNat a < UInt8.ofNat b)) = decide (a < b) := by
      have : UInt8.ofNat a < UInt8.ofNat b ↔ a < b := by rw [UInt8.lt_iff_toNat_lt, UInt8.toNat_ofNat', UInt8.toNat_ofNat', Nat.mod_eq_of_lt ha, Nat.mod_eq_of_lt hb]
      simp only [this]
    have e2 : (UInt8.ofNat a == UInt8.ofNat b) = decide (a = b) := by
      by_cases h : a = b
      · subst h; simp
      · have : ¬ UInt8.ofNat a = UInt8.ofNat b := fun e => by
          have := congrArg UInt8.toNat e
          rw [UInt8.toNat_ofNat', UInt8.toNat_ofNat', Nat.mod_eq_of_lt ha, Nat.mod_eq_of_lt hb] at this
          exact h this
        rw [decide_eq_false h]; simpa using this
    show (decide (UInt8.ofNat a < UInt8.ofNat b) || (UInt8.ofNat a == UInt8.ofNat b && Op.bytesLess (l.map UInt8.ofNat) (k.map UInt8.ofNat))) = _
    rw [e1, e2, ih]; rfl
theorem less_two {a b : Nat} (ha : a < 100) (hb : b < 100) (l k : List Nat) (h : a < b ∨ (a = b ∧ lessN l k = true)) : lessN (two a ++ l) (two b ++ k) = true := by
  simp only [two, List.cons_append, List.nil_append, lessN, Bool.or_eq_true, Bool.and_eq_true, decide_eq_true_eq]
  rcases h with h | ⟨rfl, h⟩
  · by_cases g : a / 10 < b / 10
    · exact .inl (by omega)
    · exact .inr ⟨by omega, .inl (by omega)⟩
  · exact .inr ⟨rfl, .inr ⟨rfl, h⟩⟩
theorem less_cons (a : Nat) (l k : List Nat) (h : lessN l k = true) : lessN (a :: l) (a :: k) = true := by
  simp [lessN, h]
theorem two_inj {a b : Nat} (ha : a < 100) (hb : b < 100) (h : two a = two b) : a = b := by
  simp only [two, List.cons.injEq, and_true] at h
  omega
theorem two_lt (a n : Nat) (h : n ∈ two a) : n < 256 := by simp [two] at h; omega
theorem dateL_lt (y m d n : Nat) (h : n ∈ dateL y m d) : n < 256 := by
  simp only [dateL, List.mem_append, List.mem_singleton] at h
  rcases h with (((((h | h) | h) | h) | h) | h)
  · exact two_lt _ _ h
  · exact two_lt _ _ h
  · omega
  · exact two_lt _ _ h
  · omega
  · exact two_lt _ _ h
theorem dateL_less {y m d y' m' d' : Nat} (hy : y < 10000) (hy' : y' < 10000) (hm : m < 100) (hm' : m' < 100) (hd : d < 100) (hd' : d' < 100)
    (h : y < y' ∨ (y = y' ∧ (m < m' ∨ (m = m' ∧ d < d')))) : lessN (dateL y m d) (dateL y' m' d') = true := by
  simp only [dateL, List.append_assoc]
  apply less_two (by omega) (by omega)
  by_cases g : y / 100 < y' / 100
  · exact .inl g
  · refine .inr ⟨by omega, ?_⟩
    apply less_two (by omega) (by omega)
    by_cases g2 : y % 100 < y' % 100
    · exact .inl g2
    · refine .inr ⟨by omega, ?_⟩
      apply less_cons
      apply less_two (by omega) (by omega)
      by_cases g3 : m < m'
      · exact .inl g3
      · refine .inr ⟨by omega, ?_⟩
        apply less_cons
        have := less_two hd hd' [] [] (.inl (by omega))
        simpa using this
theorem dateL_inj {y m d y' m' d' : Nat} (hy : y < 10000) (hy' : y' < 10000) (hm : m < 100) (hm' : m' < 100) (hd : d < 100) (hd' : d' < 100)
    (h : dateL y m d = dateL y' m' d') : y = y' ∧ m = m' ∧ d = d' := by
  simp only [dateL, two, List.cons_append, List.nil_append, List.cons.injEq, and_true, true_and] at h
  omega
theorem day_parts {d : Nat} (h : d ≤ 2932896) : yrN (mon d) < 10000 ∧ moN (mon d) < 100 ∧ domN d < 100 := by
  have h1 := mon_le h
  have h2 := dom_le d
  unfold yrN moN; omega
theorem ba_list (s : ByteArray) : s.toList = s.data.toList := ByteArray.toList_eq s
theorem date_lt {d e : Nat} (h : d < e) (he : e ≤ 2932896) : Op.bytesLess (dateS d).toList (dateS e).toList = true := by
  rw [ba_list, ba_list, dateS_data, dateS_data, dayL, dayL, less_bytes _ _ (dateL_lt _ _ _) (dateL_lt _ _ _)]
  obtain ⟨p1, p2, p3⟩ := day_parts (d := d) (by omega)
  obtain ⟨q1, q2, q3⟩ := day_parts he
  refine dateL_less p1 q1 p2 q2 p3 q3 ?_
  have hm := mon_mono (Nat.le_of_lt h)
  have hd := (mon_in d).1
  have he' := (mon_in e).1
  by_cases g : mon d = mon e
  · refine .inr ⟨by rw [g], .inr ⟨by rw [g], ?_⟩⟩
    unfold domN
    rw [g]
    rw [g] at hd
    omega
  · have : mon d < mon e := by omega
    unfold yrN moN
    omega
theorem date_inj {d e : Nat} (hd : d ≤ 2932896) (he : e ≤ 2932896) (h : dateS d = dateS e) : d = e := by
  obtain ⟨p1, p2, p3⟩ := day_parts hd
  obtain ⟨q1, q2, q3⟩ := day_parts he
  have hl : (dayL d).map UInt8.ofNat = (dayL e).map UInt8.ofNat := by rw [← dateS_data, ← dateS_data, h]
  have hl2 : dayL d = dayL e := by
    have key : ∀ (l k : List Nat), (∀ n ∈ l, n < 256) → (∀ n ∈ k, n < 256) → l.map UInt8.ofNat = k.map UInt8.ofNat → l = k := by
      intro l
      induction l with
      | nil => intro k _ _ e; cases k with
        | nil => rfl
        | cons b k => cases e
      | cons a l ih =>
        intro k h1 h2 e
        cases k with
        | nil => cases e
        | cons b k =>
          simp only [List.map_cons, List.cons.injEq] at e
          have e1 := congrArg UInt8.toNat e.1
          rw [UInt8.toNat_ofNat', UInt8.toNat_ofNat', Nat.mod_eq_of_lt (h1 a (by simp)), Nat.mod_eq_of_lt (h2 b (by simp))] at e1
          rw [e1, ih k (fun n hn => h1 n (by simp [hn])) (fun n hn => h2 n (by simp [hn])) e.2]
    exact key _ _ (dateL_lt _ _ _) (dateL_lt _ _ _) hl
  obtain ⟨e1, e2, e3⟩ := dateL_inj p1 q1 p2 q2 p3 q3 hl2
  have hm : mon d = mon e := by unfold yrN at e1; unfold moN at e2; omega
  have h1 := (mon_in d).1
  have h2 := (mon_in e).1
  unfold domN at e3
  rw [hm] at e3 h1
  omega
theorem date_le {d e : Nat} (h : d ≤ e) (he : e ≤ 2932896) : (Op.bytesLess (dateS d).toList (dateS e).toList || (dateS d).toList == (dateS e).toList) = true := by
  rcases Nat.lt_or_eq_of_le h with g | g
  · rw [date_lt g he]; rfl
  · subst g; simp
theorem leq_date {P : Program} {d e : Nat} (h : d ≤ e) (he : e ≤ 2932896) (t : TypeId) (w : World) : (binOp .leq t (.string (dateS d)) (.string (dateS e))).run P w = .ok (.bool true) w := by
  show (Op.stringOp .leq (dateS d) (dateS e)).run P w = _
  unfold Op.stringOp
  simp only [date_le h he]
  rfl
theorem eql_date {P : Program} {d e : Nat} (hd : d ≤ 2932896) (he : e ≤ 2932896) (t : TypeId) (w : World) : (binOp .eql t (.string (dateS d)) (.string (dateS e))).run P w = .ok (.bool (decide (d = e))) w := by
  show (Op.stringOp .eql (dateS d) (dateS e)).run P w = _
  unfold Op.stringOp
  have : ((dateS d).toList == (dateS e).toList) = decide (d = e) := by
    by_cases h : d = e
    · subst h; simp
    · have hn : ¬ (dateS d).toList = (dateS e).toList := fun e1 => h (date_inj hd he (ba_ext (by rw [← ba_list, ← ba_list, e1])))
      rw [decide_eq_false h]; simpa using hn
  simp only [this]
  rfl
/-- Four hundred years on, month and day are written alike. -/
theorem date_four (d : Nat) : (dateS (d + 146097)).extract 4 10 = (dateS d).extract 4 10 := by
  apply ba_ext
  rw [extract_data, extract_data, dateS_data, dateS_data]
  unfold dayL
  rw [mon_four, dom_four, show moN (mon d + 4800) = moN (mon d) by unfold moN; omega]
  simp [dateL, two]
end Go.Proofs.YthmijkpkegdcdaaDoor
