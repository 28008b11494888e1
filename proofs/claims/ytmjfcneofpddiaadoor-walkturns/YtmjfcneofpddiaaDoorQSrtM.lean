/- Pure: what a stable sort does to a row (the texts of HSwp, RotM, SymM, StbM that speak of no code). -/
import Derived.Test.YtmjfcneofpddiaaDoorQKeep
import Derived.Shelf.SlSortCmp.KitK
namespace Go.Proofs.YtmjfcneofpddiaaDoor
open Go.RowKit Go.Shelf Go.Lib Go.Sort
set_option linter.unusedVariables false
set_option linter.unusedSimpArgs false
variable {N : Nat} [Inhabited (Fin N)]

/-- The first k places from a on exchanged with those from b on. -/
def swR (d : Array (Fin N)) (a b : Nat) : Nat → Array (Fin N)
  | 0 => d
  | k + 1 => swp (swR d a b k) (a + k) (b + k)
theorem swR_size (d : Array (Fin N)) (a b : Nat) : ∀ k, (swR d a b k).size = d.size
  | 0 => rfl
  | k + 1 => by rw [swR, size_swp, swR_size d a b k]
theorem pRun (a i : Nat) (h : a + i < 4611686018427387904) : IntKind.i64.wrap ((a : Int) + (i : Int)) = ((a + i : Nat) : Int) := by
  rw [IntKind.wrap_i64]; omega
theorem mRun (a i : Nat) (hi : i ≤ a) (h : a < 4611686018427387904) : IntKind.i64.wrap ((a : Int) - (i : Int)) = ((a - i : Nat) : Int) := by
  rw [IntKind.wrap_i64]; omega
theorem halfRun (i j : Nat) (h : i + j < 4611686018427387904) : IntKind.u64.wrap ((i : Int) + (j : Int)) = ((i + j : Nat) : Int) ∧ IntKind.i64.wrap (((i + j) / 2 : Nat) : Int) = (((i + j) / 2 : Nat) : Int) := by
  constructor
  · rw [IntKind.wrap_u64]; omega
  · rw [IntKind.wrap_i64]; omega
/-- Where the cell at place k comes from when n places from a are exchanged with those from b. -/
def swI (a b n k : Nat) : Nat := if a ≤ k ∧ k < a + n then k + (b - a) else if b ≤ k ∧ k < b + n then k - (b - a) else k
/-- Where the cell at place k comes from when [a, m) and [m, b) change places. -/
def rotI (a m b k : Nat) : Nat := if a ≤ k ∧ k < a + (b - m) then k + (m - a) else if a + (b - m) ≤ k ∧ k < b then k - (b - m) else k
theorem swp_at (d : Array (Fin N)) (i j k : Nat) (hi : i < d.size) (hj : j < d.size) : (swp d i j)[k]! = if k = j then d[i]! else if k = i then d[j]! else d[k]! := by
  unfold swp
  by_cases h1 : k = j
  · subst h1; rw [if_pos rfl, getElem!_set_same _ _ _ (by simpa using hj)]
  · rw [if_neg h1, getElem!_set_other _ _ _ _ h1]
    by_cases h2 : k = i
    · subst h2; rw [if_pos rfl, getElem!_set_same _ _ _ hi]
    · rw [if_neg h2, getElem!_set_other _ _ _ _ h2]
theorem swR_at (d : Array (Fin N)) (a b : Nat) : ∀ n, a + n ≤ b → b + n ≤ d.size → ∀ k, (swR d a b n)[k]! = d[swI a b n k]!
  | 0, _, _, k => by
    rw [swR]; congr 1; unfold swI; split <;> (try split) <;> omega
  | n + 1, h1, h2, k => by
    rw [swR, swp_at _ _ _ _ (by rw [swR_size]; omega) (by rw [swR_size]; omega)]
    have ih := swR_at d a b n (by omega) (by omega)
    by_cases e1 : k = b + n
    · rw [if_pos e1, ih]; congr 1; unfold swI; subst e1
      rw [if_neg (by omega), if_neg (by omega), if_neg (by omega), if_pos (by omega)]; omega
    · rw [if_neg e1]
      by_cases e2 : k = a + n
      · rw [if_pos e2, ih]; congr 1; unfold swI; subst e2
        rw [if_neg (by omega), if_neg (by omega), if_pos (by omega)]; omega
      · rw [if_neg e2, ih]; congr 1; unfold swI
        by_cases c1 : a ≤ k ∧ k < a + n
        · rw [if_pos c1, if_pos (by omega)]
        · rw [if_neg c1, if_neg (show ¬ (a ≤ k ∧ k < a + (n + 1)) by omega)]
          by_cases c2 : b ≤ k ∧ k < b + n
          · rw [if_pos c2, if_pos (by omega)]
          · rw [if_neg c2, if_neg (by omega)]
theorem swR_perm (d : Array (Fin N)) (a b lo hi : Nat) (ha : lo ≤ a) (hb : lo ≤ b) (hs : hi ≤ d.size) : ∀ n, a + n ≤ hi → b + n ≤ hi → PermIn lo hi d (swR d a b n)
  | 0, _, _ => permIn_refl _ _ _
  | n + 1, h1, h2 => permIn_trans _ _ _ _ _ (swR_perm d a b lo hi ha hb hs n (by omega) (by omega)) (swp_permIn _ lo hi _ _ (by omega) (by omega) (by omega) (by omega) (by rw [swR_size]; exact hs))
/-- d' is d with [a, m) and [m, b) having changed places. -/
def Rot (d d' : Array (Fin N)) (a m b : Nat) : Prop := d'.size = d.size ∧ ∀ k, d'[k]! = d[rotI a m b k]!
theorem rot_more (m i j k : Nat) (hj : 0 < j) (hij : j < i) (him : i ≤ m) : swI (m - i) m j (rotI (m - (i - j)) m (m + j) k) = rotI (m - i) m (m + j) k := by
  unfold rotI
  split
  · unfold swI; split
    · split <;> (try split) <;> omega
    · split
      · split <;> (try split) <;> omega
      · split <;> (try split) <;> omega
  · split
    · unfold swI; split
      · split <;> (try split) <;> omega
      · split
        · split <;> (try split) <;> omega
        · split <;> (try split) <;> omega
    · unfold swI; split
      · split <;> (try split) <;> omega
      · split
        · split <;> (try split) <;> omega
        · split <;> (try split) <;> omega
theorem rot_less (m i j k : Nat) (hi : 0 < i) (hij : i < j) (him : i ≤ m) : swI (m - i) (m + j - i) i (rotI (m - i) m (m + (j - i)) k) = rotI (m - i) m (m + j) k := by
  unfold rotI
  split
  · unfold swI; split
    · split <;> (try split) <;> omega
    · split
      · split <;> (try split) <;> omega
      · split <;> (try split) <;> omega
  · split
    · unfold swI; split
      · split <;> (try split) <;> omega
      · split
        · split <;> (try split) <;> omega
        · split <;> (try split) <;> omega
    · unfold swI; split
      · split <;> (try split) <;> omega
      · split
        · split <;> (try split) <;> omega
        · split <;> (try split) <;> omega
theorem rot_same (m i k : Nat) (hi : 0 < i) (him : i ≤ m) : swI (m - i) m i k = rotI (m - i) m (m + i) k := by
  unfold swI rotI
  split <;> (try split) <;> (try split) <;> (try split) <;> omega
/-- The element at a moved up n places. -/
def shU (d : Array (Fin N)) (a : Nat) : Nat → Array (Fin N)
  | 0 => d
  | n + 1 => swp (shU d a n) (a + n) (a + n + 1)
theorem shU_size (d : Array (Fin N)) (a : Nat) : ∀ n, (shU d a n).size = d.size
  | 0 => rfl
  | n + 1 => by rw [shU, size_swp, shU_size d a n]
theorem shU_perm (d : Array (Fin N)) (a lo hi : Nat) (ha : lo ≤ a) (hs : hi ≤ d.size) : ∀ n, a + n < hi → PermIn lo hi d (shU d a n)
  | 0, _ => permIn_refl _ _ _
  | n + 1, h => permIn_trans _ _ _ _ _ (shU_perm d a lo hi ha hs n (by omega)) (swp_permIn _ lo hi _ _ (by omega) (by omega) (by omega) (by omega) (by rw [shU_size]; exact hs))
theorem shU_at (d : Array (Fin N)) (a : Nat) : ∀ n, a + n < d.size → ∀ k, (shU d a n)[k]! = if a ≤ k ∧ k < a + n then d[k + 1]! else if k = a + n then d[a]! else d[k]!
  | 0, _, k => by
    rw [shU, if_neg (by omega)]
    by_cases h : k = a + 0
    · rw [if_pos h, h]; rfl
    · rw [if_neg h]
  | n + 1, h, k => by
    have ih := shU_at d a n (by omega)
    rw [shU, swp_at _ _ _ _ (by rw [shU_size]; omega) (by rw [shU_size]; omega)]
    by_cases e1 : k = a + n + 1
    · rw [if_pos e1, ih, if_neg (by omega), if_pos rfl, if_neg (by omega), if_pos (by omega)]
    · rw [if_neg e1]
      by_cases e2 : k = a + n
      · rw [if_pos e2, ih, if_neg (by omega), if_neg (by omega), if_pos (by omega), e2]
      · rw [if_neg e2, ih]
        by_cases c : a ≤ k ∧ k < a + n
        · rw [if_pos c, if_pos (by omega)]
        · rw [if_neg c, if_neg e2, if_neg (by omega), if_neg (by omega)]
theorem shU_sorted {lt : Fin N → Fin N → Bool} (hS : SWO lt) (d : Array (Fin N)) (a b n : Nat) (hb : b ≤ d.size) (hn : a + n < b) (hs : SortedIn lt (a + 1) b d)
    (h1 : n = 0 ∨ lt d[a + n]! d[a]! = true) (h2 : a + n + 1 = b ∨ lt d[a + n + 1]! d[a]! = false) : SortedIn lt a b (shU d a n) := by
  intro i j hi hij hj
  rw [shU_at d a n (by omega), shU_at d a n (by omega)]
  by_cases c1 : j < a + n
  · rw [if_pos ⟨by omega, c1⟩, if_pos ⟨hi, by omega⟩]; exact hs _ _ (by omega) (by omega) (by omega)
  · rw [if_neg (by omega)]
    by_cases c2 : j = a + n
    · rw [if_pos c2, if_pos ⟨hi, by omega⟩]
      rcases h1 with h1 | h1
      · omega
      · cases q : lt d[a]! d[i + 1]!
        · rfl
        · have t := hS.trans _ _ _ h1 q
          by_cases e : i + 1 = a + n
          · rw [e, hS.irrefl] at t; exact t.symm
          · rw [hs (i + 1) (a + n) (by omega) (by omega) (by omega)] at t; exact t.symm
    · rw [if_neg c2]
      by_cases c3 : i < a + n
      · rw [if_pos ⟨hi, c3⟩]; exact hs _ _ (by omega) (by omega) hj
      · rw [if_neg (by omega)]
        by_cases c4 : i = a + n
        · rw [if_pos c4]
          rcases h2 with h2 | h2
          · omega
          · by_cases e : j = a + n + 1
            · rw [e]; exact h2
            · exact hS.ntrans _ _ _ (hs (a + n + 1) j (by omega) (by omega) hj) h2
        · rw [if_neg c4]; exact hs _ _ (by omega) hij hj
/-- The element at m moved down n places. -/
def shD (d : Array (Fin N)) (m : Nat) : Nat → Array (Fin N)
  | 0 => d
  | n + 1 => swp (shD d m n) (m - n) (m - n - 1)
theorem shD_size (d : Array (Fin N)) (m : Nat) : ∀ n, (shD d m n).size = d.size
  | 0 => rfl
  | n + 1 => by rw [shD, size_swp, shD_size d m n]
theorem shD_perm (d : Array (Fin N)) (m lo hi : Nat) (hm : m < hi) (hs : hi ≤ d.size) : ∀ n, lo + n ≤ m → PermIn lo hi d (shD d m n)
  | 0, _ => permIn_refl _ _ _
  | n + 1, h => permIn_trans _ _ _ _ _ (shD_perm d m lo hi hm hs n (by omega)) (swp_permIn _ lo hi _ _ (by omega) (by omega) (by omega) (by omega) (by rw [shD_size]; exact hs))
theorem shD_at (d : Array (Fin N)) (m : Nat) (hm : m < d.size) : ∀ n, n ≤ m → ∀ k, (shD d m n)[k]! = if m - n < k ∧ k ≤ m then d[k - 1]! else if k = m - n then d[m]! else d[k]!
  | 0, _, k => by
    rw [shD, if_neg (by omega)]
    by_cases h : k = m - 0
    · rw [if_pos h, h]; rfl
    · rw [if_neg h]
  | n + 1, h, k => by
    have ih := shD_at d m hm n (by omega)
    rw [shD, swp_at _ _ _ _ (by rw [shD_size]; omega) (by rw [shD_size]; omega)]
    by_cases e1 : k = m - n - 1
    · rw [if_pos e1, ih, if_neg (by omega), if_pos rfl, if_neg (by omega), if_pos (by omega)]
    · rw [if_neg e1]
      by_cases e2 : k = m - n
      · rw [if_pos e2, ih, if_neg (by omega), if_neg (by omega), if_pos (by omega), e2]
      · rw [if_neg e2, ih]
        by_cases c : m - n < k ∧ k ≤ m
        · rw [if_pos c, if_pos (by omega)]
        · rw [if_neg c, if_neg e2, if_neg (by omega), if_neg (by omega)]
theorem shD_sorted {lt : Fin N → Fin N → Bool} (hS : SWO lt) (d : Array (Fin N)) (a m n : Nat) (hm : m < d.size) (hn : a + n ≤ m) (hs : SortedIn lt a m d)
    (h1 : n = 0 ∨ lt d[m]! d[m - n]! = true) (h2 : m - n = a ∨ lt d[m]! d[m - n - 1]! = false) : SortedIn lt a (m + 1) (shD d m n) := by
  intro i j hi hij hj
  rw [shD_at d m hm n (by omega), shD_at d m hm n (by omega)]
  by_cases c1 : m - n < i
  · rw [if_pos ⟨by omega, by omega⟩, if_pos ⟨c1, by omega⟩]; exact hs _ _ (by omega) (by omega) (by omega)
  · rw [if_neg (show ¬ (m - n < i ∧ i ≤ m) by omega)]
    by_cases c2 : i = m - n
    · rw [if_pos c2, if_pos ⟨by omega, by omega⟩]
      rcases h1 with h1 | h1
      · omega
      · cases q : lt d[j - 1]! d[m]!
        · rfl
        · have t := hS.trans _ _ _ q h1
          by_cases e : j - 1 = m - n
          · rw [e, hS.irrefl] at t; exact t.symm
          · rw [hs (m - n) (j - 1) (by omega) (by omega) (by omega)] at t; exact t.symm
    · rw [if_neg c2]
      by_cases c3 : m - n < j
      · rw [if_pos ⟨c3, by omega⟩]
        exact hs _ _ hi (by omega) (by omega)
      · rw [if_neg (by omega)]
        by_cases c4 : j = m - n
        · rw [if_pos c4]
          rcases h2 with h2 | h2
          · omega
          · by_cases e : i = m - n - 1
            · rw [e]; exact h2
            · exact hS.ntrans _ _ _ h2 (hs i (m - n - 1) hi (by omega) (by omega))
        · rw [if_neg c4]; exact hs _ _ hi hij (by omega)
theorem srt_le {lt : Fin N → Fin N → Bool} (hS : SWO lt) {d : Array (Fin N)} {a b i j : Nat} (hs : SortedIn lt a b d) (h1 : a ≤ i) (h2 : i ≤ j) (h3 : j < b) : lt d[j]! d[i]! = false := by
  by_cases e : i = j
  · rw [e]; exact hS.irrefl _
  · exact hs i j h1 (by omega) h3
omit [Inhabited (Fin N)] in
theorem swo_asym {lt : Fin N → Fin N → Bool} (hS : SWO lt) {x y : Fin N} (h : lt x y = true) : lt y x = false := by
  cases q : lt y x
  · rfl
  · have t := hS.trans _ _ _ h q
    rw [hS.irrefl] at t; exact t.symm
/-- What the turn in the middle gives: four sorted stretches, and nothing of the right half less than what is in the left. -/
theorem sym_cross {lt : Fin N → Fin N → Bool} (hS : SWO lt) (d e : Array (Fin N)) (a m b mid s en : Nat) (hn : s + en = mid + m) (has : a ≤ s) (hsm : s ≤ m) (hmid : s ≤ mid) (hme : m ≤ en) (heb : en ≤ b)
    (hR : Rot d e s m en) (h1 : SortedIn lt a m d) (h2 : SortedIn lt m b d) (hq1 : s = a ∨ en = b ∨ lt d[en]! d[s - 1]! = false) (hq2 : s = m ∨ en = m ∨ lt d[en - 1]! d[s]! = true) :
    SortedIn lt a s e ∧ SortedIn lt s mid e ∧ SortedIn lt mid en e ∧ SortedIn lt en b e ∧ ∀ i j, a ≤ i → i < mid → mid ≤ j → j < b → lt e[j]! e[i]! = false := by
  have r0 : ∀ k, k < s → e[k]! = d[k]! := fun k hk => by rw [hR.2]; unfold rotI; rw [if_neg (by omega), if_neg (by omega)]
  have r1 : ∀ k, s ≤ k → k < mid → e[k]! = d[k + (m - s)]! := fun k hk hk2 => by rw [hR.2]; unfold rotI; rw [if_pos (by omega)]
  have r2 : ∀ k, mid ≤ k → k < en → e[k]! = d[k - (en - m)]! := fun k hk hk2 => by rw [hR.2]; unfold rotI; rw [if_neg (by omega), if_pos (by omega)]
  have r3 : ∀ k, en ≤ k → e[k]! = d[k]! := fun k hk => by rw [hR.2]; unfold rotI; rw [if_neg (by omega), if_neg (by omega)]
  refine ⟨?_, ?_, ?_, ?_, ?_⟩
  · intro i j hi hij hj; rw [r0 i (by omega), r0 j hj]; exact h1 _ _ hi hij (by omega)
  · intro i j hi hij hj; rw [r1 i hi (by omega), r1 j (by omega) hj]; exact h2 _ _ (by omega) (by omega) (by omega)
  · intro i j hi hij hj; rw [r2 i hi (by omega), r2 j (by omega) hj]; exact h1 _ _ (by omega) (by omega) (by omega)
  · intro i j hi hij hj; rw [r3 i hi, r3 j (by omega)]; exact h2 _ _ (by omega) hij hj
  · intro i j hi him hj hjb
    by_cases c1 : i < s
    · rw [r0 i c1]
      by_cases c2 : j < en
      · rw [r2 j hj c2]; exact h1 _ _ hi (by omega) (by omega)
      · rw [r3 j (by omega)]
        have hq : lt d[en]! d[s - 1]! = false := by rcases hq1 with h | h | h <;> first | omega | exact h
        exact hS.ntrans _ _ _ (srt_le hS h2 (by omega) (by omega) hjb) (hS.ntrans _ _ _ hq (srt_le hS h1 hi (by omega) (by omega)))
    · rw [r1 i (by omega) him]
      by_cases c2 : j < en
      · rw [r2 j hj c2]
        have hq : lt d[s]! d[en - 1]! = false := by rcases hq2 with h | h | h <;> first | omega | exact swo_asym hS h
        exact hS.ntrans _ _ _ (srt_le hS h1 (by omega) (show s ≤ j - (en - m) by omega) (by omega)) (hS.ntrans _ _ _ hq (srt_le hS h2 (by omega) (by omega) (by omega)))
      · rw [r3 j (by omega)]; exact h2 _ _ (by omega) (by omega) hjb
/-- Two sorted halves, nothing of the right less than what is in the left: sorted. -/
theorem sym_join {lt : Fin N → Fin N → Bool} (e e1 e2 : Array (Fin N)) (a mid b : Nat) (ham : a ≤ mid) (hmb : mid ≤ b) (hb : b ≤ e.size)
    (hx : ∀ i j, a ≤ i → i < mid → mid ≤ j → j < b → lt e[j]! e[i]! = false) (P1 : PermIn a mid e e1) (S1 : SortedIn lt a mid e1) (P2 : PermIn mid b e1 e2) (S2 : SortedIn lt mid b e2) :
    PermIn a b e e2 ∧ SortedIn lt a b e2 := by
  refine ⟨permIn_trans _ _ _ _ _ (permIn_mono _ _ a mid a b (Nat.le_refl _) hmb hb P1) (permIn_mono _ _ mid b a b ham (Nat.le_refl _) (by rw [P1.1]; exact hb) P2), ?_⟩
  intro i j hi hij hj
  by_cases c1 : i < mid
  · rw [P2.2.1 i (.inl c1)]
    by_cases c2 : j < mid
    · rw [P2.2.1 j (.inl c2)]; exact S1 _ _ hi hij c2
    · refine permIn_all e1 e2 mid b (fun y => lt y e1[i]! = false) (by rw [P1.1]; exact hb) P2 (fun q hq hqb => ?_) j (by omega) hj
      show lt e1[q]! e1[i]! = false
      rw [P1.2.1 q (.inr hq)]
      exact permIn_all e e1 a mid (fun x => lt e[q]! x = false) (by omega) P1 (fun r hr hrm => hx r q hr hrm hq hqb) i hi c1
  · exact S2 _ _ (by omega) hij hj
/-- Sorted within each block of s places, from lo to hi. -/
def SBk (lt : Fin N → Fin N → Bool) (s lo hi : Nat) (d : Array (Fin N)) : Prop := ∀ i j, lo ≤ i → i < j → j < hi → i / s = j / s → lt d[j]! d[i]! = false
theorem blk_of {s q i : Nat} (hs : 0 < s) (h1 : q * s ≤ i) (h2 : i < q * s + s) : i / s = q := by
  have a : q ≤ i / s := (Nat.le_div_iff_mul_le hs).2 h1
  have b : i / s < q + 1 := (Nat.div_lt_iff_lt_mul hs).2 (by rw [Nat.succ_mul]; exact h2)
  omega
theorem blk_lt {s q i : Nat} (hs : 0 < s) (h : i < q * s) : i / s < q := (Nat.div_lt_iff_lt_mul hs).2 h
theorem SBk.sorted {lt : Fin N → Fin N → Bool} {s lo hi q b : Nat} {d : Array (Fin N)} (h : SBk lt s lo hi d) (hs : 0 < s) (hl : lo ≤ q * s) (hb : b ≤ q * s + s) (hh : b ≤ hi) : SortedIn lt (q * s) b d :=
  fun i j h1 h2 h3 => h i j (by omega) h2 (by omega) (by rw [blk_of hs h1 (by omega), blk_of hs (show q * s ≤ j by omega) (by omega)])
theorem SBk.keep {lt : Fin N → Fin N → Bool} {s lo hi a b : Nat} {d d' : Array (Fin N)} (h : SBk lt s lo hi d) (P : PermIn a b d d') (hk : hi ≤ a ∨ b ≤ lo) : SBk lt s lo hi d' := by
  intro i j h1 h2 h3 h4
  rw [P.2.1 i (by omega), P.2.1 j (by omega)]; exact h i j h1 h2 h3 h4
/-- One block more. -/
theorem SBk.more {lt : Fin N → Fin N → Bool} {s q b : Nat} {d : Array (Fin N)} (hs : 0 < s) (h : SBk lt s 0 (q * s) d) (hb : b ≤ q * s + s) (hS : SortedIn lt (q * s) b d) : SBk lt s 0 b d := by
  intro i j _ h2 h3 h4
  by_cases c1 : j < q * s
  · exact h i j (by omega) h2 c1 h4
  · by_cases c2 : i < q * s
    · have := blk_lt hs c2
      rw [blk_of hs (show q * s ≤ j by omega) (by omega)] at h4
      omega
    · exact hS i j (by omega) h2 h3
theorem SBk.whole {lt : Fin N → Fin N → Bool} {s n : Nat} {d : Array (Fin N)} (h : SBk lt s 0 n d) (hs : n ≤ s) : SortedIn lt 0 n d := by
  intro i j h1 h2 h3
  exact h i j h1 h2 h3 (by rw [Nat.div_eq_of_lt (by omega), Nat.div_eq_of_lt (by omega)])
theorem SBk.later {lt : Fin N → Fin N → Bool} {s lo lo' hi : Nat} {d : Array (Fin N)} (h : SBk lt s lo hi d) (hl : lo ≤ lo') : SBk lt s lo' hi d :=
  fun i j h1 h2 h3 h4 => h i j (by omega) h2 h3 h4
end Go.Proofs.YtmjfcneofpddiaaDoor
