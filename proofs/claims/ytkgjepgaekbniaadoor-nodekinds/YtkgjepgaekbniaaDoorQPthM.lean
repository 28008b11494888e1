/- Paths as plain functions on bytes: the parts between slashes, folder and last part, the order part by part. -/
import Derived.Test.YtkgjepgaekbniaaDoorQRunM
import Derived.Lib.Split
import Derived.Lib.SplitLaws
import Derived.Lib.CutLaws
import Derived.Lib.Bytealg
import Derived.Lib.LastIndexByte
namespace Go.Proofs.YtkgjepgaekbniaaDoor
set_option linter.unusedVariables false
set_option linter.unusedSimpArgs false

def consP (c : UInt8) : List (List UInt8) → List (List UInt8)
  | [] => [[c]]
  | p :: ps => (c :: p) :: ps
/-- A text cut at each slash. -/
def parts : List UInt8 → List (List UInt8)
  | [] => [[]]
  | c :: t => if c = 47 then [] :: parts t else consP c (parts t)
theorem parts_ne (l : List UInt8) : parts l ≠ [] := by
  cases l with
  | nil => simp [parts]
  | cons c t =>
    rw [parts]
    split
    · simp
    · cases parts t <;> simp [consP]
theorem parts_none : ∀ (l : List UInt8), (∀ x ∈ l, x ≠ 47) → parts l = [l]
  | [], _ => rfl
  | c :: t, h => by
    rw [parts, if_neg (h c (by simp)), parts_none t (fun x hx => h x (by simp [hx]))]
    rfl
theorem parts_slash : ∀ (a r : List UInt8), (∀ x ∈ a, x ≠ 47) → parts (a ++ 47 :: r) = a :: parts r
  | [], r, _ => by simp [parts]
  | c :: t, r, h => by
    rw [List.cons_append, parts, if_neg (h c (by simp)), parts_slash t r (fun x hx => h x (by simp [hx]))]
    rfl
theorem consP_append (c : UInt8) (l m : List (List UInt8)) (h : l ≠ []) : consP c (l ++ m) = consP c l ++ m := by
  cases l with
  | nil => exact absurd rfl h
  | cons p ps => rfl
theorem parts_join : ∀ (a r : List UInt8), parts (a ++ 47 :: r) = parts a ++ parts r
  | [], r => by simp [parts]
  | c :: t, r => by
    rw [List.cons_append, parts, parts, parts_join t r]
    split
    · rfl
    · rw [consP_append _ _ _ (parts_ne t)]
/-- The text of parts. -/
def joinP : List (List UInt8) → List UInt8
  | [] => []
  | [p] => p
  | p :: ps => p ++ 47 :: joinP ps
theorem joinP_cons (p : List UInt8) (ps : List (List UInt8)) (h : ps ≠ []) : joinP (p :: ps) = p ++ 47 :: joinP ps := by
  cases ps with
  | nil => exact absurd rfl h
  | cons q qs => rfl
theorem joinP_parts : ∀ l : List UInt8, joinP (parts l) = l
  | [] => rfl
  | c :: t => by
    rw [parts]
    split
    · rename_i h
      rw [joinP_cons _ _ (parts_ne t), joinP_parts t, h]
      rfl
    · have ih := joinP_parts t
      cases hp : parts t with
      | nil => exact absurd hp (parts_ne t)
      | cons p ps =>
        rw [hp] at ih
        cases ps with
        | nil => simp only [consP, joinP] at ih ⊢; rw [ih]
        | cons q qs => rw [joinP_cons _ _ (by simp)] at ih; simp only [consP]; rw [joinP_cons _ _ (by simp), List.cons_append, ih]
theorem parts_inj {a b : List UInt8} (h : parts a = parts b) : a = b := by rw [← joinP_parts a, h, joinP_parts b]
theorem joinP_append : ∀ (a b : List (List UInt8)), a ≠ [] → b ≠ [] → joinP (a ++ b) = joinP a ++ 47 :: joinP b
  | [], _, h, _ => absurd rfl h
  | [p], b, _, hb => by rw [List.singleton_append, joinP_cons _ _ hb]; rfl
  | p :: q :: r, b, _, hb => by
    rw [List.cons_append, joinP_cons _ _ (by simp), joinP_append (q :: r) b (by simp) hb, joinP_cons _ (q :: r) (by simp)]
    simp
theorem parts_each : ∀ (l : List UInt8) (p : List UInt8), p ∈ parts l → ∀ x ∈ p, x ≠ 47
  | [], p, hp, x, hx => by simp [parts] at hp; subst hp; cases hx
  | c :: t, p, hp, x, hx => by
    rw [parts] at hp
    split at hp
    · rcases List.mem_cons.1 hp with rfl | hp
      · cases hx
      · exact parts_each t p hp x hx
    · rename_i hc
      cases hq : parts t with
      | nil => exact absurd hq (parts_ne t)
      | cons q qs =>
        rw [hq] at hp
        rcases List.mem_cons.1 hp with rfl | hp
        · rcases List.mem_cons.1 hx with rfl | hx
          · exact hc
          · exact parts_each t q (by rw [hq]; simp) x hx
        · exact parts_each t p (by rw [hq]; simp [hp]) x hx
theorem parts_size (l : List UInt8) : (parts l).length = l.count 47 + 1 := by
  induction l with
  | nil => rfl
  | cons c t ih =>
    rw [parts]
    split
    · rename_i h; subst h; simp [ih]
    · rename_i h
      rw [List.count_cons_of_ne h]
      cases hp : parts t with
      | nil => exact absurd hp (parts_ne t)
      | cons p ps => rw [hp] at ih; simpa [consP] using ih
theorem parts_le (l : List UInt8) (p : List UInt8) (hp : p ∈ parts l) : p.length ≤ l.length := by
  induction l generalizing p with
  | nil => simp [parts] at hp; subst hp; simp
  | cons c t ih =>
    rw [parts] at hp
    split at hp
    · rcases List.mem_cons.1 hp with rfl | hp
      · simp
      · have := ih p hp; simp; omega
    · cases hq : parts t with
      | nil => exact absurd hq (parts_ne t)
      | cons q qs =>
        rw [hq] at hp ih
        rcases List.mem_cons.1 hp with rfl | hp
        · have := ih q (by simp); simp; omega
        · have := ih p (by simp [hp]); simp; omega
/-- Where the last slash stands. -/
theorem last_cases : ∀ l : List UInt8, (∀ x ∈ l, x ≠ 47) ∨ ∃ p b, l = p ++ 47 :: b ∧ ∀ x ∈ b, x ≠ 47
  | [] => .inl (by simp)
  | c :: t => by
    rcases last_cases t with h | ⟨p, b, rfl, hb⟩
    · by_cases hc : c = 47
      · subst hc; exact .inr ⟨[], t, rfl, h⟩
      · refine .inl fun x hx => ?_
        rcases List.mem_cons.1 hx with rfl | hx
        · exact hc
        · exact h x hx
    · exact .inr ⟨c :: p, b, rfl, hb⟩
/-- Where the first slash stands. -/
theorem first_cases : ∀ l : List UInt8, (∀ x ∈ l, x ≠ 47) ∨ ∃ p b, l = p ++ 47 :: b ∧ ∀ x ∈ p, x ≠ 47
  | [] => .inl (by simp)
  | c :: t => by
    by_cases hc : c = 47
    · subst hc; exact .inr ⟨[], t, rfl, by simp⟩
    · rcases first_cases t with h | ⟨p, b, rfl, hb⟩
      · refine .inl fun x hx => ?_
        rcases List.mem_cons.1 hx with rfl | hx
        · exact hc
        · exact h x hx
      · refine .inr ⟨c :: p, b, rfl, fun x hx => ?_⟩
        rcases List.mem_cons.1 hx with rfl | hx
        · exact hc
        · exact hb x hx
/-- The folder, and the last part. -/
def parL : List UInt8 → List UInt8
  | [] => []
  | c :: t => if 47 ∈ t then c :: parL t else []
def basL : List UInt8 → List UInt8
  | [] => []
  | c :: t => if 47 ∈ t then basL t else if c = 47 then t else c :: t
theorem not_mem {b : List UInt8} (h : ∀ x ∈ b, x ≠ 47) : ¬ (47 : UInt8) ∈ b := fun hm => h 47 hm rfl
theorem parL_none : ∀ {l : List UInt8}, (∀ x ∈ l, x ≠ 47) → parL l = []
  | [], _ => rfl
  | c :: t, h => by rw [parL, if_neg (not_mem fun x hx => h x (by simp [hx]))]
theorem basL_none : ∀ {l : List UInt8}, (∀ x ∈ l, x ≠ 47) → basL l = l
  | [], _ => rfl
  | c :: t, h => by rw [basL, if_neg (not_mem fun x hx => h x (by simp [hx])), if_neg (h c (by simp))]
theorem parL_at : ∀ (p b : List UInt8), (∀ x ∈ b, x ≠ 47) → parL (p ++ 47 :: b) = p
  | [], b, h => by rw [List.nil_append, parL, if_neg (not_mem h)]
  | c :: t, b, h => by rw [List.cons_append, parL, if_pos (by simp), parL_at t b h]
theorem basL_at : ∀ (p b : List UInt8), (∀ x ∈ b, x ≠ 47) → basL (p ++ 47 :: b) = b
  | [], b, h => by rw [List.nil_append, basL, if_neg (not_mem h), if_pos rfl]
  | c :: t, b, h => by rw [List.cons_append, basL, if_pos (by simp), basL_at t b h]
theorem basL_last (l : List UInt8) : (parts l).getLast (parts_ne l) = basL l := by
  rcases last_cases l with h | ⟨p, b, rfl, hb⟩
  · simp only [parts_none l h, basL_none h, List.getLast_singleton]
  · simp only [parts_join, parts_none b hb, basL_at p b hb]
    simp
/-- A name. -/
def nameL (l : List UInt8) : Bool := decide (1 ≤ l.length) && decide (l.length ≤ 60) && decide (l ≠ [46]) && decide (l ≠ [46, 46]) && runesOk l
/-- A path. -/
def isL (l : List UInt8) : Bool := decide (l.length ≤ 200) && decide ((parts l).length ≤ 8) && (parts l).all nameL

/-! The order. -/
def lex {α : Type} (c : α → α → Int) : List α → List α → Int
  | [], [] => 0
  | [], _ :: _ => -1
  | _ :: _, [] => 1
  | x :: xs, y :: ys => if c x y = 0 then lex c xs ys else c x y
/-- An order told by -1, 0, 1. -/
structure Ord3 {α : Type} (c : α → α → Int) : Prop where
  vals : ∀ a b, c a b = -1 ∨ c a b = 0 ∨ c a b = 1
  anti : ∀ a b, c b a = - c a b
  eq : ∀ a b, c a b = 0 ↔ a = b
  tr : ∀ a b d, c a b = -1 → c b d = -1 → c a d = -1
theorem lex_ord {α : Type} {c : α → α → Int} (h : Ord3 c) : Ord3 (lex c) where
  vals := by
    intro a
    induction a with
    | nil => intro b; cases b <;> simp [lex]
    | cons x xs ih =>
      intro b
      cases b with
      | nil => simp [lex]
      | cons y ys =>
        rw [lex]
        split
        · exact ih ys
        · exact h.vals x y
  anti := by
    intro a
    induction a with
    | nil => intro b; cases b <;> simp [lex]
    | cons x xs ih =>
      intro b
      cases b with
      | nil => simp [lex]
      | cons y ys =>
        rw [lex, lex, h.anti x y]
        by_cases e : c x y = 0
        · rw [if_pos (by omega), if_pos e, ih]
        · rw [if_neg (by omega), if_neg e]
  eq := by
    intro a
    induction a with
    | nil => intro b; cases b <;> simp [lex]
    | cons x xs ih =>
      intro b
      cases b with
      | nil => simp [lex]
      | cons y ys =>
        rw [lex]
        split
        · rename_i e
          rw [ih, (h.eq x y).1 e]
          simp
        · rename_i e
          constructor
          · intro e2; exact absurd e2 e
          · intro e2; injection e2 with e3 e4; exact absurd ((h.eq x y).2 e3) e
  tr := by
    intro a
    induction a with
    | nil =>
      intro b d hab hbd
      cases b with
      | nil => simp [lex] at hab
      | cons y ys =>
        cases d with
        | nil => simp [lex] at hbd
        | cons z zs => simp [lex]
    | cons x xs ih =>
      intro b d hab hbd
      cases b with
      | nil => simp [lex] at hab
      | cons y ys =>
        cases d with
        | nil => simp [lex] at hbd
        | cons z zs =>
          rw [lex] at *
          by_cases e1 : c x y = 0
          · rw [if_pos e1] at hab
            have exy := (h.eq x y).1 e1
            subst exy
            by_cases e2 : c x z = 0
            · rw [if_pos e2] at hbd ⊢; exact ih ys zs hab hbd
            · rw [if_neg e2] at hbd ⊢; exact hbd
          · rw [if_neg e1] at hab
            by_cases e2 : c y z = 0
            · have eyz := (h.eq y z).1 e2
              subst eyz
              rw [if_neg e1]
              exact hab
            · rw [if_neg e2] at hbd
              have := h.tr x y z hab hbd
              rw [if_neg (by omega)]
              exact this
theorem Ord3.min {α : Type} {c : α → α → Int} (h : Ord3 c) (a b d : α) (h1 : c a b ≤ 0) (h2 : c b d ≤ 0) : c a d = Min.min (c a b) (c b d) := by
  rcases h.vals a b with e1 | e1 | e1
  · rcases h.vals b d with e2 | e2 | e2
    · rw [h.tr a b d e1 e2, e1, e2]; rfl
    · have := (h.eq b d).1 e2
      subst this
      rw [e1, e2]; rfl
    · omega
  · have := (h.eq a b).1 e1
    subst this
    rw [e1]
    omega
  · omega
def bcm (a b : UInt8) : Int := if a < b then -1 else if b < a then 1 else 0
theorem bcm_ord : Ord3 bcm where
  vals := fun a b => by unfold bcm; split; simp; split <;> simp
  anti := fun a b => by
    unfold bcm
    simp only [UInt8.lt_iff_toNat_lt]
    split <;> split <;> (try split) <;> omega
  eq := fun a b => by
    unfold bcm
    simp only [UInt8.lt_iff_toNat_lt]
    constructor
    · intro h
      apply UInt8.toNat_inj.1
      split at h
      · omega
      · split at h <;> omega
    · rintro rfl; simp
  tr := fun a b d h1 h2 => by
    unfold bcm at *
    simp only [UInt8.lt_iff_toNat_lt] at *
    split at h1
    · split at h2
      · rw [if_pos (by omega)]
      · split at h2 <;> omega
    · split at h1 <;> omega
theorem cmpB_eq : ∀ a b : List UInt8, Lib.compareBytes a b = lex bcm a b
  | [], [] => rfl
  | [], _ :: _ => rfl
  | _ :: _, [] => rfl
  | x :: a, y :: b => by
    rw [Lib.compareBytes, lex, cmpB_eq a b]
    unfold bcm
    split
    · simp
    · split
      · simp
      · simp
theorem cmpB_ord : Ord3 Lib.compareBytes := by
  have : Lib.compareBytes = lex bcm := by funext a b; exact cmpB_eq a b
  rw [this]
  exact lex_ord bcm_ord
/-- The order of paths, part by part. -/
def pcm (a b : List UInt8) : Int := lex Lib.compareBytes (parts a) (parts b)
theorem pcm_ord : Ord3 pcm where
  vals := fun a b => (lex_ord cmpB_ord).vals _ _
  anti := fun a b => (lex_ord cmpB_ord).anti _ _
  eq := fun a b => ⟨fun h => parts_inj (((lex_ord cmpB_ord).eq _ _).1 h), fun h => by subst h; exact ((lex_ord cmpB_ord).eq _ _).2 rfl⟩
  tr := fun a b d => (lex_ord cmpB_ord).tr _ _ _
theorem lex_more {α : Type} {c : α → α → Int} (h : Ord3 c) : ∀ (a n : List α), n ≠ [] → lex c a (a ++ n) = -1
  | [], n, hn => by cases n with | nil => exact absurd rfl hn | cons x t => rfl
  | x :: xs, n, hn => by
    rw [List.cons_append, lex, if_pos ((h.eq x x).2 rfl)]
    exact lex_more h xs n hn
theorem lex_less {α : Type} {c : α → α → Int} (h : Ord3 c) : ∀ (a b n : List α), lex c a b = -1 → ¬ a <+: b → lex c (a ++ n) b = -1
  | [], b, n, _, hp => absurd List.nil_prefix hp
  | x :: xs, [], n, hl, _ => by simp [lex] at hl
  | x :: xs, y :: ys, n, hl, hp => by
    rw [lex] at hl
    rw [List.cons_append, lex]
    split at hl
    · rename_i e
      rw [if_pos e]
      have := (h.eq x y).1 e
      subst this
      exact lex_less h xs ys n hl (fun hq => hp (List.cons_prefix_cons.2 ⟨rfl, hq⟩))
    · rename_i e
      rw [if_neg e]
      exact hl
theorem pcm_in (a n : List UInt8) : pcm a (a ++ 47 :: n) = -1 := by
  unfold pcm
  rw [parts_join]
  exact lex_more cmpB_ord _ _ (parts_ne n)
/-- What is behind a folder and not in it is behind all that is in it. -/
theorem pcm_behind (a b n : List UInt8) (h : pcm a b = -1) : (∃ r, b = a ++ 47 :: r) ∨ pcm (a ++ 47 :: n) b = -1 := by
  by_cases hp : parts a <+: parts b
  · obtain ⟨q, hq⟩ := hp
    by_cases hn : q = []
    · subst hn
      rw [List.append_nil] at hq
      have := parts_inj hq
      subst this
      rw [(pcm_ord.eq a a).2 rfl] at h
      omega
    · refine .inl ⟨joinP q, ?_⟩
      rw [← joinP_parts b, ← hq, joinP_append _ _ (parts_ne a) hn, joinP_parts]
  · right
    unfold pcm
    rw [parts_join]
    exact lex_less cmpB_ord _ _ _ h hp
/-- A slash by Go's library's own words. -/
theorem index_none : ∀ (l : List UInt8), (∀ x ∈ l, x ≠ 47) → Lib.index l [47] = -1
  | [], _ => rfl
  | c :: t, h => by
    rw [Lib.index, index_none t (fun x hx => h x (by simp [hx]))]
    have : (List.isPrefixOf [47] (c :: t)) = false := by
      have hc := h c (by simp)
      simp [List.isPrefixOf, Ne.symm hc]
    rw [this]
    rfl
theorem index_at : ∀ (p b : List UInt8), (∀ x ∈ p, x ≠ 47) → Lib.index (p ++ 47 :: b) [47] = p.length
  | [], b, _ => by
    rw [List.nil_append, Lib.index]
    simp [List.isPrefixOf]
  | c :: t, b, h => by
    have hc := h c (by simp)
    rw [List.cons_append, Lib.index, index_at t b (fun x hx => h x (by simp [hx]))]
    have : (List.isPrefixOf [47] (c :: (t ++ 47 :: b))) = false := by simp [List.isPrefixOf, Ne.symm hc]
    rw [this]
    simp
theorem cut_none (l : List UInt8) (h : ∀ x ∈ l, x ≠ 47) : Lib.cut l [47] = (l, [], false) := by
  unfold Lib.cut
  rw [index_none l h, if_neg (by omega)]
theorem cut_at (p b : List UInt8) (h : ∀ x ∈ p, x ≠ 47) : Lib.cut (p ++ 47 :: b) [47] = (p, b, true) := by
  unfold Lib.cut
  rw [index_at p b h, if_pos (by omega)]
  simp [List.drop_append]
theorem splitK_parts : ∀ (n : Nat) (l : List UInt8), l.count 47 = n → Lib.splitK [47] 0 n l = parts l
  | 0, l, h => by
    have : ∀ x ∈ l, x ≠ 47 := fun x hx e => by subst e; exact absurd (List.count_eq_zero.1 h) (by simpa using hx)
    rw [Lib.splitK, parts_none l this]
  | n + 1, l, h => by
    rcases first_cases l with hn | ⟨p, b, rfl, hp⟩
    · rw [List.count_eq_zero.2 (not_mem hn)] at h; omega
    · rw [Lib.splitK, index_at p b hp, parts_slash p b hp]
      have hc : (p ++ 47 :: b).count 47 = b.count 47 + 1 := by
        rw [List.count_append, List.count_eq_zero.2 (not_mem hp), List.count_cons_self]; omega
      have : ((p.length : Int) == -1) = false := by simp
      rw [this]
      have e : (p ++ 47 :: b).drop (p.length + 1) = b := by simp [List.drop_append, List.drop_of_length_le]
      simp [e, splitK_parts n b (by omega)]
theorem splitB_K (sep : ByteArray) (sv : Nat) : ∀ (n : Nat) (s : ByteArray), (Lib.splitB sep sv n s).map (fun x => x.data.toList) = Lib.splitK sep.data.toList sv n s.data.toList
  | 0, s => rfl
  | n + 1, s => by
    rw [Lib.splitB, Lib.splitK]
    have e : Lib.indexB s sep = Lib.index s.data.toList sep.data.toList := rfl
    rw [e]
    split
    · rfl
    · rw [List.map_cons, splitB_K sep sv n]
      have e1 : ∀ a b, (s.extract a b).data.toList = (s.data.toList.drop a).take (b - a) := fun a b => by rw [ByteArray.data_extract, Array.toList_extract]
      rw [e1, e1]
      have hz : sep.data.toList.length = sep.size := by simp
      have hl : s.data.toList.length = s.size := by simp
      generalize Lib.index s.data.toList sep.data.toList = I at *
      have ht : (s.data.toList.drop (I.toNat + sep.size)).take (s.size - (I.toNat + sep.size)) = s.data.toList.drop (I.toNat + sep.size) :=
        List.take_of_length_le (by rw [List.length_drop]; omega)
      rw [hz, ht]
      simp
theorem parts_snoc_slash (l : List UInt8) : parts (l ++ [47]) = parts l ++ [[]] := parts_join l []
theorem parts_snoc (c : UInt8) (hc : c ≠ 47) : ∀ l : List UInt8, parts (l ++ [c]) = (parts l).set ((parts l).length - 1) ((parts l).getD ((parts l).length - 1) [] ++ [c])
  | [] => by simp [parts, hc, consP]
  | x :: t => by
    rw [List.cons_append, parts, parts, parts_snoc c hc t]
    have hne := parts_ne t
    split
    · cases hp : parts t with
      | nil => exact absurd hp hne
      | cons p ps => simp
    · cases hp : parts t with
      | nil => exact absurd hp hne
      | cons p ps =>
        cases ps with
        | nil => simp [consP]
        | cons q qs => simp [consP]
end Go.Proofs.YtkgjepgaekbniaaDoor
