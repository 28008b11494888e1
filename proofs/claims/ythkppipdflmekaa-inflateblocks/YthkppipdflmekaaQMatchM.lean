/- Small facts on texts made of bytes, and on a row of one's own. Tokens: bytes and repeats, what they say, and those of a text: the plain mathematics. -/
import Derived.Test.YthkppipdflmekaaQBitioM
import Derived.Test.YthkppipdflmekaaQVarM
import Derived.Laws.OwnMore
namespace Go.Proofs.Ythkppipdflmekaa
open Go.RowKit
set_option linter.unusedVariables false
theorem extract_data (s : ByteArray) (a b : Nat) : (s.extract a b).data.toList = (s.data.toList.drop a).take (b - a) := by
  rw [ByteArray.data_extract, Array.toList_extract]
theorem few_data (s : ByteArray) (n : Nat) : (s.extract 0 n).data.toList = s.data.toList.take n := by rw [extract_data]; simp
theorem size_toList (s : ByteArray) : s.data.toList.length = s.size := by simp
theorem few_size (s : ByteArray) (n : Nat) : (s.extract 0 n).size = min n s.size := by
  rw [← size_toList, few_data, List.length_take, size_toList]
theorem ba_ext {a b : ByteArray} (h : a.data.toList = b.data.toList) : a = b := by
  cases a; cases b; congr 1; exact Array.toList_inj.1 h
theorem few_all (s : ByteArray) (n : Nat) (h : s.size ≤ n) : s.extract 0 n = s := by
  apply ba_ext; rw [few_data, List.take_of_length_le (by rw [size_toList]; exact h)]
theorem own_frm0 {w : World} {base : Nat} {e : TypeId} {sz n : Nat} {v : Value} {xs : List Value} (h : w.ownsRow base e sz v n xs) (hn : 0 < n) : ∃ g cap, v = .slice (some ⟨g, 0, none⟩) n cap ∧ base ≤ g ∧ n ≤ cap ∧ g < w.heap.size := by
  have hl := h.lt
  rcases h.2 with ⟨_, h0⟩ | ⟨g, cap, cur, rfl, hg, _, hc, _⟩
  · omega
  · exact ⟨g, cap, rfl, hg, hc, (hl g rfl).2⟩
theorem bs_data2 (l : List Nat) : (bs l).data.toList = l.map UInt8.ofNat := by simp [bs, strOfNums]
theorem bs_append2 (a b : List Nat) : bs a ++ bs b = bs (a ++ b) := by
  apply ba_ext
  rw [bs_data2, List.map_append, ← bs_data2, ← bs_data2]
  simp [ByteArray.data_append]
theorem bs_size2 (l : List Nat) : (bs l).size = l.length := by rw [← size_toList, bs_data2, List.length_map]
theorem ofNat_map (q : List UInt8) : (q.map UInt8.toNat).map UInt8.ofNat = q := by simp [Function.comp_def]
end Go.Proofs.Ythkppipdflmekaa
namespace Go.Proofs.Ythkppipdflmekaa
open Go.RowKit
set_option linter.unusedVariables false

/-- A byte, or a repeat. -/
structure Tok where
  b : Nat
  l : Int
  d : Int
/-- Is it a byte alone, or a repeat alone, within its bounds? -/
def isTok (t : Tok) : Bool := if t.l = 0 then decide (t.d = 0) else decide (t.b = 0 ∧ 3 ≤ t.l ∧ t.l ≤ 258 ∧ 1 ≤ t.d ∧ t.d ≤ 32768)
/-- k bytes more, each the one that stands d back. -/
def sayN (out : List Nat) (d : Nat) : Nat → List Nat
  | 0 => out
  | k + 1 => sayN out d k ++ [(sayN out d k).getD ((sayN out d k).length - d) 0]
theorem sayN_len (out : List Nat) (d : Nat) : ∀ k, (sayN out d k).length = out.length + k
  | 0 => rfl
  | k + 1 => by rw [sayN, List.length_append, sayN_len out d k]; simp; omega
def sayT (out : List Nat) (t : Tok) : List Nat := if t.l = 0 then out ++ [t.b] else sayN out t.d.toNat t.l.toNat
def wid (t : Tok) : Int := if 1 ≤ t.l then t.l else 1
/-- The error of a token behind a text; 0: none. -/
def errT (out : List Nat) (most : Int) (t : Tok) : Nat := if isTok t = false ∨ (out.length : Int) < t.d then 4 else if most < (out.length : Int) + wid t then 2 else 0
def expF (most : Int) : List Tok → List Nat → List Nat × Nat
  | [], out => (out, 0)
  | t :: ts, out => if errT out most t = 0 then expF most ts (sayT out t) else ([], errT out most t)
theorem isTok_zero {t : Tok} (h : t.l = 0) : isTok t = decide (t.d = 0) := by unfold isTok; rw [if_pos h]
theorem isTok_rep {t : Tok} (h : ¬ t.l = 0) (ht : isTok t = true) : t.b = 0 ∧ 3 ≤ t.l ∧ t.l ≤ 258 ∧ 1 ≤ t.d ∧ t.d ≤ 32768 := by
  unfold isTok at ht; rw [if_neg h] at ht; simpa using ht
theorem isTok_mk {t : Tok} (h1 : t.b = 0) (h2 : 3 ≤ t.l) (h3 : t.l ≤ 258) (h4 : 1 ≤ t.d) (h5 : t.d ≤ 32768) : isTok t = true := by
  unfold isTok; rw [if_neg (by omega)]; simpa using ⟨h1, h2, h3, h4, h5⟩
theorem wid_pos (t : Tok) : 1 ≤ wid t := by unfold wid; split <;> omega
theorem wid_le {t : Tok} (h : isTok t = true) : wid t ≤ 258 := by
  unfold wid
  split
  · exact (isTok_rep (by omega) h).2.2.1
  · decide
theorem sayT_len {out : List Nat} {t : Tok} (h : isTok t = true) : ((sayT out t).length : Int) = out.length + wid t := by
  unfold sayT wid
  by_cases h0 : t.l = 0
  · rw [if_pos h0, if_neg (by omega)]; simp
  · have := isTok_rep h0 h
    rw [if_neg h0, if_pos (by omega), sayN_len]; omega
theorem errT_zero {out : List Nat} {most : Int} {t : Tok} (h : errT out most t = 0) : isTok t = true ∧ t.d ≤ (out.length : Int) ∧ (out.length : Int) + wid t ≤ most := by
  unfold errT at h
  split at h
  · cases h
  · rename_i h1
    split at h
    · cases h
    · rename_i h2
      refine ⟨?_, by omega, by omega⟩
      cases hc : isTok t
      · exact absurd (Or.inl hc) h1
      · rfl
theorem errT_mk {out : List Nat} {most : Int} {t : Tok} (h1 : isTok t = true) (h2 : t.d ≤ (out.length : Int)) (h3 : (out.length : Int) + wid t ≤ most) : errT out most t = 0 := by
  unfold errT
  rw [if_neg (fun h => by rcases h with h | h; · rw [h1] at h; cases h
                          · omega), if_neg (by omega)]
theorem expF_snoc (most : Int) (t : Tok) : ∀ (ts : List Tok) (out o : List Nat), expF most ts out = (o, 0) → errT o most t = 0 → expF most (ts ++ [t]) out = (sayT o t, 0)
  | [], out, o, h, he => by
    simp only [expF] at h
    cases h
    rw [List.nil_append, expF, if_pos he]; rfl
  | u :: ts, out, o, h, he => by
    rw [List.cons_append, expF]
    rw [expF] at h
    by_cases hu : errT out most u = 0
    · rw [if_pos hu] at h ⊢
      exact expF_snoc most t ts _ o h he
    · rw [if_neg hu] at h
      simp only [Prod.mk.injEq] at h
      exact absurd h.2 hu
/-- What is left to do behind the first k tokens. -/
def ExpAt (most : Int) (ts : List Tok) (k : Nat) (out : List Nat) : Prop := expF most ts [] = expF most (ts.drop k) out
theorem expAt_start (most : Int) (ts : List Tok) : ExpAt most ts 0 [] := rfl
theorem drop_at {ts : List Tok} {k : Nat} {t : Tok} (h : ts[k]? = some t) : ts.drop k = t :: ts.drop (k + 1) := by
  obtain ⟨hk, e⟩ := List.getElem?_eq_some_iff.1 h
  rw [List.drop_eq_getElem_cons hk, e]
theorem expAt_step {most : Int} {ts : List Tok} {k : Nat} {out : List Nat} {t : Tok} (h : ExpAt most ts k out) (ht : ts[k]? = some t) (he : errT out most t = 0) : ExpAt most ts (k + 1) (sayT out t) := by
  unfold ExpAt at *
  rw [h, drop_at ht, expF, if_pos he]
theorem expAt_err {most : Int} {ts : List Tok} {k : Nat} {out : List Nat} {t : Tok} (h : ExpAt most ts k out) (ht : ts[k]? = some t) (he : errT out most t ≠ 0) : expF most ts [] = ([], errT out most t) := by
  unfold ExpAt at *
  rw [h, drop_at ht, expF, if_neg he]
theorem expAt_end {most : Int} {ts : List Tok} {k : Nat} {out : List Nat} (h : ExpAt most ts k out) (hk : ts.length ≤ k) : expF most ts [] = (out, 0) := by
  unfold ExpAt at *
  rw [h, List.drop_of_length_le hk]; rfl

/-- Byte number k. -/
def byt (s : ByteArray) (k : Nat) : Nat := (s.data.toList.getD k 0).toNat
theorem byt_eq (s : ByteArray) (k : Nat) (h : k < s.size) : s[k].toNat = byt s k := by
  unfold byt
  rw [List.getD_eq_getElem?_getD, List.getElem?_eq_getElem (by simpa using h)]; rfl
theorem byt_lt (s : ByteArray) (k : Nat) : byt s k < 256 := UInt8.toNat_lt _
/-- A text's bytes. -/
def nb (s : ByteArray) : List Nat := s.data.toList.map UInt8.toNat
theorem nb_len (s : ByteArray) : (nb s).length = s.size := by simp [nb]
theorem nb_at (s : ByteArray) (k : Nat) (h : k < s.size) : (nb s)[k]? = some (byt s k) := by
  unfold nb byt
  rw [List.getElem?_map, List.getD_eq_getElem?_getD, List.getElem?_eq_getElem (by simpa using h)]; rfl
theorem bs_nb (s : ByteArray) : bs (nb s) = s := by
  apply ba_ext; rw [bs_data2]; exact ofNat_map _
theorem nb_take (s : ByteArray) (k : Nat) (h : k < s.size) : (nb s).take (k + 1) = (nb s).take k ++ [byt s k] := by
  rw [List.take_add_one, nb_at s k h]; rfl
/-- How many bytes are the same from two places on, at most so many. -/
def alikeF (s : ByteArray) (a b : Nat) : Nat → Nat
  | 0 => 0
  | f + 1 => if byt s a = byt s b then alikeF s (a + 1) (b + 1) f + 1 else 0
theorem alikeF_le (s : ByteArray) : ∀ (f a b : Nat), alikeF s a b f ≤ f
  | 0, a, b => Nat.le_refl _
  | f + 1, a, b => by
    rw [alikeF]; split
    · have := alikeF_le s f (a + 1) (b + 1); omega
    · omega
theorem alikeF_same (s : ByteArray) : ∀ (f a b i : Nat), i < alikeF s a b f → byt s (a + i) = byt s (b + i)
  | 0, a, b, i, h => by simp [alikeF] at h
  | f + 1, a, b, i, h => by
    rw [alikeF] at h
    split at h
    · rename_i e
      match i with
      | 0 => exact e
      | i + 1 =>
        have := alikeF_same s f (a + 1) (b + 1) i (by omega)
        rwa [show a + 1 + i = a + (i + 1) by omega, show b + 1 + i = b + (i + 1) by omega] at this
    · omega
theorem alikeF_ge (s : ByteArray) : ∀ (f a b n : Nat), n ≤ f → (∀ i, i < n → byt s (a + i) = byt s (b + i)) → n ≤ alikeF s a b f
  | f, a, b, 0, _, _ => Nat.zero_le _
  | 0, a, b, n + 1, h, _ => by omega
  | f + 1, a, b, n + 1, h, hs => by
    have h0 : byt s a = byt s b := hs 0 (by omega)
    rw [alikeF, if_pos h0]
    have := alikeF_ge s f (a + 1) (b + 1) n (by omega) (fun i hi => by
      have := hs (i + 1) (by omega)
      rwa [show a + (i + 1) = a + 1 + i by omega, show b + (i + 1) = b + 1 + i by omega] at this)
    omega
/-- n are the same so far. -/
def AlikeAt (s : ByteArray) (a b top n : Nat) : Prop := n ≤ top ∧ alikeF s a b top = n + alikeF s (a + n) (b + n) (top - n)
theorem alikeAt_start (s : ByteArray) (a b top : Nat) : AlikeAt s a b top 0 := ⟨Nat.zero_le _, by simp⟩
theorem alikeAt_step {s : ByteArray} {a b top n : Nat} (h : AlikeAt s a b top n) (hn : n < top) (e : byt s (a + n) = byt s (b + n)) : AlikeAt s a b top (n + 1) := by
  refine ⟨hn, ?_⟩
  have h2 := h.2
  rw [show top - n = (top - (n + 1)) + 1 by omega, alikeF, if_pos e] at h2
  rw [h2, show a + n + 1 = a + (n + 1) by omega, show b + n + 1 = b + (n + 1) by omega]; omega
theorem alikeAt_end {s : ByteArray} {a b top n : Nat} (h : AlikeAt s a b top n) (e : top ≤ n ∨ byt s (a + n) ≠ byt s (b + n)) : alikeF s a b top = n := by
  have h2 := h.2
  have h1 := h.1
  rw [h2]
  rcases e with e | e
  · rw [show top - n = 0 by omega]; rfl
  · cases hq : top - n with
    | zero => rfl
    | succ f => rw [alikeF, if_neg e]; rfl
/-- The three bytes at a place. -/
def key3 (s : ByteArray) (p : Nat) : ByteArray := s.extract p (p + 3)
/-- One more than the last place below n where these bytes begin; 0: there is none. -/
def lastP (s key : ByteArray) : Nat → Nat
  | 0 => 0
  | n + 1 => if key3 s n = key then n + 1 else lastP s key n
theorem lastP_le (s key : ByteArray) : ∀ n, lastP s key n ≤ n
  | 0 => Nat.le_refl _
  | n + 1 => by rw [lastP]; split; · exact Nat.le_refl _
                · exact Nat.le_succ_of_le (lastP_le s key n)
theorem lastP_key (s key : ByteArray) : ∀ n, 0 < lastP s key n → key3 s (lastP s key n - 1) = key
  | 0, h => by simp [lastP] at h
  | n + 1, h => by
    rw [lastP] at h ⊢
    split
    · rename_i e; exact e
    · rename_i e
      rw [if_neg e] at h
      exact lastP_key s key n h
def prevP (s : ByteArray) (p : Nat) : Nat := lastP s (key3 s p) p
theorem key3_byt {s : ByteArray} {p q : Nat} (h : key3 s p = key3 s q) (hp : p + 3 ≤ s.size) (hq : q + 3 ≤ s.size) (i : Nat) (hi : i < 3) : byt s (p + i) = byt s (q + i) := by
  have e : ((key3 s p).data.toList).getD i 0 = ((key3 s q).data.toList).getD i 0 := by rw [h]
  unfold key3 at e
  rw [extract_data, extract_data] at e
  unfold byt
  rw [List.getD_eq_getElem?_getD, List.getD_eq_getElem?_getD, List.getElem?_take, List.getElem?_take, if_pos (by omega), if_pos (by omega), List.getElem?_drop, List.getElem?_drop] at e
  rw [List.getD_eq_getElem?_getD, List.getD_eq_getElem?_getD, e]
/-- The longest repeat among so many places. -/
def chainF (s : ByteArray) (at_ top : Nat) : Nat → Nat → Tok → Tok
  | 0, _, best => best
  | f + 1, place, best =>
    if place = 0 ∨ (top : Int) ≤ best.l then best
    else if 32768 < at_ - (place - 1) then best
    else chainF s at_ top f (prevP s (place - 1)) (if best.l < (alikeF s (place - 1) at_ top : Int) then ⟨0, alikeF s (place - 1) at_ top, ((at_ - (place - 1) : Nat) : Int)⟩ else best)
def zeroT : Tok := ⟨0, 0, 0⟩
def longF (s : ByteArray) (tries at_ : Nat) : Tok := if s.size < at_ + 3 then zeroT else chainF s at_ (min 258 (s.size - at_)) tries (prevP s at_) zeroT
/-- A repeat that says just what stands there, or the empty token. -/
def GoodT (s : ByteArray) (at_ : Nat) (t : Tok) : Prop := t = zeroT ∨ (t.b = 0 ∧ 3 ≤ t.l ∧ t.l ≤ 258 ∧ 1 ≤ t.d ∧ t.d ≤ 32768 ∧ t.d ≤ (at_ : Int) ∧ (at_ : Int) + t.l ≤ s.size ∧ ∀ i : Nat, (i : Int) < t.l → byt s (at_ - t.d.toNat + i) = byt s (at_ + i))
theorem GoodT.nonneg {s : ByteArray} {p : Nat} {t : Tok} (h : GoodT s p t) : 0 ≤ t.l ∧ t.l ≤ 258 := by
  rcases h with rfl | h
  · exact ⟨by decide, by decide⟩
  · omega
/-- A place whose three bytes are those at at_. -/
def PlaceOk (s : ByteArray) (at_ place : Nat) : Prop := place = 0 ∨ (0 < place ∧ place ≤ at_ ∧ key3 s (place - 1) = key3 s at_)
theorem prevP_ok (s : ByteArray) (at_ : Nat) : PlaceOk s at_ (prevP s at_) := by
  by_cases h : prevP s at_ = 0
  · exact .inl h
  · exact .inr ⟨by omega, lastP_le _ _ _, lastP_key _ _ _ (by unfold prevP at h; omega)⟩
theorem prevP_next {s : ByteArray} {at_ place : Nat} (h : PlaceOk s at_ place) (h0 : 0 < place) : PlaceOk s at_ (prevP s (place - 1)) := by
  rcases h with h | ⟨_, h1, h2⟩
  · omega
  · by_cases hp : prevP s (place - 1) = 0
    · exact .inl hp
    · have := lastP_le s (key3 s (place - 1)) (place - 1)
      have hk := lastP_key s (key3 s (place - 1)) (place - 1) (by unfold prevP at hp; omega)
      refine .inr ⟨by omega, by unfold prevP; omega, ?_⟩
      unfold prevP; rw [hk, h2]
theorem alike_three {s : ByteArray} {at_ place : Nat} (h : PlaceOk s at_ place) (h0 : 0 < place) (ha : at_ + 3 ≤ s.size) : 3 ≤ alikeF s (place - 1) at_ (min 258 (s.size - at_)) := by
  rcases h with h | ⟨_, h1, h2⟩
  · omega
  · exact alikeF_ge s _ _ _ 3 (by omega) (fun i hi => key3_byt h2 (by omega) ha i hi)
theorem good_rep {s : ByteArray} {at_ place : Nat} (h : PlaceOk s at_ place) (h0 : 0 < place) (ha : at_ + 3 ≤ s.size) (hd : ¬ 32768 < at_ - (place - 1)) :
    GoodT s at_ ⟨0, alikeF s (place - 1) at_ (min 258 (s.size - at_)), ((at_ - (place - 1) : Nat) : Int)⟩ := by
  have h3 := alike_three h h0 ha
  have hle := alikeF_le s (min 258 (s.size - at_)) (place - 1) at_
  rcases h with h | ⟨_, h1, h2⟩
  · omega
  · refine .inr ⟨rfl, by simp only; omega, by simp only; omega, by simp only; omega, by simp only; omega, by simp only; omega, by simp only; omega, fun i hi => ?_⟩
    simp only [Int.toNat_natCast]
    have := alikeF_same s _ _ _ i (show i < alikeF s (place - 1) at_ (min 258 (s.size - at_)) by simp only at hi; omega)
    rw [show at_ - (at_ - (place - 1)) + i = place - 1 + i by omega]; exact this
theorem chainF_good (s : ByteArray) (at_ : Nat) (ha : at_ + 3 ≤ s.size) : ∀ (f place : Nat) (best : Tok), PlaceOk s at_ place → GoodT s at_ best → GoodT s at_ (chainF s at_ (min 258 (s.size - at_)) f place best)
  | 0, place, best, _, hb => hb
  | f + 1, place, best, hp, hb => by
    rw [chainF]
    split
    · exact hb
    · rename_i h1
      split
      · exact hb
      · rename_i h2
        refine chainF_good s at_ ha f _ _ (prevP_next hp (by omega)) ?_
        split
        · exact good_rep hp (by omega) ha h2
        · exact hb
theorem longF_good (s : ByteArray) (tries at_ : Nat) : GoodT s at_ (longF s tries at_) := by
  unfold longF
  split
  · exact .inl rfl
  · rename_i h
    exact chainF_good s at_ (by omega) _ _ _ (prevP_ok s at_) (.inl rfl)
/-- The token at a place, at a level. -/
def stepT (s : ByteArray) (lv at_ : Nat) : Tok :=
  if 0 < (longF s (2 ^ lv) at_).l ∧ ¬ ((longF s (2 ^ lv) at_).l < 4 * (lv : Int) ∧ (longF s (2 ^ lv) at_).l < (longF s (2 ^ lv) (at_ + 1)).l) then longF s (2 ^ lv) at_ else ⟨byt s at_, 0, 0⟩
theorem stepT_ok (s : ByteArray) (lv at_ : Nat) (h : at_ < s.size) : isTok (stepT s lv at_) = true ∧ (stepT s lv at_).d ≤ (at_ : Int) ∧ (at_ : Int) + wid (stepT s lv at_) ≤ s.size ∧ (stepT s lv at_).b < 256 ∧ 0 ≤ (stepT s lv at_).l
    ∧ sayT ((nb s).take at_) (stepT s lv at_) = (nb s).take (at_ + (wid (stepT s lv at_)).toNat) := by
  unfold stepT
  split
  · rename_i hc
    rcases longF_good s (2 ^ lv) at_ with hz | ⟨g1, g2, g3, g4, g5, g6, g7, g8⟩
    · rw [hz] at hc; exact absurd hc.1 (by decide)
    · generalize longF s (2 ^ lv) at_ = t at *
      have hw : wid t = t.l := by unfold wid; rw [if_pos (by omega)]
      refine ⟨isTok_mk g1 g2 g3 g4 g5, g6, by rw [hw]; omega, by omega, by omega, ?_⟩
      rw [hw]
      unfold sayT
      rw [if_neg (by omega)]
      have key : ∀ k : Nat, (k : Int) ≤ t.l → sayN ((nb s).take at_) t.d.toNat k = (nb s).take (at_ + k) := by
        intro k
        induction k with
        | zero => intro _; rfl
        | succ k ih =>
          intro hk
          have ih := ih (by omega)
          rw [sayN, ih, ← Nat.add_assoc, nb_take s (at_ + k) (by omega), List.length_take, nb_len, Nat.min_eq_left (by omega)]
          congr 2
          rw [List.getD_eq_getElem?_getD, List.getElem?_take, if_pos (by omega), nb_at s _ (by omega)]
          have := g8 k (by omega)
          rw [show at_ + k - t.d.toNat = at_ - t.d.toNat + k by omega]
          exact this
      exact key t.l.toNat (by omega)
  · refine ⟨by unfold isTok; simp, by simp only; omega, by show (at_ : Int) + 1 ≤ _; omega, byt_lt _ _, by simp, ?_⟩
    show sayT _ ⟨byt s at_, 0, 0⟩ = (nb s).take (at_ + 1)
    rw [nb_take s at_ h]; rfl
/-- The tokens behind k steps, and the place. -/
def tokK (s : ByteArray) (lv : Nat) : Nat → List Tok × Nat
  | 0 => ([], 0)
  | k + 1 => if (tokK s lv k).2 < s.size then ((tokK s lv k).1 ++ [stepT s lv (tokK s lv k).2], (tokK s lv k).2 + (wid (stepT s lv (tokK s lv k).2)).toNat) else tokK s lv k
theorem tokK_step {s : ByteArray} {lv k : Nat} (h : (tokK s lv k).2 < s.size) : tokK s lv (k + 1) = ((tokK s lv k).1 ++ [stepT s lv (tokK s lv k).2], (tokK s lv k).2 + (wid (stepT s lv (tokK s lv k).2)).toNat) := by
  rw [tokK, if_pos h]
theorem tokK_stay {s : ByteArray} {lv k : Nat} (h : s.size ≤ (tokK s lv k).2) : ∀ j, tokK s lv (k + j) = tokK s lv k
  | 0 => rfl
  | j + 1 => by rw [← Nat.add_assoc, tokK, tokK_stay h j, if_neg (by omega)]
theorem tokK_far (s : ByteArray) (lv : Nat) : ∀ k, min k s.size ≤ (tokK s lv k).2 ∧ (tokK s lv k).2 ≤ s.size ∧ (tokK s lv k).1.length ≤ (tokK s lv k).2
  | 0 => ⟨by omega, Nat.zero_le _, Nat.le_refl _⟩
  | k + 1 => by
    obtain ⟨h1, h2, h3⟩ := tokK_far s lv k
    by_cases h : (tokK s lv k).2 < s.size
    · rw [tokK_step h]
      have hw := wid_pos (stepT s lv (tokK s lv k).2)
      have := (stepT_ok s lv _ h).2.2.1
      refine ⟨by simp only; omega, by simp only; omega, by simp only [List.length_append, List.length_singleton]; omega⟩
    · rw [tokK, if_neg h]; exact ⟨by omega, h2, h3⟩
theorem tokK_end {s : ByteArray} {lv k : Nat} (h : s.size ≤ (tokK s lv k).2) : tokK s lv k = tokK s lv s.size := by
  rcases Nat.le_total k s.size with hk | hk
  · obtain ⟨j, hj⟩ := Nat.le.dest hk
    have e := tokK_stay h j
    rw [← e, hj]
  · obtain ⟨j, hj⟩ := Nat.le.dest hk
    have hf := (tokK_far s lv s.size).1
    rw [← hj]
    exact tokK_stay (by omega) j
/-- Each is a token of bytes. -/
def AllTok (ts : List Tok) : Prop := ∀ t ∈ ts, isTok t = true ∧ t.b < 256
theorem tokK_says (s : ByteArray) (lv : Nat) (most : Int) (hm : (s.size : Int) ≤ most) : ∀ k, expF most (tokK s lv k).1 [] = ((nb s).take (tokK s lv k).2, 0) ∧ AllTok (tokK s lv k).1
  | 0 => ⟨rfl, fun t ht => by simp [tokK] at ht⟩
  | k + 1 => by
    obtain ⟨h1, h2⟩ := tokK_says s lv most hm k
    by_cases h : (tokK s lv k).2 < s.size
    · rw [tokK_step h]
      obtain ⟨a1, a2, a3, a4, a5, a6⟩ := stepT_ok s lv _ h
      refine ⟨?_, fun t ht => ?_⟩
      · simp only
        rw [← a6]
        refine expF_snoc most _ _ _ _ h1 (errT_mk a1 ?_ ?_)
        · rw [List.length_take, nb_len, Nat.min_eq_left (by omega)]; exact a2
        · rw [List.length_take, nb_len, Nat.min_eq_left (by omega)]; omega
      · rcases List.mem_append.1 ht with ht | ht
        · exact h2 t ht
        · simp only [List.mem_singleton] at ht; subst ht; exact ⟨a1, a4⟩
    · rw [tokK, if_neg h]; exact ⟨h1, h2⟩
/-- A text as bytes alone. -/
def tok0 (s : ByteArray) : List Tok := (nb s).map fun b => ⟨b, 0, 0⟩
theorem tok0_len (s : ByteArray) : (tok0 s).length = s.size := by unfold tok0; rw [List.length_map, nb_len]
theorem tok0_take (s : ByteArray) (k : Nat) (h : k < s.size) : (tok0 s).take (k + 1) = (tok0 s).take k ++ [⟨byt s k, 0, 0⟩] := by
  unfold tok0; rw [← List.map_take, ← List.map_take, nb_take s k h, List.map_append]; rfl
theorem tok0_all (s : ByteArray) : AllTok (tok0 s) := by
  intro t ht
  obtain ⟨b, hb, rfl⟩ := List.mem_map.1 ht
  obtain ⟨u, _, rfl⟩ := List.mem_map.1 hb
  exact ⟨by unfold isTok; simp, UInt8.toNat_lt u⟩
theorem tok0_zero (s : ByteArray) : ∀ t ∈ tok0 s, t.l = 0 := by
  intro t ht
  obtain ⟨b, hb, rfl⟩ := List.mem_map.1 ht
  rfl
theorem tok0_says (s : ByteArray) (most : Int) (hm : (s.size : Int) ≤ most) : ∀ k, k ≤ s.size → expF most ((tok0 s).take k) [] = ((nb s).take k, 0)
  | 0, _ => rfl
  | k + 1, h => by
    have ih := tok0_says s most hm k (by omega)
    rw [tok0_take s k (by omega), nb_take s k (by omega)]
    refine expF_snoc most ⟨byt s k, 0, 0⟩ _ _ _ ih (errT_mk (by unfold isTok; simp) (by simp only; omega) ?_)
    rw [List.length_take, nb_len, Nat.min_eq_left (by omega)]
    show (k : Int) + 1 ≤ most
    omega
/-- The tokens of a text at a level. -/
def toks (s : ByteArray) (lv : Nat) : List Tok := if lv = 0 then tok0 s else (tokK s lv s.size).1
theorem toks_all (s : ByteArray) (lv : Nat) : AllTok (toks s lv) := by
  unfold toks; split
  · exact tok0_all s
  · exact (tokK_says s lv s.size (Int.le_refl _) s.size).2
theorem toks_len (s : ByteArray) (lv : Nat) : (toks s lv).length ≤ s.size := by
  unfold toks; split
  · rw [tok0_len]; exact Nat.le_refl _
  · have := tokK_far s lv s.size; omega
theorem toks_says (s : ByteArray) (lv : Nat) (most : Int) (hm : (s.size : Int) ≤ most) : expF most (toks s lv) [] = (nb s, 0) := by
  unfold toks; split
  · have := tok0_says s most hm s.size (Nat.le_refl _)
    rw [List.take_of_length_le (by rw [tok0_len]; exact Nat.le_refl _), List.take_of_length_le (by rw [nb_len]; exact Nat.le_refl _)] at this
    exact this
  · have h := (tokK_says s lv most hm s.size).1
    have hf := (tokK_far s lv s.size).1
    rw [List.take_of_length_le (by rw [nb_len]; omega)] at h
    exact h
end Go.Proofs.Ythkppipdflmekaa
