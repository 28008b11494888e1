/- What was packed is read again. A text of equal bytes in memory. How long a run's stream is; what was packed is read again. -/
import Derived.Test.YtaldkmceenlomaaGreatQDDef
import Derived.Test.YtaldkmceenlomaaGreatQInfI
import Derived.Test.YtaldkmceenlomaaGreatQInfZ
import Derived.Test.YtaldkmceenlomaaGreatQMatchJ
import Derived.Test.YtaldkmceenlomaaGreatQFindM
import Derived.OwnWalk
namespace Go.Proofs.YtaldkmceenlomaaGreat
open Go.RowKit
set_option linter.unusedVariables false

def asBlk (b : PBk) : Blk := ⟨b.kind, [], b.ts⟩
theorem jkP_as : ∀ bs : List PBk, (∀ b ∈ bs, b.Ok) → jkP (bs.map asBlk) = bs.flatMap PBk.ts
  | [], _ => rfl
  | b :: bs, h => by
    have ih := jkP_as bs (fun c hc => h c (by simp [hc]))
    rw [List.flatMap_cons, ← ih]
    unfold jkP
    rw [List.map_cons, List.flatMap_cons]
    congr 1
theorem packed_reads {s : ByteArray} {lv : Nat} {bs : List PBk} (hb : BlksOf s lv bs) (hs : s.size ≤ 65536) (most : Nat) :
    blksF (bF8 (packS (bitsB bs))) (8 * (packS (bitsB bs)).size) most (8 * (packS (bitsB bs)).size + 1) 0 0 [] = if most < s.size then .error 2 else .ok (bs.map asBlk, (bitsB bs).length) := by
  have hsz := packS_size (bitsB bs)
  have hge := bitsB_ge bs
  have hbits := bF8_pack (bitsB bs)
  have hsay := toks_says s lv 1000000 (by omega)
  have hbig := blksF_enc (f := bF8 (packS (bitsB bs))) (L := 8 * (packS (bitsB bs)).size) (most := 1000000) bs (8 * (packS (bitsB bs)).size + 1) 0 0 [] [] (nb s) hb.ne (fun b h => (hb.ok b h).1) rfl (by rw [hb.ts]; exact hsay) hbits (by omega) (by omega)
  rw [Nat.zero_add, List.nil_append] at hbig
  obtain ⟨o, new, h1, h2, h3, h4, h5⟩ := blksF_says (Nat.le_refl _) _ _ _ _ _ _ (Nat.zero_le _) hbig
  rw [List.nil_append] at h1
  subst h1
  obtain ⟨O', e1, e2⟩ := h2 [] rfl
  have hj := jkP_as bs (fun b h => (hb.ok b h).1)
  have hj' : jkP (bs.map (fun b => (⟨b.kind, [], b.ts⟩ : Blk))) = toks s lv := by rw [← hb.ts, ← hj]; rfl
  have hmax := toks_says s lv 9223372036854775807 (by omega)
  rw [hj'] at e1
  have ho : o = s.size := by
    have h6 := e1.symm.trans hmax
    have h7 := congrArg (fun x => x.1.length) h6
    simp only [nb_len] at h7
    omega
  subst ho
  have := h5 most (Nat.zero_le _)
  split
  · exact this.2 (by omega)
  · exact this.1 (by omega)
/-- The text that a packed stream says. -/
theorem packed_text {s : ByteArray} {lv : Nat} {bs : List PBk} (hb : BlksOf s lv bs) (hs : s.size ≤ 65536) : Go.Proofs.YtaldkmceenlomaaGreat.bs (expF 9223372036854775807 (jkP (bs.map asBlk)) []).1 = s := by
  rw [jkP_as bs (fun b h => (hb.ok b h).1), hb.ts, toks_says s lv 9223372036854775807 (by omega)]
  exact bs_nb s
end Go.Proofs.YtaldkmceenlomaaGreat
namespace Go.Proofs.YtaldkmceenlomaaGreat
open Go.RowKit
set_option linter.unusedVariables false

theorem expF_less (M most : Int) : ∀ (ts : List Tok) (out o : List Nat), expF M ts out = (o, 0) → (out.length : Int) ≤ most → most < (o.length : Int) → expF most ts out = ([], 2)
  | [], out, o, h, h1, h2 => by simp only [expF] at h; cases h; omega
  | t :: ts, out, o, h, h1, h2 => by
    rw [expF] at h ⊢
    by_cases hu : errT out M t = 0
    · rw [if_pos hu] at h
      obtain ⟨e1, e2, e3⟩ := errT_zero hu
      by_cases hw : (out.length : Int) + wid t ≤ most
      · rw [if_pos (errT_mk e1 e2 hw)]
        exact expF_less M most ts _ o h (by rw [sayT_len e1]; exact hw) h2
      · rw [errT_big e1 e2 (by omega), if_neg (by decide)]
    · rw [if_neg hu] at h
      simp only [Prod.mk.injEq] at h
      exact absurd h.2 hu
/-- n times the byte c, the first k set. -/
def runL (n c k : Nat) : List Nat := (List.range n).map fun j => if j < k then c else 0
theorem runL_len (n c k : Nat) : (runL n c k).length = n := by simp [runL]
theorem runL_set (n c k : Nat) : (cs (runL n c k)).set k (.int .u8 (c : Int)) = cs (runL n c (k + 1)) := by
  apply List.ext_getElem?
  intro i
  unfold cs runL
  rw [List.getElem?_set]
  by_cases hi : i < n
  · simp only [List.map_map, List.length_map, List.length_range, List.getElem?_map, List.getElem?_range hi, Option.map_some, Function.comp_apply]
    by_cases e : k = i
    · subst e; simp [hi]
    · rw [if_neg e]
      by_cases hk : i < k
      · rw [if_pos hk, if_pos (by omega)]
      · rw [if_neg hk, if_neg (by omega)]
  · simp only [List.map_map, List.length_map, List.length_range]
    rw [List.getElem?_eq_none (by simp; omega), List.getElem?_eq_none (by simp; omega)]
    split
    · rw [if_neg (by omega)]
    · rfl
theorem runL_run (n c : Nat) (hc : c < 256) : IsRun (bs (runL n c n)) n c := by
  refine ⟨by rw [bs_size2, runL_len], fun k hk => ?_⟩
  unfold byt
  rw [bs_data2, List.getD_eq_getElem?_getD, List.getElem?_map]
  unfold runL
  rw [List.getElem?_map, List.getElem?_range hk]
  simp only [Option.map_some, Option.getD_some]
  rw [if_pos hk, UInt8.toNat_ofNat_of_lt' hc]
theorem runL_made (n c : Nat) : (madeCells (Value.int .u8 0).cells (n * 1)).toList = cs (runL n c 0) := by
  rw [Nat.mul_one]
  show (madeCells #[Value.int .u8 0] n).toList = _
  rw [toList_madeCells_one]
  unfold cs runL
  apply List.ext_getElem?
  intro i
  by_cases hi : i < n
  · simp [hi]
  · rw [List.getElem?_eq_none (by simp; omega), List.getElem?_eq_none (by simp; omega)]
end Go.Proofs.YtaldkmceenlomaaGreat
namespace Go.Proofs.YtaldkmceenlomaaGreat
open Go.RowKit
set_option linter.unusedVariables false

theorem fixL_nine (i : Nat) : ln fixL i ≤ 9 := by
  have key : ∀ x ∈ fixL, x ≤ 9 := by decide +kernel
  unfold ln
  rw [List.getD_eq_getElem?_getD]
  by_cases h : i < fixL.length
  · rw [List.getElem?_eq_getElem h]; exact key _ (List.getElem_mem h)
  · rw [List.getElem?_eq_none (by omega)]; exact Nat.zero_le _
theorem fixD_five (i : Nat) : ln fixD i ≤ 5 := by
  have key : ∀ x ∈ fixD, x ≤ 5 := by decide +kernel
  unfold ln
  rw [List.getD_eq_getElem?_getD]
  by_cases h : i < fixD.length
  · rw [List.getElem?_eq_getElem h]; exact key _ (List.getElem_mem h)
  · rw [List.getElem?_eq_none (by omega)]; exact Nat.zero_le _
theorem szF_five (x : Nat) : (szF (noF x false) false).2 ≤ 5 := by
  have key : ∀ i : Fin 30, (szF i.val false).2 ≤ 5 := by decide +kernel
  have hlt : noF x false < 29 := lastK_lt x false 29 (by decide)
  exact key ⟨noF x false, by omega⟩
theorem encT_fix (t : Tok) : (encT fixL fixD t).length ≤ 32 := by
  have h1 := fixL_nine (symT t)
  have h2 := fixD_five (farT t)
  have s1 := szF_five t.l.toNat
  have s2 := (szF_bd true (noF t.d.toNat true)).2
  unfold encT szB
  split <;> simp only [List.length_append, codeS_len, lowB_len] <;> omega
theorem encs_fix : ∀ ts : List Tok, (encs fixL fixD ts).length ≤ 32 * ts.length
  | [] => Nat.zero_le _
  | t :: ts => by
    have := encs_fix ts
    have := encT_fix t
    rw [encs_cons, List.length_append, List.length_cons]; omega
theorem fixB_len (ts : List Tok) (la : Nat) : ((fixB ts).bits la).length ≤ 10 + 32 * ts.length := by
  have h1 := encs_fix ts
  have h2 : ln fixL 256 = 7 := by decide +kernel
  have e1 : PBk.head (fixB ts) = [] := by unfold PBk.head fixB; rw [if_pos rfl]
  unfold PBk.bits
  rw [e1]
  simp only [List.length_append, lowB_len, codeS_len, List.length_nil]
  show 1 + (2 + (0 + ((encs fixL fixD ts).length + ln fixL 256))) ≤ _
  omega
theorem bitsB_len : ∀ bs : List PBk, (bitsB bs).length = (bs.flatMap (PBk.bits 0)).length
  | [] => rfl
  | [b] => by
    show (b.bits 1).length = _
    rw [bits_last b 1 0]; simp
  | b :: c :: r => by
    have ih := bitsB_len (c :: r)
    rw [bitsB, List.length_append, List.flatMap_cons, List.length_append, ih]
theorem short_len : ∀ bs : List PBk, (∀ b ∈ bs, Short b) → (bs.flatMap (PBk.bits 0)).length ≤ 10 * bs.length + 32 * (bs.flatMap PBk.ts).length
  | [], _ => Nat.zero_le _
  | b :: bs, h => by
    have ih := short_len bs (fun c hc => h c (by simp [hc]))
    have h1 := h b (by simp) 0
    have h2 := fixB_len b.ts 0
    rw [List.flatMap_cons, List.length_append, List.flatMap_cons, List.length_append, List.length_cons]; omega
theorem blk_three (l : List UInt8) (last : Bool) : l.length ≤ (sblk l last).length := by
  unfold sblk; simp only [List.length_append]; omega
theorem stoF_ge : ∀ (k : Nat) (l : List UInt8), l.length ≤ k → l.length ≤ (stoF l).length
  | 0, l, h => by omega
  | k + 1, l, h => by
    by_cases hm : 65535 < l.length
    · have ih := stoF_ge k (l.drop 65535) (by rw [List.length_drop]; omega)
      have h2 := blk_three (l.take 65535) false
      rw [stoF_more hm, List.length_append]
      rw [List.length_drop] at ih
      rw [List.length_take] at h2
      omega
    · rw [stoF_last hm]; exact blk_three l true
/-- A run's stream is packed, and short. -/
theorem run_packed {s : ByteArray} {n c lv : Nat} {d : ByteArray} (h : IsRun s n c) (hl : 1 ≤ lv) (h1 : 1000 ≤ n) (h2 : n ≤ 65536) (hd : DefOk s lv d) : ∃ bs, BlksOf s lv bs ∧ d = packS (bitsB bs) ∧ d.size ≤ 64 + n / 64 := by
  obtain ⟨bs, hb, hc⟩ := hd
  have hf := run_few h hl
  have hw := hb.few
  have hbl : bs.length ≤ 1 := by omega
  have hs := short_len bs (fun b hb' => (hb.ok b hb').2)
  rw [hb.ts] at hs
  have hp := packS_size (bitsB bs)
  rw [bitsB_len] at hp
  have hsz : (packS (bitsB bs)).size ≤ 64 + n / 64 := by omega
  rcases hc with ⟨e, _⟩ | ⟨e, hlt⟩
  · exact ⟨bs, hb, e, by rw [e]; exact hsz⟩
  · have hg := stoF_ge s.data.toList.length s.data.toList (Nat.le_refl _)
    have hs1 : s.data.toList.length = n := by have := h.1; simpa using this
    have hs2 : d.size = (stoF s.data.toList).length := by rw [← e]; simp
    omega
end Go.Proofs.YtaldkmceenlomaaGreat
