/- Contract of (*huff.Tree).Next. Streams of blocks, read bit by bit: the plain mathematics. f: the bits, L: how many there are, p: the place. -/
import Derived.Test.YthkppipdflmekaaQTreeP
import Derived.Test.YthkppipdflmekaaQSrcE
import Derived.Test.YthkppipdflmekaaQMatchM
namespace Go.Proofs.Ythkppipdflmekaa
open Go.RowKit
set_option linter.unusedVariables false

/-- The first j bits. -/
def pfB (f : Nat → Bool) (j : Nat) : List Bool := (List.range j).map f
theorem pfB_succ (f : Nat → Bool) (j : Nat) : pfB f (j + 1) = pfB f j ++ [f j] := by unfold pfB; rw [List.range_succ, List.map_append]; rfl
theorem pfB_len (f : Nat → Bool) (j : Nat) : (pfB f j).length = j := by simp [pfB]
theorem pfB_prefix (f : Nat → Bool) (m k : Nat) (h : m ≤ k) : pfB f m <+: pfB f k := by
  obtain ⟨d, rfl⟩ := Nat.le.dest h
  clear h
  induction d with
  | zero => exact List.prefix_refl _
  | succ d ih => rw [← Nat.add_assoc, pfB_succ]; exact ih.trans (List.prefix_append _ _)
/-- j bits are the beginning of a code, or there is none yet. -/
def Under (ns : List Nat) (f : Nat → Bool) (j : Nat) : Prop := j = 0 ∨ ∃ t, Used ns ns.length t ∧ pfB f j <+: codeS ns t ∧ pfB f j ≠ codeS ns t
theorem Under.lt {ns : List Nat} {f : Nat → Bool} {j : Nat} (h : Under ns f j) (h15 : all15 ns) : j < 15 := by
  rcases h with rfl | ⟨t, h1, h2, h3⟩
  · decide
  · have hl := h2.length_le
    rw [pfB_len, codeS_len] at hl
    have := h15.at t
    rcases Nat.lt_or_ge j (ln ns t) with hlt | hge
    · omega
    · exact absurd (h2.eq_of_length (by rw [pfB_len, codeS_len]; omega)) h3
/-- What Next tells of the bits f, of which 'left' are there: it takes j + 1. -/
def NextR (ns : List Nat) (f : Nat → Bool) (left j : Nat) (y e : Int) : Prop := (Under ns f j ∧ j ≤ left) ∧ ((left ≤ j ∧ y = 0 ∧ e = 6) ∨ (j < left ∧ ((∃ t : Nat, Used ns ns.length t ∧ codeS ns t = pfB f (j + 1) ∧ y = (t : Int) ∧ e = 0) ∨ ((∀ t, Used ns ns.length t → ¬ pfB f (j + 1) <+: codeS ns t) ∧ y = 0 ∧ e = 3))))
theorem TreeIn.keptBy {w w' : World} {B gt gb cap n g : Nat} {br : Nat → Bool → Int} (h : TreeIn w B gt gb cap n br) (hg : w.grownBy w' (some g)) (h1 : g ≠ gt) (h2 : g ≠ gb) : TreeIn w' B gt gb cap n br := by
  refine ⟨(hg.block gt h.lt (fun e => h1 (by cases e; rfl))).trans h.top, h.low, h.row.kept hg (.inr (fun e => h2 (by simp [Value.ownBlock] at e; exact e.symm)))⟩
set_option maxRecDepth 100000 in
set_option maxHeartbeats 1000000 in
theorem next_any (ns : List Nat) (h15 : all15 ns) (hl : ns.length ≤ 320) (B gt gx : Nat) (s : ByteArray) (p : Nat) (w : World) (hP : Planted w B gt ns ns.length) (hS : SrcAt w gx s p) (hs : s.size ≤ 140737488351232) (hp : p ≤ 8 * s.size) :
    Calls Try.prog 49 #[.pointer (some ⟨gt, 0, none⟩), .pointer (some ⟨gx, 0, none⟩)] w fun e w' => ∃ (j : Nat) (y er : Int), e = .returned (.tuple #[.int .i64 y, .int .i64 er]) ∧ NextR ns (fun i => sbit s.data.toList (p + i)) (8 * s.size - p) j y er ∧ SrcAt w' gx s (p + j + 1) ∧ w.grownBy w' (some gx) := by
  obtain ⟨n, br, path, hT, hz, ⟨gb, cap, hM⟩, hn⟩ := hP
  have hxt : gx ≠ gt := fun e => by
    have h1 := hM.top
    subst e
    unfold SrcAt at hS
    rw [hS] at h1
    simp only [Option.some.injEq, Obj.cells.injEq] at h1
    exact absurd h1.2.1 (by decide)
  have hxb : gx ≠ gb := hM.ne hS (by decide)
  have HT : Hid (TreeI ns (Used ns ns.length) (Used ns ns.length) n br path) := hT
  have HM : Hid (TreeIn w B gt gb cap n br) := hM
  have HS : Hid (SrcAt w gx s p) := hS
  have HTk : Hid (∀ W q, SrcAt W gx s q → q ≤ 8 * s.size → Calls Try.prog 33 #[.pointer (some ⟨gx, 0, none⟩), .int .i64 1] W fun e w' => e = .returned (.int .u32 ((sbit s.data.toList q).toNat : Int)) ∧ SrcAt w' gx s (q + 1) ∧ W.grownBy w' (some gx)) := fun W q h hq => by
    refine (take_any gx s q 1 W h hs (by omega) (by decide)).mono ?_
    rintro e w' ⟨rfl, h1, h2⟩
    have e1 : near 1 32 = 1 := rfl
    rw [e1] at h1
    refine ⟨?_, h1, h2⟩
    rw [e1]
    simp [takeN]
  have HSh : Hid (∀ W q, SrcAt W gx s q → Calls Try.prog 34 #[.pointer (some ⟨gx, 0, none⟩)] W fun e w' => e = .returned (.bool (decide (8 * s.size < q))) ∧ ∃ n, w' = W.drewN n) := fun W q h => short_any gx s q W h hs
  clear hT hz hM hS
  go_enter Try.func49, Try.ntmps49
  go_wp2
  go_loopw [6] (fun a wr => ∃ u j : Nat, u < n ∧ a = .int .i64 (u : Int) ∧ path u = pfB (fun i => sbit s.data.toList (p + i)) j ∧ Under ns (fun i => sbit s.data.toList (p + i)) j ∧ p + j ≤ 8 * s.size ∧ SrcAt wr gx s (p + j) ∧ w.grownBy wr (some gx)) (fun a wr => 15 - (path (intOf a).toNat).length)
  case atStart => exact ⟨0, 0, HT.out.pos, rfl, HT.out.root, .inl rfl, by omega, HS.out, grefl w _⟩
  case round =>
    obtain ⟨u, j, hu, rfl, hpu, hU, hpj, hS, hG⟩ := hrel
    have hj := hU.lt h15
    go_wp2_with fail
    refine (HTk.out _ _ hS hpj).mono ?_
    rintro e w1 ⟨rfl, hS1, hG1⟩
    go_wp2_with fail
    refine (HSh.out _ _ hS1).mono ?_
    rintro e w2 ⟨rfl, m, rfl⟩
    have hG2 := gdrewN (gtrans hG hG1) m
    have hM2 := HM.out.keptBy hG2 hxt hxb
    have hS2 := hS1.drewN m
    have HG2 : Hid (w.grownBy (w1.drewN m) (some gx)) := hG2
    have HS2 : Hid (SrcAt (w1.drewN m) gx s (p + j + 1)) := hS2
    by_cases hsh : 8 * s.size < p + j + 1
    · rw [decide_eq_true hsh]
      have HR : Hid (NextR ns (fun i => sbit s.data.toList (p + i)) (8 * s.size - p) j 0 6) := ⟨⟨hU, by omega⟩, .inl ⟨by omega, rfl, rfl⟩⟩
      clear hU hpu hM2 hS1 hS hG hG1 hG2 hS2
      go_wp2
      go_ret2
      exact ⟨j, 0, 6, rfl, HR.out, HS2.out, HG2.out⟩
    · rw [decide_eq_false hsh]
      have hsucc : pfB (fun i => sbit s.data.toList (p + i)) (j + 1) = path u ++ [sbit s.data.toList (p + j)] := by rw [pfB_succ, hpu]
      have ct := hM2.top0
      have cb := hM2.at (b := sbit s.data.toList (p + j)) hu
      have hb2 : (sbit s.data.toList (p + j)).toNat < 2 := Bool.toNat_lt _
      have hui : (u : Int) < (n : Int) := by omega
      have hu0 : (0 : Int) ≤ (u : Int) := by omega
      clear hM2 hS1 hS hG hG1 hG2 hS2
      rcases Int.lt_trichotomy (br u (sbit s.data.toList (p + j))) 0 with hlt | he0 | hgt
      · obtain ⟨t, h1, h2, h3⟩ := HT.out.leaf u _ hu hlt
        have HR : Hid (NextR ns (fun i => sbit s.data.toList (p + i)) (8 * s.size - p) j (t : Int) 0) := ⟨⟨hU, by omega⟩, .inr ⟨by omega, .inl ⟨t, h1, by rw [hsucc, h3], rfl, rfl⟩⟩⟩
        rw [h2] at cb
        have ht := h1.1
        have z1 : ((-1 - (t : Int)) == 0) = false := by simp; omega
        have z2 : (-1 - (t : Int)) < 0 := by omega
        clear hU hpu hsucc h2 h3 hlt h1
        generalize (sbit s.data.toList (p + j)).toNat = bv at *
        go_wp2
        go_ret2
        exact ⟨j, t, 0, by go_num, HR.out, HS2.out, HG2.out⟩
      · have HR : Hid (NextR ns (fun i => sbit s.data.toList (p + i)) (8 * s.size - p) j 0 3) := ⟨⟨hU, by omega⟩, .inr ⟨by omega, .inr ⟨fun t ht => by rw [hsucc]; exact HT.out.none u _ hu he0 t ht, rfl, rfl⟩⟩⟩
        rw [he0] at cb
        clear hU hpu hsucc he0
        generalize (sbit s.data.toList (p + j)).toNat = bv at *
        go_wp2
        go_ret2
        exact ⟨j, 0, 3, rfl, HR.out, HS2.out, HG2.out⟩
      · obtain ⟨v, h1, h2, h3⟩ := HT.out.up u _ hu hgt
        rw [h1] at cb hgt
        have hU2 : Under ns (fun i => sbit s.data.toList (p + i)) (j + 1) := by
          obtain ⟨t, g1, g2, g3⟩ := HT.out.ext v h2 (by omega)
          rw [h3, ← hsucc] at g2 g3
          exact .inr ⟨t, g1, g2, g3⟩
        have HU2 : Hid (Under ns (fun i => sbit s.data.toList (p + i)) (j + 1)) := hU2
        have HPv : Hid (path v = pfB (fun i => sbit s.data.toList (p + i)) (j + 1)) := by unfold Hid; rw [hsucc, h3]
        have HPu : Hid (path u = pfB (fun i => sbit s.data.toList (p + i)) j) := hpu
        have z1 : ((v : Int) == 0) = false := by simp; omega
        clear hU hpu hsucc h1 h3 hU2
        generalize (sbit s.data.toList (p + j)).toNat = bv at *
        go_wp2
        go_roundw
        case rel => exact ⟨v, j + 1, h2, rfl, HPv.out, HU2.out, by omega, HS2.out, HG2.out⟩
        case measure => simp [intOf]; rw [HPv.out, HPu.out, pfB_len, pfB_len]; omega
end Go.Proofs.Ythkppipdflmekaa
namespace Go.Proofs.Ythkppipdflmekaa
open Go.RowKit
set_option linter.unusedVariables false

/-- n bits as a number. -/
def tkF (f : Nat → Bool) (L p n : Nat) : Except Nat Nat := if L < p + n then .error 6 else .ok (takeN (fun i => f (p + i)) n)
/-- The symbol that comes next, and the place behind it; j bits have been looked at. -/
def nxG (ns : List Nat) (f : Nat → Bool) (L p : Nat) : Nat → Nat → Except Nat (Nat × Nat)
  | 0, _ => .error 3
  | k + 1, j =>
    if L ≤ p + j then .error 6 else
    match (List.range ns.length).find? (fun t => decide (ln ns t = j + 1) && decide (codeS ns t = pfB (fun i => f (p + i)) (j + 1))) with
    | some t => .ok (t, p + j + 1)
    | none => if (List.range ns.length).any (fun t => decide (j + 1 < ln ns t) && decide ((codeS ns t).take (j + 1) = pfB (fun i => f (p + i)) (j + 1))) then nxG ns f L p k (j + 1) else .error 3
def nxF (ns : List Nat) (f : Nat → Bool) (L p : Nat) : Except Nat (Nat × Nat) := nxG ns f L p 16 0
/-- What Next's relation says, in this form. -/
def nxOf (p j : Nat) (y e : Int) : Except Nat (Nat × Nat) := if e = 0 then .ok (y.toNat, p + j + 1) else .error e.toNat
theorem nxG_sound (ns : List Nat) (h15 : all15 ns) (f : Nat → Bool) (L p : Nat) (hp : p ≤ L) : ∀ k j, 16 ≤ k + j → Under ns (fun i => f (p + i)) j → j ≤ L - p → ∃ j' y e, NextR ns (fun i => f (p + i)) (L - p) j' y e ∧ nxG ns f L p k j = nxOf p j' y e
  | 0, j, hk, hU, hj => by have := hU.lt h15; omega
  | k + 1, j, hk, hU, hj => by
    rw [nxG]
    by_cases hL : L ≤ p + j
    · rw [if_pos hL]
      exact ⟨j, 0, 6, ⟨⟨hU, hj⟩, .inl ⟨by omega, rfl, rfl⟩⟩, rfl⟩
    · rw [if_neg hL]
      cases hfd : (List.range ns.length).find? (fun t => decide (ln ns t = j + 1) && decide (codeS ns t = pfB (fun i => f (p + i)) (j + 1))) with
      | some t =>
        have h1 := List.find?_some hfd
        have h2 := List.mem_range.1 (List.mem_of_find?_eq_some hfd)
        simp only [Bool.and_eq_true, decide_eq_true_eq] at h1
        exact ⟨j, (t : Int), 0, ⟨⟨hU, hj⟩, .inr ⟨by omega, .inl ⟨t, ⟨h2, by omega⟩, h1.2, rfl, rfl⟩⟩⟩, rfl⟩
      | none =>
        simp only
        have hno := List.find?_eq_none.1 hfd
        by_cases hany : (List.range ns.length).any (fun t => decide (j + 1 < ln ns t) && decide ((codeS ns t).take (j + 1) = pfB (fun i => f (p + i)) (j + 1))) = true
        · rw [if_pos hany]
          obtain ⟨t, ht, hc⟩ := List.any_eq_true.1 hany
          simp only [Bool.and_eq_true, decide_eq_true_eq] at hc
          refine nxG_sound ns h15 f L p hp k (j + 1) (by omega) (.inr ⟨t, ⟨List.mem_range.1 ht, by omega⟩, ?_, ?_⟩) (by omega)
          · rw [← hc.2]; exact List.take_prefix _ _
          · intro e
            have := congrArg List.length e
            rw [pfB_len, codeS_len] at this; omega
        · rw [if_neg hany]
          refine ⟨j, 0, 3, ⟨⟨hU, hj⟩, .inr ⟨by omega, .inr ⟨fun t ht hpf => ?_, rfl, rfl⟩⟩⟩, rfl⟩
          have hl := hpf.length_le
          rw [pfB_len, codeS_len] at hl
          have hm : t ∈ List.range ns.length := List.mem_range.2 ht.1
          by_cases e : ln ns t = j + 1
          · refine hno t hm ?_
            simp only [Bool.and_eq_true, decide_eq_true_eq]
            exact ⟨e, (hpf.eq_of_length (by rw [pfB_len, codeS_len, e])).symm⟩
          · refine hany (List.any_eq_true.2 ⟨t, hm, ?_⟩)
            simp only [Bool.and_eq_true, decide_eq_true_eq]
            refine ⟨by omega, ?_⟩
            have := List.prefix_iff_eq_take.1 hpf
            rw [pfB_len] at this
            exact this.symm
theorem nx_sound (ns : List Nat) (h15 : all15 ns) (f : Nat → Bool) (L p : Nat) (hp : p ≤ L) : ∃ j y e, NextR ns (fun i => f (p + i)) (L - p) j y e ∧ nxF ns f L p = nxOf p j y e :=
  nxG_sound ns h15 f L p hp 16 0 (by omega) (.inl rfl) (by omega)
/-- Where one stops, none goes on. -/
theorem next_no (ns : List Nat) (h15 : all15 ns) (hf : fitB ns = true) (f : Nat → Bool) (left j1 j2 : Nat) (y1 e1 : Int) (h1 : NextR ns f left j1 y1 e1) (hU : Under ns f j2) (h2 : j2 ≤ left) (hlt : j1 < j2) : False := by
  obtain ⟨_, h1⟩ := h1
  rcases hU with rfl | ⟨t, ht, hp, hne⟩
  · omega
  · have hpp : pfB f (j1 + 1) <+: codeS ns t := (pfB_prefix f (j1 + 1) j2 (by omega)).trans hp
    rcases h1 with ⟨h, _⟩ | ⟨_, ⟨u, hu, hc, _⟩ | ⟨h, _⟩⟩
    · omega
    · rw [← hc] at hpp
      have := codeS_pf ns h15 hf u t hu.1 ht.1 hu.2 ht.2 hpp
      subst this
      have hl := hp.length_le
      have hl2 := congrArg List.length hc
      rw [pfB_len, codeS_len] at hl
      rw [pfB_len, codeS_len] at hl2
      exact hne (hp.eq_of_length (by rw [pfB_len, codeS_len]; omega))
    · exact h t ht hpp
theorem next_one (ns : List Nat) (h15 : all15 ns) (hf : fitB ns = true) (f : Nat → Bool) (left j1 j2 : Nat) (y1 e1 y2 e2 : Int) (h1 : NextR ns f left j1 y1 e1) (h2 : NextR ns f left j2 y2 e2) : j1 = j2 ∧ y1 = y2 ∧ e1 = e2 := by
  have hj : j1 = j2 := by
    rcases Nat.lt_trichotomy j1 j2 with h | h | h
    · exact (next_no ns h15 hf f left j1 j2 y1 e1 h1 h2.1.1 h2.1.2 h).elim
    · exact h
    · exact (next_no ns h15 hf f left j2 j1 y2 e2 h2 h1.1.1 h1.1.2 h).elim
  subst hj
  refine ⟨rfl, ?_⟩
  obtain ⟨_, h1⟩ := h1
  obtain ⟨_, h2⟩ := h2
  rcases h1 with ⟨a, b, c⟩ | ⟨a, ⟨u, hu, hc, b, c⟩ | ⟨h, b, c⟩⟩
  · rcases h2 with ⟨a', b', c'⟩ | ⟨a', _⟩
    · exact ⟨b.trans b'.symm, c.trans c'.symm⟩
    · omega
  · rcases h2 with ⟨a', _⟩ | ⟨a', ⟨v, hv, hd, b', c'⟩ | ⟨h', _⟩⟩
    · omega
    · have := codeS_pf ns h15 hf u v hu.1 hv.1 hu.2 hv.2 (by rw [hc, hd]; exact List.prefix_refl _)
      subst this
      exact ⟨b.trans b'.symm, c.trans c'.symm⟩
    · exact (h' u hu (by rw [hc]; exact List.prefix_refl _)).elim
  · rcases h2 with ⟨a', _⟩ | ⟨a', ⟨v, hv, hd, b', c'⟩ | ⟨h', b', c'⟩⟩
    · omega
    · exact (h v hv (by rw [hd]; exact List.prefix_refl _)).elim
    · exact ⟨b.trans b'.symm, c.trans c'.symm⟩
/-- Next's answer is this one. -/
theorem nx_of (ns : List Nat) (h15 : all15 ns) (hf : fitB ns = true) (f : Nat → Bool) (L p j : Nat) (y e : Int) (hp : p ≤ L) (h : NextR ns (fun i => f (p + i)) (L - p) j y e) : nxF ns f L p = nxOf p j y e := by
  obtain ⟨j', y', e', h1, h2⟩ := nx_sound ns h15 f L p hp
  obtain ⟨rfl, rfl, rfl⟩ := next_one ns h15 hf _ _ _ _ _ _ _ _ h h1
  exact h2
theorem nextR_kind {ns : List Nat} {f : Nat → Bool} {left j : Nat} {y e : Int} (h : NextR ns f left j y e) : (e = 0 ∧ j < left ∧ ∃ t : Nat, y = (t : Int) ∧ t < ns.length) ∨ (y = 0 ∧ (e = 3 ∨ e = 6)) := by
  obtain ⟨_, h⟩ := h
  rcases h with ⟨_, h1, h2⟩ | ⟨hj, ⟨t, ht, _, h1, h2⟩ | ⟨_, h1, h2⟩⟩
  · exact .inr ⟨h1, .inr h2⟩
  · exact .inl ⟨h2, hj, t, h1, ht.1⟩
  · exact .inr ⟨h1, .inl h2⟩
theorem nxF_ok {ns : List Nat} (h15 : all15 ns) {f : Nat → Bool} {L p t q : Nat} (hp : p ≤ L) (h : nxF ns f L p = .ok (t, q)) : t < ns.length ∧ p < q ∧ q ≤ L := by
  obtain ⟨j, y, e, h1, h2⟩ := nx_sound ns h15 f L p hp
  rw [h2] at h
  unfold nxOf at h
  rcases nextR_kind h1 with ⟨rfl, hj, u, rfl, hu⟩ | ⟨_, rfl | rfl⟩
  · rw [if_pos rfl] at h
    simp only [Except.ok.injEq, Prod.mk.injEq, Int.toNat_natCast] at h
    omega
  · rw [if_neg (by decide)] at h; cases h
  · rw [if_neg (by decide)] at h; cases h
/-- The least size of a number and its bits: so many numbers in a row have as many bits. -/
def stepsN (i first row : Nat) : Nat × Nat := if i < 2 * row then (first + i, 0) else (first + (row + i % row) * 2 ^ (i / row - 1), i / row - 1)
def szF (i : Nat) (far : Bool) : Nat × Nat := if far then (if i < 30 then stepsN i 1 2 else (0, 0)) else if 29 ≤ i then (0, 0) else if i = 28 then (258, 0) else stepsN i 3 4
theorem szF_bd (far : Bool) : ∀ i, (szF i far).1 ≤ 24577 ∧ (szF i far).2 ≤ 13 := by
  intro i
  by_cases h : i < 30
  · have key : ∀ (far : Bool) (i : Fin 30), (szF i.val far).1 ≤ 24577 ∧ (szF i.val far).2 ≤ 13 := by decide +kernel
    exact key far ⟨i, h⟩
  · unfold szF
    cases far
    · rw [if_neg (by decide), if_pos (by omega)]; exact ⟨by decide, by decide⟩
    · rw [if_pos rfl, if_neg h]; exact ⟨by decide, by decide⟩
/-- A size, or a distance, of a number and of the bits that follow it; the place behind them. -/
def szE (f : Nat → Bool) (L p i : Nat) (far : Bool) : Except Nat (Nat × Nat) := if (szF i far).1 = 0 then .error 3 else match tkF f L p (szF i far).2 with
  | .error e => .error e
  | .ok m => .ok ((szF i far).1 + m, p + (szF i far).2)
/-- The token that begins with a symbol; the place, the bytes that have come out. -/
def tkE (ds : List Nat) (f : Nat → Bool) (L most p out sym : Nat) : Except Nat (Tok × Nat × Nat) :=
  if sym < 256 then (if most < out + 1 then .error 2 else .ok (⟨sym, 0, 0⟩, p, out + 1)) else
  match szE f L p (sym - 257) false with
  | .error e => .error e
  | .ok (size, p1) => match nxF ds f L p1 with
    | .error e => .error e
    | .ok (d, p2) => match szE f L p2 d true with
      | .error e => .error e
      | .ok (dist, p3) => if out < dist then .error 3 else if most < out + size then .error 2 else .ok (⟨0, size, dist⟩, p3, out + size)
/-- The tokens of a block, up to its end. -/
def tksF (ls ds : List Nat) (f : Nat → Bool) (L most : Nat) : Nat → Nat → Nat → List Tok → Except Nat (List Tok × Nat × Nat)
  | 0, _, _, _ => .error 6
  | k + 1, p, out, acc => match nxF ls f L p with
    | .error e => .error e
    | .ok (sym, p1) => if sym = 256 then .ok (acc, p1, out) else match tkE ds f L most p1 out sym with
      | .error e => .error e
      | .ok (t, p2, out2) => tksF ls ds f L most k p2 out2 (acc ++ [t])
/-- n bytes from a place on. -/
def bytF (f : Nat → Bool) (q n : Nat) : List Nat := (List.range n).map fun k => takeN (fun i => f (q + 8 * k + i)) 8
/-- A stored block's bytes. -/
def stF (f : Nat → Bool) (L most p out : Nat) : Except Nat (List Nat × Nat × Nat) :=
  match tkF f L ((p + 7) / 8 * 8) 16 with
  | .error e => .error e
  | .ok n => match tkF f L ((p + 7) / 8 * 8 + 16) 16 with
    | .error e => .error e
    | .ok m => if n + m ≠ 65535 then .error 3 else if L < (p + 7) / 8 * 8 + 32 + 8 * n then .error 6 else if most < out + n then .error 2 else .ok (bytF f ((p + 7) / 8 * 8 + 32) n, (p + 7) / 8 * 8 + 32 + 8 * n, out + n)
/-- In which order the lengths of the first codes are told. -/
def ordL : List Nat := [16, 17, 18, 0, 8, 7, 9, 6, 10, 5, 11, 4, 12, 3, 13, 2, 14, 1, 15]
/-- The lengths of the first codes, of which n are told from a place on, the first k so far. -/
def fstL (f : Nat → Bool) (p k : Nat) : List Nat := (List.range 19).map fun t => if ordL.idxOf t < k then takeN (fun i => f (p + 3 * ordL.idxOf t + i)) 3 else 0
/-- How often at least a symbol's length stands, and the bits that say how much more often. -/
def tmF (sym : Nat) : Nat × Nat := if sym = 16 then (3, 2) else if sym = 17 then (3, 3) else if sym = 18 then (11, 7) else (1, 0)
def toldF (row : List Nat) (sym : Nat) : Nat := if sym = 16 then row.getD (row.length - 1) 0 else if sym = 17 ∨ sym = 18 then 0 else sym
/-- A row of n lengths. -/
def rowF (ns : List Nat) (f : Nat → Bool) (L n : Nat) : Nat → Nat → List Nat → Except Nat (List Nat × Nat)
  | 0, _, _ => .error 6
  | k + 1, p, row => if n ≤ row.length then (if n < row.length then .error 3 else .ok (row, p)) else
    match nxF ns f L p with
    | .error e => .error e
    | .ok (sym, p1) => if sym = 16 ∧ row.length = 0 then .error 3 else match tkF f L p1 (tmF sym).2 with
      | .error e => .error e
      | .ok m => rowF ns f L n k (p1 + (tmF sym).2) (row ++ List.replicate ((tmF sym).1 + m) (toldF row sym))
/-- The error of lengths that a stream tells. -/
def fitE (ns : List Nat) : Bool := decide (ns.length ≤ 320) && (ns.all fun n => decide (n ≤ 15)) && fitB ns
/-- The lengths that a dynamic block tells. -/
def dynF (f : Nat → Bool) (L p : Nat) : Except Nat (List Nat × List Nat × Nat) :=
  match tkF f L p 5 with
  | .error e => .error e
  | .ok a => match tkF f L (p + 5) 5 with
    | .error e => .error e
    | .ok b => match tkF f L (p + 10) 4 with
      | .error e => .error e
      | .ok c => if 29 < a ∨ 29 < b then .error 3 else if L < p + 14 + 3 * (c + 4) then .error 6 else
        if fitE (fstL f (p + 14) (c + 4)) = false then .error 3 else
        match rowF (fstL f (p + 14) (c + 4)) f L (a + b + 258) (L + 1) (p + 14 + 3 * (c + 4)) [] with
        | .error e => .error e
        | .ok (row, p1) => if row.getD 256 0 = 0 then .error 3 else if fitE (row.take (a + 257)) = false ∨ fitE (row.drop (a + 257)) = false then .error 3 else .ok (row.take (a + 257), row.drop (a + 257), p1)
def fixL : List Nat := List.replicate 144 8 ++ List.replicate 112 9 ++ List.replicate 24 7 ++ List.replicate 8 8
def fixD : List Nat := List.replicate 32 5
/-- A block. -/
structure Blk where
  kind : Nat
  bytes : List Nat
  toks : List Tok
/-- The next block, whether it is the last one; the place, the bytes that have come out. -/
def blkF (f : Nat → Bool) (L most p out : Nat) : Except Nat (Blk × Nat × Nat × Nat) :=
  match tkF f L p 1 with
  | .error e => .error e
  | .ok last => match tkF f L (p + 1) 2 with
    | .error e => .error e
    | .ok kind => if kind = 0 then (match stF f L most (p + 3) out with
        | .error e => .error e
        | .ok (b, p1, o1) => .ok (⟨0, b, []⟩, last, p1, o1))
      else if kind = 1 then (match tksF fixL fixD f L most (L + 1) (p + 3) out [] with
        | .error e => .error e
        | .ok (t, p1, o1) => .ok (⟨1, [], t⟩, last, p1, o1))
      else if kind = 2 then (match dynF f L (p + 3) with
        | .error e => .error e
        | .ok (ls, ds, p1) => match tksF ls ds f L most (L + 1) p1 out [] with
          | .error e => .error e
          | .ok (t, p2, o2) => .ok (⟨2, [], t⟩, last, p2, o2))
      else .error 3
def blksF (f : Nat → Bool) (L most : Nat) : Nat → Nat → Nat → List Blk → Except Nat (List Blk × Nat)
  | 0, _, _, _ => .error 6
  | k + 1, p, out, acc => match blkF f L most p out with
    | .error e => .error e
    | .ok (b, last, p1, o1) => if last = 1 then .ok (acc ++ [b], p1) else blksF f L most k p1 o1 (acc ++ [b])
end Go.Proofs.Ythkppipdflmekaa
