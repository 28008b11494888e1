/- The head of a dynamic block that was written is read again: the plain mathematics. -/
import Derived.Test.YthkppipdflmekaaGreatQTreeP
import Derived.Test.YthkppipdflmekaaGreatQSrcE
import Derived.Test.YthkppipdflmekaaGreatQPutA
import Derived.Test.YthkppipdflmekaaGreatQMatchE
set_option maxRecDepth 100000
set_option maxHeartbeats 1000000
namespace Go.Proofs.YthkppipdflmekaaGreat
open Go.RowKit
set_option linter.unusedVariables false
def pfB (f : Nat → Bool) (j : Nat) : List Bool := (List.range j).map f
theorem qq7 (f : Nat → Bool) (j : Nat) : pfB f (j + 1) = pfB f j ++ [f j] := by unfold pfB; rw [List.range_succ, List.map_append]; rfl
theorem qbo (f : Nat → Bool) (j : Nat) : (pfB f j).length = j := by simp [pfB]
theorem qkh (f : Nat → Bool) (m k : Nat) (h : m ≤ k) : pfB f m <+: pfB f k := by
 obtain ⟨d, rfl⟩ := Nat.le.dest h
 clear h
 induction d with
 | zero => exact List.prefix_refl _
 | succ d ih => rw [← Nat.add_assoc, qq7]; exact ih.trans (List.prefix_append _ _)
def qmf (ns : List Nat) (f : Nat → Bool) (j : Nat) : Prop := j = 0 ∨ ∃ t, Used ns ns.length t ∧ pfB f j <+: qau ns t ∧ pfB f j ≠ qau ns t
theorem qmf.lt {ns : List Nat} {f : Nat → Bool} {j : Nat} (h : qmf ns f j) (h15 : qbh ns) : j < 15 := by
 rcases h with rfl | ⟨t, h1, h2, h3⟩
 · decide
 · have hl := h2.length_le
   rw [qbo, qai] at hl
   have := h15.at t
   rcases Nat.lt_or_ge j (ln ns t) with hlt | hge
   · omega
   · exact absurd (h2.eq_of_length (by rw [qbo, qai]; omega)) h3
def qfo (ns : List Nat) (f : Nat → Bool) (left j : Nat) (y e : Int) : Prop := (qmf ns f j ∧ j ≤ left) ∧ ((left ≤ j ∧ y = 0 ∧ e = 6) ∨ (j < left ∧ ((∃ t : Nat, Used ns ns.length t ∧ qau ns t = pfB f (j + 1) ∧ y = (t : Int) ∧ e = 0) ∨ ((∀ t, Used ns ns.length t → ¬ pfB f (j + 1) <+: qau ns t) ∧ y = 0 ∧ e = 3))))
theorem TreeIn.keptBy {w w' : World} {B gt gb cap n g : Nat} {br : Nat → Bool → Int} (h : TreeIn w B gt gb cap n br) (hg : w.grownBy w' (some g)) (h1 : g ≠ gt) (h2 : g ≠ gb) : TreeIn w' B gt gb cap n br := by
 refine ⟨(hg.block gt h.lt (fun e => h1 (by cases e; rfl))).trans h.top, h.low, h.row.kept hg (.inr (fun e => h2 (by simp [Value.ownBlock] at e; exact e.symm)))⟩
theorem qrd (ns : List Nat) (h15 : qbh ns) (hl : ns.length ≤ 320) (B gt gx : Nat) (s : ByteArray) (p : Nat) (w : World) (hP : qao w B gt ns ns.length) (hS : qa6 w gx s p) (hs : s.size ≤ 140737488351232) (hp : p ≤ 8 * s.size) :
    Calls Tryz.prog 104 #[.pointer (some ⟨gt, 0, none⟩), .pointer (some ⟨gx, 0, none⟩)] w fun e w' => ∃ (j : Nat) (y er : Int), e = .returned (.tuple #[.int .i64 y, .int .i64 er]) ∧ qfo ns (fun i => sbit s.data.toList (p + i)) (8 * s.size - p) j y er ∧ qa6 w' gx s (p + j + 1) ∧ w.grownBy w' (some gx) := by
 obtain ⟨n, br, path, hT, hz, ⟨gb, cap, hM⟩, hn⟩ := hP
 have hxt : gx ≠ gt := fun e => by
  have h1 := hM.top
  subst e
  unfold qa6 at hS
  rw [hS] at h1
  simp only [Option.some.injEq, Obj.cells.injEq] at h1
  exact absurd h1.2.1 (by decide)
 have hxb : gx ≠ gb := hM.ne hS (by decide)
 have HT : Hid (TreeI ns (Used ns ns.length) (Used ns ns.length) n br path) := hT
 have HM : Hid (TreeIn w B gt gb cap n br) := hM
 have HS : Hid (qa6 w gx s p) := hS
 have HTk : Hid (∀ W q, qa6 W gx s q → q ≤ 8 * s.size → Calls Tryz.prog 87 #[.pointer (some ⟨gx, 0, none⟩), .int .i64 1] W fun e w' => e = .returned (.int .u32 ((sbit s.data.toList q).toNat : Int)) ∧ qa6 w' gx s (q + 1) ∧ W.grownBy w' (some gx)) := fun W q h hq => by
  refine (qk0 gx s q 1 W h hs (by omega) (by decide)).mono ?_
  rintro e w' ⟨rfl, h1, h2⟩
  have e1 : near 1 32 = 1 := rfl
  rw [e1] at h1
  refine ⟨?_, h1, h2⟩
  rw [e1]
  simp [qal]
 have HSh : Hid (∀ W q, qa6 W gx s q → Calls Tryz.prog 88 #[.pointer (some ⟨gx, 0, none⟩)] W fun e w' => e = .returned (.bool (decide (8 * s.size < q))) ∧ ∃ n, w' = W.drewN n) := fun W q h => qfz gx s q W h hs
 clear hT hz hM hS
 go_enter Tryz.func104, Tryz.ntmps104
 go_wp2
 go_loopw [6] (fun a wr => ∃ u j : Nat, u < n ∧ a = .int .i64 (u : Int) ∧ path u = pfB (fun i => sbit s.data.toList (p + i)) j ∧ qmf ns (fun i => sbit s.data.toList (p + i)) j ∧ p + j ≤ 8 * s.size ∧ qa6 wr gx s (p + j) ∧ w.grownBy wr (some gx)) (fun a wr => 15 - (path (intOf a).toNat).length)
 case atStart => exact ⟨0, 0, HT.out.pos, rfl, HT.out.root, .inl rfl, by omega, HS.out, qcj w _⟩
 case round =>
  obtain ⟨u, j, hu, rfl, hpu, hU, hpj, hS, hG⟩ := hrel
  have hj := hU.lt h15
  go_wp2_with fail
  refine (HTk.out _ _ hS hpj).mono ?_
  rintro e w1 ⟨rfl, hS1, hG1⟩
  go_wp2_with fail
  refine (HSh.out _ _ hS1).mono ?_
  rintro e w2 ⟨rfl, m, rfl⟩
  have hG2 := q02 (qdl hG hG1) m
  have hM2 := HM.out.keptBy hG2 hxt hxb
  have hS2 := hS1.drewN m
  have HG2 : Hid (w.grownBy (w1.drewN m) (some gx)) := hG2
  have HS2 : Hid (qa6 (w1.drewN m) gx s (p + j + 1)) := hS2
  by_cases hsh : 8 * s.size < p + j + 1
  · rw [decide_eq_true hsh]
    have HR : Hid (qfo ns (fun i => sbit s.data.toList (p + i)) (8 * s.size - p) j 0 6) := ⟨⟨hU, by omega⟩, .inl ⟨by omega, rfl, rfl⟩⟩
    clear hU hpu hM2 hS1 hS hG hG1 hG2 hS2
    go_wp2
    go_ret2
    exact ⟨j, 0, 6, rfl, HR.out, HS2.out, HG2.out⟩
  · rw [decide_eq_false hsh]
    have hsucc : pfB (fun i => sbit s.data.toList (p + i)) (j + 1) = path u ++ [sbit s.data.toList (p + j)] := by rw [qq7, hpu]
    have ct := hM2.top0
    have cb := hM2.at (b := sbit s.data.toList (p + j)) hu
    have hb2 : (sbit s.data.toList (p + j)).toNat < 2 := Bool.toNat_lt _
    have hui : (u : Int) < (n : Int) := by omega
    have hu0 : (0 : Int) ≤ (u : Int) := by omega
    clear hM2 hS1 hS hG hG1 hG2 hS2
    rcases Int.lt_trichotomy (br u (sbit s.data.toList (p + j))) 0 with hlt | he0 | hgt
    · obtain ⟨t, h1, h2, h3⟩ := HT.out.leaf u _ hu hlt
      have HR : Hid (qfo ns (fun i => sbit s.data.toList (p + i)) (8 * s.size - p) j (t : Int) 0) := ⟨⟨hU, by omega⟩, .inr ⟨by omega, .inl ⟨t, h1, by rw [hsucc, h3], rfl, rfl⟩⟩⟩
      rw [h2] at cb
      have ht := h1.1
      have z1 : ((-1 - (t : Int)) == 0) = false := by simp; omega
      have z2 : (-1 - (t : Int)) < 0 := by omega
      clear hU hpu hsucc h2 h3 hlt h1
      generalize (sbit s.data.toList (p + j)).toNat = bv at *
      go_wp2
      go_ret2
      exact ⟨j, t, 0, by go_num, HR.out, HS2.out, HG2.out⟩
    · have HR : Hid (qfo ns (fun i => sbit s.data.toList (p + i)) (8 * s.size - p) j 0 3) := ⟨⟨hU, by omega⟩, .inr ⟨by omega, .inr ⟨fun t ht => by rw [hsucc]; exact HT.out.none u _ hu he0 t ht, rfl, rfl⟩⟩⟩
      rw [he0] at cb
      clear hU hpu hsucc he0
      generalize (sbit s.data.toList (p + j)).toNat = bv at *
      go_wp2
      go_ret2
      exact ⟨j, 0, 3, rfl, HR.out, HS2.out, HG2.out⟩
    · obtain ⟨v, h1, h2, h3⟩ := HT.out.up u _ hu hgt
      rw [h1] at cb hgt
      have hU2 : qmf ns (fun i => sbit s.data.toList (p + i)) (j + 1) := by
       obtain ⟨t, g1, g2, g3⟩ := HT.out.ext v h2 (by omega)
       rw [h3, ← hsucc] at g2 g3
       exact .inr ⟨t, g1, g2, g3⟩
      have HU2 : Hid (qmf ns (fun i => sbit s.data.toList (p + i)) (j + 1)) := hU2
      have HPv : Hid (path v = pfB (fun i => sbit s.data.toList (p + i)) (j + 1)) := by unfold Hid; rw [hsucc, h3]
      have HPu : Hid (path u = pfB (fun i => sbit s.data.toList (p + i)) j) := hpu
      have z1 : ((v : Int) == 0) = false := by simp; omega
      clear hU hpu hsucc h1 h3 hU2
      generalize (sbit s.data.toList (p + j)).toNat = bv at *
      go_wp2
      go_roundw
      case rel => exact ⟨v, j + 1, h2, rfl, HPv.out, HU2.out, by omega, HS2.out, HG2.out⟩
      case measure => simp [intOf]; rw [HPv.out, HPu.out, qbo, qbo]; omega
def tkF (f : Nat → Bool) (L p n : Nat) : Except Nat Nat := if L < p + n then .error 6 else .ok (qal (fun i => f (p + i)) n)
def nxG (ns : List Nat) (f : Nat → Bool) (L p : Nat) : Nat → Nat → Except Nat (Nat × Nat)
 | 0, _ => .error 3
 | k + 1, j =>
  if L ≤ p + j then .error 6 else
  match (List.range ns.length).find? (fun t => decide (ln ns t = j + 1) && decide (qau ns t = pfB (fun i => f (p + i)) (j + 1))) with
  | some t => .ok (t, p + j + 1)
  | none => if (List.range ns.length).any (fun t => decide (j + 1 < ln ns t) && decide ((qau ns t).take (j + 1) = pfB (fun i => f (p + i)) (j + 1))) then nxG ns f L p k (j + 1) else .error 3
def nxF (ns : List Nat) (f : Nat → Bool) (L p : Nat) : Except Nat (Nat × Nat) := nxG ns f L p 16 0
def nxOf (p j : Nat) (y e : Int) : Except Nat (Nat × Nat) := if e = 0 then .ok (y.toNat, p + j + 1) else .error e.toNat
theorem qnd (ns : List Nat) (h15 : qbh ns) (f : Nat → Bool) (L p : Nat) (hp : p ≤ L) : ∀ k j, 16 ≤ k + j → qmf ns (fun i => f (p + i)) j → j ≤ L - p → ∃ j' y e, qfo ns (fun i => f (p + i)) (L - p) j' y e ∧ nxG ns f L p k j = nxOf p j' y e
 | 0, j, hk, hU, hj => by have := hU.lt h15; omega
 | k + 1, j, hk, hU, hj => by
  rw [nxG]
  by_cases hL : L ≤ p + j
  · rw [if_pos hL]
    exact ⟨j, 0, 6, ⟨⟨hU, hj⟩, .inl ⟨by omega, rfl, rfl⟩⟩, rfl⟩
  · rw [if_neg hL]
    cases hfd : (List.range ns.length).find? (fun t => decide (ln ns t = j + 1) && decide (qau ns t = pfB (fun i => f (p + i)) (j + 1))) with
    | some t =>
     have h1 := List.find?_some hfd
     have h2 := List.mem_range.1 (List.mem_of_find?_eq_some hfd)
     simp only [Bool.and_eq_true, decide_eq_true_eq] at h1
     exact ⟨j, (t : Int), 0, ⟨⟨hU, hj⟩, .inr ⟨by omega, .inl ⟨t, ⟨h2, by omega⟩, h1.2, rfl, rfl⟩⟩⟩, rfl⟩
    | none =>
     simp only
     have hno := List.find?_eq_none.1 hfd
     by_cases hany : (List.range ns.length).any (fun t => decide (j + 1 < ln ns t) && decide ((qau ns t).take (j + 1) = pfB (fun i => f (p + i)) (j + 1))) = true
     · rw [if_pos hany]
       obtain ⟨t, ht, hc⟩ := List.any_eq_true.1 hany
       simp only [Bool.and_eq_true, decide_eq_true_eq] at hc
       refine qnd ns h15 f L p hp k (j + 1) (by omega) (.inr ⟨t, ⟨List.mem_range.1 ht, by omega⟩, ?_, ?_⟩) (by omega)
       · rw [← hc.2]; exact List.take_prefix _ _
       · intro e
         have := congrArg List.length e
         rw [qbo, qai] at this; omega
     · rw [if_neg hany]
       refine ⟨j, 0, 3, ⟨⟨hU, hj⟩, .inr ⟨by omega, .inr ⟨fun t ht hpf => ?_, rfl, rfl⟩⟩⟩, rfl⟩
       have hl := hpf.length_le
       rw [qbo, qai] at hl
       have hm : t ∈ List.range ns.length := List.mem_range.2 ht.1
       by_cases e : ln ns t = j + 1
       · refine hno t hm ?_
         simp only [Bool.and_eq_true, decide_eq_true_eq]
         exact ⟨e, (hpf.eq_of_length (by rw [qbo, qai, e])).symm⟩
       · refine hany (List.any_eq_true.2 ⟨t, hm, ?_⟩)
         simp only [Bool.and_eq_true, decide_eq_true_eq]
         refine ⟨by omega, ?_⟩
         have := List.prefix_iff_eq_take.1 hpf
         rw [qbo] at this
         exact this.symm
theorem qln (ns : List Nat) (h15 : qbh ns) (f : Nat → Bool) (L p : Nat) (hp : p ≤ L) : ∃ j y e, qfo ns (fun i => f (p + i)) (L - p) j y e ∧ nxF ns f L p = nxOf p j y e :=
 qnd ns h15 f L p hp 16 0 (by omega) (.inl rfl) (by omega)
theorem qv2 (ns : List Nat) (h15 : qbh ns) (hf : fitB ns = true) (f : Nat → Bool) (left j1 j2 : Nat) (y1 e1 : Int) (h1 : qfo ns f left j1 y1 e1) (hU : qmf ns f j2) (h2 : j2 ≤ left) (hlt : j1 < j2) : False := by
 obtain ⟨_, h1⟩ := h1
 rcases hU with rfl | ⟨t, ht, hp, hne⟩
 · omega
 · have hpp : pfB f (j1 + 1) <+: qau ns t := (qkh f (j1 + 1) j2 (by omega)).trans hp
   rcases h1 with ⟨h, _⟩ | ⟨_, ⟨u, hu, hc, _⟩ | ⟨h, _⟩⟩
   · omega
   · rw [← hc] at hpp
     have := qfa ns h15 hf u t hu.1 ht.1 hu.2 ht.2 hpp
     subst this
     have hl := hp.length_le
     have hl2 := congrArg List.length hc
     rw [qbo, qai] at hl
     rw [qbo, qai] at hl2
     exact hne (hp.eq_of_length (by rw [qbo, qai]; omega))
   · exact h t ht hpp
theorem qzg (ns : List Nat) (h15 : qbh ns) (hf : fitB ns = true) (f : Nat → Bool) (left j1 j2 : Nat) (y1 e1 y2 e2 : Int) (h1 : qfo ns f left j1 y1 e1) (h2 : qfo ns f left j2 y2 e2) : j1 = j2 ∧ y1 = y2 ∧ e1 = e2 := by
 have hj : j1 = j2 := by
  rcases Nat.lt_trichotomy j1 j2 with h | h | h
  · exact (qv2 ns h15 hf f left j1 j2 y1 e1 h1 h2.1.1 h2.1.2 h).elim
  · exact h
  · exact (qv2 ns h15 hf f left j2 j1 y2 e2 h2 h1.1.1 h1.1.2 h).elim
 subst hj
 refine ⟨rfl, ?_⟩
 obtain ⟨_, h1⟩ := h1
 obtain ⟨_, h2⟩ := h2
 rcases h1 with ⟨a, b, c⟩ | ⟨a, ⟨u, hu, hc, b, c⟩ | ⟨h, b, c⟩⟩
 · rcases h2 with ⟨a', b', c'⟩ | ⟨a', _⟩
   · exact ⟨b.trans b'.symm, c.trans c'.symm⟩
   · omega
 · rcases h2 with ⟨a', _⟩ | ⟨a', ⟨v, hv, hd, b', c'⟩ | ⟨h', _⟩⟩
   · omega
   · have := qfa ns h15 hf u v hu.1 hv.1 hu.2 hv.2 (by rw [hc, hd]; exact List.prefix_refl _)
     subst this
     exact ⟨b.trans b'.symm, c.trans c'.symm⟩
   · exact (h' u hu (by rw [hc]; exact List.prefix_refl _)).elim
 · rcases h2 with ⟨a', _⟩ | ⟨a', ⟨v, hv, hd, b', c'⟩ | ⟨h', b', c'⟩⟩
   · omega
   · exact (h v hv (by rw [hd]; exact List.prefix_refl _)).elim
   · exact ⟨b.trans b'.symm, c.trans c'.symm⟩
theorem q2p (ns : List Nat) (h15 : qbh ns) (hf : fitB ns = true) (f : Nat → Bool) (L p j : Nat) (y e : Int) (hp : p ≤ L) (h : qfo ns (fun i => f (p + i)) (L - p) j y e) : nxF ns f L p = nxOf p j y e := by
 obtain ⟨j', y', e', h1, h2⟩ := qln ns h15 f L p hp
 obtain ⟨rfl, rfl, rfl⟩ := qzg ns h15 hf _ _ _ _ _ _ _ _ h h1
 exact h2
theorem qe2 {ns : List Nat} {f : Nat → Bool} {left j : Nat} {y e : Int} (h : qfo ns f left j y e) : (e = 0 ∧ j < left ∧ ∃ t : Nat, y = (t : Int) ∧ t < ns.length) ∨ (y = 0 ∧ (e = 3 ∨ e = 6)) := by
 obtain ⟨_, h⟩ := h
 rcases h with ⟨_, h1, h2⟩ | ⟨hj, ⟨t, ht, _, h1, h2⟩ | ⟨_, h1, h2⟩⟩
 · exact .inr ⟨h1, .inr h2⟩
 · exact .inl ⟨h2, hj, t, h1, ht.1⟩
 · exact .inr ⟨h1, .inl h2⟩
theorem qdj {ns : List Nat} (h15 : qbh ns) {f : Nat → Bool} {L p t q : Nat} (hp : p ≤ L) (h : nxF ns f L p = .ok (t, q)) : t < ns.length ∧ p < q ∧ q ≤ L := by
 obtain ⟨j, y, e, h1, h2⟩ := qln ns h15 f L p hp
 rw [h2] at h
 unfold nxOf at h
 rcases qe2 h1 with ⟨rfl, hj, u, rfl, hu⟩ | ⟨_, rfl | rfl⟩
 · rw [if_pos rfl] at h
   simp only [Except.ok.injEq, Prod.mk.injEq, Int.toNat_natCast] at h
   omega
 · rw [if_neg (by decide)] at h; cases h
 · rw [if_neg (by decide)] at h; cases h
def qd9 (i first row : Nat) : Nat × Nat := if i < 2 * row then (first + i, 0) else (first + (row + i % row) * 2 ^ (i / row - 1), i / row - 1)
def szF (i : Nat) (far : Bool) : Nat × Nat := if far then (if i < 30 then qd9 i 1 2 else (0, 0)) else if 29 ≤ i then (0, 0) else if i = 28 then (258, 0) else qd9 i 3 4
theorem qd8 (far : Bool) : ∀ i, (szF i far).1 ≤ 24577 ∧ (szF i far).2 ≤ 13 := by
 intro i
 by_cases h : i < 30
 · have key : ∀ (far : Bool) (i : Fin 30), (szF i.val far).1 ≤ 24577 ∧ (szF i.val far).2 ≤ 13 := by decide +kernel
   exact key far ⟨i, h⟩
 · unfold szF
   cases far
   · rw [if_neg (by decide), if_pos (by omega)]; exact ⟨by decide, by decide⟩
   · rw [if_pos rfl, if_neg h]; exact ⟨by decide, by decide⟩
def szE (f : Nat → Bool) (L p i : Nat) (far : Bool) : Except Nat (Nat × Nat) := if (szF i far).1 = 0 then .error 3 else match tkF f L p (szF i far).2 with
 | .error e => .error e
 | .ok m => .ok ((szF i far).1 + m, p + (szF i far).2)
def tkE (ds : List Nat) (f : Nat → Bool) (L most p out sym : Nat) : Except Nat (Tok × Nat × Nat) :=
 if sym < 256 then (if most < out + 1 then .error 2 else .ok (⟨sym, 0, 0⟩, p, out + 1)) else
 match szE f L p (sym - 257) false with
 | .error e => .error e
 | .ok (size, p1) => match nxF ds f L p1 with
  | .error e => .error e
  | .ok (d, p2) => match szE f L p2 d true with
   | .error e => .error e
   | .ok (dist, p3) => if out < dist then .error 3 else if most < out + size then .error 2 else .ok (⟨0, size, dist⟩, p3, out + size)
def tksF (ls ds : List Nat) (f : Nat → Bool) (L most : Nat) : Nat → Nat → Nat → List Tok → Except Nat (List Tok × Nat × Nat)
 | 0, _, _, _ => .error 6
 | k + 1, p, out, acc => match nxF ls f L p with
  | .error e => .error e
  | .ok (sym, p1) => if sym = 256 then .ok (acc, p1, out) else match tkE ds f L most p1 out sym with
   | .error e => .error e
   | .ok (t, p2, out2) => tksF ls ds f L most k p2 out2 (acc ++ [t])
def bytF (f : Nat → Bool) (q n : Nat) : List Nat := (List.range n).map fun k => qal (fun i => f (q + 8 * k + i)) 8
def stF (f : Nat → Bool) (L most p out : Nat) : Except Nat (List Nat × Nat × Nat) :=
 match tkF f L ((p + 7) / 8 * 8) 16 with
 | .error e => .error e
 | .ok n => match tkF f L ((p + 7) / 8 * 8 + 16) 16 with
  | .error e => .error e
  | .ok m => if n + m ≠ 65535 then .error 3 else if L < (p + 7) / 8 * 8 + 32 + 8 * n then .error 6 else if most < out + n then .error 2 else .ok (bytF f ((p + 7) / 8 * 8 + 32) n, (p + 7) / 8 * 8 + 32 + 8 * n, out + n)
def ordL : List Nat := [16, 17, 18, 0, 8, 7, 9, 6, 10, 5, 11, 4, 12, 3, 13, 2, 14, 1, 15]
def fstL (f : Nat → Bool) (p k : Nat) : List Nat := (List.range 19).map fun t => if ordL.idxOf t < k then qal (fun i => f (p + 3 * ordL.idxOf t + i)) 3 else 0
def tmF (sym : Nat) : Nat × Nat := if sym = 16 then (3, 2) else if sym = 17 then (3, 3) else if sym = 18 then (11, 7) else (1, 0)
def qec (row : List Nat) (sym : Nat) : Nat := if sym = 16 then row.getD (row.length - 1) 0 else if sym = 17 ∨ sym = 18 then 0 else sym
def rowF (ns : List Nat) (f : Nat → Bool) (L n : Nat) : Nat → Nat → List Nat → Except Nat (List Nat × Nat)
 | 0, _, _ => .error 6
 | k + 1, p, row => if n ≤ row.length then (if n < row.length then .error 3 else .ok (row, p)) else
  match nxF ns f L p with
  | .error e => .error e
  | .ok (sym, p1) => if sym = 16 ∧ row.length = 0 then .error 3 else match tkF f L p1 (tmF sym).2 with
   | .error e => .error e
   | .ok m => rowF ns f L n k (p1 + (tmF sym).2) (row ++ List.replicate ((tmF sym).1 + m) (qec row sym))
def fitE (ns : List Nat) : Bool := decide (ns.length ≤ 320) && (ns.all fun n => decide (n ≤ 15)) && fitB ns
def dynF (f : Nat → Bool) (L p : Nat) : Except Nat (List Nat × List Nat × Nat) :=
 match tkF f L p 5 with
 | .error e => .error e
 | .ok a => match tkF f L (p + 5) 5 with
  | .error e => .error e
  | .ok b => match tkF f L (p + 10) 4 with
   | .error e => .error e
   | .ok c => if 29 < a ∨ 29 < b then .error 3 else if L < p + 14 + 3 * (c + 4) then .error 6 else
    if fitE (fstL f (p + 14) (c + 4)) = false then .error 3 else
    match rowF (fstL f (p + 14) (c + 4)) f L (a + b + 258) (L + 1) (p + 14 + 3 * (c + 4)) [] with
    | .error e => .error e
    | .ok (row, p1) => if row.getD 256 0 = 0 then .error 3 else if fitE (row.take (a + 257)) = false ∨ fitE (row.drop (a + 257)) = false then .error 3 else .ok (row.take (a + 257), row.drop (a + 257), p1)
def fixL : List Nat := List.replicate 144 8 ++ List.replicate 112 9 ++ List.replicate 24 7 ++ List.replicate 8 8
def fixD : List Nat := List.replicate 32 5
structure Blk where
 kind : Nat
 bytes : List Nat
 toks : List Tok
def blkF (f : Nat → Bool) (L most p out : Nat) : Except Nat (Blk × Nat × Nat × Nat) :=
 match tkF f L p 1 with
 | .error e => .error e
 | .ok last => match tkF f L (p + 1) 2 with
  | .error e => .error e
  | .ok kind => if kind = 0 then (match stF f L most (p + 3) out with
      | .error e => .error e
      | .ok (b, p1, o1) => .ok (⟨0, b, []⟩, last, p1, o1))
   else if kind = 1 then (match tksF fixL fixD f L most (L + 1) (p + 3) out [] with
    | .error e => .error e
    | .ok (t, p1, o1) => .ok (⟨1, [], t⟩, last, p1, o1))
   else if kind = 2 then (match dynF f L (p + 3) with
    | .error e => .error e
    | .ok (ls, ds, p1) => match tksF ls ds f L most (L + 1) p1 out [] with
     | .error e => .error e
     | .ok (t, p2, o2) => .ok (⟨2, [], t⟩, last, p2, o2))
   else .error 3
def qbt (f : Nat → Bool) (L most : Nat) : Nat → Nat → Nat → List Blk → Except Nat (List Blk × Nat)
 | 0, _, _, _ => .error 6
 | k + 1, p, out, acc => match blkF f L most p out with
  | .error e => .error e
  | .ok (b, last, p1, o1) => if last = 1 then .ok (acc ++ [b], p1) else qbt f L most k p1 o1 (acc ++ [b])
def qb0 (f : Nat → Bool) (p : Nat) (l : List Bool) : Prop := ∀ i, i < l.length → f (p + i) = l.getD i false
theorem qb0.left {f : Nat → Bool} {p : Nat} {a b : List Bool} (h : qb0 f p (a ++ b)) : qb0 f p a := fun i hi => by
 rw [h i (by rw [List.length_append]; omega), List.getD_eq_getElem?_getD, List.getD_eq_getElem?_getD, List.getElem?_append_left hi]
theorem qb0.right {f : Nat → Bool} {p : Nat} {a b : List Bool} (h : qb0 f p (a ++ b)) : qb0 f (p + a.length) b := fun i hi => by
 rw [Nat.add_assoc, h (a.length + i) (by rw [List.length_append]; omega), List.getD_eq_getElem?_getD, List.getD_eq_getElem?_getD, List.getElem?_append_right (by omega), Nat.add_sub_cancel_left]
theorem qob {f : Nat → Bool} {p n : Nat} {l : List Bool} (h : qb0 f p l) (hn : n ≤ l.length) : pfB (fun i => f (p + i)) n = l.take n := by
 apply List.ext_getElem?
 intro i
 unfold pfB
 rw [List.getElem?_take]
 by_cases hi : i < n
 · rw [if_pos hi, List.getElem?_map, List.getElem?_range hi]
   simp only [Option.map_some]
   rw [h i (by omega), List.getD_eq_getElem?_getD, List.getElem?_eq_getElem (by omega)]; rfl
 · rw [if_neg hi, List.getElem?_eq_none (by simp; omega)]
theorem qhq {ns : List Nat} (h15 : qbh ns) (hf : fitB ns = true) {f : Nat → Bool} {L p t : Nat} (ht : t < ns.length) (h0 : 0 < ln ns t) (hb : qb0 f p (qau ns t)) (hl : p + ln ns t ≤ L) : nxF ns f L p = .ok (t, p + ln ns t) := by
 have hlen := qai ns t
 have hU : qmf ns (fun i => f (p + i)) (ln ns t - 1) := .inr ⟨t, ⟨ht, h0⟩, by rw [qob hb (by omega)]; exact List.take_prefix _ _, fun e => by
  have := congrArg List.length e
  rw [qbo, qai] at this; omega⟩
 have hR : qfo ns (fun i => f (p + i)) (L - p) (ln ns t - 1) (t : Int) 0 := by
  refine ⟨⟨hU, by omega⟩, .inr ⟨by omega, .inl ⟨t, ⟨ht, h0⟩, ?_, rfl, rfl⟩⟩⟩
  rw [show ln ns t - 1 + 1 = ln ns t by omega, qob hb (by omega), ← hlen, List.take_length]
 rw [q2p ns h15 hf f L p _ _ _ (by omega) hR]
 unfold nxOf
 rw [if_pos rfl, Int.toNat_natCast, show p + (ln ns t - 1) + 1 = p + ln ns t by omega]
theorem qee {f : Nat → Bool} {L p x n : Nat} (hx : x < 2 ^ n) (hb : qb0 f p (lowB x n)) (hl : p + n ≤ L) : tkF f L p n = .ok x := by
 unfold tkF
 rw [if_neg (by omega)]
 have : qal (fun i => f (p + i)) n = qal (fun i => x.testBit i) n := qaz n fun i hi => by
  rw [hb i (by rw [qat]; exact hi), qgt x n i hi]
 rw [this, qfv, Nat.mod_eq_of_lt hx]
def qi1 (x : Nat) (far : Bool) : Nat → Nat
 | 0 => 0
 | K + 1 => if (szF K far).1 ≤ x then K else qi1 x far K
def noF (x : Nat) (far : Bool) : Nat := qi1 x far (if far then 30 else 29)
theorem qlu (x : Nat) (far : Bool) : ∀ K, 0 < K → qi1 x far K < K
 | 0, h => by omega
 | K + 1, _ => by
  unfold qi1
  split
  · omega
  · by_cases h : 0 < K
    · have := qlu x far K h; omega
    · obtain rfl : K = 0 := by omega
      simp [qi1]
theorem qlv (x : Nat) (far : Bool) (h : (szF 0 far).1 ≤ x) : ∀ K, (szF (qi1 x far K) far).1 ≤ x
 | 0 => h
 | K + 1 => by
  unfold qi1
  split
  · assumption
  · exact qlv x far h K
theorem qgu (x : Nat) (far : Bool) : ∀ K j, qi1 x far K < j → j < K → x < (szF j far).1
 | 0, j, _, h => by omega
 | K + 1, j, h1, h2 => by
  unfold qi1 at h1
  split at h1
  · omega
  · rename_i hn
    by_cases e : j = K
    · subst e; omega
    · exact qgu x far K j h1 (by omega)
theorem qum : ∀ i : Fin 27, (szF (i.val + 1) false).1 = (szF i.val false).1 + 2 ^ (szF i.val false).2 := by decide +kernel
theorem qun : ∀ i : Fin 29, (szF (i.val + 1) true).1 = (szF i.val true).1 + 2 ^ (szF i.val true).2 := by decide +kernel
theorem qhr {x : Nat} (h1 : 3 ≤ x) (h2 : x ≤ 258) : noF x false < 29 ∧ (szF (noF x false) false).1 ≤ x ∧ x - (szF (noF x false) false).1 < 2 ^ (szF (noF x false) false).2 ∧ 0 < (szF (noF x false) false).1 := by
 have hlt : noF x false < 29 := qlu x false 29 (by decide)
 have hle : (szF (noF x false) false).1 ≤ x := qlv x false (by show 3 ≤ x; exact h1) 29
 have hnx : ∀ j, noF x false < j → j < 29 → x < (szF j false).1 := qgu x false 29
 generalize noF x false = i at *
 have hpos : ∀ i : Fin 29, 0 < (szF i.val false).1 := by decide +kernel
 refine ⟨hlt, hle, ?_, hpos ⟨i, hlt⟩⟩
 by_cases hi : i < 27
 · have := qum ⟨i, hi⟩
   have h3 := hnx (i + 1) (by omega) (by omega)
   simp only at this
   omega
 · rcases (show i = 27 ∨ i = 28 by omega) with rfl | rfl
   · have : szF 27 false = (227, 5) := by decide +kernel
     rw [this]; simp only; omega
   · have : szF 28 false = (258, 0) := by decide +kernel
     rw [this]; simp only; omega
theorem qpb {x : Nat} (h1 : 1 ≤ x) (h2 : x ≤ 32768) : noF x true < 30 ∧ (szF (noF x true) true).1 ≤ x ∧ x - (szF (noF x true) true).1 < 2 ^ (szF (noF x true) true).2 ∧ 0 < (szF (noF x true) true).1 := by
 have hlt : noF x true < 30 := qlu x true 30 (by decide)
 have hle : (szF (noF x true) true).1 ≤ x := qlv x true (by show 1 ≤ x; exact h1) 30
 have hnx : ∀ j, noF x true < j → j < 30 → x < (szF j true).1 := qgu x true 30
 generalize noF x true = i at *
 have hpos : ∀ i : Fin 30, 0 < (szF i.val true).1 := by decide +kernel
 refine ⟨hlt, hle, ?_, hpos ⟨i, hlt⟩⟩
 by_cases hi : i < 29
 · have := qun ⟨i, hi⟩
   have h3 := hnx (i + 1) (by omega) (by omega)
   simp only at this
   omega
 · obtain rfl : i = 29 := by omega
   have : szF 29 true = (24577, 13) := by decide +kernel
   rw [this]; simp only; omega
def szB (x : Nat) (far : Bool) : List Bool := lowB (x - (szF (noF x far) far).1) (szF (noF x far) far).2
theorem qqh {f : Nat → Bool} {L p x : Nat} {far : Bool} (h1 : (szF (noF x far) far).1 ≤ x) (h2 : x - (szF (noF x far) far).1 < 2 ^ (szF (noF x far) far).2) (h3 : 0 < (szF (noF x far) far).1) (hb : qb0 f p (szB x far)) (hl : p + (szB x far).length ≤ L) :
    szE f L p (noF x far) far = .ok (x, p + (szB x far).length) := by
 unfold szB at hb hl ⊢
 rw [qat] at hl ⊢
 unfold szE
 rw [if_neg (by omega), qee h2 hb hl]
 simp only
 rw [show (szF (noF x far) far).1 + (x - (szF (noF x far) far).1) = x by omega]
def symT (t : Tok) : Nat := if t.l = 0 then t.b else 257 + noF t.l.toNat false
def farT (t : Tok) : Nat := noF t.d.toNat true
def encT (ls ds : List Nat) (t : Tok) : List Bool := if t.l = 0 then qau ls (symT t) else qau ls (symT t) ++ (szB t.l.toNat false ++ (qau ds (farT t) ++ szB t.d.toNat true))
def encs (ls ds : List Nat) (ts : List Tok) : List Bool := ts.flatMap (encT ls ds)
theorem qgf (ls ds : List Nat) (t : Tok) (ts : List Tok) : encs ls ds (t :: ts) = encT ls ds t ++ encs ls ds ts := rfl
def qxu (ls ds : List Nat) (t : Tok) : Prop := t.b < 256 ∧ symT t < ls.length ∧ 0 < ln ls (symT t) ∧ (¬ t.l = 0 → farT t < ds.length ∧ 0 < ln ds (farT t))
theorem q1m {ls ds : List Nat} (hld : qbh ds) (hfd : fitB ds = true) {f : Nat → Bool} {L most p out : Nat} {t : Tok} {O : List Nat} (hO : O.length = out) (he : errT O most t = 0) (hc : qxu ls ds t)
    (hb : qb0 f p (encT ls ds t)) (hl : p + (encT ls ds t).length ≤ L) : tkE ds f L most (p + ln ls (symT t)) out (symT t) = .ok (t, p + (encT ls ds t).length, (sayT O t).length) := by
 obtain ⟨hk, hd, hw⟩ := qjc he
 have hsl := qhl (out := O) hk
 obtain ⟨tb, tl, td⟩ := t
 by_cases h0 : tl = 0
 · subst h0
   have hd0 : td = 0 := by rw [qe8 rfl] at hk; simpa using hk
   subst hd0
   have hsym : symT ⟨tb, 0, 0⟩ = tb := rfl
   have henc : encT ls ds ⟨tb, 0, 0⟩ = qau ls tb := rfl
   have hw1 : wid ⟨tb, 0, 0⟩ = 1 := rfl
   rw [hw1] at hw hsl
   rw [hsym, henc, qai]
   unfold tkE
   have hb256 : tb < 256 := hc.1
   rw [if_pos hb256, if_neg (by omega), show (sayT O ⟨tb, 0, 0⟩).length = out + 1 by omega]
 · obtain ⟨hb0, h3, h258, h1, h32⟩ := qci h0 hk
   simp only at hb0 h3 h258 h1 h32 hd
   subst hb0
   obtain ⟨l, rfl⟩ : ∃ n : Nat, tl = (n : Int) := ⟨tl.toNat, by omega⟩
   obtain ⟨d, rfl⟩ : ∃ n : Nat, td = (n : Int) := ⟨td.toNat, by omega⟩
   have hw1 : wid ⟨0, l, d⟩ = (l : Int) := by unfold wid; rw [if_pos (by simp only; omega)]
   rw [hw1] at hw hsl
   have hsym : symT ⟨0, l, d⟩ = 257 + noF l false := by unfold symT; rw [if_neg h0]; rfl
   have henc : encT ls ds ⟨0, l, d⟩ = qau ls (257 + noF l false) ++ (szB l false ++ (qau ds (noF d true) ++ szB d true)) := by unfold encT; rw [if_neg h0, hsym]; rfl
   obtain ⟨n1, n2, n3, n4⟩ := qhr (x := l) (by omega) (by omega)
   obtain ⟨m1, m2, m3, m4⟩ := qpb (x := d) (by omega) (by omega)
   obtain ⟨hf1, hf2⟩ := hc.2.2.2 h0
   have hfar : farT ⟨0, l, d⟩ = noF d true := rfl
   rw [hfar] at hf1 hf2
   rw [henc] at hb hl ⊢
   rw [hsym]
   have a1 := hb.right
   have a2 := a1.right
   have a3 := a2.right
   rw [qai] at a1 a2 a3
   rw [qai] at a3
   simp only [List.length_append, qai] at hl ⊢
   unfold tkE
   rw [if_neg (by omega), show 257 + noF l false - 257 = noF l false by omega, qqh n2 n3 n4 a1.left (by omega)]
   simp only
   rw [qhq hld hfd hf1 hf2 a2.left (by omega)]
   simp only
   rw [qqh m2 m3 m4 a3 (by omega)]
   simp only
   rw [if_neg (by omega), if_neg (by omega)]
   simp only [Except.ok.injEq, Prod.mk.injEq, true_and]
   exact ⟨by omega, by omega⟩
theorem qqd {ls ds : List Nat} (hls : qbh ls) (hfl : fitB ls = true) (hld : qbh ds) (hfd : fitB ds = true) (h256 : 256 < ls.length) (hp256 : 0 < ln ls 256) {f : Nat → Bool} {L most : Nat} :
    ∀ (ts : List Tok) (k p out : Nat) (acc : List Tok) (O O' : List Nat), O.length = out → expF most ts O = (O', 0) → (∀ t ∈ ts, qxu ls ds t) → qb0 f p (encs ls ds ts ++ qau ls 256) → p + (encs ls ds ts).length + ln ls 256 ≤ L → ts.length < k →
     tksF ls ds f L most k p out acc = .ok (acc ++ ts, p + (encs ls ds ts).length + ln ls 256, O'.length)
 | [], 0, p, out, acc, O, O', hO, he, hc, hb, hl, hk => by simp at hk
 | [], k + 1, p, out, acc, O, O', hO, he, hc, hb, hl, hk => by
  have e : O' = O := by simpa [expF] using he.symm
  subst e
  have hb' : qb0 f p (qau ls 256) := hb
  have hn : (encs ls ds []).length = 0 := rfl
  rw [hn] at hl ⊢
  rw [tksF, qhq hls hfl h256 hp256 hb' (by omega)]
  simp only [List.append_nil]
  rw [if_pos trivial, hO, Nat.add_zero]
 | t :: ts, 0, p, out, acc, O, O', hO, he, hc, hb, hl, hk => by simp at hk
 | t :: ts, k + 1, p, out, acc, O, O', hO, he, hc, hb, hl, hk => by
  have hct := hc t (List.mem_cons_self ..)
  rw [qgf, List.append_assoc] at hb
  rw [qgf, List.length_append] at hl ⊢
  have he0 : errT O most t = 0 := by
   cases h : errT O (most : Int) t with
   | zero => rfl
   | succ n => rw [expF, if_neg (by omega)] at he; simp at he; omega
  rw [expF, if_pos he0] at he
  have hbt := hb.left
  have hcode : qb0 f p (qau ls (symT t)) := by
   unfold encT at hbt
   split at hbt
   · exact hbt
   · exact hbt.left
  have hle : ln ls (symT t) ≤ (encT ls ds t).length := by
   unfold encT
   split
   · rw [qai]; exact Nat.le_refl _
   · rw [List.length_append, qai]; omega
  have hne : ¬ symT t = 256 := by
   unfold symT
   have := hct.1
   split <;> omega
  rw [tksF, qhq hls hfl hct.2.1 hct.2.2.1 hcode (by omega)]
  simp only
  rw [if_neg hne, q1m hld hfd hO he0 hct hbt (by omega)]
  simp only
  rw [qqd hls hfl hld hfd h256 hp256 ts k _ _ (acc ++ [t]) (sayT O t) O' rfl he (fun u hu => hc u (List.mem_cons_of_mem _ hu)) hb.right (by omega) (by simpa using hk)]
  rw [List.append_assoc, Nat.add_assoc p]
  rfl
def zL (rs : List Nat) : List Int := rs.map fun n : Nat => (n : Int)
theorem qa9 (rs : List Nat) : (zL rs).length = rs.length := by simp [zL]
theorem qgi (rs : List Nat) (i : Nat) : (zL rs).getD i 0 = (rs.getD i 0 : Int) := by
 unfold zL
 rw [List.getD_eq_getElem?_getD, List.getElem?_map, List.getD_eq_getElem?_getD]
 cases rs[i]? <;> rfl
theorem qww (z : Int) : ∀ (zs : List Int) (j : Nat), j < eqN z zs → zs.getD j 0 = z
 | [], j, h => by simp [eqN] at h
 | y :: ys, j, h => by
  unfold eqN at h
  split at h
  · rename_i q
    cases j with
    | zero => simpa using q
    | succ j => have := qww z ys j (by omega); simpa using this
  · omega
theorem q28 (zs : List Int) (i j : Nat) (h : j < eqs zs i) : zs.getD (i + j) 0 = zs.getD i 0 := by
 have := qww (zs.getD i 0) (zs.drop i) j h
 rw [qem] at this; exact this
theorem q2l (zs : List Int) (i : Nat) (h : i < zs.length) : qdn zs i ≤ eqs zs i := by
 have := qpl h
 unfold qdn
 split
 · omega
 · split
   · omega
   · split <;> omega
theorem qqe (rs : List Nat) (i : Nat) : ∀ c, i + c ≤ rs.length → (∀ j, j < c → rs.getD (i + j) 0 = rs.getD i 0) → rs.take (i + c) = rs.take i ++ List.replicate c (rs.getD i 0)
 | 0, _, _ => by simp
 | c + 1, h, ha => by
  have ih := qqe rs i c (by omega) (fun j hj => ha j (by omega))
  have hc := ha c (by omega)
  rw [← Nat.add_assoc, List.take_add_one, ih, List.replicate_succ', ← List.append_assoc, List.getElem?_eq_getElem (by omega)]
  rw [List.getD_eq_getElem?_getD, List.getElem?_eq_getElem (show i + c < rs.length by omega)] at hc
  simp only [Option.getD_some] at hc
  rw [hc]; rfl
theorem qqo (rs : List Nat) (h15 : ∀ x ∈ rs, x ≤ 15) (i : Nat) (hi : i < rs.length) :
    ∃ sym more, (qfx (zL rs) i).sym = (sym : Nat) ∧ (qfx (zL rs) i).more = (more : Nat) ∧ sym < 19 ∧ more < 2 ^ (tmF sym).2 ∧ (tmF sym).1 + more = qdn (zL rs) i ∧ qec (rs.take i) sym = rs.getD i 0 ∧ ¬ (sym = 16 ∧ (rs.take i).length = 0) := by
 have hx : rs.getD i 0 ≤ 15 := h15 _ (by rw [List.getD_eq_getElem?_getD, List.getElem?_eq_getElem hi]; simp)
 have hp := qpl (zs := zL rs) (i := i) (by rw [qa9]; exact hi)
 unfold qfx qdn
 rw [qgi]
 by_cases h1 : (rs.getD i 0 : Int) = 0 ∧ 11 ≤ eqs (zL rs) i
 · rw [if_pos h1, if_pos h1]
   refine ⟨18, min (eqs (zL rs) i) 138 - 11, rfl, by simp only; omega, by decide, by show _ < 2 ^ 7; omega, by show 11 + _ = _; omega, by show 0 = _; omega, by simp⟩
 · rw [if_neg h1, if_neg h1]
   by_cases h2 : (rs.getD i 0 : Int) = 0 ∧ 3 ≤ eqs (zL rs) i
   · rw [if_pos h2, if_pos h2]
     refine ⟨17, min (eqs (zL rs) i) 10 - 3, rfl, by simp only; omega, by decide, by show _ < 2 ^ 3; omega, by show 3 + _ = _; omega, by show 0 = _; omega, by simp⟩
   · rw [if_neg h2, if_neg h2, qgi]
     by_cases h3 : 0 < i ∧ (rs.getD (i - 1) 0 : Int) = (rs.getD i 0 : Int) ∧ 3 ≤ eqs (zL rs) i
     · rw [if_pos h3, if_pos h3]
       refine ⟨16, min (eqs (zL rs) i) 6 - 3, rfl, by simp only; omega, by decide, by show _ < 2 ^ 2; omega, by show 3 + _ = _; omega, ?_, by rw [List.length_take]; omega⟩
       show (rs.take i).getD ((rs.take i).length - 1) 0 = _
       rw [List.length_take, show min i rs.length = i by omega, List.getD_eq_getElem?_getD, List.getElem?_take, if_pos (by omega), ← List.getD_eq_getElem?_getD]
       omega
     · rw [if_neg h3, if_neg h3]
       have ht : tmF (rs.getD i 0) = (1, 0) := by unfold tmF; rw [if_neg (by omega), if_neg (by omega), if_neg (by omega)]
       refine ⟨rs.getD i 0, 0, rfl, rfl, by omega, by rw [ht]; decide, by rw [ht], ?_, by omega⟩
       unfold qec
       rw [if_neg (by omega), if_neg (by omega)]
def encS (fs : List Nat) (s : Stp) : List Bool := qau fs s.sym.toNat ++ lowB s.more.toNat (tmF s.sym.toNat).2
def qb6 (zs : List Int) : Nat → Nat → List Stp
 | 0, _ => []
 | k + 1, i => if i < zs.length then qfx zs i :: qb6 zs k (i + qdn zs i) else []
def encI (fs : List Nat) (zs : List Int) (k i : Nat) : List Bool := (qb6 zs k i).flatMap (encS fs)
theorem qqz {fs : List Nat} (h15 : qbh fs) (hf : fitB fs = true) (h19 : fs.length = 19) {f : Nat → Bool} {L : Nat} (rs : List Nat) (hr : ∀ x ∈ rs, x ≤ 15) :
    ∀ (k i p F : Nat), i ≤ rs.length → rs.length ≤ i + k → (∀ s ∈ qb6 (zL rs) k i, 0 < ln fs s.sym.toNat) → qb0 f p (encI fs (zL rs) k i) → p + (encI fs (zL rs) k i).length ≤ L → (qb6 (zL rs) k i).length < F →
     rowF fs f L rs.length F p (rs.take i) = .ok (rs, p + (encI fs (zL rs) k i).length)
 | 0, i, p, 0, hi, hk, hc, hb, hl, hF => by omega
 | 0, i, p, F + 1, hi, hk, hc, hb, hl, hF => by
  have e : i = rs.length := by omega
  subst e
  rw [rowF, List.take_length, if_pos (Nat.le_refl _), if_neg (Nat.lt_irrefl _)]
  simp [encI, qb6]
 | k + 1, i, p, 0, hi, hk, hc, hb, hl, hF => by omega
 | k + 1, i, p, F + 1, hi, hk, hc, hb, hl, hF => by
  by_cases hlt : i < rs.length
  · obtain ⟨sym, more, e1, e2, h1, h2, h3, h4, h5⟩ := qqo rs hr i hlt
    have hpl := qlk (zs := zL rs) (i := i) (by rw [qa9]; exact hlt)
    have hpe := q2l (zL rs) i (by rw [qa9]; exact hlt)
    rw [qa9] at hpl
    have hst : qb6 (zL rs) (k + 1) i = qfx (zL rs) i :: qb6 (zL rs) k (i + qdn (zL rs) i) := by rw [qb6, if_pos (by rw [qa9]; exact hlt)]
    have henc : encI fs (zL rs) (k + 1) i = qau fs sym ++ (lowB more (tmF sym).2 ++ encI fs (zL rs) k (i + qdn (zL rs) i)) := by
     unfold encI
     rw [hst, List.flatMap_cons]
     unfold encS
     rw [e1, e2, Int.toNat_natCast, Int.toNat_natCast, List.append_assoc]
    have hcs := hc (qfx (zL rs) i) (by rw [hst]; simp)
    rw [e1, Int.toNat_natCast] at hcs
    rw [henc] at hb hl ⊢
    rw [List.length_append, List.length_append, qai, qat] at hl ⊢
    have b1 := hb.left
    have b2 := hb.right
    rw [qai] at b2
    have b3 := b2.right
    rw [qat] at b3
    have hrun := qqe rs i (qdn (zL rs) i) (by omega) (fun j hj => by
     have := q28 (zL rs) i j (by omega)
     rw [qgi, qgi] at this
     omega)
    rw [rowF, if_neg (by rw [List.length_take]; omega), qhq h15 hf (by omega) hcs b1 (by omega)]
    simp only
    rw [if_neg h5, qee h2 b2.left (by omega)]
    simp only
    rw [h3, h4, ← hrun, qqz h15 hf h19 rs hr k (i + qdn (zL rs) i) _ F hpl (by have := qin (zL rs) i; omega) (fun s hs => hc s (by rw [hst]; simp [hs])) b3 (by omega) (by rw [hst, List.length_cons] at hF; omega)]
    simp only [Except.ok.injEq, Prod.mk.injEq, true_and]
    omega
  · have e : i = rs.length := by omega
    subst e
    have hst : qb6 (zL rs) (k + 1) rs.length = [] := by rw [qb6, if_neg (by rw [qa9]; omega)]
    rw [rowF, List.take_length, if_pos (Nat.le_refl _), if_neg (Nat.lt_irrefl _)]
    unfold encI
    rw [hst]
    simp
theorem qr6 {fs : List Nat} : ∀ (l : List Stp), (∀ s ∈ l, 0 < ln fs s.sym.toNat) → l.length ≤ (l.flatMap (encS fs)).length
 | [], _ => by simp
 | s :: l, h => by
  have ih := qr6 l (fun t ht => h t (by simp [ht]))
  have hs := h s (by simp)
  rw [List.flatMap_cons, List.length_append, List.length_cons]
  unfold encS
  rw [List.length_append, qai]
  unfold encS at ih
  omega
def qky (l : List Nat) : List Bool := l.flatMap fun x => lowB x 3
theorem qh1 : ∀ l : List Nat, (qky l).length = 3 * l.length
 | [] => rfl
 | x :: l => by
  have ih := qh1 l
  unfold qky at ih ⊢
  rw [List.flatMap_cons, List.length_append, ih, qat, List.length_cons]; omega
theorem qqc {f : Nat → Bool} : ∀ (l : List Nat) (q : Nat), qb0 f q (qky l) → ∀ j, j < l.length → qb0 f (q + 3 * j) (lowB (l.getD j 0) 3)
 | [], q, _, j, h => by simp at h
 | x :: l, q, hb, 0, h => by
  have : qb0 f q (lowB x 3 ++ qky l) := hb
  have := this.left
  simpa using this
 | x :: l, q, hb, j + 1, h => by
  have : qb0 f q (lowB x 3 ++ qky l) := hb
  have := qqc l (q + 3) (by have := this.right; rwa [qat] at this) j (by simpa using h)
  rw [show q + 3 + 3 * j = q + 3 * (j + 1) by omega] at this
  simpa using this
theorem q2m : ∀ t : Fin 19, ordL.idxOf t.val < 19 ∧ ordL.getD (ordL.idxOf t.val) 0 = t.val := by decide
theorem qwj {f : Nat → Bool} {q n : Nat} {fs : List Nat} (h19 : fs.length = 19) (h7 : ∀ x ∈ fs, x ≤ 7) (hn : n ≤ 19) (h0 : ∀ j, n ≤ j → j < 19 → fs.getD (ordL.getD j 0) 0 = 0) (hb : qb0 f q (qky ((ordL.map fun t => fs.getD t 0).take n))) : fstL f q n = fs := by
 have hlen : ((ordL.map fun t => fs.getD t 0).take n).length = n := by rw [List.length_take, List.length_map]; show min n 19 = n; omega
 apply List.ext_getElem?
 intro t
 unfold fstL
 by_cases ht : t < 19
 · rw [List.getElem?_map, List.getElem?_range ht]
   simp only [Option.map_some]
   obtain ⟨hi, he⟩ := q2m ⟨t, ht⟩
   simp only at hi he
   have hfs : fs[t]? = some (fs.getD t 0) := by rw [List.getD_eq_getElem?_getD, List.getElem?_eq_getElem (by omega)]; rfl
   rw [hfs]
   congr 1
   by_cases hlt : ordL.idxOf t < n
   · rw [if_pos hlt]
     have hbt := qqc _ q hb (ordL.idxOf t) (by rw [hlen]; exact hlt)
     have hval : ((ordL.map fun t => fs.getD t 0).take n).getD (ordL.idxOf t) 0 = fs.getD t 0 := by
      rw [List.getD_eq_getElem?_getD, List.getElem?_take, if_pos hlt, List.getElem?_map]
      rw [List.getD_eq_getElem?_getD] at he
      cases ho : ordL[ordL.idxOf t]? with
      | none => rw [ho] at he; have : ordL.length ≤ ordL.idxOf t := List.getElem?_eq_none_iff.1 ho; have h2 : ordL.length = 19 := rfl; omega
      | some v => rw [ho] at he; simp only [Option.getD_some] at he; subst he; rfl
     rw [hval] at hbt
     have hx7 : fs.getD t 0 ≤ 7 := h7 _ (List.mem_of_getElem? hfs)
     have : tkF f (q + 3 * ordL.idxOf t + 3) (q + 3 * ordL.idxOf t) 3 = .ok (fs.getD t 0) := qee (by omega) hbt (Nat.le_refl _)
     unfold tkF at this
     rw [if_neg (by omega)] at this
     exact Except.ok.inj this
   · rw [if_neg hlt]
     have := h0 (ordL.idxOf t) (by omega) hi
     rw [he] at this
     exact this.symm
 · rw [List.getElem?_eq_none (by simp; omega), List.getElem?_eq_none (by omega)]
def encH (fs ls ds : List Nat) (n : Nat) : List Bool :=
 lowB (ls.length - 257) 5 ++ (lowB (ds.length - 1) 5 ++ (lowB (n - 4) 4 ++ (qky ((ordL.map fun t => fs.getD t 0).take n) ++ encI fs (zL (ls ++ ds)) (ls ++ ds).length 0)))
structure OkL (ns : List Nat) : Prop where
 all : qbh ns
 fit : fitB ns = true
 few : ns.length ≤ 320
theorem OkL.e {ns : List Nat} (h : OkL ns) : fitE ns = true := by
 unfold fitE
 rw [h.fit, decide_eq_true h.few]
 simp only [Bool.true_and, Bool.and_true]
 rw [List.all_eq_true]
 intro n hn
 exact decide_eq_true (h.all n hn)
theorem qz1 {fs ls ds : List Nat} {n : Nat} (hF : OkL fs) (hL : OkL ls) (hD : OkL ds) (h19 : fs.length = 19) (h7 : ∀ x ∈ fs, x ≤ 7) (hn4 : 4 ≤ n) (hn : n ≤ 19) (h0 : ∀ j, n ≤ j → j < 19 → fs.getD (ordL.getD j 0) 0 = 0)
    (hl1 : 257 ≤ ls.length) (hl2 : ls.length ≤ 286) (hd1 : 1 ≤ ds.length) (hd2 : ds.length ≤ 30) (h256 : ls.getD 256 0 ≠ 0) (hc : ∀ s ∈ qb6 (zL (ls ++ ds)) (ls ++ ds).length 0, 0 < ln fs s.sym.toNat)
    {f : Nat → Bool} {L p : Nat} (hb : qb0 f p (encH fs ls ds n)) (hl : p + (encH fs ls ds n).length ≤ L) : dynF f L p = .ok (ls, ds, p + (encH fs ls ds n).length) := by
 have htl : ((ordL.map fun t => fs.getD t 0).take n).length = n := by rw [List.length_take, List.length_map]; show min n 19 = n; omega
 unfold encH at hb hl ⊢
 have hsl : (qb6 (zL (ls ++ ds)) (ls ++ ds).length 0).length ≤ (encI fs (zL (ls ++ ds)) (ls ++ ds).length 0).length := qr6 _ hc
 generalize hE : encI fs (zL (ls ++ ds)) (ls ++ ds).length 0 = E at *
 simp only [List.length_append, qat, qh1, htl] at hl ⊢
 have b1 := hb.left
 have r1 := hb.right
 rw [qat] at r1
 have r2 := r1.right
 rw [qat] at r2
 have r3 := r2.right
 rw [qat] at r3
 have r4 := r3.right
 rw [qh1, htl] at r4
 rw [← hE] at r4
 unfold dynF
 rw [qee (show ls.length - 257 < 2 ^ 5 by omega) b1 (by omega)]
 simp only
 rw [qee (show ds.length - 1 < 2 ^ 5 by omega) r1.left (by omega)]
 simp only
 rw [show p + 10 = p + 5 + 5 by omega, qee (show n - 4 < 2 ^ 4 by omega) r2.left (by omega)]
 simp only
 rw [if_neg (by omega), show n - 4 + 4 = n by omega, if_neg (by omega), show p + 14 = p + 5 + 5 + 4 by omega, qwj h19 h7 hn h0 r3.left, hF.e, if_neg (by simp)]
 have hrs : ls.length - 257 + (ds.length - 1) + 258 = (ls ++ ds).length := by rw [List.length_append]; omega
 have hrow := qqz (L := L) hF.all hF.fit h19 (ls ++ ds) (fun x hx => by
  rcases List.mem_append.1 hx with q | q
  · exact hL.all x q
  · exact hD.all x q) (ls ++ ds).length 0 (p + 5 + 5 + 4 + 3 * n) (L + 1) (Nat.zero_le _) (by omega) hc r4 (by rw [hE]; omega) (by omega)
 rw [hrs]
 rw [List.take_zero, hE] at hrow
 rw [hrow]
 simp only
 have ht : (ls ++ ds).take (ls.length - 257 + 257) = ls := by rw [show ls.length - 257 + 257 = ls.length by omega, List.take_left]
 have hdr : (ls ++ ds).drop (ls.length - 257 + 257) = ds := by rw [show ls.length - 257 + 257 = ls.length by omega, List.drop_left]
 have hg : (ls ++ ds).getD 256 0 = ls.getD 256 0 := by rw [List.getD_eq_getElem?_getD, List.getD_eq_getElem?_getD, List.getElem?_append_left (by omega)]
 rw [ht, hdr, hg, if_neg h256, hL.e, hD.e, if_neg (by simp)]
 simp only [Except.ok.injEq, Prod.mk.injEq, true_and]
 omega
theorem qj4 (zs : List Int) : ∀ k j, qb6 zs (k + j) 0 = (stK zs k).1 ++ qb6 zs j (stK zs k).2
 | 0, j => by simp [stK]
 | k + 1, j => by
  have ih := qj4 zs k (j + 1)
  rw [show k + 1 + j = k + (j + 1) by omega, ih]
  by_cases h : (stK zs k).2 < zs.length
  · rw [qk5 h, qb6, if_pos h]
    simp
  · rw [stK, if_neg h, qb6, if_neg h]
    cases j with
    | zero => rfl
    | succ j => rw [qb6, if_neg h]
theorem qgk (zs : List Int) : qb6 zs zs.length 0 = qca zs := by
 have := qj4 zs zs.length 0
 rw [Nat.add_zero] at this
 rw [this]
 simp [qb6, qca]
end Go.Proofs.YthkppipdflmekaaGreat
