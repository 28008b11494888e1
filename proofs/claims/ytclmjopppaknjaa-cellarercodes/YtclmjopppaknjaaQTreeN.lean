/- Contract of (*huff.Tree).Next. -/
import Derived.Test.YtclmjopppaknjaaQTreeP
import Derived.Test.YtclmjopppaknjaaQSrc2
namespace Go.Proofs.Ytclmjopppaknjaa
open Go.RowKit
set_option linter.unusedVariables false

/-- The first j bits. -/
def pfB (f : Nat → Bool) (j : Nat) : List Bool := (List.range j).map f
theorem pfB_succ (f : Nat → Bool) (j : Nat) : pfB f (j + 1) = pfB f j ++ [f j] := by unfold pfB; rw [List.range_succ, List.map_append]; rfl
theorem pfB_len (f : Nat → Bool) (j : Nat) : (pfB f j).length = j := by simp [pfB]
theorem pfB_prefix (f : Nat → Bool) (m k : Nat) (h : m ≤ k) : pfB f m <+: pfB f k := by
  obtain ⟨d, rfl⟩ := Nat.le.dest h
  clear h
  induction d with
  | zero => exact List.prefix_refl _
  | succ d ih => rw [← Nat.add_assoc, pfB_succ]; exact ih.trans (List.prefix_append _ _)
/-- j bits are the beginning of a code, or there is none yet. -/
def Under (ns : List Nat) (f : Nat → Bool) (j : Nat) : Prop := j = 0 ∨ ∃ t, Used ns ns.length t ∧ pfB f j <+: codeS ns t ∧ pfB f j ≠ codeS ns t
theorem Under.lt {ns : List Nat} {f : Nat → Bool} {j : Nat} (h : Under ns f j) (h15 : all15 ns) : j < 15 := by
  rcases h with rfl | ⟨t, h1, h2, h3⟩
  · decide
  · have hl := h2.length_le
    rw [pfB_len, codeS_len] at hl
    have := h15.at t
    rcases Nat.lt_or_ge j (ln ns t) with hlt | hge
    · omega
    · exact absurd (h2.eq_of_length (by rw [pfB_len, codeS_len]; omega)) h3
/-- What Next tells of the bits f, of which 'left' are there: it takes j + 1. -/
def NextR (ns : List Nat) (f : Nat → Bool) (left j : Nat) (y e : Int) : Prop := (Under ns f j ∧ j ≤ left) ∧ ((left ≤ j ∧ y = 0 ∧ e = 6) ∨ (j < left ∧ ((∃ t : Nat, Used ns ns.length t ∧ codeS ns t = pfB f (j + 1) ∧ y = (t : Int) ∧ e = 0) ∨ ((∀ t, Used ns ns.length t → ¬ pfB f (j + 1) <+: codeS ns t) ∧ y = 0 ∧ e = 3))))
theorem TreeIn.keptBy {w w' : World} {B gt gb cap n g : Nat} {br : Nat → Bool → Int} (h : TreeIn w B gt gb cap n br) (hg : w.grownBy w' (some g)) (h1 : g ≠ gt) (h2 : g ≠ gb) : TreeIn w' B gt gb cap n br := by
  refine ⟨(hg.block gt h.lt (fun e => h1 (by cases e; rfl))).trans h.top, h.low, h.row.kept hg (.inr (fun e => h2 (by simp [Value.ownBlock] at e; exact e.symm)))⟩
set_option maxRecDepth 100000 in
set_option maxHeartbeats 1000000 in
theorem next_any (ns : List Nat) (h15 : all15 ns) (hl : ns.length ≤ 320) (B gt gx : Nat) (s : ByteArray) (p : Nat) (w : World) (hP : Planted w B gt ns ns.length) (hS : SrcAt w gx s p) (hs : s.size ≤ 140737488351232) (hp : p ≤ 8 * s.size) :
    Calls Try.prog 26 #[.pointer (some ⟨gt, 0, none⟩), .pointer (some ⟨gx, 0, none⟩)] w fun e w' => ∃ (j : Nat) (y er : Int), e = .returned (.tuple #[.int .i64 y, .int .i64 er]) ∧ NextR ns (fun i => sbit s.data.toList (p + i)) (8 * s.size - p) j y er ∧ SrcAt w' gx s (p + j + 1) ∧ w.grownBy w' (some gx) := by
  obtain ⟨n, br, path, hT, hz, ⟨gb, cap, hM⟩, hn⟩ := hP
  have hxt : gx ≠ gt := fun e => by
    have h1 := hM.top
    subst e
    unfold SrcAt at hS
    rw [hS] at h1
    simp only [Option.some.injEq, Obj.cells.injEq] at h1
    exact absurd h1.2.1 (by decide)
  have hxb : gx ≠ gb := hM.ne hS (by decide)
  have HT : Hid (TreeI ns (Used ns ns.length) (Used ns ns.length) n br path) := hT
  have HM : Hid (TreeIn w B gt gb cap n br) := hM
  have HS : Hid (SrcAt w gx s p) := hS
  have HTk : Hid (∀ W q, SrcAt W gx s q → q ≤ 8 * s.size → Calls Try.prog 47 #[.pointer (some ⟨gx, 0, none⟩), .int .i64 1] W fun e w' => e = .returned (.int .u32 ((sbit s.data.toList q).toNat : Int)) ∧ SrcAt w' gx s (q + 1) ∧ W.grownBy w' (some gx)) := fun W q h hq => by
    refine (take_any gx s q 1 W h hs (by omega) (by decide)).mono ?_
    rintro e w' ⟨rfl, h1, h2⟩
    have e1 : near 1 32 = 1 := rfl
    rw [e1] at h1
    refine ⟨?_, h1, h2⟩
    rw [e1]
    simp [takeN]
  have HSh : Hid (∀ W q, SrcAt W gx s q → Calls Try.prog 28 #[.pointer (some ⟨gx, 0, none⟩)] W fun e w' => e = .returned (.bool (decide (8 * s.size < q))) ∧ ∃ n, w' = W.drewN n) := fun W q h => short_any gx s q W h hs
  clear hT hz hM hS
  go_enter Try.func26, Try.ntmps26
  go_wp2
  go_loopw [6] (fun a wr => ∃ u j : Nat, u < n ∧ a = .int .i64 (u : Int) ∧ path u = pfB (fun i => sbit s.data.toList (p + i)) j ∧ Under ns (fun i => sbit s.data.toList (p + i)) j ∧ p + j ≤ 8 * s.size ∧ SrcAt wr gx s (p + j) ∧ w.grownBy wr (some gx)) (fun a wr => 15 - (path (intOf a).toNat).length)
  case atStart => exact ⟨0, 0, HT.out.pos, rfl, HT.out.root, .inl rfl, by omega, HS.out, grefl w _⟩
  case round =>
    obtain ⟨u, j, hu, rfl, hpu, hU, hpj, hS, hG⟩ := hrel
    have hj := hU.lt h15
    go_wp2_with fail
    refine (HTk.out _ _ hS hpj).mono ?_
    rintro e w1 ⟨rfl, hS1, hG1⟩
    go_wp2_with fail
    refine (HSh.out _ _ hS1).mono ?_
    rintro e w2 ⟨rfl, m, rfl⟩
    have hG2 := gdrewN (gtrans hG hG1) m
    have hM2 := HM.out.keptBy hG2 hxt hxb
    have hS2 := hS1.drewN m
    have HG2 : Hid (w.grownBy (w1.drewN m) (some gx)) := hG2
    have HS2 : Hid (SrcAt (w1.drewN m) gx s (p + j + 1)) := hS2
    by_cases hsh : 8 * s.size < p + j + 1
    · rw [decide_eq_true hsh]
      have HR : Hid (NextR ns (fun i => sbit s.data.toList (p + i)) (8 * s.size - p) j 0 6) := ⟨⟨hU, by omega⟩, .inl ⟨by omega, rfl, rfl⟩⟩
      clear hU hpu hM2 hS1 hS hG hG1 hG2 hS2
      go_wp2
      go_ret2
      exact ⟨j, 0, 6, rfl, HR.out, HS2.out, HG2.out⟩
    · rw [decide_eq_false hsh]
      have hsucc : pfB (fun i => sbit s.data.toList (p + i)) (j + 1) = path u ++ [sbit s.data.toList (p + j)] := by rw [pfB_succ, hpu]
      have ct := hM2.top0
      have cb := hM2.at (b := sbit s.data.toList (p + j)) hu
      have hb2 : (sbit s.data.toList (p + j)).toNat < 2 := Bool.toNat_lt _
      have hui : (u : Int) < (n : Int) := by omega
      have hu0 : (0 : Int) ≤ (u : Int) := by omega
      clear hM2 hS1 hS hG hG1 hG2 hS2
      rcases Int.lt_trichotomy (br u (sbit s.data.toList (p + j))) 0 with hlt | he0 | hgt
      · obtain ⟨t, h1, h2, h3⟩ := HT.out.leaf u _ hu hlt
        have HR : Hid (NextR ns (fun i => sbit s.data.toList (p + i)) (8 * s.size - p) j (t : Int) 0) := ⟨⟨hU, by omega⟩, .inr ⟨by omega, .inl ⟨t, h1, by rw [hsucc, h3], rfl, rfl⟩⟩⟩
        rw [h2] at cb
        have ht := h1.1
        have z1 : ((-1 - (t : Int)) == 0) = false := by simp; omega
        have z2 : (-1 - (t : Int)) < 0 := by omega
        clear hU hpu hsucc h2 h3 hlt h1
        generalize (sbit s.data.toList (p + j)).toNat = bv at *
        go_wp2
        go_ret2
        exact ⟨j, t, 0, by go_num, HR.out, HS2.out, HG2.out⟩
      · have HR : Hid (NextR ns (fun i => sbit s.data.toList (p + i)) (8 * s.size - p) j 0 3) := ⟨⟨hU, by omega⟩, .inr ⟨by omega, .inr ⟨fun t ht => by rw [hsucc]; exact HT.out.none u _ hu he0 t ht, rfl, rfl⟩⟩⟩
        rw [he0] at cb
        clear hU hpu hsucc he0
        generalize (sbit s.data.toList (p + j)).toNat = bv at *
        go_wp2
        go_ret2
        exact ⟨j, 0, 3, rfl, HR.out, HS2.out, HG2.out⟩
      · obtain ⟨v, h1, h2, h3⟩ := HT.out.up u _ hu hgt
        rw [h1] at cb hgt
        have hU2 : Under ns (fun i => sbit s.data.toList (p + i)) (j + 1) := by
          obtain ⟨t, g1, g2, g3⟩ := HT.out.ext v h2 (by omega)
          rw [h3, ← hsucc] at g2 g3
          exact .inr ⟨t, g1, g2, g3⟩
        have HU2 : Hid (Under ns (fun i => sbit s.data.toList (p + i)) (j + 1)) := hU2
        have HPv : Hid (path v = pfB (fun i => sbit s.data.toList (p + i)) (j + 1)) := by unfold Hid; rw [hsucc, h3]
        have HPu : Hid (path u = pfB (fun i => sbit s.data.toList (p + i)) j) := hpu
        have z1 : ((v : Int) == 0) = false := by simp; omega
        clear hU hpu hsucc h1 h3 hU2
        generalize (sbit s.data.toList (p + j)).toNat = bv at *
        go_wp2
        go_roundw
        case rel => exact ⟨v, j + 1, h2, rfl, HPv.out, HU2.out, by omega, HS2.out, HG2.out⟩
        case measure => simp [intOf]; rw [HPv.out, HPu.out, pfB_len, pfB_len]; omega
end Go.Proofs.Ytclmjopppaknjaa
