/- Contracts of match.isToken, width, say and Expand. -/
import Derived.Test.YthkppipdflmekaaRows
import Derived.Test.YthkppipdflmekaaQMatchM
import Derived.Laws.OwnMore
import Derived.Laws.AppendOwnNone
import Derived.WalkSmall
import Derived.Deep.MidRow
namespace Go.Proofs.Ythkppipdflmekaa
open Go.RowKit
set_option linter.unusedVariables false

/-- A token as a value. -/
def tv (t : Tok) : Value := .agg #[.int .u8 (t.b : Int), .int .i64 t.l, .int .i64 t.d]
theorem tv_eq (t : Tok) : tv t = .agg #[.int .u8 (t.b : Int), .int .i64 t.l, .int .i64 t.d] := rfl
theorem Try.infoU8m : (Try.prog.info? 5).map (fun i => (i.zero, i.size, i.bytes)) = some (some (.int .u8 0), 1, 1) := by kernel_rfl
theorem isTok_false {t : Tok} (h : ¬ t.l = 0) (h2 : ¬ (t.b = 0 ∧ 3 ≤ t.l ∧ t.l ≤ 258 ∧ 1 ≤ t.d ∧ t.d ≤ 32768)) : isTok t = false := by
  unfold isTok; rw [if_neg h]; simpa using h2
set_option maxRecDepth 100000 in
set_option maxHeartbeats 1000000 in
theorem isToken_any (t : Tok) (w : World) :
    Calls Try.prog 30 #[tv t] w fun e w' => e = .returned (.bool (isTok t)) ∧ Below w.heap.size w w' := by
  have HB : Hid (∀ o, Below w.heap.size w (w.alloc o)) := fun o => (Below.refl _ w).alloc (Nat.le_refl _) o
  obtain ⟨b, l, d⟩ := t
  rw [tv_eq]
  by_cases h0 : l = 0
  · subst h0
    have HI : Hid (isTok ⟨b, 0, d⟩ = (d == 0)) := by
      unfold Hid; rw [isTok_zero rfl]; rw [Bool.eq_iff_iff]; simp
    go_enter Try.func30, Try.ntmps30
    go_wp2
    go_ret
    exact ⟨by rw [HI.out]; rfl, HB.out _⟩
  · have h0i : (l == 0) = false := by simpa using h0
    by_cases h1 : b = 0
    · subst h1
      have h1i : (((0 : Nat) : Int) == 0) = true := by decide
      by_cases h2 : 3 ≤ l
      · by_cases h3 : l ≤ 258
        · by_cases h4 : 1 ≤ d
          · by_cases h5 : d ≤ 32768
            · have HI : Hid (isTok ⟨0, l, d⟩ = true) := isTok_mk rfl h2 h3 h4 h5
              go_enter Try.func30, Try.ntmps30
              go_wp2
              go_ret
              exact ⟨by rw [HI.out]; rfl, HB.out _⟩
            · have HI : Hid (isTok ⟨0, l, d⟩ = false) := isTok_false h0 (fun h => h5 h.2.2.2.2)
              go_enter Try.func30, Try.ntmps30
              go_wp2
              go_ret
              exact ⟨by rw [HI.out]; rfl, HB.out _⟩
          · have HI : Hid (isTok ⟨0, l, d⟩ = false) := isTok_false h0 (fun h => h4 h.2.2.2.1)
            go_enter Try.func30, Try.ntmps30
            go_wp2
            go_ret
            exact ⟨by rw [HI.out]; rfl, HB.out _⟩
        · have HI : Hid (isTok ⟨0, l, d⟩ = false) := isTok_false h0 (fun h => h3 h.2.2.1)
          go_enter Try.func30, Try.ntmps30
          go_wp2
          go_ret
          exact ⟨by rw [HI.out]; rfl, HB.out _⟩
      · have HI : Hid (isTok ⟨0, l, d⟩ = false) := isTok_false h0 (fun h => h2 h.2.1)
        go_enter Try.func30, Try.ntmps30
        go_wp2
        go_ret
        exact ⟨by rw [HI.out]; rfl, HB.out _⟩
    · have HI : Hid (isTok ⟨b, l, d⟩ = false) := isTok_false h0 (fun h => h1 h.1)
      have h1i : ((b : Int) == 0) = false := by simpa using h1
      go_enter Try.func30, Try.ntmps30
      go_wp2
      go_ret
      exact ⟨by rw [HI.out]; rfl, HB.out _⟩
theorem width_any (t : Tok) (w : World) :
    Calls Try.prog 31 #[tv t] w fun e w' => e = .returned (.int .i64 (wid t)) ∧ Below w.heap.size w w' := by
  have HB : Hid (∀ o, Below w.heap.size w (w.alloc o)) := fun o => (Below.refl _ w).alloc (Nat.le_refl _) o
  obtain ⟨b, l, d⟩ := t
  rw [tv_eq]
  by_cases h1 : 1 ≤ l
  · have HI : Hid (wid ⟨b, l, d⟩ = l) := by unfold Hid wid; rw [if_pos h1]
    go_enter Try.func31, Try.ntmps31
    go_wp2
    go_ret
    exact ⟨by rw [HI.out]; rfl, HB.out _⟩
  · have HI : Hid (wid ⟨b, l, d⟩ = 1) := by unfold Hid wid; rw [if_neg h1]
    go_enter Try.func31, Try.ntmps31
    go_wp2
    go_ret
    exact ⟨by rw [HI.out]; rfl, HB.out _⟩
theorem own_ne {w : World} {B n b : Nat} {ty ty2 : TypeId} {sz : Nat} {v : Value} {xs : List Value} {c : Array Value} {p : Nat × Nat} (hO : w.ownsRow B ty sz v n xs) (hb : w.heap[b]? = some (.cells c ty2 p)) (hty : ty2 ≠ ty) : some b ≠ v.ownBlock := by
  intro e
  rcases hO.2 with ⟨rfl, _⟩ | ⟨gb, cap, cur, rfl, _, hh, _⟩
  · cases e
  · have e2 : b = gb := by simpa [Value.ownBlock] using e
    subst e2
    rw [hb] at hh
    simp only [Option.some.injEq, Obj.cells.injEq] at hh
    exact hty hh.2.1
theorem grown_block {w w' : World} {b : Nat} {o : Obj} {r : Option Nat} (hg : w.grownBy w' r) (hb : w.heap[b]? = some o) (hne : some b ≠ r) : w'.heap[b]? = some o :=
  (hg.block b (by rcases Nat.lt_or_ge b w.heap.size with hl | hl
                  · exact hl
                  · rw [Array.getElem?_eq_none hl] at hb; cases hb) hne).trans hb
theorem tok_cells {w : World} {b : Nat} {t : Tok} (h : w.heap[b]? = some (.cells #[.int .u8 (t.b : Int), .int .i64 t.l, .int .i64 t.d] 43 (0, 0))) : w.cell? ⟨b, 0, none⟩ = some (.int .u8 (t.b : Int)) ∧ w.cell? ⟨b, 1, none⟩ = some (.int .i64 t.l) ∧ w.cell? ⟨b, 2, none⟩ = some (.int .i64 t.d) := by
  refine ⟨?_, ?_, ?_⟩ <;> (rw [cell_of_row _ _ _ _ _ _ h]; rfl)
theorem sayN_at (out : List Nat) (d k : Nat) (h1 : 1 ≤ d) (h2 : d ≤ out.length) : (sayN out d k)[out.length + k - d]? = some ((sayN out d k).getD ((sayN out d k).length - d) 0) := by
  rw [sayN_len, List.getD_eq_getElem?_getD, List.getElem?_eq_getElem (by rw [sayN_len]; omega)]; rfl
theorem sayN_byte (out : List Nat) (d : Nat) (h : ∀ x ∈ out, x < 256) : ∀ k, ∀ x ∈ sayN out d k, x < 256
  | 0 => h
  | k + 1 => by
    intro x hx
    rw [sayN] at hx
    rcases List.mem_append.1 hx with hx | hx
    · exact sayN_byte out d h k x hx
    · simp only [List.mem_singleton] at hx
      subst hx
      rw [List.getD_eq_getElem?_getD]
      cases hq : (sayN out d k)[(sayN out d k).length - d]? with
      | none => decide
      | some y => exact sayN_byte out d h k y (List.mem_of_getElem? hq)
set_option maxRecDepth 100000 in
set_option maxHeartbeats 1000000 in
theorem say_byte (B : Nat) (out : List Nat) (v : Value) (b : Nat) (w : World) (hO : w.ownsRow B 5 1 v out.length (cs out)) (hB : B ≤ w.heap.size) (hl : out.length ≤ 100000000000) :
    Calls Try.prog 32 #[v, .agg #[.int .u8 (b : Int), .int .i64 0, .int .i64 0]] w fun e w' => ∃ v', e = .returned v' ∧ w'.ownsRow B 5 1 v' (out ++ [b]).length (cs (out ++ [b])) ∧ Below B w w' := by
  obtain ⟨i0, hi, hz0, hz1, hz2⟩ := info_parts Try.infoU8m
  have hB1 : Below B w (w.alloc (.cells #[.int .u8 (b : Int), .int .i64 0, .int .i64 0] 43)) := (Below.refl _ w).alloc hB _
  have hO1 := hO.alloc (.cells #[.int .u8 (b : Int), .int .i64 0, .int .i64 0] 43)
  have hsz : (w.alloc (.cells #[.int .u8 (b : Int), .int .i64 0, .int .i64 0] 43)).heap.size = w.heap.size + 1 := World.size_alloc _ _
  have hcn : ∀ j u, [Value.int .u8 (b : Int)][j]? = some u → ((w.alloc (.cells #[.int .u8 (b : Int), .int .i64 0, .int .i64 0] 43)).alloc (.cells #[.int .u8 (b : Int)] 5)).cell? (Addr.add ⟨w.heap.size + 1, 0, none⟩ j) = some u := by rw [← hsz]; exact cell_one_new _ _ _
  have HCN : Hid _ := hcn
  clear hcn
  go_enter Try.func32, Try.ntmps32
  go_wp2_with (at_builtin; refine wpList_append_own _ rfl _ _ 71 rfl B 5 i0 (.int .u8 0) 1 1 Try.underlying71 hi hz0 hz1 hz2 rfl (by decide) _ _ _ rfl (hO1.alloc _) ⟨w.heap.size + 1, 0, none⟩ 1 1 [.int .u8 (b : Int)] rfl rfl HCN.out ?c2 ?c3 ?c4 ?c5 ?_)
  case c2 => intro u hu; simp at hu; subst hu; rfl
  case c3 => unfold maxLen; omega
  case c4 => omega
  case c5 => simp; omega
  intro v' w1 hown' hgrow _
  have hb' : Below B w w1 := (hB1.alloc (by rw [hsz]; omega) _).grown hgrow (by rw [World.size_alloc, hsz]; omega) (fun k hk => (hO1.lt k hk).1)
  have ho' : w1.ownsRow B 5 1 v' (out ++ [b]).length (cs (out ++ [b])) := by rw [cs_snoc, List.length_append]; exact hown'
  clear hown' hgrow hO hO1 hB1
  go_wp2
  go_ret
  exact ⟨_, rfl, ho', hb'⟩
set_option maxRecDepth 100000 in
set_option maxHeartbeats 1000000 in
theorem say_rep (B : Nat) (out : List Nat) (v : Value) (m d : Nat) (w : World) (hO : w.ownsRow B 5 1 v out.length (cs out)) (hm : 3 ≤ m) (hm2 : m ≤ 258) (hd : 1 ≤ d) (hd2 : d ≤ out.length) (hB : B ≤ w.heap.size) (hl : out.length ≤ 100000000000) :
    Calls Try.prog 32 #[v, .agg #[.int .u8 0, .int .i64 (m : Int), .int .i64 (d : Int)]] w fun e w' => ∃ v', e = .returned v' ∧ w'.ownsRow B 5 1 v' (sayN out d m).length (cs (sayN out d m)) ∧ Below B w w' := by
  obtain ⟨i0, hi, hz0, hz1, hz2⟩ := info_parts Try.infoU8m
  have HN : Hid ((w.alloc (.cells #[.int .u8 0, .int .i64 (m : Int), .int .i64 (d : Int)] 43)).heap[w.heap.size]? = some (.cells #[.int .u8 0, .int .i64 (m : Int), .int .i64 (d : Int)] 43 (0, 0))) := heap_alloc_new w _
  have HB1 : Hid (Below B w (w.alloc (.cells #[.int .u8 0, .int .i64 (m : Int), .int .i64 (d : Int)] 43))) := (Below.refl _ w).alloc hB _
  have HO1 : Hid ((w.alloc (.cells #[.int .u8 0, .int .i64 (m : Int), .int .i64 (d : Int)] 43)).ownsRow B 5 1 v out.length (cs out)) := hO.alloc _
  have h0i : ((m : Int) == 0) = false := by simp; omega
  clear hO
  go_enter Try.func32, Try.ntmps32
  go_wp2
  generalize World.alloc w _ = W1 at *
  go_loopw [0, 15] (fun o i wr => ∃ k : Nat, k ≤ m ∧ i = .int .i64 (k : Int) ∧ wr.ownsRow B 5 1 o (out.length + k) (cs (sayN out d k)) ∧ Below B w wr ∧ wr.heap[w.heap.size]? = some (.cells #[.int .u8 0, .int .i64 (m : Int), .int .i64 (d : Int)] 43 (0, 0))) (fun _ i _ => m - (intOf i).toNat)
  case atStart => exact ⟨0, by omega, rfl, HO1.out, HB1.out, HN.out⟩
  case round =>
    clear HO1 HB1 HN
    obtain ⟨k, hk, rfl, hO, hB2, hN⟩ := hrel
    have hlk := sayN_len out d k
    by_cases hlt : k < m
    · have hne := own_ne hO hN (by decide)
      obtain ⟨g, cap, rfl, hg1, hg2, hg3⟩ := own_frm0 hO (by omega)
      have cd : wr.cell? ⟨w.heap.size, 2, none⟩ = some (.int .i64 (d : Int)) := by rw [cell_of_row _ _ _ _ _ _ hN]; rfl
      have hel := sayN_at out d k hd hd2
      have HSN : Hid (sayN out d (k + 1) = sayN out d k ++ [(sayN out d k).getD ((sayN out d k).length - d) 0]) := rfl
      have ce : wr.cell? ⟨g, out.length + k - d, none⟩ = some (.int .u8 (((sayN out d k).getD ((sayN out d k).length - d) 0 : Nat) : Int)) := by
        rw [hO.cellAt (out.length + k - d) (by omega)]
        unfold cs
        rw [List.getElem?_map, hel]; rfl
      have hki : (k : Int) < (m : Int) := by omega
      have hki0 : (0 : Int) ≤ (k : Int) := by omega
      have HN : Hid (wr.heap[w.heap.size]? = some (.cells #[.int .u8 0, .int .i64 (m : Int), .int .i64 (d : Int)] 43 (0, 0))) := hN
      have HO : Hid (wr.ownsRow B 5 1 (.slice (some ⟨g, 0, none⟩) (out.length + k) cap) (out.length + k) (cs (sayN out d k))) := hO
      have HB2 : Hid (Below B w wr) := hB2
      have hsz2 := hB2.size
      have HNE : Hid (some w.heap.size ≠ some g) := hne
      clear hN hO hel hB2 hne hlk
      generalize (sayN out d k).getD ((sayN out d k).length - d) 0 = y at *
      have hix : ((out.length + k : Nat) : Int) - (d : Int) = ((out.length + k - d : Nat) : Int) := by omega
      go_wp2_with (at_builtin; refine wpList_append_own _ rfl _ _ 71 rfl B 5 i0 (.int .u8 0) 1 1 Try.underlying71 hi hz0 hz1 hz2 rfl (by decide) _ _ _ rfl (HO.out.alloc _) ⟨wr.heap.size, 0, none⟩ 1 1 [.int .u8 (y : Int)] rfl rfl (cell_one_new _ _ _) ?c2 ?c3 ?c4 ?c5 ?_)
      case c2 => intro u hu; simp at hu; subst hu; rfl
      case c3 => unfold maxLen; omega
      case c4 => omega
      case c5 => simp; omega
      intro v' w1 hown' hgrow _
      have HB' : Hid (Below B w w1) := (HB2.out.alloc (by omega) _).grown hgrow (by rw [World.size_alloc]; omega) (fun j hj => (HO.out.lt j hj).1)
      have HO' : Hid (w1.ownsRow B 5 1 v' (out.length + (k + 1)) (cs (sayN out d (k + 1)))) := by unfold Hid; rw [HSN.out, cs_snoc]; exact hown'
      have HN' : Hid (w1.heap[w.heap.size]? = some (.cells #[.int .u8 0, .int .i64 (m : Int), .int .i64 (d : Int)] 43 (0, 0))) := grown_block hgrow (by rw [heap_alloc_old _ _ (Array.getElem?_eq_some_iff.1 HN.out).1]; exact HN.out) HNE.out
      clear hown' hgrow ce cd
      go_wp2
      go_roundw
      case rel => exact ⟨k + 1, by omega, by go_num, HO'.out, HB'.out, HN'.out⟩
      case measure => simp [intOf]; omega
    · obtain rfl : k = m := by omega
      rw [← hlk] at hO
      go_wp2
      go_ret
      exact ⟨_, rfl, hO, hB2⟩
theorem say_any (B : Nat) (out : List Nat) (v : Value) (t : Tok) (w : World) (hO : w.ownsRow B 5 1 v out.length (cs out)) (ht : isTok t = true) (hd : t.d ≤ out.length) (hB : B ≤ w.heap.size) (hl : out.length ≤ 100000000000) :
    Calls Try.prog 32 #[v, tv t] w fun e w' => ∃ v', e = .returned v' ∧ w'.ownsRow B 5 1 v' (sayT out t).length (cs (sayT out t)) ∧ Below B w w' := by
  obtain ⟨b, l, d⟩ := t
  rw [tv_eq]
  by_cases h0 : l = 0
  · subst h0
    have h1 : d = 0 := by rw [isTok_zero rfl] at ht; simpa using ht
    subst h1
    have e : sayT out ⟨b, 0, 0⟩ = out ++ [b] := rfl
    rw [e]
    exact say_byte B out v b w hO hB hl
  · obtain ⟨r1, r2, r3, r4, r5⟩ := isTok_rep h0 ht
    simp only at r1 r2 r3 r4 r5 hd
    obtain ⟨d, rfl⟩ : ∃ n : Nat, d = (n : Int) := ⟨d.toNat, by omega⟩
    obtain ⟨m, rfl⟩ : ∃ m : Nat, l = (m : Int) := ⟨l.toNat, by omega⟩
    subst r1
    have e : sayT out ⟨0, (m : Int), (d : Int)⟩ = sayN out d m := by unfold sayT; rw [if_neg h0]; rfl
    rw [e]
    exact say_rep B out v m d w hO (by omega) (by omega) (by omega) (by omega) hB hl
end Go.Proofs.Ythkppipdflmekaa
