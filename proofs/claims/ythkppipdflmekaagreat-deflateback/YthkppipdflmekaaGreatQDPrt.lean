/- Parts of a block in memory; deflate's number, codePart, countOf, put. -/
import Derived.Test.YthkppipdflmekaaGreatQSnkB
import Derived.Test.YthkppipdflmekaaGreatQSrcE
import Derived.Test.YthkppipdflmekaaGreatRows
set_option maxRecDepth 100000
set_option maxHeartbeats 1000000
namespace Go.Proofs.YthkppipdflmekaaGreat
open Go.RowKit
set_option linter.unusedVariables false
set_option linter.unusedSimpArgs false
def snk0 : Array Value := snkC none qbj 0
theorem Tryz.zeroSnk : (Tryz.prog.info? 65).map (fun i => (i.zero, i.size)) = some (some (.agg snk0), 66) := by kernel_rfl
theorem qu2 (w : World) : qav (w.alloc (.cells snk0 65)) w.heap.size [] := by
 refine ⟨none, ?_, rfl⟩
 rw [qkb [] _ (by simp)]
 exact heap_alloc_new w _
theorem q11 (x k : Nat) : ((x : Int) / 2 ^ k) = ((x / 2 ^ k : Nat) : Int) := by simp
theorem qyp (x k : Nat) : (x / 2 ^ k).testBit 0 = x.testBit k := by rw [Nat.testBit_div_two_pow, Nat.zero_add]
theorem qp8 (g : Nat) (L : List Bool) (x k : Nat) (w : World) (hS : qav w g L) (hx : x < 4294967296) (hL : L.length ≤ 4000000000000000000) :
    Calls Tryz.prog 85 #[.pointer (some ⟨g, 0, none⟩), .int .u32 ((x : Int) / 2 ^ k)] w fun e w' => e = .returned (.tuple #[]) ∧ qav w' g (L ++ [x.testBit k]) ∧ w.grownBy w' (some g) := by
 rw [q11, ← qyp]
 exact qxy g L (x / 2 ^ k) w hS (Nat.lt_of_le_of_lt (Nat.div_le_self _ _) hx) hL
theorem qt8 (g : Nat) (L : List Bool) (x : Nat) (n : Int) (w : World) (hS : qav w g L) (hx : x < 4294967296) (hL : L.length ≤ 3000000000000000000) (hn : -9223372036854775808 ≤ n ∧ n ≤ 9223372036854775807) :
    Calls Tryz.prog 56 #[.pointer (some ⟨g, 0, none⟩), .int .u32 (x : Int), .int .i64 n] w fun e w' => e = .returned (.tuple #[]) ∧ qav w' g (L ++ qdg x (near n 32)) ∧ w.grownBy w' (some g) := by
 have hm : near n 32 ≤ 32 := qlo n 32
 obtain ⟨m, hme⟩ : ∃ m, m = near n 32 := ⟨_, rfl⟩
 have HN : Hid (∀ W : World, Calls Tryz.prog 84 #[.int .i64 n, .int .i64 32] W fun e w' => e = .returned (.int .i64 (m : Int)) ∧ w' = W) := fun W => qv3 n m W hn hme
 rw [← hme] at hm ⊢
 clear hme
 go_enter Tryz.func56, Tryz.ntmps56
 go_wp2_with (go_at_call 84; refine (HN.out _).mono ?_; rintro e w1 ⟨rfl, rfl⟩)
 go_loopw [6] (fun i wr => ∃ k : Nat, k ≤ m ∧ i = .int .i64 ((m : Int) - 1 - (k : Int)) ∧ qav wr g (L ++ (qdg x m).take k) ∧ w1.grownBy wr (some g)) (fun i _ => (intOf i + 1).toNat)
 case atStart => exact ⟨0, by omega, by simp, by simpa using hS, qcj _ _⟩
 case round =>
  clear hS
  obtain ⟨k, hk, rfl, hS, hG⟩ := hrel
  by_cases hlt : k < m
  · have HL : Hid (_ = _) := highK x m k
    have hle : (L ++ (qdg x m).take k).length ≤ 4000000000000000000 := by rw [List.length_append, List.length_take, qcq]; omega
    have i0 : (0 : Int) ≤ (m : Int) - 1 - (k : Int) := by omega
    have i1 : ((m : Int) - 1 - (k : Int)).toNat = m - 1 - k := by omega
    go_wp2_with fail
    refine (qp8 g _ x (m - 1 - k) _ hS hx hle).mono ?_
    rintro e w2 ⟨rfl, hS2, hG2⟩
    go_wp2
    go_roundw
    case rel => exact ⟨k + 1, by omega, congrArg _ (by omega), by rw [HL.out, if_pos hlt, ← List.append_assoc]; exact hS2, qdl hG hG2⟩
    case measure => simp [intOf]; omega
  · obtain rfl : k = m := by omega
    have HT : Hid ((qdg x k).take k = qdg x k) := List.take_of_length_le (by rw [qcq]; exact Nat.le_refl _)
    go_wp2
    rw [HT.out] at hS
    exact bodyPost_end (results_none rfl _ _ _) rfl ⟨rfl, hS, hG⟩
theorem qxx (g : Nat) (L : List Bool) (x : Nat) (n : Int) (w : World) (hS : qav w g L) (hx : x < 4294967296) (hL : L.length ≤ 3000000000000000000) (hn : -9223372036854775808 ≤ n ∧ n ≤ 9223372036854775807) :
    Calls Tryz.prog 57 #[.pointer (some ⟨g, 0, none⟩), .int .u32 (x : Int), .int .i64 n] w fun e w' => e = .returned (.tuple #[]) ∧ qav w' g (L ++ lowB x (near n 32)) ∧ w.grownBy w' (some g) := by
 have hm : near n 32 ≤ 32 := qlo n 32
 obtain ⟨m, hme⟩ : ∃ m, m = near n 32 := ⟨_, rfl⟩
 have HN : Hid (∀ W : World, Calls Tryz.prog 84 #[.int .i64 n, .int .i64 32] W fun e w' => e = .returned (.int .i64 (m : Int)) ∧ w' = W) := fun W => qv3 n m W hn hme
 rw [← hme] at hm ⊢
 clear hme
 go_enter Tryz.func57, Tryz.ntmps57
 go_wp2_with (go_at_call 84; refine (HN.out _).mono ?_; rintro e w1 ⟨rfl, rfl⟩)
 go_loopw [9] (fun i wr => ∃ k : Nat, k ≤ m ∧ i = .int .i64 (k : Int) ∧ qav wr g (L ++ lowB x k) ∧ w1.grownBy wr (some g)) (fun i _ => m - (intOf i).toNat)
 case atStart => exact ⟨0, by omega, rfl, by simpa [lowB] using hS, qcj _ _⟩
 case round =>
  clear hS
  obtain ⟨k, hk, rfl, hS, hG⟩ := hrel
  by_cases hlt : k < m
  · have HL : Hid (_ = _) := qnh x k
    have hle : (L ++ lowB x k).length ≤ 4000000000000000000 := by rw [List.length_append, qat]; omega
    go_wp2_with fail
    refine (qp8 g _ x k _ hS hx hle).mono ?_
    rintro e w2 ⟨rfl, hS2, hG2⟩
    go_wp2
    go_roundw
    case rel => exact ⟨k + 1, by omega, by go_num, by rw [HL.out, ← List.append_assoc]; exact hS2, qdl hG hG2⟩
    case measure => simp [intOf]; omega
  · obtain rfl : k = m := by omega
    go_wp2
    exact bodyPost_end (results_none rfl _ _ _) rfl ⟨rfl, hS, hG⟩
structure Prt where
 b : Nat
 c : Nat
 code : Bool
def prC (p : Prt) : List Value := [.int .u32 (p.b : Int), .int .i64 (p.c : Int), .bool p.code]
def prB (p : Prt) : List Bool := if p.code then qdg p.b p.c else lowB p.b p.c
def prsC (l : List Prt) : List Value := l.flatMap prC
def prsB (l : List Prt) : List Bool := l.flatMap prB
theorem qhp : ∀ l : List Prt, (prsC l).length = l.length * 3
 | [] => rfl
 | p :: l => by
  have ih := qhp l
  unfold prsC at ih ⊢
  rw [List.flatMap_cons, List.length_append, ih, List.length_cons]
  show 3 + _ = _
  omega
theorem qvm : ∀ (l : List Prt) (i : Nat) (p : Prt), l[i]? = some p → (prsC l)[i * 3]? = some (.int .u32 (p.b : Int)) ∧ (prsC l)[i * 3 + 1]? = some (.int .i64 (p.c : Int)) ∧ (prsC l)[i * 3 + 2]? = some (.bool p.code)
 | [], i, p, h => by simp at h
 | q :: l, 0, p, h => by
  simp at h; subst h
  exact ⟨rfl, rfl, rfl⟩
 | q :: l, i + 1, p, h => by
  have ih := qvm l i p (by simpa using h)
  unfold prsC at ih ⊢
  rw [List.flatMap_cons]
  have e : (prC q).length = 3 := rfl
  rw [List.getElem?_append_right (by rw [e]; omega), List.getElem?_append_right (by rw [e]; omega), List.getElem?_append_right (by rw [e]; omega), e]
  rw [show (i + 1) * 3 - 3 = i * 3 by omega, show (i + 1) * 3 + 1 - 3 = i * 3 + 1 by omega, show (i + 1) * 3 + 2 - 3 = i * 3 + 2 by omega]
  exact ih
theorem qvo (p : Prt) : (prB p).length = p.c := by unfold prB; split; exact qcq _ _; exact qat _ _
theorem qvn (l : List Prt) (p : Prt) : prsB (l ++ [p]) = prsB l ++ prB p := by simp [prsB]
def qg3 (p : Prt) : Prop := p.b < 4294967296 ∧ p.c ≤ 32
def PS (w : World) (v : Value) (l : List Prt) : Prop := ∃ a cap, v = .slice a l.length cap ∧ (l ≠ [] → ∃ g, a = some ⟨g, 0, none⟩ ∧ g < w.heap.size ∧ ∀ j u, (prsC l)[j]? = some u → w.cell? ⟨g, j, none⟩ = some u)
theorem PS.own {w : World} {B n : Nat} {v : Value} {l : List Prt} (h : w.ownsRow B 119 3 v n (prsC l)) : PS w v l := by
 have hl := h.1
 rw [qhp] at hl
 obtain rfl : l.length = n := by omega
 have hlt := h.lt
 rcases h.2 with ⟨rfl, h0⟩ | ⟨g, cap, cur, rfl, _⟩
 · exact ⟨none, 0, by rw [h0], fun hne => absurd (List.eq_nil_of_length_eq_zero h0) hne⟩
 · refine ⟨_, cap, rfl, fun _ => ⟨g, rfl, (hlt g rfl).2, fun j u hu => ?_⟩⟩
   have := World.ownsRow.cells h (g := g) rfl j u hu
   rwa [Addr.add_mid, Nat.zero_add] at this
theorem PS.below {w w' : World} {v : Value} {l : List Prt} (h : PS w v l) (hb : Below w.heap.size w w') : PS w' v l := by
 obtain ⟨a, cap, rfl, hf⟩ := h
 refine ⟨a, cap, rfl, fun hne => ?_⟩
 obtain ⟨g, rfl, hg, hc⟩ := hf hne
 exact ⟨g, rfl, Nat.lt_of_lt_of_le hg hb.size, fun j u hu => by rw [hb.cell (p := ⟨g, j, none⟩) hg]; exact hc j u hu⟩
def pv (p : Prt) : Value := .agg #[.int .u32 (p.b : Int), .int .i64 (p.c : Int), .bool p.code]
theorem qcf (x c : Nat) (w : World) (hx : x < 4294967296) :
    Calls Tryz.prog 54 #[.int .i64 (x : Int), .int .i64 (c : Int)] w fun e w' => e = .returned (pv ⟨x, c, false⟩) ∧ Below w.heap.size w w' := by
 have HB : Hid (∀ c, Below w.heap.size w (w.alloc (.cells c 119))) := fun c => (Below.refl _ w).alloc (Nat.le_refl _) _
 have hw : IntKind.u32.wrap (x : Int) = (x : Int) := by rw [IntKind.wrap_u32]; omega
 go_enter Tryz.func54, Tryz.ntmps54
 go_wp2
 refine bodyPost_ret (v := pv ⟨x, c, false⟩) (by simp [results, Tryz.results54, go_sem, pv]) rfl ⟨rfl, HB.out _⟩
theorem qeq (b c : Nat) (w : World) :
    Calls Tryz.prog 78 #[.agg #[.int .u32 (b : Int), .int .i64 (c : Int)]] w fun e w' => e = .returned (pv ⟨b, c, true⟩) ∧ Below w.heap.size w w' := by
 have HB : Hid (∀ a c, Below w.heap.size w ((w.alloc a).alloc c)) := fun a c => ((Below.refl _ w).alloc (Nat.le_refl _) _).alloc (by simp) _
 go_enter Tryz.func78, Tryz.ntmps78
 go_wp2
 refine bodyPost_ret (v := pv ⟨b, c, true⟩) (by simp [results, Tryz.results78, go_sem, pv]) rfl ⟨rfl, HB.out _ _⟩
theorem PS.cells {w : World} {a : Option Addr} {n cap : Nat} {l : List Prt} (h : PS w (.slice a n cap) l) {i : Nat} {p : Prt} (hi : l[i]? = some p) : ∃ g, a = some ⟨g, 0, none⟩ ∧ g < w.heap.size ∧ n = l.length ∧ w.cell? ⟨g, i * 3, none⟩ = some (.int .u32 (p.b : Int)) ∧ w.cell? ⟨g, i * 3 + 1, none⟩ = some (.int .i64 (p.c : Int)) ∧ w.cell? ⟨g, i * 3 + 2, none⟩ = some (.bool p.code) := by
 obtain ⟨a', cap', e, hf⟩ := h
 injection e with e1 e2 e3
 subst e1
 obtain ⟨g, rfl, hg, hc⟩ := hf (fun q => by rw [q] at hi; simp at hi)
 have hp := qvm l i p hi
 exact ⟨g, rfl, hg, e2, hc _ _ hp.1, hc _ _ hp.2.1, hc _ _ hp.2.2⟩
theorem PS.len {w : World} {v : Value} {l : List Prt} (h : PS w v l) : ∃ a cap, v = .slice a l.length cap := by
 obtain ⟨a, cap, e, _⟩ := h
 exact ⟨a, cap, e⟩
theorem qm4 (l : List Prt) (k : Nat) (p : Prt) (h : l[k]? = some p) : prsB (l.take (k + 1)) = prsB (l.take k) ++ prB p := by
 rw [List.take_add_one, h]; exact qvn _ _
theorem qli : ∀ l : List Prt, (∀ p ∈ l, qg3 p) → (prsB l).length ≤ 32 * l.length
 | [], _ => by simp [prsB]
 | p :: l, h => by
  have ih := qli l (fun q hq => h q (by simp [hq]))
  have hp := (h p (by simp)).2
  unfold prsB at ih ⊢
  rw [List.flatMap_cons, List.length_append, qvo, List.length_cons]; omega
theorem qg6 (l : List Prt) (h : ∀ p ∈ l, qg3 p) (k : Nat) : (prsB (l.take k)).length ≤ 32 * k := by
 have := qli (l.take k) (fun p hp => h p (List.mem_of_mem_take hp))
 rw [List.length_take] at this
 omega
theorem qje (v : Value) (l : List Prt) (w : World) (hP : PS w v l) (hl : l.length ≤ 1000000) (hok : ∀ p ∈ l, qg3 p) :
    Calls Tryz.prog 25 #[v] w fun e w' => e = .returned (.int .i64 ((prsB l).length : Int)) ∧ Below w.heap.size w w' := by
 have HP : Hid (∀ W, Below w.heap.size w W → PS W v l) := fun W hb => hP.below hb
 have HT : Hid (∀ k, (prsB (l.take k)).length ≤ 32 * k) := qg6 l hok
 obtain ⟨a, cap, rfl⟩ := hP.len
 clear hP
 go_enter Tryz.func25, Tryz.ntmps25
 go_wp2
 go_loopw [3, 8] (fun s i wr => ∃ k : Nat, k ≤ l.length ∧ i = .int .i64 (k : Int) ∧ s = .int .i64 ((prsB (l.take k)).length : Int) ∧ Below w.heap.size w wr) (fun _ i _ => l.length - (intOf i).toNat)
 case atStart => exact ⟨0, by omega, rfl, rfl, Below.refl _ _⟩
 case round =>
  obtain ⟨k, hk, rfl, rfl, hb⟩ := hrel
  by_cases hlt : k < l.length
  · obtain ⟨p, hp⟩ : ∃ p, l[k]? = some p := ⟨_, List.getElem?_eq_getElem hlt⟩
    obtain ⟨g, rfl, hg, _, c0, c1, c2⟩ := (HP.out wr hb).cells hp
    have hki : (k : Int) < (l.length : Int) := by omega
    have hT := HT.out k
    have hT2 := HT.out (k + 1)
    have HX : Hid ((prsB (l.take (k + 1))).length = (prsB (l.take k)).length + p.c) := by unfold Hid; rw [qm4 l k p hp, List.length_append, qvo]
    rw [HX.out] at hT2
    generalize (prsB (l.take k)).length = c at *
    obtain ⟨pb, pc, pd⟩ := p
    simp only at c0 c1 c2 HX hT2
    have hbF : ∀ o, Below w.heap.size w (wr.alloc o) := fun o => hb.alloc hb.size o
    have hwr : IntKind.i64.wrap ((c : Int) + (pc : Int)) = (c : Int) + (pc : Int) := by rw [IntKind.wrap_i64]; omega
    clear hp
    go_wp2
    go_roundw
    case rel => exact ⟨k + 1, by omega, by go_num, by rw [HX.out]; go_num, hbF _⟩
    case measure => simp [intOf]; omega
  · obtain rfl : k = l.length := by omega
    rw [List.take_length]
    go_wp2
    go_ret
    exact ⟨rfl, hb⟩
theorem PS.kept {w w' : World} {v : Value} {l : List Prt} {row : Option Nat} (h : PS w v l) (hg : w.grownBy w' row) (hne : v.ownBlock ≠ row) : PS w' v l := by
 obtain ⟨a, cap, rfl, hf⟩ := h
 refine ⟨a, cap, rfl, fun q => ?_⟩
 obtain ⟨g, rfl, hgl, hc⟩ := hf q
 exact ⟨g, rfl, Nat.lt_of_lt_of_le hgl hg.size, fun j u hu => hg.cell (hc j u hu) (by simpa [Value.ownBlock] using hne)⟩
theorem qr8 (g : Nat) (L : List Bool) (v : Value) (l : List Prt) (w : World) (hS : qav w g L) (hP : PS w v l) (hne : v.ownBlock ≠ some g) (hl : l.length ≤ 1000000) (hok : ∀ p ∈ l, qg3 p) (hL : L.length ≤ 1000000000000) :
    Calls Tryz.prog 26 #[.pointer (some ⟨g, 0, none⟩), v] w fun e w' => e = .returned (.tuple #[]) ∧ qav w' g (L ++ prsB l) ∧ w.grownBy w' (some g) := by
 have HP : Hid (∀ W, w.grownBy W (some g) → PS W v l) := fun W hb => hP.kept hb hne
 have HT : Hid (∀ k, (prsB (l.take k)).length ≤ 32 * k) := qg6 l hok
 have HOK : Hid (∀ p ∈ l, qg3 p) := hok
 obtain ⟨a, cap, rfl⟩ := hP.len
 have HS0 : Hid (qav w g L) := hS
 clear hP hS hok
 go_enter Tryz.func26, Tryz.ntmps26
 go_wp2
 go_loopw [8] (fun i wr => ∃ k : Nat, k ≤ l.length ∧ i = .int .i64 (k : Int) ∧ qav wr g (L ++ prsB (l.take k)) ∧ w.grownBy wr (some g)) (fun i _ => l.length - (intOf i).toNat)
 case atStart => exact ⟨0, by omega, rfl, by simpa [prsB] using HS0.out, qcj _ _⟩
 case round =>
  clear HS0
  obtain ⟨k, hk, rfl, hS, hG⟩ := hrel
  by_cases hlt : k < l.length
  · obtain ⟨p, hp⟩ : ∃ p, l[k]? = some p := ⟨_, List.getElem?_eq_getElem hlt⟩
    obtain ⟨gp, rfl, hgp, _, c0, c1, c2⟩ := (HP.out wr hG).cells hp
    have hki : (k : Int) < (l.length : Int) := by omega
    have hT := HT.out k
    have hpk := HOK.out p (List.mem_of_getElem? hp)
    have HX : Hid (L ++ prsB (l.take (k + 1)) = (L ++ prsB (l.take k)) ++ prB p) := by unfold Hid; rw [qm4 l k p hp, List.append_assoc]
    have hln : (L ++ prsB (l.take k)).length ≤ 2000000000000 := by rw [List.length_append]; omega
    generalize L ++ prsB (l.take k) = M at *
    obtain ⟨pb, pc, pd⟩ := p
    obtain ⟨k1, k2⟩ := hpk
    simp only at c0 c1 c2 HX k1 k2
    have HS : Hid (∀ o, qav (wr.alloc o) g M) := fun o => hS.below ((Below.refl _ wr).alloc (Nat.le_refl _) _)
    have HG : Hid (∀ o, w.grownBy (wr.alloc o) (some g)) := fun o => q03 hG o
    have hnr : near (pc : Int) 32 = pc := by unfold near; omega
    clear hp hS hG
    cases pd
    · go_wp2_with fail
      refine (qxx g M pb (pc : Int) _ (HS.out _) k1 (by omega) (by omega)).mono ?_
      rintro e w2 ⟨rfl, hS2, hG2⟩
      rw [hnr] at hS2
      have hF := qdl (HG.out _) hG2
      have hSF : qav w2 g (L ++ prsB (l.take (k + 1))) := by rw [HX.out]; exact hS2
      have HSF : Hid (qav w2 g (L ++ prsB (l.take (k + 1)))) := hSF
      clear hS2 hG2 hSF HS HG
      go_wp2
      go_roundw
      case rel => exact ⟨k + 1, by omega, by go_num, HSF.out, hF⟩
      case measure => simp [intOf]; omega
    · go_wp2_with fail
      refine (qt8 g M pb (pc : Int) _ (HS.out _) k1 (by omega) (by omega)).mono ?_
      rintro e w2 ⟨rfl, hS2, hG2⟩
      rw [hnr] at hS2
      have hF := qdl (HG.out _) hG2
      have hSF : qav w2 g (L ++ prsB (l.take (k + 1))) := by rw [HX.out]; exact hS2
      have HSF : Hid (qav w2 g (L ++ prsB (l.take (k + 1)))) := hSF
      clear hS2 hG2 hSF HS HG
      go_wp2
      go_roundw
      case rel => exact ⟨k + 1, by omega, by go_num, HSF.out, hF⟩
      case measure => simp [intOf]; omega
  · obtain rfl : k = l.length := by omega
    rw [List.take_length] at hS
    have HSF : Hid (qav wr g (L ++ prsB l)) := hS
    clear hS
    go_wp2
    exact bodyPost_end (results_none rfl _ _ _) rfl ⟨rfl, HSF.out, hG⟩
end Go.Proofs.YthkppipdflmekaaGreat
