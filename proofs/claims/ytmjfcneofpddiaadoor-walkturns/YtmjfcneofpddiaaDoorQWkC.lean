/- Contract: walk.Sort. -/
import Derived.Test.YtmjfcneofpddiaaDoorQWkB
import Derived.Test.YtmjfcneofpddiaaDoorQGrow
namespace Go.Proofs.YtmjfcneofpddiaaDoor
open Go.RowKit Go.Shelf Go.Lib Go.Sort
set_option linter.unusedVariables false
set_option linter.unusedSimpArgs false

/-- What v shows lies in memory at B or behind. -/
def NewV (B : Nat) (v : Value) : Prop := ∀ g o n c, v = .slice (some ⟨g, o, none⟩) n c → B ≤ g
theorem NewV.none (B : Nat) : NewV B (.slice none 0 0) := fun g o n c h => by cases h
theorem NewV.at {B g : Nat} (n c : Nat) (h : B ≤ g) : NewV B (.slice (some ⟨g, 0, Option.none⟩) n c) := fun g' o n c h2 => by cases h2; exact h
set_option maxRecDepth 100000 in
set_option maxHeartbeats 2000000 in
theorem ins_nil (f : Value) (w : World) :
    Calls Tryd.prog 65 #[.slice none 0 0, .int .i64 0, .int .i64 0, f] w fun e w' => e = .returned (.tuple #[]) ∧ w' = w := by
  go_enter Tryd.func65, Tryd.ntmps65
  go_wp2
  go_loopw [8] (fun v wr => v = .int .i64 1 ∧ wr = w) (fun _ _ => 0)
  case atStart => exact ⟨rfl, rfl⟩
  case round =>
    obtain ⟨rfl, rfl⟩ := hrel
    go_wp2
    go_end0
    exact ⟨rfl, rfl⟩
set_option maxRecDepth 100000 in
set_option maxHeartbeats 2000000 in
theorem stable_nil (f : Value) (w : World) :
    Calls Tryd.prog 53 #[.slice none 0 0, .int .i64 0, f] w fun e w' => e = .returned (.tuple #[]) ∧ w' = w := by
  have HI : Hid (Calls Tryd.prog _ _ _ _) := ins_nil f w
  go_enter Tryd.func53, Tryd.ntmps53
  go_wp2
  go_loopw [7, 8] (fun u v wr => u = .int .i64 0 ∧ v = .int .i64 20 ∧ wr = w) (fun _ _ _ => 0)
  case atStart => exact ⟨rfl, rfl, rfl⟩
  case round =>
    obtain ⟨rfl, rfl, rfl⟩ := hrel
    go_wp2_with fail
    refine HI.out.mono ?_
    rintro e w1 ⟨rfl, e1⟩
    have e2 := e1.symm
    subst e2
    clear e1
    go_wp2
    go_loopw [6] (fun v wr2 => v = .int .i64 20 ∧ wr2 = wr) (fun _ _ => 0)
    case atStart => exact ⟨rfl, rfl⟩
    case round =>
      obtain ⟨rfl, rfl⟩ := hrel
      go_wp2
      go_end0
      exact ⟨rfl, rfl⟩
set_option maxRecDepth 100000 in
theorem ssort_nil (f : Value) (w : World) :
    Calls Tryd.prog 41 #[.slice none 0 0, f] w fun e w' => e = .returned (.tuple #[]) ∧ w' = w := by
  have HI : Hid (Calls Tryd.prog _ _ _ _) := stable_nil f w
  go_enter Tryd.func41, Tryd.ntmps41
  go_wp2_with fail
  refine HI.out.mono ?_
  rintro e w1 ⟨rfl, e1⟩
  have e2 := e1.symm
  subst e2
  clear e1
  go_wp2
  go_end0
  exact ⟨rfl, rfl⟩
set_option maxRecDepth 100000 in
set_option maxHeartbeats 2000000 in
theorem sort_nil (a : Option Addr) (cap : Nat) (w : World) (hac : a = none → cap = 0) :
    Calls Tryd.prog 27 #[.slice a 0 cap] w fun e w' => ∃ v', e = .returned v' ∧ IV w' v' [] ∧ RowKit.Below w.heap.size w w' ∧ NewV w.heap.size v' := by
  obtain ⟨i0, hi, hz0, hz1, hz2⟩ := info_parts Tryd.infoIt
  have HN : Hid (w.ownsRow w.heap.size 25 5 (.slice none 0 0) 0 []) := ⟨rfl, .inl ⟨rfl, rfl⟩⟩
  have HR : Hid (∀ W : World, IV W (.slice none 0 0) []) := fun W => ⟨none, 0, rfl, Nat.le_refl _, fun _ => rfl, fun h => absurd rfl h⟩
  cases a with
  | none =>
    obtain rfl := hac rfl
    have HS : Hid (∀ f, Calls Tryd.prog _ #[_, f] w _) := fun f => ssort_nil f w
    go_enter Tryd.func27, Tryd.ntmps27
    go_wp2_with (at_builtin; refine wpList_append_own_none rfl _ _ 22 rfl w.heap.size 25 i0 5 Tryd.underlying22 hi (.slice none 0 0) 0 [] rfl HN.out rfl ?_; go_wp2_with fail)
    refine (HS.out _).mono ?_
    rintro e w1 ⟨rfl, e1⟩
    have e2 := e1.symm
    subst e2
    clear e1
    go_wp2
    go_ret
    exact ⟨_, rfl, HR.out _, RowKit.Below.refl _ _, NewV.none _⟩
  | some x =>
    go_enter Tryd.func27, Tryd.ntmps27
    go_wp2_with (at_builtin; refine wpList_append_own_at _ rfl _ _ 22 rfl w.heap.size 25 i0 (.agg #[.string ⟨#[]⟩, .int .i64 0, .int .i64 0, .int .i64 0, .string ⟨#[]⟩]) 5 56 Tryd.underlying22 hi hz0 hz1 hz2 rfl (by decide) (.slice none 0 0) 0 [] rfl HN.out x 0 cap [] rfl rfl (fun j u h => by simp at h) (fun u h => by simp at h) (by decide) (by decide) (Nat.le_refl _) ?_; intro v' w' hO hg hn hat; obtain rfl : v' = .slice none 0 0 := hn.2 ⟨rfl, rfl⟩; have HG : Hid (RowKit.Below w.heap.size w w') := (RowKit.Below.refl _ _).grown hg (Nat.le_refl _) (fun k hk => by cases hk); have HS : Hid (∀ f, Calls Tryd.prog _ #[_, f] w' _) := fun f => ssort_nil f w'; clear hO hg hn hat; go_wp2_with fail)
    refine (HS.out _).mono ?_
    rintro e w1 ⟨rfl, e1⟩
    have e2 := e1.symm
    subst e2
    clear e1
    go_wp2
    go_ret
    exact ⟨_, rfl, HR.out _, HG.out, NewV.none _⟩
set_option maxRecDepth 100000 in
set_option maxHeartbeats 2000000 in
theorem sort_some (g o cap : Nat) (l : List It) (w : World) (hne : 0 < l.length) (hcap : l.length ≤ cap) (hg : g < w.heap.size) (hc : ∀ j u, (itsC l)[j]? = some u → w.cell? ⟨g, o + j, none⟩ = some u) (hl : l.length ≤ 1000) (hp : ∀ x ∈ l, x.p.length ≤ 1000000) (hm : MaxV w) :
    Calls Tryd.prog 27 #[.slice (some ⟨g, o, none⟩) l.length cap] w fun e w' => ∃ v' l', e = .returned v' ∧ l'.Perm l ∧ Srt l' ∧ IV w' v' l' ∧ RowKit.Below w.heap.size w w' ∧ NewV w.heap.size v' := by
  obtain ⟨i0, hi, hz0, hz1, hz2⟩ := info_parts Tryd.infoIt
  have HN : Hid (w.ownsRow w.heap.size 25 5 (.slice none 0 0) 0 []) := ⟨rfl, .inl ⟨rfl, rfl⟩⟩
  have HC : Hid (∀ j u, (itsC l)[j]? = some u → w.cell? ((⟨g, o, none⟩ : Addr).add j) = some u) := fun j u hu => by rw [Addr.add_mid]; exact hc j u hu
  have HL : Hid ((itsC l).length = l.length * 5) := itsC_len l
  have H1 : Hid (∀ u ∈ itsC l, u.oneCell' = true) := itsC_one l
  haveI : Inhabited (Fin l.length) := ⟨⟨0, hne⟩⟩
  have HS : Hid (∀ (w1 : World) (g1 c1 : Nat), IO w1 w.heap.size (.slice (some ⟨g1, 0, none⟩) l.length c1) l → RowKit.Below w.heap.size w w1 → Calls Tryd.prog 41 #[.slice (some ⟨g1, 0, none⟩) l.length c1, .func (.func 42) #[] #[]] w1 fun e w' => e = .returned (.tuple #[]) ∧ ∃ l', l'.Perm l ∧ Srt l' ∧ IV w' (.slice (some ⟨g1, 0, none⟩) l.length c1) l' ∧ RowKit.Below w.heap.size w w' ∧ NewV w.heap.size (.slice (some ⟨g1, 0, none⟩) l.length c1)) := by
    intro w1 g1 c1 hO hb
    have hlt := World.ownsRow.lt hO g1 rfl
    have hcc : l.length ≤ c1 := by
      rcases hO.2 with ⟨e, _⟩ | ⟨g', cap', cur, e, _, _, h, _⟩
      · cases e
      · cases e; exact h
    have hm1 := hm.below (w' := w1) ⟨hb.os, hb.tape, hb.output, hb.size, hb.block⟩
    have hbm : g1 ≠ 2 := fun e => by
      obtain ⟨m, h⟩ := hm
      have := World.block_lt_of_cell? _ _ h
      simp only at this
      omega
    have R : RowK (encP l) 5 w1 g1 0 (Array.ofFn (fun i : Fin l.length => i)) := ⟨fun x => itC_len _, fun x => itC_one _, holds_its l hO, hlt.2⟩
    have h := ksort_any R 42 #[] (fun args w => enters_of Tryd.func42 (by kernel_rfl) rfl args w) (cfP l) (swoP l) (cmpLaysP l g1 0 _ w1 hp hm1 hbm) c1 (by rw [Array.size_ofFn]; omega)
    rw [Array.size_ofFn] at h
    refine h.mono ?_
    rintro e w2 ⟨rfl, d', q1, q2, q3⟩
    obtain ⟨s1, s2⟩ := perm_of q1
    refine ⟨rfl, _, s2, srt_of s1 q2, iv_of_holds l d' s1 hcc ?_ (q3.holds R.hblk R.hH (by rw [s1, Array.size_ofFn])), hb.trans (swk_below q3 hlt.1 hb.size), NewV.at _ _ hlt.1⟩
    have := (swk_below q3 hlt.1 hb.size).size
    omega
  clear hc hm hp
  go_enter Tryd.func27, Tryd.ntmps27
  go_wp2_with (at_builtin; refine wpList_append_own_at _ rfl _ _ 22 rfl w.heap.size 25 i0 (.agg #[.string ⟨#[]⟩, .int .i64 0, .int .i64 0, .int .i64 0, .string ⟨#[]⟩]) 5 56 Tryd.underlying22 hi hz0 hz1 hz2 rfl (by decide) (.slice none 0 0) 0 [] rfl HN.out ⟨g, o, none⟩ l.length cap (itsC l) rfl HL.out HC.out H1.out (by unfold maxLen; omega) (by omega) (Nat.le_refl _) ?_; intro v' w' hO hg' hn hat; rw [Nat.zero_add, List.nil_append] at hO; obtain ⟨g1, c1, rfl, _⟩ := own_frm0 hO hne; have HS1 : Hid (Calls Tryd.prog _ _ _ _) := HS.out w' g1 c1 hO ((RowKit.Below.refl _ _).grown hg' (Nat.le_refl _) (fun k hk => by cases hk)); clear hO hg' hn hat; go_wp2_with fail)
  refine HS1.out.mono ?_
  rintro e w2 ⟨rfl, l', q1, q2, q3, q4, q5⟩
  have HQ : Hid (l'.Perm l ∧ Srt l' ∧ IV w2 (.slice (some ⟨g1, 0, none⟩) l.length c1) l' ∧ RowKit.Below w.heap.size w w2 ∧ NewV w.heap.size (.slice (some ⟨g1, 0, none⟩) l.length c1)) := ⟨q1, q2, q3, q4, q5⟩
  clear q1 q2 q3 q4 q5
  go_wp2
  go_ret
  exact ⟨_, l', rfl, HQ.out⟩
theorem sort_new (v : Value) (l : List It) (w : World) (hR : IV w v l) (hl : l.length ≤ 1000) (hp : ∀ x ∈ l, x.p.length ≤ 1000000) (hm : MaxV w) :
    Calls Tryd.prog 27 #[v] w fun e w' => ∃ v' l', e = .returned v' ∧ l'.Perm l ∧ Srt l' ∧ IV w' v' l' ∧ RowKit.Below w.heap.size w w' ∧ NewV w.heap.size v' := by
  obtain ⟨a, cap, rfl, hc, hn, hf⟩ := hR
  by_cases h0 : l = []
  · subst h0
    refine (sort_nil a cap w hn).mono ?_
    rintro e w' ⟨v', rfl, h1, h2, h3⟩
    exact ⟨v', [], rfl, .refl _, .nil, h1, h2, h3⟩
  · obtain ⟨g, o, rfl, hg, hcl⟩ := hf h0
    exact sort_some g o cap l w (List.length_pos_iff.2 h0) hc hg hcl hl hp hm
theorem sort_any (v : Value) (l : List It) (w : World) (hR : IV w v l) (hl : l.length ≤ 1000) (hp : ∀ x ∈ l, x.p.length ≤ 1000000) (hm : MaxV w) :
    Calls Tryd.prog 27 #[v] w fun e w' => ∃ v' l', e = .returned v' ∧ l'.Perm l ∧ Srt l' ∧ IV w' v' l' ∧ RowKit.Below w.heap.size w w' := by
  refine (sort_new v l w hR hl hp hm).mono ?_
  rintro e w' ⟨v', l', rfl, h1, h2, h3, h4, _⟩
  exact ⟨v', l', rfl, h1, h2, h3, h4⟩
end Go.Proofs.YtmjfcneofpddiaaDoor
