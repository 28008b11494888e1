/- A log in memory; contracts: Open, Records, Torn. -/
import Derived.Test.YtkaikjlklhcnlaaWalC
import Derived.Test.YtkaikjlklhcnlaaWalE
import Derived.Test.YtkaikjlklhcnlaaDskG
import Derived.Lib.SliceRun
namespace Go.Proofs.Ytkaikjlklhcnlaa
open Go.RowKit Go.Maps
set_option linter.unusedVariables false
set_option linter.unusedSimpArgs false

/-- Others hold all that is new. -/
theorem DK.newAll {w w' : World} {d : Nat} {S : DS} {K : Nat → Prop} {gs : List Nat} (h : DK w d S K gs) (hb : Below w.heap.size w w') : DK w' d S (fun k => K k ∨ w.heap.size ≤ k ∧ k < w'.heap.size) gs :=
  h.kept (fun k hk _ => hb.block k hk) (fun k hk => by
    rcases hk with hk | hk
    · exact ⟨Nat.lt_of_lt_of_le (h.Kb k hk) hb.size, .inl hk⟩
    · exact ⟨hk.2, .inr hk.1⟩)
/-- Others' memory has turned, and grown. -/
theorem DK.grown {w w' : World} {d : Nat} {S : DS} {K : Nat → Prop} {gs : List Nat} {row : Option Nat} (h : DK w d S K gs) (hg : w.grownBy w' row) (hr : ∀ r, row = some r → K r) : DK w' d S (fun k => K k ∨ w.heap.size ≤ k ∧ k < w'.heap.size) gs :=
  h.kept (fun k hk hn => hg.block k hk (fun e => hn (hr k e.symm))) (fun k hk => by
    rcases hk with hk | hk
    · exact ⟨Nat.lt_of_lt_of_le (h.Kb k hk) hg.size, .inl hk⟩
    · exact ⟨hk.2, .inr hk.1⟩)
theorem DK.setCell {w : World} {d : Nat} {S : DS} {K : Nat → Prop} {gs : List Nat} (h : DK w d S K gs) {b o : Nat} (hb : K b) (u : Value) : DK (w.setCell ⟨b, o, none⟩ u) d S K gs :=
  h.kept (fun k hk hn => Below.heap_setCell _ _ _ _ (fun e => hn (by rw [e]; exact hb))) (fun k hk => ⟨by simp [World.setCell]; exact h.Kb k hk, .inl hk⟩)
/-- A log: block lb, its records a row of their own; others hold both. -/
structure LG (w : World) (lb d : Nat) (K : Nat → Prop) (rs : List (List UInt8)) (tn : Bool) (v : Value) : Prop where
  cell : w.heap[lb]? = some (.cells #[.pointer (some ⟨d, 0, none⟩), v, .bool tn] 72 (0, 0))
  row : OS w 0 v rs
  kl : K lb
  kr : ∀ r, v.ownBlock = some r → K r ∧ r ≠ lb
theorem LG.kept {w w' : World} {lb d : Nat} {K K' : Nat → Prop} {rs : List (List UInt8)} {tn : Bool} {v : Value} (h : LG w lb d K rs tn v) (hk : Keeps K w w') (hK : ∀ k, K k → K' k) : LG w' lb d K' rs tn v :=
  ⟨(hk.block lb h.kl).trans h.cell, own_kept h.row (fun r hr => hk.block r (h.kr r hr).1), hK _ h.kl, fun r hr => ⟨hK _ (h.kr r hr).1, (h.kr r hr).2⟩⟩
theorem LG.lt {w : World} {lb d : Nat} {K : Nat → Prop} {rs : List (List UInt8)} {tn : Bool} {v : Value} (h : LG w lb d K rs tn v) : lb < w.heap.size := (Array.getElem?_eq_some_iff.1 h.cell).1
theorem LG.below {w w' : World} {lb d : Nat} {K K' : Nat → Prop} {rs : List (List UInt8)} {tn : Bool} {v : Value} (h : LG w lb d K rs tn v) (hb : Below w.heap.size w w') (hK : ∀ k, K k → K' k) : LG w' lb d K' rs tn v :=
  ⟨(hb.block lb h.lt).trans h.cell, own_kept h.row (fun r hr => hb.block r (own_lt h.row hr).1), hK _ h.kl, fun r hr => ⟨hK _ (h.kr r hr).1, (h.kr r hr).2⟩⟩
theorem LG.cells {w : World} {lb d : Nat} {K : Nat → Prop} {rs : List (List UInt8)} {tn : Bool} {v : Value} (h : LG w lb d K rs tn v) : w.cell? ⟨lb, 0, none⟩ = some (.pointer (some ⟨d, 0, none⟩)) ∧ w.cell? ⟨lb, 1, none⟩ = some v ∧ w.cell? ⟨lb, 2, none⟩ = some (.bool tn) := by
  refine ⟨?_, ?_, ?_⟩ <;> · unfold World.cell?; rw [h.cell]; rfl
/-- A disk and a log on it. -/
def LD (w : World) (lb d : Nat) (S : DS) (K : Nat → Prop) (gs : List Nat) (rs : List (List UInt8)) (tn : Bool) : Prop := DK w d S K gs ∧ ∃ v, LG w lb d K rs tn v
set_option maxRecDepth 100000 in
set_option maxHeartbeats 1000000 in
theorem open_bad {d : Nat} {S : DS} {K : Nat → Prop} {gs : List Nat} (w : World) (h : DK w d S K gs) (he : rdE S logN ≠ 0) :
    Calls Try.prog 21 #[.pointer (some ⟨d, 0, none⟩)] w fun e w' => e = .returned (.tuple #[.pointer none, .int .i64 (rdE S logN)]) ∧ w' = w := by
  have HR : Hid (Calls Try.prog _ _ _ _) := read_any logN w h (by decide)
  clear h
  obtain ⟨z0, z1⟩ := neq_facts he
  clear he
  generalize rdE S logN = z at *
  generalize mkT (rdV S logN) = T at *
  go_enter Try.func21, Try.ntmps21
  go_wp2_with fail
  refine HR.out.mono ?_
  rintro e w1 ⟨rfl, e1⟩
  have e2 := e1.symm
  subst e2
  clear HR e1
  go_wp2
  go_ret2
  exact ⟨rfl, rfl⟩
theorem zeroLog (w : World) : (zeroValue 72).run Try.prog w = .ok (.agg #[.pointer none, .slice none 0 0, .bool false]) w := by kernel_rfl
set_option maxRecDepth 100000 in
set_option maxHeartbeats 1000000 in
theorem open_good' {d : Nat} {S : DS} {K : Nat → Prop} {gs : List Nat} (w : World) (h : DK w d S K gs) (he : rdE S logN = 0) (hB : (rdV S logN).length ≤ 1099511627776) :
    Calls Try.prog 21 #[.pointer (some ⟨d, 0, none⟩)] w fun e w' => ∃ lb K', e = .returned (.tuple #[.pointer (some ⟨lb, 0, none⟩), .int .i64 0]) ∧ LD w' lb d S K' gs (prs 200 (rdV S logN)).1 (decide ((prs 200 (rdV S logN)).2 < (rdV S logN).length)) ∧ (∀ k, K k → K' k) ∧ w.heap.size ≤ lb ∧ Below w.heap.size w w' ∧ ∀ v, w'.cell? ⟨lb, 1, none⟩ = some v → ∀ r, v.ownBlock = some r → w.heap.size ≤ r := by
  have HD : Hid (DK w d S K gs) := h
  have HR0 := read_any logN w h (by decide)
  rw [he] at HR0
  have HR : Hid (Calls Try.prog _ _ _ _) := HR0
  clear h he HR0
  generalize rdV S logN = B at *
  have HP : Hid (∀ W, Calls Try.prog _ _ W _) := fun W => parse_any B W hB
  have hsz := mkT_sz B
  have hzl := zeroLog
  obtain ⟨t, ht⟩ : ∃ t, (prs 200 B).2 = t := ⟨_, rfl⟩
  have HTT : Hid ((prs 200 B).2 = t) := ht
  obtain ⟨n, hn⟩ : ∃ n, B.length = n := ⟨_, rfl⟩
  rw [hn] at hsz
  have hBi : n ≤ 1099511627776 := by rw [← hn]; exact hB
  rw [ht, hn]
  generalize (prs 200 B).1 = rs at *
  go_enter Try.func21, Try.ntmps21
  go_wp2_with fail
  refine HR.out.mono ?_
  rintro e w1 ⟨rfl, e1⟩
  have e2 := e1.symm
  subst e2
  clear HR e1
  go_wp2_with fail
  refine (HP.out _).mono ?_
  rw [ht]
  rintro e w1 ⟨v, rfl, hO, hb⟩
  obtain ⟨a, c, rfl⟩ := hO.shape
  have HO : Hid (OS w1 w.heap.size (.slice a rs.length c) rs) := hO
  have HB : Hid (Below w.heap.size w w1) := hb
  clear hO hb HP ht hn hB
  have HL : Hid (∀ tn, ∃ K', LD (w1.alloc (.cells #[.pointer (some ⟨d, 0, none⟩), .slice a rs.length c, .bool tn] 72)) w1.heap.size d S K' gs rs tn ∧ (∀ k, K k → K' k) ∧ w.heap.size ≤ w1.heap.size ∧ Below w.heap.size w (w1.alloc (.cells #[.pointer (some ⟨d, 0, none⟩), .slice a rs.length c, .bool tn] 72)) ∧ ∀ v, (w1.alloc (.cells #[.pointer (some ⟨d, 0, none⟩), .slice a rs.length c, .bool tn] 72)).cell? ⟨w1.heap.size, 1, none⟩ = some v → ∀ r, v.ownBlock = some r → w.heap.size ≤ r) := fun tn => by
    have hb2 : Below w.heap.size w (w1.alloc (.cells #[.pointer (some ⟨d, 0, none⟩), .slice a rs.length c, .bool tn] 72)) := HB.out.alloc HB.out.size _
    have hb1 : Below w1.heap.size w1 (w1.alloc (.cells #[.pointer (some ⟨d, 0, none⟩), .slice a rs.length c, .bool tn] 72)) := (Below.refl _ _).alloc (Nat.le_refl _) _
    refine ⟨_, ⟨HD.out.newAll hb2, .slice a rs.length c, heap_alloc_new w1 _, (HO.out.below hb1).mono (Nat.zero_le _), .inr ⟨HB.out.size, by simp⟩, fun r hr => ?_⟩, fun k hk => .inl hk, HB.out.size, hb2, fun v hv r hr => ?_⟩
    rotate_left
    · have hc : (w1.alloc (.cells #[.pointer (some ⟨d, 0, none⟩), .slice a rs.length c, .bool tn] 72)).cell? ⟨w1.heap.size, 1, none⟩ = some (.slice a rs.length c) := by
        unfold World.cell?; rw [heap_alloc_new w1 _]; rfl
      rw [hc] at hv
      injection hv with hv
      subst hv
      exact (HO.out.lt r hr).1
    obtain ⟨h1, h2⟩ := HO.out.lt r hr
    exact ⟨.inr ⟨h1, by simp; omega⟩, by omega⟩
  by_cases htn : t < n
  · have hti : (t : Int) < (n : Int) := by omega
    obtain ⟨K', HQ⟩ := HL.out true
    have HQ' : Hid (_ ∧ _) := HQ
    have HTN : Hid (decide (t < n) = true) := decide_eq_true htn
    clear HL HQ
    go_wp2
    go_ret2
    rw [HTN.out]
    exact ⟨_, K', rfl, HQ'.out⟩
  · have hti : ¬ (t : Int) < (n : Int) := by omega
    obtain ⟨K', HQ⟩ := HL.out false
    have HQ' : Hid (_ ∧ _) := HQ
    have HTN : Hid (decide (t < n) = false) := decide_eq_false htn
    clear HL HQ
    go_wp2
    go_ret2
    rw [HTN.out]
    exact ⟨_, K', rfl, HQ'.out⟩
theorem open_good {d : Nat} {S : DS} {K : Nat → Prop} {gs : List Nat} (w : World) (h : DK w d S K gs) (he : rdE S logN = 0) (hB : (rdV S logN).length ≤ 1099511627776) :
    Calls Try.prog 21 #[.pointer (some ⟨d, 0, none⟩)] w fun e w' => ∃ lb K', e = .returned (.tuple #[.pointer (some ⟨lb, 0, none⟩), .int .i64 0]) ∧ LD w' lb d S K' gs (prs 200 (rdV S logN)).1 (decide ((prs 200 (rdV S logN)).2 < (rdV S logN).length)) ∧ (∀ k, K k → K' k) ∧ w.heap.size ≤ lb ∧ Below w.heap.size w w' :=
  (open_good' w h he hB).mono fun e w' ⟨lb, K', h1, h2, h3, h4, h5, _⟩ => ⟨lb, K', h1, h2, h3, h4, h5⟩
theorem OS.empty (w : World) : OS (w.alloc (.cells #[] 9)) w.heap.size (.slice (some ⟨w.heap.size, 0, none⟩) 0 0) [] :=
  ⟨rfl, .inr ⟨w.heap.size, 0, #[], rfl, Nat.le_refl _, heap_alloc_new w _, Nat.le_refl _, by decide, rfl, rfl⟩⟩
theorem OS.nil (w : World) (B : Nat) : OS w B (.slice none 0 0) [] := ⟨rfl, .inl ⟨rfl, rfl⟩⟩
set_option maxRecDepth 100000 in
set_option maxHeartbeats 1000000 in
theorem sclone_any (v : Value) (l : List (List UInt8)) (B : Nat) (w : World) (hO : OS w B v l) (hl : l.length ≤ 100000) :
    Calls Try.prog 46 #[v] w fun e w' => ∃ v', e = .returned v' ∧ OS w' w.heap.size v' l ∧ Below w.heap.size w w' := by
  have q22 : ∀ (w : World) (a : Option Addr) (n c n' c' : Nat), (binOp .eql 23 (.slice a n c) (.slice none n' c')).run Try.prog w = .ok (.bool a.isNone) w := fun w a n c n' c' => Lib.run_eql_slice_nil w _ _ a n c n' c' Try.underlying23
  have HO : Hid (OS w B v l) := hO
  rcases hO.2 with ⟨rfl, h0⟩ | ⟨g, cap, cur, rfl, _⟩
  · have HL : Hid (l = []) := List.length_eq_zero_iff.1 h0
    clear hO h0
    go_enter Try.func46, Try.ntmps46
    go_wp2
    go_ret
    rw [HL.out]
    exact ⟨_, rfl, OS.nil _ _, Below.refl _ _⟩
  · clear hO
    have hb : Below w.heap.size w (w.alloc (.cells #[] 9)) := (Below.refl _ _).alloc (Nat.le_refl _) _
    have HB : Hid (Below w.heap.size w (w.alloc (.cells #[] 9))) := hb
    have HE : Hid (OS (w.alloc (.cells #[] 9)) w.heap.size (.slice (some ⟨w.heap.size, 0, none⟩) 0 0) []) := OS.empty w
    have HU : Hid (OS (w.alloc (.cells #[] 9)) B (.slice (some ⟨g, 0, none⟩) l.length cap) l) := HO.out.below hb
    have hsz : w.heap.size ≤ (w.alloc (.cells #[] 9)).heap.size := hb.size
    clear hb
    go_enter Try.func46, Try.ntmps46
    go_wp2_with (at_builtin; refine append_os rfl _ _ rfl w.heap.size B (.slice (some ⟨w.heap.size, 0, none⟩) 0 0) (.slice (some ⟨g, 0, none⟩) l.length cap) [] l rfl rfl HE.out HU.out (by simp; omega) (by simp) ?_; intro v' w' hO' hg' _)
    rw [List.nil_append] at hO'
    obtain ⟨a', c', rfl⟩ := hO'.shape
    have HO' : Hid (OS w' w.heap.size (.slice a' l.length c') l) := hO'
    have HB' : Hid (Below w.heap.size w w') := HB.out.grown hg' (by simp) (fun k hk => by cases hk; exact Nat.le_refl _)
    clear hO' hg'
    go_wp2
    go_ret
    exact ⟨_, rfl, HO'.out, HB'.out⟩
set_option maxRecDepth 100000 in
set_option maxHeartbeats 1000000 in
theorem records_any {lb d : Nat} {K : Nat → Prop} {rs : List (List UInt8)} {tn : Bool} {v : Value} (w : World) (h : LG w lb d K rs tn v) (hl : rs.length ≤ 100000) :
    Calls Try.prog 24 #[.pointer (some ⟨lb, 0, none⟩)] w fun e w' => ∃ v', e = .returned v' ∧ OS w' w.heap.size v' rs ∧ Below w.heap.size w w' := by
  obtain ⟨c0, c1, c2⟩ := h.cells
  have HC : Hid (∀ W, Calls _ _ _ _ _) := fun W : Unit => sclone_any v rs 0 w h.row hl
  obtain ⟨a, c, rfl⟩ := h.row.shape
  clear h
  go_enter Try.func24, Try.ntmps24
  go_wp2_with fail
  refine (HC.out ()).mono ?_
  rintro e w1 ⟨v', rfl, hO, hb⟩
  have HO : Hid (OS w1 w.heap.size v' rs) := hO
  have HB : Hid (Below w.heap.size w w1) := hb
  obtain ⟨a', c', rfl⟩ := hO.shape
  clear hO hb
  go_wp2
  go_ret
  exact ⟨_, rfl, HO.out, HB.out⟩
theorem torn_any {lb d : Nat} {K : Nat → Prop} {rs : List (List UInt8)} {tn : Bool} {v : Value} (w : World) (h : LG w lb d K rs tn v) :
    Calls Try.prog 26 #[.pointer (some ⟨lb, 0, none⟩)] w fun e w' => e = .returned (.bool tn) ∧ w' = w := by
  obtain ⟨c0, c1, c2⟩ := h.cells
  clear h
  go_enter Try.func26, Try.ntmps26
  go_wp2
  go_ret
  exact ⟨rfl, rfl⟩
end Go.Proofs.Ytkaikjlklhcnlaa
