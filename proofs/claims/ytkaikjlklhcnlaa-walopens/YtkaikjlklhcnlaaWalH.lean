/- Contracts: a log that is full, Reset; the disk's List. -/
import Derived.Test.YtkaikjlklhcnlaaWalG
import Derived.Test.YtkaikjlklhcnlaaDskH
namespace Go.Proofs.Ytkaikjlklhcnlaa
open Go.RowKit Go.Maps
set_option linter.unusedVariables false
set_option linter.unusedSimpArgs false

set_option maxRecDepth 100000 in
set_option maxHeartbeats 1000000 in
theorem add_full {lb d : Nat} {S : DS} {K : Nat → Prop} {gs : List Nat} {rs : List (List UInt8)} {tn : Bool} (s : List UInt8) (w : World) (h : LD w lb d S K gs rs tn) (hs : s.length ≤ 5000) (he : rdE S logN = 0)
    (hR : (prs 200 (rdV S logN)).1.length = 200) :
    Calls Try.prog 19 #[.pointer (some ⟨lb, 0, none⟩), .string (mkT s)] w fun e w' => e = .returned (.int .i64 2) ∧ Below w.heap.size w w' := by
  obtain ⟨hd, v, hg⟩ := h
  obtain ⟨c0, c1, c2⟩ := hg.cells
  have hbig := rdV_big hd logN
  have HR0 := read_any logN w hd (by decide)
  rw [he] at HR0
  have HR : Hid (Calls Try.prog _ _ _ _) := HR0
  clear hd hg HR0 he
  generalize rdV S logN = B at *
  have HP : Hid (∀ W, Calls Try.prog _ _ W _) := fun W => parse_any B W (by omega)
  generalize (prs 200 B).1 = R at *
  generalize (prs 200 B).2 = t at *
  have hss := mkT_sz s
  have hsi : ¬ (5000 : Int) < (s.length : Int) := by omega
  generalize mkT s = T at *
  generalize mkT B = TB at *
  generalize s.length = m at *
  go_enter Try.func19, Try.ntmps19
  go_wp2_with fail
  refine HR.out.mono ?_
  rintro e w1 ⟨rfl, e1⟩
  have e2 := e1.symm
  subst e2
  clear HR e1
  go_wp2_with fail
  refine (HP.out _).mono ?_
  rintro e w1 ⟨v1, rfl, hO, hb⟩
  obtain ⟨a, c, rfl⟩ := hO.shape
  have HB : Hid (Below w.heap.size w w1) := hb
  rw [hR]
  clear hO hb HP hbig hR
  go_wp2
  go_ret
  exact ⟨rfl, HB.out⟩
set_option maxRecDepth 100000 in
set_option maxHeartbeats 1000000 in
theorem reset_any {lb d : Nat} {S : DS} {K : Nat → Prop} {gs : List Nat} {rs : List (List UInt8)} {tn : Bool} (w : World) (h : LD w lb d S K gs rs tn) (hl : LB S 1000) :
    Calls Try.prog 18 #[.pointer (some ⟨lb, 0, none⟩)] w fun e w' => ∃ z, e = .returned (.int .i64 z) ∧ AddP w lb d K gs rs [] tn (repS S []) z w' := by
  obtain ⟨hd, v, hg⟩ := h
  have HD : Hid (DK w d S K gs) := hd
  have HG : Hid (LG w lb d K rs tn v) := hg
  obtain ⟨c0, c1, c2⟩ := hg.cells
  have HR : Hid (Calls Try.prog _ _ _ _) := replace_any [] w hd (by simp) hl
  clear hd hg hl
  go_enter Try.func18, Try.ntmps18
  go_wp2_with fail
  refine HR.out.mono ?_
  rintro e w3 ⟨z, rfl, g, gs', hz, hd3, hgn, hgs, hk3⟩
  have HZ : Hid (z = (repS S [] g).1) := hz
  have HGN : Hid (g ∉ gs ∧ ∀ k ∈ gs, k ∈ gs') := ⟨hgn, hgs⟩
  have HD3 : Hid (DK w3 d (repS S [] g).2 K gs') := hd3
  have HG3 : Hid (LG w3 lb d K rs tn v) := HG.out.kept hk3 (fun k hk => hk)
  have HK3 : Hid (Keeps K w w3) := hk3
  clear hz hd3 hgn hgs hk3 HR c0 c1 c2
  have hc := HG3.out.cell
  have f1 : w3.frozen? ⟨lb, 1, none⟩ = false := by simp [World.frozen?, hc]
  have f2 : w3.frozen? ⟨lb, 2, none⟩ = false := by simp [World.frozen?, hc]
  obtain ⟨q0, q1, q2⟩ := HG3.out.cells
  clear hc
  by_cases h0 : z = 0
  · subst h0
    have HP : Hid (AddP w lb d K gs rs [] tn (repS S []) 0 ((w3.setCell ⟨lb, 1, none⟩ (.slice none 0 0)).setCell ⟨lb, 2, none⟩ (.bool false))) :=
      ⟨⟨K, gs', g, HZ.out, ⟨(HD3.out.setCell HG3.out.kl _).setCell HG3.out.kl _, _, HG3.out.stored (OS.nil _ _) (fun r hr => by cases hr)⟩, HGN.out.1, HGN.out.2, fun k hk => hk⟩,
        ((HK3.out.mono (fun k hk => hk.1)).setCell (fun h => h.2 rfl) _).setCell (fun h => h.2 rfl) _, fun v' hv' => .inr (fun r hr => by
          have hc := (HG3.out.stored (tn' := false) (OS.nil w3 0) (fun r hr => by cases hr)).cells.2.1
          rw [hv'] at hc
          injection hc with hc
          subst hc
          cases hr)⟩
    go_wp2
    go_ret
    exact ⟨0, rfl, HP.out⟩
  · obtain ⟨z0, z1⟩ := neq_facts h0
    have HP : Hid (AddP w lb d K gs rs [] tn (repS S []) z w3) := ⟨⟨K, gs', g, HZ.out, by rw [if_neg h0, if_neg h0]; exact ⟨HD3.out, v, HG3.out⟩, HGN.out.1, HGN.out.2, fun k hk => hk⟩, HK3.out.mono (fun k hk => hk.1), fun v' hv' => .inl (by rw [HG3.out.cells.2.1] at hv'; rw [← hv']; exact HG.out.cells.2.1)⟩
    clear h0
    go_wp2
    go_ret
    exact ⟨z, rfl, HP.out⟩
theorem encS_eq (F : Fo) : (nms F).map encStr = sc (nms F) := by
  unfold sc
  apply List.map_congr_left
  intro x _
  rfl
theorem nms_len (F : Fo) : (nms F).length = F.length := by unfold nms; rw [List.length_mergeSort, List.length_map]
set_option maxRecDepth 100000 in
set_option maxHeartbeats 1000000 in
theorem list_any {d : Nat} {S : DS} {K : Nat → Prop} {gs : List Nat} (w : World) (h : DK w d S K gs) (hd : S.dead = false) (hl : S.now.length ≤ 1000000) :
    Calls Try.prog 30 #[.pointer (some ⟨d, 0, none⟩)] w fun e w' => ∃ v, e = .returned (.tuple #[v, .int .i64 0]) ∧ OS w' w.heap.size v (nms S.now) ∧ Below w.heap.size w w' := by
  obtain ⟨bn, bs, sv, fv, hc1⟩ := h
  obtain ⟨_, c1, _, _, _, c5⟩ := hc1.cells
  rw [hd] at c5
  have HN : Hid (Calls Try.prog _ _ _ _) := names_any hc1.now hl
  have HL : Hid ((nms S.now).length = S.now.length) := nms_len _
  have HE : Hid ((nms S.now).map encStr = sc (nms S.now)) := encS_eq _
  clear hc1
  go_enter Try.func30, Try.ntmps30
  go_wp2_with fail
  refine HN.out.mono ?_
  rintro e w1 ⟨v, rfl, hO, hb⟩
  have HO : Hid (OS w1 w.heap.size v (nms S.now)) := by unfold Hid OS; rw [HL.out, ← HE.out]; exact hO
  have HB : Hid (Below w.heap.size w w1) := hb
  obtain ⟨a, c, rfl⟩ := HO.out.shape
  clear hO hb
  go_wp2
  go_ret2
  exact ⟨_, rfl, HO.out, HB.out⟩
end Go.Proofs.Ytkaikjlklhcnlaa
