/- The law's All: nodes of records. -/
import Derived.Test.YtecpapifkbfblaaDoorNodO
namespace Go.Proofs.YtecpapifkbfblaaDoor
open Go.RowKit
set_option linter.unusedVariables false
set_option linter.unusedSimpArgs false

def cut20 (r : Rc) : Rc := { r with ch := r.ch.take 20 }
def allN (rs : List Rc) : List Nd := (rs.take 210).map fun r => ndOf (cut20 r)
theorem cut20_ok {r : Rc} (h : r.ok) : (cut20 r).ok := by
  obtain ⟨h1, h2, h3, h4, h5, h6, h7, h8⟩ := h
  exact ⟨h1, h2, h3, h4, h5, h6, by show (r.ch.take 20).length ≤ _; rw [List.length_take]; omega, fun x hx => h8 x (List.mem_of_mem_take hx)⟩
theorem allN_len (rs : List Rc) : (allN rs).length ≤ 210 := by unfold allN; rw [List.length_map, List.length_take]; omega
theorem take_snoc' {α : Type} (l : List α) (k : Nat) (d : α) (h : k < l.length) : l.take (k + 1) = l.take k ++ [l.getD k d] := by
  rw [List.take_add_one, List.getElem?_eq_getElem h, List.getD_eq_getElem?_getD, List.getElem?_eq_getElem h]; rfl
theorem TR.cut {w : World} {u : Value} {l : List (List UInt8)} (h : TR w u l) (n : Nat) (hn : n ≤ l.length) : ∃ a cap, u = .slice a l.length cap ∧ l.length ≤ cap ∧ TR w (.slice a n cap) (l.take n) := by
  obtain ⟨a, cap, rfl, h1, h2⟩ := h
  have hl : (l.take n).length = n := by rw [List.length_take]; omega
  refine ⟨a, cap, rfl, h1, a, cap, by rw [hl], by rw [hl]; omega, fun i hi => ?_⟩
  rw [hl] at hi
  obtain ⟨x, hx, hc⟩ := h2 i (by omega)
  refine ⟨x, hx, ?_⟩
  rw [hc, List.getD_eq_getElem?_getD, List.getD_eq_getElem?_getD, List.getElem?_take, if_pos hi]
theorem TR.cut2 {w : World} {a : Option Addr} {n' cap : Nat} {l : List (List UInt8)} (h : TR w (.slice a n' cap) l) (n : Nat) (hn : n ≤ l.length) : n ≤ cap ∧ TR w (.slice a n cap) (l.take n) := by
  obtain ⟨a', cap', he, h1, h2⟩ := h.cut n hn
  injection he with e1 e2 e3
  subst e1 e3
  exact ⟨by omega, h2⟩
theorem TR.below' {w w' : World} {v : Value} {l : List (List UInt8)} (h : TR w v l) (hb : Below w.heap.size w w') : TR w' v l := h.below hb
theorem NO.form {w : World} {B : Nat} {v : Value} {n : Nd} (h : NO w B v n) : (∃ T y, v = .iface T y) ∨ v = .nilIface := by
  cases n with
  | fol => exact .inl ⟨_, _, h⟩
  | pla => obtain ⟨y, h1, _⟩ := h; exact .inl ⟨_, _, h1⟩
  | sym => exact .inl ⟨_, _, h⟩
  | ptr => obtain ⟨b, _, h1, _⟩ := h; exact .inl ⟨_, _, h1⟩
  | non => exact .inr h
set_option maxRecDepth 100000 in
set_option maxHeartbeats 2000000 in
theorem all_any (rs : List Rc) (a : Option Addr) (len cap : Nat) (w : World) (h : IsRecs w a len cap rs) :
    Calls Tryd.prog 5 #[.slice a len cap] w fun e w' => ∃ v, e = .returned v ∧ ON w' w.heap.size v (allN rs) ∧ Below w.heap.size w w' := by
  obtain ⟨hlen, hrow⟩ := h
  obtain ⟨i0, hi, hz0, hz1, hz2⟩ := info_parts Tryd.infoNd
  have hlen63 : len ≤ 9223372036854775807 := by rcases hrow with ⟨_, h, _⟩ | ⟨x, _, h1, h2, _⟩ <;> omega
  have hal : ∀ o : Obj, Below w.heap.size w (w.alloc o) := fun o => (Below.refl _ _).alloc (Nat.le_refl _) o
  go_enter Tryd.func5, Tryd.ntmps5
  go_wp2
  go_loopw [3, 4] (fun v i wr => ∃ k : Nat, i = .int .i64 (k : Int) ∧ k ≤ len ∧ k ≤ 210 ∧ ON wr w.heap.size v ((rs.take k).map fun r => ndOf (cut20 r)) ∧ Below w.heap.size w wr) (fun _ i _ => match i with | .int _ n => 210 - n.toNat | _ => 0)
  case atStart =>
    refine ⟨0, rfl, by omega, by omega, ⟨[], rfl, ?_, fun i hi => by simp at hi⟩, hal _⟩
    exact World.ownsRow_made (base := w.heap.size) (e := 44) (size := 1) w #[] 0 (Nat.le_refl _) (by decide) rfl
  case round =>
    obtain ⟨k, hu4, hk1, hk2, hO, hB⟩ := hrel
    subst hu4
    have HO : Hid (ON wr w.heap.size u3 ((rs.take k).map fun r => ndOf (cut20 r))) := hO
    have HB : Hid (Below w.heap.size w wr) := hB
    have hkl : ((rs.take k).map fun r => ndOf (cut20 r)).length = k := by rw [List.length_map, List.length_take]; omega
    obtain ⟨va, vc, hv⟩ : ∃ a c, u3 = .slice a k c := by obtain ⟨a, c, hv, _⟩ := hO.ln; rw [hkl] at hv; exact ⟨a, c, hv⟩
    clear hO hB
    subst hv
    by_cases hgo : k < len ∧ k < 210
    · obtain ⟨hg1, hg2⟩ := hgo
      obtain ⟨x, rfl, hlc, hcm, hcell⟩ : ∃ x : Addr, a = some x ∧ len ≤ cap ∧ cap ≤ 9223372036854775807 ∧ ∀ i, i < len → (rs.getD i default).ok ∧ ∃ u, TR w u (rs.getD i default).ch ∧ ∀ j v, ((rs.getD i default).cells u)[j]? = some v → w.cell? (x.add (i * 7 + j)) = some v := by
        rcases hrow with ⟨_, h, _⟩ | h
        · omega
        · exact h
      obtain ⟨hok, u, hTR, hcs⟩ := hcell k hg1
      have hi1 : (k : Int) < (len : Int) := by omega
      have hi2 : (k : Int) < 210 := by omega
      have HA : Hid (∀ v', ∀ w', ON w' w.heap.size v' (((rs.take k).map fun r => ndOf (cut20 r)) ++ [ndOf (cut20 (rs.getD k default))]) → ON w' w.heap.size v' ((rs.take (k + 1)).map fun r => ndOf (cut20 r))) := fun v' w' h => by
        rw [take_snoc' rs k default (by omega), List.map_append]; exact h
      obtain ⟨b, o, rfl⟩ : ∃ b o, x = ⟨b, o, none⟩ := by
        obtain ⟨_, u0, _, h0⟩ := hcell 0 (by omega)
        have h1 := h0 0 _ rfl
        have h2 : w.cell? x = some _ := h1
        obtain ⟨b, o, s⟩ := x
        cases s with
        | none => exact ⟨b, o, rfl⟩
        | some s => unfold World.cell? at h2; split at h2 <;> simp at h2
      have HCL : Hid (∀ w', Below w.heap.size w w' → ∀ j v, ((rs.getD k default).cells u)[j]? = some v → w'.cell? ⟨b, o + k * 7 + j, none⟩ = some v) := fun w' hb j v hv => by
        have h1 := hcs j v hv
        rw [Addr.add_mid] at h1
        rw [Nat.add_assoc, hb.cell (p := ⟨b, o + (k * 7 + j), none⟩) (World.block_lt_of_cell? _ _ h1)]; exact h1
      have HTR : Hid (TR w u (rs.getD k default).ch) := hTR
      generalize rs.getD k default = r at *
      clear hcs hTR hcell hrow
      obtain ⟨kind, at', mode, time, size, ch, tg⟩ := r
      obtain ⟨ua, uc, rfl⟩ : ∃ a c, u = .slice a ch.length c := by obtain ⟨a, c, hv, _⟩ := HTR.out; exact ⟨a, c, hv⟩
      have c0 := HCL.out wr HB.out 0 _ rfl
      have c1 := HCL.out wr HB.out 1 _ rfl
      have c2 := HCL.out wr HB.out 2 _ rfl
      have c3 := HCL.out wr HB.out 3 _ rfl
      have c4 := HCL.out wr HB.out 4 _ rfl
      have c5 := HCL.out wr HB.out 5 _ rfl
      have c6 := HCL.out wr HB.out 6 _ rfl
      rw [Nat.add_zero] at c0
      clear HCL
      generalize hnd : ndOf (cut20 ⟨kind, at', mode, time, size, ch, tg⟩) = nd at *
      by_cases hch : 20 < ch.length
      · have hchi : (20 : Int) < (ch.length : Int) := by omega
        have HND : Hid (nd = ndOf ⟨kind, at', mode, time, size, ch.take 20, tg⟩) := hnd.symm
        obtain ⟨huc, hTC⟩ := TR.cut2 (l := ch) HTR.out 20 (by omega)
        have HTC : Hid (TR wr (.slice ua 20 uc) (ch.take 20)) := TR.below hTC HB.out
        have hu20 : 20 ≤ uc := by omega
        have hu20i : (20 : Int) ≤ (uc : Int) := by omega
        clear hTC hnd hok HTR
        go_wp2_with fail
        refine (of_any ⟨kind, at', mode, time, size, ch.take 20, tg⟩ (.slice ua 20 uc) _ (HTC.out.below ((Below.refl _ _).alloc (Nat.le_refl _) _)) (by show (ch.take 20).length ≤ 100000; rw [List.length_take]; omega)).mono ?_
        rintro e w5 ⟨u5, rfl, hN5, hb5⟩
        have hbb : Below wr.heap.size wr w5 := belN ((Below.refl _ _).alloc (Nat.le_refl _) _) hb5
        have HO5 : Hid (ON w5 w.heap.size (.slice va k vc) ((rs.take k).map fun r => ndOf (cut20 r))) := HO.out.below hbb
        have HN5 : Hid (NO w5 w.heap.size u5 nd) := by
          unfold Hid; rw [HND.out]; exact hN5.mono (by have := HB.out.size; simp; omega)
        have HB5 : Hid (Below w.heap.size w w5) := belN HB.out hbb
        clear hN5 hb5 hbb c0 c1 c2 c3 c4 c5 c6 HTC
        have hB5 : w.heap.size ≤ w5.heap.size := HB5.out.size
        have hform := HN5.out.form
        obtain ⟨vs, hvl, hrow, hnos⟩ := HO5.out
        rw [hkl] at hrow hvl hnos
        rcases hform with ⟨T, y, rfl⟩ | rfl
        · go_wp2_with (at_builtin; refine wpList_append_own _ rfl _ _ 23 rfl w.heap.size 44 i0 .nilIface 1 16 Tryd.underlying23 hi hz0 hz1 hz2 rfl (by decide) _ _ _ rfl (hrow.alloc _) _ 1 _ [.iface T y] rfl rfl ?c1 ?c5 ?c2 ?c3 ?c4 ?_)
          case c5 => intro y hy; simp at hy; subst hy; rfl
          case c1 =>
            intro j y hj
            match j, hj with
            | 0, hj => simp at hj; subst hj; simp [Addr.add_lit]
            | j + 1, hj => simp at hj
          case c2 => unfold maxLen; omega
          case c3 => omega
          case c4 => simp; omega
          intro v' w6 hown' hgrow' _
          have HA6 : Hid (ON w6 w.heap.size v' ((rs.take (k + 1)).map fun r => ndOf (cut20 r))) := by
            refine HA.out _ _ ⟨vs ++ [.iface T y], by rw [List.length_append, List.length_append, hvl, hkl]; rfl, by rw [List.length_append, hkl]; exact hown', fun i hi => ?_⟩
            rw [getD_snoc, getD_snoc, hvl, hkl]
            by_cases e1 : i < k
            · rw [if_pos e1, if_pos e1]
              exact ((hnos i e1).alloc _).beside (hrow.alloc _) hgrow'
            · have e2 : i = k := by simp at hi; omega
              rw [if_neg e1, if_neg e1, if_pos e2, if_pos e2]
              exact (HN5.out.alloc _).beside (hrow.alloc _) hgrow'
          have HB6 : Hid (Below w.heap.size w w6) := (HB5.out.alloc hB5 _).grown hgrow' (by simp; omega) (fun j hj => (World.ownsRow.lt hrow j hj).1)
          go_wp2
          go_roundw
          case rel => exact ⟨k + 1, by simp, by omega, by omega, HA6.out, HB6.out⟩
          case measure => show 210 - ((k : Int) + 1).toNat < 210 - ((k : Int)).toNat; omega
        · go_wp2_with (at_builtin; refine wpList_append_own _ rfl _ _ 23 rfl w.heap.size 44 i0 .nilIface 1 16 Tryd.underlying23 hi hz0 hz1 hz2 rfl (by decide) _ _ _ rfl (hrow.alloc _) _ 1 _ [.nilIface] rfl rfl ?c1 ?c5 ?c2 ?c3 ?c4 ?_)
          case c5 => intro y hy; simp at hy; subst hy; rfl
          case c1 =>
            intro j y hj
            match j, hj with
            | 0, hj => simp at hj; subst hj; simp [Addr.add_lit]
            | j + 1, hj => simp at hj
          case c2 => unfold maxLen; omega
          case c3 => omega
          case c4 => simp; omega
          intro v' w6 hown' hgrow' _
          have HA6 : Hid (ON w6 w.heap.size v' ((rs.take (k + 1)).map fun r => ndOf (cut20 r))) := by
            refine HA.out _ _ ⟨vs ++ [.nilIface], by rw [List.length_append, List.length_append, hvl, hkl]; rfl, by rw [List.length_append, hkl]; exact hown', fun i hi => ?_⟩
            rw [getD_snoc, getD_snoc, hvl, hkl]
            by_cases e1 : i < k
            · rw [if_pos e1, if_pos e1]
              exact ((hnos i e1).alloc _).beside (hrow.alloc _) hgrow'
            · have e2 : i = k := by simp at hi; omega
              rw [if_neg e1, if_neg e1, if_pos e2, if_pos e2]
              exact (HN5.out.alloc _).beside (hrow.alloc _) hgrow'
          have HB6 : Hid (Below w.heap.size w w6) := (HB5.out.alloc hB5 _).grown hgrow' (by simp; omega) (fun j hj => (World.ownsRow.lt hrow j hj).1)
          go_wp2
          go_roundw
          case rel => exact ⟨k + 1, by simp, by omega, by omega, HA6.out, HB6.out⟩
          case measure => show 210 - ((k : Int) + 1).toNat < 210 - ((k : Int)).toNat; omega

      · have hchi : ¬ (20 : Int) < (ch.length : Int) := by omega
        have HND : Hid (nd = ndOf ⟨kind, at', mode, time, size, ch, tg⟩) := by
          unfold Hid; rw [← hnd]; unfold cut20; simp only; rw [List.take_of_length_le (by omega)]
        have HTC : Hid (TR wr (.slice ua ch.length uc) ch) := TR.below HTR.out HB.out
        clear hnd hok HTR
        go_wp2_with fail
        refine (of_any ⟨kind, at', mode, time, size, ch, tg⟩ (.slice ua ch.length uc) _ (HTC.out.below ((Below.refl _ _).alloc (Nat.le_refl _) _)) (by show ch.length ≤ 100000; omega)).mono ?_
        rintro e w5 ⟨u5, rfl, hN5, hb5⟩
        have hbb : Below wr.heap.size wr w5 := belN ((Below.refl _ _).alloc (Nat.le_refl _) _) hb5
        have HO5 : Hid (ON w5 w.heap.size (.slice va k vc) ((rs.take k).map fun r => ndOf (cut20 r))) := HO.out.below hbb
        have HN5 : Hid (NO w5 w.heap.size u5 nd) := by
          unfold Hid; rw [HND.out]; exact hN5.mono (by have := HB.out.size; simp; omega)
        have HB5 : Hid (Below w.heap.size w w5) := belN HB.out hbb
        clear hN5 hb5 hbb c0 c1 c2 c3 c4 c5 c6 HTC
        have hB5 : w.heap.size ≤ w5.heap.size := HB5.out.size
        have hform := HN5.out.form
        obtain ⟨vs, hvl, hrow, hnos⟩ := HO5.out
        rw [hkl] at hrow hvl hnos
        rcases hform with ⟨T, y, rfl⟩ | rfl
        · go_wp2_with (at_builtin; refine wpList_append_own _ rfl _ _ 23 rfl w.heap.size 44 i0 .nilIface 1 16 Tryd.underlying23 hi hz0 hz1 hz2 rfl (by decide) _ _ _ rfl (hrow.alloc _) _ 1 _ [.iface T y] rfl rfl ?c1 ?c5 ?c2 ?c3 ?c4 ?_)
          case c5 => intro y hy; simp at hy; subst hy; rfl
          case c1 =>
            intro j y hj
            match j, hj with
            | 0, hj => simp at hj; subst hj; simp [Addr.add_lit]
            | j + 1, hj => simp at hj
          case c2 => unfold maxLen; omega
          case c3 => omega
          case c4 => simp; omega
          intro v' w6 hown' hgrow' _
          have HA6 : Hid (ON w6 w.heap.size v' ((rs.take (k + 1)).map fun r => ndOf (cut20 r))) := by
            refine HA.out _ _ ⟨vs ++ [.iface T y], by rw [List.length_append, List.length_append, hvl, hkl]; rfl, by rw [List.length_append, hkl]; exact hown', fun i hi => ?_⟩
            rw [getD_snoc, getD_snoc, hvl, hkl]
            by_cases e1 : i < k
            · rw [if_pos e1, if_pos e1]
              exact ((hnos i e1).alloc _).beside (hrow.alloc _) hgrow'
            · have e2 : i = k := by simp at hi; omega
              rw [if_neg e1, if_neg e1, if_pos e2, if_pos e2]
              exact (HN5.out.alloc _).beside (hrow.alloc _) hgrow'
          have HB6 : Hid (Below w.heap.size w w6) := (HB5.out.alloc hB5 _).grown hgrow' (by simp; omega) (fun j hj => (World.ownsRow.lt hrow j hj).1)
          go_wp2
          go_roundw
          case rel => exact ⟨k + 1, by simp, by omega, by omega, HA6.out, HB6.out⟩
          case measure => show 210 - ((k : Int) + 1).toNat < 210 - ((k : Int)).toNat; omega
        · go_wp2_with (at_builtin; refine wpList_append_own _ rfl _ _ 23 rfl w.heap.size 44 i0 .nilIface 1 16 Tryd.underlying23 hi hz0 hz1 hz2 rfl (by decide) _ _ _ rfl (hrow.alloc _) _ 1 _ [.nilIface] rfl rfl ?c1 ?c5 ?c2 ?c3 ?c4 ?_)
          case c5 => intro y hy; simp at hy; subst hy; rfl
          case c1 =>
            intro j y hj
            match j, hj with
            | 0, hj => simp at hj; subst hj; simp [Addr.add_lit]
            | j + 1, hj => simp at hj
          case c2 => unfold maxLen; omega
          case c3 => omega
          case c4 => simp; omega
          intro v' w6 hown' hgrow' _
          have HA6 : Hid (ON w6 w.heap.size v' ((rs.take (k + 1)).map fun r => ndOf (cut20 r))) := by
            refine HA.out _ _ ⟨vs ++ [.nilIface], by rw [List.length_append, List.length_append, hvl, hkl]; rfl, by rw [List.length_append, hkl]; exact hown', fun i hi => ?_⟩
            rw [getD_snoc, getD_snoc, hvl, hkl]
            by_cases e1 : i < k
            · rw [if_pos e1, if_pos e1]
              exact ((hnos i e1).alloc _).beside (hrow.alloc _) hgrow'
            · have e2 : i = k := by simp at hi; omega
              rw [if_neg e1, if_neg e1, if_pos e2, if_pos e2]
              exact (HN5.out.alloc _).beside (hrow.alloc _) hgrow'
          have HB6 : Hid (Below w.heap.size w w6) := (HB5.out.alloc hB5 _).grown hgrow' (by simp; omega) (fun j hj => (World.ownsRow.lt hrow j hj).1)
          go_wp2
          go_roundw
          case rel => exact ⟨k + 1, by simp, by omega, by omega, HA6.out, HB6.out⟩
          case measure => show 210 - ((k : Int) + 1).toNat < 210 - ((k : Int)).toNat; omega

    · have hex : k = len ∨ k = 210 := by omega
      have HAL : Hid (allN rs = (rs.take k).map fun r => ndOf (cut20 r)) := by
        unfold Hid allN
        rcases hex with e | e
        · rw [List.take_of_length_le (by omega), List.take_of_length_le (by omega)]
        · rw [e]
      rcases Nat.lt_or_ge k len with h1 | h1
      · have h2 : ¬ k < 210 := by omega
        have h1i : (k : Int) < (len : Int) := by omega
        have h2i : ¬ (k : Int) < 210 := by omega
        go_wp2
        go_ret
        rw [HAL.out]
        exact ⟨_, rfl, HO.out, HB.out⟩
      · have h1i : ¬ (k : Int) < (len : Int) := by omega
        have h1' : ¬ k < len := by omega
        go_wp2
        go_ret
        rw [HAL.out]
        exact ⟨_, rfl, HO.out, HB.out⟩
end Go.Proofs.YtecpapifkbfblaaDoor
