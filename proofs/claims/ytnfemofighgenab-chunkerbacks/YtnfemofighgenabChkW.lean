/- Contract of the chunker's Write. -/
import Derived.Test.YtnfemofighgenabChkN
import Derived.Test.YtnfemofighgenabBsM
namespace Go.Proofs.Ytnfemofighgenab
open Go.RowKit
set_option linter.unusedVariables false

theorem Try.infoStr : (Try.prog.info? 9).map (fun i => (i.zero, i.size, i.bytes)) = some (some (.string ⟨#[]⟩), 1, 16) := by kernel_rfl
/-- Texts as cells. -/
def sc (l : List (List UInt8)) : List Value := l.map fun x => .string (bsU x)
theorem sc_len (l : List (List UInt8)) : (sc l).length = l.length := by simp [sc]
theorem sc_snoc (l : List (List UInt8)) (x : List UInt8) : sc (l ++ [x]) = sc l ++ [.string (bsU x)] := by simp [sc]
theorem sc_append (l m : List (List UInt8)) : sc (l ++ m) = sc l ++ sc m := by simp [sc]
/-- v is a slice of one's own of these texts; it may be nil. -/
def OS (w : World) (B : Nat) (v : Value) (l : List (List UInt8)) : Prop := w.ownsRow B 9 1 v l.length (sc l)
theorem CF.push {f : Nat → Value} {mn bt mx : Nat} {T p : List UInt8} {cl : Bool} (h : CF f mn bt mx T p cl) (c : UInt8) (hp : p.length < 4096) :
    CF (fun j => if j = 4117 then .int .i64 ((p.length + 1 : Nat) : Int) else if j = 21 + p.length then .int .u8 (c.toNat : Int) else f j) mn bt mx T (p ++ [c]) cl := by
  obtain ⟨win, hw, hwf⟩ := h.win
  refine ⟨?_, ?_, ?_, ⟨win, hw, fun j hj => ?_⟩, ?_, ?_, fun j hj => ?_, fun j hj => ?_, ?_, ?_⟩
  · (try simp only); rw [if_neg (by omega), if_neg (by omega)]; exact h.c0
  · (try simp only); rw [if_neg (by omega), if_neg (by omega)]; exact h.c1
  · (try simp only); rw [if_neg (by omega), if_neg (by omega)]; exact h.c2
  · (try simp only); rw [if_neg (by omega), if_neg (by omega)]; exact hwf j hj
  · (try simp only); rw [if_neg (by omega), if_neg (by omega)]; exact h.plc
  · (try simp only); rw [if_neg (by omega), if_neg (by omega)]; exact h.fp
  · (try simp only)
    rw [if_neg (by omega)]
    by_cases e : j = p.length
    · rw [if_pos (by omega)]; exact ⟨c, rfl⟩
    · rw [if_neg (by omega)]; exact h.any j hj
  · (try simp only)
    rw [List.length_append, List.length_singleton] at hj
    rw [if_neg (by omega)]
    by_cases e : j = p.length
    · rw [if_pos (by omega), e]; simp [List.getD_eq_getElem?_getD]
    · rw [if_neg (by omega), h.buf j (by omega)]
      rw [List.getD_eq_getElem?_getD, List.getD_eq_getElem?_getD, List.getElem?_append_left (by omega)]
  · simp
  · (try simp only); rw [if_neg (by omega), if_neg (by omega)]; exact h.cls
theorem take_snoc' (s : ByteArray) (k : Nat) (h : k < s.size) : s.data.toList.take (k + 1) = s.data.toList.take k ++ [s[k]] := take_snoc s k h
theorem ckW_len (mn bt mx : Nat) : ∀ (s T p : List UInt8), (ckW mn bt mx T p s).1.length ≤ s.length
  | [], T, p => by simp [ckW]
  | a :: s, T, p => by
    rw [ckW]
    split
    · have := ckW_len mn bt mx s (T ++ [a]) []
      simp; omega
    · have := ckW_len mn bt mx s (T ++ [a]) (p ++ [a])
      simp; omega
set_option maxRecDepth 100000 in
set_option maxHeartbeats 4000000 in
theorem write_any (g mn bt mx : Nat) (T p : List UInt8) (s : ByteArray) (w : World) (hC : CK w g mn bt mx T p false) (hp : p.length < mx) (hmn : 1 ≤ mn) (hmm : mn ≤ mx) (hmx : mx ≤ 4096) (hbt : bt ≤ 20) (hs : s.size ≤ 1000000) :
    Calls Try.prog 12 #[.pointer (some ⟨g, 0, none⟩), .string s] w fun e w' => ∃ v, e = .returned v ∧ OS w' w.heap.size v (ckW mn bt mx T p s.data.toList).1 ∧ CK w' g mn bt mx (T ++ s.data.toList) (ckW mn bt mx T p s.data.toList).2 false ∧ w.grownBy w' (some g) := by
  obtain ⟨i0, hi, hz0, hz1, hz2⟩ := info_parts Try.infoStr
  have hgw := hC.lt
  have p8 : w.cell? ⟨g, 4118, none⟩ = some (.bool false) := by obtain ⟨f, hR, hF⟩ := hC; rw [hR.cell (by omega), hF.cls]
  go_enter Try.func12, Try.ntmps12
  go_wp2
  clear p8
  go_loopw [5, 13] (fun v i wr => ∃ k : Nat, k ≤ s.size ∧ i = .int .i64 (k : Int) ∧ OS wr w.heap.size v (ckW mn bt mx T p (s.data.toList.take k)).1 ∧ CK wr g mn bt mx (T ++ s.data.toList.take k) (ckW mn bt mx T p (s.data.toList.take k)).2 false ∧ w.grownBy wr (some g)) (fun _ i _ => s.size - (intOf i).toNat)
  case atStart => exact ⟨0, by omega, rfl, World.ownsRow_nil _ _ _ _, by simpa [ckW] using hC, grefl w _⟩
  case round =>
    clear hC
    obtain ⟨k, hk, rfl, hO, hC, hG⟩ := hrel
    have HL := ckW_left mn bt mx (by omega) (s.data.toList.take k) T p hp
    have HLn := ckW_len mn bt mx (s.data.toList.take k) T p
    rw [List.length_take] at HLn
    by_cases hlt : k < s.size
    · have hki : (k : Int) < (s.size : Int) := by omega
      have HT := take_snoc' s k hlt
      have HS := ckW_snoc mn bt mx (s.data.toList.take k) T p s[k]
      rw [← HT] at HS
      rw [List.append_assoc, ← HT] at HS
      have HA : Hid (T ++ s.data.toList.take k ++ [s[k]] = T ++ s.data.toList.take (k + 1)) := by rw [List.append_assoc, ← HT]; exact rfl
      have HS : Hid _ := HS
      clear HT
      unfold OS at hO
      generalize (ckW mn bt mx T p (s.data.toList.take k)).1 = CH at *
      generalize (ckW mn bt mx T p (s.data.toList.take k)).2 = PD at *
      have hwr := hG.size
      go_wp2_with fail
      refine (slide_any g mn bt mx _ PD false s[k] _ hC).mono ?_
      rintro e w1 ⟨rfl, hC1, hg1⟩
      rw [HA.out] at hC1
      have hO1 := hO.kept hg1 (.inr (fun e => by have := hO.lt g e; omega))
      have hG1 := gtrans hG hg1
      clear hC hO hG hg1
      obtain ⟨f, hR, hF⟩ := hC1
      have q1 : w1.cell? ⟨g, 4117, none⟩ = some (.int .i64 (PD.length : Int)) := by rw [hR.cell (by omega), hF.len]
      obtain ⟨x0, hx0⟩ := hF.any PD.length (by omega)
      have q2 : w1.cell? ⟨g, 21 + PD.length, none⟩ = some (.int .u8 (x0.toNat : Int)) := by rw [hR.cell (by omega), hx0]
      have f1 := hR.frozen 4117
      have f2 := hR.frozen (21 + PD.length)
      have HF : Hid _ := hF.push s[k] (by omega)
      have hpi : (PD.length : Int) < 4096 := by omega
      go_wp2
      go_region
      have hR2 := (hR.set (21 + PD.length) (.int .u8 (s[k].toNat : Int))).drew
      have hg2 : w1.grownBy (w1.setCell ⟨g, 21 + PD.length, none⟩ (.int .u8 (s[k].toNat : Int))).drew (some g) := gdrew (gset (grefl w1 _) _ _)
      generalize (w1.setCell ⟨g, 21 + PD.length, none⟩ (.int .u8 (s[k].toNat : Int))).drew = W2 at *
      have q3 : W2.cell? ⟨g, 4117, none⟩ = some (.int .i64 (PD.length : Int)) := by
        rw [hR2.cell (by omega)]
        (try simp only)
        rw [if_neg (by omega), hF.len]
      have f3 := hR2.frozen 4117
      have hR3 := hR2.set 4117 (.int .i64 ((PD.length + 1 : Nat) : Int))
      have hg3 : w1.grownBy (W2.setCell ⟨g, 4117, none⟩ (.int .i64 ((PD.length + 1 : Nat) : Int))) (some g) := gset hg2 _ _
      have hC3 : CK (W2.setCell ⟨g, 4117, none⟩ (.int .i64 ((PD.length + 1 : Nat) : Int))) g mn bt mx (T ++ s.data.toList.take (k + 1)) (PD ++ [s[k]]) false := ⟨_, hR3, HF.out⟩
      have hO3 := hO1.kept hg3 (.inr (fun e => by have := hO1.lt g e; omega))
      have hG3 := gtrans hG1 hg3
      have e1 : (PD.length : Int) + 1 = ((PD.length + 1 : Nat) : Int) := by omega
      clear hR hR2 hR3 hg2 hg3 q1 q2 f1 f2 hx0 HF hF hO1 hG1
      generalize hPL : PD.length + 1 = n1 at *
      have hn1 : n1 ≤ 4096 := by omega
      have HPL : Hid (_ = _) := hPL
      clear hPL
      go_wp2_with fail
      generalize W2.setCell ⟨g, 4117, none⟩ (.int .i64 (n1 : Int)) = W3 at *
      refine (ends_any g mn bt mx _ (PD ++ [s[k]]) false _ hC3 hbt (by omega) hmx (by rw [List.length_append, List.length_singleton, HPL.out]; exact hn1)).mono ?_
      rintro e w4 ⟨rfl, nq, rfl⟩
      rw [List.length_append, List.length_singleton, HPL.out]
      have hC4 := hC3.drewN nq
      have hO4 : (W3.drewN nq).ownsRow w.heap.size 9 1 _ _ _ := hO3
      have hG4 := gdrewN hG3 nq
      clear hC3 hO3 hG3
      generalize W3.drewN nq = W4 at *
      cases hE : endB mn bt mx (T ++ s.data.toList.take (k + 1)) n1
      · have HS2 : Hid (ckW mn bt mx T p (s.data.toList.take (k + 1)) = (CH, PD ++ [s[k]])) := by rw [HS.out, hE]; exact rfl
        go_wp2
        go_roundw
        case rel => exact ⟨k + 1, by omega, by go_num, by rw [HS2.out]; exact hO4, by rw [HS2.out]; exact hC4, hG4⟩
        case measure => simp [intOf]; omega
      · have HS2 : Hid (ckW mn bt mx T p (s.data.toList.take (k + 1)) = (CH ++ [PD ++ [s[k]]], [])) := by rw [HS.out, hE]; exact rfl
        go_wp2_with fail
        refine (cut_any g mn bt mx _ (PD ++ [s[k]]) false _ hC4 (by rw [List.length_append, List.length_singleton, HPL.out]; exact hn1)).mono ?_
        rintro e w5 ⟨rfl, hC5, hg5⟩
        have hO5 := hO4.kept hg5 (.inr (fun e => by have := hO4.lt g e; omega))
        have hG5 := gtrans hG4 hg5
        have hw5 := hG5.size
        clear hC4 hO4 hG4 hg5
        go_wp2_with (at_builtin; refine wpList_append_own _ rfl _ _ 22 rfl w.heap.size 9 i0 (.string ⟨#[]⟩) 1 16 Try.underlying22 hi hz0 hz1 hz2 rfl (by decide) _ _ _ rfl (hO5.alloc _) ⟨w5.heap.size, 0, none⟩ 1 1 [.string (bsU (PD ++ [s[k]]))] rfl rfl (cell_one_new _ _ _) ?c2 ?c3 ?c4 ?c5 ?_)
        case c2 => first | rfl | (intro u hu; simp at hu; subst hu; rfl)
        case c3 => unfold maxLen; omega
        case c4 => omega
        case c5 => simp; omega
        intro v' w6 hown' hgrow' _
        rw [← sc_snoc] at hown'
        have hwl := hC5.lt
        have hC6 := (hC5.kept (row := none) (World.grownBy_alloc w5 _ none) (by simp)).kept hgrow' (fun e => by have := hO5.lt g e.symm; omega)
        have hG6 : w.grownBy w6 (some g) := by
          refine ⟨hgrow'.os.trans hG5.os, hgrow'.tape.trans hG5.tape, hgrow'.output.trans hG5.output, by have := hgrow'.size; simp at this; omega, fun j hj hne => ?_⟩
          have h1 := hgrow'.block j (by simp; omega) (fun e => by have := hO5.lt j e.symm; omega)
          rw [h1, Below.heap_alloc _ _ _ (by omega)]
          exact hG5.block j hj hne
        clear hgrow' hO5 hC5 hG5
        go_wp2
        go_roundw
        case rel => exact ⟨k + 1, by omega, by go_num, by rw [HS2.out]; unfold OS; rw [List.length_append]; exact hown', by rw [HS2.out]; exact hC6, hG6⟩
        case measure => simp [intOf]; omega
    · have HE : Hid (s.data.toList.take k = s.data.toList) := List.take_of_length_le (by simpa using hlt)
      rw [HE.out] at hO hC
      go_wp2
      go_ret
      exact ⟨_, rfl, hO, hC, hG⟩
end Go.Proofs.Ytnfemofighgenab
