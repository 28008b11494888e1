/- Contracts of the reader's nodes and of node.Decode. -/
import Derived.Test.YtkgjepgaekbniaaDoorQNodT
namespace Go.Proofs.YtkgjepgaekbniaaDoor
open Go.RowKit
set_option linter.unusedVariables false
set_option linter.unusedSimpArgs false

/-- Node by node, while there is no fault and fewer than count. -/
def rLoop : Nat → Nat → St → List Nd → List Nd × St
  | 0, _, s, acc => (acc, s)
  | n + 1, count, s, acc => if s.f = 0 ∧ acc.length < count then rLoop n count (rNode s).2 (acc ++ [(rNode s).1]) else (acc, s)
def rCount (s : St) : St := if 200 < (rNum s).1 then rFail 2 (rNum s).2 else (rNum s).2
def rEnd (s : St) : St := if s.rest ≠ [] then rFail 3 s else s
def rNodes (s : St) : List Nd × St := ((rLoop 201 (rNum s).1 (rCount s) []).1, rEnd (rLoop 201 (rNum s).1 (rCount s) []).2)
theorem Tryd.infoNd : (Tryd.prog.info? 26).map (fun i => (i.zero, i.size, i.bytes)) = some (some .nilIface, 1, 16) := by kernel_rfl
/-- v is a slice of one's own of these nodes. -/
def ON (w : World) (B : Nat) (v : Value) (l : List Nd) : Prop :=
  ∃ vs : List Value, vs.length = l.length ∧ w.ownsRow B 26 1 v l.length vs ∧ ∀ i, i < l.length → NO w B (vs.getD i .nilIface) (l.getD i .non)
theorem own_grown {w w' : World} {B g : Nat} {e : TypeId} {v : Value} {n : Nat} {vs : List Value} (h : w.ownsRow B e 1 v n vs) (hg : w.grownBy w' (some g)) (hB : g < B) : w'.ownsRow B e 1 v n vs := by
  have hlt := World.ownsRow.lt h
  refine ⟨h.1, ?_⟩
  rcases h.2 with h | ⟨k, cap, cur, rfl, h2, h3, h4⟩
  · exact .inl h
  · exact .inr ⟨k, cap, cur, rfl, h2, (hg.block _ (hlt k rfl).2 (fun e => by have := Option.some.inj e; omega)).trans h3, h4⟩
theorem ON.grown {w w' : World} {B g : Nat} {v : Value} {l : List Nd} (h : ON w B v l) (hg : w.grownBy w' (some g)) (hB : g < B) : ON w' B v l := by
  obtain ⟨vs, h1, h2, h3⟩ := h
  exact ⟨vs, h1, own_grown h2 hg hB, fun i hi => (h3 i hi).grown hg hB⟩
theorem ON.ln {w : World} {B : Nat} {v : Value} {l : List Nd} (h : ON w B v l) : LN w v l := by
  obtain ⟨vs, h1, h2, h3⟩ := h
  have h2' := h2
  rcases h2.2 with ⟨rfl, h0⟩ | ⟨k, cap, cur, rfl, g2, g3, g4, _⟩
  · exact ⟨none, 0, by rw [h0], by omega, fun i hi => by omega⟩
  · refine ⟨some ⟨k, 0, none⟩, cap, rfl, g4, fun i hi => ⟨⟨k, 0, none⟩, vs.getD i .nilIface, rfl, ?_, (h3 i hi).nv⟩⟩
    rw [Addr.add_lit, Nat.zero_add, World.ownsRow.cellAt h2' i (by omega), List.getD_eq_getElem?_getD, List.getElem?_eq_getElem (by omega)]
    rfl
theorem ON.nil (w : World) (B : Nat) : ON w B (.slice none 0 0) [] := ⟨[], rfl, World.ownsRow_nil _ _ _ _, fun i hi => by simp at hi⟩
/-- A row of nodes that grows leaves the rows of texts. -/
theorem OT.beside {w w' : World} {B n : Nat} {v u : Value} {vs : List Value} {l : List (List UInt8)} (h : OT w B u l) (hv : w.ownsRow B 26 1 v n vs) (hg : w.grownBy w' v.ownBlock) : OT w' B u l := by
  have hlt := World.ownsRow.lt h
  refine ⟨h.1, ?_⟩
  rcases h.2 with h | ⟨k, cap, cur, rfl, h2, h3, h4⟩
  · exact .inl h
  · refine .inr ⟨k, cap, cur, rfl, h2, (hg.block _ (hlt k rfl).2 (fun e => ?_)).trans h3, h4⟩
    rcases hv.2 with ⟨rfl, _⟩ | ⟨k', cap', cur', rfl, _, h3', _⟩
    · simp [Value.ownBlock] at e
    · simp [Value.ownBlock] at e
      subst e
      rw [h3] at h3'
      simp at h3'
theorem NO.beside {w w' : World} {B n : Nat} {v u : Value} {vs : List Value} {nd : Nd} (h : NO w B u nd) (hv : w.ownsRow B 26 1 v n vs) (hg : w.grownBy w' v.ownBlock) : NO w' B u nd := by
  cases nd with
  | fol => exact h
  | pla => obtain ⟨x, h1, h2⟩ := h; exact ⟨x, h1, h2.beside hv hg⟩
  | sym => exact h
  | ptr =>
    obtain ⟨b, h0, h1, h2⟩ := h
    refine ⟨b, h0, h1, (hg.block b (lt_of_heap h2) (fun e => ?_)).trans h2⟩
    rcases hv.2 with ⟨rfl, _⟩ | ⟨k', cap', cur', rfl, _, h3', _⟩
    · simp [Value.ownBlock] at e
    · simp [Value.ownBlock] at e
      subst e
      rw [h2] at h3'
      simp at h3'
  | non => exact h
theorem NO.alloc {w : World} {B : Nat} {u : Value} {nd : Nd} (h : NO w B u nd) (o : Obj) : NO (w.alloc o) B u nd := by
  cases nd with
  | fol => exact h
  | pla => obtain ⟨x, h1, h2⟩ := h; exact ⟨x, h1, h2.below ((Below.refl _ _).alloc (Nat.le_refl _) o)⟩
  | sym => exact h
  | ptr => obtain ⟨b, h0, h1, h2⟩ := h; exact ⟨b, h0, h1, (Lib.alloc_old w o b (lt_of_heap h2)).trans h2⟩
  | non => exact h
theorem getD_snoc {α : Type} (l : List α) (x d : α) (i : Nat) : (l ++ [x]).getD i d = if i < l.length then l.getD i d else if i = l.length then x else d := by
  rw [List.getD_eq_getElem?_getD]
  by_cases h : i < l.length
  · rw [if_pos h, List.getElem?_append_left h, List.getD_eq_getElem?_getD]
  · rw [if_neg h, List.getElem?_append_right (by omega)]
    by_cases e : i = l.length
    · subst e; simp
    · rw [if_neg e, List.getElem?_eq_none (by simp; omega)]
      rfl
theorem RD.beside {w w' : World} {B g n : Nat} {v : Value} {vs : List Value} {s : St} (h : RD w g s) (hv : w.ownsRow B 26 1 v n vs) (hg : w.grownBy w' v.ownBlock) (hB : g < B) : RD w' g s := by
  refine (hg.block _ h.lt (fun e => ?_)).trans h
  have := (World.ownsRow.lt hv g e.symm).1
  omega
/-- What a call may write: block g, and what lies from B on. -/
structure GW (w w' : World) (B g : Nat) : Prop where
  os : w'.os = w.os
  tape : w'.tape = w.tape
  output : w'.output = w.output
  size : w.heap.size ≤ w'.heap.size
  block : ∀ k, k < B → k ≠ g → w'.heap[k]? = w.heap[k]?
theorem GW.refl (w : World) (B g : Nat) : GW w w B g := ⟨rfl, rfl, rfl, Nat.le_refl _, fun _ _ _ => rfl⟩
theorem GW.grown {w w' w'' : World} {B g : Nat} (h : GW w w' B g) (k : w'.grownBy w'' (some g)) (hB : B ≤ w'.heap.size) : GW w w'' B g :=
  ⟨k.os.trans h.os, k.tape.trans h.tape, k.output.trans h.output, Nat.le_trans h.size k.size, fun i hi hn => (k.block i (by omega) (fun e => hn (Option.some.inj e))).trans (h.block i hi hn)⟩
theorem GW.row {w w' w'' : World} {B g : Nat} {r : Option Nat} (h : GW w w' B g) (k : w'.grownBy w'' r) (hr : ∀ j, r = some j → B ≤ j) (hB : B ≤ w'.heap.size) : GW w w'' B g :=
  ⟨k.os.trans h.os, k.tape.trans h.tape, k.output.trans h.output, Nat.le_trans h.size k.size, fun i hi hn => (k.block i (by omega) (fun e => by have := hr i e.symm; omega)).trans (h.block i hi hn)⟩
theorem rLoop_stop (n count : Nat) (s : St) (acc : List Nd) (h : ¬ (s.f = 0 ∧ acc.length < count)) : rLoop n count s acc = (acc, s) := by
  cases n with
  | zero => rfl
  | succ n => rw [rLoop, if_neg h]
theorem rLoop_more : ∀ (n count : Nat) (s : St) (acc : List Nd), count ≤ acc.length + n → rLoop (n + 1) count s acc = rLoop n count s acc
  | 0, count, s, acc, h => by rw [rLoop_stop _ _ _ _ (by omega), rLoop_stop _ _ _ _ (by omega)]
  | n + 1, count, s, acc, h => by
    rw [rLoop]
    by_cases hc : s.f = 0 ∧ acc.length < count
    · rw [if_pos hc, rLoop_more n count _ _ (by simp; omega)]
      conv => rhs; rw [rLoop, if_pos hc]
    · rw [if_neg hc, rLoop_stop _ _ _ _ hc]
theorem rCount_le (s : St) : (rCount s).rest.length ≤ s.rest.length := by
  have := (rNum_le s).2
  unfold rCount
  split
  · rw [rFail_le]; exact this
  · exact this
theorem rNum_zero (s : St) (h : 0 < (rNum s).1) : (rNum s).2.f = 0 := by
  unfold rNum at *
  split at h
  · simp at h
  · split at h
    · simp at h
    · rename_i h1 h2
      rw [if_neg h1, if_neg h2]
set_option maxRecDepth 100000 in
set_option maxHeartbeats 4000000 in
theorem rnodes_any (g B : Nat) (s : St) (w : World) (h : RD w g s) (hl : s.rest.length ≤ 1000000000) (hgB : g < B) (hBw : B ≤ w.heap.size) :
    Calls Tryd.prog 25 #[.pointer (some ⟨g, 0, none⟩)] w fun e w' => ∃ v, e = .returned v ∧ ON w' B v (rNodes s).1 ∧ RD w' g (rNodes s).2 ∧ GW w w' B g := by
  obtain ⟨i0, hi, hz0, hz1, hz2⟩ := info_parts Tryd.infoNd
  have hn := rNum_le s
  have hcl := rCount_le s
  have HE : Hid (rNodes s = ((rLoop 201 (rNum s).1 (rCount s) []).1, rEnd (rLoop 201 (rNum s).1 (rCount s) []).2)) := rfl
  go_enter Tryd.func25, Tryd.ntmps25
  go_wp2_with fail
  refine (rnum_any g s _ h hl).mono ?_
  rintro e w1 ⟨rfl, r1, k1⟩
  have R1 : Hid (RD w1 g (rNum s).2) := r1
  have G1 : Hid (GW w w1 B g) := (GW.refl w B g).grown k1 hBw
  have hB1 : B ≤ w1.heap.size := Nat.le_trans hBw k1.size
  clear r1 k1 h
  by_cases hc : 200 < (rNum s).1
  · have hci : (200 : Int) < ((rNum s).1 : Int) := by omega
    have HRC : Hid (rCount s = rFail 2 (rNum s).2) := by unfold Hid rCount; rw [if_pos hc]
    go_wp2_with fail
    refine (fail_any g (rNum s).2 2 _ R1.out).mono ?_
    rintro e w2 ⟨rfl, r2, k2⟩
    have RI : Hid (RD w2 g (rCount s)) := by unfold Hid; rw [HRC.out]; exact r2
    have GI : Hid (GW w w2 B g) := G1.out.grown k2 hB1
    have hBI : B ≤ w2.heap.size := Nat.le_trans hB1 k2.size
    clear r2 k2 R1 G1
    have hf2 : rFail 2 (rNum s).2 = ⟨(rNum s).2.rest, 2⟩ := by unfold rFail; rw [if_pos (rNum_zero s (by omega))]
    have HLP : Hid (rNodes s = ([], rEnd (rCount s))) := by
      unfold Hid
      rw [HE.out, rLoop_stop _ _ _ _ (by rw [HRC.out, hf2]; simp)]
    generalize hs1 : rCount s = s1 at *
    have hf : s1.f = 2 := by rw [HRC.out, hf2]
    have d0 := RI.out.c0
    have d1 := RI.out.c1
    have hml2 := mkB_list2 s1.rest
    rw [hf] at d1
    clear hs1 HRC hf2
    go_wp2
    go_loopw [4] (fun v wr => v = .slice none 0 0 ∧ wr = w2) (fun _ _ => 0)
    case atStart => exact ⟨rfl, rfl⟩
    case round =>
      obtain ⟨rfl, rfl⟩ := hrel
      by_cases hr : s1.rest = []
      · have HRE : Hid (rEnd s1 = s1) := by unfold Hid rEnd; rw [if_neg (by simpa using hr)]
        rw [hr] at hml2 d0
        go_wp2
        go_ret
        refine ⟨_, rfl, ?_, ?_, GI.out⟩
        · rw [HLP.out]; exact ON.nil _ _
        · rw [HLP.out]; show RD wr g (rEnd s1); rw [HRE.out]; exact RI.out
      · have HRE : Hid (rEnd s1 = rFail 3 s1) := by unfold Hid rEnd; rw [if_pos hr]
        have hrb : (s1.rest == []) = false := by simpa using hr
        have hre : s1.rest.isEmpty = false := by simpa using hr
        go_wp2_with fail
        refine (fail_any g s1 3 _ RI.out).mono ?_
        rintro e w5 ⟨rfl, r5, k5⟩
        have HG5 : Hid (GW w w5 B g) := GI.out.grown k5 hBI
        have HR5 : Hid (RD w5 g (rFail 3 s1)) := r5
        clear r5 k5 d0 d1
        go_wp2
        go_ret
        refine ⟨_, rfl, ?_, ?_, HG5.out⟩
        · rw [HLP.out]; exact ON.nil _ _
        · rw [HLP.out]; show RD w5 g (rEnd s1); rw [HRE.out]; exact HR5.out
  · have hci : ¬ (200 : Int) < ((rNum s).1 : Int) := by omega
    have HRC : Hid (rCount s = (rNum s).2) := by unfold Hid rCount; rw [if_neg hc]
    have RI : Hid (RD w1 g (rCount s)) := by unfold Hid; rw [HRC.out]; exact R1.out
    have GI : Hid (GW w w1 B g) := G1.out
    have hBI : B ≤ w1.heap.size := hB1
    clear R1 G1
    go_wp2
    go_loopw [4] (fun v wr => ∃ (k : Nat) (acc : List Nd) (s1 : St), k + acc.length = 201 ∧ acc.length ≤ 200 ∧ s1.rest.length ≤ s.rest.length ∧ ON wr B v acc ∧ RD wr g s1 ∧ GW w wr B g ∧ B ≤ wr.heap.size ∧ rLoop k (rNum s).1 s1 acc = rLoop 201 (rNum s).1 (rCount s) []) (fun v _ => match v with | .slice _ n _ => 201 - n | _ => 0)
    case atStart => exact ⟨201, [], rCount s, rfl, by simp, hcl, ON.nil _ _, RI.out, GI.out, hBI, rfl⟩
    case round =>
      obtain ⟨k, acc, s1, hka, hal, hsl, hO, hR, hG, hBr, hlp⟩ := hrel
      have d0 := hR.c0
      have d1 := hR.c1
      have hz9 := mkB_size s1.rest
      have hml2 := mkB_list2 s1.rest
      obtain ⟨va, vc, hv⟩ : ∃ a c, u4 = .slice a acc.length c := by obtain ⟨a, c, hv, _⟩ := hO.ln; exact ⟨a, c, hv⟩
      subst hv
      have HO : Hid (ON wr B (.slice va acc.length vc) acc) := hO
      have HR : Hid (RD wr g s1) := hR
      have HG : Hid (GW w wr B g) := hG
      clear hO hR hG
      by_cases hgo : s1.f = 0 ∧ acc.length < (rNum s).1
      · obtain ⟨hf0, hlt⟩ := hgo
        have hlti : (acc.length : Int) < ((rNum s).1 : Int) := by omega
        have ha2 : acc.length < 200 := by omega
        obtain ⟨k', rfl⟩ : ∃ k', k = k' + 1 := ⟨k - 1, by omega⟩
        have HLP : Hid (rLoop k' (rNum s).1 (rNode s1).2 (acc ++ [(rNode s1).1]) = rLoop 201 (rNum s).1 (rCount s) []) := by
          unfold Hid
          rw [← hlp, rLoop, if_pos ⟨hf0, hlt⟩]
        have hnl := rNode_le s1
        rw [hf0] at d1
        clear hlp
        go_wp2_with fail
        refine (rnode_any g s1 _ HR.out (by omega)).mono ?_
        rintro e w5 ⟨u5, rfl, hN5, hR5, hG5⟩
        have HO5 : Hid (ON w5 B (.slice va acc.length vc) acc) := HO.out.grown hG5 hgB
        have HN5 : Hid (NO w5 B u5 (rNode s1).1) := hN5.mono hBr
        have HR5 : Hid (RD w5 g (rNode s1).2) := hR5
        have HG5 : Hid (GW w w5 B g) := HG.out.grown hG5 hBr
        have hB5 : B ≤ w5.heap.size := Nat.le_trans hBr hG5.size
        have hform : (∃ T y, u5 = .iface T y) ∨ u5 = .nilIface := by
          cases hnd : (rNode s1).1 with
          | fol => rw [hnd] at hN5; exact .inl ⟨_, _, hN5⟩
          | pla => rw [hnd] at hN5; obtain ⟨y, h1, _⟩ := hN5; exact .inl ⟨_, _, h1⟩
          | sym => rw [hnd] at hN5; exact .inl ⟨_, _, hN5⟩
          | ptr => rw [hnd] at hN5; obtain ⟨b, _, h1, _⟩ := hN5; exact .inl ⟨_, _, h1⟩
          | non => rw [hnd] at hN5; exact .inr hN5
        clear hN5 hR5 hG5 HO HR HG d0 d1
        generalize (rNode s1).1 = nd at *
        generalize (rNode s1).2 = s2 at *
        obtain ⟨vs, hvl, hrow, hnos⟩ := HO5.out
        rcases hform with ⟨T, y, rfl⟩ | rfl
        · go_wp2_with (at_builtin; refine wpList_append_own _ rfl _ _ 50 rfl B 26 i0 .nilIface 1 16 Tryd.underlying50 hi hz0 hz1 hz2 rfl (by decide) _ _ _ rfl (hrow.alloc _) _ 1 _ [.iface T y] rfl rfl ?c1 ?c5 ?c2 ?c3 ?c4 ?_)
          case c5 => intro y hy; simp at hy; subst hy; rfl
          case c1 =>
            intro j y hj
            match j, hj with
            | 0, hj => simp at hj; subst hj; simp [Addr.add_lit]
            | j + 1, hj => simp at hj
          case c2 => unfold maxLen; omega
          case c3 => omega
          case c4 => simp; omega
          intro v' w6 hown' hgrow' _
          have HA : Hid (ON w6 B v' (acc ++ [nd])) := by
            refine ⟨vs ++ [.iface T y], by simp [hvl], by rw [List.length_append]; exact hown', fun i hi => ?_⟩
            rw [getD_snoc, getD_snoc, hvl]
            by_cases e1 : i < acc.length
            · rw [if_pos e1, if_pos e1]
              exact ((hnos i e1).alloc _).beside (hrow.alloc _) hgrow'
            · have e2 : i = acc.length := by simp at hi; omega
              rw [if_neg e1, if_neg e1, if_pos e2, if_pos e2]
              exact (HN5.out.alloc _).beside (hrow.alloc _) hgrow'
          have HR6 : Hid (RD w6 g s2) := RD.beside (HR5.out.below ((Below.refl _ _).alloc (Nat.le_refl _) _)) (hrow.alloc _) hgrow' hgB
          have HG6 : Hid (GW w w6 B g) := (HG5.out.row (World.grownBy_alloc w5 _ none) (fun j hj => by cases hj) hB5).row hgrow' (fun j hj => (World.ownsRow.lt hrow j hj).1) (by simp; omega)
          have hB6 : B ≤ w6.heap.size := by have := hgrow'.size; simp at this; omega
          obtain ⟨a6, c6, hv6⟩ : ∃ a c, v' = .slice a (acc.length + 1) c := by obtain ⟨a, c, hv, _⟩ := HA.out.ln; exact ⟨a, c, by simpa using hv⟩
          subst hv6
          clear hown' hgrow' hrow hnos hvl HO5 HN5 HR5 HG5
          go_wp2
          go_roundw
          case rel => exact ⟨k', acc ++ [nd], s2, by rw [List.length_append]; simp; omega, by rw [List.length_append]; simp; omega, by omega, HA.out, HR6.out, HG6.out, hB6, HLP.out⟩
          case measure => show 201 - (acc.length + 1) < 201 - acc.length; omega
        · go_wp2_with (at_builtin; refine wpList_append_own _ rfl _ _ 50 rfl B 26 i0 .nilIface 1 16 Tryd.underlying50 hi hz0 hz1 hz2 rfl (by decide) _ _ _ rfl (hrow.alloc _) _ 1 _ [.nilIface] rfl rfl ?c1 ?c5 ?c2 ?c3 ?c4 ?_)
          case c5 => intro y hy; simp at hy; subst hy; rfl
          case c1 =>
            intro j y hj
            match j, hj with
            | 0, hj => simp at hj; subst hj; simp [Addr.add_lit]
            | j + 1, hj => simp at hj
          case c2 => unfold maxLen; omega
          case c3 => omega
          case c4 => simp; omega
          intro v' w6 hown' hgrow' _
          have HA : Hid (ON w6 B v' (acc ++ [nd])) := by
            refine ⟨vs ++ [.nilIface], by simp [hvl], by rw [List.length_append]; exact hown', fun i hi => ?_⟩
            rw [getD_snoc, getD_snoc, hvl]
            by_cases e1 : i < acc.length
            · rw [if_pos e1, if_pos e1]
              exact ((hnos i e1).alloc _).beside (hrow.alloc _) hgrow'
            · have e2 : i = acc.length := by simp at hi; omega
              rw [if_neg e1, if_neg e1, if_pos e2, if_pos e2]
              exact (HN5.out.alloc _).beside (hrow.alloc _) hgrow'
          have HR6 : Hid (RD w6 g s2) := RD.beside (HR5.out.below ((Below.refl _ _).alloc (Nat.le_refl _) _)) (hrow.alloc _) hgrow' hgB
          have HG6 : Hid (GW w w6 B g) := (HG5.out.row (World.grownBy_alloc w5 _ none) (fun j hj => by cases hj) hB5).row hgrow' (fun j hj => (World.ownsRow.lt hrow j hj).1) (by simp; omega)
          have hB6 : B ≤ w6.heap.size := by have := hgrow'.size; simp at this; omega
          obtain ⟨a6, c6, hv6⟩ : ∃ a c, v' = .slice a (acc.length + 1) c := by obtain ⟨a, c, hv, _⟩ := HA.out.ln; exact ⟨a, c, by simpa using hv⟩
          subst hv6
          clear hown' hgrow' hrow hnos hvl HO5 HN5 HR5 HG5
          go_wp2
          go_roundw
          case rel => exact ⟨k', acc ++ [nd], s2, by rw [List.length_append]; simp; omega, by rw [List.length_append]; simp; omega, by omega, HA.out, HR6.out, HG6.out, hB6, HLP.out⟩
          case measure => show 201 - (acc.length + 1) < 201 - acc.length; omega
      · have HLP : Hid (rNodes s = (acc, rEnd s1)) := by
          unfold Hid
          rw [HE.out, ← hlp, rLoop_stop _ _ _ _ hgo]
        clear hlp
        by_cases hr : s1.rest = []
        · have HRE : Hid (rEnd s1 = s1) := by unfold Hid rEnd; rw [if_neg (by simpa using hr)]
          rw [hr] at hml2
          by_cases hf0 : s1.f = 0
          · have hlt : ¬ acc.length < (rNum s).1 := fun h => hgo ⟨hf0, h⟩
            have hlti : ¬ (acc.length : Int) < ((rNum s).1 : Int) := by omega
            rw [hf0] at d1
            clear hgo
            rw [hr] at d0
            go_wp2
            go_ret
            refine ⟨_, rfl, ?_, ?_, HG.out⟩
            · rw [HLP.out]; exact HO.out
            · rw [HLP.out]; show RD wr g (rEnd s1); rw [HRE.out]; exact HR.out
          · have hne : (s1.f == 0) = false := beq_eq_false_iff_ne.2 hf0
            clear hgo
            rw [hr] at d0
            go_wp2
            go_ret
            refine ⟨_, rfl, ?_, ?_, HG.out⟩
            · rw [HLP.out]; exact HO.out
            · rw [HLP.out]; show RD wr g (rEnd s1); rw [HRE.out]; exact HR.out
        · have HRE : Hid (rEnd s1 = rFail 3 s1) := by unfold Hid rEnd; rw [if_pos hr]
          have hrb : (s1.rest == []) = false := by simpa using hr
          have hre : s1.rest.isEmpty = false := by simpa using hr
          by_cases hf0 : s1.f = 0
          · have hlt : ¬ acc.length < (rNum s).1 := fun h => hgo ⟨hf0, h⟩
            have hlti : ¬ (acc.length : Int) < ((rNum s).1 : Int) := by omega
            rw [hf0] at d1
            clear hgo
            go_wp2_with fail
            refine (fail_any g s1 3 _ HR.out).mono ?_
            rintro e w5 ⟨rfl, r5, k5⟩
            have HO5 : Hid (ON w5 B (.slice va acc.length vc) acc) := HO.out.grown k5 hgB
            have HG5 : Hid (GW w w5 B g) := HG.out.grown k5 hBr
            have HR5 : Hid (RD w5 g (rFail 3 s1)) := r5
            clear r5 k5 d0 d1
            go_wp2
            go_ret
            refine ⟨_, rfl, ?_, ?_, HG5.out⟩
            · rw [HLP.out]; exact HO5.out
            · rw [HLP.out]; show RD w5 g (rEnd s1); rw [HRE.out]; exact HR5.out
          · have hne : (s1.f == 0) = false := beq_eq_false_iff_ne.2 hf0
            clear hgo
            go_wp2_with fail
            refine (fail_any g s1 3 _ HR.out).mono ?_
            rintro e w5 ⟨rfl, r5, k5⟩
            have HO5 : Hid (ON w5 B (.slice va acc.length vc) acc) := HO.out.grown k5 hgB
            have HG5 : Hid (GW w w5 B g) := HG.out.grown k5 hBr
            have HR5 : Hid (RD w5 g (rFail 3 s1)) := r5
            clear r5 k5 d0 d1
            go_wp2
            go_ret
            refine ⟨_, rfl, ?_, ?_, HG5.out⟩
            · rw [HLP.out]; exact HO5.out
            · rw [HLP.out]; show RD w5 g (rEnd s1); rw [HRE.out]; exact HR5.out
/-- What Decode answers. -/
def decN (l : List UInt8) : List Nd × Int :=
  if (rNodes ⟨l, 0⟩).2.f ≠ 0 then ([], (rNodes ⟨l, 0⟩).2.f) else if checkN (rNodes ⟨l, 0⟩).1 ≠ 0 then ([], checkN (rNodes ⟨l, 0⟩).1) else ((rNodes ⟨l, 0⟩).1, 0)
end Go.Proofs.YtkgjepgaekbniaaDoor
