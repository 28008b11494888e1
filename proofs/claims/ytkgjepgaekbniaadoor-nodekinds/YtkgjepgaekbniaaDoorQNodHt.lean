/- The law's Told: the record of a node; rows of records of one's own. -/
import Derived.Test.YtkgjepgaekbniaaDoorQNodW
import Derived.Deep.AppendLies
namespace Go.Proofs.YtkgjepgaekbniaaDoor
open Go.RowKit
set_option linter.unusedVariables false
set_option linter.unusedSimpArgs false

theorem own_baseN {W : World} {B C n sz : Nat} {ty : TypeId} {v : Value} {xs : List Value} (h : W.ownsRow B ty sz v n xs) (hC : C ≤ B) : W.ownsRow C ty sz v n xs := by
  refine ⟨h.1, ?_⟩
  rcases h.2 with h | ⟨g, cap, cur, e, h2, h3⟩
  · exact .inl h
  · exact .inr ⟨g, cap, cur, e, Nat.le_trans hC h2, h3⟩
theorem told12_file (at' : List UInt8) (m t s : Int) (c : List (List UInt8)) (v : Value) (w : World) (h : NV w v (.pla at' m t s c)) (hl : c.length ≤ 8796093022208) :
    Calls Tryd.prog 9 #[v] w fun e w' => ∃ u, e = .returned (.agg ((tdRc (.pla at' m t s c)).cells u).toArray) ∧ OT w' w.heap.size u (tdRc (.pla at' m t s c)).ch ∧ Below w.heap.size w w' := by
  obtain ⟨u, rfl, hu⟩ := h
  obtain ⟨ua, uc, rfl⟩ : ∃ a c', u = .slice a c.length c' := by obtain ⟨a, c', hv, _⟩ := hu; exact ⟨a, c', hv⟩
  have q1 := taPF
  have q2 := taPP
  have HT : Hid (T7 ((w.alloc (.cells #[.int .i64 0, .string ⟨#[]⟩, .int .i64 0, .int .i64 0, .int .i64 0, .slice none 0 0, .string ⟨#[]⟩] 24)).alloc (.cells #[.string (mkB at'), .int .i64 m, .int .i64 t, .int .i64 s, .slice ua c.length uc] 29)) w.heap.size (w.heap.size + 1) at' m t s (.slice ua c.length uc)) := by
    refine ⟨first_heap _ _ _, ?_⟩
    have := heap_alloc_new (w.alloc (.cells #[.int .i64 0, .string ⟨#[]⟩, .int .i64 0, .int .i64 0, .int .i64 0, .slice none 0 0, .string ⟨#[]⟩] 24)) (.cells #[.string (mkB at'), .int .i64 m, .int .i64 t, .int .i64 s, .slice ua c.length uc] 29)
    rw [World.size_alloc] at this; exact this
  have HB : Hid (Below w.heap.size w ((w.alloc (.cells #[.int .i64 0, .string ⟨#[]⟩, .int .i64 0, .int .i64 0, .int .i64 0, .slice none 0 0, .string ⟨#[]⟩] 24)).alloc (.cells #[.string (mkB at'), .int .i64 m, .int .i64 t, .int .i64 s, .slice ua c.length uc] 29))) := ((Below.refl _ _).alloc (Nat.le_refl _) _).alloc (by simp) _
  have HU : Hid (TR _ (.slice ua c.length uc) c) := hu.below HB.out
  clear hu
  go_enter Tryd.func9, Tryd.ntmps9
  go_wp2
  generalize World.alloc (World.alloc w _) _ = X at *
  refine told7_any (w := w) HT HU HB.out.size hl (fun _ _ _ _ _ h => h) ?_
  · unfold Hid
    intro s20 s21 s22 s23 s24 s25 s26 s27 s28 s29 s30 s31 s32 a' c' w2 wx hrx hO hg
    have hbx : Below w.heap.size w wx := HB.out.grown hg HB.out.size (fun k hk => by have e2 : w.heap.size = k := Option.some.inj hk; omega)
    have hO2 : OT wx w.heap.size (.slice a' c.length c') c := own_baseN hO HB.out.size
    have HRX : Hid (_ = _) := hrx
    have HF : Hid (_ ∧ _) := And.intro hO2 hbx
    clear hrx hO hg hO2 hbx q1 q2
    go_wp2
    refine bodyPost_ret (results_cell_row rfl _ _ w.heap.size 24 _ (0, 0) _ rfl HRX.out Tryd.underlying24 rfl (by kernel_rfl)) rfl ⟨.slice a' c.length c', rfl, HF.out.1, HF.out.2⟩
theorem told12_any (n : Nd) (v : Value) (w : World) (h : NV w v n) (hl : (tdRc n).ch.length ≤ 8796093022208) :
    Calls Tryd.prog 9 #[v] w fun e w' => ∃ u, e = .returned (.agg ((tdRc n).cells u).toArray) ∧ OT w' w.heap.size u (tdRc n).ch ∧ Below w.heap.size w w' := by
  by_cases hk : kindN n = 2
  · cases n with
    | pla a m t s c => exact told12_file a m t s c v w h hl
    | fol a m t => exact told12_nofile _ v w h (by simp [kindN])
    | sym a m t g => exact told12_nofile _ v w h (by simp [kindN])
    | ptr a m t => exact told12_nofile _ v w h (by simp [kindN])
    | non => exact told12_nofile _ v w h (by simp [kindN])
  · exact told12_nofile n v w h hk
/-- Records of one's own: each with its row of chunks. -/
abbrev RcV := Rc × Value
def rcF (l : List RcV) : List Value := l.flatMap fun x => x.1.cells x.2
theorem rcF_snoc (l : List RcV) (x : RcV) : rcF (l ++ [x]) = rcF l ++ x.1.cells x.2 := by unfold rcF; rw [List.flatMap_append]; simp
theorem rcF_at : ∀ (l : List RcV) (i : Nat) (x : RcV), l[i]? = some x → ∀ j v, (x.1.cells x.2)[j]? = some v → (rcF l)[i * 7 + j]? = some v
  | [], i, x, h, j, v, hv => by simp at h
  | y :: l, 0, x, h, j, v, hv => by
    simp only [List.getElem?_cons_zero, Option.some.injEq] at h
    subst h
    have hj : j < 7 := (List.getElem?_eq_some_iff.1 hv).1
    show (y.1.cells y.2 ++ rcF l)[0 * 7 + j]? = some v
    rw [List.getElem?_append_left (by simp [Rc.cells]; omega)]
    simpa using hv
  | y :: l, i + 1, x, h, j, v, hv => by
    simp only [List.getElem?_cons_succ] at h
    have := rcF_at l i x h j v hv
    show (y.1.cells y.2 ++ rcF l)[(i + 1) * 7 + j]? = some v
    rw [List.getElem?_append_right (by simp [Rc.cells]; omega)]
    simpa [Rc.cells, show (i + 1) * 7 + j - 7 = i * 7 + j by omega] using this
def RO (w : World) (B : Nat) (v : Value) (l : List RcV) : Prop := w.ownsRow B 24 7 v l.length (rcF l) ∧ ∀ x ∈ l, OT w B x.2 x.1.ch
theorem Tryd.infoRc : (Tryd.prog.info? 24).map (fun i => (i.zero, i.size, i.bytes)) = some (some (.agg #[.int .i64 0, .string ⟨#[]⟩, .int .i64 0, .int .i64 0, .int .i64 0, .slice none 0 0, .string ⟨#[]⟩]), 7, 88) := by kernel_rfl
theorem own_belowN {w W W' : World} {n sz : Nat} {ty : TypeId} {v : Value} {xs : List Value} (h : W.ownsRow w.heap.size ty sz v n xs) (hb : Below W.heap.size W W') : W'.ownsRow w.heap.size ty sz v n xs := by
  have hlt := h.lt
  refine ⟨h.1, ?_⟩
  rcases h.2 with h | ⟨g, cap, cur, rfl, h2, h3, h4⟩
  · exact .inl h
  · exact .inr ⟨g, cap, cur, rfl, h2, (hb.block _ (hlt g rfl).2).trans h3, h4⟩
theorem RO.call {w W W' : World} {v : Value} {l : List RcV} (h : RO W w.heap.size v l) (hb : Below W.heap.size W W') : RO W' w.heap.size v l := ⟨own_belowN h.1 hb, fun x hx => own_belowN (h.2 x hx) hb⟩
theorem own_twoN {w w' : World} {B B' n m sz sz' : Nat} {ty ty' : TypeId} {v u : Value} {xs ys : List Value} (h : w.ownsRow B ty sz v n xs) (k : w.ownsRow B' ty' sz' u m ys) (hne : ty ≠ ty') (hg : w.grownBy w' u.ownBlock) : w'.ownsRow B ty sz v n xs := by
  rcases k.2 with ⟨rfl, _⟩ | ⟨g', cap', cur', rfl, _, hc', _⟩
  · rcases h.2 with ⟨rfl, h0⟩ | ⟨g, cap, cur, rfl, _⟩
    · exact ⟨h.1, .inl ⟨rfl, h0⟩⟩
    · exact h.kept hg (.inr (by simp [Value.ownBlock]))
  · rcases h.2 with ⟨rfl, h0⟩ | ⟨g, cap, cur, rfl, _, hc, _⟩
    · exact ⟨h.1, .inl ⟨rfl, h0⟩⟩
    · refine h.kept hg (.inr fun e => ?_)
      simp only [Value.ownBlock, Option.some.injEq] at e
      subst e
      rw [hc] at hc'
      simp only [Option.some.injEq, Obj.cells.injEq] at hc'
      exact hne hc'.2.1
theorem seven_new (w : World) (r : Rc) (u : Value) (ty : TypeId) : ∀ j v, (r.cells u)[j]? = some v → (w.alloc (.cells #[.int .i64 r.kind, .string (mkB r.at'), .int .i64 r.mode, .int .i64 r.time, .int .i64 r.size, u, .string (mkB r.tg)] ty)).cell? ((⟨w.heap.size, 0, none⟩ : Addr).add j) = some v :=
  World.news_of_block (heap_alloc_new w _)
theorem seven_one (r : Rc) (a : Option Addr) (n c : Nat) : ∀ v ∈ r.cells (.slice a n c), v.oneCell' = true := by
  intro v hv
  simp only [Rc.cells, List.mem_cons, List.not_mem_nil, or_false] at hv
  rcases hv with rfl | rfl | rfl | rfl | rfl | rfl | rfl <;> rfl
theorem OT.formN {w : World} {B : Nat} {v : Value} {l : List (List UInt8)} (h : OT w B v l) : ∃ a c, v = .slice a l.length c := by
  rcases h.2 with ⟨rfl, h0⟩ | ⟨g, cap, cur, rfl, _⟩
  · exact ⟨none, 0, by rw [h0]⟩
  · exact ⟨_, _, rfl⟩
theorem RO.form {w : World} {B : Nat} {v : Value} {l : List RcV} (h : RO w B v l) : ∃ a c, v = .slice a l.length c := by
  rcases h.1.2 with ⟨rfl, h0⟩ | ⟨g, cap, cur, rfl, _⟩
  · exact ⟨none, 0, by rw [h0]⟩
  · exact ⟨_, _, rfl⟩
end Go.Proofs.YtkgjepgaekbniaaDoor
