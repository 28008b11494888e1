/- Contract of the document's tokens. -/
import Derived.Test.YthkppipdflmekaaGreatQRTkM
import Derived.Deep.AppendLies
set_option maxRecDepth 100000
set_option maxHeartbeats 40000000
namespace Go.Proofs.YthkppipdflmekaaGreat
open Go.RowKit
set_option linter.unusedVariables false
set_option linter.unusedSimpArgs false
theorem IQ.since {w W : World} {v : Value} {zs : List Int} (h : IQ w v zs) (hb : Below w.heap.size w W) : IQ W v zs := h.below hb
theorem SB.drew {w W : World} {B g c : Nat} {L : List Bool} {bx rx p o m e : Nat} (h : SB w W B g c L bx rx p o m e) : SB w W.drew B g c L bx rx p o m e := ⟨h.ob.drew, h.bxh, h.rxh, h.bel.drew, h.lo⟩
theorem TT.drew {w W : World} {B g c : Nat} {L : List Bool} {bx rx p o m e : Nat} {R : List RW} {vo : Value} {acc : List Tok} {tk b l d : Nat} (h : TT w W B g c L bx rx p o m e R vo acc tk b l d) : TT w W.drew B g c L bx rx p o m e R vo acc tk b l d := ⟨⟨h.tb.sb.drew, h.tb.rows, h.tb.out⟩, h.tkh, h.tkn, h.one⟩
theorem q32 (ns : List Nat) (h : qbh ns) : in15 (zz ns) := (qku ns).2 (by rw [List.all_eq_true]; intro n hn; simpa using h n hn)
theorem qf5 {W : World} {B C n sz : Nat} {ty : TypeId} {v : Value} {xs : List Value} (h : W.ownsRow B ty sz v n xs) (hC : C ≤ B) : W.ownsRow C ty sz v n xs := by
 refine ⟨h.1, ?_⟩
 rcases h.2 with h | ⟨g, cap, cur, e, h2, h3⟩
 · exact .inl h
 · exact .inr ⟨g, cap, cur, e, Nat.le_trans hC h2, h3⟩
theorem Tryz.infoT5 : (Tryz.prog.info? 53).map (fun i => (i.zero, i.size, i.bytes)) = some (some (.agg #[.int .u8 0, .int .i64 0, .int .i64 0]), 3, 24) := by kernel_rfl
theorem qst (w : World) (cs : Array Value) (ty : TypeId) : ∀ j u, cs.toList[j]? = some u → (w.alloc (.cells cs ty)).cell? ((⟨w.heap.size, 0, none⟩ : Addr).add j) = some u := World.news_of_block (heap_alloc_new w _)
theorem qss (b l d : Int) : ∀ u ∈ [Value.int .u8 b, .int .i64 l, .int .i64 d], u.oneCell' = true := by
 intro u hu
 simp only [List.mem_cons, List.not_mem_nil, or_false] at hu
 rcases hu with rfl | rfl | rfl <;> rfl
def qs9 (W : World) (bx N : Nat) : Nat := match W.cell? ⟨bx, 4, none⟩ with
 | some (.int _ e) => if e = 0 then (match W.cell? ⟨bx, 1, none⟩ with
  | some (.int _ p) => N + 2 - p.toNat
  | _ => 0) else 0
 | _ => 0
theorem SB.left {w W : World} {B g c : Nat} {L : List Bool} {bx rx p o m e : Nat} (h : SB w W B g c L bx rx p o m e) (N : Nat) : qs9 W bx N = if e = 0 then N + 2 - p else 0 := by
 obtain ⟨⟨_, a1, _, _, a4⟩, _⟩ := qaa h.bxh
 unfold qs9
 rw [a4, a1]
 simp
def tkR (vl vd : Value) (ls ds : List Nat) (b : Nat) : List RW := [⟨56, 1, vl, ls.length, uc (cdOf ls) ls.length⟩, ⟨56, 1, vd, ds.length, uc (cdOf ds) ds.length⟩, ⟨3, 1, .slice (some ⟨b, 0, none⟩) 29 29, 29, nc rzA⟩, ⟨3, 1, .slice (some ⟨b + 1, 0, none⟩) 29 29, 29, nc rzB⟩, ⟨3, 1, .slice (some ⟨b + 2, 0, none⟩) 30 30, 30, nc rzC⟩, ⟨3, 1, .slice (some ⟨b + 3, 0, none⟩) 30 30, 30, nc rzD⟩]
theorem qi4 {w W W' : World} {R : List RW} (h : qoh w W R) (hb : Below W.heap.size W W') : qoh w W' R := fun r hr => ⟨(h r hr).1, qb2 (h r hr).2 hb⟩
theorem qj5 (w W : World) (hw : w.heap.size ≤ W.heap.size) : Below W.heap.size W ((((W.alloc (.cells (nc rzA).toArray 3)).alloc (.cells (nc rzB).toArray 3)).alloc (.cells (nc rzC).toArray 3)).alloc (.cells (nc rzD).toArray 3)) ∧ qoh w ((((W.alloc (.cells (nc rzA).toArray 3)).alloc (.cells (nc rzB).toArray 3)).alloc (.cells (nc rzC).toArray 3)).alloc (.cells (nc rzD).toArray 3)) [⟨3, 1, .slice (some ⟨W.heap.size, 0, none⟩) 29 29, 29, nc rzA⟩, ⟨3, 1, .slice (some ⟨W.heap.size + 1, 0, none⟩) 29 29, 29, nc rzB⟩, ⟨3, 1, .slice (some ⟨W.heap.size + 2, 0, none⟩) 30 30, 30, nc rzC⟩, ⟨3, 1, .slice (some ⟨W.heap.size + 3, 0, none⟩) 30 30, 30, nc rzD⟩] := by
 have mk : ∀ (W : World) (l : List Nat) (n : Nat), l.length = n → n ≤ 30 → w.heap.size ≤ W.heap.size → (W.alloc (.cells (nc l).toArray 3)).ownsRow w.heap.size 3 1 (.slice (some ⟨W.heap.size, 0, none⟩) n n) n (nc l) := fun W l n hl hn hw => by
  have := World.ownsRow_lit (base := w.heap.size) (e := 3) (size := 1) W (nc l).toArray n hw (by unfold maxLen; omega) (by simp [nc]; omega)
  simpa using this
 refine ⟨((((Below.refl _ W).alloc (Nat.le_refl _) _).alloc (by rw [World.size_alloc]; omega) _).alloc (by rw [World.size_alloc, World.size_alloc]; omega) _).alloc (by rw [World.size_alloc, World.size_alloc, World.size_alloc]; omega) _, fun r hr => ?_⟩
 simp only [List.mem_cons, List.not_mem_nil, or_false] at hr
 rcases hr with rfl | rfl | rfl | rfl
 · exact ⟨by show (3 : Nat) ≠ 99 ∧ (3 : Nat) ≠ 53; decide, (((mk W rzA 29 (by decide) (by decide) hw).alloc _).alloc _).alloc _⟩
 · refine ⟨by show (3 : Nat) ≠ 99 ∧ (3 : Nat) ≠ 53; decide, ?_⟩
   have := mk (W.alloc (.cells (nc rzA).toArray 3)) rzB 29 (by decide) (by decide) (by rw [World.size_alloc]; omega)
   rw [World.size_alloc] at this
   exact (this.alloc _).alloc _
 · refine ⟨by show (3 : Nat) ≠ 99 ∧ (3 : Nat) ≠ 53; decide, ?_⟩
   have := mk ((W.alloc (.cells (nc rzA).toArray 3)).alloc (.cells (nc rzB).toArray 3)) rzC 30 (by decide) (by decide) (by rw [World.size_alloc, World.size_alloc]; omega)
   rw [World.size_alloc, World.size_alloc] at this
   exact this.alloc _
 · refine ⟨by show (3 : Nat) ≠ 99 ∧ (3 : Nat) ≠ 53; decide, ?_⟩
   have := mk (((W.alloc (.cells (nc rzA).toArray 3)).alloc (.cells (nc rzB).toArray 3)).alloc (.cells (nc rzC).toArray 3)) rzD 30 (by decide) (by decide) (by rw [World.size_alloc, World.size_alloc, World.size_alloc]; omega)
   rw [World.size_alloc, World.size_alloc, World.size_alloc] at this
   exact this
theorem qe7 {w W : World} {R : List RW} (h : qoh w W R) {ty : TypeId} {b n : Nat} {l : List Nat} (hm : (⟨ty, 1, .slice (some ⟨b, 0, none⟩) n n, n, nc l⟩ : RW) ∈ R) {i x : Nat} (hi : l[i]? = some x) : W.cell? ⟨b, i, none⟩ = some (.int .i64 (x : Int)) := by
 have := World.ownsRow.cells (h _ hm).2 (g := b) rfl i (.int .i64 (x : Int)) (by show (nc l)[i]? = _; unfold nc; rw [List.getElem?_map, hi]; rfl)
 rwa [Addr.add_mid, Nat.zero_add] at this
def SzIn (W : World) (b : Nat) : Prop := (∀ i, i < 29 → W.cell? ⟨b, i, none⟩ = some (.int .i64 ((szF i false).1 : Int)) ∧ W.cell? ⟨b + 1, i, none⟩ = some (.int .i64 ((szF i false).2 : Int))) ∧ (∀ i, i < 30 → W.cell? ⟨b + 2, i, none⟩ = some (.int .i64 ((szF i true).1 : Int)) ∧ W.cell? ⟨b + 3, i, none⟩ = some (.int .i64 ((szF i true).2 : Int)))
theorem qug {w W : World} {vl vd : Value} {ls ds : List Nat} {b : Nat} (h : qoh w W (tkR vl vd ls ds b)) : SzIn W b := by
 refine ⟨fun i hi => ⟨?_, ?_⟩, fun i hi => ⟨?_, ?_⟩⟩
 · exact qe7 h (l := rzA) (n := 29) (b := b) (ty := 3) (by unfold tkR; simp) (rzAB ⟨i, hi⟩).1
 · exact qe7 h (l := rzB) (n := 29) (b := b + 1) (ty := 3) (by unfold tkR; simp) (rzAB ⟨i, hi⟩).2
 · exact qe7 h (l := rzC) (n := 30) (b := b + 2) (ty := 3) (by unfold tkR; simp) (rzCD ⟨i, hi⟩).1
 · exact qe7 h (l := rzD) (n := 30) (b := b + 3) (ty := 3) (by unfold tkR; simp) (rzCD ⟨i, hi⟩).2
theorem qmu (g c p o m B : Nat) (L : List Bool) (vl vd : Value) (ls ds : List Nat) (w : World) (r : Except Nat (List Tok × Nat × Nat)) (hO : OB w B (.slice (some ⟨g, 0, none⟩) L.length c) L) (hL : IQ w vl (zz ls)) (hD : IQ w vd (zz ds)) (fl : fitE ls = true) (fd : fitE ds = true) (hN : L.length ≤ 80000) (hp : p ≤ L.length) (ho : o ≤ m) (hm : m ≤ 65536) (hr : tksF ls ds (fun i => L.getD i false) L.length m (L.length + 1) p o [] = r) :
    Calls Tryz.prog 40 #[sn g L.length c p o m 0, vl, vd] w fun x w' => ∃ (oa : Option Addr) (n oc q o1 e1 : Nat), x = .returned (.tuple #[sn g L.length c q o1 m e1, .slice oa n oc]) ∧ ((e1 = 0 ∧ ∃ ts : List Tok, r = .ok (ts, q, o1) ∧ n = ts.length ∧ w'.ownsRow w.heap.size 53 3 (.slice oa n oc) n (tcs ts)) ∨ (e1 ≠ 0 ∧ r = .error e1)) ∧ Below w.heap.size w w' := by
 obtain ⟨i1, hj, hy0, hy1, hy2⟩ := info_parts Tryz.infoT5
 have HS0 : Hid (SB w _ B g c L w.heap.size (w.heap.size + 1) p o m 0) := SB.start hO p o m 0
 obtain ⟨gl, ol, cl, rfl, hgl, hcl⟩ := hL
 obtain ⟨gd, od, cd', rfl, hgd, hcd⟩ := hD
 have HIL : Hid (∀ W, Below w.heap.size w W → IQ W (.slice (some ⟨gl, ol, none⟩) (zz ls).length cl) (zz ls)) := fun W hb => IQ.since ⟨gl, ol, cl, rfl, hgl, hcl⟩ hb
 have HID : Hid (∀ W, Below w.heap.size w W → IQ W (.slice (some ⟨gd, od, none⟩) (zz ds).length cd') (zz ds)) := fun W hb => IQ.since ⟨gd, od, cd', rfl, hgd, hcd⟩ hb
 obtain ⟨el, Ll⟩ := qbx fl
 obtain ⟨ed, Ld⟩ := qbx fd
 have HR0 : Hid (tksF ls ds (fun i => L.getD i false) L.length m (L.length + 1) p o [] = r) := hr
 have hl3 : (zz ls).length ≤ 320 := by rw [qa4]; exact Ll.2.1
 have hd3 : (zz ds).length ≤ 320 := by rw [qa4]; exact Ld.2.1
 have HFL : Hid (∀ W, Below w.heap.size w W → Calls Tryz.prog 68 #[.slice (some ⟨gl, ol, none⟩) (zz ls).length cl] W fun e w' => e = .returned (.int .i64 0) ∧ w' = W) := fun W hb => by
  have := qeh _ (zz ls) W (HIL.out W hb) (by omega)
  rw [el] at this; exact this
 have HFD : Hid (∀ W, Below w.heap.size w W → Calls Tryz.prog 68 #[.slice (some ⟨gd, od, none⟩) (zz ds).length cd'] W fun e w' => e = .returned (.int .i64 0) ∧ w' = W) := fun W hb => by
  have := qeh _ (zz ds) W (HID.out W hb) (by omega)
  rw [ed] at this; exact this
 have HWR : Hid (∀ W, Calls Tryz.prog 42 #[.agg #[.slice (some ⟨g, 0, none⟩) L.length c, .int .i64 (p : Int), .int .i64 (o : Int), .int .i64 (m : Int), .int .i64 0], .bool false, .int .i64 3] W fun x w' => x = .returned (.agg #[.slice (some ⟨g, 0, none⟩) L.length c, .int .i64 (p : Int), .int .i64 (o : Int), .int .i64 (m : Int), .int .i64 0]) ∧ Below W.heap.size W w') := fun W => qbb g L.length c p o m 0 false 3 W
 clear hO hr hcl hcd
 unfold snC sn0 at HS0
 simp only [show ((0 : Nat) : Int) = 0 from rfl] at HS0
 go_enter Tryz.func40, Tryz.ntmps40
 unfold sn
 go_upto_region 1 with fail
 generalize World.alloc (World.alloc w _) _ = W0 at *
 go_cut [20] (fun _ wx => SB w wx B g c L w.heap.size (w.heap.size + 1) p o m 0)
 case first =>
  obtain ⟨⟨a0, a1, a2, a3, a4⟩, b0, b1, b2, b3, b4⟩ := qaa HS0.out.bxh
  go_region_with (first | (go_at_call 68; refine (HFL.out _ HS0.out.bel.drew).mono ?_; rintro e w' ⟨rfl, hw'⟩; cases hw') | (go_at_call 42; refine (HWR.out _).mono ?_; rintro e V0 ⟨rfl, hb⟩; have hs := HS0.out.drew.call hb; have ⟨⟨a0', a1', a2', a3', a4'⟩, b0', b1', b2', b3', b4'⟩ := qaa hs.bxh))
  all_goals
   have HQ : Hid _ := hs.put p o m 0
   clear hs hb
   go_wp2
   go_meet
   exact HQ.out
 case rest =>
  have HS1 : Hid (SB w wc B g c L w.heap.size (w.heap.size + 1) p o m 0) := hcut
  clear hcut HS0
  go_upto_region 2 with fail
  go_cut [25] (fun _ wx => SB w wx B g c L w.heap.size (w.heap.size + 1) p o m 0)
  case first =>
   obtain ⟨⟨a0, a1, a2, a3, a4⟩, b0, b1, b2, b3, b4⟩ := qaa HS1.out.bxh
   go_region_with (first | (go_at_call 68; refine (HFD.out _ HS1.out.bel.drew).mono ?_; rintro e w' ⟨rfl, hw'⟩; cases hw') | (go_at_call 42; refine (HWR.out _).mono ?_; rintro e V1 ⟨rfl, hb⟩; have hs := HS1.out.drew.call hb; have ⟨⟨a0', a1', a2', a3', a4'⟩, b0', b1', b2', b3', b4'⟩ := qaa hs.bxh))
   all_goals
    have HQ : Hid _ := hs.put p o m 0
    clear hs hb
    go_wp2
    go_meet
    exact HQ.out
  case rest =>
   have HS2 : Hid (SB w _ B g c L w.heap.size (w.heap.size + 1) p o m 0) := hcut
   clear hcut HS1 HFL HFD HWR
   have HSZ : Hid (_ ∧ _) := qj5 w wc HS2.out.bel.size
   have hwc := HS2.out.bel.size
   go_wp2_with fail
   refine (qkd wc).mono ?_
   rintro e w3 ⟨rfl, hw3⟩
   rw [← hw3] at HSZ
   clear hw3
   generalize hsb : wc.heap.size = sb at *
   have hsbl : w.heap.size ≤ sb := hwc
   have HS3 : Hid (SB w w3 B g c L w.heap.size (w.heap.size + 1) p o m 0) := HS2.out.call (by rw [hsb]; exact HSZ.out.1)
   have HK3 : Hid (qoh w w3 _) := HSZ.out.2
   clear HS2 HSZ hsb hwc
   have hs4 := HS3.out.call ((Below.refl _ w3).alloc (Nat.le_refl _) (.cells #[] 53))
   have hk4 := qi4 HK3.out ((Below.refl _ w3).alloc (Nat.le_refl _) (.cells #[] 53))
   have ho4 : (w3.alloc (.cells #[] 53)).ownsRow w.heap.size 53 3 (.slice (some ⟨w3.heap.size, 0, none⟩) 0 0) 0 [] := World.ownsRow_lit w3 #[] 0 HS3.out.bel.size (by decide) rfl
   have HT1 : Hid (∀ W, Below w.heap.size w W → Calls _ _ _ _ _) := fun W hb => qgj _ (zz ls) W (HIL.out W hb) hl3 (q32 ls Ll.1)
   have HT2 : Hid (∀ W, Below w.heap.size w W → Calls _ _ _ _ _) := fun W hb => qgj _ (zz ds) W (HID.out W hb) hd3 (q32 ds Ld.1)
   have HS4 : Hid (SB w _ B g c L w.heap.size (w.heap.size + 1) p o m 0) := hs4
   have HK4 : Hid (qoh w _ _) := hk4
   have HO4 : Hid (World.ownsRow _ _ _ _ _ _ _) := ho4
   obtain ⟨⟨a0, a1, a2, a3, a4⟩, _⟩ := qaa hs4.bxh
   clear hs4 hk4 ho4 HS3 HK3
   go_upto_region 7 with fail
   generalize World.alloc w3 _ = W4 at *
   generalize w3.heap.size = so at *
   clear a0 a1 a2 a3 a4
   go_wp2_with fail
   refine (HT1.out _ HS4.out.bel).mono ?_
   rintro e W5 ⟨v5, rfl, ⟨hO5, hn5⟩, hb5⟩
   obtain ⟨a5, c5, rfl⟩ := qam hO5
   have HB5 : Hid (Below w.heap.size w W5) := HS4.out.bel.trans (hb5.mono HS4.out.bel.size)
   go_wp2_with fail
   refine (HT2.out _ HB5.out).mono ?_
   rintro e W6 ⟨v6, rfl, ⟨hO6, hn6⟩, hb6⟩
   obtain ⟨a6, c6, rfl⟩ := qam hO6
   rw [qhx] at hO5 hO6
   have hB56 : Below W4.heap.size W4 W6 := hb5.trans (hb6.mono hb5.size)
   have HTB : Hid (TB w W6 B g c L w.heap.size (w.heap.size + 1) p o m 0 (tkR (.slice a5 (zz ls).length c5) (.slice a6 (zz ds).length c6) ls ds sb) (.slice (some ⟨so, 0, none⟩) 0 0) []) := by
    refine ⟨HS4.out.call hB56, fun q hq => ?_, qb2 HO4.out hB56⟩
    unfold tkR at hq
    rcases List.mem_cons.1 hq with rfl | hq
    · exact ⟨by show (56 : Nat) ≠ 99 ∧ (56 : Nat) ≠ 53; decide, by have := qf5 (qb2 hO5 hb6) HS4.out.bel.size; rw [qa4] at this; rw [qa4]; exact this⟩
    · rcases List.mem_cons.1 hq with rfl | hq
      · exact ⟨by show (56 : Nat) ≠ 99 ∧ (56 : Nat) ≠ 53; decide, by have := qf5 hO6 HB5.out.size; rw [qa4] at this; rw [qa4]; exact this⟩
      · exact qi4 HK4.out hB56 q hq
   clear hO5 hO6 hb5 hb6 hB56 HS4 HK4 HO4 HT1 HT2 HB5
   have HM : Hid (∀ q ∈ tkR (.slice a5 (zz ls).length c5) (.slice a6 (zz ds).length c6) ls ds sb, q ∈ tkR (.slice a5 (zz ls).length c5) (.slice a6 (zz ds).length c6) ls ds sb) := fun q h => h
   have HUL : Hid (∀ {W : World} {bx rx p' o' e'} {vo : Value} {acc : List Tok}, TB w W B g c L bx rx p' o' m e' (tkR (.slice a5 (zz ls).length c5) (.slice a6 (zz ds).length c6) ls ds sb) vo acc → UR W (.slice a5 (zz ls).length c5) (zz ls).length (cdOf ls)) := fun h => by
    have := (h.rows _ (List.mem_cons_self ..)).2
    rw [qa4] at this ⊢
    exact UR.of this (by rw [qa4] at hn5; exact hn5)
   have HUD : Hid (∀ {W : World} {bx rx p' o' e'} {vo : Value} {acc : List Tok}, TB w W B g c L bx rx p' o' m e' (tkR (.slice a5 (zz ls).length c5) (.slice a6 (zz ds).length c6) ls ds sb) vo acc → UR W (.slice a6 (zz ds).length c6) (zz ds).length (cdOf ds)) := fun h => by
    have := (h.rows _ (List.mem_cons_of_mem _ (List.mem_cons_self ..))).2
    rw [qa4] at this ⊢
    exact UR.of this (by rw [qa4] at hn6; exact hn6)
   have HSI : Hid (∀ {W : World} {bx rx p' o' e'} {vo : Value} {acc : List Tok}, TB w W B g c L bx rx p' o' m e' (tkR (.slice a5 (zz ls).length c5) (.slice a6 (zz ds).length c6) ls ds sb) vo acc → SzIn W sb) := fun h => qug h.rows
   clear HM
   generalize tkR (.slice a5 (zz ls).length c5) (.slice a6 (zz ds).length c6) ls ds sb = R at *
   go_wp2
   go_loopw [12] (fun vo W => ∃ (k p o e : Nat) (acc : List Tok), TB w W B g c L w.heap.size (w.heap.size + 1) p o m e R vo acc ∧ acc.length ≤ 65537 ∧ o ≤ 200000 ∧ ((e = 0 ∧ p ≤ L.length ∧ acc.length ≤ o ∧ o ≤ m ∧ L.length + 1 ≤ k + p ∧ tksF ls ds (fun i => L.getD i false) L.length m k p o acc = r) ∨ (e ≠ 0 ∧ r = .error e))) (fun _ W => qs9 W w.heap.size L.length)
   case atStart => exact ⟨_, p, o, 0, [], HTB.out, by simp, by omega, .inl ⟨rfl, hp, by simp, ho, by omega, HR0.out⟩⟩
   case round =>
    clear HTB HR0 hp ho
    obtain ⟨k, p, o, e, acc, hT, hacc, ho2, hcase⟩ := hrel
    obtain ⟨oa, oc, rfl⟩ := qam hT.out
    have HMS := hT.sb.left L.length
    have HS7 : Hid (TB w wr B g c L w.heap.size (w.heap.size + 1) p o m e R _ acc) := hT
    generalize hW7 : wr = W7 at *
    clear hW7
    rcases hcase with ⟨rfl, hp, hao, ho, hk, hr⟩ | ⟨he, hr⟩
    · obtain ⟨k, rfl⟩ : ∃ k', k = k' + 1 := ⟨k - 1, by omega⟩
      rw [tksF] at hr
      have HSY : Hid (Calls _ _ _ _ _) := qqw g c p o m B L _ _ ls W7 hT.sb.ob (HIL.out _ hT.sb.bel) (HUL.out hT) fl (by omega) hp
      have HR : Hid (_ = r) := hr
      clear hr hT
      obtain ⟨⟨a0, a1, a2, a3, a4⟩, _⟩ := qaa HS7.out.sb.bxh
      simp only [show ((0 : Nat) : Int) = 0 from rfl] at a4
      go_wp2_with fail
      refine (Hid.out HSY : Calls _ _ _ _ _).mono ?_
      rintro e V7 ⟨hx, hb⟩
      clear HSY
      rcases hx with ⟨t, q, hnx, rfl⟩ | ⟨er, q, hnx, her, hq, rfl⟩
      · rw [hnx] at HR
        have hnq := qdj Ll.1 hp hnx
        have h320 : t < 320 := by have := Ll.2.1; omega
        simp only at HR
        clear hnx
        clear a0 a1 a2 a3 a4
        have hs := HS7.out.call hb
        obtain ⟨⟨a0, a1, a2, a3, a4⟩, b0, b1, b2, b3, b4⟩ := qaa hs.sb.bxh
        have HS8 : Hid _ := hs.put q o m 0
        unfold put5 at HS8
        simp only [show ((0 : Nat) : Int) = 0 from rfl] at HS8
        unfold sn
        clear hb hs HS7
        go_upto_region 11 with fail
        generalize World.setCell _ _ _ = W8 at *
        clear a0 a1 a2 a3 a4 b0 b1 b2 b3 b4
        by_cases h256 : t = 256
        · subst h256
          rw [if_pos rfl] at HR
          clear HMS
          obtain ⟨⟨a0, a1, a2, a3, a4⟩, _⟩ := qaa HS8.out.sb.bxh
          go_upto_region 12 with fail
          go_cut [7] (fun v7 wx => v7 = .slice oa acc.length oc ∧ wx.heap[w.heap.size + 1]? = some (.cells (snC g L.length c q o m 0) 99 (0, 0)) ∧ Below w.heap.size w wx ∧ Hid (World.ownsRow wx w.heap.size 53 3 (.slice oa acc.length oc) acc.length (tcs acc)))
          case first =>
           obtain ⟨_, b0, b1, b2, b3, b4⟩ := qaa HS8.out.sb.rxh
           have HD : Hid _ := HS8.out.sb.done (.slice (some ⟨g, 0, none⟩) L.length c) (.int .i64 (q : Int)) (.int .i64 (o : Int)) (.int .i64 (m : Int)) (.int .i64 0)
           have HOR : Hid (World.ownsRow _ _ _ _ _ _ _) := qan HS8.out.out HS8.out.sb.rxh (by decide) (qar _ _ (.slice (some ⟨g, 0, none⟩) L.length c) (.int .i64 (q : Int)) (.int .i64 (o : Int)) (.int .i64 (m : Int)) (.int .i64 0))
           unfold put5 at HD HOR
           go_wp2
           go_meet
           exact ⟨rfl, HD.out.1, HD.out.2, HOR.out⟩
          case rest =>
           obtain ⟨rfl, hrx, hbw, HOR⟩ := hcut
           have HBR : Hid (Below w.heap.size w wc) := hbw
           have HRX : Hid (_ = _) := hrx
           clear hbw hrx HS8
           go_step
           go_step
           try simp (config := { zetaDelta := true }) only [Exit.inBlock, Exit.then]
           refine bodyPost_ret (qkc Tryz.results40 _ _ (w.heap.size + 1) 99 _ (0, 0) _ rfl HRX.out Tryz.underlying99 rfl (iSn g L.length c q o m 0) _ rfl) rfl ?_
           exact ⟨oa, acc.length, oc, q, o, 0, rfl, .inl ⟨rfl, acc, HR.out.symm, rfl, HOR.out⟩, HBR.out⟩
        · rw [if_neg h256] at HR
          have h6 : ((t : Int) == 256) = false := by simp; omega
          obtain ⟨tb0, hb0⟩ : ∃ z, z = t % 256 := ⟨_, rfl⟩
          have h8 : (t : Int) % 256 = (tb0 : Int) := by omega
          have HB0 : Hid (tb0 = t % 256) := hb0
          clear hb0
          have HS9 : Hid (TT w _ B g c L w.heap.size (w.heap.size + 1) q o m 0 R _ acc W8.heap.size tb0 0 0) := HS8.out.tok tb0 0 0
          simp only [show ((0 : Nat) : Int) = 0 from rfl] at HS9
          obtain ⟨⟨a0, a1, a2, a3, a4⟩, _⟩ := qaa HS8.out.sb.bxh
          simp only [show ((0 : Nat) : Int) = 0 from rfl] at a4
          clear HS8
          go_upto_region 14 with fail
          generalize World.alloc W8 _ = W9 at *
          generalize W8.heap.size = tk at *
          clear a0 a1 a2 a3 a4
          go_upto_if 69 with fail
          go_cut [19] (fun s19 wx => ∃ (q' n e' b l d : Nat), s19 = .int .i64 (n : Int) ∧ n ≤ 100000 ∧ TT w wx B g c L w.heap.size (w.heap.size + 1) q' o m e' R (.slice oa acc.length oc) acc tk b l d ∧ Hid (JT ls ds L p m k q' o n e' acc ⟨b, (l : Int), (d : Int)⟩ r))
          case first =>
           by_cases ht : t < 256
           · have h7 : ¬ (256 : Int) < (t : Int) := by omega
             have HJ : Hid (JT ls ds L p m k q o 1 0 acc ⟨tb0, ((0 : Nat) : Int), ((0 : Nat) : Int)⟩ r) := by
              have hbt : tb0 = t := by have := HB0.out; omega
              refine .inl ⟨rfl, hnq.2.1, hnq.2.2, Nat.le_refl _, by omega, ?_⟩
              have h := HR.out
              unfold tkE at h
              rw [if_pos ht] at h
              rw [hbt]
              by_cases h5 : m < o + 1
              · rw [if_pos h5] at h ⊢; exact h
              · rw [if_neg h5] at h ⊢; exact h
             go_wp2
             go_meet
             exact ⟨q, 1, 0, tb0, 0, 0, rfl, by omega, HS9.out, HJ.out⟩
           · obtain ⟨i, hti⟩ : ∃ i, t = i + 257 := ⟨t - 257, by omega⟩
             have HTI : Hid (t = i + 257) := hti
             have h7 : (256 : Int) < (t : Int) := by omega
             have hti2 : (t : Int) - 257 = (i : Int) := by omega
             clear h6 h8 HB0 hti
             obtain ⟨⟨a0, a1, a2, a3, a4⟩, b0, b1, b2, b3, b4⟩ := qaa HS9.out.tb.sb.bxh
             simp only [show ((0 : Nat) : Int) = 0 from rfl] at a4
             go_wp2_with fail
             refine (qbi g L.length c q o m 0 0 rfl _ 3 3 rfl W9).mono ?_
             rintro x V10 ⟨e1, rfl, he1, hb⟩
             clear a0 a1 a2 a3 a4 b0 b1 b2 b3 b4
             have hs := HS9.out.call hb
             obtain ⟨⟨a0, a1, a2, a3, a4⟩, b0, b1, b2, b3, b4⟩ := qaa hs.tb.sb.bxh
             have HS10 : Hid (TT w _ B g c L w.heap.size (w.heap.size + 1) q o m e1 R _ acc tk tb0 0 0) := hs.put q o m e1
             unfold put5 at HS10
             clear hb hs HS9
             go_upto_region 17 with fail
             generalize World.setCell _ _ _ = W10 at *
             clear a0 a1 a2 a3 a4 b0 b1 b2 b3 b4
             by_cases hbig : 28 < i
             · have HR2 : Hid (e1 = 3 ∧ r = .error 3) := by
                 have h := HR.out
                 have h1 := HTI.out
                 rw [q1n (by omega)] at h
                 refine ⟨?_, h.symm⟩
                 exact he1.out.trans (if_pos (by simp; omega))
               clear HR HMS he1
               obtain ⟨rfl, -⟩ := HR2.out
               obtain ⟨⟨a0, a1, a2, a3, a4⟩, _⟩ := qaa HS10.out.tb.sb.bxh
               go_upto_region 18 with fail
               go_cut [7] (fun v7 wx => v7 = .slice oa acc.length oc ∧ wx.heap[w.heap.size + 1]? = some (.cells (snC g L.length c q o m 3) 99 (0, 0)) ∧ Below w.heap.size w wx ∧ Hid (World.ownsRow wx w.heap.size 53 3 (.slice oa acc.length oc) acc.length (tcs acc)))
               case first =>
                obtain ⟨_, b0, b1, b2, b3, b4⟩ := qaa HS10.out.tb.sb.rxh
                have HD : Hid _ := HS10.out.tb.sb.done (.slice (some ⟨g, 0, none⟩) L.length c) (.int .i64 (q : Int)) (.int .i64 (o : Int)) (.int .i64 (m : Int)) (.int .i64 3)
                have HOR : Hid (World.ownsRow _ _ _ _ _ _ _) := qan HS10.out.tb.out HS10.out.tb.sb.rxh (by decide) (qar _ _ (.slice (some ⟨g, 0, none⟩) L.length c) (.int .i64 (q : Int)) (.int .i64 (o : Int)) (.int .i64 (m : Int)) (.int .i64 3))
                unfold put5 at HD HOR
                go_wp2
                go_meet
                exact ⟨rfl, HD.out.1, HD.out.2, HOR.out⟩
               case rest =>
                obtain ⟨rfl, hrx, hbw, HOR⟩ := hcut
                have HBR : Hid (Below w.heap.size w wc) := hbw
                have HRX : Hid (_ = _) := hrx
                clear hbw hrx HS10
                go_step
                go_step
                try simp (config := { zetaDelta := true }) only [Exit.inBlock, Exit.then]
                refine bodyPost_ret (qkc Tryz.results40 _ _ (w.heap.size + 1) 99 _ (0, 0) _ rfl HRX.out Tryz.underlying99 rfl (iSn g L.length c q o m 3) _ rfl) rfl ?_
                exact ⟨oa, acc.length, oc, q, o, 3, rfl, .inr ⟨by decide, HR2.out.2⟩, HBR.out⟩
             · have hi29 : i < 29 := by omega
               have hi29i : (i : Int) < 29 := by omega
               obtain rfl : e1 = 0 := by
                have h1 := HTI.out
                rw [he1.out, if_neg (fun h => by have := h.1; simp at this; omega)]
               clear he1
               obtain ⟨⟨a0, a1, a2, a3, a4⟩, b0, b1, b2, b3, b4⟩ := qaa HS10.out.tb.sb.bxh
               simp only [show ((0 : Nat) : Int) = 0 from rfl] at a4
               go_upto_region 19 with fail
               clear a0 a1 a2 a3 a4 b0 b1 b2 b3 b4
               go_cut [17] (fun s17 wx => ∃ (p2 e2 v2 : Nat), s17 = .int .i64 (v2 : Int) ∧ Hid (p2 = nuP L.length q 0 (szF i false).2 ∧ e2 = nuE L.length q 0 (szF i false).2 ∧ v2 = nuV L q 0 (szF i false).2) ∧ TT w wx B g c L w.heap.size (w.heap.size + 1) p2 o m e2 R (.slice oa acc.length oc) acc tk tb0 0 0)
               case first =>
                have c19 := ((HSI.out HS10.out.tb).1 i hi29).2
                have hnb := (qd8 false i).2
                obtain ⟨⟨a0, a1, a2, a3, a4⟩, b0, b1, b2, b3, b4⟩ := qaa HS10.out.tb.sb.bxh
                simp only [show ((0 : Nat) : Int) = 0 from rfl] at a4
                have hwi : IntKind.i64.wrap ((t : Int) - 257) = (i : Int) := by rw [IntKind.wrap_i64]; omega
                have hwj : IntKind.i64.wrap (i : Int) = (i : Int) := by rw [IntKind.wrap_i64]; omega
                have HNU := qcv g c q o m 0 (szF i false).2 B 0 rfl ((szF i false).2 : Int) rfl L W10.drew HS10.out.tb.sb.ob.drew (by omega) (by omega) (by omega)
                have HNUM : Hid (Calls _ _ _ _ _) := HNU
                clear HNU hnb
                go_region_with (go_at_call 37; refine (Hid.out HNUM : Calls _ _ _ _ _).mono ?_; rintro x V ⟨p2, e2, v2, rfl, hq, hb⟩; have hs := HS10.out.drew.call hb; have ⟨⟨a0', a1', a2', a3', a4'⟩, b0', b1', b2', b3', b4'⟩ := qaa hs.tb.sb.bxh)
                all_goals
                 have HQ : Hid _ := hs.put p2 o m e2
                 clear hs hb
                 go_wp2
                 go_meet
                 exact ⟨p2, e2, v2, rfl, hq, HQ.out⟩
               case rest =>
                obtain ⟨p2, e2, v2, rfl, HNU, hT⟩ := hcut
                have HS11 : Hid (TT w _ B g c L w.heap.size (w.heap.size + 1) p2 o m e2 R _ acc tk tb0 0 0) := hT
                have hv2 : v2 ≤ 65535 := by rw [HNU.out.2.2]; exact qv1 L q 0 _ (by have := (qd8 false i).2; omega)
                have hp20 : e2 = 0 → p2 ≤ L.length := fun h => by
                 have h1 := HNU.out
                 rw [h1.2.1] at h
                 have h2 := qtn h
                 rw [h1.1, h2.2.1]; exact h2.2.2
                have HSYM : Hid (Calls _ _ _ _ _) := qu9 g c p2 o m e2 B (e2 : Int) rfl L _ _ ds wc HS11.out.tb.sb.ob (HID.out _ HS11.out.tb.sb.bel) (HUD.out HS11.out.tb) fd (by omega) hp20
                have c20 := ((HSI.out HS11.out.tb).1 i hi29).1
                have hA := (qd8 false i).1
                obtain ⟨n, hn⟩ : ∃ n, n = (szF i false).1 + v2 := ⟨_, rfl⟩
                have HN : Hid (n = (szF i false).1 + v2) := hn
                generalize (szF i false).1 = A at c20 hA hn
                have hni : (A : Int) + (v2 : Int) = (n : Int) := by omega
                have hnb : n ≤ 100000 := by omega
                clear hn hT hp20 hA hv2 HS10
                go_upto_region 21 with fail
                clear c20 hni
                obtain ⟨⟨a0, a1, a2, a3, a4⟩, b0, b1, b2, b3, b4⟩ := qaa HS11.out.tb.sb.bxh
                go_wp2_with fail
                refine (Hid.out HSYM : Calls _ _ _ _ _).mono ?_
                rintro x V12 ⟨q3, e3, d, rfl, hS, hb⟩
                clear a0 a1 a2 a3 a4 b0 b1 b2 b3 b4 HSYM
                have hs := HS11.out.call hb
                obtain ⟨⟨a0, a1, a2, a3, a4⟩, b0, b1, b2, b3, b4⟩ := qaa hs.tb.sb.bxh
                have HS12 : Hid (TT w _ B g c L w.heap.size (w.heap.size + 1) q3 o m e3 R _ acc tk tb0 0 0) := hs.put q3 o m e3
                unfold put5 at HS12
                clear hb hs HS11
                go_upto_region 22 with fail
                generalize World.setCell _ _ _ = W12 at *
                clear a0 a1 a2 a3 a4 b0 b1 b2 b3 b4
                obtain ⟨⟨a0, a1, a2, a3, a4⟩, b0, b1, b2, b3, b4⟩ := qaa HS12.out.tb.sb.bxh
                go_wp2_with fail
                refine (qbi g L.length c q3 o m e3 (e3 : Int) rfl _ 3 3 rfl W12).mono ?_
                rintro x V13 ⟨e4, rfl, he4, hb⟩
                clear a0 a1 a2 a3 a4 b0 b1 b2 b3 b4
                have hs := HS12.out.call hb
                obtain ⟨⟨a0, a1, a2, a3, a4⟩, b0, b1, b2, b3, b4⟩ := qaa hs.tb.sb.bxh
                have HS13 : Hid (TT w _ B g c L w.heap.size (w.heap.size + 1) q3 o m e4 R _ acc tk tb0 0 0) := hs.put q3 o m e4
                unfold put5 at HS13
                clear hb hs HS12
                go_upto_region 23 with fail
                generalize World.setCell _ _ _ = W13 at *
                clear a0 a1 a2 a3 a4 b0 b1 b2 b3 b4
                by_cases he40 : e4 = 0
                · subst he40
                  obtain ⟨hd30, hpp, hpL, hz, hx⟩ := tk_on hi29 HNU.out hS.out (by omega) he4.out
                  have hxq := qdj Ld.1 hpL hx
                  have HZ : Hid (q ≤ p2 ∧ p2 ≤ L.length ∧ szE (fun j => L.getD j false) L.length q i false = .ok ((szF i false).1 + v2, p2) ∧ nxF ds (fun j => L.getD j false) L.length p2 = .ok (d, q3) ∧ p2 < q3 ∧ q3 ≤ L.length) := ⟨hpp, hpL, hz, hx, hxq.2.1, hxq.2.2⟩
                  have hdi : (d : Int) < 30 := by omega
                  have hq3 : q3 ≤ L.length := hxq.2.2
                  clear hz hx hxq he4 hS hpp hpL
                  obtain ⟨⟨a0, a1, a2, a3, a4⟩, b0, b1, b2, b3, b4⟩ := qaa HS13.out.tb.sb.bxh
                  simp only [show ((0 : Nat) : Int) = 0 from rfl] at a4
                  go_upto_region 25 with fail
                  clear a0 a1 a2 a3 a4 b0 b1 b2 b3 b4
                  go_cut [17] (fun s17 wx => ∃ (p4 e5 v4 : Nat), s17 = .int .i64 (v4 : Int) ∧ Hid (p4 = nuP L.length q3 0 (szF d true).2 ∧ e5 = nuE L.length q3 0 (szF d true).2 ∧ v4 = nuV L q3 0 (szF d true).2) ∧ TT w wx B g c L w.heap.size (w.heap.size + 1) p4 o m e5 R (.slice oa acc.length oc) acc tk tb0 0 0)
                  case first =>
                   have c25 := ((HSI.out HS13.out.tb).2 d hd30).2
                   have hnb2 := (qd8 true d).2
                   obtain ⟨⟨a0, a1, a2, a3, a4⟩, b0, b1, b2, b3, b4⟩ := qaa HS13.out.tb.sb.bxh
                   simp only [show ((0 : Nat) : Int) = 0 from rfl] at a4
                   have HNU := qcv g c q3 o m 0 (szF d true).2 B 0 rfl ((szF d true).2 : Int) rfl L W13.drew HS13.out.tb.sb.ob.drew (by omega) (by omega) (by omega)
                   have HNUM : Hid (Calls _ _ _ _ _) := HNU
                   clear HNU hnb2
                   go_region_with (go_at_call 37; refine (Hid.out HNUM : Calls _ _ _ _ _).mono ?_; rintro x V ⟨p4, e5, v4, rfl, hq, hb⟩; have hs := HS13.out.drew.call hb; have ⟨⟨a0', a1', a2', a3', a4'⟩, b0', b1', b2', b3', b4'⟩ := qaa hs.tb.sb.bxh)
                   all_goals
                    have HQ : Hid _ := hs.put p4 o m e5
                    clear hs hb
                    go_wp2
                    go_meet
                    exact ⟨p4, e5, v4, rfl, hq, HQ.out⟩
                  case rest =>
                   obtain ⟨p4, e5, v4, rfl, HNU4, hT⟩ := hcut
                   have HS14 : Hid (TT w _ B g c L w.heap.size (w.heap.size + 1) p4 o m e5 R _ acc tk tb0 0 0) := hT
                   have hv4 : v4 ≤ 65535 := by rw [HNU4.out.2.2]; exact qv1 L q3 0 _ (by have := (qd8 true d).2; omega)
                   have c26 := ((HSI.out HS14.out.tb).2 d hd30).1
                   have hA := (qd8 true d).1
                   obtain ⟨D, hD⟩ : ∃ D, D = (szF d true).1 + v4 := ⟨_, rfl⟩
                   have HDD : Hid (D = (szF d true).1 + v4) := hD
                   generalize (szF d true).1 = A at c26 hA hD
                   have hDi : (A : Int) + (v4 : Int) = (D : Int) := by omega
                   have hDb : D ≤ 100000 := by omega
                   obtain ⟨d0, d1, d2, f0, f1, f2⟩ := qaf HS14.out.tkh
                   have HS15 : Hid (TT w _ B g c L w.heap.size (w.heap.size + 1) p4 o m e5 R _ acc tk 0 n D) := HS14.out.putT 0 n D
                   unfold qza at HS15
                   simp only [show ((0 : Nat) : Int) = 0 from rfl] at HS15
                   clear hT hA hv4 hD HS14
                   go_upto_region 27 with fail
                   generalize World.setCell _ _ _ = W15 at *
                   clear d0 d1 d2 f0 f1 f2 c26 hDi
                   obtain ⟨⟨a0, a1, a2, a3, a4⟩, b0, b1, b2, b3, b4⟩ := qaa HS15.out.tb.sb.bxh
                   obtain ⟨d0, d1, d2, f0, f1, f2⟩ := qaf HS15.out.tkh
                   go_wp2_with fail
                   refine (qbi g L.length c p4 o m e5 (e5 : Int) rfl _ 3 3 rfl W15).mono ?_
                   rintro x V16 ⟨e6, rfl, he6, hb⟩
                   clear a0 a1 a2 a3 a4 b0 b1 b2 b3 b4 d0 d1 d2 f0 f1 f2
                   have hs := HS15.out.call hb
                   obtain ⟨⟨a0, a1, a2, a3, a4⟩, b0, b1, b2, b3, b4⟩ := qaa hs.tb.sb.bxh
                   have HS16 : Hid (TT w _ B g c L w.heap.size (w.heap.size + 1) p4 o m e6 R _ acc tk 0 n D) := hs.put p4 o m e6
                   unfold put5 at HS16
                   have HJ : Hid (JT ls ds L p m k p4 o n e6 acc ⟨0, (n : Int), (D : Int)⟩ r) := by
                    have hzz := HZ.out
                    have h1 := HNU4.out
                    have h2 := he6.out
                    have h3 := HR.out
                    rw [HTI.out] at h3
                    rw [h1.2.1] at h2
                    have h4 : 1 ≤ n := by have := HN.out; have := qol hi29; omega
                    have hz := hzz.2.2.1
                    rw [← HN.out] at hz
                    have := q20 (ls := ls) hk (show p < q from hnq.2.1) h4 hd30 h3 hz hzz.1 hzz.2.2.2.2.1 hzz.2.2.2.1 (wr_of (by have a := HDD.out; have b := h1.2.2; omega) h2)
                    rw [← h1.2.2, ← HDD.out, ← h1.1] at this
                    exact this
                   clear hb hs HS15 he6
                   go_wp2
                   go_meet
                   exact ⟨p4, n, e6, 0, n, D, rfl, by omega, HS16.out, HJ.out⟩
                · have HR2 : Hid (r = .error e4) := by
                    have h := HR.out
                    have h1 := HTI.out
                    rw [h1, q39 (m := m) (o := o) hi29 HNU.out hS.out (by omega) he4.out he40] at h
                    exact h.symm
                  have hei : ((e4 : Int) != 0) = true := by simp; omega
                  clear HR HMS he4 hS
                  obtain ⟨⟨a0, a1, a2, a3, a4⟩, _⟩ := qaa HS13.out.tb.sb.bxh
                  go_upto_region 24 with fail
                  go_cut [7] (fun v7 wx => v7 = .slice oa acc.length oc ∧ wx.heap[w.heap.size + 1]? = some (.cells (snC g L.length c q3 o m e4) 99 (0, 0)) ∧ Below w.heap.size w wx ∧ Hid (World.ownsRow wx w.heap.size 53 3 (.slice oa acc.length oc) acc.length (tcs acc)))
                  case first =>
                   obtain ⟨_, b0, b1, b2, b3, b4⟩ := qaa HS13.out.tb.sb.rxh
                   have HD : Hid _ := HS13.out.tb.sb.done (.slice (some ⟨g, 0, none⟩) L.length c) (.int .i64 (q3 : Int)) (.int .i64 (o : Int)) (.int .i64 (m : Int)) (.int .i64 (e4 : Int))
                   have HOR : Hid (World.ownsRow _ _ _ _ _ _ _) := qan HS13.out.tb.out HS13.out.tb.sb.rxh (by decide) (qar _ _ (.slice (some ⟨g, 0, none⟩) L.length c) (.int .i64 (q3 : Int)) (.int .i64 (o : Int)) (.int .i64 (m : Int)) (.int .i64 (e4 : Int)))
                   unfold put5 at HD HOR
                   go_wp2
                   go_meet
                   exact ⟨rfl, HD.out.1, HD.out.2, HOR.out⟩
                  case rest =>
                   obtain ⟨rfl, hrx, hbw, HOR⟩ := hcut
                   have HBR : Hid (Below w.heap.size w wc) := hbw
                   have HRX : Hid (_ = _) := hrx
                   clear hbw hrx HS13
                   go_step
                   go_step
                   try simp (config := { zetaDelta := true }) only [Exit.inBlock, Exit.then]
                   refine bodyPost_ret (qkc Tryz.results40 _ _ (w.heap.size + 1) 99 _ (0, 0) _ rfl HRX.out Tryz.underlying99 rfl (iSn g L.length c q3 o m e4) _ rfl) rfl ?_
                   exact ⟨oa, acc.length, oc, q3, o, e4, rfl, .inr ⟨he40, HR2.out⟩, HBR.out⟩
          case rest =>
           obtain ⟨q', n, e', b, l, d, rfl, hn, hT, HJ⟩ := hcut
           have HS10 : Hid (TT w _ B g c L w.heap.size (w.heap.size + 1) q' o m e' R _ acc tk b l d) := hT
           obtain ⟨o2, ho2⟩ : ∃ o2, o2 = o + n := ⟨_, rfl⟩
           have HO2 : Hid (o2 = o + n) := ho2
           have ho2i : (o : Int) + (n : Int) = (o2 : Int) := by omega
           have ho2b : o2 ≤ 200000 := by omega
           clear ho2 hT HS9 HB0
           obtain ⟨⟨a0, a1, a2, a3, a4⟩, b0, b1, b2, b3, b4⟩ := qaa HS10.out.tb.sb.bxh
           have HS11 : Hid (TT w _ B g c L w.heap.size (w.heap.size + 1) q' o2 m e' R _ acc tk b l d) := HS10.out.set 2 (.int .i64 (o2 : Int)) q' o2 m e' rfl
           go_upto_region 29 with fail
           generalize World.setCell _ _ _ = W11 at *
           clear a0 a1 a2 a3 a4 b0 b1 b2 b3 b4 HS10
           obtain ⟨⟨a0, a1, a2, a3, a4⟩, b0, b1, b2, b3, b4⟩ := qaa HS11.out.tb.sb.bxh
           go_wp2_with fail
           refine (qbi g L.length c q' o2 m e' (e' : Int) rfl _ 2 2 rfl W11).mono ?_
           rintro x V12 ⟨e7, rfl, he7, hb⟩
           clear a0 a1 a2 a3 a4 b0 b1 b2 b3 b4
           have hs := HS11.out.call hb
           obtain ⟨⟨a0, a1, a2, a3, a4⟩, b0, b1, b2, b3, b4⟩ := qaa hs.tb.sb.bxh
           have HS12 : Hid (TT w _ B g c L w.heap.size (w.heap.size + 1) q' o2 m e7 R _ acc tk b l d) := hs.put q' o2 m e7
           unfold put5 at HS12
           have HE7 : Hid ((e7 = 0 ∧ p < q' ∧ q' ≤ L.length ∧ 1 ≤ n ∧ L.length + 1 ≤ k + q' ∧ o2 ≤ m ∧ tksF ls ds (fun i => L.getD i false) L.length m k q' o2 (acc ++ [⟨b, (l : Int), (d : Int)⟩]) = r) ∨ (e7 ≠ 0 ∧ r = .error e7)) := by
            have h1 := he7.out
            have h2 := HO2.out
            rcases HJ.out with ⟨rfl, k1, k2, k3, k4, k5⟩ | ⟨k1, k2⟩
            · by_cases h5 : m < o + n
              · rw [if_pos h5] at k5
                have : e7 = 2 := h1.trans (if_pos ⟨by simp; omega, rfl⟩)
                exact .inr ⟨by omega, by rw [this]; exact k5.symm⟩
              · rw [if_neg h5] at k5
                have : e7 = 0 := h1.trans (if_neg (fun q => by have := q.1; simp at this; omega))
                exact .inl ⟨this, k1, k2, k3, k4, by omega, by rw [h2]; exact k5⟩
            · have : e7 = e' := h1.trans (if_neg (fun q => k1 q.2))
              exact .inr ⟨by omega, by rw [this]; exact k2⟩
           clear hb hs HS11 he7 HJ
           go_upto_region 30 with fail
           generalize World.setCell _ _ _ = W12 at *
           clear a0 a1 a2 a3 a4 b0 b1 b2 b3 b4
           obtain ⟨d0, d1, d2, _⟩ := qaf HS12.out.tkh
           have HN3 : Hid _ := qst W12 #[.int .u8 (b : Int), .int .i64 (l : Int), .int .i64 (d : Int)] 53
           have HOX : Hid (World.ownsRow _ _ _ _ _ _ _) := HS12.out.tb.out.alloc (.cells #[.int .u8 (b : Int), .int .i64 (l : Int), .int .i64 (d : Int)] 53)
           have hszX := HS12.out.tb.sb.bel.size
           go_wp2_with (at_builtin; refine wpList_append_own _ rfl _ _ 49 rfl w.heap.size 53 i1 (.agg #[.int .u8 0, .int .i64 0, .int .i64 0]) 3 24 Tryz.underlying49 hj hy0 hy1 hy2 rfl (by decide) _ _ _ rfl HOX.out ⟨W12.heap.size, 0, none⟩ 1 1 [.int .u8 (b : Int), .int .i64 (l : Int), .int .i64 (d : Int)] rfl rfl HN3.out (qss _ _ _) ?c3 ?c4 ?c5 ?_)
           case c3 => unfold maxLen; omega
           case c4 => omega
           case c5 => first | omega | (rw [World.size_alloc]; omega)
           intro v9 W9' hown9 hg9 _
           have HT9 : Hid (TB w W9' B g c L w.heap.size (w.heap.size + 1) q' o2 m e7 R v9 (acc ++ [⟨b, (l : Int), (d : Int)⟩])) := HS12.out.tb.app hg9 (by rw [List.length_append, qdx]; exact hown9)
           clear hown9 hg9 HOX HN3 HS12 d0 d1 d2 ho2i
           go_wp2
           go_roundw
           case rel => exact ⟨k, q', o2, e7, _, HT9.out, by rw [List.length_append]; simp; omega, by omega, by
            rcases HE7.out with ⟨h1, h2, h3, h4, h5, h6, h7⟩ | ⟨h1, h2⟩
            · exact .inl ⟨h1, h3, by rw [List.length_append]; have := HO2.out; simp; omega, h6, by omega, h7⟩
            · exact .inr ⟨h1, h2⟩⟩
           case measure =>
            rw [HT9.out.sb.left, HMS]
            rcases HE7.out with ⟨h1, h2, h3, _⟩ | ⟨h1, h2⟩
            · rw [if_pos h1]; simp; omega
            · rw [if_neg h1]; simp; omega
      · rw [hnx] at HR
        have heri : ((er : Int) != 0) = true := by simp; omega
        have HR2 : Hid (r = .error er) := HR.out.symm
        clear HR hnx HMS
        clear a0 a1 a2 a3 a4
        have hs := HS7.out.call hb
        obtain ⟨⟨a0, a1, a2, a3, a4⟩, b0, b1, b2, b3, b4⟩ := qaa hs.sb.bxh
        have HS8 : Hid _ := hs.put q o m er
        unfold put5 at HS8
        unfold sn
        clear hb hs HS7
        go_upto_region 11 with fail
        generalize World.setCell _ _ _ = W8 at *
        clear a0 a1 a2 a3 a4 b0 b1 b2 b3 b4
        obtain ⟨⟨a0, a1, a2, a3, a4⟩, _⟩ := qaa HS8.out.sb.bxh
        go_upto_region 12 with fail
        go_cut [7] (fun v7 wx => v7 = .slice oa acc.length oc ∧ wx.heap[w.heap.size + 1]? = some (.cells (snC g L.length c q o m er) 99 (0, 0)) ∧ Below w.heap.size w wx ∧ Hid (World.ownsRow wx w.heap.size 53 3 (.slice oa acc.length oc) acc.length (tcs acc)))
        case first =>
         obtain ⟨_, b0, b1, b2, b3, b4⟩ := qaa HS8.out.sb.rxh
         have HD : Hid _ := HS8.out.sb.done (.slice (some ⟨g, 0, none⟩) L.length c) (.int .i64 (q : Int)) (.int .i64 (o : Int)) (.int .i64 (m : Int)) (.int .i64 (er : Int))
         have HOR : Hid (World.ownsRow _ _ _ _ _ _ _) := qan HS8.out.out HS8.out.sb.rxh (by decide) (qar _ _ (.slice (some ⟨g, 0, none⟩) L.length c) (.int .i64 (q : Int)) (.int .i64 (o : Int)) (.int .i64 (m : Int)) (.int .i64 (er : Int)))
         unfold put5 at HD HOR
         go_wp2
         go_meet
         exact ⟨rfl, HD.out.1, HD.out.2, HOR.out⟩
        case rest =>
         obtain ⟨rfl, hrx, hbw, HOR⟩ := hcut
         have HBR : Hid (Below w.heap.size w wc) := hbw
         have HRX : Hid (_ = _) := hrx
         clear hbw hrx HS8
         go_step
         go_step
         try simp (config := { zetaDelta := true }) only [Exit.inBlock, Exit.then]
         refine bodyPost_ret (qkc Tryz.results40 _ _ (w.heap.size + 1) 99 _ (0, 0) _ rfl HRX.out Tryz.underlying99 rfl (iSn g L.length c q o m er) _ rfl) rfl ?_
         exact ⟨oa, acc.length, oc, q, o, er, rfl, .inr ⟨her, HR2.out⟩, HBR.out⟩
    · have hei : ((e : Int) == 0) = false := by simp; omega
      have HR : Hid (r = .error e) := hr
      clear hT hr HMS
      obtain ⟨⟨a0, a1, a2, a3, a4⟩, _⟩ := qaa HS7.out.sb.bxh
      go_upto_region 31 with fail
      go_cut [7] (fun v7 wx => v7 = .slice oa acc.length oc ∧ wx.heap[w.heap.size + 1]? = some (.cells (snC g L.length c p o m e) 99 (0, 0)) ∧ Below w.heap.size w wx ∧ Hid (World.ownsRow wx w.heap.size 53 3 (.slice oa acc.length oc) acc.length (tcs acc)))
      case first =>
       obtain ⟨_, b0, b1, b2, b3, b4⟩ := qaa HS7.out.sb.rxh
       have HD : Hid _ := HS7.out.sb.done (.slice (some ⟨g, 0, none⟩) L.length c) (.int .i64 (p : Int)) (.int .i64 (o : Int)) (.int .i64 (m : Int)) (.int .i64 (e : Int))
       have HOR : Hid (World.ownsRow _ _ _ _ _ _ _) := qan HS7.out.out HS7.out.sb.rxh (by decide) (qar _ _ (.slice (some ⟨g, 0, none⟩) L.length c) (.int .i64 (p : Int)) (.int .i64 (o : Int)) (.int .i64 (m : Int)) (.int .i64 (e : Int)))
       unfold put5 at HD HOR
       go_wp2
       go_meet
       exact ⟨rfl, HD.out.1, HD.out.2, HOR.out⟩
      case rest =>
       obtain ⟨rfl, hrx, hbw, HOR⟩ := hcut
       have HBR : Hid (Below w.heap.size w wc) := hbw
       have HRX : Hid (_ = _) := hrx
       clear hbw hrx HS7
       go_step
       go_step
       try simp (config := { zetaDelta := true }) only [Exit.inBlock, Exit.then]
       refine bodyPost_ret (qkc Tryz.results40 _ _ (w.heap.size + 1) 99 _ (0, 0) _ rfl HRX.out Tryz.underlying99 rfl (iSn g L.length c p o m e) _ rfl) rfl ?_
       exact ⟨oa, acc.length, oc, p, o, e, rfl, .inr ⟨he, HR.out⟩, HBR.out⟩
end Go.Proofs.YthkppipdflmekaaGreat
