/- The document's dynamic: pure, and what stands in memory. -/
import Derived.Test.YthkppipdflmekaaGreatQRTok
import Derived.Test.YthkppipdflmekaaGreatQRTkM
import Derived.Test.YthkppipdflmekaaGreatQInfG
set_option maxRecDepth 100000
set_option maxHeartbeats 8000000
namespace Go.Proofs.YthkppipdflmekaaGreat
open Go.RowKit
set_option linter.unusedVariables false
set_option linter.unusedSimpArgs false
theorem qou (g c p o m B : Nat) (L : List Bool) (vl vd : Value) (ls ds : List Nat) (w : World) (hO : OB w B (.slice (some ⟨g, 0, none⟩) L.length c) L) (hL : IQ w vl (zz ls)) (hD : IQ w vd (zz ds)) (kl : ls.length ≤ 320) (kd : ds.length ≤ 320) (hf : fitE ls = false ∨ fitE ds = false) :
    Calls Tryz.prog 40 #[sn g L.length c p o m 0, vl, vd] w fun x w' => ∃ (oa : Option Addr) (n oc : Nat), x = .returned (.tuple #[sn g L.length c p o m 3, .slice oa n oc]) ∧ Below w.heap.size w w' := by
 have HS0 : Hid (SB w _ B g c L w.heap.size (w.heap.size + 1) p o m 0) := SB.start hO p o m 0
 have HIL : Hid (∀ W, Below w.heap.size w W → IQ W vl (zz ls)) := fun W hb => IQ.since hL hb
 have HID : Hid (∀ W, Below w.heap.size w W → IQ W vd (zz ds)) := fun W hb => IQ.since hD hb
 have hl3 : (zz ls).length ≤ 320 := by rw [qa4]; exact kl
 have hd3 : (zz ds).length ≤ 320 := by rw [qa4]; exact kd
 have hfe : errN (zz ls) ≠ 0 ∨ errN (zz ds) ≠ 0 := hf.imp ql5 ql5
 have HFL : Hid (∀ W, Below w.heap.size w W → Calls Tryz.prog 68 #[vl] W fun e w' => e = .returned (.int .i64 (errN (zz ls) : Int)) ∧ w' = W) := fun W hb => qeh _ (zz ls) W (HIL.out W hb) (by omega)
 have HFD : Hid (∀ W, Below w.heap.size w W → Calls Tryz.prog 68 #[vd] W fun e w' => e = .returned (.int .i64 (errN (zz ds) : Int)) ∧ w' = W) := fun W hb => qeh _ (zz ds) W (HID.out W hb) (by omega)
 generalize errN (zz ls) = n1 at *
 generalize errN (zz ds) = n2 at *
 obtain ⟨E1, hE1⟩ : ∃ E1 : Nat, E1 = if n1 = 0 then 0 else 3 := ⟨_, rfl⟩
 have HW1 : Hid (∀ W, Calls Tryz.prog 42 #[.agg #[.slice (some ⟨g, 0, none⟩) L.length c, .int .i64 (p : Int), .int .i64 (o : Int), .int .i64 (m : Int), .int .i64 0], .bool ((n1 : Int) != 0), .int .i64 3] W fun x w' => x = .returned (.agg #[.slice (some ⟨g, 0, none⟩) L.length c, .int .i64 (p : Int), .int .i64 (o : Int), .int .i64 (m : Int), .int .i64 (E1 : Int)]) ∧ Below W.heap.size W w') := fun W => by
  refine (qbi g L.length c p o m 0 0 rfl ((n1 : Int) != 0) 3 3 rfl W).mono ?_
  rintro x w' ⟨e1, rfl, he, hb⟩
  refine ⟨?_, hb⟩
  have : e1 = E1 := by
   rw [he.out, hE1]
   by_cases h : n1 = 0
   · rw [if_pos h, if_neg (by simp [h])]
   · rw [if_neg h, if_pos ⟨by simp; omega, rfl⟩]
  rw [this]
 have HW2 : Hid (∀ W, Calls Tryz.prog 42 #[.agg #[.slice (some ⟨g, 0, none⟩) L.length c, .int .i64 (p : Int), .int .i64 (o : Int), .int .i64 (m : Int), .int .i64 (E1 : Int)], .bool ((n2 : Int) != 0), .int .i64 3] W fun x w' => x = .returned (.agg #[.slice (some ⟨g, 0, none⟩) L.length c, .int .i64 (p : Int), .int .i64 (o : Int), .int .i64 (m : Int), .int .i64 3]) ∧ Below W.heap.size W w') := fun W => by
  refine (qbi g L.length c p o m E1 (E1 : Int) rfl ((n2 : Int) != 0) 3 3 rfl W).mono ?_
  rintro x w' ⟨e1, rfl, he, hb⟩
  refine ⟨?_, hb⟩
  have : e1 = 3 := by
   rw [he.out]
   by_cases h : n1 = 0
   · rw [if_pos h] at hE1
     rcases hfe with h2 | h2
     · exact absurd h h2
     · rw [if_pos ⟨by simp; omega, hE1⟩]
   · rw [if_neg h] at hE1
     rw [if_neg (fun q => by rw [hE1] at q; exact absurd q.2 (by decide)), hE1]
  rw [this]; rfl
 clear hO hL hD hf hfe hE1 HIL HID
 obtain ⟨v1, hv1⟩ : ∃ v : Int, v = (E1 : Int) := ⟨_, rfl⟩
 unfold snC sn0 at HS0
 simp only [show ((0 : Nat) : Int) = 0 from rfl] at HS0
 clear hv1 v1
 go_enter Tryz.func40, Tryz.ntmps40
 unfold sn
 go_upto_region 1 with fail
 generalize World.alloc (World.alloc w _) _ = W0 at *
 go_cut [20] (fun _ wx => SB w wx B g c L w.heap.size (w.heap.size + 1) p o m E1)
 case first =>
  obtain ⟨⟨a0, a1, a2, a3, a4⟩, b0, b1, b2, b3, b4⟩ := qaa HS0.out.bxh
  go_region_with (first | (go_at_call 68; refine (HFL.out _ HS0.out.bel.drew).mono ?_; rintro e w' ⟨rfl, hw'⟩; cases hw') | (go_at_call 42; refine (HW1.out _).mono ?_; rintro e V0 ⟨rfl, hb⟩; have hs := HS0.out.drew.call hb; have ⟨⟨a0', a1', a2', a3', a4'⟩, b0', b1', b2', b3', b4'⟩ := qaa hs.bxh))
  all_goals
   have HQ : Hid _ := hs.put p o m E1
   clear hs hb
   go_wp2
   go_meet
   exact HQ.out
 case rest =>
  have HS1 : Hid (SB w wc B g c L w.heap.size (w.heap.size + 1) p o m E1) := hcut
  clear hcut HS0
  go_upto_region 2 with fail
  go_cut [25] (fun _ wx => SB w wx B g c L w.heap.size (w.heap.size + 1) p o m 3)
  case first =>
   obtain ⟨⟨a0, a1, a2, a3, a4⟩, b0, b1, b2, b3, b4⟩ := qaa HS1.out.bxh
   go_region_with (first | (go_at_call 68; refine (HFD.out _ HS1.out.bel.drew).mono ?_; rintro e w' ⟨rfl, hw'⟩; cases hw') | (go_at_call 42; refine (HW2.out _).mono ?_; rintro e V1 ⟨rfl, hb⟩; have hs := HS1.out.drew.call hb; have ⟨⟨a0', a1', a2', a3', a4'⟩, b0', b1', b2', b3', b4'⟩ := qaa hs.bxh))
   all_goals
    have HQ : Hid _ := hs.put p o m 3
    clear hs hb
    go_wp2
    go_meet
    exact HQ.out
  case rest =>
   have HS2 : Hid (SB w _ B g c L w.heap.size (w.heap.size + 1) p o m 3) := hcut
   clear hcut HS1 HFL HFD HW1 HW2
   have HSZ : Hid (_ ∧ _) := qj5 w wc HS2.out.bel.size
   go_wp2_with fail
   refine (qkd wc).mono ?_
   rintro e w3 ⟨rfl, hw3⟩
   rw [← hw3] at HSZ
   clear hw3
   generalize hsb : wc.heap.size = sb at *
   have HS3 : Hid (SB w w3 B g c L w.heap.size (w.heap.size + 1) p o m 3) := HS2.out.call (by rw [hsb]; exact HSZ.out.1)
   clear HS2 HSZ hsb
   have hs4 := HS3.out.call ((Below.refl _ w3).alloc (Nat.le_refl _) (.cells #[] 53))
   have HS4 : Hid (SB w _ B g c L w.heap.size (w.heap.size + 1) p o m 3) := hs4
   obtain ⟨⟨a0, a1, a2, a3, a4⟩, _⟩ := qaa hs4.bxh
   clear hs4 HS3
   simp only [show ((3 : Nat) : Int) = 3 from rfl] at a4
   go_upto_region 6 with fail
   generalize World.alloc w3 _ = W4 at *
   generalize w3.heap.size = so at *
   go_cut [7] (fun v7 wx => v7 = .slice (some ⟨so, 0, none⟩) 0 0 ∧ wx.heap[w.heap.size + 1]? = some (.cells (snC g L.length c p o m 3) 99 (0, 0)) ∧ Below w.heap.size w wx)
   case first =>
    obtain ⟨_, b0, b1, b2, b3, b4⟩ := qaa HS4.out.rxh
    have HD : Hid _ := HS4.out.done (.slice (some ⟨g, 0, none⟩) L.length c) (.int .i64 (p : Int)) (.int .i64 (o : Int)) (.int .i64 (m : Int)) (.int .i64 3)
    unfold put5 at HD
    go_wp2
    go_meet
    exact ⟨rfl, HD.out.1, HD.out.2⟩
   case rest =>
    obtain ⟨rfl, hrx, hbw⟩ := hcut
    have HBR : Hid (Below w.heap.size w wc) := hbw
    have HRX : Hid (_ = _) := hrx
    clear hbw hrx HS4
    go_step
    go_step
    try simp (config := { zetaDelta := true }) only [Exit.inBlock, Exit.then]
    refine bodyPost_ret (qkc Tryz.results40 _ _ (w.heap.size + 1) 99 _ (0, 0) _ rfl HRX.out Tryz.underlying99 rfl (iSn g L.length c p o m 3) _ rfl) rfl ?_
    exact ⟨_, 0, 0, rfl, HBR.out⟩
def dynG (f : Nat → Bool) (L p : Nat) : Except Nat (List Nat × List Nat × Nat) :=
 match tkF f L p 5 with
 | .error e => .error e
 | .ok a => match tkF f L (p + 5) 5 with
  | .error e => .error e
  | .ok b => match tkF f L (p + 10) 4 with
   | .error e => .error e
   | .ok c => if 29 < a ∨ 29 < b then .error 3 else if L < p + 14 + 3 * (c + 4) then .error 6 else
    if fitE (fstL f (p + 14) (c + 4)) = false then .error 3 else
    match rowF (fstL f (p + 14) (c + 4)) f L (a + b + 258) (L + 1) (p + 14 + 3 * (c + 4)) [] with
    | .error e => .error e
    | .ok (row, p1) => if row.getD 256 0 = 0 then .error 3 else .ok (row.take (a + 257), row.drop (a + 257), p1)
theorem q07 (f : Nat → Bool) (L p : Nat) : dynF f L p = match dynG f L p with | .error e => .error e | .ok (ls, ds, q) => if fitE ls = false ∨ fitE ds = false then .error 3 else .ok (ls, ds, q) := by
 unfold dynF dynG
 cases tkF f L p 5 with
 | error e => rfl
 | ok a =>
  simp only
  cases tkF f L (p + 5) 5 with
  | error e => rfl
  | ok b =>
   simp only
   cases tkF f L (p + 10) 4 with
   | error e => rfl
   | ok c =>
    simp only
    by_cases h1 : 29 < a ∨ 29 < b
    · rw [if_pos h1, if_pos h1]
    · rw [if_neg h1, if_neg h1]
      by_cases h2 : L < p + 14 + 3 * (c + 4)
      · rw [if_pos h2, if_pos h2]
      · rw [if_neg h2, if_neg h2]
        by_cases h3 : fitE (fstL f (p + 14) (c + 4)) = false
        · rw [if_pos h3, if_pos h3]
        · rw [if_neg h3, if_neg h3]
          cases rowF (fstL f (p + 14) (c + 4)) f L (a + b + 258) (L + 1) (p + 14 + 3 * (c + 4)) [] with
          | error e => rfl
          | ok x =>
           obtain ⟨row, p1⟩ := x
           simp only
           by_cases h4 : row.getD 256 0 = 0
           · rw [if_pos h4, if_pos h4]
           · rw [if_neg h4, if_neg h4]
def Num (L : List Bool) (p e n p1 e1 v : Nat) : Prop := p1 = nuP L.length p e n ∧ e1 = nuE L.length p e n ∧ v = nuV L p e n
theorem Num.ok {L : List Bool} {p n p1 e1 v : Nat} (h : Num L p 0 n p1 e1 v) (h0 : e1 = 0) : tkF (fun i => L.getD i false) L.length p n = .ok v ∧ p1 = p + n ∧ p + n ≤ L.length := by
 obtain ⟨rfl, rfl, rfl⟩ := h
 exact qtn h0
theorem Num.bad {L : List Bool} {p n p1 e1 v : Nat} (h : Num L p 0 n p1 e1 v) (h0 : e1 ≠ 0) : tkF (fun i => L.getD i false) L.length p n = .error 6 ∧ e1 = 6 ∧ L.length < p + n := by
 obtain ⟨rfl, rfl, rfl⟩ := h
 have := qne h0
 refine ⟨this.1, this.2, ?_⟩
 have h2 := this.1
 unfold tkF at h2
 split at h2
 · assumption
 · cases h2
theorem Num.on {L : List Bool} {p e n p1 e1 v : Nat} (h : Num L p e n p1 e1 v) (h0 : e ≠ 0) : p1 = p ∧ e1 = e ∧ v = 0 := by
 obtain ⟨rfl, rfl, rfl⟩ := h
 unfold nuP nuE nuV
 rw [if_neg (fun q => h0 q.1), if_pos h0, if_neg (fun q => h0 q.1)]
 exact ⟨rfl, rfl, rfl⟩
theorem Num.le {L : List Bool} {p e n p1 e1 v : Nat} (h : Num L p e n p1 e1 v) (hp : p ≤ L.length + 100) (hn : n ≤ 16) : p1 ≤ L.length + 100 ∧ v ≤ 65535 := by
 obtain ⟨rfl, rfl, rfl⟩ := h
 exact ⟨q4h hp, qv1 L p e n hn⟩
theorem Num.lt {L : List Bool} {p e n p1 e1 v : Nat} (h : Num L p e n p1 e1 v) : v < 2 ^ n := by
 obtain ⟨_, _, rfl⟩ := h
 unfold nuV
 split
 · exact qaw _ _
 · exact Nat.pow_pos (by decide)
theorem qwx {L : List Bool} {p p1 e1 a p2 e2 b p3 e3 cc e4 : Nat} (h1 : Num L p 0 5 p1 e1 a) (h2 : Num L p1 e1 5 p2 e2 b) (h3 : Num L p2 e2 4 p3 e3 cc) (h4 : e4 = if (29 < a ∨ 29 < b) ∧ e3 = 0 then 3 else e3) :
    (e4 ≠ 0 → dynG (fun i => L.getD i false) L.length p = .error e4) ∧ (e4 = 0 → a ≤ 29 ∧ b ≤ 29 ∧ cc ≤ 15 ∧ p3 = p + 14 ∧ p3 ≤ L.length ∧ tkF (fun i => L.getD i false) L.length p 5 = .ok a ∧ tkF (fun i => L.getD i false) L.length (p + 5) 5 = .ok b ∧ tkF (fun i => L.getD i false) L.length (p + 10) 4 = .ok cc) := by
 unfold dynG
 by_cases z1 : e1 = 0
 · obtain ⟨t1, rfl, l1⟩ := h1.ok z1
   subst z1
   rw [t1]
   simp only
   by_cases z2 : e2 = 0
   · obtain ⟨t2, rfl, l2⟩ := h2.ok z2
     subst z2
     rw [t2]
     simp only
     rw [show p + 5 + 5 = p + 10 by omega] at h3
     by_cases z3 : e3 = 0
     · obtain ⟨t3, rfl, l3⟩ := h3.ok z3
       subst z3
       rw [t3]
       simp only
       have := h3.lt
       by_cases hb : 29 < a ∨ 29 < b
       · rw [if_pos ⟨hb, rfl⟩] at h4
         rw [if_pos hb, h4]
         exact ⟨fun _ => rfl, fun h => by cases h⟩
       · rw [if_neg (fun q => hb q.1)] at h4
         refine ⟨fun h => absurd h4 h, fun _ => ⟨by omega, by omega, by omega, by first | trivial | omega, by omega, by first | trivial | exact t1, by first | trivial | exact t2, by first | trivial | exact t3⟩⟩
     · obtain ⟨t3, r3, _⟩ := h3.bad z3
       rw [t3]
       rw [if_neg (fun q => z3 q.2)] at h4
       exact ⟨fun _ => by rw [h4, r3], fun h => by omega⟩
   · obtain ⟨t2, r2, _⟩ := h2.bad z2
     rw [t2]
     obtain ⟨_, q3, _⟩ := h3.on z2
     rw [if_neg (fun q => by omega)] at h4
     exact ⟨fun _ => by rw [h4, q3, r2], fun h => by omega⟩
 · obtain ⟨t1, r1, _⟩ := h1.bad z1
   rw [t1]
   obtain ⟨_, q2, _⟩ := h2.on z1
   obtain ⟨_, q3, _⟩ := h3.on (by omega)
   rw [if_neg (fun q => by omega)] at h4
   exact ⟨fun _ => by rw [h4, q3, q2, r1], fun h => by omega⟩
def FsIn (L : List Bool) (p cc e4 k p' e' : Nat) (F : List Nat) : Prop :=
 F.length = 19 ∧ ((e' = 0 ∧ e4 = 0 ∧ p' = p + 14 + 3 * min k (cc + 4) ∧ p' ≤ L.length ∧ F = fstL (fun i => L.getD i false) (p + 14) (min k (cc + 4))) ∨ (e' ≠ 0 ∧ dynG (fun i => L.getD i false) L.length p = .error e'))
theorem FsIn.skip {L : List Bool} {p cc e4 k p' e' : Nat} {F : List Nat} (h : FsIn L p cc e4 k p' e' F) (hk : ¬ k < cc + 4) : FsIn L p cc e4 (k + 1) p' e' F := by
 have e : min (k + 1) (cc + 4) = min k (cc + 4) := by omega
 unfold FsIn
 rw [e]; exact h
theorem q0x : ∀ {a b : List Nat}, nc a = nc b → a = b
 | [], [], _ => rfl
 | [], _ :: _, h => by cases h
 | _ :: _, [], h => by cases h
 | x :: a, y :: b, h => by
  unfold nc at h
  rw [List.map_cons, List.map_cons] at h
  obtain ⟨h1, h2⟩ := List.cons.inj h
  have : x = y := by simp only [Value.int.injEq] at h1; have := h1.2; omega
  rw [this, q0x h2]
theorem q0w (l : List Nat) (i v : Nat) : (nc l).set i (.int .i64 (v : Int)) = nc (l.set i v) := by
 unfold nc; rw [List.map_set]
theorem FsIn.step {L : List Bool} {p cc e4 k p' e' p2 e2 v a b : Nat} {F : List Nat} (h : FsIn L p cc e4 k p' e' F) (hk : k < cc + 4) (hcc : e4 = 0 → cc ≤ 15) (hn : Num L p' e' 3 p2 e2 v) (h19 : k < 19)
    (ht : e4 = 0 → a ≤ 29 ∧ b ≤ 29 ∧ tkF (fun i => L.getD i false) L.length p 5 = .ok a ∧ tkF (fun i => L.getD i false) L.length (p + 5) 5 = .ok b ∧ tkF (fun i => L.getD i false) L.length (p + 10) 4 = .ok cc) : FsIn L p cc e4 (k + 1) p2 e2 (F.set (ordL.getD k 0) v) := by
 obtain ⟨hl, h⟩ := h
 refine ⟨by rw [List.length_set]; exact hl, ?_⟩
 rcases h with ⟨rfl, h4, rfl, hp, rfl⟩ | ⟨he, hd⟩
 · rw [show min k (cc + 4) = k by omega] at hn ⊢
   by_cases h2 : e2 = 0
   · obtain ⟨t, rfl, l⟩ := hn.ok h2
     refine .inl ⟨h2, h4, by omega, l, ?_⟩
     rw [show min (k + 1) (cc + 4) = k + 1 by omega]
     apply q0x
     rw [← q0w, ← qrt _ _ _ h19]
     congr 2
     unfold tkF at t
     rw [if_neg (by omega)] at t
     rw [← Except.ok.inj t]
   · obtain ⟨t, r, l⟩ := hn.bad h2
     refine .inr ⟨h2, ?_⟩
     obtain ⟨ha, hb, t1, t2, t3⟩ := ht h4
     unfold dynG
     rw [t1, t2, t3]
     simp only
     rw [if_neg (by omega), if_pos (by omega), r]
 · obtain ⟨rfl, rfl, rfl⟩ := hn.on he
   exact .inr ⟨he, hd⟩
theorem qwy {L : List Bool} {p cc e4 p' e' e5 a b : Nat} {F : List Nat} (h : FsIn L p cc e4 19 p' e' F) (he : e5 = if fitE F = false ∧ e' = 0 then 3 else e')
    (ht : e4 = 0 → a ≤ 29 ∧ b ≤ 29 ∧ cc ≤ 15 ∧ tkF (fun i => L.getD i false) L.length p 5 = .ok a ∧ tkF (fun i => L.getD i false) L.length (p + 5) 5 = .ok b ∧ tkF (fun i => L.getD i false) L.length (p + 10) 4 = .ok cc) :
    (e5 ≠ 0 → dynG (fun i => L.getD i false) L.length p = .error e5) ∧ (e5 = 0 → fitE F = true ∧ p' ≤ L.length ∧ a ≤ 29 ∧ b ≤ 29 ∧ dynG (fun i => L.getD i false) L.length p = match rowF F (fun i => L.getD i false) L.length (a + b + 258) (L.length + 1) p' [] with
     | .error e => .error e
     | .ok (row, p1) => if row.getD 256 0 = 0 then .error 3 else .ok (row.take (a + 257), row.drop (a + 257), p1)) := by
 obtain ⟨hl, ⟨rfl, h4, hp, hpl, hF⟩ | ⟨h1, h2⟩⟩ := h
 · obtain ⟨ha, hb, hc, t1, t2, t3⟩ := ht h4
   rw [show min 19 (cc + 4) = cc + 4 by omega] at hp hF
   subst hp hF
   unfold dynG
   rw [t1, t2, t3]
   simp only
   rw [if_neg (by omega), if_neg (by omega)]
   by_cases hf : fitE (fstL (fun i => L.getD i false) (p + 14) (cc + 4)) = false
   · rw [if_pos hf]
     rw [if_pos ⟨hf, rfl⟩] at he
     rw [he]
     exact ⟨fun _ => rfl, fun h => by cases h⟩
   · rw [if_neg hf]
     rw [if_neg (fun q => hf q.1)] at he
     exact ⟨fun h => absurd he h, fun _ => ⟨by simpa using hf, hpl, ha, hb, rfl⟩⟩
 · rw [if_neg (fun q => h1 q.2)] at he
   exact ⟨fun _ => by rw [he]; exact h2, fun h => absurd (he ▸ h) h1⟩
theorem q31 (ns : List Nat) (h : qbh ns) : in15 (zz ns) := (qku ns).2 (by rw [List.all_eq_true]; intro n hn; simpa using h n hn)
theorem qvy {W : World} {B C n sz : Nat} {ty : TypeId} {v : Value} {xs : List Value} (h : W.ownsRow B ty sz v n xs) (hC : C ≤ B) : W.ownsRow C ty sz v n xs := by
 refine ⟨h.1, ?_⟩
 rcases h.2 with h | ⟨g, cap, cur, e, h2, h3⟩
 · exact .inl h
 · exact .inr ⟨g, cap, cur, e, Nat.le_trans hC h2, h3⟩
def q16 (W : World) (bx N : Nat) : Nat := match W.cell? ⟨bx, 4, none⟩ with
 | some (.int _ e) => if e = 0 then (match W.cell? ⟨bx, 1, none⟩ with
  | some (.int _ p) => N + 2 - p.toNat
  | _ => 0) else 0
 | _ => 0
theorem SB.leftD {w W : World} {B g c : Nat} {L : List Bool} {bx rx p o m e : Nat} (h : SB w W B g c L bx rx p o m e) (N : Nat) : q16 W bx N = if e = 0 then N + 2 - p else 0 := by
 obtain ⟨⟨_, a1, _, _, a4⟩, _⟩ := qaa h.bxh
 unfold q16
 rw [a4, a1]
 simp
def SwR (F : List Nat) (L : List Bool) (n k p0 : Nat) (row : List Nat) (r : Except Nat (List Nat × Nat)) (p e ag wh : Nat) : Prop :=
 (e = 0 ∧ p0 < p ∧ p ≤ L.length ∧ L.length + 1 ≤ k + p ∧ rowF F (fun i => L.getD i false) L.length n k p (row ++ List.replicate ag wh) = r) ∨ (e ≠ 0 ∧ r = .error e)
structure DY (w W : World) (B g c : Nat) (L : List Bool) (bx rx p o m e gf : Nat) (fs : List Nat) : Prop where
 sb : SB w W B g c L bx rx p o m e
 fh : W.heap[gf]? = some (.cells (nc fs).toArray 3 (0, 0))
 lo : w.heap.size ≤ gf
theorem qxz {w : World} {a b : Nat} {c1 c2 : Array Value} {t1 t2 : TypeId} (h1 : w.heap[a]? = some (.cells c1 t1 (0, 0))) (h2 : w.heap[b]? = some (.cells c2 t2 (0, 0))) (hne : t1 ≠ t2) : a ≠ b := by
 rintro rfl
 rw [h1] at h2
 simp only [Option.some.injEq, Obj.cells.injEq] at h2
 exact hne h2.2.1
theorem DY.call {w W W' : World} {B g c : Nat} {L : List Bool} {bx rx p o m e gf : Nat} {fs : List Nat} (h : DY w W B g c L bx rx p o m e gf fs) (hb : Below W.heap.size W W') : DY w W' B g c L bx rx p o m e gf fs :=
 ⟨h.sb.call hb, (hb.block _ (qay h.fh)).trans h.fh, h.lo⟩
theorem DY.put {w W : World} {B g c : Nat} {L : List Bool} {bx rx p o m e gf : Nat} {fs : List Nat} (h : DY w W B g c L bx rx p o m e gf fs) (p' o' m' e' : Nat) : DY w (put5 W bx (.slice (some ⟨g, 0, none⟩) L.length c) (.int .i64 (p' : Int)) (.int .i64 (o' : Int)) (.int .i64 (m' : Int)) (.int .i64 (e' : Int))) B g c L bx rx p' o' m' e' gf fs :=
 ⟨h.sb.put p' o' m' e', ((qar W bx _ _ _ _ _).block _ (qay h.fh) (fun e => qxz h.fh h.sb.bxh (by decide) (Option.some.inj e))).trans h.fh, h.lo⟩
theorem DY.drew {w W : World} {B g c : Nat} {L : List Bool} {bx rx p o m e gf : Nat} {fs : List Nat} (h : DY w W B g c L bx rx p o m e gf fs) : DY w W.drew B g c L bx rx p o m e gf fs := ⟨⟨h.sb.ob.drew, h.sb.bxh, h.sb.rxh, h.sb.bel.drew, h.sb.lo⟩, h.fh, h.lo⟩
theorem DY.first {w W : World} {B g c : Nat} {L : List Bool} {bx rx p o m e gf : Nat} {fs : List Nat} (h : DY w W B g c L bx rx p o m e gf fs) (i v : Nat) : DY w (W.setCell ⟨gf, i, none⟩ (.int .i64 (v : Int))) B g c L bx rx p o m e gf (fs.set i v) := by
 have hg : W.grownBy (W.setCell ⟨gf, i, none⟩ (.int .i64 (v : Int))) (some gf) := gset (qcj W _) i _
 have hne : g ≠ gf := by
  obtain ⟨g', c', e, hh⟩ := h.sb.ob
  rintro rfl
  exact qcd hh h.fh (by decide) rfl
 refine ⟨⟨h.sb.ob.kept hg (fun e => hne (Option.some.inj e)), (hg.block _ (qay h.sb.bxh) (fun e => qxz h.fh h.sb.bxh (by decide) (Option.some.inj e).symm)).trans h.sb.bxh, (hg.block _ (qay h.sb.rxh) (fun e => qxz h.fh h.sb.rxh (by decide) (Option.some.inj e).symm)).trans h.sb.rxh, h.sb.bel.grown hg h.sb.bel.size (fun k hk => by cases hk; exact h.lo), h.sb.lo⟩, ?_, h.lo⟩
 rw [heap_setCell_same _ _ _ _ _ _ h.fh]
 congr 2
 apply Array.toList_inj.1
 rw [Array.toList_setIfInBounds]
 exact q0w fs i v
theorem qgw {W W' : World} {row : Option Nat} (hg : W.grownBy W' row) : W.heap.size ≤ W'.heap.size := ((Below.refl 0 W).grown hg (Nat.zero_le _) (fun k _ => Nat.zero_le k)).size
structure DZ (w W : World) (B g c : Nat) (L : List Bool) (bx rx p o m e gf : Nat) (fs : List Nat) (s0 : Nat) (vt vl : Value) (row : List Nat) : Prop where
 dy : DY w W B g c L bx rx p o m e gf fs
 tb : W.ownsRow w.heap.size 56 1 vt 19 (uc (cdOf fs) 19)
 out : W.ownsRow s0 3 1 vl row.length (nc row)
 lo2 : gf < s0 ∧ w.heap.size ≤ s0
 hs : s0 ≤ W.heap.size
theorem DZ.call {w W W' : World} {B g c : Nat} {L : List Bool} {bx rx p o m e gf : Nat} {fs : List Nat} {s0 : Nat} {vt vl : Value} {row : List Nat} (h : DZ w W B g c L bx rx p o m e gf fs s0 vt vl row) (hb : Below W.heap.size W W') : DZ w W' B g c L bx rx p o m e gf fs s0 vt vl row :=
 ⟨h.dy.call hb, qb2 h.tb hb, qb2 h.out hb, h.lo2, Nat.le_trans h.hs hb.size⟩
theorem DZ.put {w W : World} {B g c : Nat} {L : List Bool} {bx rx p o m e gf : Nat} {fs : List Nat} {s0 : Nat} {vt vl : Value} {row : List Nat} (h : DZ w W B g c L bx rx p o m e gf fs s0 vt vl row) (p' o' m' e' : Nat) : DZ w (put5 W bx (.slice (some ⟨g, 0, none⟩) L.length c) (.int .i64 (p' : Int)) (.int .i64 (o' : Int)) (.int .i64 (m' : Int)) (.int .i64 (e' : Int))) B g c L bx rx p' o' m' e' gf fs s0 vt vl row :=
 ⟨h.dy.put p' o' m' e', qan h.tb h.dy.sb.bxh (by decide) (qar _ _ _ _ _ _ _), qan h.out h.dy.sb.bxh (by decide) (qar _ _ _ _ _ _ _), h.lo2, Nat.le_trans h.hs (qgw (qar W bx _ _ _ _ _))⟩
theorem DZ.alloc {w W : World} {B g c : Nat} {L : List Bool} {bx rx p o m e gf : Nat} {fs : List Nat} {s0 : Nat} {vt vl : Value} {row : List Nat} (h : DZ w W B g c L bx rx p o m e gf fs s0 vt vl row) (x : Obj) : DZ w (W.alloc x) B g c L bx rx p o m e gf fs s0 vt vl row := h.call ((Below.refl _ W).alloc (Nat.le_refl _) x)
theorem DZ.app {w W W' : World} {B g c : Nat} {L : List Bool} {bx rx p o m e gf : Nat} {fs : List Nat} {s0 : Nat} {vt vl vl' : Value} {row row' : List Nat} {x : Obj} (h : DZ w W B g c L bx rx p o m e gf fs s0 vt vl row) (hg : (W.alloc x).grownBy W' vl.ownBlock) (ho : W'.ownsRow s0 3 1 vl' row'.length (nc row')) : DZ w W' B g c L bx rx p o m e gf fs s0 vt vl' row' := by
 have ha := h.alloc x
 have hne : ∀ q, vl.ownBlock = some q → s0 ≤ q := fun q hq => (h.out.lt q hq).1
 refine ⟨⟨ha.dy.sb.app (B := B) (n := row.length) (u := vl) (ys := nc row) (sz := 1) (ty := 3) (by
  have := ha.out
  refine ⟨this.1, ?_⟩
  rcases this.2 with q | ⟨g1, cap, cur, e1, h2, h3⟩
  · exact .inl q
  · exact .inr ⟨g1, cap, cur, e1, Nat.le_trans h.lo2.2 h2, h3⟩) (by decide) (by decide) hg, (hg.block _ (qay ha.dy.fh) (fun e => by have := hne _ e.symm; have := h.lo2.1; omega)).trans ha.dy.fh, h.dy.lo⟩, qf3 ha.tb ha.out (by decide) hg, ho, h.lo2, Nat.le_trans ha.hs (qgw hg)⟩
def RowN (F : List Nat) (L : List Bool) (n k1 q : Nat) (row : List Nat) : Except Nat (List Nat × Nat) :=
 match nxF F (fun i => L.getD i false) L.length q with
 | .error e => .error e
 | .ok (sym, p1) => if sym = 16 ∧ row.length = 0 then .error 3 else match tkF (fun i => L.getD i false) L.length p1 (tmF sym).2 with
  | .error e => .error e
  | .ok m => rowF F (fun i => L.getD i false) L.length n k1 (p1 + (tmF sym).2) (row ++ List.replicate ((tmF sym).1 + m) (qec row sym))
theorem q4b {F : List Nat} {L : List Bool} {n k1 q q1 e1 s : Nat} {row : List Nat} {r : Except Nat (List Nat × Nat)} (hr : RowN F L n k1 q row = r) (hs : SymR F L q 0 q1 e1 s) (he : e1 ≠ 0) : s = 0 ∧ r = .error e1 := by
 rcases hs with ⟨h, _⟩ | ⟨_, ⟨_, h⟩ | ⟨h, _, h2, _⟩⟩
 · exact absurd rfl h
 · exact absurd h he
 · refine ⟨h2, ?_⟩
   unfold RowN at hr
   rw [h] at hr
   exact hr.symm
theorem sw_nx {F : List Nat} {L : List Bool} {q q1 s : Nat} (hs : SymR F L q 0 q1 0 s) : nxF F (fun i => L.getD i false) L.length q = .ok (s, q1) := by
 rcases hs with ⟨h, _⟩ | ⟨_, ⟨h, _⟩ | ⟨_, h, _⟩⟩
 · exact absurd rfl h
 · exact h
 · exact absurd rfl h
theorem q1u {F : List Nat} {L : List Bool} {n k1 q q1 : Nat} {row : List Nat} {r : Except Nat (List Nat × Nat)} (hr : RowN F L n k1 q row = r) (hs : nxF F (fun i => L.getD i false) L.length q = .ok (16, q1)) (h0 : row.length = 0) : r = .error 3 := by
 unfold RowN at hr
 rw [hs] at hr
 simp only at hr
 rw [if_pos ⟨by trivial, h0⟩] at hr
 exact hr.symm
theorem qqj {F : List Nat} {L : List Bool} {n k1 q q1 s p3 e3 v : Nat} {row : List Nat} {r : Except Nat (List Nat × Nat)} (hr : RowN F L n k1 q row = r) (hs : nxF F (fun i => L.getD i false) L.length q = .ok (s, q1)) (h15 : qbh F) (hq : q ≤ L.length) (hk : L.length + 1 ≤ k1 + 1 + q) (h0 : ¬ (s = 16 ∧ row.length = 0)) (hv : Num L q1 0 (tmF s).2 p3 e3 v) : SwR F L n k1 q row r p3 e3 ((tmF s).1 + v) (qec row s) := by
 have hn := qdj h15 hq hs
 unfold RowN at hr
 rw [hs] at hr
 simp only at hr
 rw [if_neg h0] at hr
 by_cases h3 : e3 = 0
 · obtain ⟨t, rfl, l⟩ := hv.ok h3
   rw [t] at hr
   exact .inl ⟨h3, by omega, l, by omega, hr⟩
 · obtain ⟨t, h6, l⟩ := hv.bad h3
   rw [t] at hr
   exact .inr ⟨h3, by rw [h6]; exact hr.symm⟩
theorem q1v {F : List Nat} {L : List Bool} {n k1 q q1 s : Nat} {row : List Nat} {r : Except Nat (List Nat × Nat)} (hr : RowN F L n k1 q row = r) (hs : nxF F (fun i => L.getD i false) L.length q = .ok (s, q1)) (h15 : qbh F) (hq : q ≤ L.length) (hk : L.length + 1 ≤ k1 + 1 + q) (h1 : s ≠ 16) (h2 : s ≠ 17) (h3 : s ≠ 18) : SwR F L n k1 q row r q1 0 1 s := by
 have hn := qdj h15 hq hs
 have ht : tmF s = (1, 0) := by unfold tmF; rw [if_neg h1, if_neg h2, if_neg h3]
 have hd : qec row s = s := by unfold qec; rw [if_neg h1, if_neg (by omega)]
 have := qqj (p3 := q1) (e3 := 0) (v := 0) hr hs h15 hq hk (fun h => h1 h.1) (by rw [ht]; unfold Num nuP nuE nuV; simp [qal]; omega)
 rw [ht, hd] at this
 exact this
theorem DZ.cell {w W : World} {B g c : Nat} {L : List Bool} {bx rx p o m e gf : Nat} {fs : List Nat} {s0 n : Nat} {vt : Value} {la : Option Addr} {lc : Nat} {row : List Nat} (h : DZ w W B g c L bx rx p o m e gf fs s0 vt (.slice la n lc) row) (hn : n = row.length) (h0 : 0 < n) :
    ∃ gl, la = some ⟨gl, 0, none⟩ ∧ n ≤ lc ∧ gl < W.heap.size ∧ ∀ i, i < n → W.cell? ⟨gl, i, none⟩ = some (.int .i64 (row.getD i 0 : Int)) := by
 have ho := h.out
 rcases ho.2 with ⟨e1, e2⟩ | ⟨gl, cap, cur, e1, h2, h3, h4, h5⟩
 · omega
 · injection e1 with e1 e2 e3
   subst e1 e3
   refine ⟨gl, rfl, by omega, (ho.lt gl rfl).2, fun i hi => ?_⟩
   have := World.ownsRow.cells ho (g := gl) rfl i (.int .i64 (row.getD i 0 : Int)) (by
    unfold nc
    rw [List.getElem?_map, List.getD_eq_getElem?_getD, List.getElem?_eq_getElem (by omega)]; rfl)
   rwa [Addr.add_mid, Nat.zero_add] at this
theorem qy1 {F : List Nat} {L : List Bool} {n k q : Nat} {row : List Nat} (hk : 0 < k) (h : n ≤ row.length) : rowF F (fun i => L.getD i false) L.length n k q row = if n < row.length then .error 3 else .ok (row, q) := by
 obtain ⟨k, rfl⟩ : ∃ j, k = j + 1 := ⟨k - 1, by omega⟩
 rw [rowF, if_pos h]
def IG (w : World) (B : Nat) (v : Value) (zs : List Int) : Prop := IQ w v zs ∧ ∀ g o n c, v = .slice (some ⟨g, o, none⟩) n c → B ≤ g
end Go.Proofs.YthkppipdflmekaaGreat
