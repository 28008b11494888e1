/- Contracts of deflate.flag, storedBlock and Stored. -/
import Derived.Shelf.Strings.Builder1
import Derived.Test.YthkppipdflmekaaGreatProg
import Derived.Test.YthkppipdflmekaaGreatRows
import Derived.Test.YthkppipdflmekaaGreatQHuffM
import Derived.Test.YthkppipdflmekaaGreatQPutA
set_option maxRecDepth 100000
set_option maxHeartbeats 2000000
namespace Go.Proofs
open Go.Shelf
def Tryz.lays169_ren : Go.Shelf.Ren := ⟨fun | 169 => 30 | n => n, fun | 70 => 74 | 9 => 9 | 0 => 0 | 72 => 76 | 37 => 54 | 127 => 138 | 3 => 3 | 5 => 5 | n => n, fun | n => n⟩
theorem Tryz.lays169 : Go.Proofs.Lays.n169 Tryz.prog Tryz.lays169_ren := {
 mixed := by kernel_rfl
 f169 := Tryz.func30.trans (congrArg some (by kernel_rfl))
 t0 := Tryz.underlying0
 a0 := Tryz.isAgg0
 z0 := Tryz.sizeOf0
 v0 := Tryz.zeroValue0
 t3 := Tryz.underlying3
 a3 := Tryz.isAgg3
 z3 := Tryz.sizeOf3
 v3 := Tryz.zeroValue3
 t9 := Tryz.underlying9
 a9 := Tryz.isAgg9
 z9 := Tryz.sizeOf9
 v9 := Tryz.zeroValue9
 t37 := Tryz.underlying54
 a37 := Tryz.isAgg54
 z37 := Tryz.sizeOf54
 v37 := Tryz.zeroValue54
 t70 := Tryz.underlying74
 a70 := Tryz.isAgg74
 z70 := Tryz.sizeOf74
 v70 := Tryz.zeroValue74
 t72 := Tryz.underlying76
 a72 := Tryz.isAgg76
 z72 := Tryz.sizeOf76
 v72 := Tryz.zeroValue76
 t127 := Tryz.underlying138
 a127 := Tryz.isAgg138
 z127 := Tryz.sizeOf138
 v127 := Tryz.zeroValue138 }
theorem Tryz.Builder_Extra_169 : Builder.Extra Tryz.prog Tryz.lays169_ren := {
 sizeBuilder := by kernel_rfl
 liesBuilder := by kernel_rfl
 t5 := Tryz.underlying5
 a5 := Tryz.isAgg5
 z5 := Tryz.sizeOf5
 v5 := Tryz.zeroValue5
 infoByte := by kernel_rfl
 cellsByte := by kernel_rfl
 sizeByte := by kernel_rfl
 neB5 := by decide }
open Go.RowKit in
theorem Tryz.Builder_String_any (B b : Nat) (l : List UInt8) (w : World) (h : Lib.IsBuilder 76 5 B b (Lib.byteCells l) w) (hBw : B ≤ w.heap.size) :
    Calls Tryz.prog 30 #[.pointer (some ⟨b, 0, none⟩)] w fun e w' => e = .returned (.string ⟨l.toArray⟩) ∧ Below B w w' := Any.Builder_String_any Tryz.lays169 Tryz.Builder_Extra_169 B b l w h hBw
end Go.Proofs
namespace Go.Proofs.YthkppipdflmekaaGreat
open Go.RowKit
set_option linter.unusedVariables false
theorem qo6 {w w' : World} {B n sz : Nat} {ty : TypeId} {v : Value} {xs : List Value} (h : w.ownsRow B ty sz v n xs) (hb : Below w.heap.size w w') : w'.ownsRow B ty sz v n xs := by
 have hlt := h.lt
 refine ⟨h.1, ?_⟩
 rcases h.2 with h | ⟨g, cap, cur, rfl, h2, h3, h4⟩
 · exact .inl h
 · exact .inr ⟨g, cap, cur, rfl, h2, (hb.block _ (hlt g rfl).2).trans h3, h4⟩
def BL (B b : Nat) (l : List UInt8) (w : World) : Prop := Lib.IsBuilder 76 5 B b (Lib.byteCells l) w
theorem Tryz.szBld : (Tryz.prog.info? 76).map (·.size) = some 2 := by kernel_rfl
theorem Tryz.liesBld : liesAt Tryz.prog Tryz.prog.depth 76 (2 / Tryz.prog.cellsOf 76) 0 76 1 = true := by kernel_rfl
theorem bused (b : Nat) (w : World) (h0 : w.cell? ⟨b, 0, none⟩ = some (.pointer (some ⟨b, 0, none⟩))) :
    Calls Tryz.prog 59 #[.pointer (some ⟨b, 0, none⟩)] w fun e w' => e = .returned (.tuple #[]) ∧ w' = w := by
 obtain ⟨j, hj, _⟩ := Option.map_eq_some_iff.1 Tryz.szBld
 go_enter Tryz.func59, Tryz.ntmps59
 go_wp2
 rw [Lib.run_neq_ptr_same w _ Tryz.underlying74 hj]
 go_wp2
 go_end0
 exact ⟨rfl, rfl⟩
theorem q4x (b : Nat) (w : World) (h0 : w.cell? ⟨b, 0, none⟩ = some (.pointer none)) (hsh : w.shape? b = some (76, 2)) (hfz : w.frozen? ⟨b, 0, none⟩ = false) :
    Calls Tryz.prog 59 #[.pointer (some ⟨b, 0, none⟩)] w fun e w' => e = .returned (.tuple #[]) ∧ w' = w.setCell ⟨b, 0, none⟩ (.pointer (some ⟨b, 0, none⟩)) := by
 obtain ⟨j, hj, hjs⟩ := Option.map_eq_some_iff.1 Tryz.szBld
 go_enter Tryz.func59, Tryz.ntmps59
 go_wp2
 rw [Lib.run_to_unsafe w ⟨b, 0, none⟩ Tryz.underlying74 Tryz.underlying170 hj (by rw [hjs]; decide) hsh (Nat.zero_lt_succ 1)]
 simp only [Result.andThen]
 rw [Oper.upon_value]
 go_wp2
 rw [run_callFunc_extern Tryz.func86 (by kernel_rfl) (by kernel_rfl) (by kernel_rfl) (e := Extern.AbiNoEscape.same) (by kernel_rfl)]
 rw [Lib.run_noEscape]
 simp only [Result.andThen]
 rw [Oper.upon_value]
 go_wp2
 rw [Lib.run_from_unsafe w ⟨b, 0, none⟩ Tryz.underlying170 Tryz.underlying74 hj hsh Tryz.liesBld]
 simp only [Result.andThen]
 rw [Oper.upon_value]
 go_wp2
 go_end0
 exact ⟨rfl, rfl⟩
theorem q4y (B b : Nat) (l : List UInt8) (w : World) (h : BL B b l w) :
    Calls Tryz.prog 59 #[.pointer (some ⟨b, 0, none⟩)] w fun e w' => e = .returned (.tuple #[]) ∧ Lib.BuilderAt 76 5 B b (.pointer (some ⟨b, 0, none⟩)) (Lib.byteCells l) w' ∧ Below B w w' := by
 rcases h with h | h
 · refine (q4x b w h.cell0 h.shape h.frozen0).mono ?_
   rintro e w' ⟨rfl, rfl⟩
   exact ⟨rfl, h.used _, (Below.refl B w).setCell (p := ⟨b, 0, none⟩) h.1 _⟩
 · refine (bused b w h.cell0).mono ?_
   rintro e w' ⟨rfl, rfl⟩
   exact ⟨rfl, h, Below.refl B _⟩
theorem q1b (B b : Nat) (l : List UInt8) (s : ByteArray) (w : World) (h : BL B b l w) (hlen : l.length + s.size ≤ 140737488355328) (hBw : B ≤ w.heap.size) :
    Calls Tryz.prog 28 #[.pointer (some ⟨b, 0, none⟩), .string s] w fun e w' => (∃ r, e = .returned r) ∧ BL B b (l ++ s.data.toList) w' ∧ Below B w w' := by
 obtain ⟨i0, hi, hz0, hz1, hz2⟩ := info_parts Tryz.infoU8
 have HCK : Hid (Calls _ _ _ _ _) := q4y B b l w h
 clear h
 go_enter Tryz.func28, Tryz.ntmps28
 go_wp2_with fail
 refine (Hid.out HCK : Calls _ _ _ _ _).mono ?_
 rintro e w1 ⟨rfl, h1, hb1⟩
 have hlt := h1.lt
 obtain ⟨hB, v, hbk, hown, hne⟩ := h1
 rw [Lib.byteCells_length] at hown
 have c0 : w1.cell? ⟨b, 0, none⟩ = some (.pointer (some ⟨b, 0, none⟩)) := by rw [Lib.cell_of_heap hbk]; rfl
 have c1 : w1.cell? ⟨b, 1, none⟩ = some v := by rw [Lib.cell_of_heap hbk]; rfl
 have hsz1 := hb1.size
 have HB1 : Hid (Below B w w1) := hb1
 clear hb1 HCK
 go_wp2_with (at_builtin; refine Lib.wpList_append_own_string _ rfl _ _ 54 9 rfl B 5 i0 Tryz.underlying54 Tryz.underlying9 hi hz0 hz1 hz2 _ _ _ rfl hown s rfl ?c3 ?c4 ?c5 ?_)
 case c3 => unfold maxLen; omega
 case c4 => omega
 case c5 => omega
 intro v' w2 hown' hgrow _
 have hb2 : w2.heap[b]? = some (.cells #[.pointer (some ⟨b, 0, none⟩), v] 76 (0, 0)) := by
  rw [hgrow.block b hlt (fun e => hne e.symm)]
  exact hbk
 have d0 : w2.cell? ⟨b, 0, none⟩ = some (.pointer (some ⟨b, 0, none⟩)) := by rw [Lib.cell_of_heap hb2]; rfl
 have d1 : w2.cell? ⟨b, 1, none⟩ = some v := by rw [Lib.cell_of_heap hb2]; rfl
 have f1 : w2.frozen? ⟨b, 1, none⟩ = false := Lib.frozen_of_heap hb2 1
 obtain ⟨ao, n', cap, rfl⟩ : ∃ ao n' cap, v' = .slice ao n' cap := by
  rcases hown'.2 with ⟨hv, _⟩ | ⟨g, cap, cur, hv, _⟩
  · exact ⟨_, _, _, hv⟩
  · exact ⟨_, _, _, hv⟩
 have HP : Hid (BL B b (l ++ s.data.toList) (w2.setCell ⟨b, 1, none⟩ (.slice ao n' cap))) := .inr (Lib.BuilderAt.put hB hb2 (bs' := Lib.byteCells (l ++ s.data.toList)) (by
  rw [Lib.byteCells_append, List.length_append, ← Lib.strCells_eq, Lib.byteCells_length, Lib.strCells_length]; exact hown') (by decide))
 have HB2 : Hid (Below B w (w2.setCell ⟨b, 1, none⟩ (.slice ao n' cap))) := (HB1.out.grown hgrow (by omega) (fun k hk => (hown.lt k hk).1)).setCell (p := ⟨b, 1, none⟩) hB _
 clear hown' hgrow hown hbk
 go_wp2
 go_ret2
 exact ⟨⟨_, rfl⟩, HP.out, HB2.out⟩
theorem bnew (w : World) : BL w.heap.size w.heap.size [] (w.alloc (.cells #[.pointer none, .slice none 0 0] 76)) :=
 .inl ⟨Nat.le_refl _, .slice none 0 0, heap_alloc_new w _, World.ownsRow_nil _ _ _ _, by simp [Value.ownBlock]⟩
theorem BL.below {B b : Nat} {l : List UInt8} {w w' : World} (h : BL B b l w) (hb : Below w.heap.size w w') : BL B b l w' := by
 have key : ∀ p, Lib.BuilderAt 76 5 B b p (Lib.byteCells l) w → Lib.BuilderAt 76 5 B b p (Lib.byteCells l) w' := fun p h => by
  have hlt := h.lt
  obtain ⟨hB, v, hbk, hown, hne⟩ := h
  exact ⟨hB, v, (hb.block _ hlt).trans hbk, qo6 hown hb, hne⟩
 rcases h with h | h
 · exact .inl (key _ h)
 · exact .inr (key _ h)
theorem q3m (B b : Nat) (l : List UInt8) (w : World) (h : BL B b l w) (hBw : B ≤ w.heap.size) :
    Calls Tryz.prog 30 #[.pointer (some ⟨b, 0, none⟩)] w fun e w' => e = .returned (.string ⟨l.toArray⟩) ∧ Below B w w' := Tryz.Builder_String_any B b l w h hBw
def qbf (last : Bool) : Nat := if last then 1 else 0
def sblk (l : List UInt8) (last : Bool) : List UInt8 := (qbf last :: (putN l.length 2 ++ putN (65535 - l.length) 2)).map UInt8.ofNat ++ l
def stoG : Nat → List UInt8 → List UInt8
 | 0, l => sblk l true
 | k + 1, l => if 65535 < l.length then sblk (l.take 65535) false ++ stoG k (l.drop 65535) else sblk l true
def stoF (l : List UInt8) : List UInt8 := stoG l.length l
theorem qid : ∀ (k m : Nat) (l : List UInt8), l.length ≤ k → l.length ≤ m → stoG k l = stoG m l
 | 0, 0, l, _, _ => rfl
 | 0, m + 1, l, h, _ => by rw [stoG, stoG, if_neg (by omega)]
 | k + 1, 0, l, _, h => by rw [stoG, stoG, if_neg (by omega)]
 | k + 1, m + 1, l, h1, h2 => by
  rw [stoG, stoG]
  split
  · rw [qid k m _ (by rw [List.length_drop]; omega) (by rw [List.length_drop]; omega)]
  · rfl
theorem qfy {l : List UInt8} (h : 65535 < l.length) : stoF l = sblk (l.take 65535) false ++ stoF (l.drop 65535) := by
 unfold stoF
 obtain ⟨k, hk⟩ : ∃ k, l.length = k + 1 := ⟨l.length - 1, by omega⟩
 rw [hk, stoG, if_pos h, qid k (l.drop 65535).length _ (by rw [List.length_drop]; omega) (Nat.le_refl _)]
theorem qeg {l : List UInt8} (h : ¬ 65535 < l.length) : stoF l = sblk l true := by
 unfold stoF
 cases hk : l.length with
 | zero => rfl
 | succ k => rw [stoG, if_neg h]
theorem qoa (l : List UInt8) (last : Bool) : l.length ≤ (sblk l last).length := by
 unfold sblk; simp only [List.length_append]; omega
theorem quu : ∀ (k : Nat) (l : List UInt8), l.length ≤ k → l.length ≤ (stoF l).length
 | 0, l, h => by omega
 | k + 1, l, h => by
  by_cases hm : 65535 < l.length
  · have ih := quu k (l.drop 65535) (by rw [List.length_drop]; omega)
    have h2 := qoa (l.take 65535) false
    rw [qfy hm, List.length_append]
    rw [List.length_drop] at ih
    rw [List.length_take] at h2
    omega
  · rw [qeg hm]; exact qoa l true
theorem qy9 (n : Nat) (h : n ≤ 65535) : putN (18446744073709551615 - n) 2 = putN (65535 - n) 2 := by
 unfold putN
 simp only [List.range_succ, List.range_zero, List.nil_append, List.map_cons, List.map_nil, List.cons_append]
 congr 1
 · omega
 · congr 1
   simp
   omega
theorem qrx (last : Bool) (w : World) : Calls Tryz.prog 61 #[.bool last] w fun e w' => e = .returned (.int .u64 (qbf last : Int)) ∧ w' = w := by
 go_enter Tryz.func61, Tryz.ntmps61
 cases last
 · go_wp2
   go_ret
   exact ⟨rfl, rfl⟩
 · go_wp2
   go_ret
   exact ⟨rfl, rfl⟩
theorem not64 (n : Nat) (h : n ≤ 65535) : bits BinOp.xor IntKind.u64 IntKind.u64.max (n : Int) = ((18446744073709551615 - n : Nat) : Int) := by
 have e : IntKind.u64.max = ((18446744073709551615 : Nat) : Int) := by decide
 rw [e, u64_xor_nat _ _ (by decide) (by omega)]
 congr 1
 apply Nat.eq_of_testBit_eq
 intro i
 rw [Nat.testBit_xor, show 18446744073709551615 - n = 2 ^ 64 - (n + 1) by omega, Nat.testBit_two_pow_sub_succ (by omega), show 18446744073709551615 = 2 ^ 64 - 1 by decide, Nat.testBit_two_pow_sub_one]
 by_cases hi : i < 64
 · simp [hi]
 · rw [Nat.testBit_lt_two_pow (Nat.lt_of_lt_of_le (show n < 2 ^ 64 by omega) (Nat.pow_le_pow_right (by decide) (by omega)))]; simp [hi]
theorem qfd (a b : ByteArray) : (a ++ b).data.toList = a.data.toList ++ b.data.toList := by simp [ByteArray.data_append]
theorem qj6 (s : ByteArray) (last : Bool) (w : World) (hs : s.size ≤ 65535) : Calls Tryz.prog 29 #[.string s, .bool last] w fun e w' => (∃ r, e = .returned (.string r) ∧ r.data.toList = sblk s.data.toList last) ∧ Below w.heap.size w w' := by
 go_enter Tryz.func29, Tryz.ntmps29
 have hfl : qbf last ≤ 1 := by unfold qbf; split <;> omega
 go_wp2_with fail
 refine (qrx last _).mono ?_
 rintro e w0 ⟨rfl, hw0⟩
 obtain rfl : w = w0 := hw0.symm
 clear hw0
 have HDA : Hid (((bs (putN (qbf last) 1) ++ bs (putN s.size 2)) ++ bs (putN (18446744073709551615 - s.size) 2) ++ s).data.toList = sblk s.data.toList last) := by
  have e1 : putN (qbf last) 1 = [qbf last] := by
   cases last <;> rfl
  unfold Hid
  rw [qfd, qfd, qfd, qb4, qb4, qb4, qy9 _ hs, e1]
  unfold sblk
  rw [qad]
  simp
 have hn64 := not64 s.size hs
 generalize qbf last = F at *
 go_wp2_with fail
 refine (qo2 (F : Int) 1 _ (by omega) (by omega) (by decide)).mono ?_
 rintro e w1 ⟨rfl, hb1⟩
 have hz1 : (bs (putN F 1)).size = 1 := by rw [qdm, qdz]
 go_wp2_with fail
 refine (qo2 (s.size : Int) 2 _ (by omega) (by omega) (by decide)).mono ?_
 rintro e w2 ⟨rfl, hb2⟩
 have hz2 : (bs (putN s.size 2)).size = 2 := by rw [qdm, qdz]
 have hz3 : (bs (putN (18446744073709551615 - s.size) 2)).size = 2 := by rw [qdm, qdz]
 have HP3 : Hid (Calls _ _ _ _ _) := qo2 ((18446744073709551615 - s.size : Nat) : Int) 2 w2 (by omega) (by omega) (by decide)
 simp only [Int.toNat_natCast, show (2 : Int).toNat = 2 from rfl] at HP3 ⊢
 generalize putN F 1 = A1 at *
 generalize putN s.size 2 = A2 at *
 generalize 18446744073709551615 - s.size = N64 at *
 generalize putN N64 2 = A3 at *
 go_wp2_with fail
 refine (Hid.out HP3 : Calls _ _ _ _ _).mono ?_
 rintro e w3 ⟨rfl, hb3⟩
 have HBB : Hid (Below w.heap.size w w3) := (hb1.trans (hb2.mono hb1.size)).trans (hb3.mono (Nat.le_trans hb1.size hb2.size))
 clear hb1 hb2 hb3 HP3
 go_wp2
 go_ret
 exact ⟨⟨_, rfl, HDA.out⟩, HBB.out⟩
theorem qic (s0 : ByteArray) (w : World) (hs : s0.size ≤ 10000000) : Calls Tryz.prog 12 #[.string s0] w fun e w' => (∃ r, e = .returned (.string r) ∧ r.data.toList = stoF s0.data.toList) ∧ Below w.heap.size w w' := by
 have HB0 : Hid (Below w.heap.size w (w.alloc (.cells #[.pointer none, .slice none 0 0] 76))) := (Below.refl _ w).alloc (Nat.le_refl _) _
 have HL0 : Hid (BL w.heap.size w.heap.size [] (w.alloc (.cells #[.pointer none, .slice none 0 0] 76))) := bnew w
 go_enter Tryz.func12, Tryz.ntmps12
 go_wp2
 generalize World.alloc w _ = W0 at *
 go_loopw [0] (fun v wr => ∃ (s : ByteArray) (acc : List UInt8), v = .string s ∧ s.size ≤ s0.size ∧ acc.length ≤ 10 * (s0.size - s.size) ∧ acc ++ stoF s.data.toList = stoF s0.data.toList ∧ BL w.heap.size w.heap.size acc wr ∧ Below w.heap.size w wr) (fun v _ => match v with | .string s => s.size | _ => 0)
 case atStart => exact ⟨s0, [], rfl, Nat.le_refl _, by simp, rfl, HL0.out, HB0.out⟩
 case round =>
  clear HL0 HB0
  obtain ⟨s, acc, rfl, h1, h2, h3, hL, hB⟩ := hrel
  have hsz := hB.size
  by_cases hbig : 65535 < s.size
  · have hbi : (65535 : Int) < (s.size : Int) := by omega
    have hse : (s.extract 0 65535).size = 65535 := by simp; omega
    have hsr : (s.extract 65535 s.size).size = s.size - 65535 := by simp
    have HD1 : Hid ((s.extract 0 65535).data.toList = s.data.toList.take 65535) := by unfold Hid; rw [qba]; rfl
    have HD2 : Hid ((s.extract 65535 s.size).data.toList = s.data.toList.drop 65535) := by
     unfold Hid
     rw [qba, List.take_of_length_le (by rw [List.length_drop, qad]; omega)]
    have HM : Hid (stoF s.data.toList = _) := qfy (by rw [qad]; exact hbig)
    generalize hE1 : s.extract 0 65535 = S1 at *
    generalize hE2 : s.extract 65535 s.size = S2 at *
    go_wp2_with fail
    refine (qj6 S1 false _ (by omega)).mono ?_
    rintro e w1 ⟨⟨r1, rfl, hr1⟩, hb1⟩
    have hr2 : r1.size = 65540 := by
     have := congrArg List.length hr1
     rw [HD1.out] at this
     simpa [sblk, putN, hbig, Nat.min_eq_left (Nat.le_of_lt hbig)] using this
    have HL1 : Hid (BL w.heap.size w.heap.size acc w1) := hL.below hb1
    have HB1 : Hid (Below w.heap.size w w1) := hB.trans (hb1.mono hsz)
    have hsz1 : w.heap.size ≤ w1.heap.size := Nat.le_trans hsz hb1.size
    have HR1 : Hid (r1.data.toList = sblk (s.data.toList.take 65535) false) := by unfold Hid; rw [hr1, HD1.out]
    clear hL hB hb1 hr1
    go_wp2_with fail
    refine (q1b w.heap.size w.heap.size acc r1 w1 HL1.out (by omega) hsz1).mono ?_
    rintro e w2 ⟨⟨r2, rfl⟩, hL2, hb2⟩
    have HL2 : Hid (BL w.heap.size w.heap.size (acc ++ r1.data.toList) w2) := hL2
    have HB2 : Hid (Below w.heap.size w w2) := HB1.out.trans hb2
    have hla : (acc ++ r1.data.toList).length = acc.length + 65540 := by rw [List.length_append, qad, hr2]
    have H3 : Hid ((acc ++ r1.data.toList) ++ stoF S2.data.toList = stoF s0.data.toList) := by
     unfold Hid
     rw [HR1.out, HD2.out, List.append_assoc, ← HM.out]; exact h3
    have HLA : Hid _ := hla
    clear hL2 hb2 HL1 HB1 h3 hla HM HR1 HD1 HD2
    go_wp2
    go_roundw
    case rel => exact ⟨S2, _, rfl, by omega, by rw [HLA.out]; omega, H3.out, HL2.out, HB2.out⟩
    case measure => simp; omega
  · have hbi : ¬ (65535 : Int) < (s.size : Int) := by omega
    have HM : Hid (stoF s.data.toList = _) := qeg (by rw [qad]; exact hbig)
    go_wp2_with fail
    refine (qj6 s true _ (by omega)).mono ?_
    rintro e w1 ⟨⟨r1, rfl, hr1⟩, hb1⟩
    have hr2 : r1.size = 5 + s.size := by
     have := congrArg List.length hr1
     simp [sblk, putN] at this
     omega
    have HL1 : Hid (BL w.heap.size w.heap.size acc w1) := hL.below hb1
    have HB1 : Hid (Below w.heap.size w w1) := hB.trans (hb1.mono hsz)
    have hsz1 : w.heap.size ≤ w1.heap.size := Nat.le_trans hsz hb1.size
    have H3 : Hid (acc ++ r1.data.toList = stoF s0.data.toList) := by
     unfold Hid
     rw [hr1, ← HM.out]; exact h3
    clear hL hB hb1 hr1 h3 HM
    go_wp2_with fail
    refine (q1b w.heap.size w.heap.size acc r1 w1 HL1.out (by omega) hsz1).mono ?_
    rintro e w2 ⟨⟨r2, rfl⟩, hL2, hb2⟩
    have HB2 : Hid (Below w.heap.size w w2) := HB1.out.trans hb2
    have hsz2 : w.heap.size ≤ w2.heap.size := HB2.out.size
    clear hb2 HL1 HB1
    go_wp2_with fail
    refine (q3m w.heap.size w.heap.size _ w2 hL2 hsz2).mono ?_
    rintro e w3 ⟨rfl, hb3⟩
    have HB3 : Hid (Below w.heap.size w w3) := HB2.out.trans hb3
    clear hb3 hL2 HB2
    go_wp2
    go_ret
    exact ⟨⟨_, rfl, H3.out⟩, HB3.out⟩
end Go.Proofs.YthkppipdflmekaaGreat
