/- Contract: an index's Add. -/
import Derived.Test.YtpfjcdfhlcnlcaaIdxV
import Derived.Test.YtpfjcdfhlcnlcaaClone
import Derived.Deep.DeepCutAuto
namespace Go.Proofs.Ytpfjcdfhlcnlcaa
open Go.RowKit Go.Maps
set_option linter.unusedVariables false
set_option linter.unusedSimpArgs false

theorem mapTurned_block {w w' : World} {b k : Nat} (h : w.mapTurned w' b) (hk : k ≠ b) (hl : k < w.heap.size) : w'.heap[k]? = w.heap[k]? := h.grown.block k hl (fun e => hk (Option.some.inj e))
theorem IXs.drew {w : World} {x : Nat} {K : Nat → Prop} {b1 b2 : Nat} {ps : List (List UInt8)} {F : As Pl} (h : IXs w x K b1 b2 ps F) : IXs w.drew x K b1 b2 ps F :=
  ⟨h.Kb, h.kx, h.k1, h.k2, h.ne, h.cell, h.m1.kept rfl, h.m2.kept rfl⟩
theorem IXs.alloc {w : World} {x : Nat} {K : Nat → Prop} {b1 b2 : Nat} {ps : List (List UInt8)} {F : As Pl} (h : IXs w x K b1 b2 ps F) (o : Obj) : IXs (w.alloc o) x K b1 b2 ps F := h.below ((Below.refl _ w).alloc (Nat.le_refl _) o)
theorem IXs.same {w w' : World} {x : Nat} {K : Nat → Prop} {b1 b2 : Nat} {ps : List (List UInt8)} {F : As Pl} (h : IXs w x K b1 b2 ps F) (hx : w'.heap[x]? = w.heap[x]?) (h1 : w'.heap[b1]? = w.heap[b1]?) (h2 : w'.heap[b2]? = w.heap[b2]?) (hs : w.heap.size ≤ w'.heap.size) : IXs w' x K b1 b2 ps F :=
  ⟨fun k hk => Nat.lt_of_lt_of_le (h.Kb k hk) hs, h.kx, h.k1, h.k2, h.ne, hx.trans h.cell, h.m1.kept h1, h.m2.kept h2⟩
/-- Behind a new pack. -/
theorem IXs.pack {w w' : World} {x : Nat} {K : Nat → Prop} {b1 b2 : Nat} {ps ps' : List (List UInt8)} {F : As Pl} (h : IXs w x K b1 b2 ps F) (hm : GM EN 0 w' b1 (pkA ps')) (ht : w.mapTurned w' b1) : IXs w' x K b1 b2 ps' F ∧ Keeps K w w' := by
  have hg := ht.grown
  refine ⟨⟨fun k hk => Nat.lt_of_lt_of_le (h.Kb k hk) hg.size, h.kx, h.k1, h.k2, h.ne, ?_, hm, ?_⟩, ?_⟩
  · rw [mapTurned_block ht (fun e => h.m1.ne_cell h.cell e.symm) h.lt]; exact h.cell
  · exact h.m2.kept (mapTurned_block ht (fun e => h.ne e.symm) h.m2.lt)
  · exact ⟨hg.os, hg.tape, hg.output, hg.size, fun k hk => mapTurned_block ht (fun e => h.k1 (e ▸ hk)) (h.Kb k hk)⟩
/-- Behind a new chunk. -/
theorem IXs.chunk {w w' : World} {x : Nat} {K : Nat → Prop} {b1 b2 : Nat} {ps : List (List UInt8)} {F F' : As Pl} (h : IXs w x K b1 b2 ps F) (hm : GM EP plZ w' b2 F') (ht : w.mapTurned w' b2) : IXs w' x K b1 b2 ps F' ∧ Keeps K w w' := by
  have hg := ht.grown
  refine ⟨⟨fun k hk => Nat.lt_of_lt_of_le (h.Kb k hk) hg.size, h.kx, h.k1, h.k2, h.ne, ?_, ?_, hm⟩, ?_⟩
  · rw [mapTurned_block ht (fun e => h.m2.ne_cell h.cell e.symm) h.lt]; exact h.cell
  · exact h.m1.kept (mapTurned_block ht h.ne h.m1.lt)
  · exact ⟨hg.os, hg.tape, hg.output, hg.size, fun k hk => mapTurned_block ht (fun e => h.k2 (e ▸ hk)) (h.Kb k hk)⟩
theorem cloneB_any (l : List UInt8) (w : World) (hl : l.length ≤ 140737488351232) :
    Calls Try.prog 18 #[.string (mkB l)] w fun e w' => e = .returned (.string (mkB l)) ∧ Below w.heap.size w w' := clone_any (mkB l) w (by rw [mkB_size]; exact hl)
theorem GM.len {α : Type} {E : El α} {z : α} {w : World} {b : Nat} {F : As α} {T e : TypeId} (h : GM E z w b F) (hT : Try.prog.underlying T = some (.map 9 e)) (ty : TypeId) :
    (Builtin.len_ #[T] ty #[.map (some b)]).run Try.prog w = .ok (.int .i64 (F.length : Int)) w := by
  obtain ⟨D, h1, h2, h3, h4⟩ := h
  have hp := keysG_perm h1 h2 h3
  have hs : Maps.size D = F.length := by rw [size_keysG D h1.isMap, ← hp.length_eq, List.length_map]
  rw [h1.len hT ty, hs]
/-- The two new maps of an index. -/
def newW (w : World) (x : Nat) : World := (((w.setCell ⟨x, 0, none⟩ (.map (some w.heap.size))).setCell ⟨x, 1, none⟩ (.map (some (w.heap.size + 1)))).alloc (.map #[] 0)).alloc (.map #[] 0)
theorem IXs.made {w : World} {x : Nat} {K : Nat → Prop} (h1 : ∀ k, K k → k < w.heap.size) (h2 : ¬ K x) (h3 : w.heap[x]? = some (.cells #[.map none, .map none] 27 (0, 0))) :
    IXs (newW w x) x K w.heap.size (w.heap.size + 1) [] [] ∧ Keeps K w (newW w x) := by
  have hx := (Array.getElem?_eq_some_iff.1 h3).1
  obtain ⟨w2, hw2⟩ : ∃ w2, w2 = (w.setCell ⟨x, 0, none⟩ (.map (some w.heap.size))).setCell ⟨x, 1, none⟩ (.map (some (w.heap.size + 1))) := ⟨_, rfl⟩
  have e : newW w x = (w2.alloc (.map #[] 0)).alloc (.map #[] 0) := by rw [hw2]; rfl
  have s2 : w2.heap.size = w.heap.size := by rw [hw2]; simp [World.setCell]
  have b1 := heap_setCell_same w x 0 _ _ (Value.map (some w.heap.size)) h3
  have b2 : w2.heap[x]? = some (.cells #[.map (some w.heap.size), .map (some (w.heap.size + 1))] 27 (0, 0)) := by
    rw [hw2]; exact heap_setCell_same _ x 1 _ _ (Value.map (some (w.heap.size + 1))) b1
  have k2 : Keeps K w w2 := by rw [hw2]; exact ((Keeps.refl K w).setCell (p := ⟨x, 0, none⟩) h2 _).setCell (p := ⟨x, 1, none⟩) h2 _
  have g1 : GM EN 0 ((w2.alloc (.map #[] 0)).alloc (.map #[] 0)) w.heap.size [] := by
    rw [← s2]; exact (GM.new EN 0 w2).kept (Below.heap_alloc _ _ _ (by simp))
  have g2 : GM EP plZ ((w2.alloc (.map #[] 0)).alloc (.map #[] 0)) (w.heap.size + 1) [] := by
    have := GM.new EP plZ (w2.alloc (.map #[] 0)); rw [World.size_alloc, s2] at this; exact this
  have s3 : ((w2.alloc (.map #[] 0)).alloc (.map #[] 0)).heap.size = w.heap.size + 2 := by simp [s2]
  rw [e]
  refine ⟨⟨fun k hk => by rw [s3]; have := h1 k hk; omega, h2, fun hk => by have := h1 _ hk; omega, fun hk => by have := h1 _ hk; omega, by omega, ?_, g1, g2⟩, ?_⟩
  · rw [Below.heap_alloc _ _ _ (by simp; omega), Below.heap_alloc _ _ _ (by omega)]; exact b2
  · exact (k2.alloc (fun k hk => by rw [s2]; exact h1 k hk) _).alloc (fun k hk => by have := h1 k hk; simp; omega) _
set_option maxRecDepth 100000 in
set_option maxHeartbeats 4000000 in
theorem add_any {x : Nat} {K : Nat → Prop} {ps : List (List UInt8)} {F : As Pl} (k : List UInt8) (v : Value) (hs : List Hd) (w : World) (h : IX w x K ps F) (hv : HV w K v hs) (hk : k.length ≤ 140737488351232) (hn : ∀ y ∈ hs, y.n.length ≤ 140737488351232) (hp : ps.length ≤ 1000000000) (hF : F.length + hs.length ≤ 1000000000) :
    Calls Try.prog 6 #[.pointer (some ⟨x, 0, none⟩), .string (mkB k), v] w fun e w' => e = .returned (.tuple #[]) ∧ IX w' x K (adP ps k) (adH k F hs) ∧ Keeps K w w' := by
  have HV0 : Hid (HV w K v hs) := hv
  have HX : Hid (IX w x K ps F) := h
  have HN : Hid (∀ y ∈ hs, y.n.length ≤ 140737488351232) := hn
  have HK : Hid (k.length ≤ 140737488351232) := hk
  have HP : Hid (ps.length ≤ 1000000000) := hp
  have HF : Hid (F.length + hs.length ≤ 1000000000) := hF
  have hl9 : hs.length ≤ 1000000000 := by omega
  obtain ⟨a0, cap, rfl, -, -⟩ := hv
  obtain ⟨n, hnn⟩ : ∃ n, n = hs.length := ⟨_, rfl⟩
  have HNN : Hid (n = hs.length) := hnn
  rw [← hnn] at hl9 HV0
  rw [← hnn]
  clear h hn hk hp hF hnn
  have hzp := zeroPl
  have hzh := zeroHd
  have hmm := @run_makeMap Try.prog
  have hen : ∀ W r, (binOp .eql 24 (.map r) (.map none)).run Try.prog W = .ok (.bool r.isNone) W := fun W r => run_eql_map_nil W _ _ _ r Try.underlying24
  go_enter Try.func6, Try.ntmps6
  obtain ⟨m1, c0, hcase⟩ : ∃ m1, w.cell? ⟨x, 0, none⟩ = some (.map m1) ∧ ((m1 = none ∧ (∀ k, K k → k < w.heap.size) ∧ ¬ K x ∧ w.heap[x]? = some (.cells #[.map none, .map none] 27 (0, 0)) ∧ ps = [] ∧ F = []) ∨ ∃ b1 b2, m1 = some b1 ∧ IXs w x K b1 b2 ps F) := by
    rcases HX.out with ⟨b1, b2, h⟩ | ⟨h1, h2, h3, h4, h5⟩
    · exact ⟨some b1, h.c0, .inr ⟨b1, b2, rfl, h⟩⟩
    · exact ⟨none, (cell_of_row _ _ _ _ _ _ h3).trans rfl, .inl ⟨rfl, h1, h2, h3, h4, h5⟩⟩
  have HC : Hid (_ ∨ _) := hcase
  clear hcase
  go_upto_if 16 with fail
  go_cut [1] (fun p wx => p = .string (mkB k) ∧ (∃ b1 b2, IXs wx x K b1 b2 ps F) ∧ Keeps K w wx)
  case first =>
    rcases HC.out with ⟨rfl, h1, h2, h3, h4, h5⟩ | ⟨b1, b2, rfl, h⟩
    case inr =>
      have HI : Hid (IXs w x K b1 b2 ps F) := h
      clear h
      go_wp2
      go_meet
      exact ⟨rfl, ⟨b1, b2, HI.out⟩, Keeps.refl _ _⟩
    case inl =>
      have c1 : w.cell? ⟨x, 1, none⟩ = some (.map none) := (cell_of_row _ _ _ _ _ _ h3).trans rfl
      have f0 : w.frozen? ⟨x, 0, none⟩ = false := frozen_of_row _ _ _ _ _ h3
      have f1 : w.frozen? ⟨x, 1, none⟩ = false := frozen_of_row _ _ _ _ _ h3
      have HH3 : Hid (w.heap[x]? = some (.cells #[.map none, .map none] 27 (0, 0))) := h3
      have HH1 : Hid (∀ k, K k → k < w.heap.size) := h1
      have HH2 : Hid (¬ K x) := h2
      have hx := (Array.getElem?_eq_some_iff.1 h3).1
      clear h1 h2 h3
      go_wp2
      go_meet
      subst h4 h5
      obtain ⟨q1, q2⟩ := IXs.made HH1.out HH2.out HH3.out
      exact ⟨rfl, ⟨_, _, q1⟩, q2⟩
  case rest =>
    obtain ⟨rfl, ⟨b1, b2, hI⟩, hKp⟩ := hcut
    have HKP : Hid (Keeps K w _) := hKp
    have HI : Hid (IXs _ x K b1 b2 ps F) := hI
    clear hI hKp HX
    rename_i wx
    go_wp2_with fail
    refine (cloneB_any k _ HK.out).mono ?_
    rintro e w1 ⟨rfl, hb1⟩
    have hI1 := HI.out.below hb1
    have HI1 : Hid (IXs w1 x K b1 b2 ps F) := hI1
    have HK1 : Hid (Keeps K w w1) := HKP.out.trans (Keeps.of_below hb1 HI.out.Kb)
    have c0 := hI1.c0
    have c1 := hI1.c1
    have hlk := hI1.m1.look Try.underlying24 (zeroIn w1) k (by have := HK.out; omega)
    rw [EN_ev] at hlk
    clear HKP HI hb1 hI1
    obtain ⟨tb, htb⟩ : ∃ tb, (lkA (pkA ps) k).isSome = tb := ⟨_, rfl⟩
    have HTB : Hid ((lkA (pkA ps) k).isSome = tb) := htb
    rw [htb] at hlk
    generalize (lkA (pkA ps) k).getD 0 = gd at hlk
    clear htb
    go_upto_if 37 with fail
    go_cut [1] (fun p wx => p = .string (mkB k) ∧ IXs wx x K b1 b2 (adP ps k) F ∧ Keeps K w wx)
    case first =>
      by_cases hin : k ∈ ps
      · have his : (lkA (pkA ps) k).isSome = true := pkA_mem.2 hin
        obtain rfl : tb = true := HTB.out.symm.trans his
        clear hlk his
        go_wp2
        go_meet
        exact ⟨rfl, by rw [adP_in hin]; exact HI1.out, HK1.out⟩
      · have hno : lkA (pkA ps) k = none := by cases e : lkA (pkA ps) k with | none => rfl | some a => exact absurd (pkA_mem.1 (by rw [e]; rfl)) hin
        obtain rfl : tb = false := HTB.out.symm.trans (by rw [hno]; rfl)
        clear hlk
        have hI1 := HI1.out.drew
        have hln := hI1.m1.len Try.underlying24
        obtain ⟨w2, hr2, hg2, ht2⟩ := hI1.m1.put Try.underlying24 (by rw [pkA_len]; have := HP.out; omega) k (by have := HK.out; omega) (ps.length : Int) hno
        rw [EN_ev] at hr2
        rw [pkA_len] at hln
        obtain ⟨q1, q2⟩ := hI1.pack (ps' := ps ++ [k]) (by rw [pkA_snoc]; exact hg2) ht2
        have Q1 : Hid (IXs w2 x K b1 b2 (ps ++ [k]) F) := q1
        have Q2 : Hid (Keeps K w w2) := HK1.out.drew.trans q2
        clear hI1 hg2 ht2 q1 q2
        go_wp2
        go_region
        go_wp2
        go_meet
        exact ⟨rfl, by rw [adP_new hin]; exact Q1.out, Q2.out⟩
    case rest =>
      obtain ⟨rfl, hI2, hK2⟩ := hcut
      have HI2 : Hid (IXs wc x K b1 b2 (adP ps k) F) := hI2
      have HK2 : Hid (Keeps K w wc) := hK2
      clear hI2 hK2 HI1 HK1 c0 c1 hlk HTB hmm hen
      obtain ⟨ps', hps⟩ : ∃ ps', adP ps k = ps' := ⟨_, rfl⟩
      have HPS : Hid (adP ps k = ps') := hps
      rw [hps] at HI2
      clear hps
      go_wp2
      go_loopw [50] (fun i wr => ∃ (j : Nat), j ≤ n ∧ i = .int .i64 (j : Int) ∧ IXs wr x K b1 b2 ps' (adH k F (hs.take j)) ∧ Keeps K w wr) (fun i _ => n - (intOf i).toNat)
      case atStart => exact ⟨0, Nat.zero_le _, rfl, HI2.out, HK2.out⟩
      case round =>
        obtain ⟨j, hj, rfl, hI, hKp⟩ := hrel
        have HI : Hid (IXs wr x K b1 b2 ps' (adH k F (hs.take j))) := hI
        have HKp : Hid (Keeps K w wr) := hKp
        clear hI hKp
        by_cases hlt : j < n
        · obtain ⟨y, hy⟩ : ∃ y, hs[j]? = some y := ⟨_, List.getElem?_eq_getElem (by rw [← HNN.out]; exact hlt)⟩
          have hlti : (j : Int) < (n : Int) := by omega
          obtain ⟨g, o, rfl, hg, -, hcap, e0, e1, e2, e3, e4, e5⟩ := (HV0.out.kept HKp.out (fun _ h => h)).at hy
          have HY : Hid (y.n.length ≤ 140737488351232) := HN.out y (List.mem_of_getElem? hy)
          have HT : Hid (adH k F (hs.take (j + 1)) = adA (adH k F (hs.take j)) y.n ⟨k, y⟩) := by
            have hj' : j < hs.length := by rw [← HNN.out]; exact hlt
            have hyy : hs[j] = y := by rw [List.getElem?_eq_getElem hj'] at hy; exact Option.some.inj hy
            unfold Hid; rw [adH_take k F hs j hj', hyy]
          have HLN : Hid ((adH k F (hs.take j)).length < 9223372036854775807) := by
            have a1 := adH_len k F (hs.take j)
            have a2 := HF.out
            have a3 : (hs.take j).length ≤ hs.length := by rw [List.length_take]; omega
            unfold Hid; omega
          generalize adH k F (hs.take j) = G at *
          obtain ⟨W2, hW2⟩ : ∃ W2, W2 = wr.alloc (.cells #[.string (mkB y.n), .int .i64 y.m, .int .u32 y.c, .int .i64 y.p, .int .i64 y.s, .int .i64 y.a] 38) := ⟨_, rfl⟩
          have hI2 : IXs W2 x K b1 b2 ps' G := by rw [hW2]; exact HI.out.alloc _
          have hK2 : Keeps K w W2 := by rw [hW2]; exact HKp.out.alloc HI.out.Kb _
          have hnew : W2.heap[wr.heap.size]? = some (.cells #[.string (mkB y.n), .int .i64 y.m, .int .u32 y.c, .int .i64 y.p, .int .i64 y.s, .int .i64 y.a] 38 (0, 0)) := by rw [hW2]; exact heap_alloc_new wr _
          go_upto_region 9 with fail
          rw [← hW2]
          have d1 := hI2.c1
          have d2 : W2.cell? ⟨wr.heap.size, 0, none⟩ = some (.string (mkB y.n)) := (cell_of_row _ _ _ _ _ _ hnew).trans rfl
          have hyl : y.n.length ≤ 9223372036854775807 := by have := HY.out; omega
          have hI3 := hI2.drew
          have hlk1 := hI3.m2.look Try.underlying25 (zeroPl _) y.n hyl
          have hsz : wr.heap.size < W2.heap.size := (Array.getElem?_eq_some_iff.1 hnew).1
          have hxz := hI2.lt
          have hlk2 := (hI2.alloc (.cells #[.string ⟨#[]⟩, .string ⟨#[]⟩, .int .i64 0, .int .u32 0, .int .i64 0, .int .i64 0, .int .i64 0] 43)).drew.m2.look Try.underlying25 (zeroPl _) y.n hyl
          obtain ⟨tb2, htb2⟩ : ∃ tb2, (lkA G y.n).isSome = tb2 := ⟨_, rfl⟩
          have HTB2 : Hid ((lkA G y.n).isSome = tb2) := htb2
          rw [htb2] at hlk1 hlk2
          have HI3 : Hid (IXs W2 x K b1 b2 ps' G) := hI2
          have HK3 : Hid (Keeps K w W2) := hK2
          have HNW : Hid (W2.heap[wr.heap.size]? = _) := hnew
          clear hI2 hK2 hnew hI3 htb2 hW2 e0 e1 e2 e3 e4 e5
          rw [EP_ev] at hlk1 hlk2
          generalize (lkA G y.n).getD plZ = pp at hlk1 hlk2
          unfold plV at hlk1 hlk2
          go_cut [10, 11] (fun p b wx => p = .pointer (some ⟨W2.heap.size, 0, none⟩) ∧ b = .bool tb2 ∧ wx = (W2.alloc (.cells #[.string (mkB pp.k), .string (mkB pp.h.n), .int .i64 pp.h.m, .int .u32 pp.h.c, .int .i64 pp.h.p, .int .i64 pp.h.s, .int .i64 pp.h.a] 43)).drew)
          case first =>
            go_region
            all_goals
              go_wp2
              go_meet
              exact ⟨rfl, rfl, rfl⟩
          case rest =>
          obtain ⟨rfl, rfl, rfl⟩ := hcut
          obtain ⟨W4, hW4⟩ : ∃ W4, W4 = (W2.alloc (.cells #[.string (mkB pp.k), .string (mkB pp.h.n), .int .i64 pp.h.m, .int .u32 pp.h.c, .int .i64 pp.h.p, .int .i64 pp.h.s, .int .i64 pp.h.a] 43)).drew := ⟨_, rfl⟩
          rw [← hW4]
          have HI4 : Hid (IXs W4 x K b1 b2 ps' G) := by unfold Hid; rw [hW4]; exact (HI3.out.alloc _).drew
          have HK4 : Hid (Keeps K w W4) := by unfold Hid; rw [hW4]; exact (HK3.out.alloc HI3.out.Kb _).drew
          have HN4 : Hid (W4.heap[wr.heap.size]? = some (.cells #[.string (mkB y.n), .int .i64 y.m, .int .u32 y.c, .int .i64 y.p, .int .i64 y.s, .int .i64 y.a] 38 (0, 0))) := by unfold Hid; rw [hW4]; exact (Below.heap_alloc _ _ _ hsz).trans HNW.out
          have c4 : W4.cell? ⟨wr.heap.size, 0, none⟩ = some (.string (mkB y.n)) := (cell_of_row _ _ _ _ _ _ HN4.out).trans rfl
          clear hlk1 hlk2 HI3 HK3 HNW hW4 hsz hxz d1 d2
          have HG : Hid (¬ K wr.heap.size) := fun h => Nat.lt_irrefl _ (HI.out.Kb _ h)
          have HGX : Hid (wr.heap.size ≠ x) := fun e => by have := HI.out.lt; omega
          have HG2 : Hid (wr.heap.size ≠ b2 ∧ wr.heap.size ≠ b1) := ⟨fun e => by have := HI.out.m2.lt; omega, fun e => by have := HI.out.m1.lt; omega⟩
          cases tb2
          · go_wp2_with fail
            refine (cloneB_any y.n _ HY.out).mono ?_
            rintro e w5 ⟨rfl, hb5⟩
            have hN5 : w5.heap[wr.heap.size]? = _ := (hb5.block _ (Array.getElem?_eq_some_iff.1 HN4.out).1).trans HN4.out
            have HN5 : Hid (w5.heap[wr.heap.size]? = _) := hN5
            have HI5 : Hid (IXs w5 x K b1 b2 ps' G) := HI4.out.below hb5
            have HK5 : Hid (Keeps K w w5) := HK4.out.trans (Keeps.of_below hb5 HI4.out.Kb)
            have c5 : w5.cell? ⟨wr.heap.size, 0, none⟩ = some (.string (mkB y.n)) := (cell_of_row _ _ _ _ _ _ hN5).trans rfl
            have f5 : w5.frozen? ⟨wr.heap.size, 0, none⟩ = false := frozen_of_row _ _ _ _ _ hN5
            clear hN5 hb5 HI4 HK4 HN4 c4
            go_upto_region 12 with fail
            obtain ⟨W6, hW6⟩ : ∃ W6, W6 = w5.setCell ⟨wr.heap.size, 0, none⟩ (.string (mkB y.n)) := ⟨_, rfl⟩
            rw [← hW6]
            have s6 : W6.heap.size = w5.heap.size := by rw [hW6]; simp [World.setCell]
            have hI6 : IXs W6 x K b1 b2 ps' G := HI5.out.same (by rw [hW6]; exact Below.heap_setCell _ _ _ _ HGX.out.symm) (by rw [hW6]; exact Below.heap_setCell _ _ _ _ HG2.out.2.symm) (by rw [hW6]; exact Below.heap_setCell _ _ _ _ HG2.out.1.symm) (by omega)
            have hN6 : W6.heap[wr.heap.size]? = some (.cells #[.string (mkB y.n), .int .i64 y.m, .int .u32 y.c, .int .i64 y.p, .int .i64 y.s, .int .i64 y.a] 38 (0, 0)) := by rw [hW6]; exact heap_setCell_same w5 wr.heap.size 0 _ _ (Value.string (mkB y.n)) HN5.out
            have HK6 : Hid (Keeps K w W6) := by unfold Hid; rw [hW6]; exact HK5.out.setCell (p := ⟨wr.heap.size, 0, none⟩) HG.out _
            have c61 := hI6.c1
            have c60 : W6.cell? ⟨wr.heap.size, 0, none⟩ = some (.string (mkB y.n)) := (cell_of_row _ _ _ _ _ _ hN6).trans rfl
            have c62 : W6.cell? ⟨wr.heap.size, 1, none⟩ = some (.int .i64 y.m) := (cell_of_row _ _ _ _ _ _ hN6).trans rfl
            have c63 : W6.cell? ⟨wr.heap.size, 2, none⟩ = some (.int .u32 y.c) := (cell_of_row _ _ _ _ _ _ hN6).trans rfl
            have c64 : W6.cell? ⟨wr.heap.size, 3, none⟩ = some (.int .i64 y.p) := (cell_of_row _ _ _ _ _ _ hN6).trans rfl
            have c65 : W6.cell? ⟨wr.heap.size, 4, none⟩ = some (.int .i64 y.s) := (cell_of_row _ _ _ _ _ _ hN6).trans rfl
            have c66 : W6.cell? ⟨wr.heap.size, 5, none⟩ = some (.int .i64 y.a) := (cell_of_row _ _ _ _ _ _ hN6).trans rfl
            have hno : lkA G y.n = none := by cases e : lkA G y.n with | none => rfl | some a => have := HTB2.out; rw [e] at this; cases this
            have hI7 := hI6.drew
            obtain ⟨w7, hr7, hg7, ht7⟩ := hI7.m2.put Try.underlying25 HLN.out y.n hyl ⟨k, y⟩ hno
            rw [EP_ev] at hr7
            unfold plV at hr7
            dsimp only at hr7
            obtain ⟨q1, q2⟩ := hI7.chunk hg7 ht7
            have Q1 : Hid (IXs w7 x K b1 b2 ps' (G ++ [(y.n, ⟨k, y⟩)])) := q1
            have Q2 : Hid (Keeps K w w7) := HK6.out.drew.trans q2
            have HS : Hid (adA G y.n ⟨k, y⟩ = G ++ [(y.n, ⟨k, y⟩)]) := adA_none hno _
            clear hI7 hg7 ht7 q1 q2 hI6 hN6 HK6 hW6 s6 HI5 HK5 HN5 c5 f5 hno
            go_region
            go_wp2
            go_roundw
            case rel => exact ⟨j + 1, by omega, by go_num, by rw [HT.out, HS.out]; exact Q1.out, Q2.out⟩
            case measure => simp [intOf]; omega
          · have HS : Hid (adA G y.n ⟨k, y⟩ = G) := adA_some HTB2.out _
            go_wp2
            go_roundw
            case rel => exact ⟨j + 1, by omega, by go_num, by rw [HT.out, HS.out]; exact HI4.out, HK4.out⟩
            case measure => simp [intOf]; omega
        · have hlti : ¬ (j : Int) < (n : Int) := by omega
          have HE : Hid (hs.take j = hs) := List.take_of_length_le (by rw [← HNN.out]; omega)
          go_wp2
          go_end0
          rw [HE.out] at HI
          rw [HPS.out]
          exact ⟨rfl, .inl ⟨b1, b2, HI.out⟩, HKp.out⟩
end Go.Proofs.Ytpfjcdfhlcnlcaa
