/- Contracts: a disk's Sync, Rename, Remove, Read, Spoil. -/
import Derived.Test.YtmjfcneofpddiaaDoorQDskF
namespace Go.Proofs.YtmjfcneofpddiaaDoor
open Go.RowKit Go.Maps
set_option linter.unusedVariables false
set_option linter.unusedSimpArgs false

/-- A file's cell is written. -/
theorem DKc.synced {w : World} {d : Nat} {S : DS} {K : Nat → Prop} {bn bs : Nat} {sv : Value} {gs : List Nat} {fv : Nat → Value} (h : DKc w d S K bn bs sv gs fv) {g : Nat} (hg : g ∈ gs) (n : Nat) (hn : n ≤ (S.fl g).1.length) :
    DK (w.setCell ⟨g, 1, none⟩ (.int .i64 (n : Int))) d { S with fl := updF S.fl g ((S.fl g).1, n) } K gs ∧ Keeps K w (w.setCell ⟨g, 1, none⟩ (.int .i64 (n : Int))) := by
  have F := h.file g hg
  refine ⟨⟨bn, bs, sv, updV fv g (fv g), h.setFile hg _ (fv g) (by simp [World.setCell]) (fun k hk h1 h2 => setc_o h1) ?_ ?_ (fun r hr => .inl hr) hn F.big⟩, (Keeps.refl _ _).setCell F.kg _⟩
  · rw [setc F.cell]; rfl
  · exact own_kept F.row (fun r hr => setc_o (fun e => F.ne_row (e ▸ hr.symm)))
theorem syS_none {S : DS} {x : List UInt8} (h : ¬ (dieS S).dead = true) (h1 : lk S.now x = none) : syE S x = 7 ∧ syS S x = dieS S := by
  unfold syE syS; rw [if_neg h, if_neg h, h1, if_pos rfl]; exact ⟨rfl, rfl⟩
theorem syS_some {S : DS} {x : List UInt8} {g : Nat} (h : ¬ (dieS S).dead = true) (h1 : lk S.now x = some g) : syE S x = 0 ∧ syS S x = { dieS S with fl := updF S.fl g ((S.fl g).1, (S.fl g).1.length) } := by
  unfold syE syS; rw [if_neg h, if_neg h, h1, if_neg (by simp)]; exact ⟨rfl, rfl⟩
theorem syS_dead {S : DS} {x : List UInt8} (h : (dieS S).dead = true) : syE S x = 10 ∧ syS S x = dieS S := by
  unfold syE syS; rw [if_pos h, if_pos h]; exact ⟨rfl, rfl⟩
set_option maxRecDepth 100000 in
set_option maxHeartbeats 2000000 in
theorem sync_any {d : Nat} {S : DS} {K : Nat → Prop} {gs : List Nat} (x : List UInt8) (w : World) (h : DK w d S K gs) (hx : x.length ≤ 9223372036854775807) :
    Calls Tryd.prog 18 #[.pointer (some ⟨d, 0, none⟩), .string (mkT x)] w fun e w' => e = .returned (.int .i64 (syE S x)) ∧ DK w' d (syS S x) K gs ∧ Keeps K w w' := by
  obtain ⟨q1, q2, q3, q4, q5⟩ := dieS_eq S
  have HDI : Hid (Calls Tryd.prog _ _ _ _) := DK.dies w h
  by_cases hdead : (dieS S).dead = true
  · have HE : Hid _ := syS_dead (x := x) hdead
    go_enter Tryd.func18, Tryd.ntmps18
    go_wp2_with (go_at_call 30; refine HDI.out.mono ?_; rw [hdead]; rintro e w1 ⟨rfl, hd1, hk1⟩)
    go_ret
    rw [HE.out.1, HE.out.2]
    exact ⟨rfl, hd1, hk1⟩
  have hdf : (dieS S).dead = false := by simpa using hdead
  have HAL : Hid (¬ (dieS S).dead = true) := hdead
  clear hdead h
  go_enter Tryd.func18, Tryd.ntmps18
  go_wp2_with fail
  refine HDI.out.mono ?_
  rw [hdf]
  rintro e w1 ⟨rfl, hd1, hk1⟩
  have HQ : Hid ((dieS S).now = S.now ∧ (dieS S).fl = S.fl) := ⟨q1, q4⟩
  have HK1 : Hid (Keeps K w w1) := hk1
  have HD1 : Hid (DK w1 d (dieS S) K gs) := hd1
  obtain ⟨bn, bs, sv, fv, hc1⟩ := hd1
  obtain ⟨_, c1, _, _, _, _⟩ := hc1.cells
  have hlook := hc1.now.look x (by omega)
  have HC1 : Hid (DKc w1 d (dieS S) K bn bs sv gs fv) := hc1
  clear hc1 hk1 HDI q1 q2 q3 q4 q5 hdf
  rw [HQ.out.1] at hlook
  cases hl : lk S.now x with
  | none =>
    rw [hl] at hlook
    simp only [gV, Option.isSome_none] at hlook
    have HE : Hid _ := syS_none HAL.out hl
    clear hl
    go_wp2
    go_ret
    rw [HE.out.1, HE.out.2]
    exact ⟨rfl, HD1.out, HK1.out⟩
  | some g =>
    rw [hl] at hlook
    simp only [gV, Option.isSome_some] at hlook
    have HE : Hid _ := syS_some HAL.out hl
    have hgs : g ∈ gs := (HC1.out.inN (x, g) (by rw [HQ.out.1]; exact lk_some_mem hl)).1
    have F := HC1.out.file g hgs
    rw [HQ.out.2] at F
    obtain ⟨f0, f1, f2, f3⟩ := F.fcell
    obtain ⟨fa, fc, hfv, _⟩ := own_form F.row
    rw [hfv] at f0
    clear hl F hfv f2
    go_wp2
    go_ret
    rw [HE.out.1, HE.out.2]
    have r := HC1.out.synced hgs (S.fl g).1.length (by rw [HQ.out.2]; exact Nat.le_refl _)
    rw [HQ.out.2] at r
    exact ⟨rfl, r.1, HK1.out.trans r.2⟩
theorem rnS_dead {S : DS} {x y : List UInt8} (h : (dieS S).dead = true) : rnE S x y = 10 ∧ rnS S x y = dieS S := by
  have e : rnE S x y = 10 := by unfold rnE; rw [if_pos h]
  refine ⟨e, ?_⟩; unfold rnS; rw [e, if_neg (by decide)]
theorem rnS_none {S : DS} {x y : List UInt8} (h : ¬ (dieS S).dead = true) (h1 : lk S.now x = none) : rnE S x y = 7 ∧ rnS S x y = dieS S := by
  have e : rnE S x y = 7 := by unfold rnE; rw [if_neg h, if_pos h1]
  refine ⟨e, ?_⟩; unfold rnS; rw [e, if_neg (by decide)]
theorem rnS_name {S : DS} {x y : List UInt8} {g : Nat} (h : ¬ (dieS S).dead = true) (h1 : lk S.now x = some g) (h2 : nameD y = false) : rnE S x y = 11 ∧ rnS S x y = dieS S := by
  have e : rnE S x y = 11 := by unfold rnE; rw [if_neg h, if_neg (by rw [h1]; simp), if_pos h2]
  refine ⟨e, ?_⟩; unfold rnS; rw [e, if_neg (by decide)]
theorem rnS_ok {S : DS} {x y : List UInt8} {g : Nat} (h : ¬ (dieS S).dead = true) (h1 : lk S.now x = some g) (h2 : ¬ nameD y = false) : rnE S x y = 0 ∧ rnS S x y = takeS (dieS S) ⟨1, g, x, y⟩ := by
  have e : rnE S x y = 0 := by unfold rnE; rw [if_neg h, if_neg (by rw [h1]; simp), if_neg h2]
  refine ⟨e, ?_⟩; unfold rnS; rw [e, if_pos rfl, h1]
set_option maxRecDepth 100000 in
set_option maxHeartbeats 2000000 in
theorem rename_any {d : Nat} {S : DS} {K : Nat → Prop} {gs : List Nat} (x y : List UInt8) (w : World) (h : DK w d S K gs) (hx : x.length ≤ 9223372036854775807) (hy : y.length ≤ 9223372036854775807) (hl1 : S.now.length ≤ 1000000) (hl2 : S.steps.length ≤ 1000000) :
    Calls Tryd.prog 20 #[.pointer (some ⟨d, 0, none⟩), .string (mkT x), .string (mkT y)] w fun e w' => e = .returned (.int .i64 (rnE S x y)) ∧ DK w' d (rnS S x y) K gs ∧ Keeps K w w' := by
  obtain ⟨q1, q2, q3, q4, q5⟩ := dieS_eq S
  have HDI : Hid (Calls Tryd.prog _ _ _ _) := DK.dies w h
  by_cases hdead : (dieS S).dead = true
  · have HE : Hid _ := rnS_dead (x := x) (y := y) hdead
    go_enter Tryd.func20, Tryd.ntmps20
    go_wp2_with (go_at_call 30; refine HDI.out.mono ?_; rw [hdead]; rintro e w1 ⟨rfl, hd1, hk1⟩)
    go_ret
    rw [HE.out.1, HE.out.2]
    exact ⟨rfl, hd1, hk1⟩
  have hdf : (dieS S).dead = false := by simpa using hdead
  have HAL : Hid (¬ (dieS S).dead = true) := hdead
  clear hdead h
  go_enter Tryd.func20, Tryd.ntmps20
  go_wp2_with fail
  refine HDI.out.mono ?_
  rw [hdf]
  rintro e w1 ⟨rfl, hd1, hk1⟩
  have HQ : Hid ((dieS S).now = S.now ∧ (dieS S).fl = S.fl) := ⟨q1, q4⟩
  have HLL : Hid ((dieS S).now.length ≤ 1000000 ∧ (dieS S).steps.length ≤ 1000000) := ⟨by rw [q1]; exact hl1, by rw [q3]; exact hl2⟩
  have HK1 : Hid (Keeps K w w1) := hk1
  have HD1 : Hid (DK w1 d (dieS S) K gs) := hd1
  obtain ⟨bn, bs, sv, fv, hc1⟩ := hd1
  obtain ⟨_, c1, _, _, _, _⟩ := hc1.cells
  have hlook := hc1.now.look x (by omega)
  have HC1 : Hid (DKc w1 d (dieS S) K bn bs sv gs fv) := hc1
  clear hc1 hk1 HDI q1 q2 q3 q4 q5 hdf
  rw [HQ.out.1] at hlook
  cases hl : lk S.now x with
  | none =>
    rw [hl] at hlook
    simp only [gV, Option.isSome_none] at hlook
    have HE : Hid _ := rnS_none (y := y) HAL.out hl
    clear hl
    go_wp2
    go_ret
    rw [HE.out.1, HE.out.2]
    exact ⟨rfl, HD1.out, HK1.out⟩
  | some g =>
    rw [hl] at hlook
    simp only [gV, Option.isSome_some] at hlook
    have hin := HC1.out.inN (x, g) (by rw [HQ.out.1]; exact lk_some_mem hl)
    have hgs : g ∈ gs := hin.1
    have hx80 : x.length ≤ 80 := hin.2
    by_cases hnm : nameD y = false
    · have HE : Hid _ := rnS_name HAL.out hl hnm
      clear hl hin
      go_wp2_with (go_at_call 31; refine (dname_x y _ hy).mono ?_; rw [hnm]; rintro e w2 ⟨rfl, e2⟩; have e3 := e2.symm; subst e3)
      go_ret
      rw [HE.out.1, HE.out.2]
      exact ⟨rfl, HD1.out, HK1.out⟩
    · have HE : Hid _ := rnS_ok HAL.out hl hnm
      have hnt : nameD y = true := by simpa using hnm
      have hy80 := nameD_len hnt
      have hzs := zeroSt
      have HT := take_x 1 g x y w1 HD1.out hgs hx80 hy80 (by omega) (by omega) HLL.out.1 HLL.out.2
      have HTT : Hid (Calls _ _ _ _ _) := HT
      clear hl hin HT hnm
      go_wp2_with (first | (go_at_call 31; refine (dname_x y _ hy).mono ?_; rw [hnt]; rintro e w2 ⟨rfl, e2⟩; have e3 := e2.symm; subst e3) | (go_at_call 32; refine HTT.out.mono ?_; rintro e w4 ⟨rfl, hd4, hk4⟩))
      go_ret
      rw [HE.out.1, HE.out.2]
      exact ⟨rfl, hd4, HK1.out.trans hk4⟩
theorem conv_cb {w : World} {v : Value} {l : List UInt8} (h : w.ownsRow 0 5 1 v l.length (cb l)) : (convert 69 9 v).run Tryd.prog w = .ok (.string (mkT l)) w := by
  have e : cb l = (l.map fun c => (c.toNat : Int)).map (Value.int .u8) := by simp [cb]
  rw [e] at h
  have := conv_own (P := Tryd.prog) Tryd.underlying69 Tryd.underlying5 Tryd.underlying9 h
  have e2 : strOfNums (l.map fun c => (c.toNat : Int)) = mkT l := by
    unfold strOfNums mkT
    refine congrArg ByteArray.mk (Array.ext' ?_)
    simp [Function.comp_def]
  rw [this, e2]
theorem rd_dead {S : DS} {x : List UInt8} (h : S.dead = true) : rdE S x = 10 ∧ rdV S x = [] := by unfold rdE rdV; rw [if_pos h, if_pos h]; exact ⟨rfl, rfl⟩
theorem rd_none {S : DS} {x : List UInt8} (h : ¬ S.dead = true) (h1 : lk S.now x = none) : rdE S x = 7 ∧ rdV S x = [] := by unfold rdE rdV; rw [if_neg h, if_neg h, h1, if_pos rfl]; exact ⟨rfl, rfl⟩
theorem rd_some {S : DS} {x : List UInt8} {g : Nat} (h : ¬ S.dead = true) (h1 : lk S.now x = some g) : rdE S x = 0 ∧ rdV S x = (S.fl g).1 := by unfold rdE rdV; rw [if_neg h, if_neg h, h1, if_neg (by simp)]; exact ⟨rfl, rfl⟩
set_option maxRecDepth 100000 in
set_option maxHeartbeats 2000000 in
theorem read_any {d : Nat} {S : DS} {K : Nat → Prop} {gs : List Nat} (x : List UInt8) (w : World) (h : DK w d S K gs) (hx : x.length ≤ 9223372036854775807) :
    Calls Tryd.prog 22 #[.pointer (some ⟨d, 0, none⟩), .string (mkT x)] w fun e w' => e = .returned (.tuple #[.string (mkT (rdV S x)), .int .i64 (rdE S x)]) ∧ w' = w := by
  obtain ⟨bn, bs, sv, fv, hc1⟩ := h
  obtain ⟨_, c1, _, _, _, c5⟩ := hc1.cells
  have hlook := hc1.now.look x (by omega)
  have HC1 : Hid (DKc w d S K bn bs sv gs fv) := hc1
  clear hc1
  by_cases hdead : S.dead = true
  · have HE : Hid _ := rd_dead (x := x) hdead
    rw [hdead] at c5
    clear hdead
    go_enter Tryd.func22, Tryd.ntmps22
    go_wp2
    go_ret2
    rw [HE.out.1, HE.out.2]
    exact ⟨rfl, rfl⟩
  have hdf : S.dead = false := by simpa using hdead
  rw [hdf] at c5
  cases hl : lk S.now x with
  | none =>
    rw [hl] at hlook
    simp only [gV, Option.isSome_none] at hlook
    have HE : Hid _ := rd_none hdead hl
    clear hl hdf hdead
    go_enter Tryd.func22, Tryd.ntmps22
    go_wp2
    go_ret2
    rw [HE.out.1, HE.out.2]
    exact ⟨rfl, rfl⟩
  | some g =>
    rw [hl] at hlook
    simp only [gV, Option.isSome_some] at hlook
    have HE : Hid _ := rd_some hdead hl
    have F := HC1.out.file g (HC1.out.inN (x, g) (lk_some_mem hl)).1
    obtain ⟨f0, _, _, _⟩ := F.fcell
    have hcv := conv_cb F.row
    clear hl hdf hdead F
    go_enter Tryd.func22, Tryd.ntmps22
    go_wp2
    go_ret2
    rw [HE.out.1, HE.out.2]
    exact ⟨rfl, rfl⟩
end Go.Proofs.YtmjfcneofpddiaaDoor
