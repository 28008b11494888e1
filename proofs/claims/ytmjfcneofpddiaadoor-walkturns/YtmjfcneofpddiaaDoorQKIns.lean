/- This program is one whose items take five cells; slices.insertionSortCmpFunc at it: the library's contract, laid. -/
import Derived.Test.YtmjfcneofpddiaaDoorQKStb
import Derived.Shelf.Lay
import Derived.Ground.SlsfProg
import Derived.Sort.LotA
import Derived.Sort.Lot0
namespace Go.Proofs.YtmjfcneofpddiaaDoor
open Go.RowKit Go.Shelf Go.Lib Go.Sort
set_option linter.unusedVariables false
set_option linter.unusedSimpArgs false
shelf_lay_g SlLaysF0.n20 Slsf 20 at Tryd 65 as Tryd.insF
theorem itp : ItP Tryd.prog 5 where
  mixed := by rfl
  fsw := Tryd.func97
  frot := Tryd.func78
  fsym := Tryd.func66
  fstb := Tryd.func53
  t3 := Tryd.underlying3
  a3 := Tryd.isAgg3
  z3 := Tryd.sizeOf3
  v3 := Tryd.zeroValue3
  t4 := Tryd.underlying4
  a4 := Tryd.isAgg4
  z4 := Tryd.sizeOf4
  v4 := Tryd.zeroValue4
  t22 := Tryd.underlying22
  a22 := Tryd.isAgg22
  z22 := Tryd.sizeOf22
  v22 := Tryd.zeroValue22
  tU := Tryd.underlying105
  aU := Tryd.isAgg105
  zU := Tryd.sizeOf105
  vU := Tryd.zeroValue105
  aE := Tryd.isAgg25
  zE := Tryd.sizeOf25
variable {N : Nat} [Inhabited (Fin N)] {enc : Fin N → List Value} {w0 : World} {blk off : Nat} {d0 : Array (Fin N)}

theorem CmpLays.on {P : Program} {k : Nat} {g : Nat} {cb : Array Value} {cf : Fin N → Fin N → Int} {size : Nat} {dk : Array (Fin N)} {W : World} (h : SWK enc k w0 blk off dk W) (hC : CmpLays P g cb enc k cf blk off size w0) (hblk : blk < w0.heap.size) (hs : dk.size = size) : CmpLays P g cb enc k cf blk off size W := by
  intro m os d' hd x y
  obtain ⟨n, os', hw⟩ := h.on hblk m d' os (by omega)
  rw [hw]
  exact hC n os' d' hd x y
theorem kins_any (R : RowK enc 5 w0 blk off d0) (g : Nat) (cb : Array Value) (eg : ∀ args w, (callFunc g args).run Tryd.prog w = .ok (.enter g args) w) (cf : Fin N → Fin N → Int) (hS : SWO (ltOf cf)) (hC : CmpLays Tryd.prog g cb enc 5 cf blk off d0.size w0)
    (cap : Nat) (hsz : d0.size ≤ 1000000) : KInsAt Tryd.prog 5 enc w0 g cb cf blk off cap d0.size := by
  intro dk V a b hk hV hab hb
  have hH : HoldsK enc 5 V blk off dk := hV.holds R.hblk R.hH hk
  have hI := AnyQ.insertionSortCmpFunc Tryd.insF 5 Tryd.isAgg25 Tryd.sizeOf25 enc R.hk R.h1 cf g cb blk off cap a b dk V eg (by rw [hk]; exact CmpLays.on hV hC R.hblk hk) hH (hV.lt R.hblk) hab (by omega) (by omega)
  obtain ⟨p1, p2⟩ := insertionSort_holds (lt := ltOf cf) hS dk a b hab (by omega)
  rw [hk] at hI
  refine Calls.mono (show Calls Tryd.prog 65 _ _ _ from hI) ?_
  rintro e w' ⟨rfl, m, os, rfl⟩
  exact ⟨rfl, _, p1, p2, hV.on R.hblk m _ os p1.1⟩
/-- slices.SortStableFunc at the items. -/
theorem ksort_any (R : RowK enc 5 w0 blk off d0) (g : Nat) (cb : Array Value) (eg : ∀ args w, (callFunc g args).run Tryd.prog w = .ok (.enter g args) w) (cf : Fin N → Fin N → Int) (hS : SWO (ltOf cf)) (hC : CmpLays Tryd.prog g cb enc 5 cf blk off d0.size w0)
    (cap : Nat) (hsz : d0.size ≤ 1000000) :
    Calls Tryd.prog 41 #[.slice (some ⟨blk, off, none⟩) d0.size cap, .func (.func g) #[] cb] w0 fun e w' =>
      e = .returned (.tuple #[]) ∧ ∃ d', PermIn 0 d0.size d0 d' ∧ SortedIn (ltOf cf) 0 d0.size d' ∧ SWK enc 5 w0 blk off d' w' := by
  have egi : ∀ args w, (callFunc 65 args).run Tryd.prog w = .ok (.enter 65 args) w := fun args w => enters_of Tryd.func65 (by kernel_rfl) rfl args w
  have HS : Hid _ := kstable_any itp g cb egi cf cap d0 w0 (SWK.start R.hH) hsz (kins_any R g cb eg cf hS hC cap hsz) (fun a m b q1 q2 q3 => ksym_all itp R g cb eg cf hS hC cap (by omega) (b - a) a m b (Nat.le_refl _) q1 q2 q3)
  clear hC hS R
  go_enter Tryd.func41, Tryd.ntmps41
  go_wp2_with fail
  refine (Hid.out HS : Calls _ _ _ _ _).mono ?_
  rintro e w1 ⟨rfl, d', q1, q2, q3⟩
  have Q3 : Hid (SWK _ _ _ _ _ _ _) := q3
  clear q3
  go_wp2
  exact bodyPost_end (results_none rfl _ _ _) rfl ⟨rfl, d', q1, q2, Q3.out⟩
end Go.Proofs.YtmjfcneofpddiaaDoor
