/- slices.symMergeCmpFunc at items of k cells, whole: two sorted stretches side by side are merged. -/
import Derived.Test.YtmjfcneofpddiaaDoorQKSymD
namespace Go.Proofs.YtmjfcneofpddiaaDoor
open Go.RowKit Go.Shelf Go.Lib Go.Sort
set_option linter.unusedVariables false
set_option linter.unusedSimpArgs false
variable {P : Program} {k : Nat} {N : Nat} [Inhabited (Fin N)] {enc : Fin N → List Value} {w0 : World} {blk off : Nat} {d0 : Array (Fin N)}

theorem ksym_all (L : ItP P k) (R : RowK enc k w0 blk off d0) (g : Nat) (cb : Array Value) (eg : ∀ args w, (callFunc g args).run P w = .ok (.enter g args) w) (cf : Fin N → Fin N → Int) (hS : SWO (ltOf cf)) (hC : CmpLays P g cb enc k cf blk off d0.size w0)
    (cap : Nat) (hsz : d0.size < 2305843009213693952) : ∀ (n a m b : Nat), b - a ≤ n → a < m → m < b → b ≤ d0.size → KSymAt P k enc w0 g cb cf blk off cap d0.size a m b
  | 0, a, m, b, h0, h1, h2, _ => by omega
  | n + 1, a, m, b, h0, h1, h2, h3 => by
    intro dk V hk hV s1 s2
    have ih : ∀ a' m' b', b' - a' ≤ n → a' < m' → m' < b' → b' ≤ d0.size → KSymAt P k enc w0 g cb cf blk off cap dk.size a' m' b' := fun a' m' b' q1 q2 q3 q4 => by
      rw [hk]; exact ksym_all L R g cb eg cf hS hC cap hsz n a' m' b' q1 q2 q3 q4
    rw [← hk]
    by_cases c1 : m = a + 1
    · subst c1
      exact ksymA_any L R g cb eg cf hS hC cap a b dk hk V hV (by omega) (by omega) (by omega) s2
    · by_cases c2 : b = m + 1
      · subst c2
        exact ksymB_any L R g cb eg cf hS hC cap a m dk hk V hV (by omega) (by omega) (by omega) s1
      · by_cases c3 : (a + b) / 2 < m
        · exact ksymC_any L R g cb eg cf hS hC cap a m b _ dk hk V hV (by omega) (by omega) (by omega) (by omega) rfl c3 s1 s2 (fun s q1 q2 => ih _ _ _ (by omega) q1 q2 (by omega)) (fun s q1 q2 => ih _ _ _ (by omega) q1 q2 (by omega))
        · exact ksymD_any L R g cb eg cf hS hC cap a m b _ dk hk V hV (by omega) (by omega) (by omega) (by omega) rfl c3 s1 s2 (fun s q1 q2 => ih _ _ _ (by omega) q1 q2 (by omega)) (fun s q1 q2 => ih _ _ _ (by omega) q1 q2 (by omega))
end Go.Proofs.YtmjfcneofpddiaaDoor
