/- slices.symMergeCmpFunc, whole: two sorted stretches side by side are merged. -/
import Derived.Test.YtclmjopppaknjaaHSymD
namespace Go.Proofs.Ytclmjopppaknjaa
open Go.RowKit Go.Shelf Go.Lib Go.Sort
set_option linter.unusedVariables false
set_option linter.unusedSimpArgs false
variable {N : Nat} [Inhabited (Fin N)]

theorem CmpF.again {cb : Value} {cf : Fin N → Fin N → Int} {blk off size : Nat} {w : World} (h : CmpF cb cf blk off size w) (dk : Array (Fin N)) (n : Nat) (hk : dk.size = size) :
    CmpF cb cf blk off size ((putRow eF w blk off dk).drewN n) := by
  intro d' m x y hs
  have := h d' (n + m) x y hs
  rw [← putRow_again w blk off dk d' n m (by omega)] at this
  exact this
theorem sym_all (cb : Value) (cf : Fin N → Fin N → Int) (hS : SWO (ltOf cf)) (blk off cap size : Nat) (hsz : size < 2305843009213693952) : ∀ (L a m b : Nat), b - a ≤ L → a < m → m < b → b ≤ size →
    ∀ (w : World) (d : Array (Fin N)), Holds eF w blk off d → d.size = size → CmpF cb cf blk off size w → SymAt cb cf blk off cap size w a m b
  | 0, a, m, b, h0, h1, h2, _, _, _, _, _, _ => by omega
  | L + 1, a, m, b, h0, h1, h2, h3, w, d, hH, hd, hC => by
    intro dk n hk s1 s2
    have hH' : Holds eF ((putRow eF w blk off dk).drewN n) blk off dk := holds_putRow eF w blk off d dk hH (by omega)
    have hC' : CmpF cb cf blk off dk.size ((putRow eF w blk off dk).drewN n) := by rw [hk]; exact hC.again dk n hk
    have ih : ∀ a' m' b', b' - a' ≤ L → a' < m' → m' < b' → b' ≤ size → SymAt cb cf blk off cap dk.size ((putRow eF w blk off dk).drewN n) a' m' b' := fun a' m' b' q1 q2 q3 q4 => by
      rw [hk]; exact sym_all cb cf hS blk off cap size hsz L a' m' b' q1 q2 q3 q4 _ dk hH' hk (hC.again dk n hk)
    have fin : Calls Try.prog 77 #[.slice (some ⟨blk, off, none⟩) dk.size cap, .int .i64 (a : Int), .int .i64 (m : Int), .int .i64 (b : Int), .func (.func 49) #[] #[cb]] ((putRow eF w blk off dk).drewN n) fun e w' =>
      e = .returned (.tuple #[]) ∧ ∃ d', PermIn a b dk d' ∧ SortedIn (ltOf cf) a b d' ∧ ∃ k, w' = (putRow eF ((putRow eF w blk off dk).drewN n) blk off d').drewN k := by
      by_cases c1 : m = a + 1
      · subst c1
        exact symA_any cb cf hS blk off cap a b dk _ hH' hC' (by omega) (by omega) (by omega) s2
      · by_cases c2 : b = m + 1
        · subst c2
          exact symB_any cb cf hS blk off cap a m dk _ hH' hC' (by omega) (by omega) (by omega) s1
        · by_cases c3 : (a + b) / 2 < m
          · exact symC_any cb cf hS blk off cap a m b _ dk _ hH' hC' (by omega) (by omega) (by omega) (by omega) rfl c3 s1 s2 (fun s q1 q2 => ih _ _ _ (by omega) q1 q2 (by omega)) (fun s q1 q2 => ih _ _ _ (by omega) q1 q2 (by omega))
          · exact symD_any cb cf hS blk off cap a m b _ dk _ hH' hC' (by omega) (by omega) (by omega) (by omega) rfl c3 s1 s2 (fun s q1 q2 => ih _ _ _ (by omega) q1 q2 (by omega)) (fun s q1 q2 => ih _ _ _ (by omega) q1 q2 (by omega))
    rw [hk] at fin
    refine fin.mono ?_
    rintro e w' ⟨q1, d', q2, q3, k, q4⟩
    exact ⟨q1, d', q2, q3, n + k, by rw [q4, putRow_again _ _ _ _ _ _ _ q2.1]⟩
end Go.Proofs.Ytclmjopppaknjaa
