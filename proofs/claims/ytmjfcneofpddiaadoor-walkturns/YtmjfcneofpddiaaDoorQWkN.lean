/- Contract: the document's Same, of two lists that are one. -/
import Derived.Test.YtmjfcneofpddiaaDoorQWkL
import Derived.Laws.StructEq
import Derived.BigQuiet
import Derived.Deep.QuietTactic
namespace Go.Proofs.YtmjfcneofpddiaaDoor
open Go.RowKit Go.Maps
set_option linter.unusedVariables false
set_option linter.unusedSimpArgs false
theorem Tryd.stoodIt : Tryd.prog.stoodInHeld 25 = false := by kernel_rfl
theorem Tryd.undIt : Tryd.prog.underlying 25 = some (.struct (Tryd.prog.fieldsOf 25)) := by kernel_rfl
theorem Tryd.guardIt : Tryd.prog.eqGuardType Tryd.prog.depth 25 = false := by kernel_rfl
theorem eqFields_same (d : Nat) (xs : Array Value) (w : World) : ∀ fs : List Field, (∀ f ∈ fs, ∃ v, (part f.type xs f.offset).run Tryd.prog w = .ok v w ∧ (Op.equalIn d f.type v v).run Tryd.prog w = .ok true w) → (Op.eqFields d xs xs fs).run Tryd.prog w = .ok true w
  | [], _ => by simp [Op.eqFields]
  | f :: fs, h => by
    obtain ⟨v, h1, h2⟩ := h f (by simp)
    have ih := eqFields_same d xs w fs (fun g hg => h g (List.mem_cons_of_mem _ hg))
    simp only [Op.eqFields, Sem.run_ite, Sem.run_bind, h1, h2, Result.andThen_ok, Bool.not_true, Bool.false_eq_true, if_false, ih]
    split <;> rfl
theorem neq_it (a b : ByteArray) (k m t : Int) (w : World) : (binOp .neq 25 (.agg #[.string a, .int .i64 k, .int .i64 m, .int .i64 t, .string b]) (.agg #[.string a, .int .i64 k, .int .i64 m, .int .i64 t, .string b])).run Tryd.prog w = .ok (.bool false) w := by
  rw [run_neq_struct, run_equalIn_agg _ _ _ _ _ Tryd.undIt Tryd.stoodIt]
  have hf : (Tryd.prog.fieldsOf 25).toList.map (fun f => (f.type, f.offset)) = [(9, 0), (3, 1), (3, 2), (3, 3), (9, 4)] := by kernel_rfl
  rw [eqFields_same]
  · rfl
  · intro f hm
    have hm2 : (f.type, f.offset) ∈ [(9, 0), (3, 1), (3, 2), (3, 3), (9, 4)] := by rw [← hf]; exact List.mem_map.2 ⟨f, hm, rfl⟩
    generalize f.type = T at hm2 ⊢
    generalize f.offset = O at hm2 ⊢
    simp only [List.mem_cons, Prod.mk.injEq, List.not_mem_nil, or_false] at hm2
    rcases hm2 with ⟨rfl, rfl⟩ | ⟨rfl, rfl⟩ | ⟨rfl, rfl⟩ | ⟨rfl, rfl⟩ | ⟨rfl, rfl⟩
    · exact ⟨.string a, by kernel_rfl, by rw [run_equalIn_string _ _ _ _ _ Tryd.underlying9]; simp⟩
    · exact ⟨.int .i64 k, by kernel_rfl, by rw [run_equalIn_int _ _ _ _ _ _ _ Tryd.underlying3]; simp⟩
    · exact ⟨.int .i64 m, by kernel_rfl, by rw [run_equalIn_int _ _ _ _ _ _ _ Tryd.underlying3]; simp⟩
    · exact ⟨.int .i64 t, by kernel_rfl, by rw [run_equalIn_int _ _ _ _ _ _ _ Tryd.underlying3]; simp⟩
    · exact ⟨.string b, by kernel_rfl, by rw [run_equalIn_string _ _ _ _ _ Tryd.underlying9]; simp⟩
set_option maxRecDepth 100000 in
set_option maxHeartbeats 2000000 in
theorem same_one (u v : Value) (l : List It) (w : World) (hU : IV w u l) (hV : IV w v l) (hl : l.length ≤ 1000) :
    Calls Tryd.prog 12 #[u, v] w fun e w' => e = .returned (.bool true) ∧ Below w.heap.size w w' := by
  have HU : Hid (IV w u l) := hU
  have HV : Hid (IV w v l) := hV
  obtain ⟨a0, cap0, rfl, -, -, -⟩ := hU
  obtain ⟨a1, cap1, rfl, -, -, -⟩ := hV
  obtain ⟨n, hn⟩ : ∃ n, n = l.length := ⟨_, rfl⟩
  have HN : Hid (n = l.length) := hn
  rw [← hn] at hl HU HV
  rw [← hn]
  clear hn
  have hgd := Tryd.guardIt
  have hnq := neq_it
  go_enter Tryd.func12, Tryd.ntmps12
  go_wp2
  go_loopw [13] (fun i wr => ∃ (k : Nat), k ≤ n ∧ i = .int .i64 (k : Int) ∧ Below w.heap.size w wr) (fun i _ => n - (intOf i).toNat)
  case atStart => exact ⟨0, Nat.zero_le _, rfl, Below.refl _ _⟩
  case round =>
    obtain ⟨k, hk, rfl, hb⟩ := hrel
    have HB : Hid (Below w.heap.size w wr) := hb
    clear hb
    by_cases hlt : k < n
    · obtain ⟨x, hx⟩ : ∃ x, l[k]? = some x := ⟨_, List.getElem?_eq_getElem (by rw [← HN.out]; exact hlt)⟩
      have hlti : (k : Int) < (n : Int) := by omega
      obtain ⟨g, o, rfl, hg, -, hcap, c0, c1, c2, c3, c4⟩ := (HU.out.below HB.out).at hx
      obtain ⟨g', o', rfl, hg', -, hcap', d0, d1, d2, d3, d4⟩ := (HV.out.below HB.out).at hx
      go_wp2_with fail
      go_quiet (fail)
      have hbd : Below wr.heap.size wr (wr.drewN nq) := ⟨rfl, rfl, rfl, Nat.le_refl _, fun _ _ => rfl⟩
      have HB3 : Hid (Below w.heap.size w (wr.drewN nq)) := HB.out.trans (hbd.mono HB.out.size)
      clear hbd
      go_wp2
      go_roundw
      case rel => exact ⟨k + 1, by omega, by go_num, HB3.out⟩
      case measure => simp [intOf]; omega
    · have hlti : ¬ (k : Int) < (n : Int) := by omega
      go_wp2
      go_ret
      exact ⟨rfl, HB.out⟩
end Go.Proofs.YtmjfcneofpddiaaDoor
