/- The plain mathematics of the law BitsParts: a byte that is another one always shows in the cyclic sum. -/
import Derived.Test.YtkphgjaklkfcfabCrcM
namespace Go.Proofs.Ytkphgjaklkfcfab
set_option linter.unusedVariables false

/-- Which byte has an entry of the table with this highest byte. -/
def entInv (t : Nat) : Nat := ((List.range 256).find? fun j => ent j / 16777216 == t).getD 256
theorem entInv_ent : ∀ j : Fin 256, entInv (ent j.val / 16777216) = j.val := by decide +kernel
theorem xor_high (a b : Nat) (hb : b < 16777216) : (a ^^^ b) / 16777216 = a / 16777216 := by
  have h : ∀ n : Nat, n / 16777216 = n >>> 24 := fun n => by rw [Nat.shiftRight_eq_div_pow]
  rw [h, h, Nat.shiftRight_xor_distrib, ← h b, Nat.div_eq_of_lt hb, Nat.xor_zero]
theorem xor_cancel {a b c : Nat} (h : a ^^^ c = b ^^^ c) : a = b := by
  have := congrArg (· ^^^ c) h
  simp only [Nat.xor_assoc, Nat.xor_self, Nat.xor_zero] at this
  exact this
theorem crcStep_inj {c c' b b' : Nat} (hc : c < 4294967296) (hc' : c' < 4294967296) (hb : b < 256) (hb' : b' < 256) (h : crcStep c b = crcStep c' b') :
    c % 256 ^^^ b = c' % 256 ^^^ b' ∧ c / 256 = c' / 256 := by
  unfold crcStep at h
  have hj := xor_byte (c % 256) b (by omega) hb
  have hj' := xor_byte (c' % 256) b' (by omega) hb'
  have h1 : (ent (c % 256 ^^^ b) ^^^ c / 256) / 16777216 = (ent (c' % 256 ^^^ b') ^^^ c' / 256) / 16777216 := by rw [h]
  rw [xor_high _ _ (by omega), xor_high _ _ (by omega)] at h1
  have e : c % 256 ^^^ b = c' % 256 ^^^ b' := by
    have a := entInv_ent ⟨_, hj⟩
    have a' := entInv_ent ⟨_, hj'⟩
    simp only at a a'
    rw [← a, h1, a']
  refine ⟨e, ?_⟩
  rw [e, Nat.xor_comm, Nat.xor_comm (ent _)] at h
  exact xor_cancel h
theorem crcStep_byte {c b b' : Nat} (hc : c < 4294967296) (hb : b < 256) (hb' : b' < 256) (h : crcStep c b = crcStep c b') : b = b' := by
  have := (crcStep_inj hc hc hb hb' h).1
  rw [Nat.xor_comm, Nat.xor_comm (c % 256)] at this
  exact xor_cancel this
theorem crcStep_sum {c c' b : Nat} (hc : c < 4294967296) (hc' : c' < 4294967296) (hb : b < 256) (h : crcStep c b = crcStep c' b) : c = c' := by
  obtain ⟨h1, h2⟩ := crcStep_inj hc hc' hb hb h
  have := xor_cancel h1
  omega
theorem crcF_sum : ∀ (l : List UInt8) {c c' : Nat}, c < 4294967296 → c' < 4294967296 → crcF c l = crcF c' l → c = c'
  | [], c, c', _, _, h => h
  | b :: r, c, c', hc, hc', h => crcStep_sum hc hc' b.toNat_lt (crcF_sum r (crcStep_lt _ _ hc b.toNat_lt) (crcStep_lt _ _ hc' b.toNat_lt) h)
/-- A byte that is another one shows. -/
theorem crcV_byte (l r : List UInt8) (x y : UInt8) (h : x ≠ y) : crcV 0 (l ++ x :: r) ≠ crcV 0 (l ++ y :: r) := by
  intro e
  have hl := crcF_lt l 4294967295 (by decide)
  have h1 := crcF_lt (l ++ x :: r) 4294967295 (by decide)
  have h2 := crcF_lt (l ++ y :: r) 4294967295 (by decide)
  unfold crcV at e
  rw [show 4294967295 - 0 = 4294967295 from rfl] at e
  have e2 : crcF 4294967295 (l ++ x :: r) = crcF 4294967295 (l ++ y :: r) := by omega
  rw [crcF_append, crcF_append] at e2
  have e3 := crcF_sum r (crcStep_lt _ _ hl x.toNat_lt) (crcStep_lt _ _ hl y.toNat_lt) e2
  exact h (UInt8.toNat_inj.1 (crcStep_byte hl x.toNat_lt y.toNat_lt e3))
end Go.Proofs.Ytkphgjaklkfcfab
