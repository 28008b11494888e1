/- The plain mathematics of SHA-256, as the program reckons it: no program. -/
import Derived.Laws.BitsAllLaws
import Derived.Laws.Rows
import Derived.Laws.Tables
namespace Go.Proofs.YtlnagnkiadlfpaaDoor
open Go
set_option linter.unusedVariables false

/-- A word turned n places to the right. -/
def ror (x n : Nat) : Nat := (x * 2 ^ (32 - n) % 4294967296) ||| (x / 2 ^ n)
theorem or_lt32 {a b : Nat} (ha : a < 4294967296) (hb : b < 4294967296) : a ||| b < 4294967296 := Nat.or_lt_two_pow (n := 32) ha hb
theorem xor_lt32 {a b : Nat} (ha : a < 4294967296) (hb : b < 4294967296) : a ^^^ b < 4294967296 := Nat.xor_lt_two_pow (n := 32) ha hb
theorem and_lt32 {a b : Nat} (ha : a < 4294967296) : a &&& b < 4294967296 := Nat.lt_of_le_of_lt Nat.and_le_left ha
theorem div_lt32 {a : Nat} (n : Nat) (ha : a < 4294967296) : a / n < 4294967296 := Nat.lt_of_le_of_lt (Nat.div_le_self _ _) ha
theorem ror_lt (x n : Nat) (h : x < 4294967296) : ror x n < 4294967296 := or_lt32 (Nat.mod_lt _ (by decide)) (div_lt32 _ h)
/-- A row of words as cells. -/
def wl (l : List Nat) : Array Value := (l.map fun n : Nat => Value.int .u32 (n : Int)).toArray
theorem wl_size (l : List Nat) : (wl l).size = l.length := by simp [wl]
theorem wl_at (l : List Nat) (j : Nat) (h : j < l.length) : (wl l)[j]? = some (.int .u32 (l.getD j 0 : Int)) := by
  simp [wl, List.getElem?_map, List.getElem?_eq_getElem h, List.getD_eq_getElem?_getD]
theorem wl_set (l : List Nat) (j v : Nat) : (wl l).setIfInBounds j (.int .u32 (v : Int)) = wl (l.set j v) := by
  apply Array.ext'
  simp [wl, List.map_set]
theorem wl_one (l : List Nat) : (wl l).all (·.oneCell') = true := by
  rw [Array.all_eq_true']
  intro v hv
  simp [wl] at hv
  obtain ⟨j, _, rfl⟩ := hv
  rfl
def Small (l : List Nat) : Prop := ∀ x ∈ l, x < 4294967296
theorem Small.getD {l : List Nat} (h : Small l) (j : Nat) : l.getD j 0 < 4294967296 := by
  rw [List.getD_eq_getElem?_getD]
  by_cases hj : j < l.length
  · rw [List.getElem?_eq_getElem hj]; exact h _ (List.getElem_mem hj)
  · rw [List.getElem?_eq_none (by omega)]; decide
theorem Small.set {l : List Nat} (h : Small l) (j v : Nat) (hv : v < 4294967296) : Small (l.set j v) := by
  intro x hx
  rcases List.mem_or_eq_of_mem_set hx with h1 | rfl
  · exact h x h1
  · exact hv
/-- The first sixteen words: byte by byte. -/
def loadB (s : List UInt8) : Nat → List Nat
  | 0 => List.replicate 64 0
  | k + 1 => (loadB s k).set (k / 4) (((loadB s k).getD (k / 4) 0 * 256 % 4294967296) ||| (s.getD k 0).toNat)
theorem loadB_len (s : List UInt8) : ∀ k, (loadB s k).length = 64
  | 0 => by simp [loadB]
  | k + 1 => by simp [loadB, loadB_len s k]
theorem loadB_small (s : List UInt8) : ∀ k, Small (loadB s k)
  | 0 => fun x hx => by simp [loadB] at hx; omega
  | k + 1 => (loadB_small s k).set _ _ (or_lt32 (Nat.mod_lt _ (by decide)) (by have := (s.getD k 0).toNat_lt; omega))
def sg0 (x : Nat) : Nat := ror x 7 ^^^ ror x 18 ^^^ x / 8
def sg1 (x : Nat) : Nat := ror x 17 ^^^ ror x 19 ^^^ x / 1024
theorem sg0_lt (x : Nat) (h : x < 4294967296) : sg0 x < 4294967296 := xor_lt32 (xor_lt32 (ror_lt _ _ h) (ror_lt _ _ h)) (div_lt32 _ h)
theorem sg1_lt (x : Nat) (h : x < 4294967296) : sg1 x < 4294967296 := xor_lt32 (xor_lt32 (ror_lt _ _ h) (ror_lt _ _ h)) (div_lt32 _ h)
def wnext (l : List Nat) (i : Nat) : Nat := (l.getD (i - 16) 0 + sg0 (l.getD (i - 15) 0) + l.getD (i - 7) 0 + sg1 (l.getD (i - 2) 0)) % 4294967296
/-- The other words. -/
def expand (s : List UInt8) : Nat → List Nat
  | 0 => loadB s 64
  | k + 1 => (expand s k).set (16 + k) (wnext (expand s k) (16 + k))
theorem expand_len (s : List UInt8) : ∀ k, (expand s k).length = 64
  | 0 => loadB_len s 64
  | k + 1 => by simp [expand, expand_len s k]
theorem expand_small (s : List UInt8) : ∀ k, Small (expand s k)
  | 0 => loadB_small s 64
  | k + 1 => (expand_small s k).set _ _ (Nat.mod_lt _ (by decide))
theorem wrap32_sum (a b : Nat) : IntKind.u32.wrap ((a : Int) + (b : Int)) = (((a + b) % 4294967296 : Nat) : Int) := by
  rw [IntKind.wrap_u32]; simp
theorem wnext_eq (l : List Nat) (i : Nat) : wnext l i = (((l.getD (i - 16) 0 + sg0 (l.getD (i - 15) 0)) % 4294967296 + l.getD (i - 7) 0) % 4294967296 + sg1 (l.getD (i - 2) 0)) % 4294967296 := by
  unfold wnext; omega
def sched (s : List UInt8) : List Nat := expand s 48
def rootsL : List Nat := [1116352408, 1899447441, 3049323471, 3921009573, 961987163, 1508970993, 2453635748, 2870763221, 3624381080, 310598401, 607225278, 1426881987, 1925078388, 2162078206, 2614888103, 3248222580, 3835390401, 4022224774, 264347078, 604807628, 770255983, 1249150122, 1555081692, 1996064986, 2554220882, 2821834349, 2952996808, 3210313671, 3336571891, 3584528711, 113926993, 338241895, 666307205, 773529912, 1294757372, 1396182291, 1695183700, 1986661051, 2177026350, 2456956037, 2730485921, 2820302411, 3259730800, 3345764771, 3516065817, 3600352804, 4094571909, 275423344, 430227734, 506948616, 659060556, 883997877, 958139571, 1322822218, 1537002063, 1747873779, 1955562222, 2024104815, 2227730452, 2361852424, 2428436474, 2756734187, 3204031479, 3329325298]
theorem roots_len : rootsL.length = 64 := by decide
theorem roots_small : Small rootsL := by unfold Small; decide +kernel
/-- The eight words of a round. -/
structure S8 where
  a : Nat
  b : Nat
  c : Nat
  d : Nat
  e : Nat
  f : Nat
  g : Nat
  h : Nat
def S8.ok (s : S8) : Prop := s.a < 4294967296 ∧ s.b < 4294967296 ∧ s.c < 4294967296 ∧ s.d < 4294967296 ∧ s.e < 4294967296 ∧ s.f < 4294967296 ∧ s.g < 4294967296 ∧ s.h < 4294967296
def bg1 (e : Nat) : Nat := ror e 6 ^^^ ror e 11 ^^^ ror e 25
def bg0 (a : Nat) : Nat := ror a 2 ^^^ ror a 13 ^^^ ror a 22
def cho (e f g : Nat) : Nat := (e &&& f) ^^^ ((4294967295 - e) &&& g)
def maj (a b c : Nat) : Nat := (a &&& b) ^^^ (a &&& c) ^^^ (b &&& c)
theorem bg1_lt (e : Nat) (h : e < 4294967296) : bg1 e < 4294967296 := xor_lt32 (xor_lt32 (ror_lt _ _ h) (ror_lt _ _ h)) (ror_lt _ _ h)
theorem bg0_lt (e : Nat) (h : e < 4294967296) : bg0 e < 4294967296 := xor_lt32 (xor_lt32 (ror_lt _ _ h) (ror_lt _ _ h)) (ror_lt _ _ h)
def t1of (s : S8) (k w : Nat) : Nat := (((s.h + bg1 s.e) % 4294967296 + cho s.e s.f s.g) % 4294967296 + k) % 4294967296
def tof (s : S8) (k w : Nat) : Nat := (t1of s k w + w) % 4294967296
def uof (s : S8) : Nat := (bg0 s.a + maj s.a s.b s.c) % 4294967296
/-- One round. -/
def rnd (s : S8) (k w : Nat) : S8 := ⟨(tof s k w + uof s) % 4294967296, s.a, s.b, s.c, (s.d + tof s k w) % 4294967296, s.e, s.f, s.g⟩
theorem rnd_ok {s : S8} (k w : Nat) (h : s.ok) : (rnd s k w).ok := ⟨Nat.mod_lt _ (by decide), h.1, h.2.1, h.2.2.1, Nat.mod_lt _ (by decide), h.2.2.2.2.1, h.2.2.2.2.2.1, h.2.2.2.2.2.2.1⟩
def rnds (s : S8) (l : List Nat) : Nat → S8
  | 0 => s
  | k + 1 => rnd (rnds s l k) (rootsL.getD k 0) (l.getD k 0)
theorem rnds_ok {s : S8} (l : List Nat) (h : s.ok) : ∀ k, (rnds s l k).ok
  | 0 => h
  | k + 1 => rnd_ok _ _ (rnds_ok l h k)
def S8.list (s : S8) : List Nat := [s.a, s.b, s.c, s.d, s.e, s.f, s.g, s.h]
def S8.plus (s t : S8) : S8 := ⟨(s.a + t.a) % 4294967296, (s.b + t.b) % 4294967296, (s.c + t.c) % 4294967296, (s.d + t.d) % 4294967296, (s.e + t.e) % 4294967296, (s.f + t.f) % 4294967296, (s.g + t.g) % 4294967296, (s.h + t.h) % 4294967296⟩
theorem plus_ok (s t : S8) : (s.plus t).ok := ⟨Nat.mod_lt _ (by decide), Nat.mod_lt _ (by decide), Nat.mod_lt _ (by decide), Nat.mod_lt _ (by decide), Nat.mod_lt _ (by decide), Nat.mod_lt _ (by decide), Nat.mod_lt _ (by decide), Nat.mod_lt _ (by decide)⟩
/-- The words behind one block. -/
def mixN (s : S8) (blk : List UInt8) : S8 := s.plus (rnds s (sched blk) 64)
end Go.Proofs.YtlnagnkiadlfpaaDoor
