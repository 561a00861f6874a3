/- Plain definitions: codes of numbers, hashes, as lists of bytes. Nothing of the program is named. -/
namespace Silo

/-- 2^64, behind a name. -/
def M64 : Nat := 18446744073709551616

/-- The code of a number: seven bits a byte, the low ones first. -/
def leb (n : Nat) : List UInt8 :=
  if n < 128 then [UInt8.ofNat n] else UInt8.ofNat (n % 128 + 128) :: leb (n / 128)
  termination_by n

/-- One step of the hash. -/
def fnvStep (h : Nat) (b : UInt8) : Nat := ((h ^^^ b.toNat) * 1099511628211) % M64

def fnvFrom (h : Nat) (l : List UInt8) : Nat := l.foldl fnvStep h
def basis : Nat := 14695981039346656037
def fnv (l : List UInt8) : Nat := fnvFrom basis l

theorem M64_pos : 0 < M64 := by unfold M64; omega

theorem fnvStep_lt (h : Nat) (b : UInt8) : fnvStep h b < M64 := by
  unfold fnvStep; exact Nat.mod_lt _ M64_pos

theorem fnvFrom_lt (h : Nat) (l : List UInt8) (h1 : h < M64) : fnvFrom h l < M64 := by
  induction l generalizing h with
  | nil => exact h1
  | cons b l ih => exact ih _ (fnvStep_lt h b)

theorem fnv_lt (l : List UInt8) : fnv l < M64 := fnvFrom_lt _ _ (by unfold basis M64; omega)

theorem fnvFrom_snoc (h : Nat) (l : List UInt8) (b : UInt8) : fnvFrom h (l ++ [b]) = fnvStep (fnvFrom h l) b := by
  rw [fnvFrom, List.foldl_append, List.foldl_cons, List.foldl_nil, fnvFrom]

theorem fnv_snoc (l : List UInt8) (b : UInt8) : fnv (l ++ [b]) = fnvStep (fnv l) b := fnvFrom_snoc _ _ _

theorem leb_lo (n : Nat) (h : n < 128) : leb n = [UInt8.ofNat n] := by rw [leb, if_pos h]
theorem leb_hi (n : Nat) (h : ¬ n < 128) : leb n = UInt8.ofNat (n % 128 + 128) :: leb (n / 128) := by rw [leb, if_neg h]
theorem leb_pos (n : Nat) : 0 < (leb n).length := by
  by_cases h : n < 128
  · rw [leb_lo n h]; simp
  · rw [leb_hi n h]; simp

theorem leb_len_of (k : Nat) : ∀ n : Nat, n < 128 ^ (k + 1) → (leb n).length ≤ k + 1 := by
  induction k with
  | zero => intro n h; rw [leb_lo n (by simpa using h)]; simp
  | succ k ih =>
    intro n h
    by_cases h1 : n < 128
    · rw [leb_lo n h1]; simp
    · rw [leb_hi n h1]
      have := ih (n / 128) (by rw [Nat.pow_succ] at h; omega)
      simp; omega

theorem leb_len (n : Nat) (h : n < M64) : (leb n).length ≤ 10 := leb_len_of 9 n (by unfold M64 at h; omega)

end Silo

namespace Silo

/-- The number as which a signed one is coded. -/
def zig (t : Int) : Nat := if 0 ≤ t then (2 * t).toNat else (-2 * t - 1).toNat

/-- The signed number of a code. -/
def zag (n : Nat) : Int := if n % 2 = 0 then (n / 2 : Nat) else -((n / 2 : Nat) : Int) - 1

theorem zag_zig (t : Int) : zag (zig t) = t := by
  unfold zag zig
  split <;> split <;> omega

theorem zig_zag (n : Nat) : zig (zag n) = n := by
  unfold zag zig
  split <;> split <;> omega

theorem zig_lt (t : Int) (h0 : -9223372036854775808 ≤ t) (h1 : t ≤ 9223372036854775807) : zig t < M64 := by
  unfold zig M64
  split <;> omega

theorem zag_rng (n : Nat) (h : n < M64) : -9223372036854775808 ≤ zag n ∧ zag n ≤ 9223372036854775807 := by
  unfold M64 at h
  unfold zag
  split <;> omega

/-- The eight bytes of a number, the high one first. -/
def be8 (h : Nat) : List UInt8 :=
  [UInt8.ofNat (h / 72057594037927936), UInt8.ofNat (h / 281474976710656), UInt8.ofNat (h / 1099511627776), UInt8.ofNat (h / 4294967296),
   UInt8.ofNat (h / 16777216), UInt8.ofNat (h / 65536), UInt8.ofNat (h / 256), UInt8.ofNat h]

def sealed (l : List UInt8) : List UInt8 := l ++ be8 (fnv l)

end Silo
