/- Plain definitions: reading codes. -/
import Derived.Test.YtojjkjfcbfoinaaPure1
namespace Silo

/-- Reads a code: i bytes have come, n is what they said. -/
def rdAux : List UInt8 → Nat → Nat → Option (Nat × List UInt8)
  | [], _, _ => none
  | b :: r, i, n =>
    if i = 9 ∧ 1 < b.toNat then none
    else if 128 ≤ b.toNat then rdAux r (i + 1) (n + b.toNat % 128 * 128 ^ i)
    else if b.toNat = 0 ∧ 0 < i then none
    else some (n + b.toNat % 128 * 128 ^ i, r)

def rdCode (l : List UInt8) : Option (Nat × List UInt8) := rdAux l 0 0

theorem ofNat_toNat_lt {n : Nat} (h : n < 256) : (UInt8.ofNat n).toNat = n := by rw [UInt8.toNat_ofNat', Nat.mod_eq_of_lt (by simpa using h)]

theorem rdAux_leb (n : Nat) : ∀ (i acc : Nat) (r : List UInt8), (0 < i → 0 < n) → n * 128 ^ i < M64 → i ≤ 9 → rdAux (leb n ++ r) i acc = some (acc + n * 128 ^ i, r) := by
  induction n using Nat.strongRecOn with
  | _ n ih =>
    intro i acc r hi hlt h9
    by_cases h : n < 128
    · rw [leb_lo n h]
      show rdAux (UInt8.ofNat n :: r) i acc = _
      rw [rdAux, ofNat_toNat_lt (by omega)]
      have h1 : ¬ (i = 9 ∧ 1 < n) := by
        rintro ⟨rfl, h1⟩
        unfold M64 at hlt
        omega
      rw [if_neg h1, if_neg (by omega), if_neg (by rintro ⟨a, b⟩; have := hi b; omega), Nat.mod_eq_of_lt h]
    · rw [leb_hi n h]
      show rdAux (UInt8.ofNat (n % 128 + 128) :: (leb (n / 128) ++ r)) i acc = _
      rw [rdAux, ofNat_toNat_lt (by omega)]
      have hlt9 : i < 9 := by
        rcases Nat.lt_or_ge i 9 with h9' | h9'
        · exact h9'
        · have : i = 9 := by omega
          subst this
          unfold M64 at hlt
          omega
      have hdm : n / 128 * 128 ^ (i + 1) + n % 128 * 128 ^ i = n * 128 ^ i := by
        rw [Nat.pow_succ, Nat.mul_comm (128 ^ i) 128, ← Nat.mul_assoc, ← Nat.add_mul]
        congr 1
        omega
      rw [if_neg (by omega), if_pos (by omega), ih (n / 128) (by omega) (i + 1) _ r (fun _ => by omega) (by omega) (by omega)]
      have : (n % 128 + 128) % 128 = n % 128 := by omega
      rw [this]
      simp only [Option.some.injEq, Prod.mk.injEq, and_true]
      omega

theorem rdCode_leb (n : Nat) (r : List UInt8) (h : n < M64) : rdCode (leb n ++ r) = some (n, r) := by
  rw [rdCode, rdAux_leb n 0 0 r (by omega) (by simpa using h) (by omega)]
  simp

theorem top_bound (i m c : Nat) (hi : i ≤ 8) (hm : m * 128 ^ (i + 1) < M64) (hc : c < 128 ^ (i + 1)) : c + m * 128 ^ (i + 1) < M64 := by
  unfold M64 at hm ⊢
  have hcase : i = 0 ∨ i = 1 ∨ i = 2 ∨ i = 3 ∨ i = 4 ∨ i = 5 ∨ i = 6 ∨ i = 7 ∨ i = 8 := by omega
  rcases hcase with rfl | rfl | rfl | rfl | rfl | rfl | rfl | rfl | rfl <;> simp only [Nat.reduceAdd, Nat.reducePow] at hm hc ⊢ <;> omega

/-- What was read is a number's own code. -/
theorem rdAux_some : ∀ (l : List UInt8) (i acc n : Nat) (r : List UInt8), i ≤ 9 → rdAux l i acc = some (n, r) → ∃ m, l = leb m ++ r ∧ n = acc + m * 128 ^ i ∧ m * 128 ^ i < M64 ∧ (0 < i → 0 < m) := by
  intro l
  induction l with
  | nil => intro i acc n r _ h; simp [rdAux] at h
  | cons b l ih =>
    intro i acc n r hi h
    have hb := b.toNat_lt
    rw [rdAux] at h
    by_cases h1 : i = 9 ∧ 1 < b.toNat
    · rw [if_pos h1] at h; cases h
    · rw [if_neg h1] at h
      by_cases h2 : 128 ≤ b.toNat
      · rw [if_pos h2] at h
        have hi9 : i + 1 ≤ 9 := by omega
        obtain ⟨m, hl, hn, hm, hp⟩ := ih (i + 1) _ n r hi9 h
        have hm0 := hp (by omega)
        refine ⟨b.toNat % 128 + 128 * m, ?_, ?_, ?_, fun _ => by omega⟩
        · rw [leb_hi _ (by omega)]
          have e1 : (b.toNat % 128 + 128 * m) % 128 + 128 = b.toNat := by omega
          have e2 : (b.toNat % 128 + 128 * m) / 128 = m := by omega
          rw [e1, e2, hl, UInt8.ofNat_toNat]
          rfl
        · rw [hn, Nat.pow_succ, Nat.add_mul]
          have : m * (128 ^ i * 128) = 128 * m * 128 ^ i := by rw [Nat.mul_comm (128 ^ i) 128, ← Nat.mul_assoc, Nat.mul_comm m 128]
          omega
        · rw [Nat.add_mul]
          have e : 128 * m * 128 ^ i = m * 128 ^ (i + 1) := by rw [Nat.pow_succ, Nat.mul_comm (128 ^ i) 128, ← Nat.mul_assoc, Nat.mul_comm m 128]
          rw [e]
          have hk : b.toNat % 128 * 128 ^ i < 128 ^ (i + 1) := by
            rw [Nat.pow_succ, Nat.mul_comm (128 ^ i) 128]
            exact Nat.mul_lt_mul_of_pos_right (by omega) (Nat.pow_pos (by omega))
          exact top_bound i m _ (by omega) hm hk
      · rw [if_neg h2] at h
        by_cases h3 : b.toNat = 0 ∧ 0 < i
        · rw [if_pos h3] at h; cases h
        · rw [if_neg h3] at h
          simp only [Option.some.injEq, Prod.mk.injEq] at h
          obtain ⟨hn, hr⟩ := h
          have e : b.toNat % 128 = b.toNat := by omega
          rw [e] at hn
          refine ⟨b.toNat, ?_, hn.symm, ?_, fun h => by omega⟩
          · rw [leb_lo _ (by omega), UInt8.ofNat_toNat, ← hr]; rfl
          · have hcase : i = 0 ∨ i = 1 ∨ i = 2 ∨ i = 3 ∨ i = 4 ∨ i = 5 ∨ i = 6 ∨ i = 7 ∨ i = 8 ∨ i = 9 := by omega
            unfold M64
            rcases hcase with rfl | rfl | rfl | rfl | rfl | rfl | rfl | rfl | rfl | rfl <;> simp only [Nat.reducePow] <;> omega

theorem rdCode_some {l : List UInt8} {n : Nat} {r : List UInt8} (h : rdCode l = some (n, r)) : l = leb n ++ r ∧ n < M64 := by
  obtain ⟨m, hl, hn, hm, _⟩ := rdAux_some l 0 0 n r (by omega) h
  simp at hn hm
  subst hn
  exact ⟨hl, hm⟩

end Silo
