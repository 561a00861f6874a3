/- Plain facts: what a code's bytes add up to. -/
import Derived.Test.YteoboonapcjadaaPure3
namespace Silo

/-- What bytes add up to, seven bits each, the low ones first. -/
def valB : List UInt8 → Nat
  | [] => 0
  | b :: l => b.toNat % 128 + 128 * valB l

theorem valB_snoc (l : List UInt8) (b : UInt8) : valB (l ++ [b]) = valB l + 128 ^ l.length * (b.toNat % 128) := by
  induction l with
  | nil => simp [valB]
  | cons a l ih =>
    simp only [List.cons_append, valB, ih, List.length_cons, Nat.pow_succ]
    rw [Nat.mul_add, Nat.mul_comm (128 ^ l.length) 128, Nat.mul_assoc]
    omega

theorem valB_leb (n : Nat) : valB (leb n) = n := by
  induction n using Nat.strongRecOn with
  | _ n ih =>
    by_cases h : n < 128
    · rw [leb_lo n h]; simp [valB]; omega
    · rw [leb_hi n h, valB, ih (n / 128) (by omega), UInt8.toNat_ofNat']
      omega

theorem leb_shape (n : Nat) : ∃ bs b, leb n = bs ++ [b] ∧ (∀ x ∈ bs, 128 ≤ x.toNat) ∧ b.toNat < 128 := by
  induction n using Nat.strongRecOn with
  | _ n ih =>
    by_cases h : n < 128
    · exact ⟨[], UInt8.ofNat n, leb_lo n h, by simp, by rw [UInt8.toNat_ofNat']; omega⟩
    · obtain ⟨bs, b, h1, h2, h3⟩ := ih (n / 128) (by omega)
      refine ⟨UInt8.ofNat (n % 128 + 128) :: bs, b, by rw [leb_hi n h, h1]; rfl, ?_, h3⟩
      intro x hx
      rcases List.mem_cons.1 hx with rfl | hx
      · rw [UInt8.toNat_ofNat']; omega
      · exact h2 x hx

theorem split_unique : ∀ (bs bs' : List UInt8) (b b' : UInt8) (r r' : List UInt8), bs ++ b :: r = bs' ++ b' :: r' → (∀ x ∈ bs, 128 ≤ x.toNat) → (∀ x ∈ bs', 128 ≤ x.toNat) → b.toNat < 128 → b'.toNat < 128 → bs = bs' ∧ b = b' ∧ r = r'
  | [], [], b, b', r, r', h, _, _, _, _ => by simp at h; exact ⟨rfl, h⟩
  | [], c :: bs', b, b', r, r', h, _, h2, h3, _ => by
    simp at h
    have := h2 c (by simp)
    rw [← h.1] at this
    omega
  | c :: bs, [], b, b', r, r', h, h1, _, _, h4 => by
    simp at h
    have := h1 c (by simp)
    rw [h.1] at this
    omega
  | c :: bs, d :: bs', b, b', r, r', h, h1, h2, h3, h4 => by
    simp at h
    obtain ⟨e1, e2, e3⟩ := split_unique bs bs' b b' r r' h.2 (fun x hx => h1 x (by simp [hx])) (fun x hx => h2 x (by simp [hx])) h3 h4
    exact ⟨by rw [h.1, e1], e2, e3⟩

/-- Behind bytes that go on, and one that ends: a code stands there just where these are the code of what they add up to. -/
theorem rd_end {l bs r : List UInt8} {b : UInt8} (hl : l = bs ++ b :: r) (h1 : ∀ x ∈ bs, 128 ≤ x.toNat) (h2 : b.toNat < 128) :
    rdCode l = if bs ++ [b] = leb (valB (bs ++ [b]) % M64) then some (valB (bs ++ [b]) % M64, r) else none := by
  split
  · rename_i h
    have e : l = leb (valB (bs ++ [b]) % M64) ++ r := by rw [← h, hl]; simp
    rw [e]
    exact rdCode_leb _ _ (Nat.mod_lt _ M64_pos)
  · rename_i h
    cases hc : rdCode l with
    | none => rfl
    | some x =>
      obtain ⟨n, r'⟩ := x
      obtain ⟨e1, e2⟩ := rdCode_some hc
      obtain ⟨bs', b', g1, g2, g3⟩ := leb_shape n
      rw [g1] at e1
      obtain ⟨rfl, rfl, rfl⟩ := split_unique bs bs' b b' r r' (by rw [← hl, e1]; simp) h1 g2 h2 g3
      exfalso
      apply h
      rw [← g1, valB_leb, Nat.mod_eq_of_lt e2]

/-- Where no byte ends it there is none. -/
theorem rd_long {l bs r : List UInt8} (hl : l = bs ++ r) (h1 : ∀ x ∈ bs, 128 ≤ x.toNat) (h2 : r = [] ∨ 10 ≤ bs.length) : rdCode l = none := by
  cases hc : rdCode l with
  | none => rfl
  | some x =>
    exfalso
    obtain ⟨n, r'⟩ := x
    obtain ⟨e1, e2⟩ := rdCode_some hc
    obtain ⟨bs', b', g1, g2, g3⟩ := leb_shape n
    have hlen := leb_len n e2
    have hb' : bs'.length < bs.length := by
      rcases h2 with rfl | h2
      · have := congrArg List.length (hl.symm.trans e1)
        rw [g1] at this
        simp at this
        omega
      · rw [g1] at hlen
        simp at hlen
        omega
    have e3 : l[bs'.length]? = some b' := by rw [e1, g1]; simp
    have e4 : l[bs'.length]? = some bs[bs'.length] := by rw [hl, List.getElem?_append_left hb']; simp [hb']
    rw [e3] at e4
    have h5 := h1 bs[bs'.length] (List.getElem_mem _)
    simp at e4
    rw [← e4] at h5
    omega

end Silo
