/- PureF, PureJ, in one text. -/
import Derived.Test.YtbimkgmhfcgpmaaGreatDoorPureOne
import Derived.Lib.Atoi
import Derived.Lib.AtoiAll
import Derived.Lib.ItoaNum

/- Plain facts: decimal numerals, as Number of the reference reads them and as strconv reads and writes them; pieces of a text; a block's name. -/
namespace Silo
open Go.Lib

/-! ### Decimal numerals -/
theorem decFrom_append : ∀ (l r : List UInt8) (acc : Nat), decFrom acc (l ++ r) = match decFrom acc l with
    | some v => decFrom v r
    | none => none
  | [], r, acc => rfl
  | b :: l, r, acc => by
    simp only [List.cons_append, decFrom]
    cases digitVal b with
    | none => rfl
    | some d => exact decFrom_append l r _

theorem digitVal_of (d : Nat) (h : d < 10) : digitVal (UInt8.ofNat (48 + d)) = some d := by
  have e : (UInt8.ofNat (48 + d)).toNat = 48 + d := by
    rw [UInt8.toNat_ofNat']
    omega
  unfold digitVal
  rw [e, if_pos (by omega)]
  simp

theorem decFrom_dec (n : Nat) : decFrom 0 (decDigits n) = some n := by
  induction n using Nat.strongRecOn with
  | ind n ih =>
    rw [decDigits]
    split
    · rename_i h
      simp only [decFrom, digitVal_of n h]
      simp
    · rename_i h
      rw [decFrom_append, ih (n / 10) (by omega)]
      simp only [decFrom, digitVal_of (n % 10) (by omega)]
      congr 1
      omega

theorem dec_ne (n : Nat) : decDigits n ≠ [] := by
  rw [decDigits]
  split <;> simp

theorem dec_head (n : Nat) (h : n ≠ 0) : (decDigits n).head? ≠ some 48 := by
  induction n using Nat.strongRecOn with
  | ind n ih =>
    rw [decDigits]
    split
    · rename_i h'
      have e : (UInt8.ofNat (48 + n)).toNat = 48 + n := by
        rw [UInt8.toNat_ofNat']
        omega
      intro hh
      simp only [List.head?_cons, Option.some.injEq] at hh
      rw [hh] at e
      simp at e
      exact h e
    · rename_i h'
      rw [List.head?_append]
      have := ih (n / 10) (by omega) (by omega)
      cases hd : (decDigits (n / 10)).head? with
      | none =>
        have := dec_ne (n / 10)
        rw [List.head?_eq_none_iff] at hd
        exact absurd hd this
      | some b =>
        rw [hd] at this
        simpa using this

theorem dec_zero : decDigits 0 = [48] := by
  rw [decDigits, dif_pos (by decide)]
  rfl

/-- Number of the reference: the value of a numeral, in its one form. -/
def numOf (s : List UInt8) (most : Nat) : Option Nat :=
  if s = [] ∨ 9 < s.length ∨ (1 < s.length ∧ s.head? = some 48) then none
  else match decFrom 0 s with
    | some v => if most < v then none else some v
    | none => none

theorem decFrom_len : ∀ (l : List UInt8) (acc v : Nat), decFrom acc l = some v → acc * 10 ^ l.length ≤ v
  | [], acc, v, h => by
    simp only [decFrom, Option.some.injEq] at h
    simp [h]
  | b :: l, acc, v, h => by
    simp only [decFrom] at h
    cases hd : digitVal b with
    | none => rw [hd] at h; cases h
    | some d =>
      rw [hd] at h
      have := decFrom_len l _ v h
      rw [List.length_cons, Nat.pow_succ]
      have h2 : acc * (10 ^ l.length * 10) = acc * 10 * 10 ^ l.length := by rw [Nat.mul_comm (10 ^ l.length) 10, ← Nat.mul_assoc]
      rw [h2]
      exact Nat.le_trans (Nat.mul_le_mul_right _ (by omega)) this

/-- A row of digits with no nought ahead is the numeral of its value. -/
theorem dec_of_decFrom : ∀ (k : Nat) (s : List UInt8) (v : Nat), s.length = k → s ≠ [] → (1 < s.length → s.head? ≠ some 48) → decFrom 0 s = some v → s = decDigits v := by
  intro k
  induction k with
  | zero => intro s v h hne; exact absurd (List.length_eq_zero_iff.1 h) hne
  | succ k ih =>
    intro s v hk hne h0 hv
    obtain ⟨t, b, rfl⟩ : ∃ t b, s = t ++ [b] := ⟨s.dropLast, s.getLast hne, (List.dropLast_concat_getLast hne).symm⟩
    rw [decFrom_append] at hv
    cases ht : decFrom 0 t with
    | none => rw [ht] at hv; cases hv
    | some u =>
      rw [ht] at hv
      simp only [decFrom] at hv
      cases hd : digitVal b with
      | none => rw [hd] at hv; cases hv
      | some d =>
        rw [hd] at hv
        simp only [Option.some.injEq] at hv
        obtain ⟨h48, h57, rfl⟩ := digitVal_eq hd
        have hb : b = UInt8.ofNat (48 + (b.toNat - 48)) := by
          apply UInt8.toNat.inj
          rw [UInt8.toNat_ofNat']
          omega
        by_cases htn : t = []
        · subst htn
          simp only [decFrom, Option.some.injEq] at ht
          subst ht
          have hlt : v < 10 := by omega
          rw [decDigits, dif_pos hlt, List.nil_append, hb]
          congr 3
          omega
        · have ht0 : t.head? ≠ some 48 := by
            have := h0 (by simp; exact List.length_pos_iff.2 htn)
            rw [List.head?_append] at this
            cases hh : t.head? with
            | none => simp
            | some c => rw [hh] at this; simpa using this
          have hu : u ≠ 0 := by
            rintro rfl
            obtain ⟨c, r, rfl⟩ := List.exists_cons_of_ne_nil htn
            simp only [decFrom] at ht
            cases hc : digitVal c with
            | none => rw [hc] at ht; cases ht
            | some e =>
              rw [hc] at ht
              have h1 := decFrom_len r _ 0 ht
              obtain ⟨c48, c57, rfl⟩ := digitVal_eq hc
              have hz : c.toNat - 48 = 0 := by
                rcases Nat.eq_zero_or_pos (c.toNat - 48) with h | h
                · exact h
                · have : 1 ≤ (0 * 10 + (c.toNat - 48)) * 10 ^ r.length := Nat.mul_pos (by omega) (Nat.pow_pos (by decide))
                  omega
              apply ht0
              simp only [List.head?_cons, Option.some.injEq]
              apply UInt8.toNat.inj
              show c.toNat = 48
              omega
          have hi := ih t u (by simpa using hk) htn (fun _ => ht0) ht
          have hge : ¬ v < 10 := by omega
          rw [decDigits, dif_neg hge]
          have e1 : v / 10 = u := by omega
          have e2 : v % 10 = b.toNat - 48 := by omega
          rw [e1, e2, ← hi, ← hb]

theorem numOf_some {s : List UInt8} {most v : Nat} (h : numOf s most = some v) : s = decDigits v ∧ v ≤ most := by
  unfold numOf at h
  split at h
  · cases h
  · rename_i hc
    cases hd : decFrom 0 s with
    | none => rw [hd] at h; cases h
    | some u =>
      rw [hd] at h
      simp only at h
      split at h
      · cases h
      · cases h
        refine ⟨dec_of_decFrom s.length s _ rfl (fun e => hc (.inl e)) (fun h1 h2 => hc (.inr (.inr ⟨h1, h2⟩))) hd, by omega⟩

theorem nDigits_le9 (v : Nat) (h : v ≤ 999999999) : nDigits v ≤ 9 := by
  have aux : ∀ (k : Nat) (u : Nat), u < 10 ^ (k + 1) → nDigits u ≤ k + 1 := by
    intro k
    induction k with
    | zero => intro u hu; rw [nDigits_small (by simpa using hu)]; exact Nat.le_refl _
    | succ k ih =>
      intro u hu
      by_cases h10 : u < 10
      · rw [nDigits_small h10]; omega
      · rw [nDigits_big h10]
        have := ih (u / 10) (by rw [Nat.pow_succ] at hu; omega)
        omega
  exact aux 8 v (by omega)

theorem numOf_dec (v most : Nat) (h : v ≤ most) (hm : most ≤ 999999999) : numOf (decDigits v) most = some v := by
  unfold numOf
  rw [if_neg, decFrom_dec]
  · simp only
    rw [if_neg (by omega)]
  · rintro (h1 | h1 | ⟨h1, h2⟩)
    · exact dec_ne v h1
    · rw [decDigits_length] at h1
      have := nDigits_le9 v (by omega)
      omega
    · by_cases hv : v = 0
      · subst hv
        rw [dec_zero] at h1
        simp at h1
      · exact dec_head v hv h2

/-! ### Pieces of a text -/
def pcs (c : UInt8) : List UInt8 → List (List UInt8)
  | [] => [[]]
  | b :: r => if b = c then [] :: pcs c r else match pcs c r with
    | p :: ps => (b :: p) :: ps
    | [] => [[b]]

theorem pcs_ne (c : UInt8) (l : List UInt8) : pcs c l ≠ [] := by
  cases l with
  | nil => simp [pcs]
  | cons b r =>
    rw [pcs]
    split
    · simp
    · split <;> simp

theorem pcs_none (c : UInt8) : ∀ (l : List UInt8), c ∉ l → pcs c l = [l]
  | [], _ => rfl
  | b :: r, h => by
    rw [pcs, if_neg (fun e => h (by rw [e]; exact List.mem_cons_self)), pcs_none c r (fun hm => h (List.mem_cons_of_mem _ hm))]

theorem pcs_cut (c : UInt8) : ∀ (l r : List UInt8), c ∉ l → pcs c (l ++ c :: r) = l :: pcs c r
  | [], r, _ => by rw [List.nil_append, pcs, if_pos rfl]
  | b :: l, r, h => by
    rw [List.cons_append, pcs, if_neg (fun e => h (by rw [e]; exact List.mem_cons_self)), pcs_cut c l r (fun hm => h (List.mem_cons_of_mem _ hm))]

/-- The first place of a byte parts a text. -/
theorem cut_at (c : UInt8) : ∀ (l : List UInt8), c ∈ l → ∃ a r, l = a ++ c :: r ∧ c ∉ a
  | b :: r, h => by
    by_cases hb : b = c
    · exact ⟨[], r, by rw [hb, List.nil_append], by simp⟩
    · obtain ⟨a, r', h1, h2⟩ := cut_at c r (by
        rcases List.mem_cons.1 h with h | h
        · exact absurd h.symm hb
        · exact h)
      exact ⟨b :: a, r', by rw [h1, List.cons_append], by
        intro hm
        rcases List.mem_cons.1 hm with h | h
        · exact hb h.symm
        · exact h2 h⟩

/-! ### A block's name -/
def nameOf (lo hi : Nat) : List UInt8 := 98 :: (decDigits lo ++ 46 :: decDigits hi)

def rangeOf (s : List UInt8) : Option (Nat × Nat) :=
  match s with
  | 98 :: r => match pcs 46 r with
    | [a, b] => match numOf a 999999, numOf b 999999 with
      | some lo, some hi => if lo ≤ hi then some (lo, hi) else none
      | _, _ => none
    | _ => none
  | _ => none

end Silo

/- Plain facts: numerals as the library reads and writes them. -/
namespace Silo
open Go.Lib

theorem parseUint10_dec : ∀ (l : List UInt8) (acc v : Nat), decFrom acc l = some v → v < 18446744073709551616 → parseUint10 acc l = .ok v
  | [], acc, v, h, _ => by
    simp only [decFrom, Option.some.injEq] at h
    rw [parseUint10, h]
  | b :: l, acc, v, h, hv => by
    simp only [decFrom] at h
    cases hd : digitVal b with
    | none => rw [hd] at h; cases h
    | some d =>
      rw [hd] at h
      obtain ⟨h48, h57, rfl⟩ := digitVal_eq hd
      have hl := decFrom_len l _ v h
      have hp : 1 ≤ 10 ^ l.length := Nat.pow_pos (by decide)
      have hle : acc * 10 + (b.toNat - 48) ≤ v := Nat.le_trans (Nat.le_mul_of_pos_right _ hp) hl
      rw [parseUint10, if_pos ⟨h48, h57⟩, if_neg (by omega), if_neg (by omega)]
      exact parseUint10_dec l _ v h hv

theorem atoiAll_dec (v : Nat) (hv : v ≤ 999999999) : atoiAll (decDigits v) = .ok (v : Int) := by
  obtain ⟨c, r, hc⟩ := List.exists_cons_of_ne_nil (dec_ne v)
  have hd := decFrom_dec v
  rw [hc] at hd
  have hdig : 48 ≤ c.toNat ∧ c.toNat ≤ 57 := by
    simp only [decFrom] at hd
    cases hx : digitVal c with
    | none => rw [hx] at hd; cases hd
    | some d =>
      obtain ⟨h1, h2, _⟩ := digitVal_eq hx
      exact ⟨h1, h2⟩
  have hm : parseMag (c :: r) = .ok v := by
    unfold parseMag
    rw [if_neg (by simp)]
    exact parseUint10_dec _ _ _ hd (by omega)
  rw [hc]
  unfold atoiAll
  simp only
  rw [if_neg (by omega), hm]
  simp only
  rw [if_neg (by omega), if_neg (by omega), if_neg (by omega)]

/-- codes.Decimal, as the library's two functions have it. -/
def decimalP (s : List UInt8) (most : Nat) : Option Nat :=
  match atoiAll s with
  | .ok n => if itoa n = s ∧ 0 ≤ n ∧ n ≤ most then some n.toNat else none
  | _ => none

theorem decimalP_eq (s : List UInt8) (most : Nat) (hm : most ≤ 999999999) : decimalP s most = numOf s most := by
  cases hn : numOf s most with
  | some v =>
    obtain ⟨rfl, hv⟩ := numOf_some hn
    unfold decimalP
    rw [atoiAll_dec v (by omega)]
    simp only
    rw [if_pos]
    · simp
    · refine ⟨?_, by omega, by omega⟩
      unfold itoa
      rw [if_neg (by omega)]
      simp
  | none =>
    unfold decimalP
    cases ha : atoiAll s with
    | ok n =>
      simp only
      rw [if_neg]
      rintro ⟨h1, h2, h3⟩
      have e : s = decDigits n.toNat := by
        rw [← h1]
        unfold itoa
        rw [if_neg (by omega)]
      rw [e, numOf_dec n.toNat most (by omega) hm] at hn
      cases hn
    | «syntax» => rfl
    | range => rfl

end Silo
