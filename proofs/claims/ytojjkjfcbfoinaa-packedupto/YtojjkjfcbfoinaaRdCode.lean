/- The contract of the reader's Code. -/
import Derived.Test.YtojjkjfcbfoinaaReader
namespace Go.Proofs.Ytojjkjfcbfoinaa
open Go.RowKit

/-- A text of bytes. -/
def S (l : List UInt8) : ByteArray := ⟨l.toArray⟩

theorem S_toList (l : List UInt8) : (S l).data.toList = l := rfl
theorem S_size (l : List UInt8) : (S l).size = l.length := rfl
theorem S_of (s : ByteArray) : S s.data.toList = s := rfl

theorem S_drop (s : ByteArray) (k : Nat) : s.extract k s.size = S (s.data.toList.drop k) := by
  apply ByteArray.ext
  apply Array.toList_inj.1
  rw [S_toList]
  simp only [ByteArray.data_extract, Array.toList_extract, List.extract_eq_take_drop]
  exact List.take_of_length_le (by simp)

theorem eq_false_of_bool {k : Nat} {c : Int} (h : ((k : Int) == c) = false) : (k : Int) ≠ c := by simpa using h

theorem drop_cons (s : ByteArray) (k : Nat) (h : k < s.size) : s.data.toList.drop k = s[k] :: s.data.toList.drop (k + 1) := by
  rw [List.drop_eq_getElem_cons (by simpa using h)]; rfl

theorem and127 (b : UInt8) : bits BinOp.and IntKind.u8 (b.toNat : Int) 127 = ((b.toNat % 128 : Nat) : Int) := by
  have key : ∀ m : Fin 256, bits BinOp.and IntKind.u8 ((m.val : Nat) : Int) 127 = ((m.val % 128 : Nat) : Int) := by decide +kernel
  exact key ⟨b.toNat, b.toNat_lt⟩

theorem or_shift (N k : Nat) (b : UInt8) (hN : N < 128 ^ k) (hk : k ≤ 9) (h9 : ¬ (k = 9 ∧ 1 < b.toNat)) :
    bits BinOp.or IntKind.u64 (N : Int) (IntKind.u64.wrap (IntKind.u64.wrap (bits BinOp.and IntKind.u8 (b.toNat : Int) 127) * 2 ^ (7 * k))) = ((N + b.toNat % 128 * 128 ^ k : Nat) : Int) := by
  rw [and127]
  have hb := b.toNat_lt
  have hp : (2 : Int) ^ (7 * k) = ((128 ^ k : Nat) : Int) := by rw [Int.pow_mul]; simp
  have e1 : IntKind.u64.wrap ((b.toNat % 128 : Nat) : Int) = ((b.toNat % 128 : Nat) : Int) := by rw [IntKind.wrap_u64]; omega
  rw [e1, hp, ← Int.natCast_mul]
  have hlt : b.toNat % 128 * 128 ^ k < 18446744073709551616 ∧ N < 18446744073709551616 := by
    have hcase : k = 0 ∨ k = 1 ∨ k = 2 ∨ k = 3 ∨ k = 4 ∨ k = 5 ∨ k = 6 ∨ k = 7 ∨ k = 8 ∨ k = 9 := by omega
    clear e1 hp
    rcases hcase with rfl | rfl | rfl | rfl | rfl | rfl | rfl | rfl | rfl | rfl <;> simp only [Nat.reducePow] at hN ⊢ <;> omega
  have e2 : IntKind.u64.wrap ((b.toNat % 128 * 128 ^ k : Nat) : Int) = ((b.toNat % 128 * 128 ^ k : Nat) : Int) := by rw [IntKind.wrap_u64]; omega
  rw [e2, bits_or_u64_nat _ _ hlt.2 hlt.1]
  have e3 : 128 ^ k = 2 ^ (7 * k) := by rw [Nat.pow_mul]
  rw [e3, ← Nat.shiftLeft_eq, Nat.or_comm, ← Nat.shiftLeft_add_eq_or_of_lt (by rw [← e3]; exact hN), Nat.add_comm]

theorem lt_next (N k c : Nat) (hN : N < 128 ^ k) : N + c % 128 * 128 ^ k < 128 ^ (k + 1) := by
  rw [Nat.pow_succ]
  have h1 : c % 128 * 128 ^ k ≤ 127 * 128 ^ k := Nat.mul_le_mul_right _ (by omega)
  omega

set_option maxHeartbeats 400000 in
set_option maxRecDepth 100000 in
theorem RdCode_some (w : World) (rb : Nat) (s : ByteArray) (f : Bool) (h : Rdr w rb s f) (_hs : s.size ≤ maxLen) (n : Nat) (r : List UInt8) (hr : Silo.rdCode s.data.toList = some (n, r)) :
    Calls Try.prog 65 #[.pointer (some ⟨rb, 0, none⟩)] w fun e w' => e = .returned (.int .u64 n) ∧ Rdr w' rb (S r) f ∧ Fp (fun k => k = rb) w w' := by
  unfold maxLen at _hs
  have H : Hid (Rdr w rb s f) := h
  have HR : Hid (Silo.rdCode s.data.toList = some (n, r)) := hr
  have h0 := h.cell0
  have h1 := h.cell1
  have f0 := h.frozen 0
  have f1 := h.frozen 1
  clear h hr
  go_enter Try.func65, Try.ntmps65
  go_wp2
  go_loop [3, 11] (fun a i => ∃ k N : Nat, k ≤ s.size ∧ k ≤ 9 ∧ i = .int .i64 k ∧ a = .int .u64 N ∧ Hid (N < 128 ^ k ∧ Silo.rdAux (s.data.toList.drop k) k N = some (n, r))) (fun _ i => s.size - (intOf i).toNat)
  case atStart => exact ⟨0, 0, Nat.zero_le _, by omega, rfl, rfl, by simp, HR.out⟩
  case round =>
    obtain ⟨k, N, hk, hk9, rfl, rfl, HA⟩ := hrel
    by_cases hlt : k < s.size
    · have hd := drop_cons s k hlt
      have HA2 := HA.out.2
      rw [hd, Silo.rdAux] at HA2
      have hbl := s[k].toNat_lt
      by_cases c1 : k = 9 ∧ 1 < s[k].toNat
      · rw [if_pos c1] at HA2; cases HA2
      rw [if_neg c1] at HA2
      by_cases c2 : 128 ≤ s[k].toNat
      · rw [if_pos c2] at HA2
        have c3 : ((k : Int) == 9) = false := by simp; omega
        have HB : Hid _ := HA2
        clear HA2 hd
        go_wp2
        go_round
        case rel => exact ⟨k + 1, N + s[k].toNat % 128 * 128 ^ k, by omega, by have := eq_false_of_bool c3; omega, by go_num, by rw [or_shift N k s[k] HA.out.1 hk9 c1], lt_next N k _ HA.out.1, HB.out⟩
        case measure => simp [intOf]; omega
      · rw [if_neg c2] at HA2
        by_cases c4 : s[k].toNat = 0 ∧ 0 < k
        · rw [if_pos c4] at HA2; cases HA2
        rw [if_neg c4] at HA2
        simp only [Option.some.injEq, Prod.mk.injEq] at HA2
        have HB : Hid (N + s[k].toNat % 128 * 128 ^ k = n ∧ s.data.toList.drop (k + 1) = r) := HA2
        clear HA2 hd
        have hlast : Ending.returned (.int .u64 (bits BinOp.or IntKind.u64 (N : Int) (IntKind.u64.wrap (IntKind.u64.wrap (bits BinOp.and IntKind.u8 (s[k].toNat : Int) 127) * 2 ^ (7 * k))))) = .returned (.int .u64 n) := by
          rw [or_shift N k s[k] HA.out.1 hk9 c1, HB.out.1]
        have HL : Hid _ := hlast
        clear hlast
        by_cases c5 : s[k].toNat = 0
        · have d3 : ((k : Int) == 9) = false := by simp; omega
          have d5 : (((s[k].toNat : Nat) : Int) == 0) = true := by simp [c5]
          have d6 : ¬ 0 < k := fun h => c4 ⟨c5, h⟩
          clear c5
          go_wp2
          go_ret
          exact ⟨HL.out, by rw [← HB.out.2, ← S_drop]; exact H.out.set0 _, Fp.setCell _ _ _ rfl⟩
        · have d5 : (((s[k].toNat : Nat) : Int) == 0) = false := by simp; omega
          by_cases c3 : k = 9
          · have d3 : ((k : Int) == 9) = true := by simp; omega
            have d4 : s[k].toNat ≤ 1 := by omega
            clear c3 c5
            go_wp2
            go_ret
            exact ⟨HL.out, by rw [← HB.out.2, ← S_drop]; exact H.out.set0 _, Fp.setCell _ _ _ rfl⟩
          · have d3 : ((k : Int) == 9) = false := by simp; omega
            clear c3 c5
            go_wp2
            go_ret
            exact ⟨HL.out, by rw [← HB.out.2, ← S_drop]; exact H.out.set0 _, Fp.setCell _ _ _ rfl⟩
    · exfalso
      have := HA.out.2
      rw [List.drop_eq_nil_of_le (by simp; omega)] at this
      cases this

set_option maxHeartbeats 400000 in
set_option maxRecDepth 100000 in
theorem RdCode_none (w : World) (rb : Nat) (s : ByteArray) (f : Bool) (h : Rdr w rb s f) (_hs : s.size ≤ maxLen) (hr : Silo.rdCode s.data.toList = none) :
    Calls Try.prog 65 #[.pointer (some ⟨rb, 0, none⟩)] w fun e w' => e = .returned (.int .u64 0) ∧ Rdr w' rb ByteArray.empty true ∧ Fp (fun k => k = rb) w w' := by
  unfold maxLen at _hs
  have H : Hid (Rdr w rb s f) := h
  have HR : Hid (Silo.rdCode s.data.toList = none) := hr
  have h0 := h.cell0
  have h1 := h.cell1
  have f0 := h.frozen 0
  have f1 := h.frozen 1
  clear h hr
  go_enter Try.func65, Try.ntmps65
  go_wp2
  go_loop [3, 11] (fun a i => ∃ k N : Nat, k ≤ s.size ∧ k ≤ 9 ∧ i = .int .i64 k ∧ a = .int .u64 N ∧ Hid (N < 128 ^ k ∧ Silo.rdAux (s.data.toList.drop k) k N = none)) (fun _ i => s.size - (intOf i).toNat)
  case atStart => exact ⟨0, 0, Nat.zero_le _, by omega, rfl, rfl, by simp, HR.out⟩
  case round =>
    obtain ⟨k, N, hk, hk9, rfl, rfl, HA⟩ := hrel
    by_cases hlt : k < s.size
    · have hd := drop_cons s k hlt
      have HA2 := HA.out.2
      rw [hd, Silo.rdAux] at HA2
      have hbl := s[k].toNat_lt
      by_cases c1 : k = 9 ∧ 1 < s[k].toNat
      · have d3 : ((k : Int) == 9) = true := by simp; omega
        have d4 : 1 < s[k].toNat := c1.2
        clear c1 hd HA2
        go_wp2_with (go_at_call 66; refine (RdFail_any _ _ _ _ H.out).mono ?_; rintro e w' ⟨rfl, H2⟩; have H2' : Hid _ := H2; clear H2)
        go_ret
        exact ⟨rfl, H2'.out⟩
      rw [if_neg c1] at HA2
      by_cases c2 : 128 ≤ s[k].toNat
      · rw [if_pos c2] at HA2
        have c3 : ((k : Int) == 9) = false := by simp; omega
        have HB : Hid _ := HA2
        clear HA2 hd
        go_wp2
        go_round
        case rel => exact ⟨k + 1, N + s[k].toNat % 128 * 128 ^ k, by omega, by have := eq_false_of_bool c3; omega, by go_num, by rw [or_shift N k s[k] HA.out.1 hk9 c1], lt_next N k _ HA.out.1, HB.out⟩
        case measure => simp [intOf]; omega
      · rw [if_neg c2] at HA2
        by_cases c4 : s[k].toNat = 0 ∧ 0 < k
        · have d5 : (((s[k].toNat : Nat) : Int) == 0) = true := by simp; omega
          have d6 : 0 < k := c4.2
          by_cases c3 : k = 9
          · have d3 : ((k : Int) == 9) = true := by simp; omega
            have d4 : s[k].toNat ≤ 1 := by omega
            clear c3 c4 hd HA2
            go_wp2_with (go_at_call 66; refine (RdFail_any _ _ _ _ H.out).mono ?_; rintro e w' ⟨rfl, H2⟩; have H2' : Hid _ := H2; clear H2)
            go_ret
            exact ⟨rfl, H2'.out⟩
          · have d3 : ((k : Int) == 9) = false := by simp; omega
            clear c3 c4 hd HA2
            go_wp2_with (go_at_call 66; refine (RdFail_any _ _ _ _ H.out).mono ?_; rintro e w' ⟨rfl, H2⟩; have H2' : Hid _ := H2; clear H2)
            go_ret
            exact ⟨rfl, H2'.out⟩
        rw [if_neg c4] at HA2
        cases HA2
    · go_wp2_with (go_at_call 66; refine (RdFail_any _ _ _ _ H.out).mono ?_; rintro e w' ⟨rfl, H2⟩; have H2' : Hid _ := H2; clear H2)
      go_ret
      exact ⟨rfl, H2'.out⟩

end Go.Proofs.Ytojjkjfcbfoinaa
