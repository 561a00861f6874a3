/- Hash, Leaf, Reader, RdCode, HashBytes, RdState, in one text. -/
import Derived.Test.YtbimkgmhfcgpmaaGreatDoorFoot
import Derived.Test.YtbimkgmhfcgpmaaGreatDoorPureOne

/- The hash's contract. -/
namespace Go.Proofs.YtbimkgmhfcgpmaaGreatDoor
open Go.RowKit

theorem fnv_step (n : Nat) (b : UInt8) (hn : n < Silo.M64) :
    IntKind.u64.wrap (bits BinOp.xor IntKind.u64 (n : Int) (IntKind.u64.wrap (b.toNat : Int)) * 1099511628211) = (Silo.fnvStep n b : Int) := by
  have hb : b.toNat < 256 := b.toNat_lt
  have e : IntKind.u64.wrap (b.toNat : Int) = (b.toNat : Int) := by rw [IntKind.wrap_u64]; omega
  unfold Silo.M64 at hn
  rw [e, bits_xor_u64_nat _ _ hn (by omega), IntKind.wrap_u64]
  unfold Silo.fnvStep Silo.M64
  omega

set_option maxHeartbeats 400000 in
theorem Hash_any (s : ByteArray) (w : World) (hs : s.size ≤ maxLen) :
    Calls Tryz.prog 51 #[.string s] w fun e w' => e = .returned (.int .u64 (Silo.fnv s.data.toList : Nat)) ∧ w' = w := by
  unfold maxLen at hs
  go_enter Tryz.func51, Tryz.ntmps51
  go_wp2
  go_loop [3, 7] (fun h i => ∃ k : Nat, k ≤ s.size ∧ i = .int .i64 k ∧ h = .int .u64 (Silo.fnv (s.data.toList.take k) : Nat)) (fun _ i => s.size - (intOf i).toNat)
  case atStart => exact ⟨0, Nat.zero_le _, rfl, rfl⟩
  case round =>
    obtain ⟨k, hk, rfl, rfl⟩ := hrel
    by_cases hlt : k < s.size
    · have HX : Hid (Silo.fnv (s.data.toList.take (k + 1)) = Silo.fnvStep (Silo.fnv (s.data.toList.take k)) s[k]) := by
        rw [take_snoc s k hlt, Silo.fnv_snoc]; exact rfl
      have hr : Hid (Silo.fnv (s.data.toList.take k) < Silo.M64) := Silo.fnv_lt _
      generalize Silo.fnv (s.data.toList.take k) = x at *
      go_wp2
      go_round
      case rel => exact ⟨k + 1, by omega, by go_num, by rw [HX.out, fnv_step _ _ hr.out]⟩
      case measure => simp [intOf]; omega
    · go_wp2
      go_ret
      exact ⟨ret_int (by rw [List.take_of_length_le (by simp; omega)]), rfl⟩

end Go.Proofs.YtbimkgmhfcgpmaaGreatDoor

/- The plain leaf functions' contracts: what each returns; the world is as it was. -/
namespace Go.Proofs.YtbimkgmhfcgpmaaGreatDoor
open Go.RowKit

set_option maxHeartbeats 400000 in
theorem RangeFits_any (a b : Int) (w : World) :
    Calls Tryz.prog 70 #[.agg #[.int .i64 a, .int .i64 b]] w fun e w' => e = .returned (.bool (decide (0 ≤ a ∧ a ≤ b ∧ b ≤ 999999))) ∧ Fp (fun _ => False) w w' := by
  have hd : decide (0 ≤ a ∧ a ≤ b ∧ b ≤ 999999) = (decide (0 ≤ a) && (decide (a ≤ b) && decide (b ≤ 999999))) := by simp
  rw [hd]
  clear hd
  cases h1 : decide (0 ≤ a) <;> cases h2 : decide (a ≤ b) <;> cases h3 : decide (b ≤ 999999)
  all_goals
    go_enter Tryz.func70, Tryz.ntmps70
    go_wp2
    go_ret
    exact ⟨by simp, Fp.alloc _ _ _⟩

set_option maxHeartbeats 400000 in
theorem ToSigned_any (n : Nat) (w : World) (hn : n < Silo.M64) :
    Calls Tryz.prog 124 #[.int .u64 n] w fun e w' => e = .returned (.int .i64 (Silo.zag n)) ∧ w' = w := by
  unfold Silo.M64 at hn
  by_cases h : n % 2 = 0
  · go_enter Tryz.func124, Tryz.ntmps124
    go_wp2
    go_ret
    exact ⟨ret_int (by unfold Silo.zag; rw [if_pos h]; simp), rfl⟩
  · go_enter Tryz.func124, Tryz.ntmps124
    go_wp2
    go_ret
    exact ⟨ret_int (by unfold Silo.zag; rw [if_neg h]; simp), rfl⟩

end Go.Proofs.YtbimkgmhfcgpmaaGreatDoor

/- The reader's contracts. -/
namespace Go.Proofs.YtbimkgmhfcgpmaaGreatDoor
open Go.RowKit

/-- A reader lies in block rb: s is not yet read; f: something was wrong. -/
def Rdr (w : World) (rb : Nat) (s : ByteArray) (f : Bool) : Prop := w.heap[rb]? = some (.cells #[.string s, .bool f] 122 (0, 0))

theorem Rdr.lt {w : World} {rb : Nat} {s : ByteArray} {f : Bool} (h : Rdr w rb s f) : rb < w.heap.size := (Array.getElem?_eq_some_iff.1 h).1

theorem Rdr.cell0 {w : World} {rb : Nat} {s : ByteArray} {f : Bool} (h : Rdr w rb s f) : w.cell? ⟨rb, 0, none⟩ = some (.string s) := by
  unfold Rdr at h; simp [World.cell?, h]

theorem Rdr.cell1 {w : World} {rb : Nat} {s : ByteArray} {f : Bool} (h : Rdr w rb s f) : w.cell? ⟨rb, 1, none⟩ = some (.bool f) := by
  unfold Rdr at h; simp [World.cell?, h]

theorem Rdr.frozen {w : World} {rb : Nat} {s : ByteArray} {f : Bool} (h : Rdr w rb s f) (i : Nat) : w.frozen? ⟨rb, i, none⟩ = false := by
  unfold Rdr at h; simp [World.frozen?, h]

theorem Rdr.fp {w w' : World} {S : Nat → Prop} {rb : Nat} {s : ByteArray} {f : Bool} (h : Rdr w rb s f) (hf : Fp S w w') (hs : ¬ S rb) : Rdr w' rb s f := by
  unfold Rdr; rw [hf.block rb h.lt hs]; exact h

theorem Rdr.set0 {w : World} {rb : Nat} {s : ByteArray} {f : Bool} (h : Rdr w rb s f) (s' : ByteArray) : Rdr (w.setCell ⟨rb, 0, none⟩ (.string s')) rb s' f := by
  exact heap_set h _

theorem Rdr.set1 {w : World} {rb : Nat} {s : ByteArray} {f : Bool} (h : Rdr w rb s f) (f' : Bool) : Rdr (w.setCell ⟨rb, 1, none⟩ (.bool f')) rb s f' := by
  exact heap_set h _

set_option maxHeartbeats 400000 in
theorem RdFail_any (w : World) (rb : Nat) (s : ByteArray) (f : Bool) (h : Rdr w rb s f) :
    Calls Tryz.prog 60 #[.pointer (some ⟨rb, 0, none⟩)] w fun e w' => e = .returned (.tuple #[]) ∧ Rdr w' rb ByteArray.empty true ∧ Fp (fun k => k = rb) w w' := by
  have H : Hid (Rdr w rb s f) := h
  have h0 := h.cell0
  have h1 := h.cell1
  have f0 := h.frozen 0
  have f1 := h.frozen 1
  clear h
  go_enter Tryz.func60, Tryz.ntmps60
  go_wp2
  go_end0
  exact ⟨rfl, (H.out.set0 _).set1 _, Fp.trans' (S := fun k => k = rb) (Fp.setCell _ _ _ rfl) (Fp.setCell _ _ _ rfl)⟩

set_option maxHeartbeats 400000 in
theorem RdLeft_any (w : World) (rb : Nat) (s : ByteArray) (f : Bool) (h : Rdr w rb s f) :
    Calls Tryz.prog 46 #[.pointer (some ⟨rb, 0, none⟩)] w fun e w' => e = .returned (.int .i64 s.size) ∧ w' = w := by
  have h0 := h.cell0
  clear h
  go_enter Tryz.func46, Tryz.ntmps46
  go_wp2
  go_ret
  exact ⟨ret_val (by simp), rfl⟩

set_option maxHeartbeats 400000 in
theorem RdFailed_any (w : World) (rb : Nat) (s : ByteArray) (f : Bool) (h : Rdr w rb s f) :
    Calls Tryz.prog 101 #[.pointer (some ⟨rb, 0, none⟩)] w fun e w' => e = .returned (.bool f) ∧ w' = w := by
  have h1 := h.cell1
  clear h
  go_enter Tryz.func101, Tryz.ntmps101
  go_wp2
  go_ret
  exact ⟨ret_val (by simp), rfl⟩

set_option maxHeartbeats 400000 in
theorem RdDone_any (w : World) (rb : Nat) (s : ByteArray) (f : Bool) (h : Rdr w rb s f) :
    Calls Tryz.prog 47 #[.pointer (some ⟨rb, 0, none⟩)] w fun e w' => e = .returned (.bool (!f && s.toList.isEmpty)) ∧ w' = w := by
  have h0 := h.cell0
  have h1 := h.cell1
  clear h
  cases f
  · go_enter Tryz.func47, Tryz.ntmps47
    go_wp2
    go_ret
    exact ⟨ret_val (by simp), rfl⟩
  · go_enter Tryz.func47, Tryz.ntmps47
    go_wp2
    go_ret
    exact ⟨ret_val (by simp), rfl⟩

set_option maxHeartbeats 400000 in
theorem NewReader_any (w : World) (s : ByteArray) :
    Calls Tryz.prog 43 #[.string s] w fun e w' => e = .returned (.pointer (some ⟨w.heap.size, 0, none⟩)) ∧ Rdr w' w.heap.size s false ∧ Fp (fun _ => False) w w' := by
  go_enter Tryz.func43, Tryz.ntmps43
  go_wp2
  go_ret
  exact ⟨ret_val (by simp), heap_new _ _, Fp.alloc _ _ _⟩

end Go.Proofs.YtbimkgmhfcgpmaaGreatDoor

/- The contract of the reader's Code. -/
namespace Go.Proofs.YtbimkgmhfcgpmaaGreatDoor
open Go.RowKit

/-- A text of bytes. -/
def S (l : List UInt8) : ByteArray := ⟨l.toArray⟩

theorem S_toList (l : List UInt8) : (S l).data.toList = l := rfl

theorem S_size (l : List UInt8) : (S l).size = l.length := rfl

theorem S_drop (s : ByteArray) (k : Nat) : s.extract k s.size = S (s.data.toList.drop k) := by
  apply ByteArray.ext
  apply Array.toList_inj.1
  rw [S_toList]
  simp only [ByteArray.data_extract, Array.toList_extract, List.extract_eq_take_drop]
  exact List.take_of_length_le (by simp)

theorem eq_false_of_bool {k : Nat} {c : Int} (h : ((k : Int) == c) = false) : (k : Int) ≠ c := by simpa using h

theorem drop_cons (s : ByteArray) (k : Nat) (h : k < s.size) : s.data.toList.drop k = s[k] :: s.data.toList.drop (k + 1) := by
  rw [List.drop_eq_getElem_cons (by simpa using h)]; rfl

theorem and127 (b : UInt8) : bits BinOp.and IntKind.u8 (b.toNat : Int) 127 = ((b.toNat % 128 : Nat) : Int) := by
  have key : ∀ m : Fin 256, bits BinOp.and IntKind.u8 ((m.val : Nat) : Int) 127 = ((m.val % 128 : Nat) : Int) := by decide +kernel
  exact key ⟨b.toNat, b.toNat_lt⟩

theorem or_shift (N k : Nat) (b : UInt8) (hN : N < 128 ^ k) (hk : k ≤ 9) (h9 : ¬ (k = 9 ∧ 1 < b.toNat)) :
    bits BinOp.or IntKind.u64 (N : Int) (IntKind.u64.wrap (IntKind.u64.wrap (bits BinOp.and IntKind.u8 (b.toNat : Int) 127) * 2 ^ (7 * k))) = ((N + b.toNat % 128 * 128 ^ k : Nat) : Int) := by
  rw [and127]
  have hb := b.toNat_lt
  have hp : (2 : Int) ^ (7 * k) = ((128 ^ k : Nat) : Int) := by rw [Int.pow_mul]; simp
  have e1 : IntKind.u64.wrap ((b.toNat % 128 : Nat) : Int) = ((b.toNat % 128 : Nat) : Int) := by rw [IntKind.wrap_u64]; omega
  rw [e1, hp, ← Int.natCast_mul]
  have hlt : b.toNat % 128 * 128 ^ k < 18446744073709551616 ∧ N < 18446744073709551616 := by
    have hcase : k = 0 ∨ k = 1 ∨ k = 2 ∨ k = 3 ∨ k = 4 ∨ k = 5 ∨ k = 6 ∨ k = 7 ∨ k = 8 ∨ k = 9 := by omega
    clear e1 hp
    rcases hcase with rfl | rfl | rfl | rfl | rfl | rfl | rfl | rfl | rfl | rfl <;> simp only [Nat.reducePow] at hN ⊢ <;> omega
  have e2 : IntKind.u64.wrap ((b.toNat % 128 * 128 ^ k : Nat) : Int) = ((b.toNat % 128 * 128 ^ k : Nat) : Int) := by rw [IntKind.wrap_u64]; omega
  rw [e2, bits_or_u64_nat _ _ hlt.2 hlt.1]
  have e3 : 128 ^ k = 2 ^ (7 * k) := by rw [Nat.pow_mul]
  rw [e3, ← Nat.shiftLeft_eq, Nat.or_comm, ← Nat.shiftLeft_add_eq_or_of_lt (by rw [← e3]; exact hN), Nat.add_comm]

theorem lt_next (N k c : Nat) (hN : N < 128 ^ k) : N + c % 128 * 128 ^ k < 128 ^ (k + 1) := by
  rw [Nat.pow_succ]
  have h1 : c % 128 * 128 ^ k ≤ 127 * 128 ^ k := Nat.mul_le_mul_right _ (by omega)
  omega

set_option maxHeartbeats 400000 in
set_option maxRecDepth 100000 in
theorem RdCode_some (w : World) (rb : Nat) (s : ByteArray) (f : Bool) (h : Rdr w rb s f) (_hs : s.size ≤ maxLen) (n : Nat) (r : List UInt8) (hr : Silo.rdCode s.data.toList = some (n, r)) :
    Calls Tryz.prog 61 #[.pointer (some ⟨rb, 0, none⟩)] w fun e w' => e = .returned (.int .u64 n) ∧ Rdr w' rb (S r) f ∧ Fp (fun k => k = rb) w w' := by
  unfold maxLen at _hs
  have H : Hid (Rdr w rb s f) := h
  have HR : Hid (Silo.rdCode s.data.toList = some (n, r)) := hr
  have h0 := h.cell0
  have h1 := h.cell1
  have f0 := h.frozen 0
  have f1 := h.frozen 1
  clear h hr
  go_enter Tryz.func61, Tryz.ntmps61
  go_wp2
  go_loop [3, 11] (fun a i => ∃ k N : Nat, k ≤ s.size ∧ k ≤ 9 ∧ i = .int .i64 k ∧ a = .int .u64 N ∧ Hid (N < 128 ^ k ∧ Silo.rdAux (s.data.toList.drop k) k N = some (n, r))) (fun _ i => s.size - (intOf i).toNat)
  case atStart => exact ⟨0, 0, Nat.zero_le _, by omega, rfl, rfl, by simp, HR.out⟩
  case round =>
    obtain ⟨k, N, hk, hk9, rfl, rfl, HA⟩ := hrel
    by_cases hlt : k < s.size
    · have hd := drop_cons s k hlt
      have HA2 := HA.out.2
      rw [hd, Silo.rdAux] at HA2
      have hbl := s[k].toNat_lt
      by_cases c1 : k = 9 ∧ 1 < s[k].toNat
      · rw [if_pos c1] at HA2; cases HA2
      rw [if_neg c1] at HA2
      by_cases c2 : 128 ≤ s[k].toNat
      · rw [if_pos c2] at HA2
        have c3 : ((k : Int) == 9) = false := by simp; omega
        have HB : Hid _ := HA2
        clear HA2 hd
        go_wp2
        go_round
        case rel => exact ⟨k + 1, N + s[k].toNat % 128 * 128 ^ k, by omega, by have := eq_false_of_bool c3; omega, by go_num, by rw [or_shift N k s[k] HA.out.1 hk9 c1], lt_next N k _ HA.out.1, HB.out⟩
        case measure => simp [intOf]; omega
      · rw [if_neg c2] at HA2
        by_cases c4 : s[k].toNat = 0 ∧ 0 < k
        · rw [if_pos c4] at HA2; cases HA2
        rw [if_neg c4] at HA2
        simp only [Option.some.injEq, Prod.mk.injEq] at HA2
        have HB : Hid (N + s[k].toNat % 128 * 128 ^ k = n ∧ s.data.toList.drop (k + 1) = r) := HA2
        clear HA2 hd
        have hlast : Ending.returned (.int .u64 (bits BinOp.or IntKind.u64 (N : Int) (IntKind.u64.wrap (IntKind.u64.wrap (bits BinOp.and IntKind.u8 (s[k].toNat : Int) 127) * 2 ^ (7 * k))))) = .returned (.int .u64 n) := by
          rw [or_shift N k s[k] HA.out.1 hk9 c1, HB.out.1]
        have HL : Hid _ := hlast
        clear hlast
        by_cases c5 : s[k].toNat = 0
        · have d3 : ((k : Int) == 9) = false := by simp; omega
          have d5 : (((s[k].toNat : Nat) : Int) == 0) = true := by simp [c5]
          have d6 : ¬ 0 < k := fun h => c4 ⟨c5, h⟩
          clear c5
          go_wp2
          go_ret
          exact ⟨HL.out, by rw [← HB.out.2, ← S_drop]; exact H.out.set0 _, Fp.setCell _ _ _ rfl⟩
        · have d5 : (((s[k].toNat : Nat) : Int) == 0) = false := by simp; omega
          by_cases c3 : k = 9
          · have d3 : ((k : Int) == 9) = true := by simp; omega
            have d4 : s[k].toNat ≤ 1 := by omega
            clear c3 c5
            go_wp2
            go_ret
            exact ⟨HL.out, by rw [← HB.out.2, ← S_drop]; exact H.out.set0 _, Fp.setCell _ _ _ rfl⟩
          · have d3 : ((k : Int) == 9) = false := by simp; omega
            clear c3 c5
            go_wp2
            go_ret
            exact ⟨HL.out, by rw [← HB.out.2, ← S_drop]; exact H.out.set0 _, Fp.setCell _ _ _ rfl⟩
    · exfalso
      have := HA.out.2
      rw [List.drop_eq_nil_of_le (by simp; omega)] at this
      cases this

set_option maxHeartbeats 400000 in
set_option maxRecDepth 100000 in
theorem RdCode_none (w : World) (rb : Nat) (s : ByteArray) (f : Bool) (h : Rdr w rb s f) (_hs : s.size ≤ maxLen) (hr : Silo.rdCode s.data.toList = none) :
    Calls Tryz.prog 61 #[.pointer (some ⟨rb, 0, none⟩)] w fun e w' => e = .returned (.int .u64 0) ∧ Rdr w' rb ByteArray.empty true ∧ Fp (fun k => k = rb) w w' := by
  unfold maxLen at _hs
  have H : Hid (Rdr w rb s f) := h
  have HR : Hid (Silo.rdCode s.data.toList = none) := hr
  have h0 := h.cell0
  have h1 := h.cell1
  have f0 := h.frozen 0
  have f1 := h.frozen 1
  clear h hr
  go_enter Tryz.func61, Tryz.ntmps61
  go_wp2
  go_loop [3, 11] (fun a i => ∃ k N : Nat, k ≤ s.size ∧ k ≤ 9 ∧ i = .int .i64 k ∧ a = .int .u64 N ∧ Hid (N < 128 ^ k ∧ Silo.rdAux (s.data.toList.drop k) k N = none)) (fun _ i => s.size - (intOf i).toNat)
  case atStart => exact ⟨0, 0, Nat.zero_le _, by omega, rfl, rfl, by simp, HR.out⟩
  case round =>
    obtain ⟨k, N, hk, hk9, rfl, rfl, HA⟩ := hrel
    by_cases hlt : k < s.size
    · have hd := drop_cons s k hlt
      have HA2 := HA.out.2
      rw [hd, Silo.rdAux] at HA2
      have hbl := s[k].toNat_lt
      by_cases c1 : k = 9 ∧ 1 < s[k].toNat
      · have d3 : ((k : Int) == 9) = true := by simp; omega
        have d4 : 1 < s[k].toNat := c1.2
        clear c1 hd HA2
        go_wp2_with (go_at_call 60; refine (RdFail_any _ _ _ _ H.out).mono ?_; rintro e w' ⟨rfl, H2⟩; have H2' : Hid _ := H2; clear H2)
        go_ret
        exact ⟨rfl, H2'.out⟩
      rw [if_neg c1] at HA2
      by_cases c2 : 128 ≤ s[k].toNat
      · rw [if_pos c2] at HA2
        have c3 : ((k : Int) == 9) = false := by simp; omega
        have HB : Hid _ := HA2
        clear HA2 hd
        go_wp2
        go_round
        case rel => exact ⟨k + 1, N + s[k].toNat % 128 * 128 ^ k, by omega, by have := eq_false_of_bool c3; omega, by go_num, by rw [or_shift N k s[k] HA.out.1 hk9 c1], lt_next N k _ HA.out.1, HB.out⟩
        case measure => simp [intOf]; omega
      · rw [if_neg c2] at HA2
        by_cases c4 : s[k].toNat = 0 ∧ 0 < k
        · have d5 : (((s[k].toNat : Nat) : Int) == 0) = true := by simp; omega
          have d6 : 0 < k := c4.2
          by_cases c3 : k = 9
          · have d3 : ((k : Int) == 9) = true := by simp; omega
            have d4 : s[k].toNat ≤ 1 := by omega
            clear c3 c4 hd HA2
            go_wp2_with (go_at_call 60; refine (RdFail_any _ _ _ _ H.out).mono ?_; rintro e w' ⟨rfl, H2⟩; have H2' : Hid _ := H2; clear H2)
            go_ret
            exact ⟨rfl, H2'.out⟩
          · have d3 : ((k : Int) == 9) = false := by simp; omega
            clear c3 c4 hd HA2
            go_wp2_with (go_at_call 60; refine (RdFail_any _ _ _ _ H.out).mono ?_; rintro e w' ⟨rfl, H2⟩; have H2' : Hid _ := H2; clear H2)
            go_ret
            exact ⟨rfl, H2'.out⟩
        rw [if_neg c4] at HA2
        cases HA2
    · go_wp2_with (go_at_call 60; refine (RdFail_any _ _ _ _ H.out).mono ?_; rintro e w' ⟨rfl, H2⟩; have H2' : Hid _ := H2; clear H2)
      go_ret
      exact ⟨rfl, H2'.out⟩

end Go.Proofs.YtbimkgmhfcgpmaaGreatDoor

/- The hash as bytes; what is sealed. -/
namespace Go.Proofs.YtbimkgmhfcgpmaaGreatDoor
open Go.RowKit

theorem cell_lit (w : World) (c : Array Value) (t : TypeId) (i : Nat) : (w.alloc (.cells c t)).cell? ⟨w.heap.size, i, none⟩ = c[i]? := by
  rw [World.cell?, heap_new]; rfl

/-- A row of bytes as a text. -/
theorem conv_bytes (w : World) (g cap : Nat) (l : List UInt8) (hc : ∀ i (h : i < l.length), w.cell? ⟨g, i, none⟩ = some (.int .u8 (l[i].toNat : Nat))) :
    (convert 57 9 (.slice (some ⟨g, 0, none⟩) l.length cap)).run Tryz.prog w = .ok (.string (S l)) w := by
  refine run_convert_bytes_back w 57 9 5 ⟨g, 0, none⟩ cap l Tryz.underlying57 Tryz.underlying5 Tryz.underlying9 ?_
  intro j hj
  have := hc j hj
  unfold Addr.add
  by_cases hz : j = 0
  · rw [if_pos hz]; subst hz; exact this
  · rw [if_neg hz]; simpa using this

theorem byte_of (x : Nat) : (((UInt8.ofNat x).toNat : Nat) : Int) = (x : Int) % 256 := by
  rw [UInt8.toNat_ofNat']; omega

theorem hash_conv (h : Nat) (w : World) (hh : h < Silo.M64) :
    (convert 57 9 (.slice (some ⟨w.heap.size, 0, none⟩) 8 8)).run Tryz.prog (w.alloc (.cells #[.int .u8 ((h : Int) / 256 / 256 / 256 / 256 / 256 / 256 / 256), .int .u8 ((h : Int) / 256 / 256 / 256 / 256 / 256 / 256 % 256), .int .u8 ((h : Int) / 256 / 256 / 256 / 256 / 256 % 256), .int .u8 ((h : Int) / 256 / 256 / 256 / 256 % 256), .int .u8 ((h : Int) / 256 / 256 / 256 % 256), .int .u8 ((h : Int) / 256 / 256 % 256), .int .u8 ((h : Int) / 256 % 256), .int .u8 ((h : Int) % 256)] 132)) =
      .ok (.string (S (Silo.be8 h))) (w.alloc (.cells #[.int .u8 ((h : Int) / 256 / 256 / 256 / 256 / 256 / 256 / 256), .int .u8 ((h : Int) / 256 / 256 / 256 / 256 / 256 / 256 % 256), .int .u8 ((h : Int) / 256 / 256 / 256 / 256 / 256 % 256), .int .u8 ((h : Int) / 256 / 256 / 256 / 256 % 256), .int .u8 ((h : Int) / 256 / 256 / 256 % 256), .int .u8 ((h : Int) / 256 / 256 % 256), .int .u8 ((h : Int) / 256 % 256), .int .u8 ((h : Int) % 256)] 132)) := by
  unfold Silo.M64 at hh
  refine conv_bytes _ _ 8 (Silo.be8 h) ?_
  intro i hi
  rw [cell_lit]
  have hi8 : i < 8 := hi
  match i, hi8 with
  | 0, _ => simp only [Silo.be8, List.getElem_cons_zero, byte_of]; simp; omega
  | 1, _ => simp only [Silo.be8, List.getElem_cons_zero, List.getElem_cons_succ, byte_of]; simp; omega
  | 2, _ => simp only [Silo.be8, List.getElem_cons_zero, List.getElem_cons_succ, byte_of]; simp; omega
  | 3, _ => simp only [Silo.be8, List.getElem_cons_zero, List.getElem_cons_succ, byte_of]; simp; omega
  | 4, _ => simp only [Silo.be8, List.getElem_cons_zero, List.getElem_cons_succ, byte_of]; simp; omega
  | 5, _ => simp only [Silo.be8, List.getElem_cons_zero, List.getElem_cons_succ, byte_of]; simp; omega
  | 6, _ => simp only [Silo.be8, List.getElem_cons_zero, List.getElem_cons_succ, byte_of]; simp
  | 7, _ => simp only [Silo.be8, List.getElem_cons_zero, List.getElem_cons_succ, byte_of]; simp

set_option maxHeartbeats 1000000 in
set_option maxRecDepth 100000 in
theorem HashBytes_any (h : Nat) (w : World) (hh : h < Silo.M64) :
    Calls Tryz.prog 50 #[.int .u64 h] w fun e w' => e = .returned (.string (S (Silo.be8 h))) ∧ Fp (fun _ => False) w w' := by
  have hc := hash_conv h w hh
  unfold Silo.M64 at hh
  go_enter Tryz.func50, Tryz.ntmps50
  go_wp2
  refine wp_loop_rounds 9 ?_
  iterate 9 (rw [rounds_succ]; go_wp2)
  go_ret
  exact ⟨ret_val (by simp), Fp.alloc _ _ _⟩

end Go.Proofs.YtbimkgmhfcgpmaaGreatDoor

/- The reader by states; readNumber, readTime. -/
namespace Go.Proofs.YtbimkgmhfcgpmaaGreatDoor
open Go.RowKit

/-- A reader in block rb: what is left, or that something was wrong. -/
def RdS (w : World) (rb : Nat) : Silo.St → Prop
  | some l => Rdr w rb (S l) false
  | none => Rdr w rb ByteArray.empty true

theorem RdS.fp {w w' : World} {T : Nat → Prop} {rb : Nat} {st : Silo.St} (h : RdS w rb st) (hf : Fp T w w') (hs : ¬ T rb) : RdS w' rb st := by
  cases st
  · exact Rdr.fp h hf hs
  · exact Rdr.fp h hf hs

theorem RdS.lt {w : World} {rb : Nat} {st : Silo.St} (h : RdS w rb st) : rb < w.heap.size := by
  cases st
  · exact Rdr.lt h
  · exact Rdr.lt h

theorem RdCode_any (w : World) (rb : Nat) (st : Silo.St) (h : RdS w rb st) (hs : Silo.left st ≤ maxLen) :
    Calls Tryz.prog 61 #[.pointer (some ⟨rb, 0, none⟩)] w fun e w' => e = .returned (.int .u64 (Silo.rdN st : Nat)) ∧ RdS w' rb (Silo.rdR st) ∧ Fp (fun k => k = rb) w w' := by
  cases st with
  | none => exact RdCode_none w rb _ true h (by decide) rfl
  | some l =>
    cases hc : Silo.rdCode l with
    | none =>
      refine (RdCode_none w rb _ _ h hs hc).mono ?_
      rintro e w' ⟨rfl, h1, h2⟩
      exact ⟨by simp [Silo.rdN, hc], by simp only [Silo.rdR, hc]; exact h1, h2⟩
    | some x =>
      obtain ⟨n, r⟩ := x
      refine (RdCode_some w rb _ _ h hs n r hc).mono ?_
      rintro e w' ⟨rfl, h1, h2⟩
      exact ⟨by simp [Silo.rdN, hc], by simp only [Silo.rdR, hc]; exact h1, h2⟩

theorem Rdr_of_RdS {w : World} {rb : Nat} {st : Silo.St} (h : RdS w rb st) : ∃ s f, Rdr w rb s f ∧ s.size = Silo.left st ∧ f = st.isNone := by
  cases st with
  | none => exact ⟨_, _, h, rfl, rfl⟩
  | some l => exact ⟨_, _, h, rfl, rfl⟩

theorem RdFail_st (w : World) (rb : Nat) (st : Silo.St) (h : RdS w rb st) :
    Calls Tryz.prog 60 #[.pointer (some ⟨rb, 0, none⟩)] w fun e w' => e = .returned (.tuple #[]) ∧ RdS w' rb none ∧ Fp (fun k => k = rb) w w' := by
  obtain ⟨s, f, hr, _, _⟩ := Rdr_of_RdS h
  exact RdFail_any w rb s f hr

theorem RdLeft_st (w : World) (rb : Nat) (st : Silo.St) (h : RdS w rb st) :
    Calls Tryz.prog 46 #[.pointer (some ⟨rb, 0, none⟩)] w fun e w' => e = .returned (.int .i64 (Silo.left st : Nat)) ∧ w' = w := by
  obtain ⟨s, f, hr, e, _⟩ := Rdr_of_RdS h
  rw [← e]
  exact RdLeft_any w rb s f hr

theorem RdFailed_st (w : World) (rb : Nat) (st : Silo.St) (h : RdS w rb st) :
    Calls Tryz.prog 101 #[.pointer (some ⟨rb, 0, none⟩)] w fun e w' => e = .returned (.bool st.isNone) ∧ w' = w := by
  obtain ⟨s, f, hr, _, e⟩ := Rdr_of_RdS h
  rw [← e]
  exact RdFailed_any w rb s f hr

set_option maxHeartbeats 400000 in
theorem readNumber_any (w : World) (rb : Nat) (st : Silo.St) (h : RdS w rb st) (hs : Silo.left st ≤ maxLen) :
    Calls Tryz.prog 83 #[.pointer (some ⟨rb, 0, none⟩)] w fun e w' => e = .returned (.int .i64 ((Silo.rdNum st).1 : Nat)) ∧ RdS w' rb (Silo.rdNum st).2 ∧ Fp (fun k => k = rb) w w' := by
  have H : Hid (RdS w rb st ∧ Silo.left st ≤ maxLen) := ⟨h, hs⟩
  clear h hs
  have hlt : Hid (Silo.rdN st < Silo.M64) := Silo.rdN_lt st
  by_cases hc : 999999 < Silo.rdN st
  · have e1 : Hid (Silo.rdNum st = (0, none)) := by unfold Silo.rdNum; rw [if_pos hc]; exact rfl
    go_enter Tryz.func83, Tryz.ntmps83
    go_wp2_with fail
    refine (RdCode_any w rb st H.out.1 H.out.2).mono ?_
    rintro e w1 ⟨rfl, hr⟩
    have HR : Hid _ := hr
    clear hr
    generalize Silo.rdN st = n at *
    go_wp2_with fail
    refine (RdFail_st w1 rb _ HR.out.1).mono ?_
    rintro e w2 ⟨rfl, hr2⟩
    have HR2 : Hid _ := hr2
    clear hr2
    go_wp2
    go_ret
    rw [e1.out]
    exact ⟨rfl, HR2.out.1, HR.out.2.trans' HR2.out.2⟩
  · have e1 : Hid (Silo.rdNum st = (Silo.rdN st, Silo.rdR st)) := by unfold Silo.rdNum; rw [if_neg hc]; exact rfl
    go_enter Tryz.func83, Tryz.ntmps83
    go_wp2_with fail
    refine (RdCode_any w rb st H.out.1 H.out.2).mono ?_
    rintro e w1 ⟨rfl, hr⟩
    have HR : Hid _ := hr
    clear hr
    go_wp2
    go_ret
    rw [e1.out]
    exact ⟨rfl, HR.out.1, HR.out.2⟩

theorem room_eq (a : Int) (h : Silo.isInt a) : IntKind.u64.wrap (9223372036854775807 - IntKind.u64.wrap a) = 9223372036854775807 - a := by
  unfold Silo.isInt at h
  rw [IntKind.wrap_u64, IntKind.wrap_u64]
  omega

theorem sum_eq (a : Int) (n : Nat) (h : Silo.isInt a) (hn : (n : Int) ≤ 9223372036854775807 - a) : wrap64 (a + wrap64 n) = a + n := by
  unfold Silo.isInt at h
  unfold wrap64
  omega

set_option maxHeartbeats 400000 in
theorem readTime_any (w : World) (rb : Nat) (st : Silo.St) (ahead : Int) (first : Bool) (ha : Silo.isInt ahead) (h : RdS w rb st) (hs : Silo.left st ≤ maxLen) :
    Calls Tryz.prog 100 #[.pointer (some ⟨rb, 0, none⟩), .int .i64 ahead, .bool first] w fun e w' => e = .returned (.int .i64 (Silo.rdTime st ahead first).1) ∧ RdS w' rb (Silo.rdTime st ahead first).2 ∧ Fp (fun k => k = rb) w w' := by
  have H : Hid (RdS w rb st ∧ Silo.left st ≤ maxLen) := ⟨h, hs⟩
  clear h hs
  have hlt : Hid (Silo.rdN st < Silo.M64) := Silo.rdN_lt st
  have HA : Hid (Silo.isInt ahead) := ha
  clear ha
  cases first
  · by_cases h0 : Silo.rdN st = 0
    · have e1 : Hid (Silo.rdTime st ahead false = (0, none)) := by unfold Silo.rdTime; simp [h0, Hid]
      go_enter Tryz.func100, Tryz.ntmps100
      go_wp2_with fail
      refine (RdCode_any w rb st H.out.1 H.out.2).mono ?_
      rintro e w1 ⟨rfl, hr⟩
      have HR : Hid _ := hr
      clear hr
      rw [h0]
      go_wp2_with fail
      refine (RdFail_st w1 rb _ HR.out.1).mono ?_
      rintro e w2 ⟨rfl, hr2⟩
      have HR2 : Hid _ := hr2
      clear hr2
      go_wp2
      go_ret
      rw [e1.out]
      exact ⟨rfl, HR2.out.1, HR.out.2.trans' HR2.out.2⟩
    · by_cases hc : 9223372036854775807 - ahead < (Silo.rdN st : Int)
      · have e1 : Hid (Silo.rdTime st ahead false = (0, none)) := by unfold Silo.rdTime; simp [hc, Hid]
        have d0 : (((Silo.rdN st : Nat) : Int) == 0) = false := by simpa using h0
        have er := room_eq ahead HA.out
        go_enter Tryz.func100, Tryz.ntmps100
        go_wp2_with fail
        refine (RdCode_any w rb st H.out.1 H.out.2).mono ?_
        rintro e w1 ⟨rfl, hr⟩
        have HR : Hid _ := hr
        clear hr
        go_wp2_with fail
        refine (RdFail_st w1 rb _ HR.out.1).mono ?_
        rintro e w2 ⟨rfl, hr2⟩
        have HR2 : Hid _ := hr2
        clear hr2
        go_wp2
        go_ret
        rw [e1.out]
        exact ⟨rfl, HR2.out.1, HR.out.2.trans' HR2.out.2⟩
      · have e1 : Hid (Silo.rdTime st ahead false = (ahead + Silo.rdN st, Silo.rdR st)) := by unfold Silo.rdTime; simp [hc, h0, Hid]
        have d0 : (((Silo.rdN st : Nat) : Int) == 0) = false := by simpa using h0
        have er := room_eq ahead HA.out
        go_enter Tryz.func100, Tryz.ntmps100
        go_wp2_with fail
        refine (RdCode_any w rb st H.out.1 H.out.2).mono ?_
        rintro e w1 ⟨rfl, hr⟩
        have HR : Hid _ := hr
        clear hr
        go_wp2
        go_ret
        rw [e1.out]
        exact ⟨ret_int (sum_eq ahead _ HA.out (by omega)), HR.out.1, HR.out.2⟩
  · have e1 : Hid (Silo.rdTime st ahead true = (Silo.zag (Silo.rdN st), Silo.rdR st)) := by unfold Silo.rdTime; simp [Hid]
    go_enter Tryz.func100, Tryz.ntmps100
    go_wp2_with fail
    refine (RdCode_any w rb st H.out.1 H.out.2).mono ?_
    rintro e w1 ⟨rfl, hr⟩
    have HR : Hid _ := hr
    clear hr
    go_wp2_with fail
    refine (ToSigned_any _ _ hlt.out).mono ?_
    rintro e w2 ⟨rfl, rfl⟩
    go_wp2
    go_ret
    rw [e1.out]
    exact ⟨rfl, HR.out.1, HR.out.2⟩

end Go.Proofs.YtbimkgmhfcgpmaaGreatDoor
