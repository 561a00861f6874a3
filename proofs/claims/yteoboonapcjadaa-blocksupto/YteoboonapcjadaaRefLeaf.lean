/- siloref's leaves: hash, signs, wide numbers, seals. -/
import Derived.Test.YteoboonapcjadaaSealed
import Derived.Test.YteoboonapcjadaaLeaf
namespace Go.Proofs.Yteoboonapcjadaa
open Go.RowKit

set_option maxHeartbeats 400000 in
theorem RefSigned_any (n : Int) (w : World) (h0 : -9223372036854775808 ≤ n) (h1 : n ≤ 9223372036854775807) :
    Calls Try.prog 42 #[.int .i64 n] w fun e w' => e = .returned (.int .u64 (Silo.zig n : Nat)) ∧ w' = w := by
  by_cases h : 0 ≤ n
  · go_enter Try.func42, Try.ntmps42
    go_wp2
    go_ret
    exact ⟨ret_int (by unfold Silo.zig; rw [if_pos h]; simp; omega), rfl⟩
  · go_enter Try.func42, Try.ntmps42
    go_wp2
    go_ret
    exact ⟨ret_int (by unfold Silo.zig; rw [if_neg (by omega)]; simp; omega), rfl⟩

set_option maxHeartbeats 400000 in
theorem RefUnsigned_any (n : Nat) (w : World) (hn : n < Silo.M64) :
    Calls Try.prog 29 #[.int .u64 n] w fun e w' => e = .returned (.int .i64 (Silo.zag n)) ∧ w' = w := by
  unfold Silo.M64 at hn
  by_cases h : n % 2 = 0
  · go_enter Try.func29, Try.ntmps29
    go_wp2
    go_ret
    exact ⟨ret_int (by unfold Silo.zag; rw [if_pos h]; simp), rfl⟩
  · go_enter Try.func29, Try.ntmps29
    go_wp2
    go_ret
    exact ⟨ret_int (by unfold Silo.zag; rw [if_neg h]; simp), rfl⟩

set_option maxHeartbeats 400000 in
theorem RefHash_any (s : ByteArray) (w : World) (hs : s.size ≤ maxLen) :
    Calls Try.prog 57 #[.string s] w fun e w' => e = .returned (.int .u64 (Silo.fnv s.data.toList : Nat)) ∧ w' = w := by
  unfold maxLen at hs
  go_enter Try.func57, Try.ntmps57
  go_wp2
  go_loop [3, 4] (fun h i => ∃ k : Nat, k ≤ s.size ∧ i = .int .i64 k ∧ h = .int .u64 (Silo.fnv (s.data.toList.take k) : Nat)) (fun _ i => s.size - (intOf i).toNat)
  case atStart => exact ⟨0, Nat.zero_le _, rfl, rfl⟩
  case round =>
    obtain ⟨k, hk, rfl, rfl⟩ := hrel
    by_cases hlt : k < s.size
    · have HX : Hid (Silo.fnv (s.data.toList.take (k + 1)) = Silo.fnvStep (Silo.fnv (s.data.toList.take k)) s[k]) := by
        rw [take_snoc s k hlt, Silo.fnv_snoc]; exact rfl
      have hr : Hid (Silo.fnv (s.data.toList.take k) < Silo.M64) := Silo.fnv_lt _
      generalize Silo.fnv (s.data.toList.take k) = x at *
      go_wp2
      go_round
      case rel => exact ⟨k + 1, by omega, by go_num, by rw [HX.out, fnv_step _ _ hr.out]⟩
      case measure => simp [intOf]; omega
    · go_wp2
      go_ret
      exact ⟨ret_int (by rw [List.take_of_length_le (by simp; omega)]), rfl⟩

end Go.Proofs.Yteoboonapcjadaa
