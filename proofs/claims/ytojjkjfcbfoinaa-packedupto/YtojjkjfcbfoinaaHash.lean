/- The hash's contract. -/
import Derived.Test.YtojjkjfcbfoinaaFoot
import Derived.Test.YtojjkjfcbfoinaaPure1
namespace Go.Proofs.Ytojjkjfcbfoinaa
open Go.RowKit

theorem fnv_step (n : Nat) (b : UInt8) (hn : n < Silo.M64) :
    IntKind.u64.wrap (bits BinOp.xor IntKind.u64 (n : Int) (IntKind.u64.wrap (b.toNat : Int)) * 1099511628211) = (Silo.fnvStep n b : Int) := by
  have hb : b.toNat < 256 := b.toNat_lt
  have e : IntKind.u64.wrap (b.toNat : Int) = (b.toNat : Int) := by rw [IntKind.wrap_u64]; omega
  unfold Silo.M64 at hn
  rw [e, bits_xor_u64_nat _ _ hn (by omega), IntKind.wrap_u64]
  unfold Silo.fnvStep Silo.M64
  omega

set_option maxHeartbeats 400000 in
theorem Hash_any (s : ByteArray) (w : World) (hs : s.size ≤ maxLen) :
    Calls Try.prog 60 #[.string s] w fun e w' => e = .returned (.int .u64 (Silo.fnv s.data.toList : Nat)) ∧ w' = w := by
  unfold maxLen at hs
  go_enter Try.func60, Try.ntmps60
  go_wp2
  go_loop [3, 7] (fun h i => ∃ k : Nat, k ≤ s.size ∧ i = .int .i64 k ∧ h = .int .u64 (Silo.fnv (s.data.toList.take k) : Nat)) (fun _ i => s.size - (intOf i).toNat)
  case atStart => exact ⟨0, Nat.zero_le _, rfl, rfl⟩
  case round =>
    obtain ⟨k, hk, rfl, rfl⟩ := hrel
    by_cases hlt : k < s.size
    · have HX : Hid (Silo.fnv (s.data.toList.take (k + 1)) = Silo.fnvStep (Silo.fnv (s.data.toList.take k)) s[k]) := by
        rw [take_snoc s k hlt, Silo.fnv_snoc]; exact rfl
      have hr : Hid (Silo.fnv (s.data.toList.take k) < Silo.M64) := Silo.fnv_lt _
      generalize Silo.fnv (s.data.toList.take k) = x at *
      go_wp2
      go_round
      case rel => exact ⟨k + 1, by omega, by go_num, by rw [HX.out, fnv_step _ _ hr.out]⟩
      case measure => simp [intOf]; omega
    · go_wp2
      go_ret
      exact ⟨ret_int (by rw [List.take_of_length_le (by simp; omega)]), rfl⟩

end Go.Proofs.Ytojjkjfcbfoinaa
