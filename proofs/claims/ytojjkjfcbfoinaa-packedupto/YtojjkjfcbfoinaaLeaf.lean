/- The plain leaf functions' contracts: what each returns; the world is as it was. -/
import Derived.Test.YtojjkjfcbfoinaaFoot
import Derived.Test.YtojjkjfcbfoinaaPure1
namespace Go.Proofs.Ytojjkjfcbfoinaa
open Go.RowKit

set_option maxHeartbeats 400000 in
theorem RangeFits_any (a b : Int) (w : World) :
    Calls Try.prog 19 #[.agg #[.int .i64 a, .int .i64 b]] w fun e w' => e = .returned (.bool (decide (0 ≤ a ∧ a ≤ b ∧ b ≤ 999999))) ∧ Fp (fun _ => False) w w' := by
  have hd : decide (0 ≤ a ∧ a ≤ b ∧ b ≤ 999999) = (decide (0 ≤ a) && (decide (a ≤ b) && decide (b ≤ 999999))) := by simp
  rw [hd]
  clear hd
  cases h1 : decide (0 ≤ a) <;> cases h2 : decide (a ≤ b) <;> cases h3 : decide (b ≤ 999999)
  all_goals
    go_enter Try.func19, Try.ntmps19
    go_wp2
    go_ret
    exact ⟨by simp, Fp.alloc _ _ _⟩

set_option maxHeartbeats 400000 in
theorem FromSigned_any (n : Int) (w : World) (h0 : -9223372036854775808 ≤ n) (h1 : n ≤ 9223372036854775807) :
    Calls Try.prog 76 #[.int .i64 n] w fun e w' => e = .returned (.int .u64 (Silo.zig n : Nat)) ∧ w' = w := by
  by_cases h : 0 ≤ n
  · go_enter Try.func76, Try.ntmps76
    go_wp2
    go_ret
    exact ⟨ret_int (by unfold Silo.zig; rw [if_pos h]; simp; omega), rfl⟩
  · go_enter Try.func76, Try.ntmps76
    go_wp2
    go_ret
    exact ⟨ret_int (by unfold Silo.zig; rw [if_neg (by omega)]; omega), rfl⟩

set_option maxHeartbeats 400000 in
theorem ToSigned_any (n : Nat) (w : World) (hn : n < Silo.M64) :
    Calls Try.prog 86 #[.int .u64 n] w fun e w' => e = .returned (.int .i64 (Silo.zag n)) ∧ w' = w := by
  unfold Silo.M64 at hn
  by_cases h : n % 2 = 0
  · go_enter Try.func86, Try.ntmps86
    go_wp2
    go_ret
    exact ⟨ret_int (by unfold Silo.zag; rw [if_pos h]; simp), rfl⟩
  · go_enter Try.func86, Try.ntmps86
    go_wp2
    go_ret
    exact ⟨ret_int (by unfold Silo.zag; rw [if_neg h]; simp), rfl⟩

set_option maxHeartbeats 400000 in
theorem isNaN_any (n : Int) (w : World) :
    Calls Try.prog 82 #[.int .i64 n] w fun e w' => e = .returned (.bool false) ∧ w' = w := by
  go_enter Try.func82, Try.ntmps82
  go_wp2
  go_ret
  exact ⟨by simp, rfl⟩

/-- How two numbers stand to each other. -/
def cmpI (a b : Int) : Int := if a < b then -1 else if b < a then 1 else 0

set_option maxHeartbeats 400000 in
theorem Compare_any (a b : Int) (w : World) :
    Calls Try.prog 72 #[.int .i64 a, .int .i64 b] w fun e w' => e = .returned (.int .i64 (cmpI a b)) ∧ w' = w := by
  by_cases h1 : a < b
  · go_enter Try.func72, Try.ntmps72
    go_wp2
    go_ret
    exact ⟨ret_int (by simp [cmpI, h1]), rfl⟩
  · by_cases h2 : b < a
    · go_enter Try.func72, Try.ntmps72
      go_wp2
      go_ret
      exact ⟨ret_int (by simp [cmpI, h2]; omega), rfl⟩
    · go_enter Try.func72, Try.ntmps72
      go_wp2
      go_ret
      exact ⟨ret_int (by unfold cmpI; rw [if_neg (by omega), if_neg (by omega)]), rfl⟩

set_option maxHeartbeats 400000 in
theorem byTime_any (a b : Int) (x y : Int) (w : World) :
    Calls Try.prog 56 #[.agg #[.int .i64 a, .int .u64 x], .agg #[.int .i64 b, .int .u64 y]] w fun e w' => e = .returned (.int .i64 (cmpI a b)) ∧ Fp (fun _ => False) w w' := by
  go_enter Try.func56, Try.ntmps56
  go_wp2_with (go_at_call 72; refine (Compare_any _ _ _).mono ?_; rintro e w' ⟨rfl, rfl⟩)
  go_ret
  exact ⟨ret_val (by simp), (Fp.alloc _ _ _).trans' (Fp.alloc _ _ _)⟩

/-- Go's pick: a number from 0 to n - 1. -/
def pickI (c n : Int) : Int := if c < 0 then (-(c + 1)) % n else c % n

set_option maxHeartbeats 400000 in
theorem Keeppick_any (c n : Int) (w : World) (hc0 : -9223372036854775808 ≤ c) (hc1 : c ≤ 9223372036854775807) (hn : 0 < n) (hn1 : n ≤ 1000000) :
    Calls Try.prog 9 #[.int .i64 c, .int .i64 n] w fun e w' => e = .returned (.int .i64 (pickI c n)) ∧ w' = w := by
  by_cases h : c < 0
  · go_enter Try.func9, Try.ntmps9
    go_wp2
    go_ret
    exact ⟨ret_int (by unfold pickI; rw [if_pos h, ← Int.neg_tmod, Int.tmod_eq_emod_of_nonneg (by omega)]), rfl⟩
  · go_enter Try.func9, Try.ntmps9
    go_wp2
    go_ret
    exact ⟨ret_int (by unfold pickI; rw [if_neg (by omega)]), rfl⟩

theorem pickI_rng (c n : Int) (hn : 0 < n) : 0 ≤ pickI c n ∧ pickI c n < n := by
  unfold pickI
  split
  · exact ⟨Int.emod_nonneg _ (by omega), Int.emod_lt_of_pos _ hn⟩
  · exact ⟨Int.emod_nonneg _ (by omega), Int.emod_lt_of_pos _ hn⟩

/-- The number as which a time is coded. -/
def timeCodeN (t ahead : Int) (first : Bool) : Nat := if first then Silo.zig t else ((t - ahead) % 18446744073709551616).toNat

set_option maxHeartbeats 400000 in
theorem timeCode_any (t ahead : Int) (first : Bool) (w : World) (h0 : -9223372036854775808 ≤ t) (h1 : t ≤ 9223372036854775807) (_a0 : -9223372036854775808 ≤ ahead) (_a1 : ahead ≤ 9223372036854775807) :
    Calls Try.prog 58 #[.int .i64 t, .int .i64 ahead, .bool first] w fun e w' => e = .returned (.int .u64 (timeCodeN t ahead first : Nat)) ∧ w' = w := by
  cases first
  · go_enter Try.func58, Try.ntmps58
    go_wp2
    go_ret
    exact ⟨ret_int (by unfold timeCodeN; simp [IntKind.wrap_u64]; omega), rfl⟩
  · go_enter Try.func58, Try.ntmps58
    go_wp2_with (go_at_call 76; refine (FromSigned_any _ _ h0 h1).mono ?_; rintro e w' ⟨rfl, rfl⟩)
    go_ret
    exact ⟨ret_int (by unfold timeCodeN; simp), rfl⟩

set_option maxHeartbeats 400000 in
theorem Lawnum_any (n : Int) (w : World) :
    Calls Try.prog 15 #[.int .i64 n] w fun e w' => e = .returned (.int .i64 n) ∧ w' = w := by
  go_enter Try.func15, Try.ntmps15
  go_wp2
  go_ret
  exact ⟨ret_val (by simp), rfl⟩

end Go.Proofs.Ytojjkjfcbfoinaa
