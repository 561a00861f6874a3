/- siloref's wide numbers and seals. -/
import Derived.Test.YteoboonapcjadaaRefLeaf
namespace Silo

/-- The lowest k bytes of a number, the highest of them first. -/
def wideTo (n : Nat) : Nat → List UInt8
  | 0 => []
  | k + 1 => UInt8.ofNat (n / 256 ^ k % 256) :: wideTo n k

theorem wideTo_length (n : Nat) : ∀ k, (wideTo n k).length = k
  | 0 => rfl
  | k + 1 => by simp [wideTo, wideTo_length n k]

theorem ofNat_mod (n : Nat) : UInt8.ofNat (n % 256) = UInt8.ofNat n := by
  apply UInt8.toNat_inj.1
  simp

theorem wideTo_be8 (n : Nat) (_h : n < M64) : wideTo n 8 = be8 n := by
  simp only [wideTo, be8, ofNat_mod]
  simp

end Silo

namespace Go.Proofs.Yteoboonapcjadaa
open Go.RowKit

theorem conv_one (u : World) (t : TypeId) (x : Int) : (convert 73 9 (.slice (some ⟨u.heap.size, 0, none⟩) 1 1)).run Try.prog (u.alloc (.cells #[.int .u8 (x % 256)] t)) =
    .ok (.string (S [UInt8.ofNat (x % 256).toNat])) (u.alloc (.cells #[.int .u8 (x % 256)] t)) := by
  refine conv_bytes _ _ 1 [UInt8.ofNat (x % 256).toNat] ?_
  intro i hi
  rw [cell_lit]
  have hi1 : i < 1 := hi
  match i, hi1 with
  | 0, _ => simp only [List.getElem_cons_zero, byte_of]; simp; omega

theorem S_one (x : UInt8) : (S [x]).size = 1 := rfl

set_option maxHeartbeats 1000000 in
theorem RefWide_any (n : Nat) (w : World) (hn : n < Silo.M64) :
    Calls Try.prog 56 #[.int .u64 n] w fun e w' => e = .returned (.string (S (Silo.be8 n))) ∧ Fp (fun _ => False) w w' := by
  have hcv := conv_one
  have hs1 := S_one
  go_enter Try.func56, Try.ntmps56
  go_wp2
  go_loopw [0, 3, 4] (fun v s i wr => ∃ k : Nat, k ≤ 8 ∧ i = .int .i64 k ∧ v = .int .u64 (n / 256 ^ k : Nat) ∧ s = .string (S (Silo.wideTo n k)) ∧ Hid (Fp (fun _ => False) w wr)) (fun _ _ i _ => 8 - (intOf i).toNat)
  case atStart => exact ⟨0, by omega, rfl, by simp, rfl, Fp.refl _ _⟩
  case round =>
    obtain ⟨k, hk, rfl, rfl, rfl, HF⟩ := hrel
    have hsz : (S (Silo.wideTo n k)).size = k := Silo.wideTo_length n k
    have HE : Hid (Silo.wideTo n (k + 1) = UInt8.ofNat (n / 256 ^ k % 256) :: Silo.wideTo n k ∧ n / 256 ^ (k + 1) = n / 256 ^ k / 256) := ⟨rfl, by rw [Nat.pow_succ, Nat.div_div_eq_div_mul]⟩
    have HM : Hid (n / 256 ^ k < Silo.M64) := Nat.lt_of_le_of_lt (Nat.div_le_self _ _) hn
    by_cases hlt : k < 8
    · generalize n / 256 ^ k = m at *
      go_wp2
      go_roundw
      case rel =>
        refine ⟨k + 1, by omega, by go_num, by have h9 := HM.out; unfold Silo.M64 at h9; rw [HE.out.2]; simp; rw [IntKind.wrap_u64]; omega, ?_, HF.out.trans' (Fp.alloc _ _ _)⟩
        rw [HE.out.1, ← List.singleton_append, ← S_append]
        congr 3
      case measure => simp [intOf]; omega
    · obtain rfl : k = 8 := by omega
      go_wp2
      go_ret
      exact ⟨ret_val (by rw [Silo.wideTo_be8 n hn]; simp), HF.out⟩

set_option maxHeartbeats 400000 in
theorem RefSealed_any (l : List UInt8) (w : World) (hl : l.length ≤ 1099511627776) :
    Calls Try.prog 43 #[.string (S l)] w fun e w' => e = .returned (.string (S (Silo.sealed l))) ∧ Fp (fun _ => False) w w' := by
  have hs : (S l).size ≤ 1099511627776 := hl
  have h8 : (S (Silo.be8 (Silo.fnv l))).size = 8 := rfl
  go_enter Try.func43, Try.ntmps43
  go_wp2_with fail
  refine (RefHash_any (S l) w (Nat.le_trans hl (by decide))).mono ?_
  rintro e w1 ⟨rfl, rfl⟩
  rw [S_toList]
  go_wp2_with fail
  refine (RefWide_any _ _ (Silo.fnv_lt _)).mono ?_
  rintro e w2 ⟨rfl, h2⟩
  have H2 : Hid _ := h2
  clear h2
  go_wp2
  go_ret
  exact ⟨ret_val (by rw [Silo.sealed, ← S_append]; simp), H2.out⟩

end Go.Proofs.Yteoboonapcjadaa
