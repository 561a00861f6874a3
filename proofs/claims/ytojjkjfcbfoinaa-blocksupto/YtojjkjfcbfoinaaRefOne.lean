/- siloref.Told. -/
import Derived.Test.YtojjkjfcbfoinaaSealed
import Derived.Test.YtojjkjfcbfoinaaLeaf
import Derived.Test.YtojjkjfcbfoinaaAppend
import Derived.Deep.RegionHeld
import Derived.Test.YtojjkjfcbfoinaaPure3
import Derived.Test.YtojjkjfcbfoinaaPure8
import Derived.Test.YtojjkjfcbfoinaaBlock
import Derived.BigQuiet
import Derived.Deep.CutRange
import Derived.Test.YtojjkjfcbfoinaaAnyInv2

namespace Go.Proofs.Ytojjkjfcbfoinaa
open Go.RowKit

set_option maxHeartbeats 400000 in
theorem RefSigned_any (n : Int) (w : World) (h0 : -9223372036854775808 ≤ n) (h1 : n ≤ 9223372036854775807) :
    Calls Try.prog 48 #[.int .i64 n] w fun e w' => e = .returned (.int .u64 (Silo.zig n : Nat)) ∧ w' = w := by
  by_cases h : 0 ≤ n
  · go_enter Try.func48, Try.ntmps48
    go_wp2
    go_ret
    exact ⟨ret_int (by unfold Silo.zig; rw [if_pos h]; simp; omega), rfl⟩
  · go_enter Try.func48, Try.ntmps48
    go_wp2
    go_ret
    exact ⟨ret_int (by unfold Silo.zig; rw [if_neg (by omega)]; simp; omega), rfl⟩

set_option maxHeartbeats 400000 in
theorem RefUnsigned_any (n : Nat) (w : World) (hn : n < Silo.M64) :
    Calls Try.prog 30 #[.int .u64 n] w fun e w' => e = .returned (.int .i64 (Silo.zag n)) ∧ w' = w := by
  unfold Silo.M64 at hn
  by_cases h : n % 2 = 0
  · go_enter Try.func30, Try.ntmps30
    go_wp2
    go_ret
    exact ⟨ret_int (by unfold Silo.zag; rw [if_pos h]; simp), rfl⟩
  · go_enter Try.func30, Try.ntmps30
    go_wp2
    go_ret
    exact ⟨ret_int (by unfold Silo.zag; rw [if_neg h]; simp), rfl⟩

set_option maxHeartbeats 400000 in
theorem RefHash_any (s : ByteArray) (w : World) (hs : s.size ≤ maxLen) :
    Calls Try.prog 69 #[.string s] w fun e w' => e = .returned (.int .u64 (Silo.fnv s.data.toList : Nat)) ∧ w' = w := by
  unfold maxLen at hs
  go_enter Try.func69, Try.ntmps69
  go_wp2
  go_loop [3, 4] (fun h i => ∃ k : Nat, k ≤ s.size ∧ i = .int .i64 k ∧ h = .int .u64 (Silo.fnv (s.data.toList.take k) : Nat)) (fun _ i => s.size - (intOf i).toNat)
  case atStart => exact ⟨0, Nat.zero_le _, rfl, rfl⟩
  case round =>
    obtain ⟨k, hk, rfl, rfl⟩ := hrel
    by_cases hlt : k < s.size
    · have HX : Hid (Silo.fnv (s.data.toList.take (k + 1)) = Silo.fnvStep (Silo.fnv (s.data.toList.take k)) s[k]) := by
        rw [take_snoc s k hlt, Silo.fnv_snoc]; exact rfl
      have hr : Hid (Silo.fnv (s.data.toList.take k) < Silo.M64) := Silo.fnv_lt _
      generalize Silo.fnv (s.data.toList.take k) = x at *
      go_wp2
      go_round
      case rel => exact ⟨k + 1, by omega, by go_num, by rw [HX.out, fnv_step _ _ hr.out]⟩
      case measure => simp [intOf]; omega
    · go_wp2
      go_ret
      exact ⟨ret_int (by rw [List.take_of_length_le (by simp; omega)]), rfl⟩

end Go.Proofs.Ytojjkjfcbfoinaa

namespace Silo

/-- The lowest k bytes of a number, the highest of them first. -/
def wideTo (n : Nat) : Nat → List UInt8
  | 0 => []
  | k + 1 => UInt8.ofNat (n / 256 ^ k % 256) :: wideTo n k

theorem wideTo_length (n : Nat) : ∀ k, (wideTo n k).length = k
  | 0 => rfl
  | k + 1 => by simp [wideTo, wideTo_length n k]

theorem ofNat_mod (n : Nat) : UInt8.ofNat (n % 256) = UInt8.ofNat n := by
  apply UInt8.toNat_inj.1
  simp

theorem wideTo_be8 (n : Nat) (_h : n < M64) : wideTo n 8 = be8 n := by
  simp only [wideTo, be8, ofNat_mod]
  simp

end Silo

namespace Go.Proofs.Ytojjkjfcbfoinaa
open Go.RowKit

theorem conv_one (u : World) (t : TypeId) (x : Int) : (convert 84 9 (.slice (some ⟨u.heap.size, 0, none⟩) 1 1)).run Try.prog (u.alloc (.cells #[.int .u8 (x % 256)] t)) =
    .ok (.string (S [UInt8.ofNat (x % 256).toNat])) (u.alloc (.cells #[.int .u8 (x % 256)] t)) := by
  refine conv_bytes _ _ 1 [UInt8.ofNat (x % 256).toNat] ?_
  intro i hi
  rw [cell_lit]
  have hi1 : i < 1 := hi
  match i, hi1 with
  | 0, _ => simp only [List.getElem_cons_zero, byte_of]; simp; omega

theorem S_one (x : UInt8) : (S [x]).size = 1 := rfl

set_option maxHeartbeats 1000000 in
theorem RefWide_any (n : Nat) (w : World) (hn : n < Silo.M64) :
    Calls Try.prog 68 #[.int .u64 n] w fun e w' => e = .returned (.string (S (Silo.be8 n))) ∧ Fp (fun _ => False) w w' := by
  have hcv := conv_one
  have hs1 := S_one
  go_enter Try.func68, Try.ntmps68
  go_wp2
  go_loopw [0, 3, 4] (fun v s i wr => ∃ k : Nat, k ≤ 8 ∧ i = .int .i64 k ∧ v = .int .u64 (n / 256 ^ k : Nat) ∧ s = .string (S (Silo.wideTo n k)) ∧ Hid (Fp (fun _ => False) w wr)) (fun _ _ i _ => 8 - (intOf i).toNat)
  case atStart => exact ⟨0, by omega, rfl, by simp, rfl, Fp.refl _ _⟩
  case round =>
    obtain ⟨k, hk, rfl, rfl, rfl, HF⟩ := hrel
    have hsz : (S (Silo.wideTo n k)).size = k := Silo.wideTo_length n k
    have HE : Hid (Silo.wideTo n (k + 1) = UInt8.ofNat (n / 256 ^ k % 256) :: Silo.wideTo n k ∧ n / 256 ^ (k + 1) = n / 256 ^ k / 256) := ⟨rfl, by rw [Nat.pow_succ, Nat.div_div_eq_div_mul]⟩
    have HM : Hid (n / 256 ^ k < Silo.M64) := Nat.lt_of_le_of_lt (Nat.div_le_self _ _) hn
    by_cases hlt : k < 8
    · generalize n / 256 ^ k = m at *
      go_wp2
      go_roundw
      case rel =>
        refine ⟨k + 1, by omega, by go_num, by have h9 := HM.out; unfold Silo.M64 at h9; rw [HE.out.2]; simp; rw [IntKind.wrap_u64]; omega, ?_, HF.out.trans' (Fp.alloc _ _ _)⟩
        rw [HE.out.1, ← List.singleton_append, ← S_append]
        congr 3
      case measure => simp [intOf]; omega
    · obtain rfl : k = 8 := by omega
      go_wp2
      go_ret
      exact ⟨ret_val (by rw [Silo.wideTo_be8 n hn]; simp), HF.out⟩

set_option maxHeartbeats 400000 in
theorem RefSealed_any (l : List UInt8) (w : World) (hl : l.length ≤ 1099511627776) :
    Calls Try.prog 49 #[.string (S l)] w fun e w' => e = .returned (.string (S (Silo.sealed l))) ∧ Fp (fun _ => False) w w' := by
  have hs : (S l).size ≤ 1099511627776 := hl
  have h8 : (S (Silo.be8 (Silo.fnv l))).size = 8 := rfl
  go_enter Try.func49, Try.ntmps49
  go_wp2_with fail
  refine (RefHash_any (S l) w (Nat.le_trans hl (by decide))).mono ?_
  rintro e w1 ⟨rfl, rfl⟩
  rw [S_toList]
  go_wp2_with fail
  refine (RefWide_any _ _ (Silo.fnv_lt _)).mono ?_
  rintro e w2 ⟨rfl, h2⟩
  have H2 : Hid _ := h2
  clear h2
  go_wp2
  go_ret
  exact ⟨ret_val (by rw [Silo.sealed, ← S_append]; simp), H2.out⟩

end Go.Proofs.Ytojjkjfcbfoinaa

namespace Go.Proofs.Ytojjkjfcbfoinaa
open Go.RowKit

theorem conv_cell (u : World) (g : Nat) (x : Int) (b : UInt8) (hc : u.cell? ⟨g, 0, none⟩ = some (.int .u8 x)) (hx : x = (b.toNat : Nat)) :
    (convert 84 9 (.slice (some ⟨g, 0, none⟩) 1 1)).run Try.prog u = .ok (.string (S [b])) u := by
  refine conv_bytes u g 1 [b] ?_
  intro i hi
  have hi1 : i < 1 := hi
  match i, hi1 with
  | 0, _ => rw [hc, hx]; rfl

theorem conv_after {w w2 : World} {x : Int} {b : UInt8} {t : TypeId} (h : Fp (fun _ => False) (w.alloc (.cells #[.int .u8 x] t)).drew w2) (hx : x = (b.toNat : Nat)) :
    (convert 84 9 (.slice (some ⟨w.heap.size, 0, none⟩) 1 1)).run Try.prog w2 = .ok (.string (S [b])) w2 := by
  refine conv_cell _ _ x b ?_ hx
  have hlt : w.heap.size < (w.alloc (.cells #[.int .u8 x] t)).drew.heap.size := by show w.heap.size < (w.alloc (.cells #[.int .u8 x] t)).heap.size; simp
  rw [h.cell (p := ⟨w.heap.size, 0, none⟩) hlt (fun z => z)]
  exact cell_lit w _ _ 0

theorem hi_byte (n : Nat) : 128 + (n : Int) % 128 = ((UInt8.ofNat (n % 128 + 128)).toNat : Nat) := by
  rw [UInt8.toNat_ofNat']; omega

theorem leb_size (n : Nat) (h : n < Silo.M64) : (S (Silo.leb n)).size ≤ 10 := Silo.leb_len n h

set_option maxHeartbeats 2000000 in
set_option maxRecDepth 100000 in
theorem RefCode_any (n : Nat) : ∀ (w : World), n < Silo.M64 →
    Calls Try.prog 47 #[.int .u64 n] w fun e w' => e = .returned (.string (S (Silo.leb n))) ∧ Fp (fun _ => False) w w' := by
  induction n using Nat.strongRecOn with
  | _ n ih =>
    intro w hn
    have hs1 := S_one
    by_cases h : n < 128
    · have hcv : ∀ (u : World) (t : TypeId), (convert 84 9 (.slice (some ⟨u.heap.size, 0, none⟩) 1 1)).run Try.prog (u.alloc (.cells #[.int .u8 (n : Int)] t)) = .ok (.string (S [UInt8.ofNat n])) (u.alloc (.cells #[.int .u8 (n : Int)] t)) := fun u t =>
        conv_cell _ _ _ _ (cell_lit _ _ _ 0) (lo128 n h)
      go_enter Try.func47, Try.ntmps47
      go_wp2
      go_ret
      exact ⟨ret_val (by rw [Silo.leb_lo n h]; simp), Fp.alloc _ _ _⟩
    · obtain ⟨bb, hbb⟩ : ∃ bb, bb = UInt8.ofNat (n % 128 + 128) := ⟨_, rfl⟩
      have hb : 128 + (n : Int) % 128 = (bb.toNat : Nat) := by rw [hbb]; exact hi_byte n
      have HB : Hid _ := And.intro hbb hb
      clear hbb
      have hcv : ∀ (u : World) (t : TypeId), (convert 84 9 (.slice (some ⟨u.heap.size, 0, none⟩) 1 1)).run Try.prog (u.alloc (.cells #[.int .u8 (128 + (n : Int) % 128)] t)) = .ok (.string (S [bb])) (u.alloc (.cells #[.int .u8 (128 + (n : Int) % 128)] t)) := fun u t =>
        conv_cell _ _ _ _ (cell_lit _ _ _ 0) hb
      have hd : n / 128 < Silo.M64 := Nat.lt_of_le_of_lt (Nat.div_le_self _ _) hn
      have hIH : ∀ u : World, Calls Try.prog 47 #[.int .u64 ((n : Int) / 128)] u fun e w' => e = .returned (.string (S (Silo.leb (n / 128)))) ∧ Fp (fun _ => False) u w' := fun u => by
        have := ih (n / 128) (by omega) u hd
        rwa [Int.natCast_ediv] at this
      have HI : Hid _ := hIH
      have hsz := leb_size (n / 128) hd
      clear ih hd hIH
      unfold Silo.M64 at hn
      have hcw : ∀ t : TypeId, (convert 84 9 (.slice (some ⟨w.heap.size, 0, none⟩) 1 1)).run Try.prog (w.alloc (.cells #[.int .u8 (128 + (n : Int) % 128)] t)).drew = .ok (.string (S [bb])) (w.alloc (.cells #[.int .u8 (128 + (n : Int) % 128)] t)).drew := fun t =>
        conv_cell _ _ _ _ (cell_lit w _ _ 0) hb
      clear hb
      have f1 : (n : Int).tmod 128 = (n : Int) % 128 := Int.tmod_eq_emod_of_nonneg (by omega)
      have f2 : IntKind.u64.wrap (128 + (n : Int) % 128) = 128 + (n : Int) % 128 := by rw [IntKind.wrap_u64]; omega
      have f3 : IntKind.u8.wrap (128 + (n : Int) % 128) = 128 + (n : Int) % 128 := by rw [IntKind.wrap_u8]; omega
      have f4 : IntKind.u64.wrap ((n : Int) / 128) = (n : Int) / 128 := by rw [IntKind.wrap_u64]; omega
      go_enter Try.func47, Try.ntmps47
      go_wp2_with fail
      go_region_with (go_at_call 47; refine (HI.out _).mono ?_; rintro e w2 ⟨rfl, h2⟩; first | (have hx := conv_after h2 HB.out.2; have H2 : Hid _ := h2; clear h2) | (have H2 : Hid _ := h2; clear h2))
      all_goals go_wp2
      all_goals go_ret
      all_goals have hsum : S (Silo.leb n) = S [bb] ++ S (Silo.leb (n / 128)) := by rw [Silo.leb_hi n h, HB.out.1, S_append]; rfl
      all_goals refine ⟨ret_val ?_, ?_⟩
      all_goals first
        | (rw [hsum]; simp [Act.put]; done)
        | exact ((Fp.alloc _ _ _).trans' (Fp.drew _ _)).trans' H2.out
        | exact (Fp.drew _ _).trans' (H2.out.trans' (Fp.alloc _ _ _))

end Go.Proofs.Ytojjkjfcbfoinaa

namespace Silo

/-- What bytes add up to, seven bits each, the low ones first. -/
def valB : List UInt8 → Nat
  | [] => 0
  | b :: l => b.toNat % 128 + 128 * valB l

theorem valB_snoc (l : List UInt8) (b : UInt8) : valB (l ++ [b]) = valB l + 128 ^ l.length * (b.toNat % 128) := by
  induction l with
  | nil => simp [valB]
  | cons a l ih =>
    simp only [List.cons_append, valB, ih, List.length_cons, Nat.pow_succ]
    rw [Nat.mul_add, Nat.mul_comm (128 ^ l.length) 128, Nat.mul_assoc]
    omega

theorem valB_leb (n : Nat) : valB (leb n) = n := by
  induction n using Nat.strongRecOn with
  | _ n ih =>
    by_cases h : n < 128
    · rw [leb_lo n h]; simp [valB]; omega
    · rw [leb_hi n h, valB, ih (n / 128) (by omega), UInt8.toNat_ofNat']
      omega

theorem leb_shape (n : Nat) : ∃ bs b, leb n = bs ++ [b] ∧ (∀ x ∈ bs, 128 ≤ x.toNat) ∧ b.toNat < 128 := by
  induction n using Nat.strongRecOn with
  | _ n ih =>
    by_cases h : n < 128
    · exact ⟨[], UInt8.ofNat n, leb_lo n h, by simp, by rw [UInt8.toNat_ofNat']; omega⟩
    · obtain ⟨bs, b, h1, h2, h3⟩ := ih (n / 128) (by omega)
      refine ⟨UInt8.ofNat (n % 128 + 128) :: bs, b, by rw [leb_hi n h, h1]; rfl, ?_, h3⟩
      intro x hx
      rcases List.mem_cons.1 hx with rfl | hx
      · rw [UInt8.toNat_ofNat']; omega
      · exact h2 x hx

theorem split_unique : ∀ (bs bs' : List UInt8) (b b' : UInt8) (r r' : List UInt8), bs ++ b :: r = bs' ++ b' :: r' → (∀ x ∈ bs, 128 ≤ x.toNat) → (∀ x ∈ bs', 128 ≤ x.toNat) → b.toNat < 128 → b'.toNat < 128 → bs = bs' ∧ b = b' ∧ r = r'
  | [], [], b, b', r, r', h, _, _, _, _ => by simp at h; exact ⟨rfl, h⟩
  | [], c :: bs', b, b', r, r', h, _, h2, h3, _ => by
    simp at h
    have := h2 c (by simp)
    rw [← h.1] at this
    omega
  | c :: bs, [], b, b', r, r', h, h1, _, _, h4 => by
    simp at h
    have := h1 c (by simp)
    rw [h.1] at this
    omega
  | c :: bs, d :: bs', b, b', r, r', h, h1, h2, h3, h4 => by
    simp at h
    obtain ⟨e1, e2, e3⟩ := split_unique bs bs' b b' r r' h.2 (fun x hx => h1 x (by simp [hx])) (fun x hx => h2 x (by simp [hx])) h3 h4
    exact ⟨by rw [h.1, e1], e2, e3⟩

/-- Behind bytes that go on, and one that ends: a code stands there just where these are the code of what they add up to. -/
theorem rd_end {l bs r : List UInt8} {b : UInt8} (hl : l = bs ++ b :: r) (h1 : ∀ x ∈ bs, 128 ≤ x.toNat) (h2 : b.toNat < 128) :
    rdCode l = if bs ++ [b] = leb (valB (bs ++ [b]) % M64) then some (valB (bs ++ [b]) % M64, r) else none := by
  split
  · rename_i h
    have e : l = leb (valB (bs ++ [b]) % M64) ++ r := by rw [← h, hl]; simp
    rw [e]
    exact rdCode_leb _ _ (Nat.mod_lt _ M64_pos)
  · rename_i h
    cases hc : rdCode l with
    | none => rfl
    | some x =>
      obtain ⟨n, r'⟩ := x
      obtain ⟨e1, e2⟩ := rdCode_some hc
      obtain ⟨bs', b', g1, g2, g3⟩ := leb_shape n
      rw [g1] at e1
      obtain ⟨rfl, rfl, rfl⟩ := split_unique bs bs' b b' r r' (by rw [← hl, e1]; simp) h1 g2 h2 g3
      exfalso
      apply h
      rw [← g1, valB_leb, Nat.mod_eq_of_lt e2]

/-- Where no byte ends it there is none. -/
theorem rd_long {l bs r : List UInt8} (hl : l = bs ++ r) (h1 : ∀ x ∈ bs, 128 ≤ x.toNat) (h2 : r = [] ∨ 10 ≤ bs.length) : rdCode l = none := by
  cases hc : rdCode l with
  | none => rfl
  | some x =>
    exfalso
    obtain ⟨n, r'⟩ := x
    obtain ⟨e1, e2⟩ := rdCode_some hc
    obtain ⟨bs', b', g1, g2, g3⟩ := leb_shape n
    have hlen := leb_len n e2
    have hb' : bs'.length < bs.length := by
      rcases h2 with rfl | h2
      · have := congrArg List.length (hl.symm.trans e1)
        rw [g1] at this
        simp at this
        omega
      · rw [g1] at hlen
        simp at hlen
        omega
    have e3 : l[bs'.length]? = some b' := by rw [e1, g1]; simp
    have e4 : l[bs'.length]? = some bs[bs'.length] := by rw [hl, List.getElem?_append_left hb']; simp [hb']
    rw [e3] at e4
    have h5 := h1 bs[bs'.length] (List.getElem_mem _)
    simp at e4
    rw [← e4] at h5
    omega

end Silo

namespace Go.Proofs.Ytojjkjfcbfoinaa
open Go.RowKit

/-- What Read answers at i, where the code is or is not. -/
def readRes (i : Nat) : Option (Nat × List UInt8) → Value
  | some (n, _) => .tuple #[.int .u64 (n : Nat), .int .i64 ((i + (Silo.leb n).length : Nat) : Int)]
  | none => .tuple #[.int .u64 0, .int .i64 (-1)]

theorem acc_step (x k : Nat) (b : UInt8) (bs : List UInt8) (hx : x = Silo.valB bs % Silo.M64) (hk : bs.length = k) :
    IntKind.u64.wrap ((x : Int) + IntKind.u64.wrap ((b.toNat : Int) % 128 * 2 ^ (7 * k))) = ((Silo.valB (bs ++ [b]) % Silo.M64 : Nat) : Int) := by
  have e : (b.toNat : Int) % 128 * 2 ^ (7 * k) = ((b.toNat % 128 * 128 ^ k : Nat) : Int) := by
    rw [Int.natCast_mul, Int.natCast_emod, Int.natCast_pow, Int.pow_mul]
    rfl
  rw [e, Silo.valB_snoc, hk, Nat.mul_comm (128 ^ k), hx, IntKind.wrap_u64, IntKind.wrap_u64]
  generalize b.toNat % 128 * 128 ^ k = c
  generalize Silo.valB bs = d
  unfold Silo.M64
  omega

theorem take_next (l : List UInt8) (i k : Nat) (h : i + k < l.length) : (l.drop i).take (k + 1) = (l.drop i).take k ++ [l[i + k]] := by
  rw [List.take_succ_eq_append_getElem (by simp; omega)]
  simp

theorem S_extract (s : ByteArray) (a b : Nat) : s.extract a b = S ((s.data.toList.drop a).take (b - a)) := by
  apply ByteArray.ext
  apply Array.toList_inj.1
  rw [S_toList]
  simp [ByteArray.data_extract, Array.toList_extract, List.extract_eq_take_drop]

set_option maxHeartbeats 2000000 in
set_option maxRecDepth 100000 in
theorem RefRead_any (l : List UInt8) (i : Nat) (w : World) (hi : i ≤ l.length) (hl : l.length ≤ 1099511627776) :
    Calls Try.prog 29 #[.string (S l), .int .i64 i] w fun e w' => e = .returned (readRes i (Silo.rdCode (l.drop i))) ∧ Fp (fun _ => False) w w' := by
  have hs : (S l).size = l.length := rfl
  go_enter Try.func29, Try.ntmps29
  go_wp2_with fail
  go_loop [6, 7] (fun v kv => ∃ k : Nat, k ≤ 10 ∧ i + k ≤ l.length ∧ kv = .int .i64 k ∧ ∃ x : Nat, v = .int .u64 x ∧ x < 18446744073709551616 ∧ Hid (x = Silo.valB ((l.drop i).take k) % Silo.M64 ∧ ∀ y ∈ (l.drop i).take k, 128 ≤ y.toNat)) (fun _ kv => 10 - (intOf kv).toNat)
  case atStart => exact ⟨0, by omega, by omega, rfl, 0, rfl, by omega, rfl, by simp⟩
  case round =>
    obtain ⟨k, hk, hik, rfl, x, rfl, hx, HR⟩ := hrel
    by_cases hk10 : k < 10
    · by_cases hlt : i + k < l.length
      · have hb : (S l)[i + k]'(by rw [hs]; exact hlt) = l[i + k] := rfl
        have hst := acc_step x k l[i + k] _ HR.out.1 (by simp; omega)
        rw [← take_next l i k hlt] at hst
        obtain ⟨y, hy⟩ : ∃ y, Silo.valB ((l.drop i).take (k + 1)) % Silo.M64 = y := ⟨_, rfl⟩
        rw [hy] at hst
        have hy9 : y < Silo.M64 := by rw [← hy]; exact Nat.mod_lt _ Silo.M64_pos
        have HY : Hid _ := And.intro hy hy9
        have HST : Hid _ := hst
        unfold Silo.M64 at hy9
        clear hy hst
        by_cases h128 : (l[i + k]).toNat < 128
        · go_wp2_with fail
          simp only [HST.out]
          refine (RefCode_any y w HY.out.2).mono ?_
          rintro e w2 ⟨rfl, h2⟩
          have H2 : Hid _ := h2
          clear h2
          have hsz := leb_size y HY.out.2
          have hrd := Silo.rd_end (l := l.drop i) (bs := (l.drop i).take k) (b := l[i + k]) (r := (l.drop i).drop (k + 1)) (by rw [List.append_cons, ← take_next l i k hlt, List.take_append_drop]) HR.out.2 h128
          rw [← take_next l i k hlt, HY.out.1] at hrd
          have hex : ((S l).extract i (i + k + 1)).toList = (l.drop i).take (k + 1) := by
            rw [S_extract, bytes_toList, S_toList, S_toList]
            congr 1; omega
          by_cases heq : (l.drop i).take (k + 1) = Silo.leb y
          · have hc : (((S l).extract i (i + k + 1)).toList == (S (Silo.leb y)).toList) = true := by
              rw [hex, bytes_toList, S_toList, heq]; simp
            rw [if_pos heq] at hrd
            have hle : k + 1 = (Silo.leb y).length := by rw [← heq]; simp; omega
            have HRD : Hid _ := And.intro hrd hle
            clear hrd hex heq hle
            go_wp2
            go_ret2
            exact ⟨ret_val (by rw [HRD.out.1]; simp [readRes, ← HRD.out.2]; omega), H2.out⟩
          · have hc : (((S l).extract i (i + k + 1)).toList == (S (Silo.leb y)).toList) = false := by
              rw [hex, bytes_toList, S_toList]; simpa using heq
            rw [if_neg heq] at hrd
            have HRD : Hid _ := hrd
            clear hrd hex heq
            go_wp2
            go_ret2
            exact ⟨ret_val (by rw [HRD.out]; simp [readRes]), H2.out⟩
        · go_wp2_with fail
          go_round
          case rel => 
            refine ⟨k + 1, by omega, by omega, by go_num, y, by rw [HST.out], hy9, HY.out.1.symm, ?_⟩
            rw [take_next l i k hlt]
            intro z hz
            rcases List.mem_append.1 hz with hz | hz
            · exact HR.out.2 z hz
            · simp only [List.mem_singleton] at hz
              rw [hz]; omega
          case measure => simp [intOf]; omega
      · have : (l.drop i).take k = l.drop i := List.take_of_length_le (by simp; omega)
        have hn : Silo.rdCode (l.drop i) = none := Silo.rd_long (bs := (l.drop i).take k) (r := []) (by rw [this]; simp) HR.out.2 (.inl rfl)
        have HN : Hid _ := hn
        clear hn this
        go_wp2
        go_ret2
        exact ⟨ret_val (by rw [HN.out]; simp [readRes]), Fp.refl _ _⟩
    · obtain rfl : k = 10 := by omega
      have hn : Silo.rdCode (l.drop i) = none := Silo.rd_long (bs := (l.drop i).take 10) (r := (l.drop i).drop 10) (by rw [List.take_append_drop]) HR.out.2 (.inr (by simp; omega))
      have HN : Hid _ := hn
      clear hn
      go_wp2
      go_ret2
      exact ⟨ret_val (by rw [HN.out]; simp [readRes]), Fp.refl _ _⟩

end Go.Proofs.Ytojjkjfcbfoinaa

namespace Silo

/-- Does x come to stand here, ahead of y? -/
def here (x : Smp) (put : Bool) (y : Smp) : Bool := !put && (decide (x.s < y.s) || (decide (x.s = y.s) && decide (x.t ≤ y.t)))
def layStep (x : Smp) (st : List Smp × Bool) (y : Smp) : List Smp × Bool :=
  ((if here x st.2 y then st.1 ++ [x] else st.1) ++ (if x.s = y.s ∧ x.t = y.t then [] else [y]), st.2 || here x st.2 y)
def layR (l : List Smp) (x : Smp) : List Smp := let r := l.foldl (layStep x) ([], false); if r.2 then r.1 else r.1 ++ [x]

theorem layR_ahead (x : Smp) : ∀ (l out : List Smp), (∀ y ∈ l, ahead y x = true) → l.foldl (layStep x) (out, false) = (out ++ l, false) := by
  intro l
  induction l with
  | nil => intro out _; simp
  | cons y l ih =>
    intro out h
    have hy : bef y x := ahead_bef.1 (h y (by simp))
    have h1 : here x false y = false := by
      unfold here
      unfold bef at hy
      have a1 : decide (x.s < y.s) = false := by simp; omega
      by_cases e : x.s = y.s
      · have a2 : decide (x.t ≤ y.t) = false := by simp; omega
        simp [a1, a2]
      · simp [a1, e]
    have h2 : ¬ (x.s = y.s ∧ x.t = y.t) := by unfold bef at hy; omega
    rw [List.foldl_cons]
    have : layStep x (out, false) y = (out ++ [y], false) := by simp [layStep, h1, h2]
    rw [this, ih (out ++ [y]) (fun z hz => h z (by simp [hz]))]
    simp

theorem layR_behind (x : Smp) : ∀ (l out : List Smp), (∀ y ∈ l, bef x y) → l.foldl (layStep x) (out, true) = (out ++ l, true) := by
  intro l
  induction l with
  | nil => intro out _; simp
  | cons y l ih =>
    intro out h
    have hy := h y (by simp)
    have h2 : ¬ (x.s = y.s ∧ x.t = y.t) := by unfold bef at hy; omega
    rw [List.foldl_cons]
    have : layStep x (out, true) y = (out ++ [y], true) := by simp [layStep, here, h2]
    rw [this, ih (out ++ [y]) (fun z hz => h z (by simp [hz]))]
    simp

theorem take_of_app {a b l : List Smp} (h : a ++ b = l) : l.take a.length = a := by rw [← h]; simp
theorem drop_of_app {a b l : List Smp} (h : a ++ b = l) : l.drop a.length = b := by rw [← h]; simp

theorem layR_eq {l : List Smp} (hl : AscS l) (x : Smp) : layR l x = layL l x := by
  have hsplit : l = l.take (place l x) ++ l.drop (place l x) := (List.take_append_drop _ _).symm
  have htw : l.take (place l x) = l.takeWhile (fun a => ahead a x) := take_of_app (List.takeWhile_append_dropWhile (p := fun a => ahead a x) (l := l))
  have hah : ∀ y ∈ l.take (place l x), ahead y x = true := fun y hy => by rw [htw] at hy; exact mem_tw (fun a => ahead a x) l hy
  have key : l.foldl (layStep x) ([], false) = (l.drop (place l x)).foldl (layStep x) (l.take (place l x), false) := by
    conv => lhs; rw [hsplit]
    rw [List.foldl_append, layR_ahead x _ [] hah]
    rfl
  have hdrop : AscS (l.drop (place l x)) := List.Pairwise.sublist (List.drop_sublist _ _) hl
  have hnext : ∀ y ys, l.drop (place l x) = y :: ys → ahead y x = false := fun y ys hy => by
    have hdw : l.drop (place l x) = l.dropWhile (fun a => ahead a x) := drop_of_app (List.takeWhile_append_dropWhile (p := fun a => ahead a x) (l := l))
    rw [hdw] at hy
    have := List.head?_dropWhile_not (fun a => ahead a x) l
    rw [hy] at this
    simpa using this
  unfold layR layL
  simp only [key]
  cases hd : l.drop (place l x) with
  | nil =>
    have : layRest l x = [] := by unfold layRest; rw [hd]
    simp [this]
  | cons y ys =>
    have hn := hnext y ys hd
    have hnb : ¬ bef y x := fun h => by rw [ahead_bef.2 h] at hn; cases hn
    rw [hd] at hdrop
    have hys : ∀ z ∈ ys, bef y z := (List.pairwise_cons.1 hdrop).1
    have hxz : ∀ z ∈ ys, bef x z := fun z hz => by
      have := hys z hz
      unfold bef at this hnb ⊢
      omega
    have hh : here x false y = true := by
      unfold here
      unfold bef at hnb
      by_cases e1 : x.s < y.s
      · simp [e1]
      · have e2 : x.s = y.s := by omega
        have e3 : x.t ≤ y.t := by omega
        simp [e2, e3]
    have hrest : layRest l x = if sameKey y x then ys else y :: ys := by unfold layRest; rw [hd]
    rw [List.foldl_cons]
    by_cases e : x.s = y.s ∧ x.t = y.t
    · have e' : sameKey y x = true := by simp [sameKey, e.1, e.2]
      have : layStep x (l.take (place l x), false) y = (l.take (place l x) ++ [x], true) := by simp [layStep, hh, e]
      rw [this, layR_behind x ys _ hxz, hrest, e']
      simp
    · have e' : sameKey y x = false := by simp [sameKey]; omega
      have : layStep x (l.take (place l x), false) y = (l.take (place l x) ++ [x] ++ [y], true) := by simp [layStep, hh, e]
      rw [this, layR_behind x ys _ hxz, hrest, e']
      simp

theorem step_none {x y : Smp} {out : List Smp} (hs : x.s = y.s) (ht : x.t = y.t) : layStep x (out, true) y = (out, true) := by simp [layStep, here, hs, ht]
theorem step_yp {x y : Smp} {out : List Smp} (h : ¬ (x.s = y.s ∧ x.t = y.t)) : layStep x (out, true) y = (out ++ [y], true) := by simp [layStep, here, h]
theorem step_x {x y : Smp} {out : List Smp} (hs : x.s = y.s) (ht : x.t = y.t) : layStep x (out, false) y = (out ++ [x], true) := by simp [layStep, here, hs, ht]
theorem step_xy {x y : Smp} {out : List Smp} (h : ¬ (x.s = y.s ∧ x.t = y.t)) (hh : x.s < y.s ∨ x.s = y.s ∧ x.t ≤ y.t) : layStep x (out, false) y = (out ++ [x] ++ [y], true) := by
  have : here x false y = true := by unfold here; simpa using hh
  simp [layStep, this, h]
theorem step_y {x y : Smp} {out : List Smp} (h : ¬ (x.s = y.s ∧ x.t = y.t)) (hh : ¬ (x.s < y.s ∨ x.s = y.s ∧ x.t ≤ y.t)) : layStep x (out, false) y = (out ++ [y], false) := by
  have : here x false y = false := by unfold here; simpa using hh
  simp [layStep, this, h]

end Silo

namespace Go.Proofs.Ytojjkjfcbfoinaa
open Go.RowKit Go.Shelf

/-- A sample lies in block b. -/
structure Lies (W : World) (b : Nat) (x : Silo.Smp) : Prop where
  lt : b < W.heap.size
  c0 : W.cell? ⟨b, 0, none⟩ = some (.int .i64 x.s)
  c1 : W.cell? ⟨b, 1, none⟩ = some (.int .i64 x.t)
  c2 : W.cell? ⟨b, 2, none⟩ = some (.int .u64 (x.v : Nat))

theorem Lies.new (w : World) (x : Silo.Smp) (t : TypeId) : Lies (w.alloc (.cells #[.int .i64 x.s, .int .i64 x.t, .int .u64 (x.v : Nat)] t)) w.heap.size x :=
  ⟨by simp, by simp, by simp, by simp⟩

theorem Lies.next {W W' : World} {b : Nat} {x : Silo.Smp} {S : Nat → Prop} (h : Lies W b x) (hf : Fp S W W') (hS : ¬ S b) : Lies W' b x :=
  ⟨Nat.lt_of_lt_of_le h.lt hf.size, by rw [hf.cell (p := ⟨b, 0, none⟩) h.lt hS]; exact h.c0, by rw [hf.cell (p := ⟨b, 1, none⟩) h.lt hS]; exact h.c1, by rw [hf.cell (p := ⟨b, 2, none⟩) h.lt hS]; exact h.c2⟩

/-- A new block of one sample at the heap's end, as what is appended. -/
theorem src_new (W : World) (y : Silo.Smp) (t : TypeId) (b : Nat) (hb : b = W.heap.size) : ∀ j u, (smpCells [y])[j]? = some u → (W.alloc (.cells #[.int .i64 y.s, .int .i64 y.t, .int .u64 (y.v : Nat)] t)).cell? ((⟨b, 0, none⟩ : Addr).add j) = some u := by
  subst hb
  exact smp_new W y t

set_option maxHeartbeats 1000000 in
theorem Refallowed_any (w : World) (v : Value) (xs : List Silo.Smp) (hin : SmpIn w w.heap.size v xs) (hl : xs.length ≤ 1099511627776) :
    Calls Try.prog 26 #[v] w fun e w' => e = .returned (.bool (Silo.fits xs)) ∧ w' = w := by
  obtain ⟨ad, c, rfl, hin'⟩ := hin
  have H : Hid _ := hin'
  clear hin'
  go_enter Try.func26, Try.ntmps26
  go_wp2_with fail
  go_loop [3] (fun iv => ∃ k : Nat, k ≤ xs.length ∧ iv = .int .i64 k ∧ Hid (Silo.fits (xs.take k) = true)) (fun iv => xs.length - (intOf iv).toNat)
  case atStart => exact ⟨0, by omega, rfl, (rfl : Silo.fits (xs.take 0) = true)⟩
  case round =>
    obtain ⟨k, hk, rfl, HR⟩ := hrel
    by_cases hlt : k < xs.length
    · obtain ⟨b, off, hb⟩ : ∃ b off, ad = some ⟨b, off, none⟩ ∧ b < w.heap.size ∧ ∀ k (hk : k < xs.length),
          w.cell? ⟨b, off + k * 3, none⟩ = some (.int .i64 xs[k].s) ∧ w.cell? ⟨b, off + k * 3 + 1, none⟩ = some (.int .i64 xs[k].t) ∧ w.cell? ⟨b, off + k * 3 + 2, none⟩ = some (.int .u64 (xs[k].v : Nat)) := by
        rcases H.out with h | h
        · rw [h] at hlt; simp at hlt
        · exact h
      obtain ⟨rfl, hbt, hcell⟩ := hb
      obtain ⟨c0, c1, c2⟩ := hcell k hlt
      obtain ⟨x, hx⟩ : ∃ x, xs[k] = x := ⟨_, rfl⟩
      rw [hx] at c0 c1 c2
      have HX : Hid _ := hx
      clear hcell hx
      have kN : (k : Int) < (xs.length : Int) := by omega
      by_cases h1 : x.s < 0
      · go_wp2
        go_ret
        exact ⟨ret_val (by rw [fits_not hlt (by rw [HX.out]; omega)]; simp), rfl⟩
      · by_cases h2 : 16 ≤ x.s
        · go_wp2
          go_ret
          exact ⟨ret_val (by rw [fits_not hlt (by rw [HX.out]; omega)]; simp), rfl⟩
        · go_wp2
          go_round
          case rel => exact ⟨k + 1, by omega, by go_num, fits_cons hlt HR.out (by rw [HX.out]; omega)⟩
          case measure => simp [intOf]; omega
    · obtain rfl : k = xs.length := by omega
      go_wp2
      go_ret
      have := HR.out
      rw [List.take_length] at this
      exact ⟨ret_val (by rw [this]; simp), rfl⟩

/-- What the loop has made of the first k samples. -/
def laid (x : Silo.Smp) (l : List Silo.Smp) (k : Nat) : List Silo.Smp × Bool := (l.take k).foldl (Silo.layStep x) ([], false)

theorem laid_next {x : Silo.Smp} {l : List Silo.Smp} {k : Nat} (h : k < l.length) {y : Silo.Smp} (hy : l[k] = y) : laid x l (k + 1) = Silo.layStep x (laid x l k) y := by
  unfold laid
  rw [List.take_succ_eq_append_getElem h, List.foldl_append, hy]
  rfl

theorem laid_len (x : Silo.Smp) (l : List Silo.Smp) (k : Nat) : (laid x l k).1.length ≤ 2 * k := by
  have key : ∀ (l : List Silo.Smp) (st : List Silo.Smp × Bool), (l.foldl (Silo.layStep x) st).1.length ≤ st.1.length + 2 * l.length := by
    intro l
    induction l with
    | nil => intro st; simp
    | cons y l ih =>
      intro st
      have := ih (Silo.layStep x st y)
      have h2 : (Silo.layStep x st y).1.length ≤ st.1.length + 2 := by
        unfold Silo.layStep
        simp only [List.length_append]
        split <;> split <;> simp
      simp only [List.foldl_cons, List.length_cons]
      omega
  have := key (l.take k) ([], false)
  have h3 : (l.take k).length ≤ k := by simp; omega
  unfold laid
  simp only [List.length_nil] at this
  omega

set_option maxHeartbeats 4000000 in
set_option maxRecDepth 100000 in
theorem RefLay_any (l : List Silo.Smp) (x : Silo.Smp) (v : Value) (w : World) (hin : SmpIn w w.heap.size v l) (hl : l.length ≤ 1073741824) :
    Calls Try.prog 50 #[v, .agg #[.int .i64 x.s, .int .i64 x.t, .int .u64 (x.v : Nat)]] w fun e w' => ∃ v', e = .returned v' ∧ World.smpsAt w' w.heap.size v' (Silo.layR l x) ∧ Fp (fun _ => False) w w' := by
  obtain ⟨ad, c, rfl, hin'⟩ := hin
  have H : Hid _ := hin'
  clear hin'
  go_enter Try.func50, Try.ntmps50
  go_wp2_with fail
  go_loopw [5, 6, 7] (fun ov pv iv wr => ∃ k : Nat, k ≤ l.length ∧ iv = .int .i64 k ∧ pv = .bool (laid x l k).2 ∧ Hid (World.smpsAt wr (w.heap.size + 1) ov (laid x l k).1 ∧ Lies wr w.heap.size x ∧ Fp (fun _ => False) w wr)) (fun _ _ iv _ => l.length - (intOf iv).toNat)
  case atStart => exact ⟨0, by omega, rfl, rfl, nil_row _ _, Lies.new w x _, Fp.alloc _ _ _⟩
  case round =>
    obtain ⟨k, hk, rfl, rfl, HR⟩ := hrel
    by_cases hlt : k < l.length
    · obtain ⟨b, off, hb⟩ : ∃ b off, ad = some ⟨b, off, none⟩ ∧ b < w.heap.size ∧ ∀ k (hk : k < l.length),
          w.cell? ⟨b, off + k * 3, none⟩ = some (.int .i64 l[k].s) ∧ w.cell? ⟨b, off + k * 3 + 1, none⟩ = some (.int .i64 l[k].t) ∧ w.cell? ⟨b, off + k * 3 + 2, none⟩ = some (.int .u64 (l[k].v : Nat)) := by
        rcases H.out with h | h
        · rw [h] at hlt; simp at hlt
        · exact h
      obtain ⟨rfl, hbt, hcell⟩ := hb
      obtain ⟨c0, c1, c2⟩ := hcell k hlt
      rw [← HR.out.2.2.cell (p := ⟨b, off + k * 3, none⟩) hbt (fun h => h)] at c0
      rw [← HR.out.2.2.cell (p := ⟨b, off + k * 3 + 1, none⟩) hbt (fun h => h)] at c1
      rw [← HR.out.2.2.cell (p := ⟨b, off + k * 3 + 2, none⟩) hbt (fun h => h)] at c2
      obtain ⟨y, hy⟩ : ∃ y, l[k] = y := ⟨_, rfl⟩
      rw [hy] at c0 c1 c2
      have hnext := laid_next (x := x) hlt hy
      have hll := laid_len x l k
      have hbr : b < wr.heap.size := Nat.lt_of_lt_of_le hbt HR.out.2.2.size
      have hwr : w.heap.size < wr.heap.size := HR.out.2.1.lt
      have x0 := HR.out.2.1.c0
      have x1 := HR.out.2.1.c1
      have x2 := HR.out.2.1.c2
      have hown : ∀ j, u5.ownBlock = some j → w.heap.size < j ∧ j < wr.heap.size := fun j hj => by
        have := World.ownsRow.lt HR.out.1 j hj
        exact ⟨this.1, this.2⟩
      have HX : Hid _ := And.intro hnext (And.intro hll (And.intro hwr hown))
      clear hcell hy hnext hll hown
      have kN : (k : Int) < (l.length : Int) := by omega
      obtain ⟨out, hout⟩ : ∃ out, (laid x l k).1 = out := ⟨_, rfl⟩
      obtain ⟨put, hput⟩ : ∃ put, (laid x l k).2 = put := ⟨_, rfl⟩
      rw [hput]
      have HO : Hid _ := And.intro hout hput
      clear hout hput
      cases put with
      | true =>
        by_cases es : x.s = y.s
        · by_cases et : x.t = y.t
          · skip
            have HS : Hid (laid x l (k + 1) = (out, true)) := by rw [HX.out.1, show laid x l k = (out, true) from Prod.ext HO.out.1 HO.out.2]; exact Silo.step_none es et
            have f2 : (x.s != y.s) = false := by simpa using es
            have f3 : (x.s == y.s) = true := by simpa using es
            have f4 : ¬ x.s < y.s := by omega
            have f1 : (x.t != y.t) = false := by simpa using et
            have f5 : x.t ≤ y.t := by omega
            clear es et

            go_wp2
            go_roundw
            case rel =>
              refine ⟨k + 1, by omega, by go_num, by rw [HS.out], ?_, HR.out.2.1.next (Fp.alloc (fun _ => False) _ _) (fun h => h), HR.out.2.2.trans' (Fp.alloc _ _ _)⟩
              rw [HS.out]
              exact Fp.ownsRow (Fp.alloc (fun _ => False) _ _) (HO.out.1 ▸ HR.out.1) (fun _ _ h => h)
            case measure => simp [intOf]; omega
          · skip
            have HS : Hid (laid x l (k + 1) = (out ++ [y], true)) := by rw [HX.out.1, show laid x l k = (out, true) from Prod.ext HO.out.1 HO.out.2]; exact Silo.step_yp (fun h => et h.2)
            have f2 : (x.s != y.s) = false := by simpa using es
            have f3 : (x.s == y.s) = true := by simpa using es
            have f4 : ¬ x.s < y.s := by omega
            have f1 : (x.t != y.t) = true := by simpa using et
            clear es et

            go_wp2_with (at_builtin; refine wpList_append_smp rfl _ _ rfl (w.heap.size + 1) u5 out y rfl ?c1 _ rfl ?c2 ?c3 ?c4 ?_; rotate_left 4; intro g1 cap1 w2 HA)
            case c1 => exact Fp.ownsRow ((Fp.alloc (fun _ => False) _ _).trans' (Fp.alloc _ _ _)) (HO.out.1 ▸ HR.out.1) (fun _ _ h => h)
            case c2 => first | exact src_new _ _ _ _ (by simp) | exact src_new _ _ _ _ rfl | (intro j u hj; exact hj)
            case c3 => have h1 := HX.out.2.1; rw [HO.out.1] at h1; omega
            case c4 => first | omega | (simp; omega)
            go_roundw
            case rel =>
              refine ⟨k + 1, by omega, by go_num, by rw [HS.out], ?_, ?_, ?_⟩
              · rw [HS.out]; exact HA.out.row
              · exact ((HR.out.2.1.next (Fp.alloc (fun _ => False) _ _) (fun h => h)).next (Fp.alloc (fun _ => False) _ _) (fun h => h)).next HA.out.foot (fun h => by have := (HX.out.2.2.2 _ h).1; omega)
              · exact (HR.out.2.2.trans' ((Fp.alloc _ _ _).trans' (Fp.alloc _ _ _))).trans HA.out.foot (fun _ h => h) (fun j hj h => by have := (HX.out.2.2.2 j h).1; omega)
            case measure => simp [intOf]; omega
        · skip
          have HS : Hid (laid x l (k + 1) = (out ++ [y], true)) := by rw [HX.out.1, show laid x l k = (out, true) from Prod.ext HO.out.1 HO.out.2]; exact Silo.step_yp (fun h => es h.1)
          have f2 : (x.s != y.s) = true := by simpa using es
          have f3 : (x.s == y.s) = false := by simpa using es
          clear es

          go_wp2_with (at_builtin; refine wpList_append_smp rfl _ _ rfl (w.heap.size + 1) u5 out y rfl ?c1 _ rfl ?c2 ?c3 ?c4 ?_; rotate_left 4; intro g1 cap1 w2 HA)
          case c1 => exact Fp.ownsRow ((Fp.alloc (fun _ => False) _ _).trans' (Fp.alloc _ _ _)) (HO.out.1 ▸ HR.out.1) (fun _ _ h => h)
          case c2 => first | exact src_new _ _ _ _ (by simp) | exact src_new _ _ _ _ rfl | (intro j u hj; exact hj)
          case c3 => have h1 := HX.out.2.1; rw [HO.out.1] at h1; omega
          case c4 => first | omega | (simp; omega)
          go_roundw
          case rel =>
            refine ⟨k + 1, by omega, by go_num, by rw [HS.out], ?_, ?_, ?_⟩
            · rw [HS.out]; exact HA.out.row
            · exact ((HR.out.2.1.next (Fp.alloc (fun _ => False) _ _) (fun h => h)).next (Fp.alloc (fun _ => False) _ _) (fun h => h)).next HA.out.foot (fun h => by have := (HX.out.2.2.2 _ h).1; omega)
            · exact (HR.out.2.2.trans' ((Fp.alloc _ _ _).trans' (Fp.alloc _ _ _))).trans HA.out.foot (fun _ h => h) (fun j hj h => by have := (HX.out.2.2.2 j h).1; omega)
          case measure => simp [intOf]; omega
      | false =>
        by_cases es : x.s = y.s
        · by_cases et : x.t = y.t
          · skip
            have HS : Hid (laid x l (k + 1) = (out ++ [x], true)) := by rw [HX.out.1, show laid x l k = (out, false) from Prod.ext HO.out.1 HO.out.2]; exact Silo.step_x es et
            have f2 : (x.s != y.s) = false := by simpa using es
            have f3 : (x.s == y.s) = true := by simpa using es
            have f4 : ¬ x.s < y.s := by omega
            have f1 : (x.t != y.t) = false := by simpa using et
            have f5 : x.t ≤ y.t := by omega
            clear es et

            go_wp2_with (at_builtin; refine wpList_append_smp rfl _ _ rfl (w.heap.size + 1) u5 out x rfl ?c1 _ rfl ?c2 ?c3 ?c4 ?_; rotate_left 4; intro g1 cap1 w2 HA; have hx9 : ¬ (u5.ownBlock = some w.heap.size) := (fun h => by have := (HX.out.2.2.2 _ h).1; omega); have hy9 : ¬ (u5.ownBlock = some wr.heap.size) := (fun h => by have := (HX.out.2.2.2 _ h).2; omega); have lx := ((HR.out.2.1.next (Fp.alloc (fun _ => False) _ _) (fun h => h)).next (Fp.alloc (fun _ => False) _ _) (fun h => h)).next HA.out.foot hx9; have ly := ((Lies.new wr y 42).next (Fp.alloc (fun _ => False) _ _) (fun h => h)).next HA.out.foot hy9; have z0 := lx.c0; have z1 := lx.c1; have y0 := ly.c0; have y1 := ly.c1; have HL : Hid _ := And.intro lx ly; clear lx ly hx9 hy9)
            case c1 => exact Fp.ownsRow ((Fp.alloc (fun _ => False) _ _).trans' (Fp.alloc _ _ _)) (HO.out.1 ▸ HR.out.1) (fun _ _ h => h)
            case c2 => first | exact src_new _ _ _ _ (by simp) | exact src_new _ _ _ _ rfl | (intro j u hj; exact hj)
            case c3 => have h1 := HX.out.2.1; rw [HO.out.1] at h1; omega
            case c4 => first | omega | (simp; omega)
            go_roundw
            case rel =>
              refine ⟨k + 1, by omega, by go_num, by rw [HS.out], ?_, ?_, ?_⟩
              · rw [HS.out]; exact HA.out.row
              · exact ((HR.out.2.1.next (Fp.alloc (fun _ => False) _ _) (fun h => h)).next (Fp.alloc (fun _ => False) _ _) (fun h => h)).next HA.out.foot (fun h => by have := (HX.out.2.2.2 _ h).1; omega)
              · exact (HR.out.2.2.trans' ((Fp.alloc _ _ _).trans' (Fp.alloc _ _ _))).trans HA.out.foot (fun _ h => h) (fun j hj h => by have := (HX.out.2.2.2 j h).1; omega)
            case measure => simp [intOf]; omega
          · by_cases el : x.t ≤ y.t
            · skip
              have HS : Hid (laid x l (k + 1) = (out ++ [x] ++ [y], true)) := by rw [HX.out.1, show laid x l k = (out, false) from Prod.ext HO.out.1 HO.out.2]; exact Silo.step_xy (fun h => et h.2) (.inr ⟨es, el⟩)
              have f2 : (x.s != y.s) = false := by simpa using es
              have f3 : (x.s == y.s) = true := by simpa using es
              have f4 : ¬ x.s < y.s := by omega
              have f1 : (x.t != y.t) = true := by simpa using et
              clear es et

              go_wp2_with (first | (at_builtin; refine wpList_append_smp rfl _ _ rfl (w.heap.size + 1) u5 out x rfl ?c1 _ rfl ?c2 ?c3 ?c4 ?_; rotate_left 4; intro g1 cap1 w2 HA; have hx9 : ¬ (u5.ownBlock = some w.heap.size) := (fun h => by have := (HX.out.2.2.2 _ h).1; omega); have hy9 : ¬ (u5.ownBlock = some wr.heap.size) := (fun h => by have := (HX.out.2.2.2 _ h).2; omega); have lx := ((HR.out.2.1.next (Fp.alloc (fun _ => False) _ _) (fun h => h)).next (Fp.alloc (fun _ => False) _ _) (fun h => h)).next HA.out.foot hx9; have ly := ((Lies.new wr y 42).next (Fp.alloc (fun _ => False) _ _) (fun h => h)).next HA.out.foot hy9; have z0 := lx.c0; have z1 := lx.c1; have y0 := ly.c0; have y1 := ly.c1; have y2 := ly.c2; have HL : Hid _ := And.intro lx ly; clear lx ly hx9 hy9) | (at_builtin; refine wpList_append_smp rfl _ _ rfl (w.heap.size + 1) (.slice (some ⟨g1, 0, none⟩) (out.length + 1) cap1) (out ++ [x]) y rfl ?c5 _ rfl ?c6 ?c7 ?c8 ?_; rotate_left 4; intro g2 cap2 w3 HB))
              case c1 => exact Fp.ownsRow ((Fp.alloc (fun _ => False) _ _).trans' (Fp.alloc _ _ _)) (HO.out.1 ▸ HR.out.1) (fun _ _ h => h)
              case c2 => first | exact src_new _ _ _ _ (by simp) | exact src_new _ _ _ _ rfl | (intro j u hj; exact hj)
              case c3 => have h1 := HX.out.2.1; rw [HO.out.1] at h1; omega
              case c4 => first | omega | (simp; omega)
              case c5 => exact Fp.ownsRow (Fp.alloc (fun _ => False) _ _) HA.out.row (fun _ _ h => h)
              case c6 => first | exact src_new _ _ _ _ rfl | (intro j u hj; exact hj)
              case c7 => have h1 := HX.out.2.1; rw [HO.out.1] at h1; first | omega | (simp; omega)
              case c8 => have h1 := HL.out.1.lt; first | omega | (simp; omega)
              go_roundw
              case rel =>
                have h9 := HB.out.row
                rw [List.length_append, List.length_singleton] at h9
                refine ⟨k + 1, by omega, by go_num, by rw [HS.out], ?_, ?_, ?_⟩
                · rw [HS.out]; exact h9
                · exact (HL.out.1.next (Fp.alloc (fun _ => False) _ _) (fun h => h)).next HB.out.foot (fun h => by have := (World.ownsRow.lt HA.out.row _ h).1; omega)
                · exact ((HR.out.2.2.trans' ((Fp.alloc _ _ _).trans' (Fp.alloc _ _ _))).trans HA.out.foot (fun _ h => h) (fun j hj h => by have := (HX.out.2.2.2 j h).1; omega)).trans ((Fp.alloc (fun _ => False) _ _).trans HB.out.foot (fun _ h => h.elim) (fun _ _ h => h)) (fun _ h => h) (fun j hj h => by have := (World.ownsRow.lt HA.out.row j h).1; omega)
              case measure => simp [intOf]; omega
            · skip
              have HS : Hid (laid x l (k + 1) = (out ++ [y], false)) := by rw [HX.out.1, show laid x l k = (out, false) from Prod.ext HO.out.1 HO.out.2]; exact Silo.step_y (fun h => et h.2) (by omega)
              have f2 : (x.s != y.s) = false := by simpa using es
              have f3 : (x.s == y.s) = true := by simpa using es
              have f4 : ¬ x.s < y.s := by omega
              have f1 : (x.t != y.t) = true := by simpa using et
              clear es et

              go_wp2_with (at_builtin; refine wpList_append_smp rfl _ _ rfl (w.heap.size + 1) u5 out y rfl ?c1 _ rfl ?c2 ?c3 ?c4 ?_; rotate_left 4; intro g1 cap1 w2 HA)
              case c1 => exact Fp.ownsRow ((Fp.alloc (fun _ => False) _ _).trans' (Fp.alloc _ _ _)) (HO.out.1 ▸ HR.out.1) (fun _ _ h => h)
              case c2 => first | exact src_new _ _ _ _ (by simp) | exact src_new _ _ _ _ rfl | (intro j u hj; exact hj)
              case c3 => have h1 := HX.out.2.1; rw [HO.out.1] at h1; omega
              case c4 => first | omega | (simp; omega)
              go_roundw
              case rel =>
                refine ⟨k + 1, by omega, by go_num, by rw [HS.out], ?_, ?_, ?_⟩
                · rw [HS.out]; exact HA.out.row
                · exact ((HR.out.2.1.next (Fp.alloc (fun _ => False) _ _) (fun h => h)).next (Fp.alloc (fun _ => False) _ _) (fun h => h)).next HA.out.foot (fun h => by have := (HX.out.2.2.2 _ h).1; omega)
                · exact (HR.out.2.2.trans' ((Fp.alloc _ _ _).trans' (Fp.alloc _ _ _))).trans HA.out.foot (fun _ h => h) (fun j hj h => by have := (HX.out.2.2.2 j h).1; omega)
              case measure => simp [intOf]; omega
        · by_cases el : x.s < y.s
          · skip
            have HS : Hid (laid x l (k + 1) = (out ++ [x] ++ [y], true)) := by rw [HX.out.1, show laid x l k = (out, false) from Prod.ext HO.out.1 HO.out.2]; exact Silo.step_xy (fun h => es h.1) (.inl el)
            have f2 : (x.s != y.s) = true := by simpa using es
            have f3 : (x.s == y.s) = false := by simpa using es
            clear es

            go_wp2_with (first | (at_builtin; refine wpList_append_smp rfl _ _ rfl (w.heap.size + 1) u5 out x rfl ?c1 _ rfl ?c2 ?c3 ?c4 ?_; rotate_left 4; intro g1 cap1 w2 HA; have hx9 : ¬ (u5.ownBlock = some w.heap.size) := (fun h => by have := (HX.out.2.2.2 _ h).1; omega); have hy9 : ¬ (u5.ownBlock = some wr.heap.size) := (fun h => by have := (HX.out.2.2.2 _ h).2; omega); have lx := ((HR.out.2.1.next (Fp.alloc (fun _ => False) _ _) (fun h => h)).next (Fp.alloc (fun _ => False) _ _) (fun h => h)).next HA.out.foot hx9; have ly := ((Lies.new wr y 42).next (Fp.alloc (fun _ => False) _ _) (fun h => h)).next HA.out.foot hy9; have z0 := lx.c0; have z1 := lx.c1; have y0 := ly.c0; have y1 := ly.c1; have y2 := ly.c2; have HL : Hid _ := And.intro lx ly; clear lx ly hx9 hy9) | (at_builtin; refine wpList_append_smp rfl _ _ rfl (w.heap.size + 1) (.slice (some ⟨g1, 0, none⟩) (out.length + 1) cap1) (out ++ [x]) y rfl ?c5 _ rfl ?c6 ?c7 ?c8 ?_; rotate_left 4; intro g2 cap2 w3 HB))
            case c1 => exact Fp.ownsRow ((Fp.alloc (fun _ => False) _ _).trans' (Fp.alloc _ _ _)) (HO.out.1 ▸ HR.out.1) (fun _ _ h => h)
            case c2 => first | exact src_new _ _ _ _ (by simp) | exact src_new _ _ _ _ rfl | (intro j u hj; exact hj)
            case c3 => have h1 := HX.out.2.1; rw [HO.out.1] at h1; omega
            case c4 => first | omega | (simp; omega)
            case c5 => exact Fp.ownsRow (Fp.alloc (fun _ => False) _ _) HA.out.row (fun _ _ h => h)
            case c6 => first | exact src_new _ _ _ _ rfl | (intro j u hj; exact hj)
            case c7 => have h1 := HX.out.2.1; rw [HO.out.1] at h1; first | omega | (simp; omega)
            case c8 => have h1 := HL.out.1.lt; first | omega | (simp; omega)
            go_roundw
            case rel =>
              have h9 := HB.out.row
              rw [List.length_append, List.length_singleton] at h9
              refine ⟨k + 1, by omega, by go_num, by rw [HS.out], ?_, ?_, ?_⟩
              · rw [HS.out]; exact h9
              · exact (HL.out.1.next (Fp.alloc (fun _ => False) _ _) (fun h => h)).next HB.out.foot (fun h => by have := (World.ownsRow.lt HA.out.row _ h).1; omega)
              · exact ((HR.out.2.2.trans' ((Fp.alloc _ _ _).trans' (Fp.alloc _ _ _))).trans HA.out.foot (fun _ h => h) (fun j hj h => by have := (HX.out.2.2.2 j h).1; omega)).trans ((Fp.alloc (fun _ => False) _ _).trans HB.out.foot (fun _ h => h.elim) (fun _ _ h => h)) (fun _ h => h) (fun j hj h => by have := (World.ownsRow.lt HA.out.row j h).1; omega)
            case measure => simp [intOf]; omega
          · skip
            have HS : Hid (laid x l (k + 1) = (out ++ [y], false)) := by rw [HX.out.1, show laid x l k = (out, false) from Prod.ext HO.out.1 HO.out.2]; exact Silo.step_y (fun h => es h.1) (by omega)
            have f2 : (x.s != y.s) = true := by simpa using es
            have f3 : (x.s == y.s) = false := by simpa using es
            clear es

            go_wp2_with (at_builtin; refine wpList_append_smp rfl _ _ rfl (w.heap.size + 1) u5 out y rfl ?c1 _ rfl ?c2 ?c3 ?c4 ?_; rotate_left 4; intro g1 cap1 w2 HA)
            case c1 => exact Fp.ownsRow ((Fp.alloc (fun _ => False) _ _).trans' (Fp.alloc _ _ _)) (HO.out.1 ▸ HR.out.1) (fun _ _ h => h)
            case c2 => first | exact src_new _ _ _ _ (by simp) | exact src_new _ _ _ _ rfl | (intro j u hj; exact hj)
            case c3 => have h1 := HX.out.2.1; rw [HO.out.1] at h1; omega
            case c4 => first | omega | (simp; omega)
            go_roundw
            case rel =>
              refine ⟨k + 1, by omega, by go_num, by rw [HS.out], ?_, ?_, ?_⟩
              · rw [HS.out]; exact HA.out.row
              · exact ((HR.out.2.1.next (Fp.alloc (fun _ => False) _ _) (fun h => h)).next (Fp.alloc (fun _ => False) _ _) (fun h => h)).next HA.out.foot (fun h => by have := (HX.out.2.2.2 _ h).1; omega)
              · exact (HR.out.2.2.trans' ((Fp.alloc _ _ _).trans' (Fp.alloc _ _ _))).trans HA.out.foot (fun _ h => h) (fun j hj h => by have := (HX.out.2.2.2 j h).1; omega)
            case measure => simp [intOf]; omega
    · obtain rfl : k = l.length := by omega
      have hr : Silo.layR l x = if (laid x l l.length).2 then (laid x l l.length).1 else (laid x l l.length).1 ++ [x] := by unfold laid Silo.layR; rw [List.take_length]
      have hll := laid_len x l l.length
      have hwr : w.heap.size < wr.heap.size := HR.out.2.1.lt
      have x0 := HR.out.2.1.c0
      have x1 := HR.out.2.1.c1
      have x2 := HR.out.2.1.c2
      obtain ⟨out, hout⟩ : ∃ out, (laid x l l.length).1 = out := ⟨_, rfl⟩
      obtain ⟨put, hput⟩ : ∃ put, (laid x l l.length).2 = put := ⟨_, rfl⟩
      have h1 := HR.out.1
      rw [hout] at h1 hll hr
      rw [hput] at hr ⊢
      have HO : Hid _ := And.intro hr (And.intro hll (And.intro h1 HR.out.2))
      clear hout hput hr hll h1 HR hlt hk
      cases put with
      | true =>
        go_wp2
        go_ret
        refine ⟨u5, ret_val (by simp), ?_, HO.out.2.2.2.2⟩
        rw [HO.out.1]
        exact ownsRow_base HO.out.2.2.1 (by omega)
      | false =>
        go_wp2_with (at_builtin; refine wpList_append_smp rfl _ _ rfl (w.heap.size + 1) u5 out x rfl ?c1 _ rfl ?c2 ?c3 ?c4 ?_; rotate_left 4; intro g1 cap1 w2 HA)
        case c1 => exact Fp.ownsRow (Fp.alloc (fun _ => False) _ _) HO.out.2.2.1 (fun _ _ h => h)
        case c2 => exact src_new _ _ _ _ rfl
        case c3 => have h1 := HO.out.2.1; omega
        case c4 => first | omega | (simp; omega)
        go_ret
        refine ⟨_, ret_val (by simp; rfl), ?_, ?_⟩
        · rw [HO.out.1]
          exact ownsRow_base HA.out.row (by omega)
        · exact (HO.out.2.2.2.2.trans' (Fp.alloc _ _ _)).trans HA.out.foot (fun _ h => h) (fun j hj h => by have := (World.ownsRow.lt HO.out.2.2.1 j h).1; omega)

end Go.Proofs.Ytojjkjfcbfoinaa

namespace Silo

/-- How many of the first samples are of series s. -/
def runLen (s : Int) (r : List Smp) : Nat := (r.takeWhile fun a => decide (a.s = s)).length

def tHead (x : Smp) (r : List Smp) : List UInt8 := leb (x.s + 1).toNat ++ leb (runLen x.s (x :: r)) ++ leb (zig x.t) ++ leb x.v
def tNext (p x : Smp) : List UInt8 := leb (tcode x.t p.t false) ++ leb (x.v ^^^ p.v)

/-- The samples' bytes, one behind the other. -/
def toldFrom : Option Smp → List Smp → List UInt8
  | _, [] => []
  | none, x :: r => tHead x r ++ toldFrom (some x) r
  | some p, x :: r => (if p.s = x.s then tNext p x else tHead x r) ++ toldFrom (some x) r

theorem runLen_smps (s : Nat) (ps : List Pt) (r : List Smp) (h : ∀ a ∈ r, (s : Int) < a.s) : runLen (s : Int) (smps s ps ++ r) = ps.length := by
  unfold runLen
  induction ps with
  | nil =>
    cases r with
    | nil => rfl
    | cons a r =>
      have := h a (by simp)
      have e : decide (a.s = (s : Int)) = false := by simp; omega
      simp [smps, e]
  | cons p ps ih =>
    simp only [smps, List.map_cons, List.cons_append, List.takeWhile_cons, decide_true, if_true, List.length_cons] at ih ⊢
    omega

theorem toldFrom_pts (s : Nat) (r : List Smp) : ∀ (ps : List Pt) (t : Int) (v : Nat), ∃ q : Smp, q.s = (s : Int) ∧ toldFrom (some ⟨(s : Int), t, v⟩) (smps s ps ++ r) = encPts t v false ps ++ toldFrom (some q) r := by
  intro ps
  induction ps with
  | nil => intro t v; exact ⟨⟨(s : Int), t, v⟩, rfl, rfl⟩
  | cons p ps ih =>
    intro t v
    obtain ⟨q, h1, h2⟩ := ih p.t p.v
    refine ⟨q, h1, ?_⟩
    have e : smps s (p :: ps) ++ r = ⟨(s : Int), p.t, p.v⟩ :: (smps s ps ++ r) := rfl
    rw [e, toldFrom, if_pos rfl, h2, encPts, tNext]
    simp

theorem toldFrom_flat (m : Nat → List Pt) : ∀ (n s : Nat) (prev : Option Smp), (∀ p, prev = some p → p.s < (s : Int)) → toldFrom prev (flatFrom m s n) = encAll m s n := by
  intro n
  induction n with
  | zero => intro s prev _; cases prev <;> rfl
  | succ n ih =>
    intro s prev hp
    rw [flatFrom, encAll]
    have hrest : ∀ a ∈ flatFrom m (s + 1) n, (s : Int) < a.s := fun a ha => by
      obtain ⟨j, h1, _, h3, _⟩ := flatFrom_mem n (s + 1) a ha
      omega
    cases hm : m s with
    | nil =>
      rw [if_pos rfl]
      simp only [smps, List.map_nil, List.nil_append]
      exact ih (s + 1) prev (fun p hh => by have := hp p hh; omega)
    | cons p ps =>
      rw [if_neg (by simp)]
      have e : smps s (p :: ps) ++ flatFrom m (s + 1) n = ⟨(s : Int), p.t, p.v⟩ :: (smps s ps ++ flatFrom m (s + 1) n) := rfl
      obtain ⟨q, h1, h2⟩ := toldFrom_pts s (flatFrom m (s + 1) n) ps p.t p.v
      have hq := ih (s + 1) (some q) (fun p' hh => by cases hh; omega)
      have hhd : tHead ⟨(s : Int), p.t, p.v⟩ (smps s ps ++ flatFrom m (s + 1) n) = leb (s + 1) ++ leb (p :: ps).length ++ leb (zig p.t) ++ leb p.v := by
        unfold tHead
        rw [← e, runLen_smps s (p :: ps) _ hrest]
        rfl
      have hpre : toldFrom prev (⟨(s : Int), p.t, p.v⟩ :: (smps s ps ++ flatFrom m (s + 1) n)) = tHead ⟨(s : Int), p.t, p.v⟩ (smps s ps ++ flatFrom m (s + 1) n) ++ toldFrom (some ⟨(s : Int), p.t, p.v⟩) (smps s ps ++ flatFrom m (s + 1) n) := by
        cases prev with
        | none => rfl
        | some p' =>
          have := hp p' rfl
          rw [toldFrom, if_neg (by show ¬ p'.s = (s : Int); omega)]
      rw [e, hpre, h2, hq, hhd]
      unfold encSer
      rw [encPts]
      simp [tcode]

/-- The text, as the reference tells it. -/
def toldBody (lo hi : Nat) (l : List Smp) : List UInt8 := 66 :: (leb lo ++ leb hi ++ (toldFrom none l ++ [0]))

theorem toldBody_flat (lo hi : Nat) (m : Nat → List Pt) : toldBody lo hi (flat m) = encBody lo hi m := by
  unfold toldBody encBody flat
  rw [toldFrom_flat m 16 0 none (fun p h => by cases h)]

/-- Samples in order, of series that may be, are the flat form of their series. -/
theorem flat_ser {l : List Smp} (hl : AscS l) (hf : fits l = true) : l = flat (fun s => ser s l) ∧ LaidBy l (fun s => ser s l) := by
  have hasc : ∀ s, Asc (ser s l) := fun s => by
    unfold Asc ser
    rw [List.pairwise_filterMap]
    refine List.Pairwise.imp ?_ hl
    intro a b hab c hc d hd
    unfold bef at hab
    split at hc
    · split at hd
      · simp only [Option.some.injEq] at hc hd
        subst hc; subst hd
        simp only
        omega
      · cases hd
    · cases hc
  have hlaid : LaidBy l (fun s => ser s l) := fun s _ => Left.self (hasc s)
  refine ⟨?_, hlaid⟩
  have h1 := lay_flat hf hlaid
  rw [← h1]
  -- laying samples that are in order leaves them
  obtain ⟨g1, g2⟩ := layAll_ok l
  refine (g1.ext hl (fun s t => ?_)).symm
  rw [g2]
  -- at most one sample of each series and time
  have key : ∀ (k : List Smp), AscS k → (ofK s t k).getLast?.toList = ofK s t k := by
    intro k hk
    have hle : (ofK s t k).length ≤ 1 := by
      have hp : AscS (ofK s t k) := List.Pairwise.sublist List.filter_sublist hk
      match hq : ofK s t k with
      | [] => simp
      | [a] => simp
      | a :: b :: r =>
        exfalso
        rw [hq] at hp
        have hab : bef a b := (List.pairwise_cons.1 hp).1 b (by simp)
        have ha := (mem_ofK.1 (show a ∈ ofK s t k by rw [hq]; simp)).2
        have hb := (mem_ofK.1 (show b ∈ ofK s t k by rw [hq]; simp)).2
        unfold bef at hab
        omega
    match hq : ofK s t k with
    | [] => rfl
    | [a] => rfl
    | a :: b :: r => rw [hq] at hle; simp at hle
  exact key l hl

end Silo

namespace Go.Proofs.Ytojjkjfcbfoinaa
open Go.RowKit Go.Shelf

set_option maxHeartbeats 1000000 in
theorem RefLayAll_any (xs : List Silo.Smp) (v : Value) (w : World) (hin : SmpIn w w.heap.size v xs) (hl : xs.length ≤ 536870912) :
    Calls Try.prog 28 #[.slice none 0 0, v] w fun e w' => ∃ v', e = .returned v' ∧ World.smpsAt w' w.heap.size v' (layAll [] xs) ∧ Fp (fun _ => False) w w' := by
  obtain ⟨ad, c, rfl, hin'⟩ := hin
  have H : Hid _ := hin'
  clear hin'
  go_enter Try.func28, Try.ntmps28
  go_wp2_with fail
  go_loopw [0, 5] (fun lv iv wr => ∃ k : Nat, k ≤ xs.length ∧ iv = .int .i64 k ∧ Hid (World.smpsAt wr w.heap.size lv (layAll [] (xs.take k)) ∧ Fp (fun _ => False) w wr)) (fun _ iv _ => xs.length - (intOf iv).toNat)
  case atStart => exact ⟨0, by omega, rfl, nil_row _ _, Fp.refl _ _⟩
  case round =>
    obtain ⟨k, hk, rfl, HR⟩ := hrel
    by_cases hlt : k < xs.length
    · obtain ⟨b, off, hb⟩ : ∃ b off, ad = some ⟨b, off, none⟩ ∧ b < w.heap.size ∧ ∀ k (hk : k < xs.length),
          w.cell? ⟨b, off + k * 3, none⟩ = some (.int .i64 xs[k].s) ∧ w.cell? ⟨b, off + k * 3 + 1, none⟩ = some (.int .i64 xs[k].t) ∧ w.cell? ⟨b, off + k * 3 + 2, none⟩ = some (.int .u64 (xs[k].v : Nat)) := by
        rcases H.out with h | h
        · rw [h] at hlt; simp at hlt
        · exact h
      obtain ⟨rfl, hbt, hcell⟩ := hb
      obtain ⟨c0, c1, c2⟩ := hcell k hlt
      rw [← HR.out.2.cell (p := ⟨b, off + k * 3, none⟩) hbt (fun h => h)] at c0
      rw [← HR.out.2.cell (p := ⟨b, off + k * 3 + 1, none⟩) hbt (fun h => h)] at c1
      rw [← HR.out.2.cell (p := ⟨b, off + k * 3 + 2, none⟩) hbt (fun h => h)] at c2
      obtain ⟨x, hx⟩ : ∃ x, xs[k] = x := ⟨_, rfl⟩
      rw [hx] at c0 c1 c2
      have HX : Hid _ := hx
      clear hcell hx
      have kN : (k : Int) < (xs.length : Int) := by omega
      have hll : (layAll [] (xs.take k)).length ≤ 1073741824 := by
        have := layAll_length [] (xs.take k)
        simp only [List.length_take, List.length_nil] at this
        omega
      go_wp2_with fail
      refine (RefLay_any _ x _ wr (SmpIn.of_row HR.out.1 (Nat.le_refl _)) hll).mono ?_
      rintro e w2 ⟨v2, rfl, h2⟩
      rw [Silo.layR_eq (Silo.layAll_ok _).1] at h2
      have H2 : Hid _ := h2
      clear h2
      go_wp2
      go_roundw
      case rel =>
        refine ⟨k + 1, by omega, by go_num, ?_, HR.out.2.trans' H2.out.2⟩
        rw [List.take_succ_eq_append_getElem hlt, layAll_snoc, HX.out]
        exact ownsRow_base H2.out.1 HR.out.2.size
      case measure => simp [intOf]; omega
    · obtain rfl : k = xs.length := by omega
      go_wp2
      go_ret
      have h9 := HR.out
      rw [List.take_length] at h9
      exact ⟨_, ret_val (by simp), h9.1, h9.2⟩

end Go.Proofs.Ytojjkjfcbfoinaa

namespace Silo

theorem runLen_le (s : Int) (r : List Smp) : runLen s r ≤ r.length := (List.takeWhile_prefix _).length_le

theorem tHead_len (x : Smp) (r : List Smp) (h : goodSmp x) (hr : r.length < 1099511627776) : (tHead x r).length ≤ 40 := by
  have h1 := leb_len (x.s + 1).toNat (by unfold M64; have := h.2.1; omega)
  have h2 := leb_len (runLen x.s (x :: r)) (by have := runLen_le x.s (x :: r); simp only [List.length_cons] at this; unfold M64; omega)
  have h3 := leb_len (zig x.t) (zig_lt x.t h.2.2.1.1 h.2.2.1.2)
  have h4 := leb_len x.v h.2.2.2
  unfold tHead
  simp only [List.length_append]
  omega

theorem tNext_len (p x : Smp) (hp : goodSmp p) (h : goodSmp x) : (tNext p x).length ≤ 40 := by
  have h1 := leb_len _ (tcode_lt x.t p.t false h.2.2.1)
  have h2 := leb_len _ (xor_lt _ _ h.2.2.2 hp.2.2.2)
  unfold tNext
  simp only [List.length_append]
  omega

theorem toldFrom_len : ∀ (l : List Smp) (prev : Option Smp), (∀ p, prev = some p → goodSmp p) → (∀ x ∈ l, goodSmp x) → l.length < 1099511627776 → (toldFrom prev l).length ≤ 40 * l.length := by
  intro l
  induction l with
  | nil => intro prev _ _ _; cases prev <;> simp [toldFrom]
  | cons x r ih =>
    intro prev hp hg hl
    have hx := hg x (by simp)
    simp only [List.length_cons] at hl
    have h1 := ih (some x) (fun p h => by cases h; exact hx) (fun y hy => hg y (by simp [hy])) (by omega)
    have h2 := tHead_len x r hx (by omega)
    cases prev with
    | none => rw [toldFrom, List.length_append]; simp only [List.length_cons]; omega
    | some p =>
      have h3 := tNext_len p x (hp p rfl) hx
      rw [toldFrom, List.length_append]
      simp only [List.length_cons]
      split <;> omega

/-- Is the sample ahead of x of its series? -/
def sameB (o : Option Smp) (x : Smp) : Bool := match o with
  | some p => decide (p.s = x.s)
  | none => false

/-- The sample ahead of the one at k. -/
def lastOf (l : List Smp) (k : Nat) : Option Smp := if k = 0 then none else l[k - 1]?

theorem lastOf_succ {l : List Smp} {k : Nat} (h : k < l.length) : lastOf l (k + 1) = some l[k] := by
  show (if k + 1 = 0 then none else l[k + 1 - 1]?) = some l[k]
  rw [if_neg (by omega), Nat.add_sub_cancel, List.getElem?_eq_getElem h]

theorem told_stepA {l : List Smp} {k : Nat} (h : k < l.length) {p : Smp} (hp : lastOf l k = some p) (hs : p.s = l[k].s) : toldFrom (lastOf l k) (l.drop k) = tNext p l[k] ++ toldFrom (lastOf l (k + 1)) (l.drop (k + 1)) := by
  rw [lastOf_succ h, List.drop_eq_getElem_cons h, hp, toldFrom, if_pos hs]

theorem told_stepB {l : List Smp} {k : Nat} (h : k < l.length) (hs : sameB (lastOf l k) l[k] = false) : toldFrom (lastOf l k) (l.drop k) = tHead l[k] (l.drop (k + 1)) ++ toldFrom (lastOf l (k + 1)) (l.drop (k + 1)) := by
  rw [lastOf_succ h, List.drop_eq_getElem_cons h]
  cases hp : lastOf l k with
  | none => rfl
  | some p =>
    rw [hp] at hs
    rw [toldFrom, if_neg (by simpa [sameB] using hs)]

theorem runLen_at {l : List Smp} {k i : Nat} (hk : k < l.length) (hi : k ≤ i) (hil : i ≤ l.length) (h1 : ∀ q (hq : q < l.length), k ≤ q → q < i → l[q].s = l[k].s) (h2 : ∀ (hq : i < l.length), l[i].s ≠ l[k].s) : runLen l[k].s (l[k] :: l.drop (k + 1)) = i - k := by
  rw [← List.drop_eq_getElem_cons hk]
  unfold runLen
  have e : l.drop k = (l.drop k).take (i - k) ++ l.drop i := by
    have := (List.take_append_drop (i - k) (l.drop k)).symm
    rw [List.drop_drop, show k + (i - k) = i by omega] at this
    exact this
  rw [e, List.takeWhile_append_of_pos]
  · have : (l.drop i).takeWhile (fun a => decide (a.s = l[k].s)) = [] := by
      by_cases hq : i < l.length
      · rw [List.drop_eq_getElem_cons hq, List.takeWhile_cons_of_neg (by simpa using h2 hq)]
      · rw [List.drop_eq_nil_of_le (by omega)]; rfl
    rw [this, List.append_nil, List.length_take, List.length_drop]
    omega
  · intro a ha
    obtain ⟨q, hq, rfl⟩ := List.mem_iff_getElem.1 ha
    simp only [List.length_take, List.length_drop] at hq
    simp only [List.getElem_take, List.getElem_drop, decide_eq_true_eq]
    exact h1 (k + q) (by omega) (by omega) (by omega)

/-- Does the run of x's series go on at i? -/
def goesOn (l : List Smp) (i : Nat) (x : Smp) : Bool := sameB l[i]? x

end Silo

namespace Go.Proofs.Ytojjkjfcbfoinaa
open Go.RowKit Go.Shelf

/-- In the midst of a sample behind one of its series. -/
structure TNext (wr : World) (l : List Silo.Smp) (b off c k j y1 y2 : Nat) (x p : Silo.Smp) (D : List UInt8) (listed : Array Bool) (u41 u42 u43 u44 u45 u46 u47 u48 u49 u50 u51 u52 u53 u54 u55 u56 u57 u58 u59 u60 u61 u62 u63 u64 u65 u66 u67 u68 u69 u70 u71 u7 : Value) (w' : World) : Prop where
  e0 : done listed 0 = true → u41 = .string (S D)
  e1 : done listed 1 = true → u42 = .slice (some ⟨b, off, none⟩) l.length c
  e2 : done listed 2 = true → u43 = .int .i64 ((k : Nat) : Int)
  e3 : done listed 3 = true → u44 = .pointer (some ⟨b, off + k * 3, none⟩)
  e4 : done listed 4 = true → u45 = .pointer (some ⟨b, off + k * 3 + 1, none⟩)
  e5 : done listed 5 = true → u46 = .int .i64 x.t
  e6 : done listed 6 = true → u47 = .int .u64 (IntKind.u64.wrap x.t)
  e7 : done listed 7 = true → u48 = .slice (some ⟨b, off, none⟩) l.length c
  e8 : done listed 8 = true → u49 = .int .i64 ((k : Nat) : Int)
  e9 : done listed 9 = true → u50 = .int .i64 ((j : Nat) : Int)
  e10 : done listed 10 = true → u51 = .pointer (some ⟨b, off + j * 3, none⟩)
  e11 : done listed 11 = true → u52 = .pointer (some ⟨b, off + j * 3 + 1, none⟩)
  e12 : done listed 12 = true → u53 = .int .i64 p.t
  e13 : done listed 13 = true → u54 = .int .u64 (IntKind.u64.wrap p.t)
  e14 : done listed 14 = true → u55 = .int .u64 ((y1 : Nat) : Int)
  e15 : done listed 15 = true → u56 = .string (S (Silo.leb y1))
  e16 : done listed 16 = true → u57 = .string (S D ++ S (Silo.leb y1))
  e17 : done listed 17 = true → u58 = .slice (some ⟨b, off, none⟩) l.length c
  e18 : done listed 18 = true → u59 = .int .i64 ((k : Nat) : Int)
  e19 : done listed 19 = true → u60 = .pointer (some ⟨b, off + k * 3, none⟩)
  e20 : done listed 20 = true → u61 = .pointer (some ⟨b, off + k * 3 + 2, none⟩)
  e21 : done listed 21 = true → u62 = .int .u64 ((x.v : Nat) : Int)
  e22 : done listed 22 = true → u63 = .slice (some ⟨b, off, none⟩) l.length c
  e23 : done listed 23 = true → u64 = .int .i64 ((k : Nat) : Int)
  e24 : done listed 24 = true → u65 = .int .i64 ((j : Nat) : Int)
  e25 : done listed 25 = true → u66 = .pointer (some ⟨b, off + j * 3, none⟩)
  e26 : done listed 26 = true → u67 = .pointer (some ⟨b, off + j * 3 + 2, none⟩)
  e27 : done listed 27 = true → u68 = .int .u64 ((p.v : Nat) : Int)
  e28 : done listed 28 = true → u69 = .int .u64 ((y2 : Nat) : Int)
  e29 : done listed 29 = true → u70 = .string (S (Silo.leb y2))
  e30 : done listed 30 = true → u71 = .string (S D ++ S (Silo.leb y1) ++ S (Silo.leb y2))
  e31 : done listed 31 = true → u7 = .string (S D ++ S (Silo.leb y1) ++ S (Silo.leb y2))
  k7 : done listed 31 = false → u7 = .string (S D)
  x0 : Fp (fun _ => False) wr w'

section
variable {wr : World} {l : List Silo.Smp} {b off c k j y1 y2 : Nat} {x p : Silo.Smp} {D : List UInt8} {listed : Array Bool} {u41 u42 u43 u44 u45 u46 u47 u48 u49 u50 u51 u52 u53 u54 u55 u56 u57 u58 u59 u60 u61 u62 u63 u64 u65 u66 u67 u68 u69 u70 u71 u7 : Value} {w' : World}

theorem TNext.start {nn : Nat} (h : Fp (fun _ => False) wr w') : TNext wr l b off c k j y1 y2 x p D (Array.replicate nn false) u41 u42 u43 u44 u45 u46 u47 u48 u49 u50 u51 u52 u53 u54 u55 u56 u57 u58 u59 u60 u61 u62 u63 u64 u65 u66 u67 u68 u69 u70 u71 (.string (S D)) w' := by
  constructor <;> first | exact h | (intro d; first | rfl | (rw [done_rep] at d; cases d))

theorem TNext.s0 {w2 : World} (h : TNext wr l b off c k j y1 y2 x p D listed u41 u42 u43 u44 u45 u46 u47 u48 u49 u50 u51 u52 u53 u54 u55 u56 u57 u58 u59 u60 u61 u62 u63 u64 u65 u66 u67 u68 u69 u70 u71 u7 w') (hS : Fp (fun _ => False) wr w2) : TNext wr l b off c k j y1 y2 x p D (listed.setIfInBounds 0 true) (.string (S D)) u42 u43 u44 u45 u46 u47 u48 u49 u50 u51 u52 u53 u54 u55 u56 u57 u58 u59 u60 u61 u62 u63 u64 u65 u66 u67 u68 u69 u70 u71 u7 w2 :=
  ⟨fun _ => rfl, fun d => h.e1 (done_of_set d (by decide)), fun d => h.e2 (done_of_set d (by decide)), fun d => h.e3 (done_of_set d (by decide)), fun d => h.e4 (done_of_set d (by decide)), fun d => h.e5 (done_of_set d (by decide)), fun d => h.e6 (done_of_set d (by decide)), fun d => h.e7 (done_of_set d (by decide)), fun d => h.e8 (done_of_set d (by decide)), fun d => h.e9 (done_of_set d (by decide)), fun d => h.e10 (done_of_set d (by decide)), fun d => h.e11 (done_of_set d (by decide)), fun d => h.e12 (done_of_set d (by decide)), fun d => h.e13 (done_of_set d (by decide)), fun d => h.e14 (done_of_set d (by decide)), fun d => h.e15 (done_of_set d (by decide)), fun d => h.e16 (done_of_set d (by decide)), fun d => h.e17 (done_of_set d (by decide)), fun d => h.e18 (done_of_set d (by decide)), fun d => h.e19 (done_of_set d (by decide)), fun d => h.e20 (done_of_set d (by decide)), fun d => h.e21 (done_of_set d (by decide)), fun d => h.e22 (done_of_set d (by decide)), fun d => h.e23 (done_of_set d (by decide)), fun d => h.e24 (done_of_set d (by decide)), fun d => h.e25 (done_of_set d (by decide)), fun d => h.e26 (done_of_set d (by decide)), fun d => h.e27 (done_of_set d (by decide)), fun d => h.e28 (done_of_set d (by decide)), fun d => h.e29 (done_of_set d (by decide)), fun d => h.e30 (done_of_set d (by decide)), fun d => h.e31 (done_of_set d (by decide)), fun d => h.k7 (undone_of_set d), hS⟩

theorem TNext.s1 {w2 : World} (h : TNext wr l b off c k j y1 y2 x p D listed u41 u42 u43 u44 u45 u46 u47 u48 u49 u50 u51 u52 u53 u54 u55 u56 u57 u58 u59 u60 u61 u62 u63 u64 u65 u66 u67 u68 u69 u70 u71 u7 w') (hS : Fp (fun _ => False) wr w2) : TNext wr l b off c k j y1 y2 x p D (listed.setIfInBounds 1 true) u41 (.slice (some ⟨b, off, none⟩) l.length c) u43 u44 u45 u46 u47 u48 u49 u50 u51 u52 u53 u54 u55 u56 u57 u58 u59 u60 u61 u62 u63 u64 u65 u66 u67 u68 u69 u70 u71 u7 w2 :=
  ⟨fun d => h.e0 (done_of_set d (by decide)), fun _ => rfl, fun d => h.e2 (done_of_set d (by decide)), fun d => h.e3 (done_of_set d (by decide)), fun d => h.e4 (done_of_set d (by decide)), fun d => h.e5 (done_of_set d (by decide)), fun d => h.e6 (done_of_set d (by decide)), fun d => h.e7 (done_of_set d (by decide)), fun d => h.e8 (done_of_set d (by decide)), fun d => h.e9 (done_of_set d (by decide)), fun d => h.e10 (done_of_set d (by decide)), fun d => h.e11 (done_of_set d (by decide)), fun d => h.e12 (done_of_set d (by decide)), fun d => h.e13 (done_of_set d (by decide)), fun d => h.e14 (done_of_set d (by decide)), fun d => h.e15 (done_of_set d (by decide)), fun d => h.e16 (done_of_set d (by decide)), fun d => h.e17 (done_of_set d (by decide)), fun d => h.e18 (done_of_set d (by decide)), fun d => h.e19 (done_of_set d (by decide)), fun d => h.e20 (done_of_set d (by decide)), fun d => h.e21 (done_of_set d (by decide)), fun d => h.e22 (done_of_set d (by decide)), fun d => h.e23 (done_of_set d (by decide)), fun d => h.e24 (done_of_set d (by decide)), fun d => h.e25 (done_of_set d (by decide)), fun d => h.e26 (done_of_set d (by decide)), fun d => h.e27 (done_of_set d (by decide)), fun d => h.e28 (done_of_set d (by decide)), fun d => h.e29 (done_of_set d (by decide)), fun d => h.e30 (done_of_set d (by decide)), fun d => h.e31 (done_of_set d (by decide)), fun d => h.k7 (undone_of_set d), hS⟩

theorem TNext.s2 {w2 : World} (h : TNext wr l b off c k j y1 y2 x p D listed u41 u42 u43 u44 u45 u46 u47 u48 u49 u50 u51 u52 u53 u54 u55 u56 u57 u58 u59 u60 u61 u62 u63 u64 u65 u66 u67 u68 u69 u70 u71 u7 w') (hS : Fp (fun _ => False) wr w2) : TNext wr l b off c k j y1 y2 x p D (listed.setIfInBounds 2 true) u41 u42 (.int .i64 ((k : Nat) : Int)) u44 u45 u46 u47 u48 u49 u50 u51 u52 u53 u54 u55 u56 u57 u58 u59 u60 u61 u62 u63 u64 u65 u66 u67 u68 u69 u70 u71 u7 w2 :=
  ⟨fun d => h.e0 (done_of_set d (by decide)), fun d => h.e1 (done_of_set d (by decide)), fun _ => rfl, fun d => h.e3 (done_of_set d (by decide)), fun d => h.e4 (done_of_set d (by decide)), fun d => h.e5 (done_of_set d (by decide)), fun d => h.e6 (done_of_set d (by decide)), fun d => h.e7 (done_of_set d (by decide)), fun d => h.e8 (done_of_set d (by decide)), fun d => h.e9 (done_of_set d (by decide)), fun d => h.e10 (done_of_set d (by decide)), fun d => h.e11 (done_of_set d (by decide)), fun d => h.e12 (done_of_set d (by decide)), fun d => h.e13 (done_of_set d (by decide)), fun d => h.e14 (done_of_set d (by decide)), fun d => h.e15 (done_of_set d (by decide)), fun d => h.e16 (done_of_set d (by decide)), fun d => h.e17 (done_of_set d (by decide)), fun d => h.e18 (done_of_set d (by decide)), fun d => h.e19 (done_of_set d (by decide)), fun d => h.e20 (done_of_set d (by decide)), fun d => h.e21 (done_of_set d (by decide)), fun d => h.e22 (done_of_set d (by decide)), fun d => h.e23 (done_of_set d (by decide)), fun d => h.e24 (done_of_set d (by decide)), fun d => h.e25 (done_of_set d (by decide)), fun d => h.e26 (done_of_set d (by decide)), fun d => h.e27 (done_of_set d (by decide)), fun d => h.e28 (done_of_set d (by decide)), fun d => h.e29 (done_of_set d (by decide)), fun d => h.e30 (done_of_set d (by decide)), fun d => h.e31 (done_of_set d (by decide)), fun d => h.k7 (undone_of_set d), hS⟩

theorem TNext.s3 {w2 : World} (h : TNext wr l b off c k j y1 y2 x p D listed u41 u42 u43 u44 u45 u46 u47 u48 u49 u50 u51 u52 u53 u54 u55 u56 u57 u58 u59 u60 u61 u62 u63 u64 u65 u66 u67 u68 u69 u70 u71 u7 w') (hS : Fp (fun _ => False) wr w2) : TNext wr l b off c k j y1 y2 x p D (listed.setIfInBounds 3 true) u41 u42 u43 (.pointer (some ⟨b, off + k * 3, none⟩)) u45 u46 u47 u48 u49 u50 u51 u52 u53 u54 u55 u56 u57 u58 u59 u60 u61 u62 u63 u64 u65 u66 u67 u68 u69 u70 u71 u7 w2 :=
  ⟨fun d => h.e0 (done_of_set d (by decide)), fun d => h.e1 (done_of_set d (by decide)), fun d => h.e2 (done_of_set d (by decide)), fun _ => rfl, fun d => h.e4 (done_of_set d (by decide)), fun d => h.e5 (done_of_set d (by decide)), fun d => h.e6 (done_of_set d (by decide)), fun d => h.e7 (done_of_set d (by decide)), fun d => h.e8 (done_of_set d (by decide)), fun d => h.e9 (done_of_set d (by decide)), fun d => h.e10 (done_of_set d (by decide)), fun d => h.e11 (done_of_set d (by decide)), fun d => h.e12 (done_of_set d (by decide)), fun d => h.e13 (done_of_set d (by decide)), fun d => h.e14 (done_of_set d (by decide)), fun d => h.e15 (done_of_set d (by decide)), fun d => h.e16 (done_of_set d (by decide)), fun d => h.e17 (done_of_set d (by decide)), fun d => h.e18 (done_of_set d (by decide)), fun d => h.e19 (done_of_set d (by decide)), fun d => h.e20 (done_of_set d (by decide)), fun d => h.e21 (done_of_set d (by decide)), fun d => h.e22 (done_of_set d (by decide)), fun d => h.e23 (done_of_set d (by decide)), fun d => h.e24 (done_of_set d (by decide)), fun d => h.e25 (done_of_set d (by decide)), fun d => h.e26 (done_of_set d (by decide)), fun d => h.e27 (done_of_set d (by decide)), fun d => h.e28 (done_of_set d (by decide)), fun d => h.e29 (done_of_set d (by decide)), fun d => h.e30 (done_of_set d (by decide)), fun d => h.e31 (done_of_set d (by decide)), fun d => h.k7 (undone_of_set d), hS⟩

theorem TNext.s4 {w2 : World} (h : TNext wr l b off c k j y1 y2 x p D listed u41 u42 u43 u44 u45 u46 u47 u48 u49 u50 u51 u52 u53 u54 u55 u56 u57 u58 u59 u60 u61 u62 u63 u64 u65 u66 u67 u68 u69 u70 u71 u7 w') (hS : Fp (fun _ => False) wr w2) : TNext wr l b off c k j y1 y2 x p D (listed.setIfInBounds 4 true) u41 u42 u43 u44 (.pointer (some ⟨b, off + k * 3 + 1, none⟩)) u46 u47 u48 u49 u50 u51 u52 u53 u54 u55 u56 u57 u58 u59 u60 u61 u62 u63 u64 u65 u66 u67 u68 u69 u70 u71 u7 w2 :=
  ⟨fun d => h.e0 (done_of_set d (by decide)), fun d => h.e1 (done_of_set d (by decide)), fun d => h.e2 (done_of_set d (by decide)), fun d => h.e3 (done_of_set d (by decide)), fun _ => rfl, fun d => h.e5 (done_of_set d (by decide)), fun d => h.e6 (done_of_set d (by decide)), fun d => h.e7 (done_of_set d (by decide)), fun d => h.e8 (done_of_set d (by decide)), fun d => h.e9 (done_of_set d (by decide)), fun d => h.e10 (done_of_set d (by decide)), fun d => h.e11 (done_of_set d (by decide)), fun d => h.e12 (done_of_set d (by decide)), fun d => h.e13 (done_of_set d (by decide)), fun d => h.e14 (done_of_set d (by decide)), fun d => h.e15 (done_of_set d (by decide)), fun d => h.e16 (done_of_set d (by decide)), fun d => h.e17 (done_of_set d (by decide)), fun d => h.e18 (done_of_set d (by decide)), fun d => h.e19 (done_of_set d (by decide)), fun d => h.e20 (done_of_set d (by decide)), fun d => h.e21 (done_of_set d (by decide)), fun d => h.e22 (done_of_set d (by decide)), fun d => h.e23 (done_of_set d (by decide)), fun d => h.e24 (done_of_set d (by decide)), fun d => h.e25 (done_of_set d (by decide)), fun d => h.e26 (done_of_set d (by decide)), fun d => h.e27 (done_of_set d (by decide)), fun d => h.e28 (done_of_set d (by decide)), fun d => h.e29 (done_of_set d (by decide)), fun d => h.e30 (done_of_set d (by decide)), fun d => h.e31 (done_of_set d (by decide)), fun d => h.k7 (undone_of_set d), hS⟩

theorem TNext.s5 {w2 : World} (h : TNext wr l b off c k j y1 y2 x p D listed u41 u42 u43 u44 u45 u46 u47 u48 u49 u50 u51 u52 u53 u54 u55 u56 u57 u58 u59 u60 u61 u62 u63 u64 u65 u66 u67 u68 u69 u70 u71 u7 w') (hS : Fp (fun _ => False) wr w2) : TNext wr l b off c k j y1 y2 x p D (listed.setIfInBounds 5 true) u41 u42 u43 u44 u45 (.int .i64 x.t) u47 u48 u49 u50 u51 u52 u53 u54 u55 u56 u57 u58 u59 u60 u61 u62 u63 u64 u65 u66 u67 u68 u69 u70 u71 u7 w2 :=
  ⟨fun d => h.e0 (done_of_set d (by decide)), fun d => h.e1 (done_of_set d (by decide)), fun d => h.e2 (done_of_set d (by decide)), fun d => h.e3 (done_of_set d (by decide)), fun d => h.e4 (done_of_set d (by decide)), fun _ => rfl, fun d => h.e6 (done_of_set d (by decide)), fun d => h.e7 (done_of_set d (by decide)), fun d => h.e8 (done_of_set d (by decide)), fun d => h.e9 (done_of_set d (by decide)), fun d => h.e10 (done_of_set d (by decide)), fun d => h.e11 (done_of_set d (by decide)), fun d => h.e12 (done_of_set d (by decide)), fun d => h.e13 (done_of_set d (by decide)), fun d => h.e14 (done_of_set d (by decide)), fun d => h.e15 (done_of_set d (by decide)), fun d => h.e16 (done_of_set d (by decide)), fun d => h.e17 (done_of_set d (by decide)), fun d => h.e18 (done_of_set d (by decide)), fun d => h.e19 (done_of_set d (by decide)), fun d => h.e20 (done_of_set d (by decide)), fun d => h.e21 (done_of_set d (by decide)), fun d => h.e22 (done_of_set d (by decide)), fun d => h.e23 (done_of_set d (by decide)), fun d => h.e24 (done_of_set d (by decide)), fun d => h.e25 (done_of_set d (by decide)), fun d => h.e26 (done_of_set d (by decide)), fun d => h.e27 (done_of_set d (by decide)), fun d => h.e28 (done_of_set d (by decide)), fun d => h.e29 (done_of_set d (by decide)), fun d => h.e30 (done_of_set d (by decide)), fun d => h.e31 (done_of_set d (by decide)), fun d => h.k7 (undone_of_set d), hS⟩

theorem TNext.s6 {w2 : World} (h : TNext wr l b off c k j y1 y2 x p D listed u41 u42 u43 u44 u45 u46 u47 u48 u49 u50 u51 u52 u53 u54 u55 u56 u57 u58 u59 u60 u61 u62 u63 u64 u65 u66 u67 u68 u69 u70 u71 u7 w') (hS : Fp (fun _ => False) wr w2) : TNext wr l b off c k j y1 y2 x p D (listed.setIfInBounds 6 true) u41 u42 u43 u44 u45 u46 (.int .u64 (IntKind.u64.wrap x.t)) u48 u49 u50 u51 u52 u53 u54 u55 u56 u57 u58 u59 u60 u61 u62 u63 u64 u65 u66 u67 u68 u69 u70 u71 u7 w2 :=
  ⟨fun d => h.e0 (done_of_set d (by decide)), fun d => h.e1 (done_of_set d (by decide)), fun d => h.e2 (done_of_set d (by decide)), fun d => h.e3 (done_of_set d (by decide)), fun d => h.e4 (done_of_set d (by decide)), fun d => h.e5 (done_of_set d (by decide)), fun _ => rfl, fun d => h.e7 (done_of_set d (by decide)), fun d => h.e8 (done_of_set d (by decide)), fun d => h.e9 (done_of_set d (by decide)), fun d => h.e10 (done_of_set d (by decide)), fun d => h.e11 (done_of_set d (by decide)), fun d => h.e12 (done_of_set d (by decide)), fun d => h.e13 (done_of_set d (by decide)), fun d => h.e14 (done_of_set d (by decide)), fun d => h.e15 (done_of_set d (by decide)), fun d => h.e16 (done_of_set d (by decide)), fun d => h.e17 (done_of_set d (by decide)), fun d => h.e18 (done_of_set d (by decide)), fun d => h.e19 (done_of_set d (by decide)), fun d => h.e20 (done_of_set d (by decide)), fun d => h.e21 (done_of_set d (by decide)), fun d => h.e22 (done_of_set d (by decide)), fun d => h.e23 (done_of_set d (by decide)), fun d => h.e24 (done_of_set d (by decide)), fun d => h.e25 (done_of_set d (by decide)), fun d => h.e26 (done_of_set d (by decide)), fun d => h.e27 (done_of_set d (by decide)), fun d => h.e28 (done_of_set d (by decide)), fun d => h.e29 (done_of_set d (by decide)), fun d => h.e30 (done_of_set d (by decide)), fun d => h.e31 (done_of_set d (by decide)), fun d => h.k7 (undone_of_set d), hS⟩

theorem TNext.s7 {w2 : World} (h : TNext wr l b off c k j y1 y2 x p D listed u41 u42 u43 u44 u45 u46 u47 u48 u49 u50 u51 u52 u53 u54 u55 u56 u57 u58 u59 u60 u61 u62 u63 u64 u65 u66 u67 u68 u69 u70 u71 u7 w') (hS : Fp (fun _ => False) wr w2) : TNext wr l b off c k j y1 y2 x p D (listed.setIfInBounds 7 true) u41 u42 u43 u44 u45 u46 u47 (.slice (some ⟨b, off, none⟩) l.length c) u49 u50 u51 u52 u53 u54 u55 u56 u57 u58 u59 u60 u61 u62 u63 u64 u65 u66 u67 u68 u69 u70 u71 u7 w2 :=
  ⟨fun d => h.e0 (done_of_set d (by decide)), fun d => h.e1 (done_of_set d (by decide)), fun d => h.e2 (done_of_set d (by decide)), fun d => h.e3 (done_of_set d (by decide)), fun d => h.e4 (done_of_set d (by decide)), fun d => h.e5 (done_of_set d (by decide)), fun d => h.e6 (done_of_set d (by decide)), fun _ => rfl, fun d => h.e8 (done_of_set d (by decide)), fun d => h.e9 (done_of_set d (by decide)), fun d => h.e10 (done_of_set d (by decide)), fun d => h.e11 (done_of_set d (by decide)), fun d => h.e12 (done_of_set d (by decide)), fun d => h.e13 (done_of_set d (by decide)), fun d => h.e14 (done_of_set d (by decide)), fun d => h.e15 (done_of_set d (by decide)), fun d => h.e16 (done_of_set d (by decide)), fun d => h.e17 (done_of_set d (by decide)), fun d => h.e18 (done_of_set d (by decide)), fun d => h.e19 (done_of_set d (by decide)), fun d => h.e20 (done_of_set d (by decide)), fun d => h.e21 (done_of_set d (by decide)), fun d => h.e22 (done_of_set d (by decide)), fun d => h.e23 (done_of_set d (by decide)), fun d => h.e24 (done_of_set d (by decide)), fun d => h.e25 (done_of_set d (by decide)), fun d => h.e26 (done_of_set d (by decide)), fun d => h.e27 (done_of_set d (by decide)), fun d => h.e28 (done_of_set d (by decide)), fun d => h.e29 (done_of_set d (by decide)), fun d => h.e30 (done_of_set d (by decide)), fun d => h.e31 (done_of_set d (by decide)), fun d => h.k7 (undone_of_set d), hS⟩

theorem TNext.s8 {w2 : World} (h : TNext wr l b off c k j y1 y2 x p D listed u41 u42 u43 u44 u45 u46 u47 u48 u49 u50 u51 u52 u53 u54 u55 u56 u57 u58 u59 u60 u61 u62 u63 u64 u65 u66 u67 u68 u69 u70 u71 u7 w') (hS : Fp (fun _ => False) wr w2) : TNext wr l b off c k j y1 y2 x p D (listed.setIfInBounds 8 true) u41 u42 u43 u44 u45 u46 u47 u48 (.int .i64 ((k : Nat) : Int)) u50 u51 u52 u53 u54 u55 u56 u57 u58 u59 u60 u61 u62 u63 u64 u65 u66 u67 u68 u69 u70 u71 u7 w2 :=
  ⟨fun d => h.e0 (done_of_set d (by decide)), fun d => h.e1 (done_of_set d (by decide)), fun d => h.e2 (done_of_set d (by decide)), fun d => h.e3 (done_of_set d (by decide)), fun d => h.e4 (done_of_set d (by decide)), fun d => h.e5 (done_of_set d (by decide)), fun d => h.e6 (done_of_set d (by decide)), fun d => h.e7 (done_of_set d (by decide)), fun _ => rfl, fun d => h.e9 (done_of_set d (by decide)), fun d => h.e10 (done_of_set d (by decide)), fun d => h.e11 (done_of_set d (by decide)), fun d => h.e12 (done_of_set d (by decide)), fun d => h.e13 (done_of_set d (by decide)), fun d => h.e14 (done_of_set d (by decide)), fun d => h.e15 (done_of_set d (by decide)), fun d => h.e16 (done_of_set d (by decide)), fun d => h.e17 (done_of_set d (by decide)), fun d => h.e18 (done_of_set d (by decide)), fun d => h.e19 (done_of_set d (by decide)), fun d => h.e20 (done_of_set d (by decide)), fun d => h.e21 (done_of_set d (by decide)), fun d => h.e22 (done_of_set d (by decide)), fun d => h.e23 (done_of_set d (by decide)), fun d => h.e24 (done_of_set d (by decide)), fun d => h.e25 (done_of_set d (by decide)), fun d => h.e26 (done_of_set d (by decide)), fun d => h.e27 (done_of_set d (by decide)), fun d => h.e28 (done_of_set d (by decide)), fun d => h.e29 (done_of_set d (by decide)), fun d => h.e30 (done_of_set d (by decide)), fun d => h.e31 (done_of_set d (by decide)), fun d => h.k7 (undone_of_set d), hS⟩

theorem TNext.s9 {w2 : World} (h : TNext wr l b off c k j y1 y2 x p D listed u41 u42 u43 u44 u45 u46 u47 u48 u49 u50 u51 u52 u53 u54 u55 u56 u57 u58 u59 u60 u61 u62 u63 u64 u65 u66 u67 u68 u69 u70 u71 u7 w') (hS : Fp (fun _ => False) wr w2) : TNext wr l b off c k j y1 y2 x p D (listed.setIfInBounds 9 true) u41 u42 u43 u44 u45 u46 u47 u48 u49 (.int .i64 ((j : Nat) : Int)) u51 u52 u53 u54 u55 u56 u57 u58 u59 u60 u61 u62 u63 u64 u65 u66 u67 u68 u69 u70 u71 u7 w2 :=
  ⟨fun d => h.e0 (done_of_set d (by decide)), fun d => h.e1 (done_of_set d (by decide)), fun d => h.e2 (done_of_set d (by decide)), fun d => h.e3 (done_of_set d (by decide)), fun d => h.e4 (done_of_set d (by decide)), fun d => h.e5 (done_of_set d (by decide)), fun d => h.e6 (done_of_set d (by decide)), fun d => h.e7 (done_of_set d (by decide)), fun d => h.e8 (done_of_set d (by decide)), fun _ => rfl, fun d => h.e10 (done_of_set d (by decide)), fun d => h.e11 (done_of_set d (by decide)), fun d => h.e12 (done_of_set d (by decide)), fun d => h.e13 (done_of_set d (by decide)), fun d => h.e14 (done_of_set d (by decide)), fun d => h.e15 (done_of_set d (by decide)), fun d => h.e16 (done_of_set d (by decide)), fun d => h.e17 (done_of_set d (by decide)), fun d => h.e18 (done_of_set d (by decide)), fun d => h.e19 (done_of_set d (by decide)), fun d => h.e20 (done_of_set d (by decide)), fun d => h.e21 (done_of_set d (by decide)), fun d => h.e22 (done_of_set d (by decide)), fun d => h.e23 (done_of_set d (by decide)), fun d => h.e24 (done_of_set d (by decide)), fun d => h.e25 (done_of_set d (by decide)), fun d => h.e26 (done_of_set d (by decide)), fun d => h.e27 (done_of_set d (by decide)), fun d => h.e28 (done_of_set d (by decide)), fun d => h.e29 (done_of_set d (by decide)), fun d => h.e30 (done_of_set d (by decide)), fun d => h.e31 (done_of_set d (by decide)), fun d => h.k7 (undone_of_set d), hS⟩

theorem TNext.s10 {w2 : World} (h : TNext wr l b off c k j y1 y2 x p D listed u41 u42 u43 u44 u45 u46 u47 u48 u49 u50 u51 u52 u53 u54 u55 u56 u57 u58 u59 u60 u61 u62 u63 u64 u65 u66 u67 u68 u69 u70 u71 u7 w') (hS : Fp (fun _ => False) wr w2) : TNext wr l b off c k j y1 y2 x p D (listed.setIfInBounds 10 true) u41 u42 u43 u44 u45 u46 u47 u48 u49 u50 (.pointer (some ⟨b, off + j * 3, none⟩)) u52 u53 u54 u55 u56 u57 u58 u59 u60 u61 u62 u63 u64 u65 u66 u67 u68 u69 u70 u71 u7 w2 :=
  ⟨fun d => h.e0 (done_of_set d (by decide)), fun d => h.e1 (done_of_set d (by decide)), fun d => h.e2 (done_of_set d (by decide)), fun d => h.e3 (done_of_set d (by decide)), fun d => h.e4 (done_of_set d (by decide)), fun d => h.e5 (done_of_set d (by decide)), fun d => h.e6 (done_of_set d (by decide)), fun d => h.e7 (done_of_set d (by decide)), fun d => h.e8 (done_of_set d (by decide)), fun d => h.e9 (done_of_set d (by decide)), fun _ => rfl, fun d => h.e11 (done_of_set d (by decide)), fun d => h.e12 (done_of_set d (by decide)), fun d => h.e13 (done_of_set d (by decide)), fun d => h.e14 (done_of_set d (by decide)), fun d => h.e15 (done_of_set d (by decide)), fun d => h.e16 (done_of_set d (by decide)), fun d => h.e17 (done_of_set d (by decide)), fun d => h.e18 (done_of_set d (by decide)), fun d => h.e19 (done_of_set d (by decide)), fun d => h.e20 (done_of_set d (by decide)), fun d => h.e21 (done_of_set d (by decide)), fun d => h.e22 (done_of_set d (by decide)), fun d => h.e23 (done_of_set d (by decide)), fun d => h.e24 (done_of_set d (by decide)), fun d => h.e25 (done_of_set d (by decide)), fun d => h.e26 (done_of_set d (by decide)), fun d => h.e27 (done_of_set d (by decide)), fun d => h.e28 (done_of_set d (by decide)), fun d => h.e29 (done_of_set d (by decide)), fun d => h.e30 (done_of_set d (by decide)), fun d => h.e31 (done_of_set d (by decide)), fun d => h.k7 (undone_of_set d), hS⟩

theorem TNext.s11 {w2 : World} (h : TNext wr l b off c k j y1 y2 x p D listed u41 u42 u43 u44 u45 u46 u47 u48 u49 u50 u51 u52 u53 u54 u55 u56 u57 u58 u59 u60 u61 u62 u63 u64 u65 u66 u67 u68 u69 u70 u71 u7 w') (hS : Fp (fun _ => False) wr w2) : TNext wr l b off c k j y1 y2 x p D (listed.setIfInBounds 11 true) u41 u42 u43 u44 u45 u46 u47 u48 u49 u50 u51 (.pointer (some ⟨b, off + j * 3 + 1, none⟩)) u53 u54 u55 u56 u57 u58 u59 u60 u61 u62 u63 u64 u65 u66 u67 u68 u69 u70 u71 u7 w2 :=
  ⟨fun d => h.e0 (done_of_set d (by decide)), fun d => h.e1 (done_of_set d (by decide)), fun d => h.e2 (done_of_set d (by decide)), fun d => h.e3 (done_of_set d (by decide)), fun d => h.e4 (done_of_set d (by decide)), fun d => h.e5 (done_of_set d (by decide)), fun d => h.e6 (done_of_set d (by decide)), fun d => h.e7 (done_of_set d (by decide)), fun d => h.e8 (done_of_set d (by decide)), fun d => h.e9 (done_of_set d (by decide)), fun d => h.e10 (done_of_set d (by decide)), fun _ => rfl, fun d => h.e12 (done_of_set d (by decide)), fun d => h.e13 (done_of_set d (by decide)), fun d => h.e14 (done_of_set d (by decide)), fun d => h.e15 (done_of_set d (by decide)), fun d => h.e16 (done_of_set d (by decide)), fun d => h.e17 (done_of_set d (by decide)), fun d => h.e18 (done_of_set d (by decide)), fun d => h.e19 (done_of_set d (by decide)), fun d => h.e20 (done_of_set d (by decide)), fun d => h.e21 (done_of_set d (by decide)), fun d => h.e22 (done_of_set d (by decide)), fun d => h.e23 (done_of_set d (by decide)), fun d => h.e24 (done_of_set d (by decide)), fun d => h.e25 (done_of_set d (by decide)), fun d => h.e26 (done_of_set d (by decide)), fun d => h.e27 (done_of_set d (by decide)), fun d => h.e28 (done_of_set d (by decide)), fun d => h.e29 (done_of_set d (by decide)), fun d => h.e30 (done_of_set d (by decide)), fun d => h.e31 (done_of_set d (by decide)), fun d => h.k7 (undone_of_set d), hS⟩

theorem TNext.s12 {w2 : World} (h : TNext wr l b off c k j y1 y2 x p D listed u41 u42 u43 u44 u45 u46 u47 u48 u49 u50 u51 u52 u53 u54 u55 u56 u57 u58 u59 u60 u61 u62 u63 u64 u65 u66 u67 u68 u69 u70 u71 u7 w') (hS : Fp (fun _ => False) wr w2) : TNext wr l b off c k j y1 y2 x p D (listed.setIfInBounds 12 true) u41 u42 u43 u44 u45 u46 u47 u48 u49 u50 u51 u52 (.int .i64 p.t) u54 u55 u56 u57 u58 u59 u60 u61 u62 u63 u64 u65 u66 u67 u68 u69 u70 u71 u7 w2 :=
  ⟨fun d => h.e0 (done_of_set d (by decide)), fun d => h.e1 (done_of_set d (by decide)), fun d => h.e2 (done_of_set d (by decide)), fun d => h.e3 (done_of_set d (by decide)), fun d => h.e4 (done_of_set d (by decide)), fun d => h.e5 (done_of_set d (by decide)), fun d => h.e6 (done_of_set d (by decide)), fun d => h.e7 (done_of_set d (by decide)), fun d => h.e8 (done_of_set d (by decide)), fun d => h.e9 (done_of_set d (by decide)), fun d => h.e10 (done_of_set d (by decide)), fun d => h.e11 (done_of_set d (by decide)), fun _ => rfl, fun d => h.e13 (done_of_set d (by decide)), fun d => h.e14 (done_of_set d (by decide)), fun d => h.e15 (done_of_set d (by decide)), fun d => h.e16 (done_of_set d (by decide)), fun d => h.e17 (done_of_set d (by decide)), fun d => h.e18 (done_of_set d (by decide)), fun d => h.e19 (done_of_set d (by decide)), fun d => h.e20 (done_of_set d (by decide)), fun d => h.e21 (done_of_set d (by decide)), fun d => h.e22 (done_of_set d (by decide)), fun d => h.e23 (done_of_set d (by decide)), fun d => h.e24 (done_of_set d (by decide)), fun d => h.e25 (done_of_set d (by decide)), fun d => h.e26 (done_of_set d (by decide)), fun d => h.e27 (done_of_set d (by decide)), fun d => h.e28 (done_of_set d (by decide)), fun d => h.e29 (done_of_set d (by decide)), fun d => h.e30 (done_of_set d (by decide)), fun d => h.e31 (done_of_set d (by decide)), fun d => h.k7 (undone_of_set d), hS⟩

theorem TNext.s13 {w2 : World} (h : TNext wr l b off c k j y1 y2 x p D listed u41 u42 u43 u44 u45 u46 u47 u48 u49 u50 u51 u52 u53 u54 u55 u56 u57 u58 u59 u60 u61 u62 u63 u64 u65 u66 u67 u68 u69 u70 u71 u7 w') (hS : Fp (fun _ => False) wr w2) : TNext wr l b off c k j y1 y2 x p D (listed.setIfInBounds 13 true) u41 u42 u43 u44 u45 u46 u47 u48 u49 u50 u51 u52 u53 (.int .u64 (IntKind.u64.wrap p.t)) u55 u56 u57 u58 u59 u60 u61 u62 u63 u64 u65 u66 u67 u68 u69 u70 u71 u7 w2 :=
  ⟨fun d => h.e0 (done_of_set d (by decide)), fun d => h.e1 (done_of_set d (by decide)), fun d => h.e2 (done_of_set d (by decide)), fun d => h.e3 (done_of_set d (by decide)), fun d => h.e4 (done_of_set d (by decide)), fun d => h.e5 (done_of_set d (by decide)), fun d => h.e6 (done_of_set d (by decide)), fun d => h.e7 (done_of_set d (by decide)), fun d => h.e8 (done_of_set d (by decide)), fun d => h.e9 (done_of_set d (by decide)), fun d => h.e10 (done_of_set d (by decide)), fun d => h.e11 (done_of_set d (by decide)), fun d => h.e12 (done_of_set d (by decide)), fun _ => rfl, fun d => h.e14 (done_of_set d (by decide)), fun d => h.e15 (done_of_set d (by decide)), fun d => h.e16 (done_of_set d (by decide)), fun d => h.e17 (done_of_set d (by decide)), fun d => h.e18 (done_of_set d (by decide)), fun d => h.e19 (done_of_set d (by decide)), fun d => h.e20 (done_of_set d (by decide)), fun d => h.e21 (done_of_set d (by decide)), fun d => h.e22 (done_of_set d (by decide)), fun d => h.e23 (done_of_set d (by decide)), fun d => h.e24 (done_of_set d (by decide)), fun d => h.e25 (done_of_set d (by decide)), fun d => h.e26 (done_of_set d (by decide)), fun d => h.e27 (done_of_set d (by decide)), fun d => h.e28 (done_of_set d (by decide)), fun d => h.e29 (done_of_set d (by decide)), fun d => h.e30 (done_of_set d (by decide)), fun d => h.e31 (done_of_set d (by decide)), fun d => h.k7 (undone_of_set d), hS⟩

theorem TNext.s14 {w2 : World} (h : TNext wr l b off c k j y1 y2 x p D listed u41 u42 u43 u44 u45 u46 u47 u48 u49 u50 u51 u52 u53 u54 u55 u56 u57 u58 u59 u60 u61 u62 u63 u64 u65 u66 u67 u68 u69 u70 u71 u7 w') (hS : Fp (fun _ => False) wr w2) : TNext wr l b off c k j y1 y2 x p D (listed.setIfInBounds 14 true) u41 u42 u43 u44 u45 u46 u47 u48 u49 u50 u51 u52 u53 u54 (.int .u64 ((y1 : Nat) : Int)) u56 u57 u58 u59 u60 u61 u62 u63 u64 u65 u66 u67 u68 u69 u70 u71 u7 w2 :=
  ⟨fun d => h.e0 (done_of_set d (by decide)), fun d => h.e1 (done_of_set d (by decide)), fun d => h.e2 (done_of_set d (by decide)), fun d => h.e3 (done_of_set d (by decide)), fun d => h.e4 (done_of_set d (by decide)), fun d => h.e5 (done_of_set d (by decide)), fun d => h.e6 (done_of_set d (by decide)), fun d => h.e7 (done_of_set d (by decide)), fun d => h.e8 (done_of_set d (by decide)), fun d => h.e9 (done_of_set d (by decide)), fun d => h.e10 (done_of_set d (by decide)), fun d => h.e11 (done_of_set d (by decide)), fun d => h.e12 (done_of_set d (by decide)), fun d => h.e13 (done_of_set d (by decide)), fun _ => rfl, fun d => h.e15 (done_of_set d (by decide)), fun d => h.e16 (done_of_set d (by decide)), fun d => h.e17 (done_of_set d (by decide)), fun d => h.e18 (done_of_set d (by decide)), fun d => h.e19 (done_of_set d (by decide)), fun d => h.e20 (done_of_set d (by decide)), fun d => h.e21 (done_of_set d (by decide)), fun d => h.e22 (done_of_set d (by decide)), fun d => h.e23 (done_of_set d (by decide)), fun d => h.e24 (done_of_set d (by decide)), fun d => h.e25 (done_of_set d (by decide)), fun d => h.e26 (done_of_set d (by decide)), fun d => h.e27 (done_of_set d (by decide)), fun d => h.e28 (done_of_set d (by decide)), fun d => h.e29 (done_of_set d (by decide)), fun d => h.e30 (done_of_set d (by decide)), fun d => h.e31 (done_of_set d (by decide)), fun d => h.k7 (undone_of_set d), hS⟩

theorem TNext.s15 {w2 : World} (h : TNext wr l b off c k j y1 y2 x p D listed u41 u42 u43 u44 u45 u46 u47 u48 u49 u50 u51 u52 u53 u54 u55 u56 u57 u58 u59 u60 u61 u62 u63 u64 u65 u66 u67 u68 u69 u70 u71 u7 w') (hS : Fp (fun _ => False) wr w2) : TNext wr l b off c k j y1 y2 x p D (listed.setIfInBounds 15 true) u41 u42 u43 u44 u45 u46 u47 u48 u49 u50 u51 u52 u53 u54 u55 (.string (S (Silo.leb y1))) u57 u58 u59 u60 u61 u62 u63 u64 u65 u66 u67 u68 u69 u70 u71 u7 w2 :=
  ⟨fun d => h.e0 (done_of_set d (by decide)), fun d => h.e1 (done_of_set d (by decide)), fun d => h.e2 (done_of_set d (by decide)), fun d => h.e3 (done_of_set d (by decide)), fun d => h.e4 (done_of_set d (by decide)), fun d => h.e5 (done_of_set d (by decide)), fun d => h.e6 (done_of_set d (by decide)), fun d => h.e7 (done_of_set d (by decide)), fun d => h.e8 (done_of_set d (by decide)), fun d => h.e9 (done_of_set d (by decide)), fun d => h.e10 (done_of_set d (by decide)), fun d => h.e11 (done_of_set d (by decide)), fun d => h.e12 (done_of_set d (by decide)), fun d => h.e13 (done_of_set d (by decide)), fun d => h.e14 (done_of_set d (by decide)), fun _ => rfl, fun d => h.e16 (done_of_set d (by decide)), fun d => h.e17 (done_of_set d (by decide)), fun d => h.e18 (done_of_set d (by decide)), fun d => h.e19 (done_of_set d (by decide)), fun d => h.e20 (done_of_set d (by decide)), fun d => h.e21 (done_of_set d (by decide)), fun d => h.e22 (done_of_set d (by decide)), fun d => h.e23 (done_of_set d (by decide)), fun d => h.e24 (done_of_set d (by decide)), fun d => h.e25 (done_of_set d (by decide)), fun d => h.e26 (done_of_set d (by decide)), fun d => h.e27 (done_of_set d (by decide)), fun d => h.e28 (done_of_set d (by decide)), fun d => h.e29 (done_of_set d (by decide)), fun d => h.e30 (done_of_set d (by decide)), fun d => h.e31 (done_of_set d (by decide)), fun d => h.k7 (undone_of_set d), hS⟩

theorem TNext.s16 {w2 : World} (h : TNext wr l b off c k j y1 y2 x p D listed u41 u42 u43 u44 u45 u46 u47 u48 u49 u50 u51 u52 u53 u54 u55 u56 u57 u58 u59 u60 u61 u62 u63 u64 u65 u66 u67 u68 u69 u70 u71 u7 w') (hS : Fp (fun _ => False) wr w2) : TNext wr l b off c k j y1 y2 x p D (listed.setIfInBounds 16 true) u41 u42 u43 u44 u45 u46 u47 u48 u49 u50 u51 u52 u53 u54 u55 u56 (.string (S D ++ S (Silo.leb y1))) u58 u59 u60 u61 u62 u63 u64 u65 u66 u67 u68 u69 u70 u71 u7 w2 :=
  ⟨fun d => h.e0 (done_of_set d (by decide)), fun d => h.e1 (done_of_set d (by decide)), fun d => h.e2 (done_of_set d (by decide)), fun d => h.e3 (done_of_set d (by decide)), fun d => h.e4 (done_of_set d (by decide)), fun d => h.e5 (done_of_set d (by decide)), fun d => h.e6 (done_of_set d (by decide)), fun d => h.e7 (done_of_set d (by decide)), fun d => h.e8 (done_of_set d (by decide)), fun d => h.e9 (done_of_set d (by decide)), fun d => h.e10 (done_of_set d (by decide)), fun d => h.e11 (done_of_set d (by decide)), fun d => h.e12 (done_of_set d (by decide)), fun d => h.e13 (done_of_set d (by decide)), fun d => h.e14 (done_of_set d (by decide)), fun d => h.e15 (done_of_set d (by decide)), fun _ => rfl, fun d => h.e17 (done_of_set d (by decide)), fun d => h.e18 (done_of_set d (by decide)), fun d => h.e19 (done_of_set d (by decide)), fun d => h.e20 (done_of_set d (by decide)), fun d => h.e21 (done_of_set d (by decide)), fun d => h.e22 (done_of_set d (by decide)), fun d => h.e23 (done_of_set d (by decide)), fun d => h.e24 (done_of_set d (by decide)), fun d => h.e25 (done_of_set d (by decide)), fun d => h.e26 (done_of_set d (by decide)), fun d => h.e27 (done_of_set d (by decide)), fun d => h.e28 (done_of_set d (by decide)), fun d => h.e29 (done_of_set d (by decide)), fun d => h.e30 (done_of_set d (by decide)), fun d => h.e31 (done_of_set d (by decide)), fun d => h.k7 (undone_of_set d), hS⟩

theorem TNext.s17 {w2 : World} (h : TNext wr l b off c k j y1 y2 x p D listed u41 u42 u43 u44 u45 u46 u47 u48 u49 u50 u51 u52 u53 u54 u55 u56 u57 u58 u59 u60 u61 u62 u63 u64 u65 u66 u67 u68 u69 u70 u71 u7 w') (hS : Fp (fun _ => False) wr w2) : TNext wr l b off c k j y1 y2 x p D (listed.setIfInBounds 17 true) u41 u42 u43 u44 u45 u46 u47 u48 u49 u50 u51 u52 u53 u54 u55 u56 u57 (.slice (some ⟨b, off, none⟩) l.length c) u59 u60 u61 u62 u63 u64 u65 u66 u67 u68 u69 u70 u71 u7 w2 :=
  ⟨fun d => h.e0 (done_of_set d (by decide)), fun d => h.e1 (done_of_set d (by decide)), fun d => h.e2 (done_of_set d (by decide)), fun d => h.e3 (done_of_set d (by decide)), fun d => h.e4 (done_of_set d (by decide)), fun d => h.e5 (done_of_set d (by decide)), fun d => h.e6 (done_of_set d (by decide)), fun d => h.e7 (done_of_set d (by decide)), fun d => h.e8 (done_of_set d (by decide)), fun d => h.e9 (done_of_set d (by decide)), fun d => h.e10 (done_of_set d (by decide)), fun d => h.e11 (done_of_set d (by decide)), fun d => h.e12 (done_of_set d (by decide)), fun d => h.e13 (done_of_set d (by decide)), fun d => h.e14 (done_of_set d (by decide)), fun d => h.e15 (done_of_set d (by decide)), fun d => h.e16 (done_of_set d (by decide)), fun _ => rfl, fun d => h.e18 (done_of_set d (by decide)), fun d => h.e19 (done_of_set d (by decide)), fun d => h.e20 (done_of_set d (by decide)), fun d => h.e21 (done_of_set d (by decide)), fun d => h.e22 (done_of_set d (by decide)), fun d => h.e23 (done_of_set d (by decide)), fun d => h.e24 (done_of_set d (by decide)), fun d => h.e25 (done_of_set d (by decide)), fun d => h.e26 (done_of_set d (by decide)), fun d => h.e27 (done_of_set d (by decide)), fun d => h.e28 (done_of_set d (by decide)), fun d => h.e29 (done_of_set d (by decide)), fun d => h.e30 (done_of_set d (by decide)), fun d => h.e31 (done_of_set d (by decide)), fun d => h.k7 (undone_of_set d), hS⟩

theorem TNext.s18 {w2 : World} (h : TNext wr l b off c k j y1 y2 x p D listed u41 u42 u43 u44 u45 u46 u47 u48 u49 u50 u51 u52 u53 u54 u55 u56 u57 u58 u59 u60 u61 u62 u63 u64 u65 u66 u67 u68 u69 u70 u71 u7 w') (hS : Fp (fun _ => False) wr w2) : TNext wr l b off c k j y1 y2 x p D (listed.setIfInBounds 18 true) u41 u42 u43 u44 u45 u46 u47 u48 u49 u50 u51 u52 u53 u54 u55 u56 u57 u58 (.int .i64 ((k : Nat) : Int)) u60 u61 u62 u63 u64 u65 u66 u67 u68 u69 u70 u71 u7 w2 :=
  ⟨fun d => h.e0 (done_of_set d (by decide)), fun d => h.e1 (done_of_set d (by decide)), fun d => h.e2 (done_of_set d (by decide)), fun d => h.e3 (done_of_set d (by decide)), fun d => h.e4 (done_of_set d (by decide)), fun d => h.e5 (done_of_set d (by decide)), fun d => h.e6 (done_of_set d (by decide)), fun d => h.e7 (done_of_set d (by decide)), fun d => h.e8 (done_of_set d (by decide)), fun d => h.e9 (done_of_set d (by decide)), fun d => h.e10 (done_of_set d (by decide)), fun d => h.e11 (done_of_set d (by decide)), fun d => h.e12 (done_of_set d (by decide)), fun d => h.e13 (done_of_set d (by decide)), fun d => h.e14 (done_of_set d (by decide)), fun d => h.e15 (done_of_set d (by decide)), fun d => h.e16 (done_of_set d (by decide)), fun d => h.e17 (done_of_set d (by decide)), fun _ => rfl, fun d => h.e19 (done_of_set d (by decide)), fun d => h.e20 (done_of_set d (by decide)), fun d => h.e21 (done_of_set d (by decide)), fun d => h.e22 (done_of_set d (by decide)), fun d => h.e23 (done_of_set d (by decide)), fun d => h.e24 (done_of_set d (by decide)), fun d => h.e25 (done_of_set d (by decide)), fun d => h.e26 (done_of_set d (by decide)), fun d => h.e27 (done_of_set d (by decide)), fun d => h.e28 (done_of_set d (by decide)), fun d => h.e29 (done_of_set d (by decide)), fun d => h.e30 (done_of_set d (by decide)), fun d => h.e31 (done_of_set d (by decide)), fun d => h.k7 (undone_of_set d), hS⟩

theorem TNext.s19 {w2 : World} (h : TNext wr l b off c k j y1 y2 x p D listed u41 u42 u43 u44 u45 u46 u47 u48 u49 u50 u51 u52 u53 u54 u55 u56 u57 u58 u59 u60 u61 u62 u63 u64 u65 u66 u67 u68 u69 u70 u71 u7 w') (hS : Fp (fun _ => False) wr w2) : TNext wr l b off c k j y1 y2 x p D (listed.setIfInBounds 19 true) u41 u42 u43 u44 u45 u46 u47 u48 u49 u50 u51 u52 u53 u54 u55 u56 u57 u58 u59 (.pointer (some ⟨b, off + k * 3, none⟩)) u61 u62 u63 u64 u65 u66 u67 u68 u69 u70 u71 u7 w2 :=
  ⟨fun d => h.e0 (done_of_set d (by decide)), fun d => h.e1 (done_of_set d (by decide)), fun d => h.e2 (done_of_set d (by decide)), fun d => h.e3 (done_of_set d (by decide)), fun d => h.e4 (done_of_set d (by decide)), fun d => h.e5 (done_of_set d (by decide)), fun d => h.e6 (done_of_set d (by decide)), fun d => h.e7 (done_of_set d (by decide)), fun d => h.e8 (done_of_set d (by decide)), fun d => h.e9 (done_of_set d (by decide)), fun d => h.e10 (done_of_set d (by decide)), fun d => h.e11 (done_of_set d (by decide)), fun d => h.e12 (done_of_set d (by decide)), fun d => h.e13 (done_of_set d (by decide)), fun d => h.e14 (done_of_set d (by decide)), fun d => h.e15 (done_of_set d (by decide)), fun d => h.e16 (done_of_set d (by decide)), fun d => h.e17 (done_of_set d (by decide)), fun d => h.e18 (done_of_set d (by decide)), fun _ => rfl, fun d => h.e20 (done_of_set d (by decide)), fun d => h.e21 (done_of_set d (by decide)), fun d => h.e22 (done_of_set d (by decide)), fun d => h.e23 (done_of_set d (by decide)), fun d => h.e24 (done_of_set d (by decide)), fun d => h.e25 (done_of_set d (by decide)), fun d => h.e26 (done_of_set d (by decide)), fun d => h.e27 (done_of_set d (by decide)), fun d => h.e28 (done_of_set d (by decide)), fun d => h.e29 (done_of_set d (by decide)), fun d => h.e30 (done_of_set d (by decide)), fun d => h.e31 (done_of_set d (by decide)), fun d => h.k7 (undone_of_set d), hS⟩

theorem TNext.s20 {w2 : World} (h : TNext wr l b off c k j y1 y2 x p D listed u41 u42 u43 u44 u45 u46 u47 u48 u49 u50 u51 u52 u53 u54 u55 u56 u57 u58 u59 u60 u61 u62 u63 u64 u65 u66 u67 u68 u69 u70 u71 u7 w') (hS : Fp (fun _ => False) wr w2) : TNext wr l b off c k j y1 y2 x p D (listed.setIfInBounds 20 true) u41 u42 u43 u44 u45 u46 u47 u48 u49 u50 u51 u52 u53 u54 u55 u56 u57 u58 u59 u60 (.pointer (some ⟨b, off + k * 3 + 2, none⟩)) u62 u63 u64 u65 u66 u67 u68 u69 u70 u71 u7 w2 :=
  ⟨fun d => h.e0 (done_of_set d (by decide)), fun d => h.e1 (done_of_set d (by decide)), fun d => h.e2 (done_of_set d (by decide)), fun d => h.e3 (done_of_set d (by decide)), fun d => h.e4 (done_of_set d (by decide)), fun d => h.e5 (done_of_set d (by decide)), fun d => h.e6 (done_of_set d (by decide)), fun d => h.e7 (done_of_set d (by decide)), fun d => h.e8 (done_of_set d (by decide)), fun d => h.e9 (done_of_set d (by decide)), fun d => h.e10 (done_of_set d (by decide)), fun d => h.e11 (done_of_set d (by decide)), fun d => h.e12 (done_of_set d (by decide)), fun d => h.e13 (done_of_set d (by decide)), fun d => h.e14 (done_of_set d (by decide)), fun d => h.e15 (done_of_set d (by decide)), fun d => h.e16 (done_of_set d (by decide)), fun d => h.e17 (done_of_set d (by decide)), fun d => h.e18 (done_of_set d (by decide)), fun d => h.e19 (done_of_set d (by decide)), fun _ => rfl, fun d => h.e21 (done_of_set d (by decide)), fun d => h.e22 (done_of_set d (by decide)), fun d => h.e23 (done_of_set d (by decide)), fun d => h.e24 (done_of_set d (by decide)), fun d => h.e25 (done_of_set d (by decide)), fun d => h.e26 (done_of_set d (by decide)), fun d => h.e27 (done_of_set d (by decide)), fun d => h.e28 (done_of_set d (by decide)), fun d => h.e29 (done_of_set d (by decide)), fun d => h.e30 (done_of_set d (by decide)), fun d => h.e31 (done_of_set d (by decide)), fun d => h.k7 (undone_of_set d), hS⟩

theorem TNext.s21 {w2 : World} (h : TNext wr l b off c k j y1 y2 x p D listed u41 u42 u43 u44 u45 u46 u47 u48 u49 u50 u51 u52 u53 u54 u55 u56 u57 u58 u59 u60 u61 u62 u63 u64 u65 u66 u67 u68 u69 u70 u71 u7 w') (hS : Fp (fun _ => False) wr w2) : TNext wr l b off c k j y1 y2 x p D (listed.setIfInBounds 21 true) u41 u42 u43 u44 u45 u46 u47 u48 u49 u50 u51 u52 u53 u54 u55 u56 u57 u58 u59 u60 u61 (.int .u64 ((x.v : Nat) : Int)) u63 u64 u65 u66 u67 u68 u69 u70 u71 u7 w2 :=
  ⟨fun d => h.e0 (done_of_set d (by decide)), fun d => h.e1 (done_of_set d (by decide)), fun d => h.e2 (done_of_set d (by decide)), fun d => h.e3 (done_of_set d (by decide)), fun d => h.e4 (done_of_set d (by decide)), fun d => h.e5 (done_of_set d (by decide)), fun d => h.e6 (done_of_set d (by decide)), fun d => h.e7 (done_of_set d (by decide)), fun d => h.e8 (done_of_set d (by decide)), fun d => h.e9 (done_of_set d (by decide)), fun d => h.e10 (done_of_set d (by decide)), fun d => h.e11 (done_of_set d (by decide)), fun d => h.e12 (done_of_set d (by decide)), fun d => h.e13 (done_of_set d (by decide)), fun d => h.e14 (done_of_set d (by decide)), fun d => h.e15 (done_of_set d (by decide)), fun d => h.e16 (done_of_set d (by decide)), fun d => h.e17 (done_of_set d (by decide)), fun d => h.e18 (done_of_set d (by decide)), fun d => h.e19 (done_of_set d (by decide)), fun d => h.e20 (done_of_set d (by decide)), fun _ => rfl, fun d => h.e22 (done_of_set d (by decide)), fun d => h.e23 (done_of_set d (by decide)), fun d => h.e24 (done_of_set d (by decide)), fun d => h.e25 (done_of_set d (by decide)), fun d => h.e26 (done_of_set d (by decide)), fun d => h.e27 (done_of_set d (by decide)), fun d => h.e28 (done_of_set d (by decide)), fun d => h.e29 (done_of_set d (by decide)), fun d => h.e30 (done_of_set d (by decide)), fun d => h.e31 (done_of_set d (by decide)), fun d => h.k7 (undone_of_set d), hS⟩

theorem TNext.s22 {w2 : World} (h : TNext wr l b off c k j y1 y2 x p D listed u41 u42 u43 u44 u45 u46 u47 u48 u49 u50 u51 u52 u53 u54 u55 u56 u57 u58 u59 u60 u61 u62 u63 u64 u65 u66 u67 u68 u69 u70 u71 u7 w') (hS : Fp (fun _ => False) wr w2) : TNext wr l b off c k j y1 y2 x p D (listed.setIfInBounds 22 true) u41 u42 u43 u44 u45 u46 u47 u48 u49 u50 u51 u52 u53 u54 u55 u56 u57 u58 u59 u60 u61 u62 (.slice (some ⟨b, off, none⟩) l.length c) u64 u65 u66 u67 u68 u69 u70 u71 u7 w2 :=
  ⟨fun d => h.e0 (done_of_set d (by decide)), fun d => h.e1 (done_of_set d (by decide)), fun d => h.e2 (done_of_set d (by decide)), fun d => h.e3 (done_of_set d (by decide)), fun d => h.e4 (done_of_set d (by decide)), fun d => h.e5 (done_of_set d (by decide)), fun d => h.e6 (done_of_set d (by decide)), fun d => h.e7 (done_of_set d (by decide)), fun d => h.e8 (done_of_set d (by decide)), fun d => h.e9 (done_of_set d (by decide)), fun d => h.e10 (done_of_set d (by decide)), fun d => h.e11 (done_of_set d (by decide)), fun d => h.e12 (done_of_set d (by decide)), fun d => h.e13 (done_of_set d (by decide)), fun d => h.e14 (done_of_set d (by decide)), fun d => h.e15 (done_of_set d (by decide)), fun d => h.e16 (done_of_set d (by decide)), fun d => h.e17 (done_of_set d (by decide)), fun d => h.e18 (done_of_set d (by decide)), fun d => h.e19 (done_of_set d (by decide)), fun d => h.e20 (done_of_set d (by decide)), fun d => h.e21 (done_of_set d (by decide)), fun _ => rfl, fun d => h.e23 (done_of_set d (by decide)), fun d => h.e24 (done_of_set d (by decide)), fun d => h.e25 (done_of_set d (by decide)), fun d => h.e26 (done_of_set d (by decide)), fun d => h.e27 (done_of_set d (by decide)), fun d => h.e28 (done_of_set d (by decide)), fun d => h.e29 (done_of_set d (by decide)), fun d => h.e30 (done_of_set d (by decide)), fun d => h.e31 (done_of_set d (by decide)), fun d => h.k7 (undone_of_set d), hS⟩

theorem TNext.s23 {w2 : World} (h : TNext wr l b off c k j y1 y2 x p D listed u41 u42 u43 u44 u45 u46 u47 u48 u49 u50 u51 u52 u53 u54 u55 u56 u57 u58 u59 u60 u61 u62 u63 u64 u65 u66 u67 u68 u69 u70 u71 u7 w') (hS : Fp (fun _ => False) wr w2) : TNext wr l b off c k j y1 y2 x p D (listed.setIfInBounds 23 true) u41 u42 u43 u44 u45 u46 u47 u48 u49 u50 u51 u52 u53 u54 u55 u56 u57 u58 u59 u60 u61 u62 u63 (.int .i64 ((k : Nat) : Int)) u65 u66 u67 u68 u69 u70 u71 u7 w2 :=
  ⟨fun d => h.e0 (done_of_set d (by decide)), fun d => h.e1 (done_of_set d (by decide)), fun d => h.e2 (done_of_set d (by decide)), fun d => h.e3 (done_of_set d (by decide)), fun d => h.e4 (done_of_set d (by decide)), fun d => h.e5 (done_of_set d (by decide)), fun d => h.e6 (done_of_set d (by decide)), fun d => h.e7 (done_of_set d (by decide)), fun d => h.e8 (done_of_set d (by decide)), fun d => h.e9 (done_of_set d (by decide)), fun d => h.e10 (done_of_set d (by decide)), fun d => h.e11 (done_of_set d (by decide)), fun d => h.e12 (done_of_set d (by decide)), fun d => h.e13 (done_of_set d (by decide)), fun d => h.e14 (done_of_set d (by decide)), fun d => h.e15 (done_of_set d (by decide)), fun d => h.e16 (done_of_set d (by decide)), fun d => h.e17 (done_of_set d (by decide)), fun d => h.e18 (done_of_set d (by decide)), fun d => h.e19 (done_of_set d (by decide)), fun d => h.e20 (done_of_set d (by decide)), fun d => h.e21 (done_of_set d (by decide)), fun d => h.e22 (done_of_set d (by decide)), fun _ => rfl, fun d => h.e24 (done_of_set d (by decide)), fun d => h.e25 (done_of_set d (by decide)), fun d => h.e26 (done_of_set d (by decide)), fun d => h.e27 (done_of_set d (by decide)), fun d => h.e28 (done_of_set d (by decide)), fun d => h.e29 (done_of_set d (by decide)), fun d => h.e30 (done_of_set d (by decide)), fun d => h.e31 (done_of_set d (by decide)), fun d => h.k7 (undone_of_set d), hS⟩

theorem TNext.s24 {w2 : World} (h : TNext wr l b off c k j y1 y2 x p D listed u41 u42 u43 u44 u45 u46 u47 u48 u49 u50 u51 u52 u53 u54 u55 u56 u57 u58 u59 u60 u61 u62 u63 u64 u65 u66 u67 u68 u69 u70 u71 u7 w') (hS : Fp (fun _ => False) wr w2) : TNext wr l b off c k j y1 y2 x p D (listed.setIfInBounds 24 true) u41 u42 u43 u44 u45 u46 u47 u48 u49 u50 u51 u52 u53 u54 u55 u56 u57 u58 u59 u60 u61 u62 u63 u64 (.int .i64 ((j : Nat) : Int)) u66 u67 u68 u69 u70 u71 u7 w2 :=
  ⟨fun d => h.e0 (done_of_set d (by decide)), fun d => h.e1 (done_of_set d (by decide)), fun d => h.e2 (done_of_set d (by decide)), fun d => h.e3 (done_of_set d (by decide)), fun d => h.e4 (done_of_set d (by decide)), fun d => h.e5 (done_of_set d (by decide)), fun d => h.e6 (done_of_set d (by decide)), fun d => h.e7 (done_of_set d (by decide)), fun d => h.e8 (done_of_set d (by decide)), fun d => h.e9 (done_of_set d (by decide)), fun d => h.e10 (done_of_set d (by decide)), fun d => h.e11 (done_of_set d (by decide)), fun d => h.e12 (done_of_set d (by decide)), fun d => h.e13 (done_of_set d (by decide)), fun d => h.e14 (done_of_set d (by decide)), fun d => h.e15 (done_of_set d (by decide)), fun d => h.e16 (done_of_set d (by decide)), fun d => h.e17 (done_of_set d (by decide)), fun d => h.e18 (done_of_set d (by decide)), fun d => h.e19 (done_of_set d (by decide)), fun d => h.e20 (done_of_set d (by decide)), fun d => h.e21 (done_of_set d (by decide)), fun d => h.e22 (done_of_set d (by decide)), fun d => h.e23 (done_of_set d (by decide)), fun _ => rfl, fun d => h.e25 (done_of_set d (by decide)), fun d => h.e26 (done_of_set d (by decide)), fun d => h.e27 (done_of_set d (by decide)), fun d => h.e28 (done_of_set d (by decide)), fun d => h.e29 (done_of_set d (by decide)), fun d => h.e30 (done_of_set d (by decide)), fun d => h.e31 (done_of_set d (by decide)), fun d => h.k7 (undone_of_set d), hS⟩

theorem TNext.s25 {w2 : World} (h : TNext wr l b off c k j y1 y2 x p D listed u41 u42 u43 u44 u45 u46 u47 u48 u49 u50 u51 u52 u53 u54 u55 u56 u57 u58 u59 u60 u61 u62 u63 u64 u65 u66 u67 u68 u69 u70 u71 u7 w') (hS : Fp (fun _ => False) wr w2) : TNext wr l b off c k j y1 y2 x p D (listed.setIfInBounds 25 true) u41 u42 u43 u44 u45 u46 u47 u48 u49 u50 u51 u52 u53 u54 u55 u56 u57 u58 u59 u60 u61 u62 u63 u64 u65 (.pointer (some ⟨b, off + j * 3, none⟩)) u67 u68 u69 u70 u71 u7 w2 :=
  ⟨fun d => h.e0 (done_of_set d (by decide)), fun d => h.e1 (done_of_set d (by decide)), fun d => h.e2 (done_of_set d (by decide)), fun d => h.e3 (done_of_set d (by decide)), fun d => h.e4 (done_of_set d (by decide)), fun d => h.e5 (done_of_set d (by decide)), fun d => h.e6 (done_of_set d (by decide)), fun d => h.e7 (done_of_set d (by decide)), fun d => h.e8 (done_of_set d (by decide)), fun d => h.e9 (done_of_set d (by decide)), fun d => h.e10 (done_of_set d (by decide)), fun d => h.e11 (done_of_set d (by decide)), fun d => h.e12 (done_of_set d (by decide)), fun d => h.e13 (done_of_set d (by decide)), fun d => h.e14 (done_of_set d (by decide)), fun d => h.e15 (done_of_set d (by decide)), fun d => h.e16 (done_of_set d (by decide)), fun d => h.e17 (done_of_set d (by decide)), fun d => h.e18 (done_of_set d (by decide)), fun d => h.e19 (done_of_set d (by decide)), fun d => h.e20 (done_of_set d (by decide)), fun d => h.e21 (done_of_set d (by decide)), fun d => h.e22 (done_of_set d (by decide)), fun d => h.e23 (done_of_set d (by decide)), fun d => h.e24 (done_of_set d (by decide)), fun _ => rfl, fun d => h.e26 (done_of_set d (by decide)), fun d => h.e27 (done_of_set d (by decide)), fun d => h.e28 (done_of_set d (by decide)), fun d => h.e29 (done_of_set d (by decide)), fun d => h.e30 (done_of_set d (by decide)), fun d => h.e31 (done_of_set d (by decide)), fun d => h.k7 (undone_of_set d), hS⟩

theorem TNext.s26 {w2 : World} (h : TNext wr l b off c k j y1 y2 x p D listed u41 u42 u43 u44 u45 u46 u47 u48 u49 u50 u51 u52 u53 u54 u55 u56 u57 u58 u59 u60 u61 u62 u63 u64 u65 u66 u67 u68 u69 u70 u71 u7 w') (hS : Fp (fun _ => False) wr w2) : TNext wr l b off c k j y1 y2 x p D (listed.setIfInBounds 26 true) u41 u42 u43 u44 u45 u46 u47 u48 u49 u50 u51 u52 u53 u54 u55 u56 u57 u58 u59 u60 u61 u62 u63 u64 u65 u66 (.pointer (some ⟨b, off + j * 3 + 2, none⟩)) u68 u69 u70 u71 u7 w2 :=
  ⟨fun d => h.e0 (done_of_set d (by decide)), fun d => h.e1 (done_of_set d (by decide)), fun d => h.e2 (done_of_set d (by decide)), fun d => h.e3 (done_of_set d (by decide)), fun d => h.e4 (done_of_set d (by decide)), fun d => h.e5 (done_of_set d (by decide)), fun d => h.e6 (done_of_set d (by decide)), fun d => h.e7 (done_of_set d (by decide)), fun d => h.e8 (done_of_set d (by decide)), fun d => h.e9 (done_of_set d (by decide)), fun d => h.e10 (done_of_set d (by decide)), fun d => h.e11 (done_of_set d (by decide)), fun d => h.e12 (done_of_set d (by decide)), fun d => h.e13 (done_of_set d (by decide)), fun d => h.e14 (done_of_set d (by decide)), fun d => h.e15 (done_of_set d (by decide)), fun d => h.e16 (done_of_set d (by decide)), fun d => h.e17 (done_of_set d (by decide)), fun d => h.e18 (done_of_set d (by decide)), fun d => h.e19 (done_of_set d (by decide)), fun d => h.e20 (done_of_set d (by decide)), fun d => h.e21 (done_of_set d (by decide)), fun d => h.e22 (done_of_set d (by decide)), fun d => h.e23 (done_of_set d (by decide)), fun d => h.e24 (done_of_set d (by decide)), fun d => h.e25 (done_of_set d (by decide)), fun _ => rfl, fun d => h.e27 (done_of_set d (by decide)), fun d => h.e28 (done_of_set d (by decide)), fun d => h.e29 (done_of_set d (by decide)), fun d => h.e30 (done_of_set d (by decide)), fun d => h.e31 (done_of_set d (by decide)), fun d => h.k7 (undone_of_set d), hS⟩

theorem TNext.s27 {w2 : World} (h : TNext wr l b off c k j y1 y2 x p D listed u41 u42 u43 u44 u45 u46 u47 u48 u49 u50 u51 u52 u53 u54 u55 u56 u57 u58 u59 u60 u61 u62 u63 u64 u65 u66 u67 u68 u69 u70 u71 u7 w') (hS : Fp (fun _ => False) wr w2) : TNext wr l b off c k j y1 y2 x p D (listed.setIfInBounds 27 true) u41 u42 u43 u44 u45 u46 u47 u48 u49 u50 u51 u52 u53 u54 u55 u56 u57 u58 u59 u60 u61 u62 u63 u64 u65 u66 u67 (.int .u64 ((p.v : Nat) : Int)) u69 u70 u71 u7 w2 :=
  ⟨fun d => h.e0 (done_of_set d (by decide)), fun d => h.e1 (done_of_set d (by decide)), fun d => h.e2 (done_of_set d (by decide)), fun d => h.e3 (done_of_set d (by decide)), fun d => h.e4 (done_of_set d (by decide)), fun d => h.e5 (done_of_set d (by decide)), fun d => h.e6 (done_of_set d (by decide)), fun d => h.e7 (done_of_set d (by decide)), fun d => h.e8 (done_of_set d (by decide)), fun d => h.e9 (done_of_set d (by decide)), fun d => h.e10 (done_of_set d (by decide)), fun d => h.e11 (done_of_set d (by decide)), fun d => h.e12 (done_of_set d (by decide)), fun d => h.e13 (done_of_set d (by decide)), fun d => h.e14 (done_of_set d (by decide)), fun d => h.e15 (done_of_set d (by decide)), fun d => h.e16 (done_of_set d (by decide)), fun d => h.e17 (done_of_set d (by decide)), fun d => h.e18 (done_of_set d (by decide)), fun d => h.e19 (done_of_set d (by decide)), fun d => h.e20 (done_of_set d (by decide)), fun d => h.e21 (done_of_set d (by decide)), fun d => h.e22 (done_of_set d (by decide)), fun d => h.e23 (done_of_set d (by decide)), fun d => h.e24 (done_of_set d (by decide)), fun d => h.e25 (done_of_set d (by decide)), fun d => h.e26 (done_of_set d (by decide)), fun _ => rfl, fun d => h.e28 (done_of_set d (by decide)), fun d => h.e29 (done_of_set d (by decide)), fun d => h.e30 (done_of_set d (by decide)), fun d => h.e31 (done_of_set d (by decide)), fun d => h.k7 (undone_of_set d), hS⟩

theorem TNext.s28 {w2 : World} (h : TNext wr l b off c k j y1 y2 x p D listed u41 u42 u43 u44 u45 u46 u47 u48 u49 u50 u51 u52 u53 u54 u55 u56 u57 u58 u59 u60 u61 u62 u63 u64 u65 u66 u67 u68 u69 u70 u71 u7 w') (hS : Fp (fun _ => False) wr w2) : TNext wr l b off c k j y1 y2 x p D (listed.setIfInBounds 28 true) u41 u42 u43 u44 u45 u46 u47 u48 u49 u50 u51 u52 u53 u54 u55 u56 u57 u58 u59 u60 u61 u62 u63 u64 u65 u66 u67 u68 (.int .u64 ((y2 : Nat) : Int)) u70 u71 u7 w2 :=
  ⟨fun d => h.e0 (done_of_set d (by decide)), fun d => h.e1 (done_of_set d (by decide)), fun d => h.e2 (done_of_set d (by decide)), fun d => h.e3 (done_of_set d (by decide)), fun d => h.e4 (done_of_set d (by decide)), fun d => h.e5 (done_of_set d (by decide)), fun d => h.e6 (done_of_set d (by decide)), fun d => h.e7 (done_of_set d (by decide)), fun d => h.e8 (done_of_set d (by decide)), fun d => h.e9 (done_of_set d (by decide)), fun d => h.e10 (done_of_set d (by decide)), fun d => h.e11 (done_of_set d (by decide)), fun d => h.e12 (done_of_set d (by decide)), fun d => h.e13 (done_of_set d (by decide)), fun d => h.e14 (done_of_set d (by decide)), fun d => h.e15 (done_of_set d (by decide)), fun d => h.e16 (done_of_set d (by decide)), fun d => h.e17 (done_of_set d (by decide)), fun d => h.e18 (done_of_set d (by decide)), fun d => h.e19 (done_of_set d (by decide)), fun d => h.e20 (done_of_set d (by decide)), fun d => h.e21 (done_of_set d (by decide)), fun d => h.e22 (done_of_set d (by decide)), fun d => h.e23 (done_of_set d (by decide)), fun d => h.e24 (done_of_set d (by decide)), fun d => h.e25 (done_of_set d (by decide)), fun d => h.e26 (done_of_set d (by decide)), fun d => h.e27 (done_of_set d (by decide)), fun _ => rfl, fun d => h.e29 (done_of_set d (by decide)), fun d => h.e30 (done_of_set d (by decide)), fun d => h.e31 (done_of_set d (by decide)), fun d => h.k7 (undone_of_set d), hS⟩

theorem TNext.s29 {w2 : World} (h : TNext wr l b off c k j y1 y2 x p D listed u41 u42 u43 u44 u45 u46 u47 u48 u49 u50 u51 u52 u53 u54 u55 u56 u57 u58 u59 u60 u61 u62 u63 u64 u65 u66 u67 u68 u69 u70 u71 u7 w') (hS : Fp (fun _ => False) wr w2) : TNext wr l b off c k j y1 y2 x p D (listed.setIfInBounds 29 true) u41 u42 u43 u44 u45 u46 u47 u48 u49 u50 u51 u52 u53 u54 u55 u56 u57 u58 u59 u60 u61 u62 u63 u64 u65 u66 u67 u68 u69 (.string (S (Silo.leb y2))) u71 u7 w2 :=
  ⟨fun d => h.e0 (done_of_set d (by decide)), fun d => h.e1 (done_of_set d (by decide)), fun d => h.e2 (done_of_set d (by decide)), fun d => h.e3 (done_of_set d (by decide)), fun d => h.e4 (done_of_set d (by decide)), fun d => h.e5 (done_of_set d (by decide)), fun d => h.e6 (done_of_set d (by decide)), fun d => h.e7 (done_of_set d (by decide)), fun d => h.e8 (done_of_set d (by decide)), fun d => h.e9 (done_of_set d (by decide)), fun d => h.e10 (done_of_set d (by decide)), fun d => h.e11 (done_of_set d (by decide)), fun d => h.e12 (done_of_set d (by decide)), fun d => h.e13 (done_of_set d (by decide)), fun d => h.e14 (done_of_set d (by decide)), fun d => h.e15 (done_of_set d (by decide)), fun d => h.e16 (done_of_set d (by decide)), fun d => h.e17 (done_of_set d (by decide)), fun d => h.e18 (done_of_set d (by decide)), fun d => h.e19 (done_of_set d (by decide)), fun d => h.e20 (done_of_set d (by decide)), fun d => h.e21 (done_of_set d (by decide)), fun d => h.e22 (done_of_set d (by decide)), fun d => h.e23 (done_of_set d (by decide)), fun d => h.e24 (done_of_set d (by decide)), fun d => h.e25 (done_of_set d (by decide)), fun d => h.e26 (done_of_set d (by decide)), fun d => h.e27 (done_of_set d (by decide)), fun d => h.e28 (done_of_set d (by decide)), fun _ => rfl, fun d => h.e30 (done_of_set d (by decide)), fun d => h.e31 (done_of_set d (by decide)), fun d => h.k7 (undone_of_set d), hS⟩

theorem TNext.s30 {w2 : World} (h : TNext wr l b off c k j y1 y2 x p D listed u41 u42 u43 u44 u45 u46 u47 u48 u49 u50 u51 u52 u53 u54 u55 u56 u57 u58 u59 u60 u61 u62 u63 u64 u65 u66 u67 u68 u69 u70 u71 u7 w') (hS : Fp (fun _ => False) wr w2) : TNext wr l b off c k j y1 y2 x p D (listed.setIfInBounds 30 true) u41 u42 u43 u44 u45 u46 u47 u48 u49 u50 u51 u52 u53 u54 u55 u56 u57 u58 u59 u60 u61 u62 u63 u64 u65 u66 u67 u68 u69 u70 (.string (S D ++ S (Silo.leb y1) ++ S (Silo.leb y2))) u7 w2 :=
  ⟨fun d => h.e0 (done_of_set d (by decide)), fun d => h.e1 (done_of_set d (by decide)), fun d => h.e2 (done_of_set d (by decide)), fun d => h.e3 (done_of_set d (by decide)), fun d => h.e4 (done_of_set d (by decide)), fun d => h.e5 (done_of_set d (by decide)), fun d => h.e6 (done_of_set d (by decide)), fun d => h.e7 (done_of_set d (by decide)), fun d => h.e8 (done_of_set d (by decide)), fun d => h.e9 (done_of_set d (by decide)), fun d => h.e10 (done_of_set d (by decide)), fun d => h.e11 (done_of_set d (by decide)), fun d => h.e12 (done_of_set d (by decide)), fun d => h.e13 (done_of_set d (by decide)), fun d => h.e14 (done_of_set d (by decide)), fun d => h.e15 (done_of_set d (by decide)), fun d => h.e16 (done_of_set d (by decide)), fun d => h.e17 (done_of_set d (by decide)), fun d => h.e18 (done_of_set d (by decide)), fun d => h.e19 (done_of_set d (by decide)), fun d => h.e20 (done_of_set d (by decide)), fun d => h.e21 (done_of_set d (by decide)), fun d => h.e22 (done_of_set d (by decide)), fun d => h.e23 (done_of_set d (by decide)), fun d => h.e24 (done_of_set d (by decide)), fun d => h.e25 (done_of_set d (by decide)), fun d => h.e26 (done_of_set d (by decide)), fun d => h.e27 (done_of_set d (by decide)), fun d => h.e28 (done_of_set d (by decide)), fun d => h.e29 (done_of_set d (by decide)), fun _ => rfl, fun d => h.e31 (done_of_set d (by decide)), fun d => h.k7 (undone_of_set d), hS⟩

theorem TNext.s31 {w2 : World} (h : TNext wr l b off c k j y1 y2 x p D listed u41 u42 u43 u44 u45 u46 u47 u48 u49 u50 u51 u52 u53 u54 u55 u56 u57 u58 u59 u60 u61 u62 u63 u64 u65 u66 u67 u68 u69 u70 u71 u7 w') (hi : 31 < listed.size) (hS : Fp (fun _ => False) wr w2) : TNext wr l b off c k j y1 y2 x p D (listed.setIfInBounds 31 true) u41 u42 u43 u44 u45 u46 u47 u48 u49 u50 u51 u52 u53 u54 u55 u56 u57 u58 u59 u60 u61 u62 u63 u64 u65 u66 u67 u68 u69 u70 u71 (.string (S D ++ S (Silo.leb y1) ++ S (Silo.leb y2))) w2 :=
  ⟨fun d => h.e0 (done_of_set d (by decide)), fun d => h.e1 (done_of_set d (by decide)), fun d => h.e2 (done_of_set d (by decide)), fun d => h.e3 (done_of_set d (by decide)), fun d => h.e4 (done_of_set d (by decide)), fun d => h.e5 (done_of_set d (by decide)), fun d => h.e6 (done_of_set d (by decide)), fun d => h.e7 (done_of_set d (by decide)), fun d => h.e8 (done_of_set d (by decide)), fun d => h.e9 (done_of_set d (by decide)), fun d => h.e10 (done_of_set d (by decide)), fun d => h.e11 (done_of_set d (by decide)), fun d => h.e12 (done_of_set d (by decide)), fun d => h.e13 (done_of_set d (by decide)), fun d => h.e14 (done_of_set d (by decide)), fun d => h.e15 (done_of_set d (by decide)), fun d => h.e16 (done_of_set d (by decide)), fun d => h.e17 (done_of_set d (by decide)), fun d => h.e18 (done_of_set d (by decide)), fun d => h.e19 (done_of_set d (by decide)), fun d => h.e20 (done_of_set d (by decide)), fun d => h.e21 (done_of_set d (by decide)), fun d => h.e22 (done_of_set d (by decide)), fun d => h.e23 (done_of_set d (by decide)), fun d => h.e24 (done_of_set d (by decide)), fun d => h.e25 (done_of_set d (by decide)), fun d => h.e26 (done_of_set d (by decide)), fun d => h.e27 (done_of_set d (by decide)), fun d => h.e28 (done_of_set d (by decide)), fun d => h.e29 (done_of_set d (by decide)), fun d => h.e30 (done_of_set d (by decide)), fun _ => rfl, fun d => absurd d (by rw [done_set_same hi]; decide), hS⟩

end

/-- In the midst of a series' first sample. -/
structure THead (wr : World) (l : List Silo.Smp) (b off c k n y1 y3 : Nat) (x : Silo.Smp) (D : List UInt8) (listed : Array Bool) (u94 u95 u96 u97 u98 u99 u100 u101 u102 u103 u104 u105 u106 u107 u108 u109 u110 u111 u112 u113 u114 u115 u116 u117 u118 u119 u120 u121 u122 u7 : Value) (w' : World) : Prop where
  e0 : done listed 0 = true → u94 = .string (S D)
  e1 : done listed 1 = true → u95 = .slice (some ⟨b, off, none⟩) l.length c
  e2 : done listed 2 = true → u96 = .int .i64 ((k : Nat) : Int)
  e3 : done listed 3 = true → u97 = .pointer (some ⟨b, off + k * 3, none⟩)
  e4 : done listed 4 = true → u98 = .pointer (some ⟨b, off + k * 3, none⟩)
  e5 : done listed 5 = true → u99 = .int .i64 x.s
  e6 : done listed 6 = true → u100 = .int .u64 x.s
  e7 : done listed 7 = true → u101 = .int .u64 ((y1 : Nat) : Int)
  e8 : done listed 8 = true → u102 = .string (S (Silo.leb y1))
  e9 : done listed 9 = true → u103 = .string (S D ++ S (Silo.leb y1))
  e10 : done listed 10 = true → u104 = .int .i64 ((n : Nat) : Int)
  e11 : done listed 11 = true → u105 = .int .u64 ((n : Nat) : Int)
  e12 : done listed 12 = true → u106 = .string (S (Silo.leb n))
  e13 : done listed 13 = true → u107 = .string (S D ++ S (Silo.leb y1) ++ S (Silo.leb n))
  e14 : done listed 14 = true → u108 = .slice (some ⟨b, off, none⟩) l.length c
  e15 : done listed 15 = true → u109 = .int .i64 ((k : Nat) : Int)
  e16 : done listed 16 = true → u110 = .pointer (some ⟨b, off + k * 3, none⟩)
  e17 : done listed 17 = true → u111 = .pointer (some ⟨b, off + k * 3 + 1, none⟩)
  e18 : done listed 18 = true → u112 = .int .i64 x.t
  e19 : done listed 19 = true → u113 = .int .u64 ((y3 : Nat) : Int)
  e20 : done listed 20 = true → u114 = .string (S (Silo.leb y3))
  e21 : done listed 21 = true → u115 = .string (S D ++ S (Silo.leb y1) ++ S (Silo.leb n) ++ S (Silo.leb y3))
  e22 : done listed 22 = true → u116 = .slice (some ⟨b, off, none⟩) l.length c
  e23 : done listed 23 = true → u117 = .int .i64 ((k : Nat) : Int)
  e24 : done listed 24 = true → u118 = .pointer (some ⟨b, off + k * 3, none⟩)
  e25 : done listed 25 = true → u119 = .pointer (some ⟨b, off + k * 3 + 2, none⟩)
  e26 : done listed 26 = true → u120 = .int .u64 ((x.v : Nat) : Int)
  e27 : done listed 27 = true → u121 = .string (S (Silo.leb x.v))
  e28 : done listed 28 = true → u122 = .string (S D ++ S (Silo.leb y1) ++ S (Silo.leb n) ++ S (Silo.leb y3) ++ S (Silo.leb x.v))
  e29 : done listed 29 = true → u7 = .string (S D ++ S (Silo.leb y1) ++ S (Silo.leb n) ++ S (Silo.leb y3) ++ S (Silo.leb x.v))
  k7 : done listed 29 = false → u7 = .string (S D)
  x0 : Fp (fun _ => False) wr w'

section
variable {wr : World} {l : List Silo.Smp} {b off c k n y1 y3 : Nat} {x : Silo.Smp} {D : List UInt8} {listed : Array Bool} {u94 u95 u96 u97 u98 u99 u100 u101 u102 u103 u104 u105 u106 u107 u108 u109 u110 u111 u112 u113 u114 u115 u116 u117 u118 u119 u120 u121 u122 u7 : Value} {w' : World}

theorem THead.start {nn : Nat} (h : Fp (fun _ => False) wr w') : THead wr l b off c k n y1 y3 x D (Array.replicate nn false) u94 u95 u96 u97 u98 u99 u100 u101 u102 u103 u104 u105 u106 u107 u108 u109 u110 u111 u112 u113 u114 u115 u116 u117 u118 u119 u120 u121 u122 (.string (S D)) w' := by
  constructor <;> first | exact h | (intro d; first | rfl | (rw [done_rep] at d; cases d))

theorem THead.s0 {w2 : World} (h : THead wr l b off c k n y1 y3 x D listed u94 u95 u96 u97 u98 u99 u100 u101 u102 u103 u104 u105 u106 u107 u108 u109 u110 u111 u112 u113 u114 u115 u116 u117 u118 u119 u120 u121 u122 u7 w') (hS : Fp (fun _ => False) wr w2) : THead wr l b off c k n y1 y3 x D (listed.setIfInBounds 0 true) (.string (S D)) u95 u96 u97 u98 u99 u100 u101 u102 u103 u104 u105 u106 u107 u108 u109 u110 u111 u112 u113 u114 u115 u116 u117 u118 u119 u120 u121 u122 u7 w2 :=
  ⟨fun _ => rfl, fun d => h.e1 (done_of_set d (by decide)), fun d => h.e2 (done_of_set d (by decide)), fun d => h.e3 (done_of_set d (by decide)), fun d => h.e4 (done_of_set d (by decide)), fun d => h.e5 (done_of_set d (by decide)), fun d => h.e6 (done_of_set d (by decide)), fun d => h.e7 (done_of_set d (by decide)), fun d => h.e8 (done_of_set d (by decide)), fun d => h.e9 (done_of_set d (by decide)), fun d => h.e10 (done_of_set d (by decide)), fun d => h.e11 (done_of_set d (by decide)), fun d => h.e12 (done_of_set d (by decide)), fun d => h.e13 (done_of_set d (by decide)), fun d => h.e14 (done_of_set d (by decide)), fun d => h.e15 (done_of_set d (by decide)), fun d => h.e16 (done_of_set d (by decide)), fun d => h.e17 (done_of_set d (by decide)), fun d => h.e18 (done_of_set d (by decide)), fun d => h.e19 (done_of_set d (by decide)), fun d => h.e20 (done_of_set d (by decide)), fun d => h.e21 (done_of_set d (by decide)), fun d => h.e22 (done_of_set d (by decide)), fun d => h.e23 (done_of_set d (by decide)), fun d => h.e24 (done_of_set d (by decide)), fun d => h.e25 (done_of_set d (by decide)), fun d => h.e26 (done_of_set d (by decide)), fun d => h.e27 (done_of_set d (by decide)), fun d => h.e28 (done_of_set d (by decide)), fun d => h.e29 (done_of_set d (by decide)), fun d => h.k7 (undone_of_set d), hS⟩

theorem THead.s1 {w2 : World} (h : THead wr l b off c k n y1 y3 x D listed u94 u95 u96 u97 u98 u99 u100 u101 u102 u103 u104 u105 u106 u107 u108 u109 u110 u111 u112 u113 u114 u115 u116 u117 u118 u119 u120 u121 u122 u7 w') (hS : Fp (fun _ => False) wr w2) : THead wr l b off c k n y1 y3 x D (listed.setIfInBounds 1 true) u94 (.slice (some ⟨b, off, none⟩) l.length c) u96 u97 u98 u99 u100 u101 u102 u103 u104 u105 u106 u107 u108 u109 u110 u111 u112 u113 u114 u115 u116 u117 u118 u119 u120 u121 u122 u7 w2 :=
  ⟨fun d => h.e0 (done_of_set d (by decide)), fun _ => rfl, fun d => h.e2 (done_of_set d (by decide)), fun d => h.e3 (done_of_set d (by decide)), fun d => h.e4 (done_of_set d (by decide)), fun d => h.e5 (done_of_set d (by decide)), fun d => h.e6 (done_of_set d (by decide)), fun d => h.e7 (done_of_set d (by decide)), fun d => h.e8 (done_of_set d (by decide)), fun d => h.e9 (done_of_set d (by decide)), fun d => h.e10 (done_of_set d (by decide)), fun d => h.e11 (done_of_set d (by decide)), fun d => h.e12 (done_of_set d (by decide)), fun d => h.e13 (done_of_set d (by decide)), fun d => h.e14 (done_of_set d (by decide)), fun d => h.e15 (done_of_set d (by decide)), fun d => h.e16 (done_of_set d (by decide)), fun d => h.e17 (done_of_set d (by decide)), fun d => h.e18 (done_of_set d (by decide)), fun d => h.e19 (done_of_set d (by decide)), fun d => h.e20 (done_of_set d (by decide)), fun d => h.e21 (done_of_set d (by decide)), fun d => h.e22 (done_of_set d (by decide)), fun d => h.e23 (done_of_set d (by decide)), fun d => h.e24 (done_of_set d (by decide)), fun d => h.e25 (done_of_set d (by decide)), fun d => h.e26 (done_of_set d (by decide)), fun d => h.e27 (done_of_set d (by decide)), fun d => h.e28 (done_of_set d (by decide)), fun d => h.e29 (done_of_set d (by decide)), fun d => h.k7 (undone_of_set d), hS⟩

theorem THead.s2 {w2 : World} (h : THead wr l b off c k n y1 y3 x D listed u94 u95 u96 u97 u98 u99 u100 u101 u102 u103 u104 u105 u106 u107 u108 u109 u110 u111 u112 u113 u114 u115 u116 u117 u118 u119 u120 u121 u122 u7 w') (hS : Fp (fun _ => False) wr w2) : THead wr l b off c k n y1 y3 x D (listed.setIfInBounds 2 true) u94 u95 (.int .i64 ((k : Nat) : Int)) u97 u98 u99 u100 u101 u102 u103 u104 u105 u106 u107 u108 u109 u110 u111 u112 u113 u114 u115 u116 u117 u118 u119 u120 u121 u122 u7 w2 :=
  ⟨fun d => h.e0 (done_of_set d (by decide)), fun d => h.e1 (done_of_set d (by decide)), fun _ => rfl, fun d => h.e3 (done_of_set d (by decide)), fun d => h.e4 (done_of_set d (by decide)), fun d => h.e5 (done_of_set d (by decide)), fun d => h.e6 (done_of_set d (by decide)), fun d => h.e7 (done_of_set d (by decide)), fun d => h.e8 (done_of_set d (by decide)), fun d => h.e9 (done_of_set d (by decide)), fun d => h.e10 (done_of_set d (by decide)), fun d => h.e11 (done_of_set d (by decide)), fun d => h.e12 (done_of_set d (by decide)), fun d => h.e13 (done_of_set d (by decide)), fun d => h.e14 (done_of_set d (by decide)), fun d => h.e15 (done_of_set d (by decide)), fun d => h.e16 (done_of_set d (by decide)), fun d => h.e17 (done_of_set d (by decide)), fun d => h.e18 (done_of_set d (by decide)), fun d => h.e19 (done_of_set d (by decide)), fun d => h.e20 (done_of_set d (by decide)), fun d => h.e21 (done_of_set d (by decide)), fun d => h.e22 (done_of_set d (by decide)), fun d => h.e23 (done_of_set d (by decide)), fun d => h.e24 (done_of_set d (by decide)), fun d => h.e25 (done_of_set d (by decide)), fun d => h.e26 (done_of_set d (by decide)), fun d => h.e27 (done_of_set d (by decide)), fun d => h.e28 (done_of_set d (by decide)), fun d => h.e29 (done_of_set d (by decide)), fun d => h.k7 (undone_of_set d), hS⟩

theorem THead.s3 {w2 : World} (h : THead wr l b off c k n y1 y3 x D listed u94 u95 u96 u97 u98 u99 u100 u101 u102 u103 u104 u105 u106 u107 u108 u109 u110 u111 u112 u113 u114 u115 u116 u117 u118 u119 u120 u121 u122 u7 w') (hS : Fp (fun _ => False) wr w2) : THead wr l b off c k n y1 y3 x D (listed.setIfInBounds 3 true) u94 u95 u96 (.pointer (some ⟨b, off + k * 3, none⟩)) u98 u99 u100 u101 u102 u103 u104 u105 u106 u107 u108 u109 u110 u111 u112 u113 u114 u115 u116 u117 u118 u119 u120 u121 u122 u7 w2 :=
  ⟨fun d => h.e0 (done_of_set d (by decide)), fun d => h.e1 (done_of_set d (by decide)), fun d => h.e2 (done_of_set d (by decide)), fun _ => rfl, fun d => h.e4 (done_of_set d (by decide)), fun d => h.e5 (done_of_set d (by decide)), fun d => h.e6 (done_of_set d (by decide)), fun d => h.e7 (done_of_set d (by decide)), fun d => h.e8 (done_of_set d (by decide)), fun d => h.e9 (done_of_set d (by decide)), fun d => h.e10 (done_of_set d (by decide)), fun d => h.e11 (done_of_set d (by decide)), fun d => h.e12 (done_of_set d (by decide)), fun d => h.e13 (done_of_set d (by decide)), fun d => h.e14 (done_of_set d (by decide)), fun d => h.e15 (done_of_set d (by decide)), fun d => h.e16 (done_of_set d (by decide)), fun d => h.e17 (done_of_set d (by decide)), fun d => h.e18 (done_of_set d (by decide)), fun d => h.e19 (done_of_set d (by decide)), fun d => h.e20 (done_of_set d (by decide)), fun d => h.e21 (done_of_set d (by decide)), fun d => h.e22 (done_of_set d (by decide)), fun d => h.e23 (done_of_set d (by decide)), fun d => h.e24 (done_of_set d (by decide)), fun d => h.e25 (done_of_set d (by decide)), fun d => h.e26 (done_of_set d (by decide)), fun d => h.e27 (done_of_set d (by decide)), fun d => h.e28 (done_of_set d (by decide)), fun d => h.e29 (done_of_set d (by decide)), fun d => h.k7 (undone_of_set d), hS⟩

theorem THead.s4 {w2 : World} (h : THead wr l b off c k n y1 y3 x D listed u94 u95 u96 u97 u98 u99 u100 u101 u102 u103 u104 u105 u106 u107 u108 u109 u110 u111 u112 u113 u114 u115 u116 u117 u118 u119 u120 u121 u122 u7 w') (hS : Fp (fun _ => False) wr w2) : THead wr l b off c k n y1 y3 x D (listed.setIfInBounds 4 true) u94 u95 u96 u97 (.pointer (some ⟨b, off + k * 3, none⟩)) u99 u100 u101 u102 u103 u104 u105 u106 u107 u108 u109 u110 u111 u112 u113 u114 u115 u116 u117 u118 u119 u120 u121 u122 u7 w2 :=
  ⟨fun d => h.e0 (done_of_set d (by decide)), fun d => h.e1 (done_of_set d (by decide)), fun d => h.e2 (done_of_set d (by decide)), fun d => h.e3 (done_of_set d (by decide)), fun _ => rfl, fun d => h.e5 (done_of_set d (by decide)), fun d => h.e6 (done_of_set d (by decide)), fun d => h.e7 (done_of_set d (by decide)), fun d => h.e8 (done_of_set d (by decide)), fun d => h.e9 (done_of_set d (by decide)), fun d => h.e10 (done_of_set d (by decide)), fun d => h.e11 (done_of_set d (by decide)), fun d => h.e12 (done_of_set d (by decide)), fun d => h.e13 (done_of_set d (by decide)), fun d => h.e14 (done_of_set d (by decide)), fun d => h.e15 (done_of_set d (by decide)), fun d => h.e16 (done_of_set d (by decide)), fun d => h.e17 (done_of_set d (by decide)), fun d => h.e18 (done_of_set d (by decide)), fun d => h.e19 (done_of_set d (by decide)), fun d => h.e20 (done_of_set d (by decide)), fun d => h.e21 (done_of_set d (by decide)), fun d => h.e22 (done_of_set d (by decide)), fun d => h.e23 (done_of_set d (by decide)), fun d => h.e24 (done_of_set d (by decide)), fun d => h.e25 (done_of_set d (by decide)), fun d => h.e26 (done_of_set d (by decide)), fun d => h.e27 (done_of_set d (by decide)), fun d => h.e28 (done_of_set d (by decide)), fun d => h.e29 (done_of_set d (by decide)), fun d => h.k7 (undone_of_set d), hS⟩

theorem THead.s5 {w2 : World} (h : THead wr l b off c k n y1 y3 x D listed u94 u95 u96 u97 u98 u99 u100 u101 u102 u103 u104 u105 u106 u107 u108 u109 u110 u111 u112 u113 u114 u115 u116 u117 u118 u119 u120 u121 u122 u7 w') (hS : Fp (fun _ => False) wr w2) : THead wr l b off c k n y1 y3 x D (listed.setIfInBounds 5 true) u94 u95 u96 u97 u98 (.int .i64 x.s) u100 u101 u102 u103 u104 u105 u106 u107 u108 u109 u110 u111 u112 u113 u114 u115 u116 u117 u118 u119 u120 u121 u122 u7 w2 :=
  ⟨fun d => h.e0 (done_of_set d (by decide)), fun d => h.e1 (done_of_set d (by decide)), fun d => h.e2 (done_of_set d (by decide)), fun d => h.e3 (done_of_set d (by decide)), fun d => h.e4 (done_of_set d (by decide)), fun _ => rfl, fun d => h.e6 (done_of_set d (by decide)), fun d => h.e7 (done_of_set d (by decide)), fun d => h.e8 (done_of_set d (by decide)), fun d => h.e9 (done_of_set d (by decide)), fun d => h.e10 (done_of_set d (by decide)), fun d => h.e11 (done_of_set d (by decide)), fun d => h.e12 (done_of_set d (by decide)), fun d => h.e13 (done_of_set d (by decide)), fun d => h.e14 (done_of_set d (by decide)), fun d => h.e15 (done_of_set d (by decide)), fun d => h.e16 (done_of_set d (by decide)), fun d => h.e17 (done_of_set d (by decide)), fun d => h.e18 (done_of_set d (by decide)), fun d => h.e19 (done_of_set d (by decide)), fun d => h.e20 (done_of_set d (by decide)), fun d => h.e21 (done_of_set d (by decide)), fun d => h.e22 (done_of_set d (by decide)), fun d => h.e23 (done_of_set d (by decide)), fun d => h.e24 (done_of_set d (by decide)), fun d => h.e25 (done_of_set d (by decide)), fun d => h.e26 (done_of_set d (by decide)), fun d => h.e27 (done_of_set d (by decide)), fun d => h.e28 (done_of_set d (by decide)), fun d => h.e29 (done_of_set d (by decide)), fun d => h.k7 (undone_of_set d), hS⟩

theorem THead.s6 {w2 : World} (h : THead wr l b off c k n y1 y3 x D listed u94 u95 u96 u97 u98 u99 u100 u101 u102 u103 u104 u105 u106 u107 u108 u109 u110 u111 u112 u113 u114 u115 u116 u117 u118 u119 u120 u121 u122 u7 w') (hS : Fp (fun _ => False) wr w2) : THead wr l b off c k n y1 y3 x D (listed.setIfInBounds 6 true) u94 u95 u96 u97 u98 u99 (.int .u64 x.s) u101 u102 u103 u104 u105 u106 u107 u108 u109 u110 u111 u112 u113 u114 u115 u116 u117 u118 u119 u120 u121 u122 u7 w2 :=
  ⟨fun d => h.e0 (done_of_set d (by decide)), fun d => h.e1 (done_of_set d (by decide)), fun d => h.e2 (done_of_set d (by decide)), fun d => h.e3 (done_of_set d (by decide)), fun d => h.e4 (done_of_set d (by decide)), fun d => h.e5 (done_of_set d (by decide)), fun _ => rfl, fun d => h.e7 (done_of_set d (by decide)), fun d => h.e8 (done_of_set d (by decide)), fun d => h.e9 (done_of_set d (by decide)), fun d => h.e10 (done_of_set d (by decide)), fun d => h.e11 (done_of_set d (by decide)), fun d => h.e12 (done_of_set d (by decide)), fun d => h.e13 (done_of_set d (by decide)), fun d => h.e14 (done_of_set d (by decide)), fun d => h.e15 (done_of_set d (by decide)), fun d => h.e16 (done_of_set d (by decide)), fun d => h.e17 (done_of_set d (by decide)), fun d => h.e18 (done_of_set d (by decide)), fun d => h.e19 (done_of_set d (by decide)), fun d => h.e20 (done_of_set d (by decide)), fun d => h.e21 (done_of_set d (by decide)), fun d => h.e22 (done_of_set d (by decide)), fun d => h.e23 (done_of_set d (by decide)), fun d => h.e24 (done_of_set d (by decide)), fun d => h.e25 (done_of_set d (by decide)), fun d => h.e26 (done_of_set d (by decide)), fun d => h.e27 (done_of_set d (by decide)), fun d => h.e28 (done_of_set d (by decide)), fun d => h.e29 (done_of_set d (by decide)), fun d => h.k7 (undone_of_set d), hS⟩

theorem THead.s7 {w2 : World} (h : THead wr l b off c k n y1 y3 x D listed u94 u95 u96 u97 u98 u99 u100 u101 u102 u103 u104 u105 u106 u107 u108 u109 u110 u111 u112 u113 u114 u115 u116 u117 u118 u119 u120 u121 u122 u7 w') (hS : Fp (fun _ => False) wr w2) : THead wr l b off c k n y1 y3 x D (listed.setIfInBounds 7 true) u94 u95 u96 u97 u98 u99 u100 (.int .u64 ((y1 : Nat) : Int)) u102 u103 u104 u105 u106 u107 u108 u109 u110 u111 u112 u113 u114 u115 u116 u117 u118 u119 u120 u121 u122 u7 w2 :=
  ⟨fun d => h.e0 (done_of_set d (by decide)), fun d => h.e1 (done_of_set d (by decide)), fun d => h.e2 (done_of_set d (by decide)), fun d => h.e3 (done_of_set d (by decide)), fun d => h.e4 (done_of_set d (by decide)), fun d => h.e5 (done_of_set d (by decide)), fun d => h.e6 (done_of_set d (by decide)), fun _ => rfl, fun d => h.e8 (done_of_set d (by decide)), fun d => h.e9 (done_of_set d (by decide)), fun d => h.e10 (done_of_set d (by decide)), fun d => h.e11 (done_of_set d (by decide)), fun d => h.e12 (done_of_set d (by decide)), fun d => h.e13 (done_of_set d (by decide)), fun d => h.e14 (done_of_set d (by decide)), fun d => h.e15 (done_of_set d (by decide)), fun d => h.e16 (done_of_set d (by decide)), fun d => h.e17 (done_of_set d (by decide)), fun d => h.e18 (done_of_set d (by decide)), fun d => h.e19 (done_of_set d (by decide)), fun d => h.e20 (done_of_set d (by decide)), fun d => h.e21 (done_of_set d (by decide)), fun d => h.e22 (done_of_set d (by decide)), fun d => h.e23 (done_of_set d (by decide)), fun d => h.e24 (done_of_set d (by decide)), fun d => h.e25 (done_of_set d (by decide)), fun d => h.e26 (done_of_set d (by decide)), fun d => h.e27 (done_of_set d (by decide)), fun d => h.e28 (done_of_set d (by decide)), fun d => h.e29 (done_of_set d (by decide)), fun d => h.k7 (undone_of_set d), hS⟩

theorem THead.s8 {w2 : World} (h : THead wr l b off c k n y1 y3 x D listed u94 u95 u96 u97 u98 u99 u100 u101 u102 u103 u104 u105 u106 u107 u108 u109 u110 u111 u112 u113 u114 u115 u116 u117 u118 u119 u120 u121 u122 u7 w') (hS : Fp (fun _ => False) wr w2) : THead wr l b off c k n y1 y3 x D (listed.setIfInBounds 8 true) u94 u95 u96 u97 u98 u99 u100 u101 (.string (S (Silo.leb y1))) u103 u104 u105 u106 u107 u108 u109 u110 u111 u112 u113 u114 u115 u116 u117 u118 u119 u120 u121 u122 u7 w2 :=
  ⟨fun d => h.e0 (done_of_set d (by decide)), fun d => h.e1 (done_of_set d (by decide)), fun d => h.e2 (done_of_set d (by decide)), fun d => h.e3 (done_of_set d (by decide)), fun d => h.e4 (done_of_set d (by decide)), fun d => h.e5 (done_of_set d (by decide)), fun d => h.e6 (done_of_set d (by decide)), fun d => h.e7 (done_of_set d (by decide)), fun _ => rfl, fun d => h.e9 (done_of_set d (by decide)), fun d => h.e10 (done_of_set d (by decide)), fun d => h.e11 (done_of_set d (by decide)), fun d => h.e12 (done_of_set d (by decide)), fun d => h.e13 (done_of_set d (by decide)), fun d => h.e14 (done_of_set d (by decide)), fun d => h.e15 (done_of_set d (by decide)), fun d => h.e16 (done_of_set d (by decide)), fun d => h.e17 (done_of_set d (by decide)), fun d => h.e18 (done_of_set d (by decide)), fun d => h.e19 (done_of_set d (by decide)), fun d => h.e20 (done_of_set d (by decide)), fun d => h.e21 (done_of_set d (by decide)), fun d => h.e22 (done_of_set d (by decide)), fun d => h.e23 (done_of_set d (by decide)), fun d => h.e24 (done_of_set d (by decide)), fun d => h.e25 (done_of_set d (by decide)), fun d => h.e26 (done_of_set d (by decide)), fun d => h.e27 (done_of_set d (by decide)), fun d => h.e28 (done_of_set d (by decide)), fun d => h.e29 (done_of_set d (by decide)), fun d => h.k7 (undone_of_set d), hS⟩

theorem THead.s9 {w2 : World} (h : THead wr l b off c k n y1 y3 x D listed u94 u95 u96 u97 u98 u99 u100 u101 u102 u103 u104 u105 u106 u107 u108 u109 u110 u111 u112 u113 u114 u115 u116 u117 u118 u119 u120 u121 u122 u7 w') (hS : Fp (fun _ => False) wr w2) : THead wr l b off c k n y1 y3 x D (listed.setIfInBounds 9 true) u94 u95 u96 u97 u98 u99 u100 u101 u102 (.string (S D ++ S (Silo.leb y1))) u104 u105 u106 u107 u108 u109 u110 u111 u112 u113 u114 u115 u116 u117 u118 u119 u120 u121 u122 u7 w2 :=
  ⟨fun d => h.e0 (done_of_set d (by decide)), fun d => h.e1 (done_of_set d (by decide)), fun d => h.e2 (done_of_set d (by decide)), fun d => h.e3 (done_of_set d (by decide)), fun d => h.e4 (done_of_set d (by decide)), fun d => h.e5 (done_of_set d (by decide)), fun d => h.e6 (done_of_set d (by decide)), fun d => h.e7 (done_of_set d (by decide)), fun d => h.e8 (done_of_set d (by decide)), fun _ => rfl, fun d => h.e10 (done_of_set d (by decide)), fun d => h.e11 (done_of_set d (by decide)), fun d => h.e12 (done_of_set d (by decide)), fun d => h.e13 (done_of_set d (by decide)), fun d => h.e14 (done_of_set d (by decide)), fun d => h.e15 (done_of_set d (by decide)), fun d => h.e16 (done_of_set d (by decide)), fun d => h.e17 (done_of_set d (by decide)), fun d => h.e18 (done_of_set d (by decide)), fun d => h.e19 (done_of_set d (by decide)), fun d => h.e20 (done_of_set d (by decide)), fun d => h.e21 (done_of_set d (by decide)), fun d => h.e22 (done_of_set d (by decide)), fun d => h.e23 (done_of_set d (by decide)), fun d => h.e24 (done_of_set d (by decide)), fun d => h.e25 (done_of_set d (by decide)), fun d => h.e26 (done_of_set d (by decide)), fun d => h.e27 (done_of_set d (by decide)), fun d => h.e28 (done_of_set d (by decide)), fun d => h.e29 (done_of_set d (by decide)), fun d => h.k7 (undone_of_set d), hS⟩

theorem THead.s10 {w2 : World} (h : THead wr l b off c k n y1 y3 x D listed u94 u95 u96 u97 u98 u99 u100 u101 u102 u103 u104 u105 u106 u107 u108 u109 u110 u111 u112 u113 u114 u115 u116 u117 u118 u119 u120 u121 u122 u7 w') (hS : Fp (fun _ => False) wr w2) : THead wr l b off c k n y1 y3 x D (listed.setIfInBounds 10 true) u94 u95 u96 u97 u98 u99 u100 u101 u102 u103 (.int .i64 ((n : Nat) : Int)) u105 u106 u107 u108 u109 u110 u111 u112 u113 u114 u115 u116 u117 u118 u119 u120 u121 u122 u7 w2 :=
  ⟨fun d => h.e0 (done_of_set d (by decide)), fun d => h.e1 (done_of_set d (by decide)), fun d => h.e2 (done_of_set d (by decide)), fun d => h.e3 (done_of_set d (by decide)), fun d => h.e4 (done_of_set d (by decide)), fun d => h.e5 (done_of_set d (by decide)), fun d => h.e6 (done_of_set d (by decide)), fun d => h.e7 (done_of_set d (by decide)), fun d => h.e8 (done_of_set d (by decide)), fun d => h.e9 (done_of_set d (by decide)), fun _ => rfl, fun d => h.e11 (done_of_set d (by decide)), fun d => h.e12 (done_of_set d (by decide)), fun d => h.e13 (done_of_set d (by decide)), fun d => h.e14 (done_of_set d (by decide)), fun d => h.e15 (done_of_set d (by decide)), fun d => h.e16 (done_of_set d (by decide)), fun d => h.e17 (done_of_set d (by decide)), fun d => h.e18 (done_of_set d (by decide)), fun d => h.e19 (done_of_set d (by decide)), fun d => h.e20 (done_of_set d (by decide)), fun d => h.e21 (done_of_set d (by decide)), fun d => h.e22 (done_of_set d (by decide)), fun d => h.e23 (done_of_set d (by decide)), fun d => h.e24 (done_of_set d (by decide)), fun d => h.e25 (done_of_set d (by decide)), fun d => h.e26 (done_of_set d (by decide)), fun d => h.e27 (done_of_set d (by decide)), fun d => h.e28 (done_of_set d (by decide)), fun d => h.e29 (done_of_set d (by decide)), fun d => h.k7 (undone_of_set d), hS⟩

theorem THead.s11 {w2 : World} (h : THead wr l b off c k n y1 y3 x D listed u94 u95 u96 u97 u98 u99 u100 u101 u102 u103 u104 u105 u106 u107 u108 u109 u110 u111 u112 u113 u114 u115 u116 u117 u118 u119 u120 u121 u122 u7 w') (hS : Fp (fun _ => False) wr w2) : THead wr l b off c k n y1 y3 x D (listed.setIfInBounds 11 true) u94 u95 u96 u97 u98 u99 u100 u101 u102 u103 u104 (.int .u64 ((n : Nat) : Int)) u106 u107 u108 u109 u110 u111 u112 u113 u114 u115 u116 u117 u118 u119 u120 u121 u122 u7 w2 :=
  ⟨fun d => h.e0 (done_of_set d (by decide)), fun d => h.e1 (done_of_set d (by decide)), fun d => h.e2 (done_of_set d (by decide)), fun d => h.e3 (done_of_set d (by decide)), fun d => h.e4 (done_of_set d (by decide)), fun d => h.e5 (done_of_set d (by decide)), fun d => h.e6 (done_of_set d (by decide)), fun d => h.e7 (done_of_set d (by decide)), fun d => h.e8 (done_of_set d (by decide)), fun d => h.e9 (done_of_set d (by decide)), fun d => h.e10 (done_of_set d (by decide)), fun _ => rfl, fun d => h.e12 (done_of_set d (by decide)), fun d => h.e13 (done_of_set d (by decide)), fun d => h.e14 (done_of_set d (by decide)), fun d => h.e15 (done_of_set d (by decide)), fun d => h.e16 (done_of_set d (by decide)), fun d => h.e17 (done_of_set d (by decide)), fun d => h.e18 (done_of_set d (by decide)), fun d => h.e19 (done_of_set d (by decide)), fun d => h.e20 (done_of_set d (by decide)), fun d => h.e21 (done_of_set d (by decide)), fun d => h.e22 (done_of_set d (by decide)), fun d => h.e23 (done_of_set d (by decide)), fun d => h.e24 (done_of_set d (by decide)), fun d => h.e25 (done_of_set d (by decide)), fun d => h.e26 (done_of_set d (by decide)), fun d => h.e27 (done_of_set d (by decide)), fun d => h.e28 (done_of_set d (by decide)), fun d => h.e29 (done_of_set d (by decide)), fun d => h.k7 (undone_of_set d), hS⟩

theorem THead.s12 {w2 : World} (h : THead wr l b off c k n y1 y3 x D listed u94 u95 u96 u97 u98 u99 u100 u101 u102 u103 u104 u105 u106 u107 u108 u109 u110 u111 u112 u113 u114 u115 u116 u117 u118 u119 u120 u121 u122 u7 w') (hS : Fp (fun _ => False) wr w2) : THead wr l b off c k n y1 y3 x D (listed.setIfInBounds 12 true) u94 u95 u96 u97 u98 u99 u100 u101 u102 u103 u104 u105 (.string (S (Silo.leb n))) u107 u108 u109 u110 u111 u112 u113 u114 u115 u116 u117 u118 u119 u120 u121 u122 u7 w2 :=
  ⟨fun d => h.e0 (done_of_set d (by decide)), fun d => h.e1 (done_of_set d (by decide)), fun d => h.e2 (done_of_set d (by decide)), fun d => h.e3 (done_of_set d (by decide)), fun d => h.e4 (done_of_set d (by decide)), fun d => h.e5 (done_of_set d (by decide)), fun d => h.e6 (done_of_set d (by decide)), fun d => h.e7 (done_of_set d (by decide)), fun d => h.e8 (done_of_set d (by decide)), fun d => h.e9 (done_of_set d (by decide)), fun d => h.e10 (done_of_set d (by decide)), fun d => h.e11 (done_of_set d (by decide)), fun _ => rfl, fun d => h.e13 (done_of_set d (by decide)), fun d => h.e14 (done_of_set d (by decide)), fun d => h.e15 (done_of_set d (by decide)), fun d => h.e16 (done_of_set d (by decide)), fun d => h.e17 (done_of_set d (by decide)), fun d => h.e18 (done_of_set d (by decide)), fun d => h.e19 (done_of_set d (by decide)), fun d => h.e20 (done_of_set d (by decide)), fun d => h.e21 (done_of_set d (by decide)), fun d => h.e22 (done_of_set d (by decide)), fun d => h.e23 (done_of_set d (by decide)), fun d => h.e24 (done_of_set d (by decide)), fun d => h.e25 (done_of_set d (by decide)), fun d => h.e26 (done_of_set d (by decide)), fun d => h.e27 (done_of_set d (by decide)), fun d => h.e28 (done_of_set d (by decide)), fun d => h.e29 (done_of_set d (by decide)), fun d => h.k7 (undone_of_set d), hS⟩

theorem THead.s13 {w2 : World} (h : THead wr l b off c k n y1 y3 x D listed u94 u95 u96 u97 u98 u99 u100 u101 u102 u103 u104 u105 u106 u107 u108 u109 u110 u111 u112 u113 u114 u115 u116 u117 u118 u119 u120 u121 u122 u7 w') (hS : Fp (fun _ => False) wr w2) : THead wr l b off c k n y1 y3 x D (listed.setIfInBounds 13 true) u94 u95 u96 u97 u98 u99 u100 u101 u102 u103 u104 u105 u106 (.string (S D ++ S (Silo.leb y1) ++ S (Silo.leb n))) u108 u109 u110 u111 u112 u113 u114 u115 u116 u117 u118 u119 u120 u121 u122 u7 w2 :=
  ⟨fun d => h.e0 (done_of_set d (by decide)), fun d => h.e1 (done_of_set d (by decide)), fun d => h.e2 (done_of_set d (by decide)), fun d => h.e3 (done_of_set d (by decide)), fun d => h.e4 (done_of_set d (by decide)), fun d => h.e5 (done_of_set d (by decide)), fun d => h.e6 (done_of_set d (by decide)), fun d => h.e7 (done_of_set d (by decide)), fun d => h.e8 (done_of_set d (by decide)), fun d => h.e9 (done_of_set d (by decide)), fun d => h.e10 (done_of_set d (by decide)), fun d => h.e11 (done_of_set d (by decide)), fun d => h.e12 (done_of_set d (by decide)), fun _ => rfl, fun d => h.e14 (done_of_set d (by decide)), fun d => h.e15 (done_of_set d (by decide)), fun d => h.e16 (done_of_set d (by decide)), fun d => h.e17 (done_of_set d (by decide)), fun d => h.e18 (done_of_set d (by decide)), fun d => h.e19 (done_of_set d (by decide)), fun d => h.e20 (done_of_set d (by decide)), fun d => h.e21 (done_of_set d (by decide)), fun d => h.e22 (done_of_set d (by decide)), fun d => h.e23 (done_of_set d (by decide)), fun d => h.e24 (done_of_set d (by decide)), fun d => h.e25 (done_of_set d (by decide)), fun d => h.e26 (done_of_set d (by decide)), fun d => h.e27 (done_of_set d (by decide)), fun d => h.e28 (done_of_set d (by decide)), fun d => h.e29 (done_of_set d (by decide)), fun d => h.k7 (undone_of_set d), hS⟩

theorem THead.s14 {w2 : World} (h : THead wr l b off c k n y1 y3 x D listed u94 u95 u96 u97 u98 u99 u100 u101 u102 u103 u104 u105 u106 u107 u108 u109 u110 u111 u112 u113 u114 u115 u116 u117 u118 u119 u120 u121 u122 u7 w') (hS : Fp (fun _ => False) wr w2) : THead wr l b off c k n y1 y3 x D (listed.setIfInBounds 14 true) u94 u95 u96 u97 u98 u99 u100 u101 u102 u103 u104 u105 u106 u107 (.slice (some ⟨b, off, none⟩) l.length c) u109 u110 u111 u112 u113 u114 u115 u116 u117 u118 u119 u120 u121 u122 u7 w2 :=
  ⟨fun d => h.e0 (done_of_set d (by decide)), fun d => h.e1 (done_of_set d (by decide)), fun d => h.e2 (done_of_set d (by decide)), fun d => h.e3 (done_of_set d (by decide)), fun d => h.e4 (done_of_set d (by decide)), fun d => h.e5 (done_of_set d (by decide)), fun d => h.e6 (done_of_set d (by decide)), fun d => h.e7 (done_of_set d (by decide)), fun d => h.e8 (done_of_set d (by decide)), fun d => h.e9 (done_of_set d (by decide)), fun d => h.e10 (done_of_set d (by decide)), fun d => h.e11 (done_of_set d (by decide)), fun d => h.e12 (done_of_set d (by decide)), fun d => h.e13 (done_of_set d (by decide)), fun _ => rfl, fun d => h.e15 (done_of_set d (by decide)), fun d => h.e16 (done_of_set d (by decide)), fun d => h.e17 (done_of_set d (by decide)), fun d => h.e18 (done_of_set d (by decide)), fun d => h.e19 (done_of_set d (by decide)), fun d => h.e20 (done_of_set d (by decide)), fun d => h.e21 (done_of_set d (by decide)), fun d => h.e22 (done_of_set d (by decide)), fun d => h.e23 (done_of_set d (by decide)), fun d => h.e24 (done_of_set d (by decide)), fun d => h.e25 (done_of_set d (by decide)), fun d => h.e26 (done_of_set d (by decide)), fun d => h.e27 (done_of_set d (by decide)), fun d => h.e28 (done_of_set d (by decide)), fun d => h.e29 (done_of_set d (by decide)), fun d => h.k7 (undone_of_set d), hS⟩

theorem THead.s15 {w2 : World} (h : THead wr l b off c k n y1 y3 x D listed u94 u95 u96 u97 u98 u99 u100 u101 u102 u103 u104 u105 u106 u107 u108 u109 u110 u111 u112 u113 u114 u115 u116 u117 u118 u119 u120 u121 u122 u7 w') (hS : Fp (fun _ => False) wr w2) : THead wr l b off c k n y1 y3 x D (listed.setIfInBounds 15 true) u94 u95 u96 u97 u98 u99 u100 u101 u102 u103 u104 u105 u106 u107 u108 (.int .i64 ((k : Nat) : Int)) u110 u111 u112 u113 u114 u115 u116 u117 u118 u119 u120 u121 u122 u7 w2 :=
  ⟨fun d => h.e0 (done_of_set d (by decide)), fun d => h.e1 (done_of_set d (by decide)), fun d => h.e2 (done_of_set d (by decide)), fun d => h.e3 (done_of_set d (by decide)), fun d => h.e4 (done_of_set d (by decide)), fun d => h.e5 (done_of_set d (by decide)), fun d => h.e6 (done_of_set d (by decide)), fun d => h.e7 (done_of_set d (by decide)), fun d => h.e8 (done_of_set d (by decide)), fun d => h.e9 (done_of_set d (by decide)), fun d => h.e10 (done_of_set d (by decide)), fun d => h.e11 (done_of_set d (by decide)), fun d => h.e12 (done_of_set d (by decide)), fun d => h.e13 (done_of_set d (by decide)), fun d => h.e14 (done_of_set d (by decide)), fun _ => rfl, fun d => h.e16 (done_of_set d (by decide)), fun d => h.e17 (done_of_set d (by decide)), fun d => h.e18 (done_of_set d (by decide)), fun d => h.e19 (done_of_set d (by decide)), fun d => h.e20 (done_of_set d (by decide)), fun d => h.e21 (done_of_set d (by decide)), fun d => h.e22 (done_of_set d (by decide)), fun d => h.e23 (done_of_set d (by decide)), fun d => h.e24 (done_of_set d (by decide)), fun d => h.e25 (done_of_set d (by decide)), fun d => h.e26 (done_of_set d (by decide)), fun d => h.e27 (done_of_set d (by decide)), fun d => h.e28 (done_of_set d (by decide)), fun d => h.e29 (done_of_set d (by decide)), fun d => h.k7 (undone_of_set d), hS⟩

theorem THead.s16 {w2 : World} (h : THead wr l b off c k n y1 y3 x D listed u94 u95 u96 u97 u98 u99 u100 u101 u102 u103 u104 u105 u106 u107 u108 u109 u110 u111 u112 u113 u114 u115 u116 u117 u118 u119 u120 u121 u122 u7 w') (hS : Fp (fun _ => False) wr w2) : THead wr l b off c k n y1 y3 x D (listed.setIfInBounds 16 true) u94 u95 u96 u97 u98 u99 u100 u101 u102 u103 u104 u105 u106 u107 u108 u109 (.pointer (some ⟨b, off + k * 3, none⟩)) u111 u112 u113 u114 u115 u116 u117 u118 u119 u120 u121 u122 u7 w2 :=
  ⟨fun d => h.e0 (done_of_set d (by decide)), fun d => h.e1 (done_of_set d (by decide)), fun d => h.e2 (done_of_set d (by decide)), fun d => h.e3 (done_of_set d (by decide)), fun d => h.e4 (done_of_set d (by decide)), fun d => h.e5 (done_of_set d (by decide)), fun d => h.e6 (done_of_set d (by decide)), fun d => h.e7 (done_of_set d (by decide)), fun d => h.e8 (done_of_set d (by decide)), fun d => h.e9 (done_of_set d (by decide)), fun d => h.e10 (done_of_set d (by decide)), fun d => h.e11 (done_of_set d (by decide)), fun d => h.e12 (done_of_set d (by decide)), fun d => h.e13 (done_of_set d (by decide)), fun d => h.e14 (done_of_set d (by decide)), fun d => h.e15 (done_of_set d (by decide)), fun _ => rfl, fun d => h.e17 (done_of_set d (by decide)), fun d => h.e18 (done_of_set d (by decide)), fun d => h.e19 (done_of_set d (by decide)), fun d => h.e20 (done_of_set d (by decide)), fun d => h.e21 (done_of_set d (by decide)), fun d => h.e22 (done_of_set d (by decide)), fun d => h.e23 (done_of_set d (by decide)), fun d => h.e24 (done_of_set d (by decide)), fun d => h.e25 (done_of_set d (by decide)), fun d => h.e26 (done_of_set d (by decide)), fun d => h.e27 (done_of_set d (by decide)), fun d => h.e28 (done_of_set d (by decide)), fun d => h.e29 (done_of_set d (by decide)), fun d => h.k7 (undone_of_set d), hS⟩

theorem THead.s17 {w2 : World} (h : THead wr l b off c k n y1 y3 x D listed u94 u95 u96 u97 u98 u99 u100 u101 u102 u103 u104 u105 u106 u107 u108 u109 u110 u111 u112 u113 u114 u115 u116 u117 u118 u119 u120 u121 u122 u7 w') (hS : Fp (fun _ => False) wr w2) : THead wr l b off c k n y1 y3 x D (listed.setIfInBounds 17 true) u94 u95 u96 u97 u98 u99 u100 u101 u102 u103 u104 u105 u106 u107 u108 u109 u110 (.pointer (some ⟨b, off + k * 3 + 1, none⟩)) u112 u113 u114 u115 u116 u117 u118 u119 u120 u121 u122 u7 w2 :=
  ⟨fun d => h.e0 (done_of_set d (by decide)), fun d => h.e1 (done_of_set d (by decide)), fun d => h.e2 (done_of_set d (by decide)), fun d => h.e3 (done_of_set d (by decide)), fun d => h.e4 (done_of_set d (by decide)), fun d => h.e5 (done_of_set d (by decide)), fun d => h.e6 (done_of_set d (by decide)), fun d => h.e7 (done_of_set d (by decide)), fun d => h.e8 (done_of_set d (by decide)), fun d => h.e9 (done_of_set d (by decide)), fun d => h.e10 (done_of_set d (by decide)), fun d => h.e11 (done_of_set d (by decide)), fun d => h.e12 (done_of_set d (by decide)), fun d => h.e13 (done_of_set d (by decide)), fun d => h.e14 (done_of_set d (by decide)), fun d => h.e15 (done_of_set d (by decide)), fun d => h.e16 (done_of_set d (by decide)), fun _ => rfl, fun d => h.e18 (done_of_set d (by decide)), fun d => h.e19 (done_of_set d (by decide)), fun d => h.e20 (done_of_set d (by decide)), fun d => h.e21 (done_of_set d (by decide)), fun d => h.e22 (done_of_set d (by decide)), fun d => h.e23 (done_of_set d (by decide)), fun d => h.e24 (done_of_set d (by decide)), fun d => h.e25 (done_of_set d (by decide)), fun d => h.e26 (done_of_set d (by decide)), fun d => h.e27 (done_of_set d (by decide)), fun d => h.e28 (done_of_set d (by decide)), fun d => h.e29 (done_of_set d (by decide)), fun d => h.k7 (undone_of_set d), hS⟩

theorem THead.s18 {w2 : World} (h : THead wr l b off c k n y1 y3 x D listed u94 u95 u96 u97 u98 u99 u100 u101 u102 u103 u104 u105 u106 u107 u108 u109 u110 u111 u112 u113 u114 u115 u116 u117 u118 u119 u120 u121 u122 u7 w') (hS : Fp (fun _ => False) wr w2) : THead wr l b off c k n y1 y3 x D (listed.setIfInBounds 18 true) u94 u95 u96 u97 u98 u99 u100 u101 u102 u103 u104 u105 u106 u107 u108 u109 u110 u111 (.int .i64 x.t) u113 u114 u115 u116 u117 u118 u119 u120 u121 u122 u7 w2 :=
  ⟨fun d => h.e0 (done_of_set d (by decide)), fun d => h.e1 (done_of_set d (by decide)), fun d => h.e2 (done_of_set d (by decide)), fun d => h.e3 (done_of_set d (by decide)), fun d => h.e4 (done_of_set d (by decide)), fun d => h.e5 (done_of_set d (by decide)), fun d => h.e6 (done_of_set d (by decide)), fun d => h.e7 (done_of_set d (by decide)), fun d => h.e8 (done_of_set d (by decide)), fun d => h.e9 (done_of_set d (by decide)), fun d => h.e10 (done_of_set d (by decide)), fun d => h.e11 (done_of_set d (by decide)), fun d => h.e12 (done_of_set d (by decide)), fun d => h.e13 (done_of_set d (by decide)), fun d => h.e14 (done_of_set d (by decide)), fun d => h.e15 (done_of_set d (by decide)), fun d => h.e16 (done_of_set d (by decide)), fun d => h.e17 (done_of_set d (by decide)), fun _ => rfl, fun d => h.e19 (done_of_set d (by decide)), fun d => h.e20 (done_of_set d (by decide)), fun d => h.e21 (done_of_set d (by decide)), fun d => h.e22 (done_of_set d (by decide)), fun d => h.e23 (done_of_set d (by decide)), fun d => h.e24 (done_of_set d (by decide)), fun d => h.e25 (done_of_set d (by decide)), fun d => h.e26 (done_of_set d (by decide)), fun d => h.e27 (done_of_set d (by decide)), fun d => h.e28 (done_of_set d (by decide)), fun d => h.e29 (done_of_set d (by decide)), fun d => h.k7 (undone_of_set d), hS⟩

theorem THead.s19 {w2 : World} (h : THead wr l b off c k n y1 y3 x D listed u94 u95 u96 u97 u98 u99 u100 u101 u102 u103 u104 u105 u106 u107 u108 u109 u110 u111 u112 u113 u114 u115 u116 u117 u118 u119 u120 u121 u122 u7 w') (hS : Fp (fun _ => False) wr w2) : THead wr l b off c k n y1 y3 x D (listed.setIfInBounds 19 true) u94 u95 u96 u97 u98 u99 u100 u101 u102 u103 u104 u105 u106 u107 u108 u109 u110 u111 u112 (.int .u64 ((y3 : Nat) : Int)) u114 u115 u116 u117 u118 u119 u120 u121 u122 u7 w2 :=
  ⟨fun d => h.e0 (done_of_set d (by decide)), fun d => h.e1 (done_of_set d (by decide)), fun d => h.e2 (done_of_set d (by decide)), fun d => h.e3 (done_of_set d (by decide)), fun d => h.e4 (done_of_set d (by decide)), fun d => h.e5 (done_of_set d (by decide)), fun d => h.e6 (done_of_set d (by decide)), fun d => h.e7 (done_of_set d (by decide)), fun d => h.e8 (done_of_set d (by decide)), fun d => h.e9 (done_of_set d (by decide)), fun d => h.e10 (done_of_set d (by decide)), fun d => h.e11 (done_of_set d (by decide)), fun d => h.e12 (done_of_set d (by decide)), fun d => h.e13 (done_of_set d (by decide)), fun d => h.e14 (done_of_set d (by decide)), fun d => h.e15 (done_of_set d (by decide)), fun d => h.e16 (done_of_set d (by decide)), fun d => h.e17 (done_of_set d (by decide)), fun d => h.e18 (done_of_set d (by decide)), fun _ => rfl, fun d => h.e20 (done_of_set d (by decide)), fun d => h.e21 (done_of_set d (by decide)), fun d => h.e22 (done_of_set d (by decide)), fun d => h.e23 (done_of_set d (by decide)), fun d => h.e24 (done_of_set d (by decide)), fun d => h.e25 (done_of_set d (by decide)), fun d => h.e26 (done_of_set d (by decide)), fun d => h.e27 (done_of_set d (by decide)), fun d => h.e28 (done_of_set d (by decide)), fun d => h.e29 (done_of_set d (by decide)), fun d => h.k7 (undone_of_set d), hS⟩

theorem THead.s20 {w2 : World} (h : THead wr l b off c k n y1 y3 x D listed u94 u95 u96 u97 u98 u99 u100 u101 u102 u103 u104 u105 u106 u107 u108 u109 u110 u111 u112 u113 u114 u115 u116 u117 u118 u119 u120 u121 u122 u7 w') (hS : Fp (fun _ => False) wr w2) : THead wr l b off c k n y1 y3 x D (listed.setIfInBounds 20 true) u94 u95 u96 u97 u98 u99 u100 u101 u102 u103 u104 u105 u106 u107 u108 u109 u110 u111 u112 u113 (.string (S (Silo.leb y3))) u115 u116 u117 u118 u119 u120 u121 u122 u7 w2 :=
  ⟨fun d => h.e0 (done_of_set d (by decide)), fun d => h.e1 (done_of_set d (by decide)), fun d => h.e2 (done_of_set d (by decide)), fun d => h.e3 (done_of_set d (by decide)), fun d => h.e4 (done_of_set d (by decide)), fun d => h.e5 (done_of_set d (by decide)), fun d => h.e6 (done_of_set d (by decide)), fun d => h.e7 (done_of_set d (by decide)), fun d => h.e8 (done_of_set d (by decide)), fun d => h.e9 (done_of_set d (by decide)), fun d => h.e10 (done_of_set d (by decide)), fun d => h.e11 (done_of_set d (by decide)), fun d => h.e12 (done_of_set d (by decide)), fun d => h.e13 (done_of_set d (by decide)), fun d => h.e14 (done_of_set d (by decide)), fun d => h.e15 (done_of_set d (by decide)), fun d => h.e16 (done_of_set d (by decide)), fun d => h.e17 (done_of_set d (by decide)), fun d => h.e18 (done_of_set d (by decide)), fun d => h.e19 (done_of_set d (by decide)), fun _ => rfl, fun d => h.e21 (done_of_set d (by decide)), fun d => h.e22 (done_of_set d (by decide)), fun d => h.e23 (done_of_set d (by decide)), fun d => h.e24 (done_of_set d (by decide)), fun d => h.e25 (done_of_set d (by decide)), fun d => h.e26 (done_of_set d (by decide)), fun d => h.e27 (done_of_set d (by decide)), fun d => h.e28 (done_of_set d (by decide)), fun d => h.e29 (done_of_set d (by decide)), fun d => h.k7 (undone_of_set d), hS⟩

theorem THead.s21 {w2 : World} (h : THead wr l b off c k n y1 y3 x D listed u94 u95 u96 u97 u98 u99 u100 u101 u102 u103 u104 u105 u106 u107 u108 u109 u110 u111 u112 u113 u114 u115 u116 u117 u118 u119 u120 u121 u122 u7 w') (hS : Fp (fun _ => False) wr w2) : THead wr l b off c k n y1 y3 x D (listed.setIfInBounds 21 true) u94 u95 u96 u97 u98 u99 u100 u101 u102 u103 u104 u105 u106 u107 u108 u109 u110 u111 u112 u113 u114 (.string (S D ++ S (Silo.leb y1) ++ S (Silo.leb n) ++ S (Silo.leb y3))) u116 u117 u118 u119 u120 u121 u122 u7 w2 :=
  ⟨fun d => h.e0 (done_of_set d (by decide)), fun d => h.e1 (done_of_set d (by decide)), fun d => h.e2 (done_of_set d (by decide)), fun d => h.e3 (done_of_set d (by decide)), fun d => h.e4 (done_of_set d (by decide)), fun d => h.e5 (done_of_set d (by decide)), fun d => h.e6 (done_of_set d (by decide)), fun d => h.e7 (done_of_set d (by decide)), fun d => h.e8 (done_of_set d (by decide)), fun d => h.e9 (done_of_set d (by decide)), fun d => h.e10 (done_of_set d (by decide)), fun d => h.e11 (done_of_set d (by decide)), fun d => h.e12 (done_of_set d (by decide)), fun d => h.e13 (done_of_set d (by decide)), fun d => h.e14 (done_of_set d (by decide)), fun d => h.e15 (done_of_set d (by decide)), fun d => h.e16 (done_of_set d (by decide)), fun d => h.e17 (done_of_set d (by decide)), fun d => h.e18 (done_of_set d (by decide)), fun d => h.e19 (done_of_set d (by decide)), fun d => h.e20 (done_of_set d (by decide)), fun _ => rfl, fun d => h.e22 (done_of_set d (by decide)), fun d => h.e23 (done_of_set d (by decide)), fun d => h.e24 (done_of_set d (by decide)), fun d => h.e25 (done_of_set d (by decide)), fun d => h.e26 (done_of_set d (by decide)), fun d => h.e27 (done_of_set d (by decide)), fun d => h.e28 (done_of_set d (by decide)), fun d => h.e29 (done_of_set d (by decide)), fun d => h.k7 (undone_of_set d), hS⟩

theorem THead.s22 {w2 : World} (h : THead wr l b off c k n y1 y3 x D listed u94 u95 u96 u97 u98 u99 u100 u101 u102 u103 u104 u105 u106 u107 u108 u109 u110 u111 u112 u113 u114 u115 u116 u117 u118 u119 u120 u121 u122 u7 w') (hS : Fp (fun _ => False) wr w2) : THead wr l b off c k n y1 y3 x D (listed.setIfInBounds 22 true) u94 u95 u96 u97 u98 u99 u100 u101 u102 u103 u104 u105 u106 u107 u108 u109 u110 u111 u112 u113 u114 u115 (.slice (some ⟨b, off, none⟩) l.length c) u117 u118 u119 u120 u121 u122 u7 w2 :=
  ⟨fun d => h.e0 (done_of_set d (by decide)), fun d => h.e1 (done_of_set d (by decide)), fun d => h.e2 (done_of_set d (by decide)), fun d => h.e3 (done_of_set d (by decide)), fun d => h.e4 (done_of_set d (by decide)), fun d => h.e5 (done_of_set d (by decide)), fun d => h.e6 (done_of_set d (by decide)), fun d => h.e7 (done_of_set d (by decide)), fun d => h.e8 (done_of_set d (by decide)), fun d => h.e9 (done_of_set d (by decide)), fun d => h.e10 (done_of_set d (by decide)), fun d => h.e11 (done_of_set d (by decide)), fun d => h.e12 (done_of_set d (by decide)), fun d => h.e13 (done_of_set d (by decide)), fun d => h.e14 (done_of_set d (by decide)), fun d => h.e15 (done_of_set d (by decide)), fun d => h.e16 (done_of_set d (by decide)), fun d => h.e17 (done_of_set d (by decide)), fun d => h.e18 (done_of_set d (by decide)), fun d => h.e19 (done_of_set d (by decide)), fun d => h.e20 (done_of_set d (by decide)), fun d => h.e21 (done_of_set d (by decide)), fun _ => rfl, fun d => h.e23 (done_of_set d (by decide)), fun d => h.e24 (done_of_set d (by decide)), fun d => h.e25 (done_of_set d (by decide)), fun d => h.e26 (done_of_set d (by decide)), fun d => h.e27 (done_of_set d (by decide)), fun d => h.e28 (done_of_set d (by decide)), fun d => h.e29 (done_of_set d (by decide)), fun d => h.k7 (undone_of_set d), hS⟩

theorem THead.s23 {w2 : World} (h : THead wr l b off c k n y1 y3 x D listed u94 u95 u96 u97 u98 u99 u100 u101 u102 u103 u104 u105 u106 u107 u108 u109 u110 u111 u112 u113 u114 u115 u116 u117 u118 u119 u120 u121 u122 u7 w') (hS : Fp (fun _ => False) wr w2) : THead wr l b off c k n y1 y3 x D (listed.setIfInBounds 23 true) u94 u95 u96 u97 u98 u99 u100 u101 u102 u103 u104 u105 u106 u107 u108 u109 u110 u111 u112 u113 u114 u115 u116 (.int .i64 ((k : Nat) : Int)) u118 u119 u120 u121 u122 u7 w2 :=
  ⟨fun d => h.e0 (done_of_set d (by decide)), fun d => h.e1 (done_of_set d (by decide)), fun d => h.e2 (done_of_set d (by decide)), fun d => h.e3 (done_of_set d (by decide)), fun d => h.e4 (done_of_set d (by decide)), fun d => h.e5 (done_of_set d (by decide)), fun d => h.e6 (done_of_set d (by decide)), fun d => h.e7 (done_of_set d (by decide)), fun d => h.e8 (done_of_set d (by decide)), fun d => h.e9 (done_of_set d (by decide)), fun d => h.e10 (done_of_set d (by decide)), fun d => h.e11 (done_of_set d (by decide)), fun d => h.e12 (done_of_set d (by decide)), fun d => h.e13 (done_of_set d (by decide)), fun d => h.e14 (done_of_set d (by decide)), fun d => h.e15 (done_of_set d (by decide)), fun d => h.e16 (done_of_set d (by decide)), fun d => h.e17 (done_of_set d (by decide)), fun d => h.e18 (done_of_set d (by decide)), fun d => h.e19 (done_of_set d (by decide)), fun d => h.e20 (done_of_set d (by decide)), fun d => h.e21 (done_of_set d (by decide)), fun d => h.e22 (done_of_set d (by decide)), fun _ => rfl, fun d => h.e24 (done_of_set d (by decide)), fun d => h.e25 (done_of_set d (by decide)), fun d => h.e26 (done_of_set d (by decide)), fun d => h.e27 (done_of_set d (by decide)), fun d => h.e28 (done_of_set d (by decide)), fun d => h.e29 (done_of_set d (by decide)), fun d => h.k7 (undone_of_set d), hS⟩

theorem THead.s24 {w2 : World} (h : THead wr l b off c k n y1 y3 x D listed u94 u95 u96 u97 u98 u99 u100 u101 u102 u103 u104 u105 u106 u107 u108 u109 u110 u111 u112 u113 u114 u115 u116 u117 u118 u119 u120 u121 u122 u7 w') (hS : Fp (fun _ => False) wr w2) : THead wr l b off c k n y1 y3 x D (listed.setIfInBounds 24 true) u94 u95 u96 u97 u98 u99 u100 u101 u102 u103 u104 u105 u106 u107 u108 u109 u110 u111 u112 u113 u114 u115 u116 u117 (.pointer (some ⟨b, off + k * 3, none⟩)) u119 u120 u121 u122 u7 w2 :=
  ⟨fun d => h.e0 (done_of_set d (by decide)), fun d => h.e1 (done_of_set d (by decide)), fun d => h.e2 (done_of_set d (by decide)), fun d => h.e3 (done_of_set d (by decide)), fun d => h.e4 (done_of_set d (by decide)), fun d => h.e5 (done_of_set d (by decide)), fun d => h.e6 (done_of_set d (by decide)), fun d => h.e7 (done_of_set d (by decide)), fun d => h.e8 (done_of_set d (by decide)), fun d => h.e9 (done_of_set d (by decide)), fun d => h.e10 (done_of_set d (by decide)), fun d => h.e11 (done_of_set d (by decide)), fun d => h.e12 (done_of_set d (by decide)), fun d => h.e13 (done_of_set d (by decide)), fun d => h.e14 (done_of_set d (by decide)), fun d => h.e15 (done_of_set d (by decide)), fun d => h.e16 (done_of_set d (by decide)), fun d => h.e17 (done_of_set d (by decide)), fun d => h.e18 (done_of_set d (by decide)), fun d => h.e19 (done_of_set d (by decide)), fun d => h.e20 (done_of_set d (by decide)), fun d => h.e21 (done_of_set d (by decide)), fun d => h.e22 (done_of_set d (by decide)), fun d => h.e23 (done_of_set d (by decide)), fun _ => rfl, fun d => h.e25 (done_of_set d (by decide)), fun d => h.e26 (done_of_set d (by decide)), fun d => h.e27 (done_of_set d (by decide)), fun d => h.e28 (done_of_set d (by decide)), fun d => h.e29 (done_of_set d (by decide)), fun d => h.k7 (undone_of_set d), hS⟩

theorem THead.s25 {w2 : World} (h : THead wr l b off c k n y1 y3 x D listed u94 u95 u96 u97 u98 u99 u100 u101 u102 u103 u104 u105 u106 u107 u108 u109 u110 u111 u112 u113 u114 u115 u116 u117 u118 u119 u120 u121 u122 u7 w') (hS : Fp (fun _ => False) wr w2) : THead wr l b off c k n y1 y3 x D (listed.setIfInBounds 25 true) u94 u95 u96 u97 u98 u99 u100 u101 u102 u103 u104 u105 u106 u107 u108 u109 u110 u111 u112 u113 u114 u115 u116 u117 u118 (.pointer (some ⟨b, off + k * 3 + 2, none⟩)) u120 u121 u122 u7 w2 :=
  ⟨fun d => h.e0 (done_of_set d (by decide)), fun d => h.e1 (done_of_set d (by decide)), fun d => h.e2 (done_of_set d (by decide)), fun d => h.e3 (done_of_set d (by decide)), fun d => h.e4 (done_of_set d (by decide)), fun d => h.e5 (done_of_set d (by decide)), fun d => h.e6 (done_of_set d (by decide)), fun d => h.e7 (done_of_set d (by decide)), fun d => h.e8 (done_of_set d (by decide)), fun d => h.e9 (done_of_set d (by decide)), fun d => h.e10 (done_of_set d (by decide)), fun d => h.e11 (done_of_set d (by decide)), fun d => h.e12 (done_of_set d (by decide)), fun d => h.e13 (done_of_set d (by decide)), fun d => h.e14 (done_of_set d (by decide)), fun d => h.e15 (done_of_set d (by decide)), fun d => h.e16 (done_of_set d (by decide)), fun d => h.e17 (done_of_set d (by decide)), fun d => h.e18 (done_of_set d (by decide)), fun d => h.e19 (done_of_set d (by decide)), fun d => h.e20 (done_of_set d (by decide)), fun d => h.e21 (done_of_set d (by decide)), fun d => h.e22 (done_of_set d (by decide)), fun d => h.e23 (done_of_set d (by decide)), fun d => h.e24 (done_of_set d (by decide)), fun _ => rfl, fun d => h.e26 (done_of_set d (by decide)), fun d => h.e27 (done_of_set d (by decide)), fun d => h.e28 (done_of_set d (by decide)), fun d => h.e29 (done_of_set d (by decide)), fun d => h.k7 (undone_of_set d), hS⟩

theorem THead.s26 {w2 : World} (h : THead wr l b off c k n y1 y3 x D listed u94 u95 u96 u97 u98 u99 u100 u101 u102 u103 u104 u105 u106 u107 u108 u109 u110 u111 u112 u113 u114 u115 u116 u117 u118 u119 u120 u121 u122 u7 w') (hS : Fp (fun _ => False) wr w2) : THead wr l b off c k n y1 y3 x D (listed.setIfInBounds 26 true) u94 u95 u96 u97 u98 u99 u100 u101 u102 u103 u104 u105 u106 u107 u108 u109 u110 u111 u112 u113 u114 u115 u116 u117 u118 u119 (.int .u64 ((x.v : Nat) : Int)) u121 u122 u7 w2 :=
  ⟨fun d => h.e0 (done_of_set d (by decide)), fun d => h.e1 (done_of_set d (by decide)), fun d => h.e2 (done_of_set d (by decide)), fun d => h.e3 (done_of_set d (by decide)), fun d => h.e4 (done_of_set d (by decide)), fun d => h.e5 (done_of_set d (by decide)), fun d => h.e6 (done_of_set d (by decide)), fun d => h.e7 (done_of_set d (by decide)), fun d => h.e8 (done_of_set d (by decide)), fun d => h.e9 (done_of_set d (by decide)), fun d => h.e10 (done_of_set d (by decide)), fun d => h.e11 (done_of_set d (by decide)), fun d => h.e12 (done_of_set d (by decide)), fun d => h.e13 (done_of_set d (by decide)), fun d => h.e14 (done_of_set d (by decide)), fun d => h.e15 (done_of_set d (by decide)), fun d => h.e16 (done_of_set d (by decide)), fun d => h.e17 (done_of_set d (by decide)), fun d => h.e18 (done_of_set d (by decide)), fun d => h.e19 (done_of_set d (by decide)), fun d => h.e20 (done_of_set d (by decide)), fun d => h.e21 (done_of_set d (by decide)), fun d => h.e22 (done_of_set d (by decide)), fun d => h.e23 (done_of_set d (by decide)), fun d => h.e24 (done_of_set d (by decide)), fun d => h.e25 (done_of_set d (by decide)), fun _ => rfl, fun d => h.e27 (done_of_set d (by decide)), fun d => h.e28 (done_of_set d (by decide)), fun d => h.e29 (done_of_set d (by decide)), fun d => h.k7 (undone_of_set d), hS⟩

theorem THead.s27 {w2 : World} (h : THead wr l b off c k n y1 y3 x D listed u94 u95 u96 u97 u98 u99 u100 u101 u102 u103 u104 u105 u106 u107 u108 u109 u110 u111 u112 u113 u114 u115 u116 u117 u118 u119 u120 u121 u122 u7 w') (hS : Fp (fun _ => False) wr w2) : THead wr l b off c k n y1 y3 x D (listed.setIfInBounds 27 true) u94 u95 u96 u97 u98 u99 u100 u101 u102 u103 u104 u105 u106 u107 u108 u109 u110 u111 u112 u113 u114 u115 u116 u117 u118 u119 u120 (.string (S (Silo.leb x.v))) u122 u7 w2 :=
  ⟨fun d => h.e0 (done_of_set d (by decide)), fun d => h.e1 (done_of_set d (by decide)), fun d => h.e2 (done_of_set d (by decide)), fun d => h.e3 (done_of_set d (by decide)), fun d => h.e4 (done_of_set d (by decide)), fun d => h.e5 (done_of_set d (by decide)), fun d => h.e6 (done_of_set d (by decide)), fun d => h.e7 (done_of_set d (by decide)), fun d => h.e8 (done_of_set d (by decide)), fun d => h.e9 (done_of_set d (by decide)), fun d => h.e10 (done_of_set d (by decide)), fun d => h.e11 (done_of_set d (by decide)), fun d => h.e12 (done_of_set d (by decide)), fun d => h.e13 (done_of_set d (by decide)), fun d => h.e14 (done_of_set d (by decide)), fun d => h.e15 (done_of_set d (by decide)), fun d => h.e16 (done_of_set d (by decide)), fun d => h.e17 (done_of_set d (by decide)), fun d => h.e18 (done_of_set d (by decide)), fun d => h.e19 (done_of_set d (by decide)), fun d => h.e20 (done_of_set d (by decide)), fun d => h.e21 (done_of_set d (by decide)), fun d => h.e22 (done_of_set d (by decide)), fun d => h.e23 (done_of_set d (by decide)), fun d => h.e24 (done_of_set d (by decide)), fun d => h.e25 (done_of_set d (by decide)), fun d => h.e26 (done_of_set d (by decide)), fun _ => rfl, fun d => h.e28 (done_of_set d (by decide)), fun d => h.e29 (done_of_set d (by decide)), fun d => h.k7 (undone_of_set d), hS⟩

theorem THead.s28 {w2 : World} (h : THead wr l b off c k n y1 y3 x D listed u94 u95 u96 u97 u98 u99 u100 u101 u102 u103 u104 u105 u106 u107 u108 u109 u110 u111 u112 u113 u114 u115 u116 u117 u118 u119 u120 u121 u122 u7 w') (hS : Fp (fun _ => False) wr w2) : THead wr l b off c k n y1 y3 x D (listed.setIfInBounds 28 true) u94 u95 u96 u97 u98 u99 u100 u101 u102 u103 u104 u105 u106 u107 u108 u109 u110 u111 u112 u113 u114 u115 u116 u117 u118 u119 u120 u121 (.string (S D ++ S (Silo.leb y1) ++ S (Silo.leb n) ++ S (Silo.leb y3) ++ S (Silo.leb x.v))) u7 w2 :=
  ⟨fun d => h.e0 (done_of_set d (by decide)), fun d => h.e1 (done_of_set d (by decide)), fun d => h.e2 (done_of_set d (by decide)), fun d => h.e3 (done_of_set d (by decide)), fun d => h.e4 (done_of_set d (by decide)), fun d => h.e5 (done_of_set d (by decide)), fun d => h.e6 (done_of_set d (by decide)), fun d => h.e7 (done_of_set d (by decide)), fun d => h.e8 (done_of_set d (by decide)), fun d => h.e9 (done_of_set d (by decide)), fun d => h.e10 (done_of_set d (by decide)), fun d => h.e11 (done_of_set d (by decide)), fun d => h.e12 (done_of_set d (by decide)), fun d => h.e13 (done_of_set d (by decide)), fun d => h.e14 (done_of_set d (by decide)), fun d => h.e15 (done_of_set d (by decide)), fun d => h.e16 (done_of_set d (by decide)), fun d => h.e17 (done_of_set d (by decide)), fun d => h.e18 (done_of_set d (by decide)), fun d => h.e19 (done_of_set d (by decide)), fun d => h.e20 (done_of_set d (by decide)), fun d => h.e21 (done_of_set d (by decide)), fun d => h.e22 (done_of_set d (by decide)), fun d => h.e23 (done_of_set d (by decide)), fun d => h.e24 (done_of_set d (by decide)), fun d => h.e25 (done_of_set d (by decide)), fun d => h.e26 (done_of_set d (by decide)), fun d => h.e27 (done_of_set d (by decide)), fun _ => rfl, fun d => h.e29 (done_of_set d (by decide)), fun d => h.k7 (undone_of_set d), hS⟩

theorem THead.s29 {w2 : World} (h : THead wr l b off c k n y1 y3 x D listed u94 u95 u96 u97 u98 u99 u100 u101 u102 u103 u104 u105 u106 u107 u108 u109 u110 u111 u112 u113 u114 u115 u116 u117 u118 u119 u120 u121 u122 u7 w') (hi : 29 < listed.size) (hS : Fp (fun _ => False) wr w2) : THead wr l b off c k n y1 y3 x D (listed.setIfInBounds 29 true) u94 u95 u96 u97 u98 u99 u100 u101 u102 u103 u104 u105 u106 u107 u108 u109 u110 u111 u112 u113 u114 u115 u116 u117 u118 u119 u120 u121 u122 (.string (S D ++ S (Silo.leb y1) ++ S (Silo.leb n) ++ S (Silo.leb y3) ++ S (Silo.leb x.v))) w2 :=
  ⟨fun d => h.e0 (done_of_set d (by decide)), fun d => h.e1 (done_of_set d (by decide)), fun d => h.e2 (done_of_set d (by decide)), fun d => h.e3 (done_of_set d (by decide)), fun d => h.e4 (done_of_set d (by decide)), fun d => h.e5 (done_of_set d (by decide)), fun d => h.e6 (done_of_set d (by decide)), fun d => h.e7 (done_of_set d (by decide)), fun d => h.e8 (done_of_set d (by decide)), fun d => h.e9 (done_of_set d (by decide)), fun d => h.e10 (done_of_set d (by decide)), fun d => h.e11 (done_of_set d (by decide)), fun d => h.e12 (done_of_set d (by decide)), fun d => h.e13 (done_of_set d (by decide)), fun d => h.e14 (done_of_set d (by decide)), fun d => h.e15 (done_of_set d (by decide)), fun d => h.e16 (done_of_set d (by decide)), fun d => h.e17 (done_of_set d (by decide)), fun d => h.e18 (done_of_set d (by decide)), fun d => h.e19 (done_of_set d (by decide)), fun d => h.e20 (done_of_set d (by decide)), fun d => h.e21 (done_of_set d (by decide)), fun d => h.e22 (done_of_set d (by decide)), fun d => h.e23 (done_of_set d (by decide)), fun d => h.e24 (done_of_set d (by decide)), fun d => h.e25 (done_of_set d (by decide)), fun d => h.e26 (done_of_set d (by decide)), fun d => h.e27 (done_of_set d (by decide)), fun d => h.e28 (done_of_set d (by decide)), fun _ => rfl, fun d => absurd d (by rw [done_set_same hi]; decide), hS⟩

end

end Go.Proofs.Ytojjkjfcbfoinaa

namespace Go.Proofs.Ytojjkjfcbfoinaa
open Go.RowKit Go.Shelf

set_option maxHeartbeats 4000000 in
set_option maxRecDepth 100000 in
theorem RefTold_any (lo hi : Nat) (v : Value) (l : List Silo.Smp) (w : World) (hlo : lo ≤ 999999) (hhi : hi ≤ 999999) (hin : SmpIn w w.heap.size v l) (hl : l.length ≤ 16777216) (hg : ∀ x ∈ l, Silo.goodSmp x) :
    Calls Try.prog 27 #[.int .i64 lo, .int .i64 hi, v] w fun e w' => e = .returned (.string (S (Silo.sealed (Silo.toldBody lo hi l)))) ∧ Fp (fun _ => False) w w' := by
  obtain ⟨ad, c, rfl, hin'⟩ := hin
  have hT := Silo.toldFrom_len l none (fun p h => by cases h) hg (by omega)
  have hlo9 : lo < Silo.M64 := by unfold Silo.M64; omega
  have hhi9 : hi < Silo.M64 := by unfold Silo.M64; omega
  have z1 := leb_size lo hlo9
  have z2 := leb_size hi hhi9
  have H : Hid _ := And.intro hin' (And.intro hg (And.intro hT (And.intro hlo9 hhi9)))
  clear hin' hg hT hlo9 hhi9
  go_enter Try.func27, Try.ntmps27
  go_wp2_with fail
  refine (RefCode_any lo w H.out.2.2.2.1).mono ?_
  rintro e w1 ⟨rfl, h1⟩
  have H1 : Hid _ := h1
  clear h1
  go_wp2_with fail
  refine (RefCode_any hi w1 H.out.2.2.2.2).mono ?_
  rintro e w2 ⟨rfl, h2⟩
  have H2 : Hid _ := H1.out.trans' h2
  clear h2 H1
  go_wp2_with fail
  go_loopw [7, 8] (fun sv iv wr => ∃ k : Nat, k ≤ l.length ∧ iv = .int .i64 k ∧ ∃ D : List UInt8, sv = .string (S D) ∧ Hid ((∃ d, D = 66 :: (Silo.leb lo ++ Silo.leb hi ++ d) ∧ Silo.toldFrom none l = d ++ Silo.toldFrom (Silo.lastOf l k) (l.drop k)) ∧ Fp (fun _ => False) w wr)) (fun _ iv _ => l.length - (intOf iv).toNat)
  case atStart => 
    refine ⟨0, by omega, rfl, 66 :: (Silo.leb lo ++ Silo.leb hi), ?_, ⟨[], by simp, rfl⟩, H2.out⟩
    have e : S (66 :: (Silo.leb lo ++ Silo.leb hi)) = S [66] ++ S (Silo.leb lo) ++ S (Silo.leb hi) := by rw [S_append, S_append]; rfl
    rw [e]
    rfl
  case round =>
    obtain ⟨k, hk, rfl, D, rfl, HR⟩ := hrel
    by_cases hlt : k < l.length
    · obtain ⟨b, off, hb⟩ : ∃ b off, ad = some ⟨b, off, none⟩ ∧ b < w.heap.size ∧ ∀ k (hk : k < l.length),
          w.cell? ⟨b, off + k * 3, none⟩ = some (.int .i64 l[k].s) ∧ w.cell? ⟨b, off + k * 3 + 1, none⟩ = some (.int .i64 l[k].t) ∧ w.cell? ⟨b, off + k * 3 + 2, none⟩ = some (.int .u64 (l[k].v : Nat)) := by
        rcases H.out.1 with h | h
        · rw [h] at hlt; simp at hlt
        · exact h
      obtain ⟨rfl, hbt, hcell⟩ := hb
      have hcells : ∀ j (hj : j < l.length), wr.cell? ⟨b, off + j * 3, none⟩ = some (.int .i64 l[j].s) ∧ wr.cell? ⟨b, off + j * 3 + 1, none⟩ = some (.int .i64 l[j].t) ∧ wr.cell? ⟨b, off + j * 3 + 2, none⟩ = some (.int .u64 (l[j].v : Nat)) := fun j hj => by
        rw [HR.out.2.cell (p := ⟨b, off + j * 3, none⟩) hbt (fun h => h), HR.out.2.cell (p := ⟨b, off + j * 3 + 1, none⟩) hbt (fun h => h), HR.out.2.cell (p := ⟨b, off + j * 3 + 2, none⟩) hbt (fun h => h)]
        exact hcell j hj
      have hbr : b < wr.heap.size := Nat.lt_of_lt_of_le hbt HR.out.2.size
      have HC : Hid _ := hcells
      obtain ⟨c0, c1, c2⟩ := hcells k hlt
      obtain ⟨x, hx⟩ : ∃ x, l[k] = x := ⟨_, rfl⟩
      rw [hx] at c0 c1 c2
      have hgx : Silo.goodSmp x := by rw [← hx]; exact H.out.2.1 _ (List.getElem_mem _)
      have HX : Hid _ := And.intro hx hgx
      clear hcell hcells hgx hx
      have kN : (k : Int) < (l.length : Int) := by omega
      have hD : D.length ≤ 671088680 := by
        obtain ⟨d, h1, h2⟩ := HR.out.1
        have h3 := H.out.2.2.1
        rw [h2] at h3
        have h4 := Silo.leb_len lo H.out.2.2.2.1
        have h5 := Silo.leb_len hi H.out.2.2.2.2
        rw [h1]
        simp only [List.length_append, List.length_cons] at h3 ⊢
        omega
      have hDs : (S D).size ≤ 671088680 := hD
      clear hD
      obtain ⟨wz, hwz⟩ : ∃ wz, wz = wr := ⟨_, rfl⟩
      subst hwz
      go_upto_region 5 with fail
      go_cut [40] from 19 to 122 (fun cv wx => cv = .bool (Silo.sameB (Silo.lastOf l k) x) ∧ Hid (Fp (fun _ => False) wz wx))
      case first =>
        by_cases hk0 : 0 < k
        · obtain ⟨j, hkj⟩ : ∃ j, k = j + 1 := ⟨k - 1, by omega⟩
          have hjl : j < l.length := by omega
          obtain ⟨p0, p1, p2⟩ := HC.out j hjl
          obtain ⟨p, hp⟩ : ∃ p, l[j] = p := ⟨_, rfl⟩
          rw [hp] at p0 p1 p2
          have hlast : Silo.lastOf l k = some p := by subst hkj; rw [Silo.lastOf_succ hjl, hp]
          have hj1 : IntKind.i64.wrap ((k : Int) - 1) = (j : Int) := by rw [show (k : Int) - 1 = (j : Int) by omega, IntKind.wrap_i64]; omega
          have hj2 : decide ((0 : Int) < (k : Int)) = true := decide_eq_true (by omega)
          have hj4 : decide (0 < k) = true := decide_eq_true hk0
          have jN : (j : Int) < (l.length : Int) := by omega
          have HP : Hid _ := hlast
          clear hp hlast hkj
          by_cases hps : p.s = x.s
          · have t1 : (p.s == x.s) = true := by simpa using hps
            have t2 : Hid (Silo.sameB (some p) x = true) := by show decide (p.s = x.s) = true; simpa using hps
            clear hps
            go_quiet (fail)
            go_wp2
            go_meet
            exact ⟨by rw [HP.out, t2.out], Fp.drewN _ _ _⟩
          · have t1 : (p.s == x.s) = false := by simpa using hps
            have t2 : Hid (Silo.sameB (some p) x = false) := by show decide (p.s = x.s) = false; simpa using hps
            clear hps
            go_quiet (fail)
            go_wp2
            go_meet
            exact ⟨by rw [HP.out, t2.out], Fp.drewN _ _ _⟩
        · have hj2 : decide ((0 : Int) < (k : Int)) = false := decide_eq_false (by omega)
          have hj4 : decide (0 < k) = false := decide_eq_false hk0
          have t2 : Hid (Silo.sameB (Silo.lastOf l k) x = false) := by show Silo.sameB (Silo.lastOf l k) x = false; rw [show k = 0 by omega]; rfl
          go_quiet (fail)
          go_wp2
          go_meet
          exact ⟨by rw [t2.out], Fp.drewN _ _ _⟩
      case rest =>
        obtain ⟨rfl, HFW⟩ := hcut
        cases hsb : Silo.sameB (Silo.lastOf l k) x with
        | true =>
          obtain ⟨p, hlast, hps⟩ : ∃ p, Silo.lastOf l k = some p ∧ p.s = x.s := by
            cases hl9 : Silo.lastOf l k with
            | none => rw [hl9] at hsb; cases hsb
            | some p => rw [hl9] at hsb; exact ⟨p, rfl, by simpa [Silo.sameB] using hsb⟩
          obtain ⟨j, hkj⟩ : ∃ j, k = j + 1 := by
            cases k with
            | zero => cases hlast
            | succ j => exact ⟨j, rfl⟩
          have hjl : j < l.length := by omega
          have hp : l[j] = p := by subst hkj; rw [Silo.lastOf_succ hjl] at hlast; simpa using hlast
          obtain ⟨p0, p1, p2⟩ := HC.out j hjl
          rw [hp] at p0 p1 p2
          have hgp : Silo.goodSmp p := by rw [← hp]; exact H.out.2.1 _ (List.getElem_mem _)
          have HP : Hid _ := And.intro hlast (And.intro hps hgp)
          have hj1 : IntKind.i64.wrap ((k : Int) - 1) = (j : Int) := by rw [show (k : Int) - 1 = (j : Int) by omega, IntKind.wrap_i64]; omega
          have jN : (j : Int) < (l.length : Int) := by omega
          clear hp hlast hps hgp hkj hsb
          have hcw : ∀ w', Fp (fun _ => False) wz w' → w'.cell? ⟨b, off + k * 3 + 1, none⟩ = some (.int .i64 x.t) ∧ w'.cell? ⟨b, off + k * 3 + 2, none⟩ = some (.int .u64 (x.v : Nat)) ∧ w'.cell? ⟨b, off + j * 3 + 1, none⟩ = some (.int .i64 p.t) ∧ w'.cell? ⟨b, off + j * 3 + 2, none⟩ = some (.int .u64 (p.v : Nat)) := fun w' h =>
            ⟨by rw [h.cell (p := ⟨b, off + k * 3 + 1, none⟩) hbr (fun h => h)]; exact c1, by rw [h.cell (p := ⟨b, off + k * 3 + 2, none⟩) hbr (fun h => h)]; exact c2, by rw [h.cell (p := ⟨b, off + j * 3 + 1, none⟩) hbr (fun h => h)]; exact p1, by rw [h.cell (p := ⟨b, off + j * 3 + 2, none⟩) hbr (fun h => h)]; exact p2⟩
          have HCW : Hid _ := hcw
          clear hcw
          obtain ⟨y1, hy1⟩ : ∃ y1, Silo.tcode x.t p.t false = y1 := ⟨_, rfl⟩
          have hy9 : y1 < Silo.M64 := by rw [← hy1]; exact Silo.tcode_lt x.t p.t false HX.out.2.2.2.1
          have g1 : IntKind.u64.wrap (IntKind.u64.wrap x.t - IntKind.u64.wrap p.t) = (y1 : Int) := by
            rw [← hy1, IntKind.wrap_u64, IntKind.wrap_u64, IntKind.wrap_u64]
            unfold Silo.tcode
            simp only [Bool.false_eq_true, if_false]
            omega
          obtain ⟨y2, hy2⟩ : ∃ y2, x.v ^^^ p.v = y2 := ⟨_, rfl⟩
          have hy29 : y2 < Silo.M64 := by rw [← hy2]; exact Silo.xor_lt _ _ HX.out.2.2.2.2 HP.out.2.2.2.2.2
          have g2 : bits BinOp.xor IntKind.u64 (x.v : Int) (p.v : Int) = (y2 : Int) := by
            have q1 := HX.out.2.2.2.2
            have q2 := HP.out.2.2.2.2.2
            unfold Silo.M64 at q1 q2
            rw [← hy2, bits_xor_u64_nat _ _ q1 q2]
          clear z1 z2
          have s1 := leb_size y1 hy9
          have s2 := leb_size y2 hy29
          have z1 : ¬ 9223372036854775807 < (S D).size + (S (Silo.leb y1)).size := by omega
          have z2 : ¬ 9223372036854775807 < (S D).size + (S (Silo.leb y1)).size + (S (Silo.leb y2)).size := by omega
          have HY : Hid _ := And.intro hy1 (And.intro hy9 (And.intro hy2 hy29))
          clear hy1 hy9 hy2 hy29 c0 c1 c2 p0 p1 p2
          go_wp2_with fail
          refine wp_region_inv (by kernel_rfl) (by kernel_rfl) (fun listed a' w' => ∃ u41 u42 u43 u44 u45 u46 u47 u48 u49 u50 u51 u52 u53 u54 u55 u56 u57 u58 u59 u60 u61 u62 u63 u64 u65 u66 u67 u68 u69 u70 u71 u7 : Value, a' = { tmps := #[.int .i64 ((lo : Nat) : Int), .int .i64 ((hi : Nat) : Int), .slice (some ⟨b, off, none⟩) l.length c, undef, undef, undef, .string { data := #[] }, u7, .int .i64 ((k : Nat) : Int), u9, u10, .int .i64 ((lo : Nat) : Int), .int .u64 ((lo : Nat) : Int), .string (S (Silo.leb lo)), .string ({ data := #[66] } ++ S (Silo.leb lo)), .int .i64 ((hi : Nat) : Int), .int .u64 ((hi : Nat) : Int), .string (S (Silo.leb hi)), .string ({ data := #[66] } ++ S (Silo.leb lo) ++ S (Silo.leb hi)), u19, u20, u21, u22, u23, u24, u25, u26, u27, u28, u29, u30, u31, u32, u33, u34, u35, u36, u37, u38, u39, .bool true, u41, u42, u43, u44, u45, u46, u47, u48, u49, u50, u51, u52, u53, u54, u55, u56, u57, u58, u59, u60, u61, u62, u63, u64, u65, u66, u67, u68, u69, u70, u71, u72, u73, u74, u75, u76, u77, u78, u79, u80, u81, u82, u83, u84, u85, u86, u87, u88, u89, u90, u91, u92, u93, u94, u95, u96, u97, u98, u99, u100, u101, u102, u103, u104, u105, u106, u107, u108, u109, u110, u111, u112, u113, u114, u115, u116, u117, u118, u119, u120, u121, u122, undef, undef, undef], defers := [] } ∧ Hid (TNext wz l b off c k j y1 y2 x p D listed u41 u42 u43 u44 u45 u46 u47 u48 u49 u50 u51 u52 u53 u54 u55 u56 u57 u58 u59 u60 u61 u62 u63 u64 u65 u66 u67 u68 u69 u70 u71 u7 w')) ?r60 ?r6end ?r6step
          case r60 => exact ⟨_, _, _, _, _, _, _, _, _, _, _, _, _, _, _, _, _, _, _, _, _, _, _, _, _, _, _, _, _, _, _, _, rfl, TNext.start (HFW.out.trans' (Fp.drew _ _))⟩
          case r6end =>
            rintro listed a' w' hall ⟨u41, u42, u43, u44, u45, u46, u47, u48, u49, u50, u51, u52, u53, u54, u55, u56, u57, u58, u59, u60, u61, u62, u63, u64, u65, u66, u67, u68, u69, u70, u71, u7, rfl, HI⟩
            obtain rfl := HI.out.e0 (hall 0 (by decide))
            obtain rfl := HI.out.e1 (hall 1 (by decide))
            obtain rfl := HI.out.e2 (hall 2 (by decide))
            obtain rfl := HI.out.e3 (hall 3 (by decide))
            obtain rfl := HI.out.e4 (hall 4 (by decide))
            obtain rfl := HI.out.e5 (hall 5 (by decide))
            obtain rfl := HI.out.e6 (hall 6 (by decide))
            obtain rfl := HI.out.e7 (hall 7 (by decide))
            obtain rfl := HI.out.e8 (hall 8 (by decide))
            obtain rfl := HI.out.e9 (hall 9 (by decide))
            obtain rfl := HI.out.e10 (hall 10 (by decide))
            obtain rfl := HI.out.e11 (hall 11 (by decide))
            obtain rfl := HI.out.e12 (hall 12 (by decide))
            obtain rfl := HI.out.e13 (hall 13 (by decide))
            obtain rfl := HI.out.e14 (hall 14 (by decide))
            obtain rfl := HI.out.e15 (hall 15 (by decide))
            obtain rfl := HI.out.e16 (hall 16 (by decide))
            obtain rfl := HI.out.e17 (hall 17 (by decide))
            obtain rfl := HI.out.e18 (hall 18 (by decide))
            obtain rfl := HI.out.e19 (hall 19 (by decide))
            obtain rfl := HI.out.e20 (hall 20 (by decide))
            obtain rfl := HI.out.e21 (hall 21 (by decide))
            obtain rfl := HI.out.e22 (hall 22 (by decide))
            obtain rfl := HI.out.e23 (hall 23 (by decide))
            obtain rfl := HI.out.e24 (hall 24 (by decide))
            obtain rfl := HI.out.e25 (hall 25 (by decide))
            obtain rfl := HI.out.e26 (hall 26 (by decide))
            obtain rfl := HI.out.e27 (hall 27 (by decide))
            obtain rfl := HI.out.e28 (hall 28 (by decide))
            obtain rfl := HI.out.e29 (hall 29 (by decide))
            obtain rfl := HI.out.e30 (hall 30 (by decide))
            obtain rfl := HI.out.e31 (hall 31 (by decide))
            have hw := HI.out.x0
            have HW9 : Hid _ := hw
            clear hw HI hall
            dsimp only
            go_wp2
            go_roundw
            case rel =>
              refine ⟨k + 1, by omega, by go_num, D ++ Silo.tNext p x, ?_, ?_, HR.out.2.trans' HW9.out⟩
              · rw [Silo.tNext, HY.out.1, HY.out.2.2.1, ← List.append_assoc, ← S_append, ← S_append]
              · obtain ⟨d, h1, h2⟩ := HR.out.1
                refine ⟨d ++ Silo.tNext p x, by rw [h1]; simp, ?_⟩
                rw [h2, Silo.told_stepA hlt HP.out.1 (by rw [HX.out.1]; exact HP.out.2.1), HX.out.1, List.append_assoc]
            case measure => simp [intOf]; omega
          case r6step =>
            rintro listed a' w' i o ho hi hd hdep hcl ⟨u41, u42, u43, u44, u45, u46, u47, u48, u49, u50, u51, u52, u53, u54, u55, u56, u57, u58, u59, u60, u61, u62, u63, u64, u65, u66, u67, u68, u69, u70, u71, u7, rfl, HI⟩ K hK
            match i, ho with
            | 0, ho =>
              cases ho
              have q31 : done listed 31 = false := nd hcl (j := 31) rfl ⟨0, .phase⟩ (by simp) rfl hd
              obtain rfl := HI.out.k7 q31
              go_simp
              refine hK _ _ ⟨_, _, _, _, _, _, _, _, _, _, _, _, _, _, _, _, _, _, _, _, _, _, _, _, _, _, _, _, _, _, _, _, rfl, ?_⟩
              exact HI.out.s0 HI.out.x0
            | 1, ho =>
              cases ho
              go_simp
              refine hK _ _ ⟨_, _, _, _, _, _, _, _, _, _, _, _, _, _, _, _, _, _, _, _, _, _, _, _, _, _, _, _, _, _, _, _, rfl, ?_⟩
              exact HI.out.s1 HI.out.x0
            | 2, ho =>
              cases ho
              go_simp
              refine hK _ _ ⟨_, _, _, _, _, _, _, _, _, _, _, _, _, _, _, _, _, _, _, _, _, _, _, _, _, _, _, _, _, _, _, _, rfl, ?_⟩
              exact HI.out.s2 HI.out.x0
            | 3, ho =>
              cases ho
              have d1 := hdep ⟨1, .data⟩ (by simp) rfl
              obtain rfl := HI.out.e1 d1
              have d2 := hdep ⟨2, .data⟩ (by simp) rfl
              obtain rfl := HI.out.e2 d2
              go_simp
              refine hK _ _ ⟨_, _, _, _, _, _, _, _, _, _, _, _, _, _, _, _, _, _, _, _, _, _, _, _, _, _, _, _, _, _, _, _, rfl, ?_⟩
              exact HI.out.s3 HI.out.x0
            | 4, ho =>
              cases ho
              have d3 := hdep ⟨3, .data⟩ (by simp) rfl
              obtain rfl := HI.out.e3 d3
              go_simp
              refine hK _ _ ⟨_, _, _, _, _, _, _, _, _, _, _, _, _, _, _, _, _, _, _, _, _, _, _, _, _, _, _, _, _, _, _, _, rfl, ?_⟩
              exact HI.out.s4 HI.out.x0
            | 5, ho =>
              cases ho
              have d4 := hdep ⟨4, .data⟩ (by simp) rfl
              obtain rfl := HI.out.e4 d4
              have hw := HI.out.x0
              obtain ⟨q1, q2, q3, q4⟩ := HCW.out _ hw
              go_simp
              refine hK _ _ ⟨_, _, _, _, _, _, _, _, _, _, _, _, _, _, _, _, _, _, _, _, _, _, _, _, _, _, _, _, _, _, _, _, rfl, ?_⟩
              exact HI.out.s5 HI.out.x0
            | 6, ho =>
              cases ho
              have d5 := hdep ⟨5, .data⟩ (by simp) rfl
              obtain rfl := HI.out.e5 d5
              go_simp
              refine hK _ _ ⟨_, _, _, _, _, _, _, _, _, _, _, _, _, _, _, _, _, _, _, _, _, _, _, _, _, _, _, _, _, _, _, _, rfl, ?_⟩
              exact HI.out.s6 HI.out.x0
            | 7, ho =>
              cases ho
              go_simp
              refine hK _ _ ⟨_, _, _, _, _, _, _, _, _, _, _, _, _, _, _, _, _, _, _, _, _, _, _, _, _, _, _, _, _, _, _, _, rfl, ?_⟩
              exact HI.out.s7 HI.out.x0
            | 8, ho =>
              cases ho
              go_simp
              refine hK _ _ ⟨_, _, _, _, _, _, _, _, _, _, _, _, _, _, _, _, _, _, _, _, _, _, _, _, _, _, _, _, _, _, _, _, rfl, ?_⟩
              exact HI.out.s8 HI.out.x0
            | 9, ho =>
              cases ho
              have d8 := hdep ⟨8, .data⟩ (by simp) rfl
              obtain rfl := HI.out.e8 d8
              go_simp
              refine hK _ _ ⟨_, _, _, _, _, _, _, _, _, _, _, _, _, _, _, _, _, _, _, _, _, _, _, _, _, _, _, _, _, _, _, _, rfl, ?_⟩
              exact HI.out.s9 HI.out.x0
            | 10, ho =>
              cases ho
              have d7 := hdep ⟨7, .data⟩ (by simp) rfl
              obtain rfl := HI.out.e7 d7
              have d9 := hdep ⟨9, .data⟩ (by simp) rfl
              obtain rfl := HI.out.e9 d9
              go_simp
              refine hK _ _ ⟨_, _, _, _, _, _, _, _, _, _, _, _, _, _, _, _, _, _, _, _, _, _, _, _, _, _, _, _, _, _, _, _, rfl, ?_⟩
              exact HI.out.s10 HI.out.x0
            | 11, ho =>
              cases ho
              have d10 := hdep ⟨10, .data⟩ (by simp) rfl
              obtain rfl := HI.out.e10 d10
              go_simp
              refine hK _ _ ⟨_, _, _, _, _, _, _, _, _, _, _, _, _, _, _, _, _, _, _, _, _, _, _, _, _, _, _, _, _, _, _, _, rfl, ?_⟩
              exact HI.out.s11 HI.out.x0
            | 12, ho =>
              cases ho
              have d11 := hdep ⟨11, .data⟩ (by simp) rfl
              obtain rfl := HI.out.e11 d11
              have hw := HI.out.x0
              obtain ⟨q1, q2, q3, q4⟩ := HCW.out _ hw
              go_simp
              refine hK _ _ ⟨_, _, _, _, _, _, _, _, _, _, _, _, _, _, _, _, _, _, _, _, _, _, _, _, _, _, _, _, _, _, _, _, rfl, ?_⟩
              exact HI.out.s12 HI.out.x0
            | 13, ho =>
              cases ho
              have d12 := hdep ⟨12, .data⟩ (by simp) rfl
              obtain rfl := HI.out.e12 d12
              go_simp
              refine hK _ _ ⟨_, _, _, _, _, _, _, _, _, _, _, _, _, _, _, _, _, _, _, _, _, _, _, _, _, _, _, _, _, _, _, _, rfl, ?_⟩
              exact HI.out.s13 HI.out.x0
            | 14, ho =>
              cases ho
              have d6 := hdep ⟨6, .data⟩ (by simp) rfl
              obtain rfl := HI.out.e6 d6
              have d13 := hdep ⟨13, .data⟩ (by simp) rfl
              obtain rfl := HI.out.e13 d13
              go_simp
              refine hK _ _ ⟨_, _, _, _, _, _, _, _, _, _, _, _, _, _, _, _, _, _, _, _, _, _, _, _, _, _, _, _, _, _, _, _, rfl, ?_⟩
              exact HI.out.s14 HI.out.x0
            | 15, ho =>
              cases ho
              have d14 := hdep ⟨14, .data⟩ (by simp) rfl
              obtain rfl := HI.out.e14 d14
              have hw := HI.out.x0
              go_simp
              refine (RefCode_any y1 _ HY.out.2.1).mono ?_
              rintro e w5 ⟨rfl, h5⟩
              have hS5 := hw.trans' h5
              refine hK _ _ ⟨_, _, _, _, _, _, _, _, _, _, _, _, _, _, _, _, _, _, _, _, _, _, _, _, _, _, _, _, _, _, _, _, rfl, ?_⟩
              exact HI.out.s15 hS5
            | 16, ho =>
              cases ho
              have d0 := hdep ⟨0, .data⟩ (by simp) rfl
              obtain rfl := HI.out.e0 d0
              have d15 := hdep ⟨15, .data⟩ (by simp) rfl
              obtain rfl := HI.out.e15 d15
              go_simp
              refine hK _ _ ⟨_, _, _, _, _, _, _, _, _, _, _, _, _, _, _, _, _, _, _, _, _, _, _, _, _, _, _, _, _, _, _, _, rfl, ?_⟩
              exact HI.out.s16 HI.out.x0
            | 17, ho =>
              cases ho
              go_simp
              refine hK _ _ ⟨_, _, _, _, _, _, _, _, _, _, _, _, _, _, _, _, _, _, _, _, _, _, _, _, _, _, _, _, _, _, _, _, rfl, ?_⟩
              exact HI.out.s17 HI.out.x0
            | 18, ho =>
              cases ho
              go_simp
              refine hK _ _ ⟨_, _, _, _, _, _, _, _, _, _, _, _, _, _, _, _, _, _, _, _, _, _, _, _, _, _, _, _, _, _, _, _, rfl, ?_⟩
              exact HI.out.s18 HI.out.x0
            | 19, ho =>
              cases ho
              have d17 := hdep ⟨17, .data⟩ (by simp) rfl
              obtain rfl := HI.out.e17 d17
              have d18 := hdep ⟨18, .data⟩ (by simp) rfl
              obtain rfl := HI.out.e18 d18
              go_simp
              refine hK _ _ ⟨_, _, _, _, _, _, _, _, _, _, _, _, _, _, _, _, _, _, _, _, _, _, _, _, _, _, _, _, _, _, _, _, rfl, ?_⟩
              exact HI.out.s19 HI.out.x0
            | 20, ho =>
              cases ho
              have d19 := hdep ⟨19, .data⟩ (by simp) rfl
              obtain rfl := HI.out.e19 d19
              go_simp
              refine hK _ _ ⟨_, _, _, _, _, _, _, _, _, _, _, _, _, _, _, _, _, _, _, _, _, _, _, _, _, _, _, _, _, _, _, _, rfl, ?_⟩
              exact HI.out.s20 HI.out.x0
            | 21, ho =>
              cases ho
              have d20 := hdep ⟨20, .data⟩ (by simp) rfl
              obtain rfl := HI.out.e20 d20
              have hw := HI.out.x0
              obtain ⟨q1, q2, q3, q4⟩ := HCW.out _ hw
              go_simp
              refine hK _ _ ⟨_, _, _, _, _, _, _, _, _, _, _, _, _, _, _, _, _, _, _, _, _, _, _, _, _, _, _, _, _, _, _, _, rfl, ?_⟩
              exact HI.out.s21 HI.out.x0
            | 22, ho =>
              cases ho
              go_simp
              refine hK _ _ ⟨_, _, _, _, _, _, _, _, _, _, _, _, _, _, _, _, _, _, _, _, _, _, _, _, _, _, _, _, _, _, _, _, rfl, ?_⟩
              exact HI.out.s22 HI.out.x0
            | 23, ho =>
              cases ho
              go_simp
              refine hK _ _ ⟨_, _, _, _, _, _, _, _, _, _, _, _, _, _, _, _, _, _, _, _, _, _, _, _, _, _, _, _, _, _, _, _, rfl, ?_⟩
              exact HI.out.s23 HI.out.x0
            | 24, ho =>
              cases ho
              have d23 := hdep ⟨23, .data⟩ (by simp) rfl
              obtain rfl := HI.out.e23 d23
              go_simp
              refine hK _ _ ⟨_, _, _, _, _, _, _, _, _, _, _, _, _, _, _, _, _, _, _, _, _, _, _, _, _, _, _, _, _, _, _, _, rfl, ?_⟩
              exact HI.out.s24 HI.out.x0
            | 25, ho =>
              cases ho
              have d22 := hdep ⟨22, .data⟩ (by simp) rfl
              obtain rfl := HI.out.e22 d22
              have d24 := hdep ⟨24, .data⟩ (by simp) rfl
              obtain rfl := HI.out.e24 d24
              go_simp
              refine hK _ _ ⟨_, _, _, _, _, _, _, _, _, _, _, _, _, _, _, _, _, _, _, _, _, _, _, _, _, _, _, _, _, _, _, _, rfl, ?_⟩
              exact HI.out.s25 HI.out.x0
            | 26, ho =>
              cases ho
              have d25 := hdep ⟨25, .data⟩ (by simp) rfl
              obtain rfl := HI.out.e25 d25
              go_simp
              refine hK _ _ ⟨_, _, _, _, _, _, _, _, _, _, _, _, _, _, _, _, _, _, _, _, _, _, _, _, _, _, _, _, _, _, _, _, rfl, ?_⟩
              exact HI.out.s26 HI.out.x0
            | 27, ho =>
              cases ho
              have d26 := hdep ⟨26, .data⟩ (by simp) rfl
              obtain rfl := HI.out.e26 d26
              have hw := HI.out.x0
              obtain ⟨q1, q2, q3, q4⟩ := HCW.out _ hw
              go_simp
              refine hK _ _ ⟨_, _, _, _, _, _, _, _, _, _, _, _, _, _, _, _, _, _, _, _, _, _, _, _, _, _, _, _, _, _, _, _, rfl, ?_⟩
              exact HI.out.s27 HI.out.x0
            | 28, ho =>
              cases ho
              have d21 := hdep ⟨21, .data⟩ (by simp) rfl
              obtain rfl := HI.out.e21 d21
              have d27 := hdep ⟨27, .data⟩ (by simp) rfl
              obtain rfl := HI.out.e27 d27
              go_simp
              refine hK _ _ ⟨_, _, _, _, _, _, _, _, _, _, _, _, _, _, _, _, _, _, _, _, _, _, _, _, _, _, _, _, _, _, _, _, rfl, ?_⟩
              exact HI.out.s28 HI.out.x0
            | 29, ho =>
              cases ho
              have d28 := hdep ⟨28, .data⟩ (by simp) rfl
              obtain rfl := HI.out.e28 d28
              have hw := HI.out.x0
              go_simp
              refine (RefCode_any y2 _ HY.out.2.2.2).mono ?_
              rintro e w5 ⟨rfl, h5⟩
              have hS5 := hw.trans' h5
              refine hK _ _ ⟨_, _, _, _, _, _, _, _, _, _, _, _, _, _, _, _, _, _, _, _, _, _, _, _, _, _, _, _, _, _, _, _, rfl, ?_⟩
              exact HI.out.s29 hS5
            | 30, ho =>
              cases ho
              have d16 := hdep ⟨16, .data⟩ (by simp) rfl
              obtain rfl := HI.out.e16 d16
              have d29 := hdep ⟨29, .data⟩ (by simp) rfl
              obtain rfl := HI.out.e29 d29
              go_simp
              refine hK _ _ ⟨_, _, _, _, _, _, _, _, _, _, _, _, _, _, _, _, _, _, _, _, _, _, _, _, _, _, _, _, _, _, _, _, rfl, ?_⟩
              exact HI.out.s30 HI.out.x0
            | 31, ho =>
              cases ho
              have d30 := hdep ⟨30, .data⟩ (by simp) rfl
              obtain rfl := HI.out.e30 d30
              go_simp
              refine hK _ _ ⟨_, _, _, _, _, _, _, _, _, _, _, _, _, _, _, _, _, _, _, _, _, _, _, _, _, _, _, _, _, _, _, _, rfl, ?_⟩
              exact HI.out.s31 hi HI.out.x0
        | false =>
          have HSB : Hid _ := hsb
          clear hsb
          go_wp2_with fail
          go_loopw [9, 10] (fun nv iv wr => ∃ i : Nat, k ≤ i ∧ i ≤ l.length ∧ iv = .int .i64 i ∧ nv = .int .i64 ((i - k : Nat) : Int) ∧ Hid ((∀ q (hq : q < l.length), k ≤ q → q < i → l[q].s = x.s) ∧ Fp (fun _ => False) wz wr)) (fun _ iv _ => l.length - (intOf iv).toNat)
          case atStart => exact ⟨k, by omega, by omega, rfl, by simp, fun q _ h1 h2 => by omega, HFW.out⟩
          case round =>
            obtain ⟨i, hki, hil, rfl, rfl, HQ⟩ := hrel
            obtain ⟨n, hn⟩ : ∃ n, i - k = n := ⟨_, rfl⟩
            rw [hn]
            have HN : Hid _ := hn
            have hn9 : n ≤ 16777216 := by omega
            clear hn
            have hwr : ∀ w', Fp (fun _ => False) wz w' → b < w'.heap.size := fun w' h => Nat.lt_of_lt_of_le hbr h.size
            have e0 : wr.cell? ⟨b, off + k * 3, none⟩ = some (.int .i64 x.s) := by rw [HQ.out.2.cell (p := ⟨b, off + k * 3, none⟩) hbr (fun h => h)]; exact c0
            go_upto_region 9 with fail
            go_cut [89] from 73 to 93 (fun cv wx => cv = .bool (Silo.goesOn l i x) ∧ Hid (Fp (fun _ => False) wz wx))
            case first =>
              by_cases hi9 : i < l.length
              · obtain ⟨r0, r1, r2⟩ := HC.out i hi9
                have f0 : wr.cell? ⟨b, off + i * 3, none⟩ = some (.int .i64 (l[i]).s) := by rw [HQ.out.2.cell (p := ⟨b, off + i * 3, none⟩) hbr (fun h => h)]; exact r0
                obtain ⟨y, hy⟩ : ∃ y, l[i] = y := ⟨_, rfl⟩
                rw [hy] at f0
                have hgo : Silo.goesOn l i x = Silo.sameB (some y) x := by unfold Silo.goesOn; rw [List.getElem?_eq_getElem hi9, hy]
                have HG : Hid _ := hgo
                clear hy hgo r0 r1 r2
                have iN : (i : Int) < (l.length : Int) := by omega
                have iD : decide ((i : Int) < (l.length : Int)) = true := decide_eq_true iN
                by_cases hps : y.s = x.s
                · have t1 : (y.s == x.s) = true := by simpa using hps
                  have t2 : Hid (Silo.sameB (some y) x = true) := by show decide (y.s = x.s) = true; simpa using hps
                  clear hps
                  go_quiet (fail)
                  go_wp2
                  go_meet
                  exact ⟨by rw [HG.out, t2.out], HQ.out.2.trans' (Fp.drewN _ _ _)⟩
                · have t1 : (y.s == x.s) = false := by simpa using hps
                  have t2 : Hid (Silo.sameB (some y) x = false) := by show decide (y.s = x.s) = false; simpa using hps
                  clear hps
                  go_quiet (fail)
                  go_wp2
                  go_meet
                  exact ⟨by rw [HG.out, t2.out], HQ.out.2.trans' (Fp.drewN _ _ _)⟩
              · have hgo : Hid (Silo.goesOn l i x = false) := by show Silo.sameB l[i]? x = false; rw [List.getElem?_eq_none (by omega)]; rfl
                have iD : decide ((i : Int) < (l.length : Int)) = false := decide_eq_false (by omega)
                go_quiet (fail)
                go_wp2
                go_meet
                exact ⟨by rw [hgo.out], HQ.out.2.trans' (Fp.drewN _ _ _)⟩
            case rest =>
              obtain ⟨rfl, HF2⟩ := hcut
              cases hgo : Silo.goesOn l i x with
              | true =>
                have hi9 : i < l.length ∧ ∀ (h : i < l.length), l[i].s = x.s := by
                  unfold Silo.goesOn at hgo
                  by_cases h : i < l.length
                  · rw [List.getElem?_eq_getElem h] at hgo
                    exact ⟨h, fun _ => by simpa [Silo.sameB] using hgo⟩
                  · rw [List.getElem?_eq_none (by omega)] at hgo; cases hgo
                have HG : Hid _ := hi9
                have hi8 := hi9.1
                clear hgo hi9
                go_wp2
                go_roundw
                case rel =>
                  refine ⟨i + 1, by omega, by omega, by go_num, ?_, ?_, HF2.out⟩
                  · have := HN.out; congr 1; omega
                  · intro q hq h1 h2
                    by_cases e : q = i
                    · subst e; exact HG.out.2 hq
                    · exact HQ.out.1 q hq h1 (by omega)
                case measure => simp [intOf]; omega
              | false =>
                have hend : ∀ (h : i < l.length), l[i].s ≠ x.s := fun h => by
                  unfold Silo.goesOn at hgo
                  rw [List.getElem?_eq_getElem h] at hgo
                  simpa [Silo.sameB] using hgo
                have hrun : Silo.runLen x.s (x :: l.drop (k + 1)) = n := by
                  have h := Silo.runLen_at (l := l) (k := k) (i := i) hlt hki hil (fun q hq h1 h2 => by rw [HQ.out.1 q hq h1 h2, HX.out.1]) (fun hq => by rw [HX.out.1]; exact hend hq)
                  rw [HX.out.1] at h
                  rw [h, HN.out]
                clear hgo hend
                have hcw : ∀ w', Fp (fun _ => False) wz w' → w'.cell? ⟨b, off + k * 3, none⟩ = some (.int .i64 x.s) ∧ w'.cell? ⟨b, off + k * 3 + 1, none⟩ = some (.int .i64 x.t) ∧ w'.cell? ⟨b, off + k * 3 + 2, none⟩ = some (.int .u64 (x.v : Nat)) := fun w' h =>
                  ⟨by rw [h.cell (p := ⟨b, off + k * 3, none⟩) hbr (fun h => h)]; exact c0, by rw [h.cell (p := ⟨b, off + k * 3 + 1, none⟩) hbr (fun h => h)]; exact c1, by rw [h.cell (p := ⟨b, off + k * 3 + 2, none⟩) hbr (fun h => h)]; exact c2⟩
                have HCW : Hid _ := hcw
                clear hcw
                obtain ⟨y1, hy1⟩ : ∃ y1, (x.s + 1).toNat = y1 := ⟨_, rfl⟩
                have hx0 : 0 ≤ x.s := HX.out.2.1
                have hx1 : x.s < 16 := HX.out.2.2.1
                have hy9 : y1 < Silo.M64 := by unfold Silo.M64; omega
                have g1 : IntKind.u64.wrap (x.s + 1) = (y1 : Int) := by rw [IntKind.wrap_u64]; omega
                have g2 : IntKind.u64.wrap x.s = x.s := by rw [IntKind.wrap_u64]; omega
                have g3 : IntKind.u64.wrap (n : Int) = (n : Int) := by rw [IntKind.wrap_u64]; omega
                obtain ⟨y3, hy3⟩ : ∃ y3, Silo.zig x.t = y3 := ⟨_, rfl⟩
                have hy39 : y3 < Silo.M64 := by rw [← hy3]; exact Silo.zig_lt x.t HX.out.2.2.2.1.1 HX.out.2.2.2.1.2
                have hnM : n < Silo.M64 := by unfold Silo.M64; omega
                clear z1 z2
                have s1 := leb_size y1 hy9
                have s2 := leb_size n hnM
                have s3 := leb_size y3 hy39
                have s4 := leb_size x.v HX.out.2.2.2.2
                have z1 : ¬ 9223372036854775807 < (S D).size + (S (Silo.leb y1)).size := by omega
                have z2 : ¬ 9223372036854775807 < (S D).size + (S (Silo.leb y1)).size + (S (Silo.leb n)).size := by omega
                have z3 : ¬ 9223372036854775807 < (S D).size + (S (Silo.leb y1)).size + (S (Silo.leb n)).size + (S (Silo.leb y3)).size := by omega
                have z4 : ¬ 9223372036854775807 < (S D).size + (S (Silo.leb y1)).size + (S (Silo.leb n)).size + (S (Silo.leb y3)).size + (S (Silo.leb x.v)).size := by omega
                have HY : Hid _ := And.intro hy1 (And.intro hy9 (And.intro hnM (And.intro HX.out.2.2.2.1 (And.intro hy3 (And.intro hy39 HX.out.2.2.2.2)))))
                have HRN : Hid _ := hrun
                clear hy1 hy9 hnM hy3 hy39 hrun c0 c1 c2 e0 hwr
                go_wp2_with fail
                refine wp_region_inv (by kernel_rfl) (by kernel_rfl) (fun listed a' w' => ∃ u94 u95 u96 u97 u98 u99 u100 u101 u102 u103 u104 u105 u106 u107 u108 u109 u110 u111 u112 u113 u114 u115 u116 u117 u118 u119 u120 u121 u122 u7 : Value, a' = { tmps := #[.int .i64 ((lo : Nat) : Int), .int .i64 ((hi : Nat) : Int), .slice (some ⟨b, off, none⟩) l.length c, undef, undef, undef, .string { data := #[] }, u7, .int .i64 ((k : Nat) : Int), .int .i64 ((n : Nat) : Int), .int .i64 ((i : Nat) : Int), .int .i64 ((lo : Nat) : Int), .int .u64 ((lo : Nat) : Int), .string (S (Silo.leb lo)), .string ({ data := #[66] } ++ S (Silo.leb lo)), .int .i64 ((hi : Nat) : Int), .int .u64 ((hi : Nat) : Int), .string (S (Silo.leb hi)), .string ({ data := #[66] } ++ S (Silo.leb lo) ++ S (Silo.leb hi)), u19, u20, u21, u22, u23, u24, u25, u26, u27, u28, u29, u30, u31, u32, u33, u34, u35, u36, u37, u38, u39, .bool false, u41, u42, u43, u44, u45, u46, u47, u48, u49, u50, u51, u52, u53, u54, u55, u56, u57, u58, u59, u60, u61, u62, u63, u64, u65, u66, u67, u68, u69, u70, u71, .int .i64 ((k : Nat) : Int), u73, u74, u75, u76, u77, u78, u79, u80, u81, u82, u83, u84, u85, u86, u87, u88, .bool false, u90, u91, u92, u93, u94, u95, u96, u97, u98, u99, u100, u101, u102, u103, u104, u105, u106, u107, u108, u109, u110, u111, u112, u113, u114, u115, u116, u117, u118, u119, u120, u121, u122, undef, undef, undef], defers := [] } ∧ Hid (THead wz l b off c k n y1 y3 x D listed u94 u95 u96 u97 u98 u99 u100 u101 u102 u103 u104 u105 u106 u107 u108 u109 u110 u111 u112 u113 u114 u115 u116 u117 u118 u119 u120 u121 u122 u7 w')) ?r120 ?r12end ?r12step
                case r120 => exact ⟨_, _, _, _, _, _, _, _, _, _, _, _, _, _, _, _, _, _, _, _, _, _, _, _, _, _, _, _, _, _, rfl, THead.start (HF2.out.trans' (Fp.drew _ _))⟩
                case r12end =>
                  rintro listed a' w' hall ⟨u94, u95, u96, u97, u98, u99, u100, u101, u102, u103, u104, u105, u106, u107, u108, u109, u110, u111, u112, u113, u114, u115, u116, u117, u118, u119, u120, u121, u122, u7, rfl, HI⟩
                  obtain rfl := HI.out.e0 (hall 0 (by decide))
                  obtain rfl := HI.out.e1 (hall 1 (by decide))
                  obtain rfl := HI.out.e2 (hall 2 (by decide))
                  obtain rfl := HI.out.e3 (hall 3 (by decide))
                  obtain rfl := HI.out.e4 (hall 4 (by decide))
                  obtain rfl := HI.out.e5 (hall 5 (by decide))
                  obtain rfl := HI.out.e6 (hall 6 (by decide))
                  obtain rfl := HI.out.e7 (hall 7 (by decide))
                  obtain rfl := HI.out.e8 (hall 8 (by decide))
                  obtain rfl := HI.out.e9 (hall 9 (by decide))
                  obtain rfl := HI.out.e10 (hall 10 (by decide))
                  obtain rfl := HI.out.e11 (hall 11 (by decide))
                  obtain rfl := HI.out.e12 (hall 12 (by decide))
                  obtain rfl := HI.out.e13 (hall 13 (by decide))
                  obtain rfl := HI.out.e14 (hall 14 (by decide))
                  obtain rfl := HI.out.e15 (hall 15 (by decide))
                  obtain rfl := HI.out.e16 (hall 16 (by decide))
                  obtain rfl := HI.out.e17 (hall 17 (by decide))
                  obtain rfl := HI.out.e18 (hall 18 (by decide))
                  obtain rfl := HI.out.e19 (hall 19 (by decide))
                  obtain rfl := HI.out.e20 (hall 20 (by decide))
                  obtain rfl := HI.out.e21 (hall 21 (by decide))
                  obtain rfl := HI.out.e22 (hall 22 (by decide))
                  obtain rfl := HI.out.e23 (hall 23 (by decide))
                  obtain rfl := HI.out.e24 (hall 24 (by decide))
                  obtain rfl := HI.out.e25 (hall 25 (by decide))
                  obtain rfl := HI.out.e26 (hall 26 (by decide))
                  obtain rfl := HI.out.e27 (hall 27 (by decide))
                  obtain rfl := HI.out.e28 (hall 28 (by decide))
                  obtain rfl := HI.out.e29 (hall 29 (by decide))
                  have hw := HI.out.x0
                  have HW9 : Hid _ := hw
                  clear hw HI hall
                  dsimp only
                  go_wp2
                  go_roundw
                  case rel =>
                    refine ⟨k + 1, by omega, by go_num, D ++ Silo.tHead x (l.drop (k + 1)), ?_, ?_, HR.out.2.trans' HW9.out⟩
                    · rw [Silo.tHead, HRN.out, HY.out.1, HY.out.2.2.2.2.1, ← List.append_assoc, ← List.append_assoc, ← List.append_assoc, ← S_append, ← S_append, ← S_append, ← S_append]
                    · obtain ⟨d, h1, h2⟩ := HR.out.1
                      refine ⟨d ++ Silo.tHead x (l.drop (k + 1)), by rw [h1]; simp, ?_⟩
                      rw [h2, Silo.told_stepB hlt (by rw [HX.out.1]; exact HSB.out), HX.out.1, List.append_assoc]
                  case measure => simp [intOf]; omega
                case r12step =>
                  rintro listed a' w' i o ho hi hd hdep hcl ⟨u94, u95, u96, u97, u98, u99, u100, u101, u102, u103, u104, u105, u106, u107, u108, u109, u110, u111, u112, u113, u114, u115, u116, u117, u118, u119, u120, u121, u122, u7, rfl, HI⟩ K hK
                  match i, ho with
                  | 0, ho =>
                    cases ho
                    have q29 : done listed 29 = false := nd hcl (j := 29) rfl ⟨0, .phase⟩ (by simp) rfl hd
                    obtain rfl := HI.out.k7 q29
                    go_simp
                    refine hK _ _ ⟨_, _, _, _, _, _, _, _, _, _, _, _, _, _, _, _, _, _, _, _, _, _, _, _, _, _, _, _, _, _, rfl, ?_⟩
                    exact HI.out.s0 HI.out.x0
                  | 1, ho =>
                    cases ho
                    go_simp
                    refine hK _ _ ⟨_, _, _, _, _, _, _, _, _, _, _, _, _, _, _, _, _, _, _, _, _, _, _, _, _, _, _, _, _, _, rfl, ?_⟩
                    exact HI.out.s1 HI.out.x0
                  | 2, ho =>
                    cases ho
                    go_simp
                    refine hK _ _ ⟨_, _, _, _, _, _, _, _, _, _, _, _, _, _, _, _, _, _, _, _, _, _, _, _, _, _, _, _, _, _, rfl, ?_⟩
                    exact HI.out.s2 HI.out.x0
                  | 3, ho =>
                    cases ho
                    have d1 := hdep ⟨1, .data⟩ (by simp) rfl
                    obtain rfl := HI.out.e1 d1
                    have d2 := hdep ⟨2, .data⟩ (by simp) rfl
                    obtain rfl := HI.out.e2 d2
                    go_simp
                    refine hK _ _ ⟨_, _, _, _, _, _, _, _, _, _, _, _, _, _, _, _, _, _, _, _, _, _, _, _, _, _, _, _, _, _, rfl, ?_⟩
                    exact HI.out.s3 HI.out.x0
                  | 4, ho =>
                    cases ho
                    have d3 := hdep ⟨3, .data⟩ (by simp) rfl
                    obtain rfl := HI.out.e3 d3
                    go_simp
                    refine hK _ _ ⟨_, _, _, _, _, _, _, _, _, _, _, _, _, _, _, _, _, _, _, _, _, _, _, _, _, _, _, _, _, _, rfl, ?_⟩
                    exact HI.out.s4 HI.out.x0
                  | 5, ho =>
                    cases ho
                    have d4 := hdep ⟨4, .data⟩ (by simp) rfl
                    obtain rfl := HI.out.e4 d4
                    have hw := HI.out.x0
                    obtain ⟨q0, q1, q2⟩ := HCW.out _ hw
                    go_simp
                    refine hK _ _ ⟨_, _, _, _, _, _, _, _, _, _, _, _, _, _, _, _, _, _, _, _, _, _, _, _, _, _, _, _, _, _, rfl, ?_⟩
                    exact HI.out.s5 HI.out.x0
                  | 6, ho =>
                    cases ho
                    have d5 := hdep ⟨5, .data⟩ (by simp) rfl
                    obtain rfl := HI.out.e5 d5
                    go_simp
                    refine hK _ _ ⟨_, _, _, _, _, _, _, _, _, _, _, _, _, _, _, _, _, _, _, _, _, _, _, _, _, _, _, _, _, _, rfl, ?_⟩
                    exact HI.out.s6 HI.out.x0
                  | 7, ho =>
                    cases ho
                    have d6 := hdep ⟨6, .data⟩ (by simp) rfl
                    obtain rfl := HI.out.e6 d6
                    go_simp
                    refine hK _ _ ⟨_, _, _, _, _, _, _, _, _, _, _, _, _, _, _, _, _, _, _, _, _, _, _, _, _, _, _, _, _, _, rfl, ?_⟩
                    exact HI.out.s7 HI.out.x0
                  | 8, ho =>
                    cases ho
                    have d7 := hdep ⟨7, .data⟩ (by simp) rfl
                    obtain rfl := HI.out.e7 d7
                    have hw := HI.out.x0
                    go_simp
                    refine (RefCode_any y1 _ HY.out.2.1).mono ?_
                    rintro e w5 ⟨rfl, h5⟩
                    have hS5 := hw.trans' h5
                    refine hK _ _ ⟨_, _, _, _, _, _, _, _, _, _, _, _, _, _, _, _, _, _, _, _, _, _, _, _, _, _, _, _, _, _, rfl, ?_⟩
                    exact HI.out.s8 hS5
                  | 9, ho =>
                    cases ho
                    have d0 := hdep ⟨0, .data⟩ (by simp) rfl
                    obtain rfl := HI.out.e0 d0
                    have d8 := hdep ⟨8, .data⟩ (by simp) rfl
                    obtain rfl := HI.out.e8 d8
                    go_simp
                    refine hK _ _ ⟨_, _, _, _, _, _, _, _, _, _, _, _, _, _, _, _, _, _, _, _, _, _, _, _, _, _, _, _, _, _, rfl, ?_⟩
                    exact HI.out.s9 HI.out.x0
                  | 10, ho =>
                    cases ho
                    go_simp
                    refine hK _ _ ⟨_, _, _, _, _, _, _, _, _, _, _, _, _, _, _, _, _, _, _, _, _, _, _, _, _, _, _, _, _, _, rfl, ?_⟩
                    exact HI.out.s10 HI.out.x0
                  | 11, ho =>
                    cases ho
                    have d10 := hdep ⟨10, .data⟩ (by simp) rfl
                    obtain rfl := HI.out.e10 d10
                    go_simp
                    refine hK _ _ ⟨_, _, _, _, _, _, _, _, _, _, _, _, _, _, _, _, _, _, _, _, _, _, _, _, _, _, _, _, _, _, rfl, ?_⟩
                    exact HI.out.s11 HI.out.x0
                  | 12, ho =>
                    cases ho
                    have d11 := hdep ⟨11, .data⟩ (by simp) rfl
                    obtain rfl := HI.out.e11 d11
                    have hw := HI.out.x0
                    go_simp
                    refine (RefCode_any n _ HY.out.2.2.1).mono ?_
                    rintro e w5 ⟨rfl, h5⟩
                    have hS5 := hw.trans' h5
                    refine hK _ _ ⟨_, _, _, _, _, _, _, _, _, _, _, _, _, _, _, _, _, _, _, _, _, _, _, _, _, _, _, _, _, _, rfl, ?_⟩
                    exact HI.out.s12 hS5
                  | 13, ho =>
                    cases ho
                    have d9 := hdep ⟨9, .data⟩ (by simp) rfl
                    obtain rfl := HI.out.e9 d9
                    have d12 := hdep ⟨12, .data⟩ (by simp) rfl
                    obtain rfl := HI.out.e12 d12
                    go_simp
                    refine hK _ _ ⟨_, _, _, _, _, _, _, _, _, _, _, _, _, _, _, _, _, _, _, _, _, _, _, _, _, _, _, _, _, _, rfl, ?_⟩
                    exact HI.out.s13 HI.out.x0
                  | 14, ho =>
                    cases ho
                    go_simp
                    refine hK _ _ ⟨_, _, _, _, _, _, _, _, _, _, _, _, _, _, _, _, _, _, _, _, _, _, _, _, _, _, _, _, _, _, rfl, ?_⟩
                    exact HI.out.s14 HI.out.x0
                  | 15, ho =>
                    cases ho
                    go_simp
                    refine hK _ _ ⟨_, _, _, _, _, _, _, _, _, _, _, _, _, _, _, _, _, _, _, _, _, _, _, _, _, _, _, _, _, _, rfl, ?_⟩
                    exact HI.out.s15 HI.out.x0
                  | 16, ho =>
                    cases ho
                    have d14 := hdep ⟨14, .data⟩ (by simp) rfl
                    obtain rfl := HI.out.e14 d14
                    have d15 := hdep ⟨15, .data⟩ (by simp) rfl
                    obtain rfl := HI.out.e15 d15
                    go_simp
                    refine hK _ _ ⟨_, _, _, _, _, _, _, _, _, _, _, _, _, _, _, _, _, _, _, _, _, _, _, _, _, _, _, _, _, _, rfl, ?_⟩
                    exact HI.out.s16 HI.out.x0
                  | 17, ho =>
                    cases ho
                    have d16 := hdep ⟨16, .data⟩ (by simp) rfl
                    obtain rfl := HI.out.e16 d16
                    go_simp
                    refine hK _ _ ⟨_, _, _, _, _, _, _, _, _, _, _, _, _, _, _, _, _, _, _, _, _, _, _, _, _, _, _, _, _, _, rfl, ?_⟩
                    exact HI.out.s17 HI.out.x0
                  | 18, ho =>
                    cases ho
                    have d17 := hdep ⟨17, .data⟩ (by simp) rfl
                    obtain rfl := HI.out.e17 d17
                    have hw := HI.out.x0
                    obtain ⟨q0, q1, q2⟩ := HCW.out _ hw
                    go_simp
                    refine hK _ _ ⟨_, _, _, _, _, _, _, _, _, _, _, _, _, _, _, _, _, _, _, _, _, _, _, _, _, _, _, _, _, _, rfl, ?_⟩
                    exact HI.out.s18 HI.out.x0
                  | 19, ho =>
                    cases ho
                    have d18 := hdep ⟨18, .data⟩ (by simp) rfl
                    obtain rfl := HI.out.e18 d18
                    have hw := HI.out.x0
                    go_simp
                    refine (RefSigned_any x.t _ HY.out.2.2.2.1.1 HY.out.2.2.2.1.2).mono ?_
                    rintro e w5 ⟨rfl, rfl⟩
                    have hS5 := hw
                    rw [HY.out.2.2.2.2.1]
                    refine hK _ _ ⟨_, _, _, _, _, _, _, _, _, _, _, _, _, _, _, _, _, _, _, _, _, _, _, _, _, _, _, _, _, _, rfl, ?_⟩
                    exact HI.out.s19 hS5
                  | 20, ho =>
                    cases ho
                    have d19 := hdep ⟨19, .data⟩ (by simp) rfl
                    obtain rfl := HI.out.e19 d19
                    have hw := HI.out.x0
                    go_simp
                    refine (RefCode_any y3 _ HY.out.2.2.2.2.2.1).mono ?_
                    rintro e w5 ⟨rfl, h5⟩
                    have hS5 := hw.trans' h5
                    refine hK _ _ ⟨_, _, _, _, _, _, _, _, _, _, _, _, _, _, _, _, _, _, _, _, _, _, _, _, _, _, _, _, _, _, rfl, ?_⟩
                    exact HI.out.s20 hS5
                  | 21, ho =>
                    cases ho
                    have d13 := hdep ⟨13, .data⟩ (by simp) rfl
                    obtain rfl := HI.out.e13 d13
                    have d20 := hdep ⟨20, .data⟩ (by simp) rfl
                    obtain rfl := HI.out.e20 d20
                    go_simp
                    refine hK _ _ ⟨_, _, _, _, _, _, _, _, _, _, _, _, _, _, _, _, _, _, _, _, _, _, _, _, _, _, _, _, _, _, rfl, ?_⟩
                    exact HI.out.s21 HI.out.x0
                  | 22, ho =>
                    cases ho
                    go_simp
                    refine hK _ _ ⟨_, _, _, _, _, _, _, _, _, _, _, _, _, _, _, _, _, _, _, _, _, _, _, _, _, _, _, _, _, _, rfl, ?_⟩
                    exact HI.out.s22 HI.out.x0
                  | 23, ho =>
                    cases ho
                    go_simp
                    refine hK _ _ ⟨_, _, _, _, _, _, _, _, _, _, _, _, _, _, _, _, _, _, _, _, _, _, _, _, _, _, _, _, _, _, rfl, ?_⟩
                    exact HI.out.s23 HI.out.x0
                  | 24, ho =>
                    cases ho
                    have d22 := hdep ⟨22, .data⟩ (by simp) rfl
                    obtain rfl := HI.out.e22 d22
                    have d23 := hdep ⟨23, .data⟩ (by simp) rfl
                    obtain rfl := HI.out.e23 d23
                    go_simp
                    refine hK _ _ ⟨_, _, _, _, _, _, _, _, _, _, _, _, _, _, _, _, _, _, _, _, _, _, _, _, _, _, _, _, _, _, rfl, ?_⟩
                    exact HI.out.s24 HI.out.x0
                  | 25, ho =>
                    cases ho
                    have d24 := hdep ⟨24, .data⟩ (by simp) rfl
                    obtain rfl := HI.out.e24 d24
                    go_simp
                    refine hK _ _ ⟨_, _, _, _, _, _, _, _, _, _, _, _, _, _, _, _, _, _, _, _, _, _, _, _, _, _, _, _, _, _, rfl, ?_⟩
                    exact HI.out.s25 HI.out.x0
                  | 26, ho =>
                    cases ho
                    have d25 := hdep ⟨25, .data⟩ (by simp) rfl
                    obtain rfl := HI.out.e25 d25
                    have hw := HI.out.x0
                    obtain ⟨q0, q1, q2⟩ := HCW.out _ hw
                    go_simp
                    refine hK _ _ ⟨_, _, _, _, _, _, _, _, _, _, _, _, _, _, _, _, _, _, _, _, _, _, _, _, _, _, _, _, _, _, rfl, ?_⟩
                    exact HI.out.s26 HI.out.x0
                  | 27, ho =>
                    cases ho
                    have d26 := hdep ⟨26, .data⟩ (by simp) rfl
                    obtain rfl := HI.out.e26 d26
                    have hw := HI.out.x0
                    go_simp
                    refine (RefCode_any x.v _ HY.out.2.2.2.2.2.2).mono ?_
                    rintro e w5 ⟨rfl, h5⟩
                    have hS5 := hw.trans' h5
                    refine hK _ _ ⟨_, _, _, _, _, _, _, _, _, _, _, _, _, _, _, _, _, _, _, _, _, _, _, _, _, _, _, _, _, _, rfl, ?_⟩
                    exact HI.out.s27 hS5
                  | 28, ho =>
                    cases ho
                    have d21 := hdep ⟨21, .data⟩ (by simp) rfl
                    obtain rfl := HI.out.e21 d21
                    have d27 := hdep ⟨27, .data⟩ (by simp) rfl
                    obtain rfl := HI.out.e27 d27
                    go_simp
                    refine hK _ _ ⟨_, _, _, _, _, _, _, _, _, _, _, _, _, _, _, _, _, _, _, _, _, _, _, _, _, _, _, _, _, _, rfl, ?_⟩
                    exact HI.out.s28 HI.out.x0
                  | 29, ho =>
                    cases ho
                    have d28 := hdep ⟨28, .data⟩ (by simp) rfl
                    obtain rfl := HI.out.e28 d28
                    go_simp
                    refine hK _ _ ⟨_, _, _, _, _, _, _, _, _, _, _, _, _, _, _, _, _, _, _, _, _, _, _, _, _, _, _, _, _, _, rfl, ?_⟩
                    exact HI.out.s29 hi HI.out.x0
    · obtain rfl : k = l.length := by omega
      have hd : S D ++ S [0] = S (Silo.toldBody lo hi l) := by
        obtain ⟨d, h1, h2⟩ := HR.out.1
        rw [List.drop_length] at h2
        have h3 : Silo.toldFrom none l = d := by rw [h2]; cases Silo.lastOf l l.length <;> simp [Silo.toldFrom]
        rw [S_append, h1]
        unfold Silo.toldBody
        rw [h3]
        simp
      have hlen : (Silo.toldBody lo hi l).length ≤ 1099511627776 := by
        have h4 := Silo.leb_len lo H.out.2.2.2.1
        have h5 := Silo.leb_len hi H.out.2.2.2.2
        have h3 := H.out.2.2.1
        unfold Silo.toldBody
        simp only [List.length_append, List.length_cons, List.length_nil]
        omega
      have hds : (S D).size + 1 = (Silo.toldBody lo hi l).length := by
        have := congrArg ByteArray.size hd
        rw [ByteArray.size_append] at this
        exact this
      have HD : Hid _ := And.intro hd hlen
      have hds9 : (S D).size ≤ 1099511627776 := by omega
      clear hd hlen hds
      go_wp2_with fail
      rw [show S D ++ { data := #[0] } = S (Silo.toldBody lo hi l) from HD.out.1]
      refine (RefSealed_any _ wr HD.out.2).mono ?_
      rintro e w3 ⟨rfl, h3⟩
      have H3 : Hid _ := h3
      clear h3
      go_wp2
      go_ret
      exact ⟨ret_val (by simp), HR.out.2.trans' H3.out⟩

end Go.Proofs.Ytojjkjfcbfoinaa
