/- Append, RefLeaf, RefWide, RefCode, RefRead, in one text. -/
import Derived.Test.YtbimkgmhfcgpmaaGreatDoorFoot
import Derived.Test.YtbimkgmhfcgpmaaGreatDoorPureOne
import Derived.RangeFuncBox
import Derived.Test.YtbimkgmhfcgpmaaGreatDoorSealed
import Derived.Test.YtbimkgmhfcgpmaaGreatDoorRdOne
import Derived.Deep.RegionHeld

/- codes.Append's contract: the code of n behind what is in the row. -/
namespace Go.Proofs.YtbimkgmhfcgpmaaGreatDoor
open Go.RowKit

theorem lo128 (n : Nat) (h : n < 128) : (n : Int) = ((UInt8.ofNat n).toNat : Int) := by
  rw [UInt8.toNat_ofNat', Nat.mod_eq_of_lt (by omega)]

theorem cell_new' (w : World) (x : Value) (t : TypeId) : (w.alloc (.cells #[x] t)).cell? ((⟨w.heap.size, 0, none⟩ : Addr).add 0) = some x := by
  simp [Addr.add]

end Go.Proofs.YtbimkgmhfcgpmaaGreatDoor

/- siloref's leaves: hash, signs, wide numbers, seals. -/
namespace Go.Proofs.YtbimkgmhfcgpmaaGreatDoor
open Go.RowKit

set_option maxHeartbeats 400000 in
theorem RefSigned_any (n : Int) (w : World) (h0 : -9223372036854775808 ≤ n) (h1 : n ≤ 9223372036854775807) :
    Calls Tryz.prog 74 #[.int .i64 n] w fun e w' => e = .returned (.int .u64 (Silo.zig n : Nat)) ∧ w' = w := by
  by_cases h : 0 ≤ n
  · go_enter Tryz.func74, Tryz.ntmps74
    go_wp2
    go_ret
    exact ⟨ret_int (by unfold Silo.zig; rw [if_pos h]; simp; omega), rfl⟩
  · go_enter Tryz.func74, Tryz.ntmps74
    go_wp2
    go_ret
    exact ⟨ret_int (by unfold Silo.zig; rw [if_neg (by omega)]; simp; omega), rfl⟩

set_option maxHeartbeats 400000 in
theorem RefUnsigned_any (n : Nat) (w : World) (hn : n < Silo.M64) :
    Calls Tryz.prog 57 #[.int .u64 n] w fun e w' => e = .returned (.int .i64 (Silo.zag n)) ∧ w' = w := by
  unfold Silo.M64 at hn
  by_cases h : n % 2 = 0
  · go_enter Tryz.func57, Tryz.ntmps57
    go_wp2
    go_ret
    exact ⟨ret_int (by unfold Silo.zag; rw [if_pos h]; simp), rfl⟩
  · go_enter Tryz.func57, Tryz.ntmps57
    go_wp2
    go_ret
    exact ⟨ret_int (by unfold Silo.zag; rw [if_neg h]; simp), rfl⟩

set_option maxHeartbeats 400000 in
theorem RefHash_any (s : ByteArray) (w : World) (hs : s.size ≤ maxLen) :
    Calls Tryz.prog 8 #[.string s] w fun e w' => e = .returned (.int .u64 (Silo.fnv s.data.toList : Nat)) ∧ w' = w := by
  unfold maxLen at hs
  go_enter Tryz.func8, Tryz.ntmps8
  go_wp2
  go_loop [3, 4] (fun h i => ∃ k : Nat, k ≤ s.size ∧ i = .int .i64 k ∧ h = .int .u64 (Silo.fnv (s.data.toList.take k) : Nat)) (fun _ i => s.size - (intOf i).toNat)
  case atStart => exact ⟨0, Nat.zero_le _, rfl, rfl⟩
  case round =>
    obtain ⟨k, hk, rfl, rfl⟩ := hrel
    by_cases hlt : k < s.size
    · have HX : Hid (Silo.fnv (s.data.toList.take (k + 1)) = Silo.fnvStep (Silo.fnv (s.data.toList.take k)) s[k]) := by
        rw [take_snoc s k hlt, Silo.fnv_snoc]; exact rfl
      have hr : Hid (Silo.fnv (s.data.toList.take k) < Silo.M64) := Silo.fnv_lt _
      generalize Silo.fnv (s.data.toList.take k) = x at *
      go_wp2
      go_round
      case rel => exact ⟨k + 1, by omega, by go_num, by rw [HX.out, fnv_step _ _ hr.out]⟩
      case measure => simp [intOf]; omega
    · go_wp2
      go_ret
      exact ⟨ret_int (by rw [List.take_of_length_le (by simp; omega)]), rfl⟩

end Go.Proofs.YtbimkgmhfcgpmaaGreatDoor

/- siloref's wide numbers and seals. -/
namespace Silo

/-- The lowest k bytes of a number, the highest of them first. -/
def wideTo (n : Nat) : Nat → List UInt8
  | 0 => []
  | k + 1 => UInt8.ofNat (n / 256 ^ k % 256) :: wideTo n k

theorem wideTo_length (n : Nat) : ∀ k, (wideTo n k).length = k
  | 0 => rfl
  | k + 1 => by simp [wideTo, wideTo_length n k]

theorem ofNat_mod (n : Nat) : UInt8.ofNat (n % 256) = UInt8.ofNat n := by
  apply UInt8.toNat_inj.1
  simp

theorem wideTo_be8 (n : Nat) (_h : n < M64) : wideTo n 8 = be8 n := by
  simp only [wideTo, be8, ofNat_mod]
  simp

end Silo
namespace Go.Proofs.YtbimkgmhfcgpmaaGreatDoor
open Go.RowKit

theorem conv_one (u : World) (t : TypeId) (x : Int) : (convert 57 9 (.slice (some ⟨u.heap.size, 0, none⟩) 1 1)).run Tryz.prog (u.alloc (.cells #[.int .u8 (x % 256)] t)) =
    .ok (.string (S [UInt8.ofNat (x % 256).toNat])) (u.alloc (.cells #[.int .u8 (x % 256)] t)) := by
  refine conv_bytes _ _ 1 [UInt8.ofNat (x % 256).toNat] ?_
  intro i hi
  rw [cell_lit]
  have hi1 : i < 1 := hi
  match i, hi1 with
  | 0, _ => simp only [List.getElem_cons_zero, byte_of]; simp; omega

theorem S_one (x : UInt8) : (S [x]).size = 1 := rfl

set_option maxHeartbeats 1000000 in
theorem RefWide_any (n : Nat) (w : World) (hn : n < Silo.M64) :
    Calls Tryz.prog 7 #[.int .u64 n] w fun e w' => e = .returned (.string (S (Silo.be8 n))) ∧ Fp (fun _ => False) w w' := by
  have hcv := conv_one
  have hs1 := S_one
  go_enter Tryz.func7, Tryz.ntmps7
  go_wp2
  go_loopw [0, 3, 4] (fun v s i wr => ∃ k : Nat, k ≤ 8 ∧ i = .int .i64 k ∧ v = .int .u64 (n / 256 ^ k : Nat) ∧ s = .string (S (Silo.wideTo n k)) ∧ Hid (Fp (fun _ => False) w wr)) (fun _ _ i _ => 8 - (intOf i).toNat)
  case atStart => exact ⟨0, by omega, rfl, by simp, rfl, Fp.refl _ _⟩
  case round =>
    obtain ⟨k, hk, rfl, rfl, rfl, HF⟩ := hrel
    have hsz : (S (Silo.wideTo n k)).size = k := Silo.wideTo_length n k
    have HE : Hid (Silo.wideTo n (k + 1) = UInt8.ofNat (n / 256 ^ k % 256) :: Silo.wideTo n k ∧ n / 256 ^ (k + 1) = n / 256 ^ k / 256) := ⟨rfl, by rw [Nat.pow_succ, Nat.div_div_eq_div_mul]⟩
    have HM : Hid (n / 256 ^ k < Silo.M64) := Nat.lt_of_le_of_lt (Nat.div_le_self _ _) hn
    by_cases hlt : k < 8
    · generalize n / 256 ^ k = m at *
      go_wp2
      go_roundw
      case rel =>
        refine ⟨k + 1, by omega, by go_num, by have h9 := HM.out; unfold Silo.M64 at h9; rw [HE.out.2]; simp; rw [IntKind.wrap_u64]; omega, ?_, HF.out.trans' (Fp.alloc _ _ _)⟩
        rw [HE.out.1, ← List.singleton_append, ← S_append]
        congr 3
      case measure => simp [intOf]; omega
    · obtain rfl : k = 8 := by omega
      go_wp2
      go_ret
      exact ⟨ret_val (by rw [Silo.wideTo_be8 n hn]; simp), HF.out⟩

set_option maxHeartbeats 400000 in
theorem RefSealed_any (l : List UInt8) (w : World) (hl : l.length ≤ 1099511627776) :
    Calls Tryz.prog 12 #[.string (S l)] w fun e w' => e = .returned (.string (S (Silo.sealed l))) ∧ Fp (fun _ => False) w w' := by
  have hs : (S l).size ≤ 1099511627776 := hl
  have h8 : (S (Silo.be8 (Silo.fnv l))).size = 8 := rfl
  go_enter Tryz.func12, Tryz.ntmps12
  go_wp2_with fail
  refine (RefHash_any (S l) w (Nat.le_trans hl (by decide))).mono ?_
  rintro e w1 ⟨rfl, rfl⟩
  rw [S_toList]
  go_wp2_with fail
  refine (RefWide_any _ _ (Silo.fnv_lt _)).mono ?_
  rintro e w2 ⟨rfl, h2⟩
  have H2 : Hid _ := h2
  clear h2
  go_wp2
  go_ret
  exact ⟨ret_val (by rw [Silo.sealed, ← S_append]; simp), H2.out⟩

end Go.Proofs.YtbimkgmhfcgpmaaGreatDoor

/- siloref's code of a number. -/
namespace Go.Proofs.YtbimkgmhfcgpmaaGreatDoor
open Go.RowKit

theorem conv_cell (u : World) (g : Nat) (x : Int) (b : UInt8) (hc : u.cell? ⟨g, 0, none⟩ = some (.int .u8 x)) (hx : x = (b.toNat : Nat)) :
    (convert 57 9 (.slice (some ⟨g, 0, none⟩) 1 1)).run Tryz.prog u = .ok (.string (S [b])) u := by
  refine conv_bytes u g 1 [b] ?_
  intro i hi
  have hi1 : i < 1 := hi
  match i, hi1 with
  | 0, _ => rw [hc, hx]; rfl

theorem conv_after {w w2 : World} {x : Int} {b : UInt8} {t : TypeId} (h : Fp (fun _ => False) (w.alloc (.cells #[.int .u8 x] t)).drew w2) (hx : x = (b.toNat : Nat)) :
    (convert 57 9 (.slice (some ⟨w.heap.size, 0, none⟩) 1 1)).run Tryz.prog w2 = .ok (.string (S [b])) w2 := by
  refine conv_cell _ _ x b ?_ hx
  have hlt : w.heap.size < (w.alloc (.cells #[.int .u8 x] t)).drew.heap.size := by show w.heap.size < (w.alloc (.cells #[.int .u8 x] t)).heap.size; simp
  rw [h.cell (p := ⟨w.heap.size, 0, none⟩) hlt (fun z => z)]
  exact cell_lit w _ _ 0

theorem hi_byte (n : Nat) : 128 + (n : Int) % 128 = ((UInt8.ofNat (n % 128 + 128)).toNat : Nat) := by
  rw [UInt8.toNat_ofNat']; omega

theorem leb_size (n : Nat) (h : n < Silo.M64) : (S (Silo.leb n)).size ≤ 10 := Silo.leb_len n h

set_option maxHeartbeats 2000000 in
set_option maxRecDepth 100000 in
theorem RefCode_any (n : Nat) : ∀ (w : World), n < Silo.M64 →
    Calls Tryz.prog 9 #[.int .u64 n] w fun e w' => e = .returned (.string (S (Silo.leb n))) ∧ Fp (fun _ => False) w w' := by
  induction n using Nat.strongRecOn with
  | _ n ih =>
    intro w hn
    have hs1 := S_one
    by_cases h : n < 128
    · have hcv : ∀ (u : World) (t : TypeId), (convert 57 9 (.slice (some ⟨u.heap.size, 0, none⟩) 1 1)).run Tryz.prog (u.alloc (.cells #[.int .u8 (n : Int)] t)) = .ok (.string (S [UInt8.ofNat n])) (u.alloc (.cells #[.int .u8 (n : Int)] t)) := fun u t =>
        conv_cell _ _ _ _ (cell_lit _ _ _ 0) (lo128 n h)
      go_enter Tryz.func9, Tryz.ntmps9
      go_wp2
      go_ret
      exact ⟨ret_val (by rw [Silo.leb_lo n h]; simp), Fp.alloc _ _ _⟩
    · obtain ⟨bb, hbb⟩ : ∃ bb, bb = UInt8.ofNat (n % 128 + 128) := ⟨_, rfl⟩
      have hb : 128 + (n : Int) % 128 = (bb.toNat : Nat) := by rw [hbb]; exact hi_byte n
      have HB : Hid _ := And.intro hbb hb
      clear hbb
      have hcv : ∀ (u : World) (t : TypeId), (convert 57 9 (.slice (some ⟨u.heap.size, 0, none⟩) 1 1)).run Tryz.prog (u.alloc (.cells #[.int .u8 (128 + (n : Int) % 128)] t)) = .ok (.string (S [bb])) (u.alloc (.cells #[.int .u8 (128 + (n : Int) % 128)] t)) := fun u t =>
        conv_cell _ _ _ _ (cell_lit _ _ _ 0) hb
      have hd : n / 128 < Silo.M64 := Nat.lt_of_le_of_lt (Nat.div_le_self _ _) hn
      have hIH : ∀ u : World, Calls Tryz.prog 9 #[.int .u64 ((n : Int) / 128)] u fun e w' => e = .returned (.string (S (Silo.leb (n / 128)))) ∧ Fp (fun _ => False) u w' := fun u => by
        have := ih (n / 128) (by omega) u hd
        rwa [Int.natCast_ediv] at this
      have HI : Hid _ := hIH
      have hsz := leb_size (n / 128) hd
      clear ih hd hIH
      unfold Silo.M64 at hn
      have hcw : ∀ t : TypeId, (convert 57 9 (.slice (some ⟨w.heap.size, 0, none⟩) 1 1)).run Tryz.prog (w.alloc (.cells #[.int .u8 (128 + (n : Int) % 128)] t)).drew = .ok (.string (S [bb])) (w.alloc (.cells #[.int .u8 (128 + (n : Int) % 128)] t)).drew := fun t =>
        conv_cell _ _ _ _ (cell_lit w _ _ 0) hb
      clear hb
      have f1 : (n : Int).tmod 128 = (n : Int) % 128 := Int.tmod_eq_emod_of_nonneg (by omega)
      have f2 : IntKind.u64.wrap (128 + (n : Int) % 128) = 128 + (n : Int) % 128 := by rw [IntKind.wrap_u64]; omega
      have f3 : IntKind.u8.wrap (128 + (n : Int) % 128) = 128 + (n : Int) % 128 := by rw [IntKind.wrap_u8]; omega
      have f4 : IntKind.u64.wrap ((n : Int) / 128) = (n : Int) / 128 := by rw [IntKind.wrap_u64]; omega
      go_enter Tryz.func9, Tryz.ntmps9
      go_wp2_with fail
      go_region_with (go_at_call 9; refine (HI.out _).mono ?_; rintro e w2 ⟨rfl, h2⟩; first | (have hx := conv_after h2 HB.out.2; have H2 : Hid _ := h2; clear h2) | (have H2 : Hid _ := h2; clear h2))
      all_goals go_wp2
      all_goals go_ret
      all_goals have hsum : S (Silo.leb n) = S [bb] ++ S (Silo.leb (n / 128)) := by rw [Silo.leb_hi n h, HB.out.1, S_append]; rfl
      all_goals refine ⟨ret_val ?_, ?_⟩
      all_goals first
        | (rw [hsum]; simp [Act.put]; done)
        | exact ((Fp.alloc _ _ _).trans' (Fp.drew _ _)).trans' H2.out
        | exact (Fp.drew _ _).trans' (H2.out.trans' (Fp.alloc _ _ _))

end Go.Proofs.YtbimkgmhfcgpmaaGreatDoor

/- siloref.Read: the code that stands at a place. -/
namespace Go.Proofs.YtbimkgmhfcgpmaaGreatDoor
open Go.RowKit

/-- What Read answers at i, where the code is or is not. -/
def readRes (i : Nat) : Option (Nat × List UInt8) → Value
  | some (n, _) => .tuple #[.int .u64 (n : Nat), .int .i64 ((i + (Silo.leb n).length : Nat) : Int)]
  | none => .tuple #[.int .u64 0, .int .i64 (-1)]

theorem acc_step (x k : Nat) (b : UInt8) (bs : List UInt8) (hx : x = Silo.valB bs % Silo.M64) (hk : bs.length = k) :
    IntKind.u64.wrap ((x : Int) + IntKind.u64.wrap ((b.toNat : Int) % 128 * 2 ^ (7 * k))) = ((Silo.valB (bs ++ [b]) % Silo.M64 : Nat) : Int) := by
  have e : (b.toNat : Int) % 128 * 2 ^ (7 * k) = ((b.toNat % 128 * 128 ^ k : Nat) : Int) := by
    rw [Int.natCast_mul, Int.natCast_emod, Int.natCast_pow, Int.pow_mul]
    rfl
  rw [e, Silo.valB_snoc, hk, Nat.mul_comm (128 ^ k), hx, IntKind.wrap_u64, IntKind.wrap_u64]
  generalize b.toNat % 128 * 128 ^ k = c
  generalize Silo.valB bs = d
  unfold Silo.M64
  omega

theorem take_next (l : List UInt8) (i k : Nat) (h : i + k < l.length) : (l.drop i).take (k + 1) = (l.drop i).take k ++ [l[i + k]] := by
  rw [List.take_succ_eq_append_getElem (by simp; omega)]
  simp

theorem S_extract (s : ByteArray) (a b : Nat) : s.extract a b = S ((s.data.toList.drop a).take (b - a)) := by
  apply ByteArray.ext
  apply Array.toList_inj.1
  rw [S_toList]
  simp [ByteArray.data_extract, Array.toList_extract, List.extract_eq_take_drop]

set_option maxHeartbeats 2000000 in
set_option maxRecDepth 100000 in
theorem RefRead_any (l : List UInt8) (i : Nat) (w : World) (hi : i ≤ l.length) (hl : l.length ≤ 1099511627776) :
    Calls Tryz.prog 56 #[.string (S l), .int .i64 i] w fun e w' => e = .returned (readRes i (Silo.rdCode (l.drop i))) ∧ Fp (fun _ => False) w w' := by
  have hs : (S l).size = l.length := rfl
  go_enter Tryz.func56, Tryz.ntmps56
  go_wp2_with fail
  go_loop [6, 7] (fun v kv => ∃ k : Nat, k ≤ 10 ∧ i + k ≤ l.length ∧ kv = .int .i64 k ∧ ∃ x : Nat, v = .int .u64 x ∧ x < 18446744073709551616 ∧ Hid (x = Silo.valB ((l.drop i).take k) % Silo.M64 ∧ ∀ y ∈ (l.drop i).take k, 128 ≤ y.toNat)) (fun _ kv => 10 - (intOf kv).toNat)
  case atStart => exact ⟨0, by omega, by omega, rfl, 0, rfl, by omega, rfl, by simp⟩
  case round =>
    obtain ⟨k, hk, hik, rfl, x, rfl, hx, HR⟩ := hrel
    by_cases hk10 : k < 10
    · by_cases hlt : i + k < l.length
      · have hb : (S l)[i + k]'(by rw [hs]; exact hlt) = l[i + k] := rfl
        have hst := acc_step x k l[i + k] _ HR.out.1 (by simp; omega)
        rw [← take_next l i k hlt] at hst
        obtain ⟨y, hy⟩ : ∃ y, Silo.valB ((l.drop i).take (k + 1)) % Silo.M64 = y := ⟨_, rfl⟩
        rw [hy] at hst
        have hy9 : y < Silo.M64 := by rw [← hy]; exact Nat.mod_lt _ Silo.M64_pos
        have HY : Hid _ := And.intro hy hy9
        have HST : Hid _ := hst
        unfold Silo.M64 at hy9
        clear hy hst
        by_cases h128 : (l[i + k]).toNat < 128
        · go_wp2_with fail
          simp only [HST.out]
          refine (RefCode_any y w HY.out.2).mono ?_
          rintro e w2 ⟨rfl, h2⟩
          have H2 : Hid _ := h2
          clear h2
          have hsz := leb_size y HY.out.2
          have hrd := Silo.rd_end (l := l.drop i) (bs := (l.drop i).take k) (b := l[i + k]) (r := (l.drop i).drop (k + 1)) (by rw [List.append_cons, ← take_next l i k hlt, List.take_append_drop]) HR.out.2 h128
          rw [← take_next l i k hlt, HY.out.1] at hrd
          have hex : ((S l).extract i (i + k + 1)).toList = (l.drop i).take (k + 1) := by
            rw [S_extract, bytes_toList, S_toList, S_toList]
            congr 1; omega
          by_cases heq : (l.drop i).take (k + 1) = Silo.leb y
          · have hc : (((S l).extract i (i + k + 1)).toList == (S (Silo.leb y)).toList) = true := by
              rw [hex, bytes_toList, S_toList, heq]; simp
            rw [if_pos heq] at hrd
            have hle : k + 1 = (Silo.leb y).length := by rw [← heq]; simp; omega
            have HRD : Hid _ := And.intro hrd hle
            clear hrd hex heq hle
            go_wp2
            go_ret2
            exact ⟨ret_val (by rw [HRD.out.1]; simp [readRes, ← HRD.out.2]; omega), H2.out⟩
          · have hc : (((S l).extract i (i + k + 1)).toList == (S (Silo.leb y)).toList) = false := by
              rw [hex, bytes_toList, S_toList]; simpa using heq
            rw [if_neg heq] at hrd
            have HRD : Hid _ := hrd
            clear hrd hex heq
            go_wp2
            go_ret2
            exact ⟨ret_val (by rw [HRD.out]; simp [readRes]), H2.out⟩
        · go_wp2_with fail
          go_round
          case rel => 
            refine ⟨k + 1, by omega, by omega, by go_num, y, by rw [HST.out], hy9, HY.out.1.symm, ?_⟩
            rw [take_next l i k hlt]
            intro z hz
            rcases List.mem_append.1 hz with hz | hz
            · exact HR.out.2 z hz
            · simp only [List.mem_singleton] at hz
              rw [hz]; omega
          case measure => simp [intOf]; omega
      · have : (l.drop i).take k = l.drop i := List.take_of_length_le (by simp; omega)
        have hn : Silo.rdCode (l.drop i) = none := Silo.rd_long (bs := (l.drop i).take k) (r := []) (by rw [this]; simp) HR.out.2 (.inl rfl)
        have HN : Hid _ := hn
        clear hn this
        go_wp2
        go_ret2
        exact ⟨ret_val (by rw [HN.out]; simp [readRes]), Fp.refl _ _⟩
    · obtain rfl : k = 10 := by omega
      have hn : Silo.rdCode (l.drop i) = none := Silo.rd_long (bs := (l.drop i).take 10) (r := (l.drop i).drop 10) (by rw [List.take_append_drop]) HR.out.2 (.inr (by simp; omega))
      have HN : Hid _ := hn
      clear hn
      go_wp2
      go_ret2
      exact ⟨ret_val (by rw [HN.out]; simp [readRes]), Fp.refl _ _⟩

end Go.Proofs.YtbimkgmhfcgpmaaGreatDoor
