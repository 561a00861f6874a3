/- siloref.Read: the code that stands at a place. -/
import Derived.Test.YteoboonapcjadaaRefCode
import Derived.Test.YteoboonapcjadaaPure9
namespace Go.Proofs.Yteoboonapcjadaa
open Go.RowKit

/-- What Read answers at i, where the code is or is not. -/
def readRes (i : Nat) : Option (Nat × List UInt8) → Value
  | some (n, _) => .tuple #[.int .u64 (n : Nat), .int .i64 ((i + (Silo.leb n).length : Nat) : Int)]
  | none => .tuple #[.int .u64 0, .int .i64 (-1)]

theorem acc_step (x k : Nat) (b : UInt8) (bs : List UInt8) (hx : x = Silo.valB bs % Silo.M64) (hk : bs.length = k) :
    IntKind.u64.wrap ((x : Int) + IntKind.u64.wrap ((b.toNat : Int) % 128 * 2 ^ (7 * k))) = ((Silo.valB (bs ++ [b]) % Silo.M64 : Nat) : Int) := by
  have e : (b.toNat : Int) % 128 * 2 ^ (7 * k) = ((b.toNat % 128 * 128 ^ k : Nat) : Int) := by
    rw [Int.natCast_mul, Int.natCast_emod, Int.natCast_pow, Int.pow_mul]
    rfl
  rw [e, Silo.valB_snoc, hk, Nat.mul_comm (128 ^ k), hx, IntKind.wrap_u64, IntKind.wrap_u64]
  generalize b.toNat % 128 * 128 ^ k = c
  generalize Silo.valB bs = d
  unfold Silo.M64
  omega

theorem take_next (l : List UInt8) (i k : Nat) (h : i + k < l.length) : (l.drop i).take (k + 1) = (l.drop i).take k ++ [l[i + k]] := by
  rw [List.take_succ_eq_append_getElem (by simp; omega)]
  simp

theorem S_extract (s : ByteArray) (a b : Nat) : s.extract a b = S ((s.data.toList.drop a).take (b - a)) := by
  apply ByteArray.ext
  apply Array.toList_inj.1
  rw [S_toList]
  simp [ByteArray.data_extract, Array.toList_extract, List.extract_eq_take_drop]

set_option maxHeartbeats 2000000 in
set_option maxRecDepth 100000 in
theorem RefRead_any (l : List UInt8) (i : Nat) (w : World) (hi : i ≤ l.length) (hl : l.length ≤ 1099511627776) :
    Calls Try.prog 28 #[.string (S l), .int .i64 i] w fun e w' => e = .returned (readRes i (Silo.rdCode (l.drop i))) ∧ Fp (fun _ => False) w w' := by
  have hs : (S l).size = l.length := rfl
  go_enter Try.func28, Try.ntmps28
  go_wp2_with fail
  go_loop [6, 7] (fun v kv => ∃ k : Nat, k ≤ 10 ∧ i + k ≤ l.length ∧ kv = .int .i64 k ∧ ∃ x : Nat, v = .int .u64 x ∧ x < 18446744073709551616 ∧ Hid (x = Silo.valB ((l.drop i).take k) % Silo.M64 ∧ ∀ y ∈ (l.drop i).take k, 128 ≤ y.toNat)) (fun _ kv => 10 - (intOf kv).toNat)
  case atStart => exact ⟨0, by omega, by omega, rfl, 0, rfl, by omega, rfl, by simp⟩
  case round =>
    obtain ⟨k, hk, hik, rfl, x, rfl, hx, HR⟩ := hrel
    by_cases hk10 : k < 10
    · by_cases hlt : i + k < l.length
      · have hb : (S l)[i + k]'(by rw [hs]; exact hlt) = l[i + k] := rfl
        have hst := acc_step x k l[i + k] _ HR.out.1 (by simp; omega)
        rw [← take_next l i k hlt] at hst
        obtain ⟨y, hy⟩ : ∃ y, Silo.valB ((l.drop i).take (k + 1)) % Silo.M64 = y := ⟨_, rfl⟩
        rw [hy] at hst
        have hy9 : y < Silo.M64 := by rw [← hy]; exact Nat.mod_lt _ Silo.M64_pos
        have HY : Hid _ := And.intro hy hy9
        have HST : Hid _ := hst
        unfold Silo.M64 at hy9
        clear hy hst
        by_cases h128 : (l[i + k]).toNat < 128
        · go_wp2_with fail
          simp only [HST.out]
          refine (RefCode_any y w HY.out.2).mono ?_
          rintro e w2 ⟨rfl, h2⟩
          have H2 : Hid _ := h2
          clear h2
          have hsz := leb_size y HY.out.2
          have hrd := Silo.rd_end (l := l.drop i) (bs := (l.drop i).take k) (b := l[i + k]) (r := (l.drop i).drop (k + 1)) (by rw [List.append_cons, ← take_next l i k hlt, List.take_append_drop]) HR.out.2 h128
          rw [← take_next l i k hlt, HY.out.1] at hrd
          have hex : ((S l).extract i (i + k + 1)).toList = (l.drop i).take (k + 1) := by
            rw [S_extract, bytes_toList, S_toList, S_toList]
            congr 1; omega
          by_cases heq : (l.drop i).take (k + 1) = Silo.leb y
          · have hc : (((S l).extract i (i + k + 1)).toList == (S (Silo.leb y)).toList) = true := by
              rw [hex, bytes_toList, S_toList, heq]; simp
            rw [if_pos heq] at hrd
            have hle : k + 1 = (Silo.leb y).length := by rw [← heq]; simp; omega
            have HRD : Hid _ := And.intro hrd hle
            clear hrd hex heq hle
            go_wp2
            go_ret2
            exact ⟨ret_val (by rw [HRD.out.1]; simp [readRes, ← HRD.out.2]; omega), H2.out⟩
          · have hc : (((S l).extract i (i + k + 1)).toList == (S (Silo.leb y)).toList) = false := by
              rw [hex, bytes_toList, S_toList]; simpa using heq
            rw [if_neg heq] at hrd
            have HRD : Hid _ := hrd
            clear hrd hex heq
            go_wp2
            go_ret2
            exact ⟨ret_val (by rw [HRD.out]; simp [readRes]), H2.out⟩
        · go_wp2_with fail
          go_round
          case rel => 
            refine ⟨k + 1, by omega, by omega, by go_num, y, by rw [HST.out], hy9, HY.out.1.symm, ?_⟩
            rw [take_next l i k hlt]
            intro z hz
            rcases List.mem_append.1 hz with hz | hz
            · exact HR.out.2 z hz
            · simp only [List.mem_singleton] at hz
              rw [hz]; omega
          case measure => simp [intOf]; omega
      · have : (l.drop i).take k = l.drop i := List.take_of_length_le (by simp; omega)
        have hn : Silo.rdCode (l.drop i) = none := Silo.rd_long (bs := (l.drop i).take k) (r := []) (by rw [this]; simp) HR.out.2 (.inl rfl)
        have HN : Hid _ := hn
        clear hn this
        go_wp2
        go_ret2
        exact ⟨ret_val (by rw [HN.out]; simp [readRes]), Fp.refl _ _⟩
    · obtain rfl : k = 10 := by omega
      have hn : Silo.rdCode (l.drop i) = none := Silo.rd_long (bs := (l.drop i).take 10) (r := (l.drop i).drop 10) (by rw [List.take_append_drop]) HR.out.2 (.inr (by simp; omega))
      have HN : Hid _ := hn
      clear hn
      go_wp2
      go_ret2
      exact ⟨ret_val (by rw [HN.out]; simp [readRes]), Fp.refl _ _⟩

end Go.Proofs.Yteoboonapcjadaa
