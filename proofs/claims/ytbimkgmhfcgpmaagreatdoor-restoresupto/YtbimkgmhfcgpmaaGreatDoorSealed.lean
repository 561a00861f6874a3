/- What is sealed and unsealed; prefixes. -/
import Derived.Test.YtbimkgmhfcgpmaaGreatDoorRdOne
import Derived.Test.YtbimkgmhfcgpmaaGreatDoorPureOne
import Derived.Deep.RegionWith
import Derived.Deep.DrawnRows
namespace Go.Proofs.YtbimkgmhfcgpmaaGreatDoor
open Go.RowKit
attribute [local go_sem ↓] Go.wp_at_zero Go.wp_at_succ

theorem S_append (a b : List UInt8) : S a ++ S b = S (a ++ b) := by
  apply ByteArray.ext
  apply Array.toList_inj.1
  simp [S_toList, ByteArray.data_append]

theorem bytes_toList (s : ByteArray) : s.toList = s.data.toList := ByteArray.toList_eq s

theorem S_take (s : ByteArray) (k : Nat) : s.extract 0 k = S (s.data.toList.take k) := by
  apply ByteArray.ext
  apply Array.toList_inj.1
  rw [S_toList]
  simp [ByteArray.data_extract, Array.toList_extract, List.extract_eq_take_drop]

def isB : List UInt8 → Bool
  | b :: _ => b == 66
  | [] => false

set_option maxHeartbeats 400000 in
theorem HasPrefix_any (l : List UInt8) (w : World) (hl : l.length ≤ 1099511627776) :
    Calls Tryz.prog 75 #[.string (S l), .string { data := #[66] }] w fun e w' => e = .returned (.bool (isB l)) ∧ w' = w := by
  have hs : (S l).size ≤ 1099511627776 := hl
  cases l with
  | nil =>
    have h0 : (S []).size = 0 := rfl
    go_enter Tryz.func75, Tryz.ntmps75
    go_wp2
    go_ret
    exact ⟨ret_val (by simp [isB]), rfl⟩
  | cons b l =>
    have h1 : 1 ≤ (S (b :: l)).size := by rw [S_size]; simp
    go_enter Tryz.func75, Tryz.ntmps75
    go_wp2
    go_ret
    exact ⟨ret_val (by simp [isB, S_take, bytes_toList, S_toList]), rfl⟩

/-- The text behind the mark, and whether there is one. -/
def cutB (l : List UInt8) : List UInt8 := if isB l then l.tail else l

set_option maxHeartbeats 400000 in
theorem LiteCutPrefix_any (l : List UInt8) (w : World) (hl : l.length ≤ 1099511627776) :
    Calls Tryz.prog 59 #[.string (S l), .string { data := #[66] }] w fun e w' => e = .returned (.tuple #[.string (S (cutB l)), .bool (isB l)]) ∧ w' = w := by
  have hs : (S l).size ≤ 1099511627776 := hl
  cases hb : isB l with
  | false =>
    have HB : Hid _ := hb
    clear hb
    go_enter Tryz.func59, Tryz.ntmps59
    go_wp2_with fail
    refine (HasPrefix_any l w hl).mono ?_
    rintro e w1 ⟨rfl, rfl⟩
    rw [HB.out]
    go_wp2
    go_ret2
    exact ⟨ret_val (by simp [cutB, HB.out]), rfl⟩
  | true =>
    have HB : Hid _ := hb
    have h1 : 1 ≤ (S l).size := by
      cases l with
      | nil => cases hb
      | cons b l => rw [S_size]; simp
    clear hb
    go_enter Tryz.func59, Tryz.ntmps59
    go_wp2_with fail
    refine (HasPrefix_any l w hl).mono ?_
    rintro e w1 ⟨rfl, rfl⟩
    rw [HB.out]
    go_wp2
    go_ret2
    exact ⟨ret_val (by simp [cutB, HB.out, S_drop, S_toList]), rfl⟩

set_option maxHeartbeats 400000 in
theorem CutPrefix_any (l : List UInt8) (w : World) (hl : l.length ≤ 1099511627776) :
    Calls Tryz.prog 42 #[.string (S l), .string { data := #[66] }] w fun e w' => e = .returned (.tuple #[.string (S (cutB l)), .bool (isB l)]) ∧ w' = w := by
  go_enter Tryz.func42, Tryz.ntmps42
  go_wp2_with fail
  refine (LiteCutPrefix_any l w hl).mono ?_
  rintro e w1 ⟨rfl, rfl⟩
  go_wp2
  go_ret2
  exact ⟨ret_val (by simp), rfl⟩

/-- What is sealed in a text: its data; whether the hash is right. -/
def isSealed (l : List UInt8) : Bool := decide (8 ≤ l.length) && (Silo.be8 (Silo.fnv (l.take (l.length - 8))) == l.drop (l.length - 8))

def sealedData (l : List UInt8) : List UInt8 := if isSealed l then l.take (l.length - 8) else []

set_option maxHeartbeats 4000000 in
theorem Unsealed_any (l : List UInt8) (w : World) (hl : l.length ≤ 1099511627776) :
    Calls Tryz.prog 41 #[.string (S l)] w fun e w' => e = .returned (.tuple #[.string (S (sealedData l)), .bool (isSealed l)]) ∧ Fp (fun _ => False) w w' := by
  have hs : (S l).size ≤ 1099511627776 := hl
  by_cases h8 : 8 ≤ l.length
  · have h8' : 8 ≤ (S l).size := h8
    have i1 : (8 : Int) ≤ ((S l).size : Int) := by omega
    have i2 : ((S l).size : Int) - 8 ≤ ((S l).size : Int) := by omega
    have i3 : (0 : Int) ≤ ((S l).size : Int) - 8 := by omega
    go_enter Tryz.func41, Tryz.ntmps41
    have hsz : Hid (((S l).extract 0 ((S l).size - 8)).size ≤ maxLen) := by
      show _ ≤ _
      rw [S_take, S_size, S_toList]
      refine Nat.le_trans (List.length_take_le' _ _) (Nat.le_trans hl (by decide))
    have ht : Hid ((S l).extract 0 ((S l).size - 8) = S (l.take (l.length - 8))) := by rw [S_take]; exact rfl
    have hd : Hid ((S l).extract ((((S l).size : Nat) : Int) - 8).toNat (S l).size = S (l.drop (l.length - 8))) := by
      have e : ((((S l).size : Nat) : Int) - 8).toNat = l.length - 8 := by rw [S_size]; omega
      rw [e, S_drop]; exact rfl
    go_wp2_with fail
    go_region_with (first | (go_at_call 51; refine (Hash_any _ _ hsz.out).mono ?_; rintro e w1 ⟨rfl, rfl⟩) | (go_at_call 50; refine (HashBytes_any _ _ (Silo.fnv_lt _)).mono ?_; rintro e w2 ⟨rfl, h2⟩; have H2 : Hid _ := h2; clear h2))
    all_goals
      rw [ht.out, hd.out]
      simp only [S_toList, bytes_toList, S_size]
      by_cases hq : Silo.be8 (Silo.fnv (l.take (l.length - 8))) = l.drop (l.length - 8)
      · have hq' : (Silo.be8 (Silo.fnv (l.take (l.length - 8))) == l.drop (l.length - 8)) = true := by simpa using hq
        have HQ : Hid _ := hq'
        rw [hq']
        clear hq hq'
        go_wp2
        go_ret2
        exact ⟨ret_val (by simp [sealedData, isSealed, HQ.out, h8]), (Fp.drew _ w).trans' H2.out⟩
      · have hq' : (Silo.be8 (Silo.fnv (l.take (l.length - 8))) == l.drop (l.length - 8)) = false := by simpa using hq
        have HQ : Hid _ := hq'
        rw [hq']
        clear hq hq'
        go_wp2
        go_ret2
        exact ⟨ret_val (by simp [sealedData, isSealed, HQ.out]; rfl), (Fp.drew _ w).trans' H2.out⟩
  · have h8' : ¬ 8 ≤ (S l).size := h8
    go_enter Tryz.func41, Tryz.ntmps41
    go_wp2
    go_ret2
    exact ⟨ret_val (by simp [sealedData, isSealed, h8]; rfl), Fp.refl _ _⟩

end Go.Proofs.YtbimkgmhfcgpmaaGreatDoor
