/- siloref.Name, (Line).Fits, part. -/
import Derived.Test.YtbimkgmhfcgpmaaGreatDoorRefLin
import Derived.Test.YtbimkgmhfcgpmaaGreatDoorAidOne
namespace Silo
open Go.Lib

/-- A part of an archive: its bytes, and what is behind it. -/
def partR (l : List UInt8) : Option (List UInt8 × List UInt8) :=
  match rdCode l with
  | some (n, r) => if n ≤ r.length then some (r.take n, r.drop n) else none
  | none => none

/-- A line speaks of this file. -/
def Ln.fits (l : Ln) (file : List UInt8) : Bool := decide (file.length = l.size) && decide (fnv file = l.hash)

end Silo
namespace Go.Proofs.YtbimkgmhfcgpmaaGreatDoor
open Go.RowKit

theorem decS_size (n : Nat) (h : n ≤ 9223372036854775807) : (S (Lib.decDigits n)).size ≤ 20 := dec_len20 n (by omega)

set_option maxHeartbeats 1000000 in
theorem RefName_any (lo hi : Nat) (w : World) (h1 : lo ≤ 9223372036854775807) (h2 : hi ≤ 9223372036854775807) :
    Calls Tryz.prog 26 #[.int .i64 lo, .int .i64 hi] w fun e w' => e = .returned (.string (S (Silo.nameOf lo hi))) ∧ Fp (fun _ => False) w w' := by
  have s1 := decS_size lo h1
  have s2 := decS_size hi h2
  go_enter Tryz.func26, Tryz.ntmps26
  go_wp2_with fail
  refine (Refdecimal_any lo w h1).mono ?_
  rintro e w1 ⟨rfl, hf1⟩
  have H1 : Hid _ := hf1
  clear hf1
  have c1 : (⟨#[98]⟩ : ByteArray) ++ S (Lib.decDigits lo) = S (98 :: Lib.decDigits lo) := S_append [98] _
  have z1 : (S (98 :: Lib.decDigits lo)).size = (S (Lib.decDigits lo)).size + 1 := rfl
  have c2 : S (98 :: Lib.decDigits lo) ++ (⟨#[46]⟩ : ByteArray) = S (98 :: (Lib.decDigits lo ++ [46])) := S_append _ [46]
  have z2 : (S (98 :: (Lib.decDigits lo ++ [46]))).size = (S (Lib.decDigits lo)).size + 2 := by
    show (98 :: (Lib.decDigits lo ++ [46])).length = (Lib.decDigits lo).length + 2
    simp
  go_wp2_with fail
  refine (Refdecimal_any hi w1 h2).mono ?_
  rintro e w2 ⟨rfl, hf2⟩
  have H2 : Hid _ := hf2
  clear hf2
  go_wp2
  go_ret
  refine ⟨ret_val ?_, H1.out.trans' H2.out⟩
  have : Silo.nameOf lo hi = 98 :: (Lib.decDigits lo ++ [46]) ++ Lib.decDigits hi := by simp [Silo.nameOf]
  rw [this, ← S_append]
  simp

/-- A line as a value. -/
def lnV (l : Silo.Ln) : Value := .agg #[.int .i64 (l.lo : Nat), .int .i64 (l.hi : Nat), .int .i64 (l.size : Nat), .int .u64 (l.hash : Nat), .string (S (l.text ++ [10]))]

set_option maxHeartbeats 1000000 in
theorem RefLineFits_any (l : Silo.Ln) (file : List UInt8) (w : World) (hf : file.length ≤ 1099511627776) :
    Calls Tryz.prog 38 #[lnV l, .string (S file)] w fun e w' => e = .returned (.bool (l.fits file)) ∧ Fp (fun _ => False) w w' := by
  have hs : (S file).size = file.length := rfl
  unfold Silo.Ln.fits lnV
  go_enter Tryz.func38, Tryz.ntmps38
  go_wp2_with fail
  refine (RefHash_any (S file) _ (by rw [hs]; unfold maxLen; omega)).mono ?_
  rintro e w1 ⟨rfl, rfl⟩
  rw [S_toList]
  cases q1 : ((file.length : Int) == ((l.size : Nat) : Int))
  · have e1 : decide (file.length = l.size) = false := decide_eq_false (fun h => by rw [h] at q1; simp at q1)
    go_wp2
    go_ret
    exact ⟨ret_val (by rw [e1]; simp), Fp.alloc _ _ _⟩
  · have e1 : decide (file.length = l.size) = true := decide_eq_true (by simpa using Int.ofNat.inj (eq_of_beq q1))
    cases q2 : (((Silo.fnv file : Nat) : Int) == ((l.hash : Nat) : Int))
    · have e2 : decide (Silo.fnv file = l.hash) = false := decide_eq_false (fun h => by rw [h] at q2; simp at q2)
      go_wp2
      go_ret
      exact ⟨ret_val (by rw [e1, e2]; simp), Fp.alloc _ _ _⟩
    · have e2 : decide (Silo.fnv file = l.hash) = true := decide_eq_true (by simpa using Int.ofNat.inj (eq_of_beq q2))
      go_wp2
      go_ret
      exact ⟨ret_val (by rw [e1, e2]; simp), Fp.alloc _ _ _⟩

/-- What part answers. -/
def partRes (s : List UInt8) : Option (List UInt8 × List UInt8) → Value
  | some (p, r) => .tuple #[.string (S p), .int .i64 ((s.length - r.length : Nat) : Int)]
  | none => .tuple #[.string (S []), .int .i64 (-1)]

theorem partR_none {l : List UInt8} (h : Silo.rdCode l = none) : Silo.partR l = none := by unfold Silo.partR; rw [h]

theorem partR_some {l r : List UInt8} {n : Nat} (h : Silo.rdCode l = some (n, r)) : Silo.partR l = if n ≤ r.length then some (r.take n, r.drop n) else none := by unfold Silo.partR; rw [h]

set_option maxHeartbeats 1000000 in
theorem Refpart_any (s : List UInt8) (i : Nat) (w : World) (hi : i ≤ s.length) (hl : s.length ≤ 1099511627776) :
    Calls Tryz.prog 37 #[.string (S s), .int .i64 i] w fun e w' => e = .returned (partRes s (Silo.partR (s.drop i))) ∧ Fp (fun _ => False) w w' := by
  have hs : (S s).size = s.length := rfl
  go_enter Tryz.func37, Tryz.ntmps37
  go_wp2_with fail
  refine (RefRead_any s i w hi hl).mono ?_
  rintro e w1 ⟨rfl, h1⟩
  have H1 : Hid _ := h1
  clear h1
  cases hc : Silo.rdCode (s.drop i) with
  | none =>
    have HN : Hid _ := partR_none hc
    unfold readRes
    clear hc
    go_wp2
    refine bodyPost_ret (v := .tuple #[.string (S []), .int .i64 (-1)]) (by simp [results, Tryz.results37, go_sem]; rfl) rfl ⟨by rw [HN.out]; rfl, H1.out⟩
  | some q =>
    obtain ⟨n, r⟩ := q
    obtain ⟨e1, e2, e3, e4⟩ := Silo.drop_code hc
    have HP : Hid _ := partR_some hc
    unfold readRes
    obtain ⟨k, hk⟩ : ∃ k, i + (Silo.leb n).length = k := ⟨_, rfl⟩
    simp only [hk]
    rw [hk] at e1 e2
    have hrl : r.length = s.length - k := by rw [← e1]; simp
    have HR : Hid _ := And.intro e1 hrl
    unfold Silo.M64 at e3
    clear hc hk e1 hrl e4
    have qk : decide (((k : Nat) : Int) < 0) = false := decide_eq_false (by omega)
    have fl : IntKind.u64.wrap ((s.length : Nat) : Int) = ((s.length : Nat) : Int) := by rw [IntKind.wrap_u64]; omega
    by_cases hn : s.length < n
    · have qn : decide (((s.length : Nat) : Int) < ((n : Nat) : Int)) = true := decide_eq_true (by omega)
      have HN : Hid (Silo.partR (s.drop i) = none) := by
        show _ = _
        rw [HP.out, if_neg]
        have := HR.out.2
        omega
      go_wp2
      refine bodyPost_ret (v := .tuple #[.string (S []), .int .i64 (-1)]) (by simp [results, Tryz.results37, go_sem]; rfl) rfl ⟨by rw [HN.out]; rfl, H1.out⟩
    · have qn : decide (((s.length : Nat) : Int) < ((n : Nat) : Int)) = false := decide_eq_false (by omega)
      have fn : IntKind.i64.wrap ((n : Nat) : Int) = ((n : Nat) : Int) := by rw [IntKind.wrap_i64]; omega
      by_cases hkn : s.length < k + n
      · have qkn : decide (((s.length : Nat) : Int) < ((k : Nat) : Int) + ((n : Nat) : Int)) = true := decide_eq_true (by omega)
        have HN : Hid (Silo.partR (s.drop i) = none) := by
          show _ = _
          rw [HP.out, if_neg]
          have := HR.out.2
          omega
        go_wp2
        refine bodyPost_ret (v := .tuple #[.string (S []), .int .i64 (-1)]) (by simp [results, Tryz.results37, go_sem]; rfl) rfl ⟨by rw [HN.out]; rfl, H1.out⟩
      · have qkn : decide (((s.length : Nat) : Int) < ((k : Nat) : Int) + ((n : Nat) : Int)) = false := decide_eq_false (by omega)
        have hex : (S s).extract k (k + n) = S ((s.drop k).take n) := by
          rw [S_extract, S_toList]
          congr 2
          omega
        have HN : Hid (Silo.partR (s.drop i) = some (r.take n, r.drop n)) := by
          show _ = _
          rw [HP.out, if_pos]
          have := HR.out.2
          omega
        go_wp2
        clear fl fn qn qkn qk
        refine bodyPost_ret (v := .tuple #[.string (S ((s.drop k).take n)), .int .i64 ((k + n : Nat) : Int)]) (by simp [results, Tryz.results37, go_sem, hex]) rfl ⟨?_, H1.out⟩
        rw [HN.out]
        have h1 := HR.out.1
        have h2 := HR.out.2
        unfold partRes
        have h3 : s.length - (r.drop n).length = k + n := by rw [List.length_drop, h2]; omega
        simp only [h3, h1]

end Go.Proofs.YtbimkgmhfcgpmaaGreatDoor
