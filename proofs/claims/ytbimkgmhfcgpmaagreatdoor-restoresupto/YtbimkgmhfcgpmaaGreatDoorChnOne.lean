/- RdBytes, ChnLeaf, SnpLeaf, in one text. -/
import Derived.Test.YtbimkgmhfcgpmaaGreatDoorDecOne
import Derived.Test.YtbimkgmhfcgpmaaGreatDoorRefPart
import Derived.Test.YtbimkgmhfcgpmaaGreatDoorPureHOne
import Derived.Stop.RegionWithIn

/- (*Reader).Bytes, readPart. -/
namespace Silo

/-- n bytes, read. -/
def rdB (n : Nat) : St → List UInt8 × St
  | some l => if n ≤ l.length then (l.take n, some (l.drop n)) else ([], none)
  | none => ([], none)

/-- A part, read. -/
def rdPart (st : St) : List UInt8 × St := rdB (rdN st) (rdR st)

theorem rdPart_some (l : List UInt8) : rdPart (some l) = match partR l with
    | some (p, r) => (p, some r)
    | none => ([], none) := by
  unfold rdPart partR
  cases hc : rdCode l with
  | none => simp [rdR, hc, rdB]
  | some q =>
    obtain ⟨n, r⟩ := q
    simp only [rdN, rdR, hc, rdB]
    by_cases h : n ≤ r.length
    · simp [h]
    · simp [h]

theorem rdPart_none : rdPart none = ([], none) := rfl

theorem rdB_left (n : Nat) (st : St) : left (rdB n st).2 ≤ left st := by
  cases st with
  | none => exact Nat.le_refl _
  | some l =>
    unfold rdB
    simp only
    split
    · simp [left]
    · exact Nat.zero_le _

end Silo
namespace Go.Proofs.YtbimkgmhfcgpmaaGreatDoor
open Go.RowKit

set_option maxHeartbeats 400000 in
theorem RdBytes_raw (w : World) (rb : Nat) (l : List UInt8) (f : Bool) (n : Nat) (h : Rdr w rb (S l) f) (hl : l.length ≤ 1099511627776) (_hn : n < 18446744073709551616) :
    Calls Tryz.prog 44 #[.pointer (some ⟨rb, 0, none⟩), .int .u64 n] w fun e w' => Fp (fun k => k = rb) w w' ∧
      ((n ≤ l.length ∧ e = .returned (.string (S (l.take n))) ∧ Rdr w' rb (S (l.drop n)) f) ∨ (l.length < n ∧ e = .returned (.string (S [])) ∧ Rdr w' rb ByteArray.empty true)) := by
  have hs : (S l).size = l.length := rfl
  have H : Hid (Rdr w rb (S l) f) := h
  have h0 := h.cell0
  have f0 := h.frozen 0
  clear h
  have fl : IntKind.u64.wrap ((l.length : Nat) : Int) = ((l.length : Nat) : Int) := by rw [IntKind.wrap_u64]; omega
  by_cases hlt : l.length < n
  · have q : decide (((l.length : Nat) : Int) < ((n : Nat) : Int)) = true := decide_eq_true (by omega)
    go_enter Tryz.func44, Tryz.ntmps44
    go_wp2_with fail
    refine (RdFail_any w rb _ f H.out).mono ?_
    rintro e w1 ⟨rfl, h1, h2⟩
    have H1 : Hid _ := And.intro h1 h2
    clear h1 h2
    go_wp2
    go_ret
    exact ⟨H1.out.2, .inr ⟨hlt, ret_val (by simp; rfl), H1.out.1⟩⟩
  · have q : decide (((l.length : Nat) : Int) < ((n : Nat) : Int)) = false := decide_eq_false (by omega)
    have e1 : (S l).extract 0 n = S (l.take n) := by rw [S_extract, S_toList]; simp
    have e2 : (S l).extract n l.length = S (l.drop n) := by
      rw [S_extract, S_toList]
      congr 1
      exact List.take_of_length_le (by simp)
    have hnl : n ≤ l.length := by omega
    clear hlt
    go_enter Tryz.func44, Tryz.ntmps44
    go_wp2
    go_ret
    exact ⟨Fp.setCell _ _ _ rfl, .inl ⟨hnl, ret_val (by simp), H.out.set0 _⟩⟩

theorem RdBytes_st (w : World) (rb : Nat) (st : Silo.St) (n : Nat) (h : RdS w rb st) (hl : Silo.left st ≤ 1099511627776) (hn : n < 18446744073709551616) :
    Calls Tryz.prog 44 #[.pointer (some ⟨rb, 0, none⟩), .int .u64 n] w fun e w' => e = .returned (.string (S (Silo.rdB n st).1)) ∧ RdS w' rb (Silo.rdB n st).2 ∧ Fp (fun k => k = rb) w w' := by
  cases st with
  | none =>
    have h' : Rdr w rb (S []) true := h
    refine (RdBytes_raw w rb [] true n h' (by simp) hn).mono ?_
    rintro e w' ⟨hf, ⟨_, rfl, hr⟩ | ⟨_, rfl, hr⟩⟩
    · exact ⟨by simp [Silo.rdB], (by simpa using hr : Rdr w' rb (S []) true), hf⟩
    · exact ⟨rfl, hr, hf⟩
  | some l =>
    refine (RdBytes_raw w rb l false n h hl hn).mono ?_
    rintro e w' ⟨hf, ⟨h1, rfl, hr⟩ | ⟨h1, rfl, hr⟩⟩
    · unfold Silo.rdB; simp only; rw [if_pos h1]; exact ⟨rfl, hr, hf⟩
    · unfold Silo.rdB; simp only; rw [if_neg (by omega)]; exact ⟨rfl, hr, hf⟩

set_option maxHeartbeats 400000 in
theorem readPart_any (w : World) (rb : Nat) (st : Silo.St) (h : RdS w rb st) (hl : Silo.left st ≤ 1099511627776) :
    Calls Tryz.prog 45 #[.pointer (some ⟨rb, 0, none⟩)] w fun e w' => e = .returned (.string (S (Silo.rdPart st).1)) ∧ RdS w' rb (Silo.rdPart st).2 ∧ Fp (fun k => k = rb) w w' := by
  have H : Hid (RdS w rb st) := h
  clear h
  have hN := Silo.rdN_lt st
  unfold Silo.M64 at hN
  go_enter Tryz.func45, Tryz.ntmps45
  go_wp2_with fail
  refine (RdCode_any w rb st H.out (Nat.le_trans hl (by decide))).mono ?_
  rintro e w1 ⟨rfl, h1⟩
  have H1 : Hid _ := h1
  clear h1
  go_wp2_with fail
  refine (RdBytes_st w1 rb (Silo.rdR st) (Silo.rdN st) H1.out.1 (Nat.le_trans (left_rdR st) hl) hN).mono ?_
  rintro e w2 ⟨rfl, h2⟩
  have H2 : Hid _ := h2
  clear h2
  go_wp2
  go_ret
  exact ⟨ret_val (by simp [Silo.rdPart]), H2.out.1, H1.out.2.trans' H2.out.2⟩

end Go.Proofs.YtbimkgmhfcgpmaaGreatDoor

/- chains.BaseOf, blocks.IsFile. -/
namespace Go.Proofs.YtbimkgmhfcgpmaaGreatDoor
open Go.RowKit

set_option maxHeartbeats 400000 in
theorem BaseOf_any (m : List UInt8) (w : World) (hl : m.length ≤ 1099511627776) :
    Calls Tryz.prog 31 #[.string (S m)] w fun e w' => e = .returned (.string (S (Silo.baseOf m))) ∧ Fp (fun _ => False) w w' := by
  by_cases hm : m = []
  · have q : ((S m).toList == []) = true := by rw [hm, bytes_toList, S_toList]; rfl
    have q' : (S m).toList.isEmpty = true := by rw [hm, bytes_toList, S_toList]; rfl
    have HB : Hid (Silo.baseOf m = List.replicate 8 0) := by show _ = _; unfold Silo.baseOf; rw [if_pos hm]
    clear hm
    go_enter Tryz.func31, Tryz.ntmps31
    go_wp2
    go_ret
    exact ⟨ret_val (by rw [HB.out]; rfl), Fp.refl _ _⟩
  · have q : ((S m).toList == []) = false := by
      rw [beq_eq_false_iff_ne]
      intro e
      exact hm (by simpa [bytes_toList, S_toList] using e)
    have q' : (S m).toList.isEmpty = false := by
      rw [bytes_toList, S_toList]
      cases m with
      | nil => exact absurd rfl hm
      | cons b r => rfl
    have HB : Hid (Silo.baseOf m = Silo.be8 (Silo.fnv m)) := by show _ = _; unfold Silo.baseOf; rw [if_neg hm]
    clear hm
    go_enter Tryz.func31, Tryz.ntmps31
    go_wp2_with fail
    refine (Hash_any (S m) w (by show m.length ≤ maxLen; unfold maxLen; omega)).mono ?_
    rintro e w1 ⟨rfl, rfl⟩
    rw [S_toList]
    go_wp2_with fail
    refine (HashBytes_any (Silo.fnv m) w1 (Silo.fnv_lt m)).mono ?_
    rintro e w2 ⟨rfl, h2⟩
    have H2 : Hid _ := h2
    clear h2
    go_wp2
    go_ret
    exact ⟨ret_val (by rw [HB.out]; simp), H2.out⟩

/-- What IsFile answers. -/
def isFileP (lo hi : Nat) (f : List UInt8) : Bool := match Silo.decode f with
  | some d => decide (d.lo = lo ∧ d.hi = hi)
  | none => false

set_option maxHeartbeats 400000 in
theorem IsFile_any (lo hi : Nat) (f : List UInt8) (w : World) (hl : f.length ≤ 1099511627776) :
    Calls Tryz.prog 34 #[.agg #[.int .i64 lo, .int .i64 hi], .string (S f)] w fun e w' => e = .returned (.bool (isFileP lo hi f)) ∧ Fp (fun _ => False) w w' := by
  go_enter Tryz.func34, Tryz.ntmps34
  go_wp2_with fail
  refine (Decode_any f _ hl).mono ?_
  rintro e w1 ⟨h1, h2, h3⟩
  have hb1 : w1.heap[w.heap.size]? = some (.cells #[.int .i64 lo, .int .i64 hi] 84 (0, 0)) := (h1.block _ (by simp) (fun h => h)).trans (heap_new _ _)
  have hf1 : Fp (fun _ => False) w w1 := (Fp.alloc _ _ _).trans' h1
  cases hd : Silo.decode f with
  | none =>
    have e0 := h2 hd
    subst e0
    unfold zero3
    have HP : Hid (isFileP lo hi f = false) := by show _ = _; unfold isFileP; rw [hd]
    have HF : Hid _ := hf1
    clear h1 h2 h3 hf1 hd
    go_wp2
    go_ret
    exact ⟨ret_val (by rw [HP.out]; simp), HF.out.trans' (Fp.alloc _ _ _)⟩
  | some d =>
    obtain ⟨v, e0, hrow⟩ := h3 d hd
    obtain ⟨a, c, rfl⟩ := ownsRow_form hrow
    subst e0
    have HP : Hid (isFileP lo hi f = decide (d.lo = lo ∧ d.hi = hi)) := by show _ = _; unfold isFileP; rw [hd]
    have HF : Hid _ := hf1
    have z0 : w1.cell? ⟨w.heap.size, 0, none⟩ = some (.int .i64 lo) := by simp [World.cell?, hb1]
    have z1 : w1.cell? ⟨w.heap.size, 1, none⟩ = some (.int .i64 hi) := by simp [World.cell?, hb1]
    have hlt := heap_lt hb1
    clear h1 h2 h3 hf1 hd hrow hb1
    cases q1 : (((d.lo : Nat) : Int) == ((lo : Nat) : Int))
    · have e1 : decide (d.lo = lo ∧ d.hi = hi) = false := decide_eq_false (fun h => by rw [h.1] at q1; simp at q1)
      have hne : ¬ d.lo = lo := fun h => by rw [h] at q1; simp at q1
      go_wp2
      go_ret
      exact ⟨ret_val (by rw [HP.out, e1]; simp), HF.out.trans' (Fp.alloc _ _ _)⟩
    · cases q2 : (((d.hi : Nat) : Int) == ((hi : Nat) : Int))
      · have e1 : decide (d.lo = lo ∧ d.hi = hi) = false := decide_eq_false (fun h => by rw [h.2] at q2; simp at q2)
        have hne : ¬ d.hi = hi := fun h => by rw [h] at q2; simp at q2
        go_wp2
        go_ret
        exact ⟨ret_val (by rw [HP.out, e1]; simp), HF.out.trans' (Fp.alloc _ _ _)⟩
      · have h1 : d.lo = lo := by simpa using Int.ofNat.inj (eq_of_beq q1)
        have h2 : d.hi = hi := by simpa using Int.ofNat.inj (eq_of_beq q2)
        have e1 : decide (d.lo = lo ∧ d.hi = hi) = true := decide_eq_true ⟨h1, h2⟩
        go_wp2
        go_ret
        exact ⟨ret_val (by rw [HP.out, e1]; simp), HF.out.trans' (Fp.alloc _ _ _)⟩

end Go.Proofs.YtbimkgmhfcgpmaaGreatDoor

/- snapshots.LineOf. -/
namespace Go.Proofs.YtbimkgmhfcgpmaaGreatDoor
open Go.RowKit

/-- A line as the program has it. -/
def plV (l : Silo.Ln) : Value := .agg #[.int .i64 (l.lo : Nat), .int .i64 (l.hi : Nat), .int .i64 (l.size : Nat), .int .u64 (l.hash : Nat)]

set_option maxHeartbeats 1000000 in
theorem LineOf_any (lo hi : Nat) (f : List UInt8) (w : World) (hl : f.length ≤ 1099511627776) :
    Calls Tryz.prog 52 #[.agg #[.int .i64 lo, .int .i64 hi], .string (S f)] w fun e w' => e = .returned (plV ⟨lo, hi, f.length, Silo.fnv f⟩) ∧ Fp (fun _ => False) w w' := by
  have hs : (S f).size = f.length := rfl
  have hm : (S f).size ≤ maxLen := by rw [hs]; unfold maxLen; omega
  go_enter Tryz.func52, Tryz.ntmps52
  go_wp2_with fail
  go_region_with (go_at_call 51; refine (Hash_any (S f) _ hm).mono ?_; rintro e w1 ⟨rfl, rfl⟩; rw [S_toList])
  all_goals go_wp2
  all_goals exact bodyPost_ret (v := plV ⟨lo, hi, f.length, Silo.fnv f⟩) (by simp [results, Tryz.results52, go_sem, plV]) rfl ⟨rfl, ((Fp.alloc _ _ _).trans' (Fp.alloc _ _ _)).trans' (Fp.drew _ _)⟩

end Go.Proofs.YtbimkgmhfcgpmaaGreatDoor
