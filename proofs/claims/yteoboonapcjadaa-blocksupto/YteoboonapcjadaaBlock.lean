/- sets.Fits and silo.Block: their contracts. -/
import Derived.Test.YteoboonapcjadaaLay
import Derived.Test.YteoboonapcjadaaEncode
import Derived.Test.YteoboonapcjadaaPure6
namespace Silo

def fits (xs : List Smp) : Bool := xs.all fun x => decide (0 ≤ x.s ∧ x.s < 16)

/-- The sets that laying the samples may leave (there is just one). -/
def LaidBy (xs : List Smp) (m : Nat → List Pt) : Prop := ∀ s, s < 16 → Left (ser s xs) (m s)

end Silo

namespace Go.Proofs.Yteoboonapcjadaa
open Go.RowKit Go.Shelf
open Silo (ptAt)

theorem fits_cons {xs : List Silo.Smp} {k : Nat} (hk : k < xs.length) (h : Silo.fits (xs.take k) = true) (hx : 0 ≤ xs[k].s ∧ xs[k].s < 16) : Silo.fits (xs.take (k + 1)) = true := by
  rw [List.take_succ_eq_append_getElem hk]
  unfold Silo.fits at h ⊢
  rw [List.all_append, h]
  simp [hx]

theorem fits_not {xs : List Silo.Smp} {k : Nat} (hk : k < xs.length) (hx : ¬ (0 ≤ xs[k].s ∧ xs[k].s < 16)) : Silo.fits xs = false := by
  unfold Silo.fits
  rw [List.all_eq_false]
  exact ⟨xs[k], List.getElem_mem _, by simpa using hx⟩

set_option maxHeartbeats 1000000 in
theorem Fits_any (w : World) (B : Nat) (v : Value) (xs : List Silo.Smp) (hB : B ≤ w.heap.size) (hin : SmpIn w B v xs) (hl : xs.length ≤ 1099511627776) :
    Calls Try.prog 20 #[v] w fun e w' => e = .returned (.bool (Silo.fits xs)) ∧ Fp (fun _ => False) w w' := by
  obtain ⟨ad, c, rfl, hin'⟩ := hin
  have H : Hid _ := hin'
  clear hin'
  go_enter Try.func20, Try.ntmps20
  go_wp2_with fail
  go_loopw [7] (fun iv wr => ∃ k : Nat, k ≤ xs.length ∧ iv = .int .i64 k ∧ Hid (Silo.fits (xs.take k) = true ∧ Fp (fun _ => False) w wr)) (fun iv _ => xs.length - (intOf iv).toNat)
  case atStart => exact ⟨0, by omega, rfl, by simp [Silo.fits], Fp.refl _ _⟩
  case round =>
    obtain ⟨k, hk, rfl, HR⟩ := hrel
    by_cases hlt : k < xs.length
    · obtain ⟨b, off, hb⟩ : ∃ b off, ad = some ⟨b, off, none⟩ ∧ b < B ∧ ∀ k (hk : k < xs.length),
          w.cell? ⟨b, off + k * 3, none⟩ = some (.int .i64 xs[k].s) ∧ w.cell? ⟨b, off + k * 3 + 1, none⟩ = some (.int .i64 xs[k].t) ∧ w.cell? ⟨b, off + k * 3 + 2, none⟩ = some (.int .u64 (xs[k].v : Nat)) := by
        rcases H.out with h | h
        · rw [h] at hlt; simp at hlt
        · exact h
      obtain ⟨rfl, hbt, hcell⟩ := hb
      obtain ⟨c0, c1, c2⟩ := hcell k hlt
      have hbw : b < w.heap.size := by omega
      rw [← HR.out.2.cell (p := ⟨b, off + k * 3, none⟩) hbw (fun h => h)] at c0
      rw [← HR.out.2.cell (p := ⟨b, off + k * 3 + 1, none⟩) hbw (fun h => h)] at c1
      rw [← HR.out.2.cell (p := ⟨b, off + k * 3 + 2, none⟩) hbw (fun h => h)] at c2
      obtain ⟨x, hx⟩ : ∃ x, xs[k] = x := ⟨_, rfl⟩
      rw [hx] at c0 c1 c2
      have HX : Hid _ := hx
      have hbr : b < wr.heap.size := Nat.lt_of_lt_of_le hbw HR.out.2.size
      clear hcell hx
      have kN : (k : Int) < (xs.length : Int) := by omega
      by_cases h1 : x.s < 0
      · go_wp2
        go_ret
        exact ⟨ret_val (by rw [fits_not hlt (by rw [HX.out]; omega)]; simp), HR.out.2.trans' (Fp.alloc _ _ _)⟩
      · by_cases h2 : 16 ≤ x.s
        · go_wp2
          go_ret
          exact ⟨ret_val (by rw [fits_not hlt (by rw [HX.out]; omega)]; simp), HR.out.2.trans' (Fp.alloc _ _ _)⟩
        · go_wp2
          go_roundw
          case rel => exact ⟨k + 1, by omega, by go_num, fits_cons hlt HR.out.1 (by rw [HX.out]; omega), HR.out.2.trans' (Fp.alloc _ _ _)⟩
          case measure => simp [intOf]; omega
    · obtain rfl : k = xs.length := by omega
      go_wp2
      go_ret
      have := HR.out.1
      rw [List.take_length] at this
      exact ⟨ret_val (by rw [this]; simp), HR.out.2⟩

theorem Block_norange (lo hi : Int) (v : Value) (w : World) (hr : ¬ (0 ≤ lo ∧ lo ≤ hi ∧ hi ≤ 999999)) :
    Calls Try.prog 8 #[.int .i64 lo, .int .i64 hi, v] w fun e w' => e = .returned (.tuple #[.string (S []), .int .i64 3]) ∧ w' = w := by
  have hd : decide (0 ≤ lo ∧ lo ≤ hi ∧ hi ≤ 999999) = false := by simpa using hr
  go_enter Try.func8, Try.ntmps8
  go_wp2_with fail
  refine (IsRange_any lo hi w).mono ?_
  rintro e w1 ⟨rfl, rfl⟩
  rw [hd]
  go_wp2
  go_ret2
  exact ⟨rfl, rfl⟩

theorem Block_nofit (lo hi : Int) (v : Value) (xs : List Silo.Smp) (w : World) (hr : 0 ≤ lo ∧ lo ≤ hi ∧ hi ≤ 999999) (hin : SmpIn w w.heap.size v xs) (hl : xs.length ≤ 1099511627776) (hf : Silo.fits xs = false) :
    Calls Try.prog 8 #[.int .i64 lo, .int .i64 hi, v] w fun e w' => e = .returned (.tuple #[.string (S []), .int .i64 6]) ∧ Fp (fun _ => False) w w' := by
  have hd : decide (0 ≤ lo ∧ lo ≤ hi ∧ hi ≤ 999999) = true := by simpa using hr
  have H : Hid _ := hin
  clear hin hr
  go_enter Try.func8, Try.ntmps8
  go_wp2_with fail
  refine (IsRange_any lo hi w).mono ?_
  rintro e w1 ⟨rfl, rfl⟩
  rw [hd]
  go_wp2_with fail
  refine (Fits_any w1 w1.heap.size v xs (Nat.le_refl _) H.out hl).mono ?_
  rintro e w2 ⟨rfl, h2⟩
  rw [hf]
  have H2 : Hid _ := h2
  clear h2
  go_wp2
  go_ret2
  exact ⟨rfl, H2.out⟩

/-- The empty set. -/
theorem SetAt.zero (w : World) : SetAt (w.alloc (.cells #[.slice none 0 0, .slice none 0 0, .slice none 0 0, .slice none 0 0, .slice none 0 0, .slice none 0 0, .slice none 0 0, .slice none 0 0, .slice none 0 0, .slice none 0 0, .slice none 0 0, .slice none 0 0, .slice none 0 0, .slice none 0 0, .slice none 0 0, .slice none 0 0] 60)) (w.heap.size + 1) w.heap.size
    (Array.replicate 16 (.slice none 0 0)) (fun _ => []) where
  block := heap_new _ _
  size := by simp
  below := by omega
  row := fun s hs => ⟨.slice none 0 0, by simp [hs], rfl, .inl ⟨rfl, rfl⟩⟩
  apart := fun s s' v v' k hs hs' hne hv hv' hk => by
    simp [hs] at hv
    subst hv
    simp [Value.ownBlock] at hk

set_option maxHeartbeats 1000000 in
theorem Block_ok (lo hi : Nat) (v : Value) (xs : List Silo.Smp) (w : World) (hlo : lo ≤ hi) (hhi : hi ≤ 999999) (hin : SmpIn w w.heap.size v xs) (hl : xs.length ≤ 16777216) (hf : Silo.fits xs = true) (hg : ∀ x ∈ xs, Silo.isInt x.t ∧ x.v < Silo.M64) :
    Calls Try.prog 8 #[.int .i64 lo, .int .i64 hi, v] w fun e w' => ∃ m, Silo.LaidBy xs m ∧ (∀ s, s < 16 → Silo.goodPts 0 true (m s)) ∧ (∀ s, s < 16 → (m s).length ≤ xs.length) ∧ e = .returned (.tuple #[.string (S (Silo.file lo hi m)), .int .i64 0]) ∧ Fp (fun _ => False) w w' := by
  have hd : decide (0 ≤ (lo : Int) ∧ (lo : Int) ≤ (hi : Int) ∧ (hi : Int) ≤ 999999) = true := by simp; omega
  have hgs : ∀ x ∈ xs, Silo.goodSmp x := fun x hx => by
    unfold Silo.fits at hf
    rw [List.all_eq_true] at hf
    have := hf x hx
    simp only [decide_eq_true_eq] at this
    exact ⟨this.1, this.2, hg x hx⟩
  have H : Hid _ := And.intro hin hgs
  clear hin hgs hg
  go_enter Try.func8, Try.ntmps8
  go_wp2_with fail
  refine (IsRange_any lo hi w).mono ?_
  rintro e w1 ⟨rfl, rfl⟩
  rw [hd]
  go_wp2_with fail
  refine (Fits_any w1 w1.heap.size v xs (Nat.le_refl _) H.out.1 (by omega)).mono ?_
  rintro e w2 ⟨rfl, h2⟩
  rw [hf]
  have H2 : Hid _ := h2
  clear h2
  go_wp2_with fail
  have hs0 := SetAt.zero w2
  have hfa : Fp (fun _ => False) w1 (w2.alloc (.cells #[.slice none 0 0, .slice none 0 0, .slice none 0 0, .slice none 0 0, .slice none 0 0, .slice none 0 0, .slice none 0 0, .slice none 0 0, .slice none 0 0, .slice none 0 0, .slice none 0 0, .slice none 0 0, .slice none 0 0, .slice none 0 0, .slice none 0 0, .slice none 0 0] 60)) := H2.out.trans' (Fp.alloc _ _ _)
  have hsm : w1.heap.size ≤ w2.heap.size := H2.out.size
  obtain ⟨w3, hw3⟩ : ∃ w3, (w2.alloc (.cells #[.slice none 0 0, .slice none 0 0, .slice none 0 0, .slice none 0 0, .slice none 0 0, .slice none 0 0, .slice none 0 0, .slice none 0 0, .slice none 0 0, .slice none 0 0, .slice none 0 0, .slice none 0 0, .slice none 0 0, .slice none 0 0, .slice none 0 0, .slice none 0 0] 60)) = w3 := ⟨_, rfl⟩
  rw [hw3] at hs0 hfa ⊢
  have HA : Hid _ := And.intro hfa hsm
  clear hw3 hfa hsm
  refine (Lay_any w2.heap.size v xs _ _ w3 hs0 ((H.out.1.fp HA.out.1 (Nat.le_refl _) (fun _ _ h => h)).up HA.out.2) H.out.2 (fun s _ => by simpa using hl)).mono ?_
  rintro e w4 ⟨rfl, cs4, m4, h41, h42, h43⟩
  have hsz : w2.heap.size + 1 ≤ w4.heap.size := by have := heap_lt h41.block; omega
  have hlaid : Silo.LaidBy xs m4 := fun s hs => by
    obtain ⟨qs, q1, q2, q3⟩ := h42 s hs
    rw [List.nil_append] at q1 q2 q3
    rw [q3]
    exact Silo.Left.of_sort q1 q2
  have hlen : ∀ s, s < 16 → (m4 s).length ≤ xs.length := fun s hs => by
    obtain ⟨qs, q1, q2, q3⟩ := h42 s hs
    rw [List.nil_append] at q1 q2 q3
    rw [q3]
    exact Nat.le_trans (Silo.ddTo_le _ _) (Silo.ser_length s xs)
  have hgood : ∀ s, s < 16 → Silo.goodPts 0 true (m4 s) := fun s hs =>
    Silo.goodPts_of (hlaid s hs).asc (fun p hp => Silo.ser_good H.out.2 p ((hlaid s hs).mem p hp)) 0 true (fun h => by cases h)
  have HM : Hid _ := And.intro hlaid (And.intro hlen (And.intro hgood (And.intro h41 (And.intro h43 hsz))))
  clear h41 h42 h43 hsz hlaid hlen hgood hs0
  go_wp2_with fail
  refine (Encode_any lo hi (w2.heap.size + 1) w2.heap.size cs4 m4 w4 (by omega) hhi HM.out.2.2.2.1 HM.out.2.2.2.2.2 HM.out.2.2.1 (fun s hs => Nat.le_trans (HM.out.2.1 s hs) hl)).mono ?_
  rintro e w5 ⟨rfl, h5⟩
  have H5 : Hid _ := h5
  clear h5
  go_wp2
  go_ret2
  refine ⟨m4, HM.out.1, HM.out.2.2.1, HM.out.2.1, rfl, ?_⟩
  refine (HA.out.1.trans HM.out.2.2.2.2.1 (fun _ h => h) (fun k hk h => ?_)).trans' H5.out
  have := HA.out.2
  omega

end Go.Proofs.Yteoboonapcjadaa
