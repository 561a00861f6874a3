/- sets.Fits and silo.Block: their contracts. -/
import Derived.Test.YtojjkjfcbfoinaaLay
import Derived.Test.YtojjkjfcbfoinaaEncode
import Derived.Test.YtojjkjfcbfoinaaPure6
namespace Silo

def fits (xs : List Smp) : Bool := xs.all fun x => decide (0 ≤ x.s ∧ x.s < 16)

/-- The sets that laying the samples may leave (there is just one). -/
def LaidBy (xs : List Smp) (m : Nat → List Pt) : Prop := ∀ s, s < 16 → Left (ser s xs) (m s)

end Silo

namespace Go.Proofs.Ytojjkjfcbfoinaa
open Go.RowKit Go.Shelf
open Silo (ptAt)

theorem fits_cons {xs : List Silo.Smp} {k : Nat} (hk : k < xs.length) (h : Silo.fits (xs.take k) = true) (hx : 0 ≤ xs[k].s ∧ xs[k].s < 16) : Silo.fits (xs.take (k + 1)) = true := by
  rw [List.take_succ_eq_append_getElem hk]
  unfold Silo.fits at h ⊢
  rw [List.all_append, h]
  simp [hx]

theorem fits_not {xs : List Silo.Smp} {k : Nat} (hk : k < xs.length) (hx : ¬ (0 ≤ xs[k].s ∧ xs[k].s < 16)) : Silo.fits xs = false := by
  unfold Silo.fits
  rw [List.all_eq_false]
  exact ⟨xs[k], List.getElem_mem _, by simpa using hx⟩

set_option maxHeartbeats 400000 in
theorem IsSeries_any (s : Int) (w : World) : Calls Try.prog 31 #[.int .i64 s] w fun e w' => e = .returned (.bool (decide (0 ≤ s ∧ s < 16))) ∧ w' = w := by
  by_cases h1 : 0 ≤ s
  · by_cases h2 : s < 16
    · go_enter Try.func31, Try.ntmps31
      go_wp2
      go_ret
      exact ⟨ret_val (by simp [h1, h2]), rfl⟩
    · go_enter Try.func31, Try.ntmps31
      go_wp2
      go_ret
      exact ⟨ret_val (by simp; omega), rfl⟩
  · go_enter Try.func31, Try.ntmps31
    go_wp2
    go_ret
    exact ⟨ret_val (by simp; omega), rfl⟩

set_option maxHeartbeats 1000000 in
theorem Fits_any (w : World) (B : Nat) (v : Value) (xs : List Silo.Smp) (hB : B ≤ w.heap.size) (hin : SmpIn w B v xs) (hl : xs.length ≤ 1099511627776) :
    Calls Try.prog 20 #[v] w fun e w' => e = .returned (.bool (Silo.fits xs)) ∧ Fp (fun _ => False) w w' := by
  obtain ⟨ad, c, rfl, hin'⟩ := hin
  have H : Hid _ := hin'
  clear hin'
  go_enter Try.func20, Try.ntmps20
  go_wp2_with fail
  go_loopw [7] (fun iv wr => ∃ k : Nat, k ≤ xs.length ∧ iv = .int .i64 k ∧ Hid (Silo.fits (xs.take k) = true ∧ Fp (fun _ => False) w wr)) (fun iv _ => xs.length - (intOf iv).toNat)
  case atStart => exact ⟨0, by omega, rfl, by simp [Silo.fits], Fp.refl _ _⟩
  case round =>
    obtain ⟨k, hk, rfl, HR⟩ := hrel
    by_cases hlt : k < xs.length
    · obtain ⟨b, off, hb⟩ : ∃ b off, ad = some ⟨b, off, none⟩ ∧ b < B ∧ ∀ k (hk : k < xs.length),
          w.cell? ⟨b, off + k * 3, none⟩ = some (.int .i64 xs[k].s) ∧ w.cell? ⟨b, off + k * 3 + 1, none⟩ = some (.int .i64 xs[k].t) ∧ w.cell? ⟨b, off + k * 3 + 2, none⟩ = some (.int .u64 (xs[k].v : Nat)) := by
        rcases H.out with h | h
        · rw [h] at hlt; simp at hlt
        · exact h
      obtain ⟨rfl, hbt, hcell⟩ := hb
      obtain ⟨c0, c1, c2⟩ := hcell k hlt
      have hbw : b < w.heap.size := by omega
      rw [← HR.out.2.cell (p := ⟨b, off + k * 3, none⟩) hbw (fun h => h)] at c0
      rw [← HR.out.2.cell (p := ⟨b, off + k * 3 + 1, none⟩) hbw (fun h => h)] at c1
      rw [← HR.out.2.cell (p := ⟨b, off + k * 3 + 2, none⟩) hbw (fun h => h)] at c2
      obtain ⟨x, hx⟩ : ∃ x, xs[k] = x := ⟨_, rfl⟩
      rw [hx] at c0 c1 c2
      have HX : Hid _ := hx
      have hbr : b < wr.heap.size := Nat.lt_of_lt_of_le hbw HR.out.2.size
      clear hcell hx
      have kN : (k : Int) < (xs.length : Int) := by omega
      by_cases h1 : 0 ≤ x.s ∧ x.s < 16
      · have hd : decide (0 ≤ x.s ∧ x.s < 16) = true := by simpa using h1
        have HXX : Hid _ := h1
        clear h1
        go_wp2_with fail
        refine (IsSeries_any x.s _).mono ?_
        rintro e w2 ⟨rfl, rfl⟩
        rw [hd]
        clear hd
        go_wp2
        go_roundw
        case rel => exact ⟨k + 1, by omega, by go_num, fits_cons hlt HR.out.1 (by rw [HX.out]; exact HXX.out), HR.out.2.trans' (Fp.alloc _ _ _)⟩
        case measure => simp [intOf]; omega
      · have hd : decide (0 ≤ x.s ∧ x.s < 16) = false := by simpa using h1
        have HXX : Hid (¬ (0 ≤ x.s ∧ x.s < 16)) := h1
        clear h1
        go_wp2_with fail
        refine (IsSeries_any x.s _).mono ?_
        rintro e w2 ⟨rfl, rfl⟩
        rw [hd]
        clear hd
        go_wp2
        go_ret
        exact ⟨ret_val (by rw [fits_not hlt (by rw [HX.out]; exact HXX.out)]; simp), HR.out.2.trans' (Fp.alloc _ _ _)⟩
    · obtain rfl : k = xs.length := by omega
      go_wp2
      go_ret
      have := HR.out.1
      rw [List.take_length] at this
      exact ⟨ret_val (by rw [this]; simp), HR.out.2⟩

theorem Block_norange (lo hi : Int) (v : Value) (w : World) (hr : ¬ (0 ≤ lo ∧ lo ≤ hi ∧ hi ≤ 999999)) :
    Calls Try.prog 8 #[.int .i64 lo, .int .i64 hi, v] w fun e w' => e = .returned (.tuple #[.string (S []), .int .i64 3]) ∧ Fp (fun _ => False) w w' := by
  have hd : decide (0 ≤ lo ∧ lo ≤ hi ∧ hi ≤ 999999) = false := by simpa using hr
  go_enter Try.func8, Try.ntmps8
  go_wp2_with fail
  obtain ⟨w0, hw0⟩ : ∃ w0, w.alloc (.cells #[.int .i64 lo, .int .i64 hi] 56) = w0 := ⟨_, rfl⟩
  have hb0 : w0.heap[w.heap.size]? = some (.cells #[.int .i64 lo, .int .i64 hi] 56 (0, 0)) := by rw [← hw0]; exact heap_new _ _
  have hf0 : Fp (fun _ => False) w w0 := by rw [← hw0]; exact Fp.alloc _ _ _
  rw [hw0]
  clear hw0
  refine (RangeFits_any lo hi w0).mono ?_
  rintro e w1 ⟨rfl, h1⟩
  rw [hd]
  have hb1 : w1.heap[w.heap.size]? = some (.cells #[.int .i64 lo, .int .i64 hi] 56 (0, 0)) := (h1.block _ (heap_lt hb0) (fun h => h)).trans hb0
  have hf1 : Fp (fun _ => False) w w1 := hf0.trans' h1
  clear h1 hf0 hb0
  have H1 : Hid _ := hf1
  clear hf1 hb1
  go_wp2
  go_ret2
  exact ⟨rfl, H1.out⟩

theorem Block_nofit (lo hi : Int) (v : Value) (xs : List Silo.Smp) (w : World) (hr : 0 ≤ lo ∧ lo ≤ hi ∧ hi ≤ 999999) (hin : SmpIn w w.heap.size v xs) (hl : xs.length ≤ 1099511627776) (hf : Silo.fits xs = false) :
    Calls Try.prog 8 #[.int .i64 lo, .int .i64 hi, v] w fun e w' => e = .returned (.tuple #[.string (S []), .int .i64 6]) ∧ Fp (fun _ => False) w w' := by
  have hd : decide (0 ≤ lo ∧ lo ≤ hi ∧ hi ≤ 999999) = true := by simpa using hr
  have H : Hid (SmpIn w w.heap.size v xs) := hin
  clear hin hr
  go_enter Try.func8, Try.ntmps8
  go_wp2_with fail
  obtain ⟨w0, hw0⟩ : ∃ w0, w.alloc (.cells #[.int .i64 lo, .int .i64 hi] 56) = w0 := ⟨_, rfl⟩
  have hb0 : w0.heap[w.heap.size]? = some (.cells #[.int .i64 lo, .int .i64 hi] 56 (0, 0)) := by rw [← hw0]; exact heap_new _ _
  have hf0 : Fp (fun _ => False) w w0 := by rw [← hw0]; exact Fp.alloc _ _ _
  rw [hw0]
  clear hw0
  refine (RangeFits_any lo hi w0).mono ?_
  rintro e w1 ⟨rfl, h1⟩
  rw [hd]
  have hb1 : w1.heap[w.heap.size]? = some (.cells #[.int .i64 lo, .int .i64 hi] 56 (0, 0)) := (h1.block _ (heap_lt hb0) (fun h => h)).trans hb0
  have hf1 : Fp (fun _ => False) w w1 := hf0.trans' h1
  clear h1 hf0 hb0
  have HF1 : Hid _ := And.intro hf1 (H.out.fp hf1 (Nat.le_refl _) (fun _ _ h => h))
  clear hf1 hb1
  go_wp2_with fail
  refine (Fits_any w1 w.heap.size v xs (HF1.out.1.size) HF1.out.2 hl).mono ?_
  rintro e w2 ⟨rfl, h2⟩
  rw [hf]
  have H2 : Hid _ := HF1.out.1.trans' h2
  clear h2
  go_wp2
  go_ret2
  exact ⟨rfl, H2.out⟩

set_option maxHeartbeats 1000000 in
theorem Block_ok (lo hi : Nat) (v : Value) (xs : List Silo.Smp) (w : World) (hlo : lo ≤ hi) (hhi : hi ≤ 999999) (hin : SmpIn w w.heap.size v xs) (hl : xs.length ≤ 16777216) (hf : Silo.fits xs = true) (hg : ∀ x ∈ xs, Silo.isInt x.t ∧ x.v < Silo.M64) :
    Calls Try.prog 8 #[.int .i64 lo, .int .i64 hi, v] w fun e w' => ∃ m, Silo.LaidBy xs m ∧ (∀ s, s < 16 → Silo.goodPts 0 true (m s)) ∧ (∀ s, s < 16 → (m s).length ≤ xs.length) ∧ e = .returned (.tuple #[.string (S (Silo.file lo hi m)), .int .i64 0]) ∧ Fp (fun _ => False) w w' := by
  have hd : decide (0 ≤ (lo : Int) ∧ (lo : Int) ≤ (hi : Int) ∧ (hi : Int) ≤ 999999) = true := by simp; omega
  have hgs : ∀ x ∈ xs, Silo.goodSmp x := fun x hx => by
    unfold Silo.fits at hf
    rw [List.all_eq_true] at hf
    have := hf x hx
    simp only [decide_eq_true_eq] at this
    exact ⟨this.1, this.2, hg x hx⟩
  have H : Hid _ := And.intro hin hgs
  clear hin hgs hg
  go_enter Try.func8, Try.ntmps8
  go_wp2_with fail
  obtain ⟨w0, hw0⟩ : ∃ w0, w.alloc (.cells #[.int .i64 (lo : Nat), .int .i64 (hi : Nat)] 56) = w0 := ⟨_, rfl⟩
  have hb0 : w0.heap[w.heap.size]? = some (.cells #[.int .i64 (lo : Nat), .int .i64 (hi : Nat)] 56 (0, 0)) := by rw [← hw0]; exact heap_new _ _
  have hf0 : Fp (fun _ => False) w w0 := by rw [← hw0]; exact Fp.alloc _ _ _
  rw [hw0]
  clear hw0
  refine (RangeFits_any (lo : Nat) (hi : Nat) w0).mono ?_
  rintro e w1 ⟨rfl, h1⟩
  rw [hd]
  have hb1 : w1.heap[w.heap.size]? = some (.cells #[.int .i64 (lo : Nat), .int .i64 (hi : Nat)] 56 (0, 0)) := (h1.block _ (heap_lt hb0) (fun h => h)).trans hb0
  have hf1 : Fp (fun _ => False) w w1 := hf0.trans' h1
  clear h1 hf0 hb0
  have HF1 : Hid _ := And.intro hf1 (And.intro (H.out.1.fp hf1 (Nat.le_refl _) (fun _ _ h => h)) hb1)
  clear hf1 hb1
  go_wp2_with fail
  refine (Fits_any w1 w.heap.size v xs (HF1.out.1.size) HF1.out.2.1 (by omega)).mono ?_
  rintro e w2 ⟨rfl, h2⟩
  rw [hf]
  have H2 : Hid _ := HF1.out.1.trans' h2
  have HB2 : Hid _ := (h2.block _ (heap_lt HF1.out.2.2) (fun h => h)).trans HF1.out.2.2
  clear h2
  go_wp2_with fail
  have hs0 := SetAt.zeroOf w2 63 (by unfold Kind; decide)
  have hfa : Fp (fun _ => False) w (w2.alloc (.cells #[.slice none 0 0, .slice none 0 0, .slice none 0 0, .slice none 0 0, .slice none 0 0, .slice none 0 0, .slice none 0 0, .slice none 0 0, .slice none 0 0, .slice none 0 0, .slice none 0 0, .slice none 0 0, .slice none 0 0, .slice none 0 0, .slice none 0 0, .slice none 0 0] 63)) := H2.out.trans' (Fp.alloc _ _ _)
  have hsm : w.heap.size ≤ w2.heap.size := H2.out.size
  obtain ⟨w3, hw3⟩ : ∃ w3, (w2.alloc (.cells #[.slice none 0 0, .slice none 0 0, .slice none 0 0, .slice none 0 0, .slice none 0 0, .slice none 0 0, .slice none 0 0, .slice none 0 0, .slice none 0 0, .slice none 0 0, .slice none 0 0, .slice none 0 0, .slice none 0 0, .slice none 0 0, .slice none 0 0, .slice none 0 0] 63)) = w3 := ⟨_, rfl⟩
  have hs3 : w3.heap.size = w2.heap.size + 1 := by rw [← hw3]; simp
  have HB3 : Hid (w3.heap[w.heap.size]? = some (.cells #[.int .i64 (lo : Nat), .int .i64 (hi : Nat)] 56 (0, 0))) := by show _ = _; rw [← hw3]; exact heap_old _ _ HB2.out
  rw [hw3] at hs0 hfa ⊢
  have HA : Hid _ := And.intro hfa (And.intro hsm (And.intro hs0 hs3))
  clear hw3 hfa hsm hs0 hs3
  obtain ⟨ad, c, hvv⟩ : ∃ ad c, v = .slice ad xs.length c := by
    obtain ⟨ad, c, e, _⟩ := H.out.1
    exact ⟨ad, c, e⟩
  subst hvv
  refine (ValuesS_any ad xs.length c w3).mono ?_
  rintro e w4 ⟨rfl, hw4⟩
  have hf4 : Fp (fun _ => False) w3 w4 := by rw [hw4]; exact Fp.alloc _ _ _
  have hbx : w4.heap[w3.heap.size]? = some (.cells #[.slice ad xs.length c] 22 (0, 0)) := by rw [hw4]; exact heap_new _ _
  have hs4 : w4.heap.size = w3.heap.size + 1 := by rw [hw4]; simp
  have hset4 := HA.out.2.2.1.fp hf4 (fun h => h) (fun _ _ _ _ _ _ h => h)
  have hin4 : SmpIn w4 w.heap.size (.slice ad xs.length c) xs := (H.out.1.fp HA.out.1 (Nat.le_refl _) (fun _ _ h => h)).fp hf4 (HA.out.1.size) (fun _ _ h => h)
  have hsq := ValuesSCl_seq 29 (by decide) w3.heap.size w.heap.size (.slice ad xs.length c) xs w4 hbx hin4 (by have := HA.out.2.1; have := HA.out.2.2.2; omega) (by omega)
  have HQ : Hid _ := And.intro hsq (And.intro hset4 (And.intro hf4 hs4))
  clear hsq hset4 hf4 hs4 hin4 hbx hw4
  go_wp2_with fail
  refine (callsIn_wide.1 (Lay_in 30 (by decide) (w2.heap.size + 1) w2.heap.size 0 63 _ (fun _ => []) xs 34 _ _ (fun _ => False) w4 HQ.out.2.1 (by have := HQ.out.2.2.2; have := HA.out.2.2.2; omega) (enters_of Try.func34 (by kernel_rfl) rfl) HQ.out.1 ?hR ?hT H.out.2 (fun _ _ => List.Pairwise.nil) ?hl)).mono ?_
  case hR =>
    have := HQ.out.2.2.2; have := HA.out.2.1; have := HA.out.2.2.2
    rintro k (rfl | h) <;> omega
  case hT => intro k h; exact h.elim
  case hl => intro s _; simpa using (by omega)
  rintro e w5 ⟨rfl, HLY⟩
  obtain ⟨cs5, m5, h51, h52, _, _, h53, _⟩ := HLY.out
  have hsz : w2.heap.size + 1 ≤ w5.heap.size := by have := heap_lt h51.block; omega
  have hset5 : ∀ s, s < 16 → Settled (Silo.ser s xs) (m5 s) := fun s hs => by
    obtain ⟨rs, r1, r2⟩ := h52 s hs
    rw [r2, Silo.mergeL_none]; exact r1
  have hlaid : Silo.LaidBy xs m5 := fun s hs => by
    obtain ⟨qs, q1, q2, q3⟩ := hset5 s hs
    rw [q3]
    exact Silo.Left.of_sort q1 q2
  have hlen : ∀ s, s < 16 → (m5 s).length ≤ xs.length := fun s hs => by
    obtain ⟨qs, q1, q2, q3⟩ := hset5 s hs
    rw [q3]
    exact Nat.le_trans (Silo.ddTo_le _ _) (Silo.ser_length s xs)
  have hgood : ∀ s, s < 16 → Silo.goodPts 0 true (m5 s) := fun s hs =>
    Silo.goodPts_of (hlaid s hs).asc (fun p hp => Silo.ser_good H.out.2 p ((hlaid s hs).mem p hp)) 0 true (fun h => by cases h)
  have hfin : Fp (fun _ => False) w w5 := by
    refine (HA.out.1.trans' HQ.out.2.2.1).trans h53 (fun _ h => h) (fun k hk h => ?_)
    have := HA.out.2.1
    rcases h with h | h | ⟨s, v, hs, hv, hk'⟩
    · exact h.elim
    · omega
    · simp [hs] at hv
      subst hv
      simp [Value.ownBlock] at hk'
  have hb5 : w5.heap[w.heap.size]? = some (.cells #[.int .i64 (lo : Nat), .int .i64 (hi : Nat)] 56 (0, 0)) := by
    have hlt2 := heap_lt HB2.out
    have e3 := HA.out.2.2.2
    have e4 := HQ.out.2.2.2
    have hb4 : w4.heap[w.heap.size]? = some (.cells #[.int .i64 (lo : Nat), .int .i64 (hi : Nat)] 56 (0, 0)) := (HQ.out.2.2.1.block _ (by omega) (fun h => h)).trans (HB3.out)
    refine (h53.block _ (by omega) (fun h => ?_)).trans hb4
    rcases h with h | h | ⟨s, v, hs, hv, hk'⟩
    · exact h.elim
    · omega
    · simp [hs] at hv
      subst hv
      simp [Value.ownBlock] at hk'
  have z2 : w5.cell? ⟨w.heap.size, 0, none⟩ = some (.int .i64 (lo : Nat)) := by simp [World.cell?, hb5]
  have z3 : w5.cell? ⟨w.heap.size, 1, none⟩ = some (.int .i64 (hi : Nat)) := by simp [World.cell?, hb5]
  clear hb5
  have HM : Hid _ := And.intro hlaid (And.intro hlen (And.intro hgood (And.intro h51 (And.intro hfin hsz))))
  clear h51 h52 h53 hsz hlaid hlen hgood hset5 hfin HLY
  go_wp2_with fail
  refine (Encode_any lo hi (w2.heap.size + 1) w2.heap.size 0 63 cs5 m5 w5 (by omega) hhi HM.out.2.2.2.1 HM.out.2.2.2.2.2 HM.out.2.2.1 (fun s hs => Nat.le_trans (HM.out.2.1 s hs) hl)).mono ?_
  rintro e w6 ⟨rfl, h6⟩
  have H6 : Hid _ := h6
  clear h6
  go_wp2
  go_ret2
  exact ⟨m5, HM.out.1, HM.out.2.2.1, HM.out.2.1, rfl, HM.out.2.2.2.2.1.trans' H6.out⟩

end Go.Proofs.Ytojjkjfcbfoinaa
