/- The library's stable sort over points. -/
import Derived.Test.YtojjkjfcbfoinaaSortF
namespace Silo

/-- In rising order within each stretch of bs, as far as n. -/
def Runs (qs : List Pt) (bs n : Nat) : Prop := ∀ i j, i < j → j < n → i / bs = j / bs → (ptAt qs i).t ≤ (ptAt qs j).t
def RunsFrom (qs : List Pt) (bs a n : Nat) : Prop := ∀ i j, a ≤ i → i < j → j < n → i / bs = j / bs → (ptAt qs i).t ≤ (ptAt qs j).t

theorem at_least {bs a i j : Nat} (hd : bs ∣ a) (h : a ≤ j) (e : i / bs = j / bs) : a ≤ i := by
  obtain ⟨c, rfl⟩ := hd
  by_cases hb : bs = 0
  · subst hb; simp
  · have h1 : c ≤ j / bs := (Nat.le_div_iff_mul_le (by omega)).2 (by rw [Nat.mul_comm]; exact h)
    rw [← e] at h1
    have h2 := (Nat.le_div_iff_mul_le (by omega : 0 < bs)).1 h1
    rwa [Nat.mul_comm] at h2

theorem same_block {bs a i : Nat} (hd : bs ∣ a) (h1 : a ≤ i) (h2 : i < a + bs) : i / bs = a / bs := by
  obtain ⟨c, rfl⟩ := hd
  have hb : 0 < bs := by omega
  rw [Nat.mul_div_cancel_left _ hb]
  exact Nat.div_eq_of_lt_le (by rw [Nat.mul_comm]; exact h1) (by rw [Nat.succ_mul, Nat.mul_comm c bs]; exact h2)

theorem Runs.more {qs rs : List Pt} {bs a e : Nat} (hd : bs ∣ a) (hr : Runs qs bs a) (w : Within qs rs a e) (s : Sorted rs a e) : Runs rs bs e := by
  intro i j h1 h2 h3
  by_cases c : j < a
  · rw [w.out i (.inl (by omega)), w.out j (.inl c)]; exact hr i j h1 c h3
  · exact s i j (at_least hd (by omega) h3) h1 h2

theorem Runs.sorted {qs : List Pt} {bs n : Nat} (h : Runs qs bs n) (hb : n ≤ bs) : Sorted qs 0 n := by
  intro i j _ h1 h2
  exact h i j h1 h2 (by rw [Nat.div_eq_of_lt (by omega), Nat.div_eq_of_lt (by omega)])

theorem RunsFrom.sorted {qs : List Pt} {bs a e n : Nat} (h : RunsFrom qs bs a n) (hd : bs ∣ a) (h1 : e ≤ a + bs) (h2 : e ≤ n) : Sorted qs a e := by
  intro i j g1 g2 g3
  exact h i j g1 g2 (by omega) ((same_block hd g1 (by omega)).trans (same_block hd (by omega) (by omega)).symm)

theorem RunsFrom.later {qs : List Pt} {bs a a' n : Nat} (h : RunsFrom qs bs a n) (h1 : a ≤ a') : RunsFrom qs bs a' n :=
  fun i j g1 g2 g3 g4 => h i j (by omega) g2 g3 g4

theorem RunsFrom.within {qs rs : List Pt} {bs a n : Nat} {lo : Nat} (h : RunsFrom qs bs a n) (w : Within qs rs lo a) : RunsFrom rs bs a n := by
  intro i j g1 g2 g3 g4
  rw [w.out i (.inr g1), w.out j (.inr (by omega))]
  exact h i j g1 g2 g3 g4

end Silo

namespace Go.Proofs.Ytojjkjfcbfoinaa
open Go.RowKit
open Silo (ptAt sw rot)

theorem insertion_any (g cap a b : Nat) (ps : List Silo.Pt) (tail : List Value) (w : World) (N : Nat) (hN : ps.length = N) (h : PB w g ps tail) (ha : a ≤ b) (hb : b ≤ N) (hl : N ≤ 1099511627776) :
    Calls Try.prog 83 #[.slice (some ⟨g, 0, none⟩) N cap, .int .i64 a, .int .i64 b, .func (.func 56) #[] #[]] w fun e w' => e = .returned (.tuple #[]) ∧
      ∃ qs, PB w' g qs tail ∧ Silo.Within ps qs a b ∧ Silo.Sorted qs a b ∧ Fp (fun k => k = g) w w' := by
  subst hN
  exact callsIn_wide.1 (insertion_in 5 (by decide) g cap a b ps tail w h ha hb hl)

set_option maxHeartbeats 1000000 in
set_option maxRecDepth 100000 in
theorem stable_any (g cap : Nat) (ps : List Silo.Pt) (tail : List Value) (w : World) (N : Nat) (hN : ps.length = N) (h : PB w g ps tail) (hl : N ≤ 1099511627776) :
    Calls Try.prog 74 #[.slice (some ⟨g, 0, none⟩) N cap, .int .i64 N, .func (.func 56) #[] #[]] w fun e w' => e = .returned (.tuple #[]) ∧
      ∃ qs, PB w' g qs tail ∧ Silo.Within ps qs 0 N ∧ Silo.Sorted qs 0 N ∧ Fp (fun k => k = g) w w' := by
  have H : Hid _ := And.intro hN h
  clear h hN
  go_enter Try.func74, Try.ntmps74
  go_wp2_with fail
  go_loopw [7, 8] (fun iv jv wr => ∃ a b : Nat, a ≤ N ∧ b = a + 20 ∧ iv = .int .i64 a ∧ jv = .int .i64 b ∧ Hid (20 ∣ a ∧ ∃ qs, PB wr g qs tail ∧ Silo.Within ps qs 0 N ∧ Silo.Runs qs 20 a ∧ Fp (fun k => k = g) w wr)) (fun _ jv _ => N + 1 - (intOf jv).toNat)
  case atStart => exact ⟨0, 20, by omega, rfl, rfl, rfl, ⟨0, rfl⟩, ps, H.out.2, Silo.Within.refl _ _ _, fun i j h1 h2 => by omega, Fp.refl _ _⟩
  case round =>
    obtain ⟨a, b, ha, hab, rfl, rfl, HR⟩ := hrel
    have b0 : (a : Int) + 20 = (b : Int) := by omega
    have HAB : Hid (b = a + 20) := hab
    have hab' : a ≤ b := by omega
    have hbl : b ≤ N + 20 := by omega
    clear hab
    by_cases hlt : b ≤ N
    · go_wp2_with fail
      refine (insertion_any g cap a b HR.out.2.choose tail wr N (by rw [HR.out.2.choose_spec.2.1.len]; exact H.out.1) HR.out.2.choose_spec.1 hab' hlt hl).mono ?_
      rintro e w2 ⟨rfl, h2⟩
      have H2 : Hid _ := h2
      clear h2
      go_wp2
      go_roundw
      case rel =>
        obtain ⟨q1, q2, q3, q4⟩ := HR.out.2.choose_spec
        obtain ⟨rs, r1, r2, r3, r4⟩ := H2.out
        have e := HAB.out
        refine ⟨b, b + 20, hlt, rfl, rfl, by go_num, ?_, rs, r1, q2.trans (r2.wider (by omega) (by omega)), q3.more HR.out.1 r2 r3, q4.trans' r4⟩
        rw [e]
        exact Nat.dvd_add HR.out.1 ⟨1, rfl⟩
      case measure => simp [intOf]; omega
    · go_wp2_with fail
      refine (insertion_any g cap a N HR.out.2.choose tail wr N (by rw [HR.out.2.choose_spec.2.1.len]; exact H.out.1) HR.out.2.choose_spec.1 ha (Nat.le_refl _) hl).mono ?_
      rintro e w2 ⟨rfl, h2⟩
      have H3 : Hid (∃ qs, PB w2 g qs tail ∧ Silo.Within ps qs 0 N ∧ Silo.Runs qs 20 N ∧ Fp (fun k => k = g) w w2) := by
        obtain ⟨q1, q2, q3, q4⟩ := HR.out.2.choose_spec
        obtain ⟨rs, r1, r2, r3, r4⟩ := h2
        exact ⟨rs, r1, q2.trans (r2.wider (by omega) (by omega)), q3.more HR.out.1 r2 r3, q4.trans' r4⟩
      clear h2
      go_wp2_with fail
      go_loopw [6] (fun iv wq => ∃ bs : Nat, 0 < bs ∧ bs ≤ 2 * N + 20 ∧ iv = .int .i64 bs ∧ Hid (∃ qs, PB wq g qs tail ∧ Silo.Within ps qs 0 N ∧ Silo.Runs qs bs N ∧ Fp (fun k => k = g) w wq)) (fun iv _ => N - (intOf iv).toNat)
      case atStart => exact ⟨20, by omega, by omega, rfl, H3.out⟩
      case round =>
        obtain ⟨bs, hbs, hbs2, rfl, HQ⟩ := hrel
        obtain ⟨bb, hbb⟩ : ∃ bb, 2 * bs = bb := ⟨_, rfl⟩
        have m1 : (2 : Int) * (bs : Int) = (bb : Int) := by omega
        have m2 : (bs : Int) * 2 = (bb : Int) := by omega
        by_cases hlt2 : bs < N
        · have HBB : Hid _ := hbb
          have hbb1 : bb ≤ 2 * N := by omega
          have hbb2 : bs < bb := by omega
          clear hbb
          go_wp2_with fail
          go_loopw [7, 8] (fun iv jv wr => ∃ x y : Nat, x ≤ N ∧ y ≤ N + bb ∧ iv = .int .i64 x ∧ jv = .int .i64 y ∧ Hid (y = x + bb ∧ bb ∣ x ∧ ∃ qs, PB wr g qs tail ∧ Silo.Within ps qs 0 N ∧ Silo.Runs qs bb x ∧ Silo.RunsFrom qs bs x N ∧ Fp (fun k => k = g) w wr)) (fun _ jv _ => N + 1 - (intOf jv).toNat)
          case atStart =>
            obtain ⟨qs, q1, q2, q3, q4⟩ := HQ.out
            exact ⟨0, bb, by omega, by omega, rfl, rfl, by omega, ⟨0, rfl⟩, qs, q1, q2, fun i j h1 h2 => by omega, fun i j _ h1 h2 h3 => q3 i j h1 h2 h3, q4⟩
          case round =>
            obtain ⟨x, y, hx, hy, rfl, rfl, HX⟩ := hrel
            obtain ⟨z, hz⟩ : ∃ z, x + bs = z := ⟨_, rfl⟩
            have bz : (x : Int) + (bs : Int) = (z : Int) := by omega
            have hz1 : x < z := by omega
            have hzy : z < y := by have := HX.out.1; omega
            have HZ : Hid _ := hz
            clear hz
            have hdv : bs ∣ x := Nat.dvd_trans ⟨2, by rw [← HBB.out]; omega⟩ HX.out.2.1
            have hdz : bs ∣ z := by rw [← HZ.out]; exact Nat.dvd_add hdv ⟨1, by omega⟩
            by_cases hlt3 : y ≤ N
            · go_wp2_with fail
              refine (symMerge_any N g cap tail hl x z y hz1 hzy hlt3 HX.out.2.2.choose wr (by rw [HX.out.2.2.choose_spec.2.1.len]; exact H.out.1) HX.out.2.2.choose_spec.1 (HX.out.2.2.choose_spec.2.2.2.1.sorted hdv (by rw [HZ.out]; omega) (by omega)) ((HX.out.2.2.choose_spec.2.2.2.1.later (Nat.le_of_lt hz1)).sorted hdz (by have h1 := HZ.out; have h2 := HBB.out; have h3 := HX.out.1; omega) hlt3)).mono ?_
              rintro e w4 ⟨rfl, h4⟩
              have H4 : Hid _ := h4
              clear h4
              go_wp2
              go_roundw
              case rel =>
                obtain ⟨q1, q2, q3, q4, q5⟩ := HX.out.2.2.choose_spec
                obtain ⟨rs, r1, r2, r3, r4⟩ := H4.out
                have e := HX.out.1
                refine ⟨y, y + bb, hlt3, by omega, rfl, by go_num, rfl, ?_, rs, r1, q2.trans (r2.wider (by omega) (by omega)), q3.more HX.out.2.1 r2 r3, (q4.later (by omega)).within r2, q5.trans' r4⟩
                rw [e]
                exact Nat.dvd_add HX.out.2.1 ⟨1, by omega⟩
              case measure => simp [intOf]; omega
            · by_cases hlt4 : z < N
              · go_wp2_with fail
                refine (symMerge_any N g cap tail hl x z N hz1 hlt4 (Nat.le_refl _) HX.out.2.2.choose wr (by rw [HX.out.2.2.choose_spec.2.1.len]; exact H.out.1) HX.out.2.2.choose_spec.1 (HX.out.2.2.choose_spec.2.2.2.1.sorted hdv (by rw [HZ.out]; omega) (by omega)) ((HX.out.2.2.choose_spec.2.2.2.1.later (Nat.le_of_lt hz1)).sorted hdz (by have h1 := HZ.out; have h2 := HBB.out; have h3 := HX.out.1; omega) (Nat.le_refl _))).mono ?_
                rintro e w4 ⟨rfl, h4⟩
                have H4 : Hid _ := h4
                clear h4
                go_wp2
                go_roundw
                case rel =>
                  obtain ⟨q1, q2, q3, q4, q5⟩ := HX.out.2.2.choose_spec
                  obtain ⟨rs, r1, r2, r3, r4⟩ := H4.out
                  exact ⟨bb, by omega, by omega, by go_num, rs, r1, q2.trans (r2.wider (by omega) (by omega)), q3.more HX.out.2.1 r2 r3, q5.trans' r4⟩
                case measure => simp [intOf]; omega
              · go_wp2
                go_roundw
                case rel =>
                  obtain ⟨q1, q2, q3, q4, q5⟩ := HX.out.2.2.choose_spec
                  exact ⟨bb, by omega, by omega, by go_num, _, q1, q2, q3.more HX.out.2.1 (Silo.Within.refl _ _ _) (q4.sorted hdv (by rw [HZ.out]; omega) (Nat.le_refl _)), q5⟩
                case measure => simp [intOf]; omega
        · go_wp2
          go_end0
          obtain ⟨qs, q1, q2, q3, q4⟩ := HQ.out
          exact ⟨rfl, qs, q1, q2, q3.sorted (by omega), q4⟩

theorem SortStable_any (g cap : Nat) (ps : List Silo.Pt) (tail : List Value) (w : World) (N : Nat) (hN : ps.length = N) (h : PB w g ps tail) (hl : N ≤ 1099511627776) :
    Calls Try.prog 55 #[.slice (some ⟨g, 0, none⟩) N cap, .func (.func 56) #[] #[]] w fun e w' => e = .returned (.tuple #[]) ∧
      ∃ qs, PB w' g qs tail ∧ Silo.Within ps qs 0 N ∧ Silo.Sorted qs 0 N ∧ Fp (fun k => k = g) w w' := by
  have H : Hid _ := And.intro hN h
  clear h hN
  go_enter Try.func55, Try.ntmps55
  go_wp2_with fail
  refine (stable_any g cap ps tail w N H.out.1 H.out.2 hl).mono ?_
  rintro e w2 ⟨rfl, h2⟩
  have H2 : Hid _ := h2
  clear h2
  go_wp2
  go_end0
  exact ⟨rfl, H2.out⟩

theorem insertion_nil (w : World) :
    Calls Try.prog 83 #[.slice none 0 0, .int .i64 0, .int .i64 0, .func (.func 56) #[] #[]] w fun e w' => e = .returned (.tuple #[]) ∧ w' = w := by
  go_enter Try.func83, Try.ntmps83
  go_wp2_with fail
  go_loopw [8] (fun iv wr => iv = .int .i64 1 ∧ wr = w) (fun _ _ => 0)
  case atStart => exact ⟨rfl, rfl⟩
  case round =>
    obtain ⟨rfl, rfl⟩ := hrel
    go_wp2
    go_end0
    exact ⟨rfl, rfl⟩

theorem stable_nil (w : World) :
    Calls Try.prog 74 #[.slice none 0 0, .int .i64 0, .func (.func 56) #[] #[]] w fun e w' => e = .returned (.tuple #[]) ∧ w' = w := by
  go_enter Try.func74, Try.ntmps74
  go_wp2_with fail
  go_loopw [7, 8] (fun iv jv wr => iv = .int .i64 0 ∧ jv = .int .i64 20 ∧ wr = w) (fun _ _ _ => 0)
  case atStart => exact ⟨rfl, rfl, rfl⟩
  case round =>
    obtain ⟨rfl, rfl, rfl⟩ := hrel
    go_wp2_with fail
    refine (insertion_nil wr).mono ?_
    rintro e w2 ⟨rfl, rfl⟩
    go_wp2_with fail
    go_loopw [6] (fun iv wq => iv = .int .i64 20 ∧ wq = w2) (fun _ _ => 0)
    case atStart => exact ⟨rfl, rfl⟩
    case round =>
      obtain ⟨rfl, rfl⟩ := hrel
      go_wp2
      go_end0
      exact ⟨rfl, rfl⟩

theorem SortStable_nil (w : World) :
    Calls Try.prog 55 #[.slice none 0 0, .func (.func 56) #[] #[]] w fun e w' => e = .returned (.tuple #[]) ∧ w' = w := by
  go_enter Try.func55, Try.ntmps55
  go_wp2_with fail
  refine (stable_nil w).mono ?_
  rintro e w2 ⟨rfl, rfl⟩
  go_wp2
  go_end0
  exact ⟨rfl, rfl⟩

end Go.Proofs.Ytojjkjfcbfoinaa
