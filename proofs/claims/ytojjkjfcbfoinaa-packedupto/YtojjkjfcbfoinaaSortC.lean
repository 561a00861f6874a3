/- The library's rotate over points. -/
import Derived.Test.YtojjkjfcbfoinaaSortB
namespace Go.Proofs.Ytojjkjfcbfoinaa
open Go.RowKit
open Silo (ptAt sw rot)

theorem swR_at (ps : List Silo.Pt) (a b : Nat) : ∀ (k z : Nat), a + k ≤ b → b + k ≤ ps.length →
    ptAt (swR ps a b k) z = if a ≤ z ∧ z < a + k then ptAt ps (z - a + b) else if b ≤ z ∧ z < b + k then ptAt ps (z - b + a) else ptAt ps z := by
  intro k
  induction k with
  | zero => intro z _ _; rw [swR, if_neg (by omega), if_neg (by omega)]
  | succ k ih =>
    intro z h1 h2
    rw [swR, Silo.sw_at _ _ _ _ (by rw [swR_length]; omega) (by rw [swR_length]; omega)]
    by_cases c1 : z = b + k
    · rw [if_pos c1, ih _ (by omega) (by omega), if_neg (by omega), if_neg (by omega), if_neg (by omega), if_pos (by omega)]
      congr 1; omega
    · rw [if_neg c1]
      by_cases c2 : z = a + k
      · rw [if_pos c2, ih _ (by omega) (by omega), if_neg (by omega), if_neg (by omega), if_pos (by omega)]
        congr 1; omega
      · rw [if_neg c2, ih _ (by omega) (by omega)]
        repeat' split
        all_goals first | omega | rfl | (congr 1 <;> omega)

theorem rot_more (qs : List Silo.Pt) (m x y : Nat) (hy : y < x) (hx : x ≤ m) (hl : m + y ≤ qs.length) : rot (swR qs (m - x) m y) (m - (x - y)) m (m + y) = rot qs (m - x) m (m + y) := by
  have hlen := swR_length qs (m - x) m y
  refine Silo.list_ext_at (by rw [Silo.rot_length _ _ _ _ (by omega) (by omega) (by omega), Silo.rot_length _ _ _ _ (by omega) (by omega) (by omega), hlen]) ?_
  intro k _
  rw [Silo.rot_at _ _ _ _ _ (by omega) (by omega) (by omega), Silo.rot_at _ _ _ _ _ (by omega) (by omega) (by omega)]
  simp only [swR_at qs (m - x) m y _ (by omega) (by omega)]
  repeat' split
  all_goals first | omega | rfl | (congr 1 <;> omega)

theorem rot_less (qs : List Silo.Pt) (m x y : Nat) (hy : x < y) (hx : x ≤ m) (hl : m + y ≤ qs.length) : rot (swR qs (m - x) (m + y - x) x) (m - x) m (m + (y - x)) = rot qs (m - x) m (m + y) := by
  have hlen := swR_length qs (m - x) (m + y - x) x
  refine Silo.list_ext_at (by rw [Silo.rot_length _ _ _ _ (by omega) (by omega) (by omega), Silo.rot_length _ _ _ _ (by omega) (by omega) (by omega), hlen]) ?_
  intro k _
  rw [Silo.rot_at _ _ _ _ _ (by omega) (by omega) (by omega), Silo.rot_at _ _ _ _ _ (by omega) (by omega) (by omega)]
  simp only [swR_at qs (m - x) (m + y - x) x _ (by omega) (by omega)]
  repeat' split
  all_goals first | omega | rfl | (congr 1 <;> omega)

theorem rot_same (qs : List Silo.Pt) (m x : Nat) (hx : x ≤ m) (hl : m + x ≤ qs.length) : swR qs (m - x) m x = rot qs (m - x) m (m + x) := by
  refine Silo.list_ext_at (by rw [swR_length, Silo.rot_length _ _ _ _ (by omega) (by omega) (by omega)]) ?_
  intro k _
  rw [swR_at qs (m - x) m x k (by omega) (by omega), Silo.rot_at _ _ _ _ _ (by omega) (by omega) (by omega)]
  repeat' split
  all_goals first | omega | rfl | (congr 1 <;> omega)

theorem swapRange_any (g cap a b m : Nat) (ps : List Silo.Pt) (tail : List Value) (w : World) (N : Nat) (hN : ps.length = N) (h : PB w g ps tail) (ha : a + m ≤ N) (hb : b + m ≤ N) (hl : N ≤ 1099511627776) :
    Calls Try.prog 88 #[.slice (some ⟨g, 0, none⟩) N cap, .int .i64 a, .int .i64 b, .int .i64 m, .func (.func 56) #[] #[]] w fun e w' => e = .returned (.tuple #[]) ∧
      PB w' g (swR ps a b m) tail ∧ Fp (fun k => k = g) w w' := by
  subst hN
  exact callsIn_wide.1 (swapRange_in 5 (by decide) g cap a b m ps tail w h ha hb hl)

set_option maxHeartbeats 1000000 in
set_option maxRecDepth 100000 in
theorem rotate_any (g cap a m b : Nat) (ps : List Silo.Pt) (tail : List Value) (w : World) (N : Nat) (hN : ps.length = N) (h : PB w g ps tail) (h1 : a < m) (h2 : m < b) (h3 : b ≤ N) (hl : N ≤ 1099511627776) :
    Calls Try.prog 87 #[.slice (some ⟨g, 0, none⟩) N cap, .int .i64 a, .int .i64 m, .int .i64 b, .func (.func 56) #[] #[]] w fun e w' => e = .returned (.tuple #[]) ∧
      PB w' g (rot ps a m b) tail ∧ Fp (fun k => k = g) w w' := by
  have H : Hid _ := And.intro hN h
  clear h hN
  go_enter Try.func87, Try.ntmps87
  go_wp2_with fail
  go_loopw [10, 11] (fun iv jv wr => ∃ x y : Nat, 1 ≤ x ∧ 1 ≤ y ∧ a + x ≤ m ∧ m + y ≤ b ∧ iv = .int .i64 x ∧ jv = .int .i64 y ∧ Hid (∃ qs, PB wr g qs tail ∧ qs.length = N ∧ rot qs (m - x) m (m + y) = rot ps a m b ∧ Fp (fun k => k = g) w wr)) (fun iv jv _ => (intOf iv).toNat + (intOf jv).toNat)
  case atStart =>
    refine ⟨m - a, b - m, by omega, by omega, by omega, by omega, by go_num, by go_num, ps, H.out.2, H.out.1, ?_, Fp.refl _ _⟩
    rw [show m - (m - a) = a from by omega, show m + (b - m) = b from by omega]
  case round =>
    obtain ⟨x, y, hx1, hy1, hx, hy, rfl, rfl, HR⟩ := hrel
    obtain ⟨p, hp⟩ : ∃ p, m - x = p := ⟨_, rfl⟩
    have bp : (m : Int) - (x : Int) = (p : Int) := by omega
    by_cases hne : x = y
    · subst hne
      have d1 : ((x : Int) == (x : Int)) = true := by simp
      go_wp2_with fail
      refine (swapRange_any g cap p m x (HR.out.choose) tail wr N HR.out.choose_spec.2.1 HR.out.choose_spec.1 (by omega) (by omega) hl).mono ?_
      rintro e w2 ⟨rfl, h2'⟩
      have H2 : Hid _ := h2'
      clear h2'
      go_wp2
      go_end0
      obtain ⟨q1, q2, q3, q4⟩ := HR.out.choose_spec
      refine ⟨rfl, ?_, q4.trans' H2.out.2⟩
      have := H2.out.1
      rw [← hp, rot_same _ _ _ (by omega) (by omega), q3] at this
      exact this
    · by_cases hgt : y < x
      · have d1 : ((x : Int) == (y : Int)) = false := by simp; omega
        go_wp2_with fail
        refine (swapRange_any g cap p m y (HR.out.choose) tail wr N HR.out.choose_spec.2.1 HR.out.choose_spec.1 (by omega) (by omega) hl).mono ?_
        rintro e w2 ⟨rfl, h2'⟩
        have H2 : Hid _ := h2'
        clear h2'
        go_wp2
        go_roundw
        case rel =>
          obtain ⟨q1, q2, q3, q4⟩ := HR.out.choose_spec
          refine ⟨x - y, y, by omega, by omega, by omega, by omega, by go_num, rfl, _, H2.out.1, by rw [swR_length]; exact q2, ?_, q4.trans' H2.out.2⟩
          rw [← hp, rot_more _ _ _ _ hgt (by omega) (by omega), q3]
        case measure => simp [intOf]; omega
      · have d1 : ((x : Int) == (y : Int)) = false := by simp; omega
        obtain ⟨r, hr⟩ : ∃ r, m + y - x = r := ⟨_, rfl⟩
        have br : (m : Int) + (y : Int) - (x : Int) = (r : Int) := by omega
        go_wp2_with fail
        refine (swapRange_any g cap p r x (HR.out.choose) tail wr N HR.out.choose_spec.2.1 HR.out.choose_spec.1 (by omega) (by omega) hl).mono ?_
        rintro e w2 ⟨rfl, h2'⟩
        have H2 : Hid _ := h2'
        clear h2'
        go_wp2
        go_roundw
        case rel =>
          obtain ⟨q1, q2, q3, q4⟩ := HR.out.choose_spec
          refine ⟨x, y - x, by omega, by omega, by omega, by omega, rfl, by go_num, _, H2.out.1, by rw [swR_length]; exact q2, ?_, q4.trans' H2.out.2⟩
          rw [← hp, ← hr, rot_less _ _ _ _ (by omega) (by omega) (by omega), q3]
        case measure => simp [intOf]; omega

end Go.Proofs.Ytojjkjfcbfoinaa
