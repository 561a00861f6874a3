/- sets.Line.place: how many points are ahead of a time, found by halving. -/
import Derived.Test.YtojjkjfcbfoinaaSetRead
import Derived.Test.YtojjkjfcbfoinaaSortA
import Derived.Test.YtojjkjfcbfoinaaPureE
namespace Go.Proofs.Ytojjkjfcbfoinaa
open Go.RowKit Go.Shelf

set_option maxHeartbeats 400000 in
theorem LinePlaceCl_any (a x t : Int) (w : World) :
    Calls Try.prog 71 #[.agg #[.int .i64 a, .int .u64 x], .int .i64 t] w fun e w' => e = .returned (.int .i64 (cmpI a t)) ∧ Fp (fun _ => False) w w' := by
  go_enter Try.func71, Try.ntmps71
  go_wp2_with (go_at_call 72; refine (Compare_any _ _ _).mono ?_; rintro e w' ⟨rfl, rfl⟩)
  go_ret
  exact ⟨ret_val (by simp), Fp.alloc _ _ _⟩

theorem BinSearch_nil (t : Int) (w : World) :
    Calls Try.prog 70 #[.slice none 0 0, .int .i64 t, .func (.func 71) #[] #[]] w fun e w' => ∃ b, e = .returned (.tuple #[.int .i64 0, .bool b]) ∧ Fp (fun _ => False) w w' := by
  go_enter Try.func70, Try.ntmps70
  go_wp2_with fail
  go_loopw [9, 10] (fun iv jv wr => iv = .int .i64 0 ∧ jv = .int .i64 0 ∧ wr = w) (fun _ _ _ => 0)
  case atStart => exact ⟨rfl, rfl, rfl⟩
  case round =>
    obtain ⟨rfl, rfl, rfl⟩ := hrel
    go_wp2
    go_ret2
    exact ⟨_, rfl, Fp.refl _ _⟩

set_option maxHeartbeats 1000000 in
theorem BinSearch_row (base g cap : Nat) (ps : List Silo.Pt) (t : Int) (w : World) (h : World.ptsAt w base (.slice (some ⟨g, 0, none⟩) ps.length cap) ps) (hr : Silo.Rising ps) (hl : ps.length ≤ 1099511627776) :
    Calls Try.prog 70 #[.slice (some ⟨g, 0, none⟩) ps.length cap, .int .i64 t, .func (.func 71) #[] #[]] w fun e w' => ∃ b, e = .returned (.tuple #[.int .i64 (Silo.placeOf t ps : Nat), .bool b]) ∧ Fp (fun _ => False) w w' := by
  obtain ⟨N, hN⟩ : ∃ N, ps.length = N := ⟨_, rfl⟩
  rw [hN] at h ⊢
  have H : Hid _ := And.intro hN (And.intro h hr)
  rw [hN] at hl
  clear h hr hN
  go_enter Try.func70, Try.ntmps70
  go_wp2_with fail
  go_loopw [9, 10] (fun iv jv wr => ∃ i j : Nat, i ≤ j ∧ j ≤ N ∧ iv = .int .i64 i ∧ jv = .int .i64 j ∧ Hid ((∀ k (hk : k < ps.length), k < i → ps[k].t < t) ∧ (∀ k (hk : k < ps.length), j ≤ k → t ≤ ps[k].t) ∧ Fp (fun _ => False) w wr)) (fun iv jv _ => (intOf jv).toNat - (intOf iv).toNat)
  case atStart => exact ⟨0, N, Nat.zero_le _, Nat.le_refl _, rfl, rfl, fun k _ h => by omega, fun k hk h => by have := H.out.1; omega, Fp.refl _ _⟩
  case round =>
    obtain ⟨i, j, hij, hj, rfl, rfl, HR⟩ := hrel
    have hw : World.ptsAt wr base (.slice (some ⟨g, 0, none⟩) ps.length cap) ps := by rw [H.out.1]; exact Fp.ownsRow HR.out.2.2 H.out.2.1 (fun _ _ h => h)
    have HW : Hid _ := hw
    clear hw
    by_cases hlt : i < j
    · obtain ⟨m, hm⟩ : ∃ m, (i + j) / 2 = m := ⟨_, rfl⟩
      have bh : ((i : Int) + (j : Int)) / 2 = (m : Int) := by omega
      have h1 : i ≤ m := by omega
      have h2 : m < j := by omega
      have l0 : ps.length = N := H.out.1
      have l1 : m < ps.length := by omega
      have l3 : (m : Int) < (N : Int) := by omega
      obtain ⟨c0, c1⟩ := ptsAt_cell HW.out m l1
      obtain ⟨x, hx⟩ : ∃ x, ps[m] = x := ⟨_, rfl⟩
      rw [hx] at c0 c1
      have HX : Hid _ := And.intro l0 hx
      clear hm l0 hx
      go_wp2_with fail
      refine (LinePlaceCl_any x.t x.v t wr).mono ?_
      rintro e w2 ⟨rfl, h2'⟩
      have H2 : Hid _ := h2'
      clear h2'
      by_cases hc : x.t < t
      · have hcc : decide (cmpI x.t t < 0) = true := by rw [decide_eq_true_eq, cmpI_lt]; exact hc
        go_wp2
        go_roundw
        case rel =>
          refine ⟨m + 1, j, by omega, hj, by go_num, rfl, fun k hk hk' => ?_, HR.out.2.1, HR.out.2.2.trans' H2.out⟩
          by_cases e : k = m
          · subst e; rw [HX.out.2]; exact hc
          · have := H.out.2.2.at_lt (i := k) (j := m) (by omega) l1
            rw [HX.out.2] at this
            omega
        case measure => simp [intOf]; omega
      · have hcc : decide (cmpI x.t t < 0) = false := by rw [decide_eq_false_iff_not, cmpI_lt]; exact hc
        go_wp2
        go_roundw
        case rel =>
          refine ⟨i, m, h1, by omega, rfl, rfl, HR.out.1, fun k hk hk' => ?_, HR.out.2.2.trans' H2.out⟩
          by_cases e : k = m
          · subst e; rw [HX.out.2]; omega
          · have := H.out.2.2.at_lt (i := m) (j := k) (by omega) hk
            rw [HX.out.2] at this
            omega
        case measure => simp [intOf]; omega
    · obtain rfl : i = j := by omega
      have hp : Silo.placeOf t ps = i := Silo.placeOf_of (by have := H.out.1; omega) (fun q hq => HR.out.1 q (by have := H.out.1; omega) hq) (fun hq => Int.not_lt.2 (HR.out.2.1 i hq (Nat.le_refl _)))
      have HP : Hid _ := hp
      clear hp
      by_cases hn : i < N
      · have l0 : ps.length = N := H.out.1
        have l1 : i < ps.length := by omega
        have l3 : (i : Int) < (N : Int) := by omega
        obtain ⟨c0, c1⟩ := ptsAt_cell HW.out i l1
        obtain ⟨x, hx⟩ : ∃ x, ps[i] = x := ⟨_, rfl⟩
        rw [hx] at c0 c1
        clear l0 hx
        go_wp2_with fail
        refine (LinePlaceCl_any x.t x.v t wr).mono ?_
        rintro e w2 ⟨rfl, h2'⟩
        have H2 : Hid _ := h2'
        clear h2'
        go_wp2
        go_ret2
        exact ⟨cmpI x.t t == 0, by rw [HP.out]; rfl, HR.out.2.2.trans' H2.out⟩
      · have l3 : ¬ (i : Int) < (N : Int) := by omega
        go_wp2
        go_ret2
        exact ⟨.inl (by rw [HP.out]; rfl), HR.out.2.2⟩

theorem BinSearch_any (base : Nat) (v : Value) (ps : List Silo.Pt) (t : Int) (w : World) (hp : World.ptsAt w base v ps) (hr : Silo.Rising ps) (hl : ps.length ≤ 1099511627776) :
    Calls Try.prog 70 #[v, .int .i64 t, .func (.func 71) #[] #[]] w fun e w' => ∃ b, e = .returned (.tuple #[.int .i64 (Silo.placeOf t ps : Nat), .bool b]) ∧ Fp (fun _ => False) w w' := by
  rcases hp.2 with ⟨h1, h2⟩ | ⟨g, cap, cur, h3, _⟩
  · have : ps = [] := List.length_eq_zero_iff.1 h2
    subst this
    rw [h1]
    refine (BinSearch_nil t w).mono ?_
    rintro e w' ⟨b, rfl, h⟩
    exact ⟨b, rfl, h⟩
  · rw [h3] at hp ⊢
    exact BinSearch_row base g cap ps t w hp hr hl

set_option maxHeartbeats 400000 in
theorem LinePlace_any (w : World) (base tb k : Nat) (v : Value) (ps : List Silo.Pt) (t : Int) (h : LineAt w base tb k v ps) (hr : Silo.Rising ps) (hl : ps.length ≤ 1099511627776) :
    Calls Try.prog 51 #[.pointer (some ⟨tb, k, none⟩), .int .i64 t] w fun e w' => e = .returned (.int .i64 (Silo.placeOf t ps : Nat)) ∧ Fp (fun _ => False) w w' := by
  obtain ⟨cs, ty, hb, _, hv, hp, _⟩ := h
  have hc : w.cell? ⟨tb, k, none⟩ = some v := by simp [World.cell?, hb, hv]
  have HB : Hid _ := And.intro hp hr
  clear hb hv hp hr
  go_enter Try.func51, Try.ntmps51
  go_wp2_with fail
  refine (BinSearch_any base v ps t w HB.out.1 HB.out.2 hl).mono ?_
  rintro e w1 ⟨b, rfl, h1⟩
  have H1 : Hid _ := h1
  clear h1
  go_wp2
  go_ret
  exact ⟨ret_val (by simp), H1.out⟩

end Go.Proofs.Ytojjkjfcbfoinaa
