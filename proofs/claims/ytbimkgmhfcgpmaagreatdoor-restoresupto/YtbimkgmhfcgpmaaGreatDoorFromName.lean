/- blocks.FromName. -/
import Derived.Test.YtbimkgmhfcgpmaaGreatDoorTxtOne
import Derived.Test.YtbimkgmhfcgpmaaGreatDoorDecOne
namespace Silo

def fromP (s : List UInt8) : Option (Nat × Nat) :=
  if Go.Lib.hasPrefix s [98] = true then
    if (Go.Lib.cut (Go.Lib.trimPrefix s [98]) [46]).2.2 = true then
      match numOf (Go.Lib.cut (Go.Lib.trimPrefix s [98]) [46]).1 999999, numOf (Go.Lib.cut (Go.Lib.trimPrefix s [98]) [46]).2.1 999999 with
      | some lo, some hi => if lo ≤ hi then some (lo, hi) else none
      | _, _ => none
    else none
  else none

theorem fromP_eq (s : List UInt8) : rangeOf s = fromP s := by
  cases hr : rangeOf s with
  | some q =>
    obtain ⟨lo, hi⟩ := q
    obtain ⟨rfl, h1, h2⟩ := (rangeOf_iff s lo hi).1 hr
    have hp : Go.Lib.hasPrefix (nameOf lo hi) [98] = true := by simp [Go.Lib.hasPrefix, nameOf]
    have ht : Go.Lib.trimPrefix (nameOf lo hi) [98] = Go.Lib.decDigits lo ++ 46 :: Go.Lib.decDigits hi := by
      unfold Go.Lib.trimPrefix
      rw [if_pos hp]
      rfl
    unfold fromP
    rw [if_pos hp, ht, Go.Proofs.YtbimkgmhfcgpmaaGreatDoor.cut_hit _ (digit_ne lo 46 (by decide))]
    simp only
    rw [if_pos True.intro, numOf_dec lo 999999 (by omega) (by decide), numOf_dec hi 999999 h2 (by decide)]
    simp only
    rw [if_pos h1]
  | none =>
    unfold fromP
    split
    · rename_i hp
      split
      · rename_i hd
        split
        · rename_i lo hi h1 h2
          split
          · rename_i hle
            exfalso
            obtain ⟨a, r, hn, ha⟩ : ∃ a r, Go.Lib.trimPrefix s [98] = a ++ 46 :: r ∧ (46 : UInt8) ∉ a := by
              by_cases hc : (46 : UInt8) ∈ Go.Lib.trimPrefix s [98]
              · exact cut_at 46 _ hc
              · rw [Go.Proofs.YtbimkgmhfcgpmaaGreatDoor.cut_none hc] at hd
                cases hd
            rw [hn, Go.Proofs.YtbimkgmhfcgpmaaGreatDoor.cut_hit r ha] at h1 h2
            obtain ⟨rfl, hlo⟩ := numOf_some h1
            obtain ⟨rfl, hhi⟩ := numOf_some h2
            have hs : s = nameOf lo hi := by
              unfold Go.Lib.trimPrefix at hn
              rw [if_pos hp] at hn
              cases s with
              | nil => simp [Go.Lib.hasPrefix] at hp
              | cons b t =>
                simp [Go.Lib.hasPrefix] at hp
                subst hp
                simp at hn
                rw [hn]
                rfl
            rw [(rangeOf_iff s lo hi).2 ⟨hs, hle, hhi⟩] at hr
            cases hr
          · rfl
        · rfl
      · rfl
    · rfl

end Silo

namespace Go.Proofs.YtbimkgmhfcgpmaaGreatDoor
open Go.RowKit Go.Shelf

/-- What FromName gives. -/
def rngV : Option (Nat × Nat) → Value
  | some (lo, hi) => .tuple #[.agg #[.int .i64 (lo : Nat), .int .i64 (hi : Nat)], .bool true]
  | none => .tuple #[.agg #[.int .i64 0, .int .i64 0], .bool false]

theorem rngEnd {w w5 : World} (o : Obj) (x y : Value) {u0 u1 : Value} (hb : w5.heap[w.heap.size]? = some (.cells #[u0, u1] 84 (0, 0))) (hf : Fp (fun _ => False) w w5) :
    ∃ wz, ((w5.setCell ⟨w.heap.size, 0, none⟩ x).setCell ⟨w.heap.size, 1, none⟩ y).alloc o = wz ∧ wz.cell? ⟨w.heap.size, 0, none⟩ = some x ∧ wz.cell? ⟨w.heap.size, 1, none⟩ = some y ∧ Fp (fun _ => False) w wz := by
  obtain ⟨wz, hz, d0, d1, h1, h2⟩ := zend x y hb hf
  have hlt : w.heap.size < wz.heap.size := Nat.lt_of_lt_of_le (heap_lt hb) h2.size
  rw [hz]
  exact ⟨_, rfl, by rw [(Fp.alloc (fun _ => False) wz o).cell hlt (fun h => h)]; exact d0, by rw [(Fp.alloc (fun _ => False) wz o).cell hlt (fun h => h)]; exact d1, h1.trans' (Fp.alloc _ _ _)⟩

set_option maxHeartbeats 4000000 in
set_option maxRecDepth 100000 in
theorem FromName_any (s : List UInt8) (w : World) (hl : s.length ≤ 16777216) (hg : Gl w) :
    Calls Tryz.prog 66 #[.string (S s)] w fun e w' => e = .returned (rngV (Silo.rangeOf s)) ∧ Fp (fun _ => False) w w' := by
  have hnl : (Lib.trimPrefix s [98]).length ≤ 16777216 := by
    unfold Lib.trimPrefix
    split
    · simp; omega
    · exact hl
  have hcl : (Lib.cut (Lib.trimPrefix s [98]) [46]).1.length ≤ 16777216 ∧ (Lib.cut (Lib.trimPrefix s [98]) [46]).2.1.length ≤ 16777216 := by
    unfold Lib.cut
    split
    · simp; omega
    · simp; omega
  have hfp := Silo.fromP_eq s
  unfold Silo.fromP at hfp
  obtain ⟨p, hp⟩ : ∃ p, Lib.hasPrefix s [98] = p := ⟨_, rfl⟩
  obtain ⟨n, hn⟩ : ∃ n, Lib.trimPrefix s [98] = n := ⟨_, rfl⟩
  rw [hn] at hfp hcl hnl
  obtain ⟨A, B, d, hc⟩ : ∃ A B d, Lib.cut n [46] = (A, B, d) := ⟨_, _, _, rfl⟩
  rw [hc] at hfp hcl
  simp only at hfp hcl
  rw [hp] at hfp
  have HFP : Hid _ := hfp
  have HG : Hid _ := hg
  clear hfp hg
  go_enter Tryz.func66, Tryz.ntmps66
  go_wp2_with fail
  obtain ⟨w1, hw1⟩ : ∃ w1, w.alloc (.cells #[.int .i64 0, .int .i64 0] 84) = w1 := ⟨_, rfl⟩
  have hb1 : w1.heap[w.heap.size]? = some (.cells #[.int .i64 0, .int .i64 0] 84 (0, 0)) := by rw [← hw1]; exact heap_new _ _
  have hf1 : Fp (fun _ => False) w w1 := by rw [← hw1]; exact Fp.alloc _ _ _
  rw [hw1]
  have H1 : Hid _ := And.intro hb1 hf1
  clear hb1 hf1 hw1
  refine (CutPre_any s [98] w1).mono ?_
  rintro e w2 ⟨rfl, rfl⟩
  rw [hp, hn]
  clear hp hn
  go_wp2_with fail
  refine (Cut_any n 46 _ (by omega) (HG.out.fp H1.out.2)).mono ?_
  rintro e w3 ⟨rfl, h3⟩
  rw [hc]
  have H3 : Hid _ := h3
  clear h3 hc
  simp only
  go_wp2_with fail
  refine (Decimal_any A 999999 w3 (by decide) (by omega) (HG.out.fp (H1.out.2.trans' H3.out))).mono ?_
  rintro e w4 ⟨rfl, h4⟩
  obtain ⟨o1, ho1⟩ : ∃ o, Silo.numOf A 999999 = o := ⟨_, rfl⟩
  have hn1 : ∀ v, o1 = some v → v ≤ 999999 := fun v hv => (Silo.numOf_some (ho1.trans hv)).2
  rw [ho1] at HFP ⊢
  have H4 : Hid _ := H3.out.trans' h4
  clear h4 ho1
  obtain ⟨x1, b1, hx1, hxb1⟩ : ∃ (x1 : Nat) (b1 : Bool), decV o1 = .tuple #[.int .i64 (x1 : Nat), .bool b1] ∧ ((b1 = true ∧ o1 = some x1) ∨ (b1 = false ∧ o1 = none)) := by
    cases o1 with
    | none => exact ⟨0, false, rfl, .inr ⟨rfl, rfl⟩⟩
    | some v => exact ⟨v, true, rfl, .inl ⟨rfl, rfl⟩⟩
  rw [hx1]
  clear hx1
  go_wp2_with fail
  refine (Decimal_any B 999999 w4 (by decide) (by omega) (HG.out.fp (H1.out.2.trans' H4.out))).mono ?_
  rintro e w5 ⟨rfl, h5⟩
  obtain ⟨o2, ho2⟩ : ∃ o, Silo.numOf B 999999 = o := ⟨_, rfl⟩
  have hn2 : ∀ v, o2 = some v → v ≤ 999999 := fun v hv => (Silo.numOf_some (ho2.trans hv)).2
  rw [ho2] at HFP ⊢
  have H5 : Hid _ := H4.out.trans' h5
  clear h5 ho2
  obtain ⟨x2, b2, hx2, hxb2⟩ : ∃ (x2 : Nat) (b2 : Bool), decV o2 = .tuple #[.int .i64 (x2 : Nat), .bool b2] ∧ ((b2 = true ∧ o2 = some x2) ∨ (b2 = false ∧ o2 = none)) := by
    cases o2 with
    | none => exact ⟨0, false, rfl, .inr ⟨rfl, rfl⟩⟩
    | some v => exact ⟨v, true, rfl, .inl ⟨rfl, rfl⟩⟩
  rw [hx2]
  clear hx2
  have hb5 : w5.heap[w.heap.size]? = some (.cells #[.int .i64 0, .int .i64 0] 84 (0, 0)) := by rw [H5.out.block _ (heap_lt H1.out.1) (fun h => h)]; exact H1.out.1
  have hlt := heap_lt hb5
  obtain ⟨k0, k1, c0, c1⟩ := boxed hb5
  have H6 : Hid _ := And.intro hb5 (H1.out.2.trans' H5.out)
  clear hb5
  cases p
  · have HE : Hid (Silo.rangeOf s = none) := by show _ = _; rw [HFP.out]; rfl
    go_wp2
    obtain ⟨wz, hz, d0, d1, hfz⟩ := rngEnd (.cells #[.int .i64 (x1 : Nat), .int .i64 (x2 : Nat)] 84) (.int .i64 0) (.int .i64 0) H6.out.1 H6.out.2
    rw [hz]
    exact bodyPost_ret (v := rngV none) (by simp [rngV, results, Tryz.results66, go_sem, d0, d1]) rfl ⟨by rw [HE.out], hfz⟩
  · cases d
    · have HE : Hid (Silo.rangeOf s = none) := by show _ = _; rw [HFP.out]; rfl
      go_wp2
      obtain ⟨wz, hz, d0, d1, hfz⟩ := rngEnd (.cells #[.int .i64 (x1 : Nat), .int .i64 (x2 : Nat)] 84) (.int .i64 0) (.int .i64 0) H6.out.1 H6.out.2
      rw [hz]
      exact bodyPost_ret (v := rngV none) (by simp [rngV, results, Tryz.results66, go_sem, d0, d1]) rfl ⟨by rw [HE.out], hfz⟩
    · rcases hxb1 with ⟨rfl, rfl⟩ | ⟨rfl, rfl⟩
      · rcases hxb2 with ⟨rfl, rfl⟩ | ⟨rfl, rfl⟩
        · have hy1 := hn1 x1 rfl
          have hy2 := hn2 x2 rfl
          go_wp2_with fail
          refine (RangeFits_any (x1 : Int) (x2 : Int) _).mono ?_
          rintro e w6 ⟨rfl, h6⟩
          have hb6 : w6.heap[w.heap.size]? = some (.cells #[.int .i64 0, .int .i64 0] 84 (0, 0)) := by
            rw [h6.block _ (by simp; omega) (fun h => h)]
            exact heap_old _ _ H6.out.1
          have hr6 : w6.heap[w5.heap.size]? = some (.cells #[.int .i64 (x1 : Nat), .int .i64 (x2 : Nat)] 84 (0, 0)) := by
            rw [h6.block _ (by simp) (fun h => h)]
            exact heap_new _ _
          obtain ⟨l0, l1, m0, m1⟩ := boxed hb6
          obtain ⟨_, _, r0, r1⟩ := boxed hr6
          have H7 : Hid _ := And.intro hb6 (H6.out.2.trans' ((Fp.alloc _ _ _).trans' h6))
          have hne : w.heap.size ≠ w5.heap.size := by omega
          clear h6 hb6 hr6 k0 k1 c0 c1
          by_cases hle : x1 ≤ x2
          · have qf : decide (0 ≤ (x1 : Int) ∧ (x1 : Int) ≤ (x2 : Int) ∧ (x2 : Int) ≤ 999999) = true := decide_eq_true (by omega)
            have HE : Hid (Silo.rangeOf s = some (x1, x2)) := by show _ = _; rw [HFP.out]; simp [hle]
            rw [qf]
            clear qf
            go_wp2
            obtain ⟨wz, hz, d0, d1, hfz, _⟩ := zend (.int .i64 (x1 : Nat)) (.int .i64 (x2 : Nat)) H7.out.1 H7.out.2
            rw [hz]
            exact bodyPost_ret (v := rngV (some (x1, x2))) (by simp [rngV, results, Tryz.results66, go_sem, d0, d1]) rfl ⟨by rw [HE.out], hfz⟩
          · have qf : decide (0 ≤ (x1 : Int) ∧ (x1 : Int) ≤ (x2 : Int) ∧ (x2 : Int) ≤ 999999) = false := decide_eq_false (by omega)
            have HE : Hid (Silo.rangeOf s = none) := by show _ = _; rw [HFP.out]; simp [hle]
            rw [qf]
            clear qf
            go_wp2
            obtain ⟨wz, hz, d0, d1, hfz, _⟩ := zend (.int .i64 0) (.int .i64 0) H7.out.1 H7.out.2
            rw [hz]
            exact bodyPost_ret (v := rngV none) (by simp [rngV, results, Tryz.results66, go_sem, d0, d1]) rfl ⟨by rw [HE.out], hfz⟩
        · have HE : Hid (Silo.rangeOf s = none) := by show _ = _; rw [HFP.out]; rfl
          go_wp2
          obtain ⟨wz, hz, d0, d1, hfz⟩ := rngEnd (.cells #[.int .i64 (x1 : Nat), .int .i64 (x2 : Nat)] 84) (.int .i64 0) (.int .i64 0) H6.out.1 H6.out.2
          rw [hz]
          exact bodyPost_ret (v := rngV none) (by simp [rngV, results, Tryz.results66, go_sem, d0, d1]) rfl ⟨by rw [HE.out], hfz⟩
      · have HE : Hid (Silo.rangeOf s = none) := by show _ = _; rw [HFP.out]; cases o2 <;> rfl
        go_wp2
        obtain ⟨wz, hz, d0, d1, hfz⟩ := rngEnd (.cells #[.int .i64 (x1 : Nat), .int .i64 (x2 : Nat)] 84) (.int .i64 0) (.int .i64 0) H6.out.1 H6.out.2
        rw [hz]
        exact bodyPost_ret (v := rngV none) (by simp [rngV, results, Tryz.results66, go_sem, d0, d1]) rfl ⟨by rw [HE.out], hfz⟩

end Go.Proofs.YtbimkgmhfcgpmaaGreatDoor
