/- silokeep's lay of a row, and layAll. -/
import Derived.Test.YtojjkjfcbfoinaaKeepLay
namespace Go.Proofs.Ytojjkjfcbfoinaa
open Go.RowKit Go.Shelf

theorem drop_part {W : World} {base g cap : Nat} {l : List Silo.Smp} (h : World.smpsAt W base (.slice (some ⟨g, 0, none⟩) l.length cap) l) (i : Nat) (hl : i ≤ l.length) : SmpSrc W (.slice (some ⟨g, i * 3, none⟩) (l.length - i) (cap - i)) (l.drop i) := by
  have := src_part h i (l.length - i) (l.length - i) (cap - i) rfl (by omega)
  rwa [List.take_of_length_le (by simp)] at this

theorem take_part {W : World} {base g cap : Nat} {l : List Silo.Smp} (h : World.smpsAt W base (.slice (some ⟨g, 0, none⟩) l.length cap) l) (i : Nat) (hl : i ≤ l.length) : SmpSrc W (.slice (some ⟨g, 0, none⟩) i cap) (l.take i) := by
  have := src_part h 0 i i cap rfl (by omega)
  simpa using this

set_option maxHeartbeats 4000000 in
set_option maxRecDepth 100000 in
theorem Keeplay_row (l : List Silo.Smp) (x : Silo.Smp) (base g cap : Nat) (w : World) (hr : World.smpsAt w base (.slice (some ⟨g, 0, none⟩) l.length cap) l) (hl : l.length ≤ 1073741824) :
    Calls Try.prog 25 #[.slice (some ⟨g, 0, none⟩) l.length cap, .agg #[.int .i64 x.s, .int .i64 x.t, .int .u64 (x.v : Nat)]] w fun e w' => ∃ v', e = .returned v' ∧ World.smpsAt w' w.heap.size v' (Silo.layL l x) ∧ Fp (fun _ => False) w w' := by
  have hgl : g < w.heap.size := (World.ownsRow.lt hr g rfl).2
  have hcap : l.length ≤ cap ∧ cap ≤ maxLen := by
    rcases hr.2 with ⟨h1, _⟩ | ⟨g', cap', cur, h3, _, _, h4, h5, _⟩
    · cases h1
    · cases h3; exact ⟨h4, h5⟩
  have hc1 := hcap.1
  have hc2 : cap ≤ 9223372036854775807 := by have := hcap.2; unfold maxLen at this; omega
  have H : Hid _ := hr
  clear hr hcap
  go_enter Try.func25, Try.ntmps25
  go_wp2_with fail
  go_loopw [6] (fun iv wr => ∃ i : Nat, i ≤ l.length ∧ iv = .int .i64 i ∧ Hid (KS w wr x ∧ ∀ k (hk : k < l.length), k < i → Silo.ahead l[k] x = true)) (fun iv _ => l.length - (intOf iv).toNat)
  case atStart => exact ⟨0, by omega, rfl, KS.start w x, fun k _ h => by omega⟩
  case round =>
    obtain ⟨i, hi, rfl, HR⟩ := hrel
    have e0 := HR.out.1.c0
    have e1 := HR.out.1.c1
    have e2 := HR.out.1.c2
    by_cases hlt : i < l.length
    · obtain ⟨y, hy⟩ : ∃ y, l[i] = y := ⟨_, rfl⟩
      obtain ⟨a0, a1, a2⟩ := smpsAt_cell (HR.out.1.row H.out) i hlt
      rw [hy] at a0 a1 a2
      have HY : Hid _ := hy
      clear hy
      have iN : (i : Int) < (l.length : Int) := by omega
      by_cases h1 : y.s < x.s
      · have g1 : decide (y.s < x.s) = true := by simpa using h1
        go_wp2_with fail
        go_quiet (fail)
        go_wp2
        go_roundw
        case rel =>
          refine ⟨i + 1, by omega, by go_num, HR.out.1.next (Fp.drewN (fun _ => False) _ _) (fun _ h => h.elim), fun k hk hlt2 => ?_⟩
          by_cases c : k = i
          · subst c; rw [HY.out]; unfold Silo.ahead; rw [decide_eq_true_eq]; omega
          · exact HR.out.2 k hk (by omega)
        case measure => simp [intOf]; omega
      · have g1 : decide (y.s < x.s) = false := by simpa using h1
        by_cases h2 : y.s = x.s
        · have g2 : (y.s == x.s) = true := by simpa using h2
          by_cases h3 : y.t < x.t
          · have g3 : decide (y.t < x.t) = true := by simpa using h3
            have HK : Hid _ := And.intro h1 (And.intro h2 h3)
            clear h1 h2 h3
            go_wp2_with fail
            go_quiet (fail)
            go_wp2
            go_roundw
            case rel =>
              refine ⟨i + 1, by omega, by go_num, HR.out.1.next (Fp.drewN (fun _ => False) _ _) (fun _ h => h.elim), fun k hk hlt2 => ?_⟩
              by_cases c : k = i
              · subst c; rw [HY.out]; unfold Silo.ahead; rw [decide_eq_true_eq]; (have := HK.out; omega)
              · exact HR.out.2 k hk (by omega)
            case measure => simp [intOf]; omega
          · have g3 : decide (y.t < x.t) = false := by simpa using h3
            by_cases h4 : y.t = x.t
            · have g4 : (y.t == x.t) = true := by simpa using h4
              have hpl : Silo.place l x = i := Silo.place_eq hi (fun k hk => HR.out.2 k (by omega) hk) (fun hlt2 => by rw [HY.out]; unfold Silo.ahead; rw [decide_eq_false_iff_not]; omega)
              have hrest : Silo.layRest l x = l.drop (i + 1) := Silo.layRest_same hpl hlt (by rw [HY.out]; unfold Silo.sameKey; rw [decide_eq_true_eq]; exact ⟨h2, h4⟩)
              obtain ⟨i1, hi1⟩ : ∃ i1, i + 1 = i1 := ⟨_, rfl⟩
              have bi : (i : Int) + 1 = (i1 : Int) := by omega
              have HI : Hid _ := And.intro hi1 (And.intro hpl hrest)
              have hi1' : i1 ≤ l.length := by omega
              clear hi1 hpl hrest h1 h2 h3 h4
              by_cases hci : cap = i1
              · subst hci
                have HCI : Hid (l.length = cap) := by
                  show _ = _
                  omega
                go_wp2_with fail
                go_quiet (fail)
                have KN : Hid (KS w (wr.drewN nq) x) := HR.out.1.next (Fp.drewN (fun _ => False) _ _) (fun _ h => h.elim)
                have ic : (i : Int) ≤ (cap : Int) := by omega
                go_wp2_with (first | (at_builtin; refine wpList_append_smps rfl _ _ rfl (w.heap.size + 1) (.slice none 0 0) [] (l.take i) _ rfl rfl ?c1 ?c2 ?c3 ?c4 ?_; rotate_left 4; intro v1 w1 HA; have k1 := KN.out.next HA.out.foot (fun k h => (none_own h).elim); have z0 := k1.c0; have z1 := k1.c1; have z2 := k1.c2; have zl := k1.lt; have K1 : Hid _ := k1; clear k1) | (at_builtin; refine wpList_append_smps rfl _ _ rfl (w.heap.size + 1) v1 ([] ++ (l.take i)) [x] _ rfl rfl ?c5 ?c6 ?c7 ?c8 ?_; rotate_left 4; intro v2 w2 HB))
                case c1 => exact nil_row _ _
                case c2 => exact take_part (KN.out.row H.out) i hi
                case c3 => simp <;> omega
                case c4 => exact KN.out.lt
                case c5 => exact Fp.ownsRow (Fp.alloc (fun _ => False) _ _) HA.out.row (fun _ _ h => h)
                case c6 => exact ⟨_, _, rfl, .inr ⟨w1.heap.size, 0, rfl, fun j u hj => by have h := smp_new w1 x 42 j u hj; unfold Addr.add at h; split at h <;> simp_all⟩⟩
                case c7 => simp <;> omega
                case c8 => have := K1.out.lt; simp; omega
                have k2 := (K1.out.next (Fp.alloc (fun _ => False) _ _) (fun _ h => h.elim)).next HB.out.foot (fun k h => (World.ownsRow.lt HA.out.row k h).1)
                have y0 := k2.c0
                have y1 := k2.c1
                have y2 := k2.c2
                have K2 : Hid _ := k2
                obtain ⟨b0, b1, b2⟩ := smpsAt_cell (K2.out.row H.out) i hlt
                rw [HY.out] at b0 b1 b2
                clear a0 a1 a2 e0 e1 e2
                clear k2 z0 z1 z2
                go_quiet (fail)
                go_wp2_with (at_builtin; refine wpList_append_smps rfl _ _ rfl (w.heap.size + 1) v2 ([] ++ (l.take i) ++ [x]) ([]) _ rfl rfl ?c9 ?c10 ?c11 ?c12 ?_; rotate_left 4; intro v3 w3 HC)
                case c9 => exact Fp.ownsRow (Fp.drewN (fun _ => False) _ _) HB.out.row (fun _ _ h => h)
                case c10 => exact src_none _ _ _ _ (by have := HCI.out; omega)
                case c11 => simp <;> omega
                case c12 => exact K2.out.lt
                go_ret
                have k3 := (K2.out.next (Fp.drewN (fun _ => False) _ _) (fun _ h => h.elim)).next HC.out.foot (fun k h => (World.ownsRow.lt HB.out.row k h).1)
                refine ⟨v3, ret_val (by simp), ?_, k3.fp⟩
                have h9 := HC.out.row
                rw [show [] ++ l.take i ++ [x] ++ [] = Silo.layL l x by unfold Silo.layL; rw [HI.out.2.1, HI.out.2.2, HI.out.1, List.drop_eq_nil_of_le (by omega)]; simp] at h9
                exact ownsRow_base h9 (by omega)
              · have hci2 : ¬ (cap = i1) := hci
                go_wp2_with fail
                go_quiet (fail)
                have KN : Hid (KS w (wr.drewN nq) x) := HR.out.1.next (Fp.drewN (fun _ => False) _ _) (fun _ h => h.elim)
                have ic : (i : Int) ≤ (cap : Int) := by omega
                go_wp2_with (first | (at_builtin; refine wpList_append_smps rfl _ _ rfl (w.heap.size + 1) (.slice none 0 0) [] (l.take i) _ rfl rfl ?c1 ?c2 ?c3 ?c4 ?_; rotate_left 4; intro v1 w1 HA; have k1 := KN.out.next HA.out.foot (fun k h => (none_own h).elim); have z0 := k1.c0; have z1 := k1.c1; have z2 := k1.c2; have zl := k1.lt; have K1 : Hid _ := k1; clear k1) | (at_builtin; refine wpList_append_smps rfl _ _ rfl (w.heap.size + 1) v1 ([] ++ (l.take i)) [x] _ rfl rfl ?c5 ?c6 ?c7 ?c8 ?_; rotate_left 4; intro v2 w2 HB))
                case c1 => exact nil_row _ _
                case c2 => exact take_part (KN.out.row H.out) i hi
                case c3 => simp <;> omega
                case c4 => exact KN.out.lt
                case c5 => exact Fp.ownsRow (Fp.alloc (fun _ => False) _ _) HA.out.row (fun _ _ h => h)
                case c6 => exact ⟨_, _, rfl, .inr ⟨w1.heap.size, 0, rfl, fun j u hj => by have h := smp_new w1 x 42 j u hj; unfold Addr.add at h; split at h <;> simp_all⟩⟩
                case c7 => simp <;> omega
                case c8 => have := K1.out.lt; simp; omega
                have k2 := (K1.out.next (Fp.alloc (fun _ => False) _ _) (fun _ h => h.elim)).next HB.out.foot (fun k h => (World.ownsRow.lt HA.out.row k h).1)
                have y0 := k2.c0
                have y1 := k2.c1
                have y2 := k2.c2
                have K2 : Hid _ := k2
                obtain ⟨b0, b1, b2⟩ := smpsAt_cell (K2.out.row H.out) i hlt
                rw [HY.out] at b0 b1 b2
                clear a0 a1 a2 e0 e1 e2
                clear k2 z0 z1 z2
                go_quiet (fail)
                go_wp2_with (at_builtin; refine wpList_append_smps rfl _ _ rfl (w.heap.size + 1) v2 ([] ++ (l.take i) ++ [x]) (l.drop i1) _ rfl rfl ?c9 ?c10 ?c11 ?c12 ?_; rotate_left 4; intro v3 w3 HC)
                case c9 => exact Fp.ownsRow (Fp.drewN (fun _ => False) _ _) HB.out.row (fun _ _ h => h)
                case c10 => exact drop_part ((K2.out.next (Fp.drewN (fun _ => False) _ _) (fun _ h => h.elim)).row H.out) i1 hi1'
                case c11 => simp <;> omega
                case c12 => exact K2.out.lt
                go_ret
                have k3 := (K2.out.next (Fp.drewN (fun _ => False) _ _) (fun _ h => h.elim)).next HC.out.foot (fun k h => (World.ownsRow.lt HB.out.row k h).1)
                refine ⟨v3, ret_val (by simp), ?_, k3.fp⟩
                have h9 := HC.out.row
                rw [show [] ++ l.take i ++ [x] ++ l.drop i1 = Silo.layL l x by unfold Silo.layL; rw [HI.out.2.1, HI.out.2.2, HI.out.1]; simp] at h9
                exact ownsRow_base h9 (by omega)
            · have g4 : (y.t == x.t) = false := by simpa using h4
              have hpl : Silo.place l x = i := Silo.place_eq hi (fun k hk => HR.out.2 k (by omega) hk) (fun hlt2 => by rw [HY.out]; unfold Silo.ahead; rw [decide_eq_false_iff_not]; omega)
              have hrest : Silo.layRest l x = l.drop i := Silo.layRest_other hpl hlt (by rw [HY.out]; unfold Silo.sameKey; rw [decide_eq_false_iff_not]; omega)
              have HI : Hid _ := And.intro hpl hrest
              have hci : ¬ (cap = i) := by omega
              clear hpl hrest h1 h2 h3 h4
              go_wp2_with fail
              go_quiet (fail)
              have KN : Hid (KS w (wr.drewN nq) x) := HR.out.1.next (Fp.drewN (fun _ => False) _ _) (fun _ h => h.elim)
              have ic : (i : Int) ≤ (cap : Int) := by omega
              go_wp2_with (first | (at_builtin; refine wpList_append_smps rfl _ _ rfl (w.heap.size + 1) (.slice none 0 0) [] (l.take i) _ rfl rfl ?c1 ?c2 ?c3 ?c4 ?_; rotate_left 4; intro v1 w1 HA; have k1 := KN.out.next HA.out.foot (fun k h => (none_own h).elim); have z0 := k1.c0; have z1 := k1.c1; have z2 := k1.c2; have zl := k1.lt; have K1 : Hid _ := k1; clear k1) | (at_builtin; refine wpList_append_smps rfl _ _ rfl (w.heap.size + 1) v1 ([] ++ (l.take i)) [x] _ rfl rfl ?c5 ?c6 ?c7 ?c8 ?_; rotate_left 4; intro v2 w2 HB))
              case c1 => exact nil_row _ _
              case c2 => exact take_part (KN.out.row H.out) i hi
              case c3 => simp <;> omega
              case c4 => exact KN.out.lt
              case c5 => exact Fp.ownsRow (Fp.alloc (fun _ => False) _ _) HA.out.row (fun _ _ h => h)
              case c6 => exact ⟨_, _, rfl, .inr ⟨w1.heap.size, 0, rfl, fun j u hj => by have h := smp_new w1 x 42 j u hj; unfold Addr.add at h; split at h <;> simp_all⟩⟩
              case c7 => simp <;> omega
              case c8 => have := K1.out.lt; simp; omega
              have k2 := (K1.out.next (Fp.alloc (fun _ => False) _ _) (fun _ h => h.elim)).next HB.out.foot (fun k h => (World.ownsRow.lt HA.out.row k h).1)
              have y0 := k2.c0
              have y1 := k2.c1
              have y2 := k2.c2
              have K2 : Hid _ := k2
              obtain ⟨b0, b1, b2⟩ := smpsAt_cell (K2.out.row H.out) i hlt
              rw [HY.out] at b0 b1 b2
              clear a0 a1 a2 e0 e1 e2
              clear k2 z0 z1 z2
              go_quiet (fail)
              go_wp2_with (at_builtin; refine wpList_append_smps rfl _ _ rfl (w.heap.size + 1) v2 ([] ++ (l.take i) ++ [x]) (l.drop i) _ rfl rfl ?c9 ?c10 ?c11 ?c12 ?_; rotate_left 4; intro v3 w3 HC)
              case c9 => exact Fp.ownsRow (Fp.drewN (fun _ => False) _ _) HB.out.row (fun _ _ h => h)
              case c10 => exact drop_part ((K2.out.next (Fp.drewN (fun _ => False) _ _) (fun _ h => h.elim)).row H.out) i hi
              case c11 => simp <;> omega
              case c12 => exact K2.out.lt
              go_ret
              have k3 := (K2.out.next (Fp.drewN (fun _ => False) _ _) (fun _ h => h.elim)).next HC.out.foot (fun k h => (World.ownsRow.lt HB.out.row k h).1)
              refine ⟨v3, ret_val (by simp), ?_, k3.fp⟩
              have h9 := HC.out.row
              rw [show [] ++ l.take i ++ [x] ++ l.drop i = Silo.layL l x by unfold Silo.layL; rw [HI.out.1, HI.out.2]; simp] at h9
              exact ownsRow_base h9 (by omega)
        · have g2 : (y.s == x.s) = false := by simpa using h2
          have hpl : Silo.place l x = i := Silo.place_eq hi (fun k hk => HR.out.2 k (by omega) hk) (fun hlt2 => by rw [HY.out]; unfold Silo.ahead; rw [decide_eq_false_iff_not]; omega)
          have hrest : Silo.layRest l x = l.drop i := Silo.layRest_other hpl hlt (by rw [HY.out]; unfold Silo.sameKey; rw [decide_eq_false_iff_not]; omega)
          have HI : Hid _ := And.intro hpl hrest
          have hci : ¬ (cap = i) := by omega
          clear hpl hrest h1 h2
          go_wp2_with fail
          go_quiet (fail)
          have KN : Hid (KS w (wr.drewN nq) x) := HR.out.1.next (Fp.drewN (fun _ => False) _ _) (fun _ h => h.elim)
          have ic : (i : Int) ≤ (cap : Int) := by omega
          go_wp2_with (first | (at_builtin; refine wpList_append_smps rfl _ _ rfl (w.heap.size + 1) (.slice none 0 0) [] (l.take i) _ rfl rfl ?c1 ?c2 ?c3 ?c4 ?_; rotate_left 4; intro v1 w1 HA; have k1 := KN.out.next HA.out.foot (fun k h => (none_own h).elim); have z0 := k1.c0; have z1 := k1.c1; have z2 := k1.c2; have zl := k1.lt; have K1 : Hid _ := k1; clear k1) | (at_builtin; refine wpList_append_smps rfl _ _ rfl (w.heap.size + 1) v1 ([] ++ (l.take i)) [x] _ rfl rfl ?c5 ?c6 ?c7 ?c8 ?_; rotate_left 4; intro v2 w2 HB))
          case c1 => exact nil_row _ _
          case c2 => exact take_part (KN.out.row H.out) i hi
          case c3 => simp <;> omega
          case c4 => exact KN.out.lt
          case c5 => exact Fp.ownsRow (Fp.alloc (fun _ => False) _ _) HA.out.row (fun _ _ h => h)
          case c6 => exact ⟨_, _, rfl, .inr ⟨w1.heap.size, 0, rfl, fun j u hj => by have h := smp_new w1 x 42 j u hj; unfold Addr.add at h; split at h <;> simp_all⟩⟩
          case c7 => simp <;> omega
          case c8 => have := K1.out.lt; simp; omega
          have k2 := (K1.out.next (Fp.alloc (fun _ => False) _ _) (fun _ h => h.elim)).next HB.out.foot (fun k h => (World.ownsRow.lt HA.out.row k h).1)
          have y0 := k2.c0
          have y1 := k2.c1
          have y2 := k2.c2
          have K2 : Hid _ := k2
          obtain ⟨b0, b1, b2⟩ := smpsAt_cell (K2.out.row H.out) i hlt
          rw [HY.out] at b0 b1 b2
          clear a0 a1 a2 e0 e1 e2
          clear k2 z0 z1 z2
          go_quiet (fail)
          go_wp2_with (at_builtin; refine wpList_append_smps rfl _ _ rfl (w.heap.size + 1) v2 ([] ++ (l.take i) ++ [x]) (l.drop i) _ rfl rfl ?c9 ?c10 ?c11 ?c12 ?_; rotate_left 4; intro v3 w3 HC)
          case c9 => exact Fp.ownsRow (Fp.drewN (fun _ => False) _ _) HB.out.row (fun _ _ h => h)
          case c10 => exact drop_part ((K2.out.next (Fp.drewN (fun _ => False) _ _) (fun _ h => h.elim)).row H.out) i hi
          case c11 => simp <;> omega
          case c12 => exact K2.out.lt
          go_ret
          have k3 := (K2.out.next (Fp.drewN (fun _ => False) _ _) (fun _ h => h.elim)).next HC.out.foot (fun k h => (World.ownsRow.lt HB.out.row k h).1)
          refine ⟨v3, ret_val (by simp), ?_, k3.fp⟩
          have h9 := HC.out.row
          rw [show [] ++ l.take i ++ [x] ++ l.drop i = Silo.layL l x by unfold Silo.layL; rw [HI.out.1, HI.out.2]; simp] at h9
          exact ownsRow_base h9 (by omega)
    · obtain rfl : i = l.length := by omega
      have hpl : Silo.place l x = l.length := Silo.place_eq hi (fun k hk => HR.out.2 k (by omega) hk) (fun h => by omega)
      have hrest := Silo.layRest_end hpl
      have HI : Hid _ := And.intro hpl hrest
      clear hpl hrest
      by_cases hci : cap = l.length
      · subst hci
        go_wp2_with fail
        go_quiet (fail)
        have KN : Hid (KS w (wr.drewN nq) x) := HR.out.1.next (Fp.drewN (fun _ => False) _ _) (fun _ h => h.elim)
        have ic : (l.length : Int) ≤ (l.length : Int) := by omega
        go_wp2_with (first | (at_builtin; refine wpList_append_smps rfl _ _ rfl (w.heap.size + 1) (.slice none 0 0) [] (l.take l.length) _ rfl rfl ?c1 ?c2 ?c3 ?c4 ?_; rotate_left 4; intro v1 w1 HA; have k1 := KN.out.next HA.out.foot (fun k h => (none_own h).elim); have z0 := k1.c0; have z1 := k1.c1; have z2 := k1.c2; have zl := k1.lt; have K1 : Hid _ := k1; clear k1) | (at_builtin; refine wpList_append_smps rfl _ _ rfl (w.heap.size + 1) v1 ([] ++ (l.take l.length)) [x] _ rfl rfl ?c5 ?c6 ?c7 ?c8 ?_; rotate_left 4; intro v2 w2 HB))
        case c1 => exact nil_row _ _
        case c2 => exact take_part (KN.out.row H.out) l.length hi
        case c3 => simp <;> omega
        case c4 => exact KN.out.lt
        case c5 => exact Fp.ownsRow (Fp.alloc (fun _ => False) _ _) HA.out.row (fun _ _ h => h)
        case c6 => exact ⟨_, _, rfl, .inr ⟨w1.heap.size, 0, rfl, fun j u hj => by have h := smp_new w1 x 42 j u hj; unfold Addr.add at h; split at h <;> simp_all⟩⟩
        case c7 => simp <;> omega
        case c8 => have := K1.out.lt; simp; omega
        have k2 := (K1.out.next (Fp.alloc (fun _ => False) _ _) (fun _ h => h.elim)).next HB.out.foot (fun k h => (World.ownsRow.lt HA.out.row k h).1)
        have y0 := k2.c0
        have y1 := k2.c1
        have y2 := k2.c2
        have K2 : Hid _ := k2
        clear e0 e1 e2
        clear k2 z0 z1 z2
        go_quiet (fail)
        go_wp2_with (at_builtin; refine wpList_append_smps rfl _ _ rfl (w.heap.size + 1) v2 ([] ++ (l.take l.length) ++ [x]) ([]) _ rfl rfl ?c9 ?c10 ?c11 ?c12 ?_; rotate_left 4; intro v3 w3 HC)
        case c9 => exact Fp.ownsRow (Fp.drewN (fun _ => False) _ _) HB.out.row (fun _ _ h => h)
        case c10 => exact src_none _ _ _ _ (by simp)
        case c11 => simp <;> omega
        case c12 => exact K2.out.lt
        go_ret
        have k3 := (K2.out.next (Fp.drewN (fun _ => False) _ _) (fun _ h => h.elim)).next HC.out.foot (fun k h => (World.ownsRow.lt HB.out.row k h).1)
        refine ⟨v3, ret_val (by simp), ?_, k3.fp⟩
        have h9 := HC.out.row
        rw [show [] ++ l.take l.length ++ [x] ++ [] = Silo.layL l x by unfold Silo.layL; rw [HI.out.1, HI.out.2]; simp] at h9
        exact ownsRow_base h9 (by omega)
      · have hci2 : ¬ (cap = l.length) := hci
        go_wp2_with fail
        go_quiet (fail)
        have KN : Hid (KS w (wr.drewN nq) x) := HR.out.1.next (Fp.drewN (fun _ => False) _ _) (fun _ h => h.elim)
        have ic : (l.length : Int) ≤ (cap : Int) := by omega
        go_wp2_with (first | (at_builtin; refine wpList_append_smps rfl _ _ rfl (w.heap.size + 1) (.slice none 0 0) [] (l.take l.length) _ rfl rfl ?c1 ?c2 ?c3 ?c4 ?_; rotate_left 4; intro v1 w1 HA; have k1 := KN.out.next HA.out.foot (fun k h => (none_own h).elim); have z0 := k1.c0; have z1 := k1.c1; have z2 := k1.c2; have zl := k1.lt; have K1 : Hid _ := k1; clear k1) | (at_builtin; refine wpList_append_smps rfl _ _ rfl (w.heap.size + 1) v1 ([] ++ (l.take l.length)) [x] _ rfl rfl ?c5 ?c6 ?c7 ?c8 ?_; rotate_left 4; intro v2 w2 HB))
        case c1 => exact nil_row _ _
        case c2 => exact take_part (KN.out.row H.out) l.length hi
        case c3 => simp <;> omega
        case c4 => exact KN.out.lt
        case c5 => exact Fp.ownsRow (Fp.alloc (fun _ => False) _ _) HA.out.row (fun _ _ h => h)
        case c6 => exact ⟨_, _, rfl, .inr ⟨w1.heap.size, 0, rfl, fun j u hj => by have h := smp_new w1 x 42 j u hj; unfold Addr.add at h; split at h <;> simp_all⟩⟩
        case c7 => simp <;> omega
        case c8 => have := K1.out.lt; simp; omega
        have k2 := (K1.out.next (Fp.alloc (fun _ => False) _ _) (fun _ h => h.elim)).next HB.out.foot (fun k h => (World.ownsRow.lt HA.out.row k h).1)
        have y0 := k2.c0
        have y1 := k2.c1
        have y2 := k2.c2
        have K2 : Hid _ := k2
        clear e0 e1 e2
        clear k2 z0 z1 z2
        go_quiet (fail)
        go_wp2_with (at_builtin; refine wpList_append_smps rfl _ _ rfl (w.heap.size + 1) v2 ([] ++ (l.take l.length) ++ [x]) ([]) _ rfl rfl ?c9 ?c10 ?c11 ?c12 ?_; rotate_left 4; intro v3 w3 HC)
        case c9 => exact Fp.ownsRow (Fp.drewN (fun _ => False) _ _) HB.out.row (fun _ _ h => h)
        case c10 => exact src_none _ _ _ _ (by simp)
        case c11 => simp <;> omega
        case c12 => exact K2.out.lt
        go_ret
        have k3 := (K2.out.next (Fp.drewN (fun _ => False) _ _) (fun _ h => h.elim)).next HC.out.foot (fun k h => (World.ownsRow.lt HB.out.row k h).1)
        refine ⟨v3, ret_val (by simp), ?_, k3.fp⟩
        have h9 := HC.out.row
        rw [show [] ++ l.take l.length ++ [x] ++ [] = Silo.layL l x by unfold Silo.layL; rw [HI.out.1, HI.out.2]; simp] at h9
        exact ownsRow_base h9 (by omega)

theorem Keeplay_any (l : List Silo.Smp) (x : Silo.Smp) (base : Nat) (v : Value) (w : World) (hr : World.smpsAt w base v l) (hl : l.length ≤ 1073741824) :
    Calls Try.prog 25 #[v, .agg #[.int .i64 x.s, .int .i64 x.t, .int .u64 (x.v : Nat)]] w fun e w' => ∃ v', e = .returned v' ∧ World.smpsAt w' w.heap.size v' (Silo.layL l x) ∧ Fp (fun _ => False) w w' := by
  rcases hr.2 with ⟨h1, h2⟩ | ⟨g, cap, cur, h3, _⟩
  · have : l = [] := List.length_eq_zero_iff.1 h2
    subst this
    subst h1
    exact Keeplay_nil x w
  · subst h3
    exact Keeplay_row l x base g cap w hr hl

def layAll (l more : List Silo.Smp) : List Silo.Smp := more.foldl Silo.layL l

theorem layAll_length (l more : List Silo.Smp) : (layAll l more).length ≤ l.length + more.length := by
  induction more generalizing l with
  | nil => simp [layAll]
  | cons x more ih =>
    have h1 := ih (Silo.layL l x)
    have h2 := Silo.layL_length l x
    simp only [layAll, List.foldl_cons, List.length_cons] at h1 ⊢
    omega

theorem layAll_snoc (l more : List Silo.Smp) (x : Silo.Smp) : layAll l (more ++ [x]) = Silo.layL (layAll l more) x := by simp [layAll]

set_option maxHeartbeats 1000000 in
theorem KeeplayAll_any (xs : List Silo.Smp) (v : Value) (w : World) (hin : SmpIn w w.heap.size v xs) (hl : xs.length ≤ 536870912) :
    Calls Try.prog 11 #[.slice none 0 0, v] w fun e w' => ∃ v', e = .returned v' ∧ World.smpsAt w' w.heap.size v' (layAll [] xs) ∧ Fp (fun _ => False) w w' := by
  obtain ⟨ad, c, rfl, hin'⟩ := hin
  have H : Hid _ := hin'
  clear hin'
  go_enter Try.func11, Try.ntmps11
  go_wp2_with fail
  go_loopw [0, 5] (fun lv iv wr => ∃ k : Nat, k ≤ xs.length ∧ iv = .int .i64 k ∧ Hid (World.smpsAt wr w.heap.size lv (layAll [] (xs.take k)) ∧ Fp (fun _ => False) w wr)) (fun _ iv _ => xs.length - (intOf iv).toNat)
  case atStart => exact ⟨0, by omega, rfl, nil_row _ _, Fp.refl _ _⟩
  case round =>
    obtain ⟨k, hk, rfl, HR⟩ := hrel
    by_cases hlt : k < xs.length
    · obtain ⟨b, off, hb⟩ : ∃ b off, ad = some ⟨b, off, none⟩ ∧ b < w.heap.size ∧ ∀ k (hk : k < xs.length),
          w.cell? ⟨b, off + k * 3, none⟩ = some (.int .i64 xs[k].s) ∧ w.cell? ⟨b, off + k * 3 + 1, none⟩ = some (.int .i64 xs[k].t) ∧ w.cell? ⟨b, off + k * 3 + 2, none⟩ = some (.int .u64 (xs[k].v : Nat)) := by
        rcases H.out with h | h
        · rw [h] at hlt; simp at hlt
        · exact h
      obtain ⟨rfl, hbt, hcell⟩ := hb
      obtain ⟨c0, c1, c2⟩ := hcell k hlt
      rw [← HR.out.2.cell (p := ⟨b, off + k * 3, none⟩) hbt (fun h => h)] at c0
      rw [← HR.out.2.cell (p := ⟨b, off + k * 3 + 1, none⟩) hbt (fun h => h)] at c1
      rw [← HR.out.2.cell (p := ⟨b, off + k * 3 + 2, none⟩) hbt (fun h => h)] at c2
      obtain ⟨x, hx⟩ : ∃ x, xs[k] = x := ⟨_, rfl⟩
      rw [hx] at c0 c1 c2
      have HX : Hid _ := hx
      clear hcell hx
      have kN : (k : Int) < (xs.length : Int) := by omega
      have hll : (layAll [] (xs.take k)).length ≤ 1073741824 := by
        have := layAll_length [] (xs.take k)
        simp only [List.length_take, List.length_nil] at this
        omega
      go_wp2_with fail
      refine (Keeplay_any _ x w.heap.size _ wr HR.out.1 hll).mono ?_
      rintro e w2 ⟨v2, rfl, h2⟩
      have H2 : Hid _ := h2
      clear h2
      go_wp2
      go_roundw
      case rel =>
        refine ⟨k + 1, by omega, by go_num, ?_, HR.out.2.trans' H2.out.2⟩
        rw [List.take_succ_eq_append_getElem hlt, layAll_snoc, HX.out]
        exact ownsRow_base H2.out.1 HR.out.2.size
      case measure => simp [intOf]; omega
    · obtain rfl : k = xs.length := by omega
      go_wp2
      go_ret
      have h9 := HR.out
      rw [List.take_length] at h9
      exact ⟨_, ret_val (by simp), h9.1, h9.2⟩

end Go.Proofs.Ytojjkjfcbfoinaa
