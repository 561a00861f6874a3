/- sets.layered: the iterator, walked. -/
import Derived.Test.YtojjkjfcbfoinaaLayered
namespace Go.Proofs.Ytojjkjfcbfoinaa
open Go.RowKit Go.Shelf

attribute [local go_sem] Oper.semAt_some

set_option maxHeartbeats 2000000 in
set_option maxRecDepth 100000 in
theorem layeredCl_row (n : Nat) (hn : 4 ≤ n) (bu bl baseU baseL gu cu gl cl : Nat) (us lo : List Silo.Pt) (w : World) (hrd : LayRd bu bl baseU baseL gu cu gl cl us lo w) (hlu : us.length ≤ 1099511627776) (hll : lo.length ≤ 1099511627776) :
    SeqFp Fence.wide n Try.prog 73 #[.pointer (some ⟨bu, 0, none⟩), .pointer (some ⟨bl, 0, none⟩)] (fun p => #[ptV p]) (Silo.mergeL lo us) (fun k => k = bu ∨ k = bl ∨ k = gu ∨ k = gl) (fun _ => False) w (fun _ => True) := by
  intro l J B W hW hB hJ hY h0
  refine callsIn_of_wp Try.func73 rfl trivial ?_ rfl
  simp only [Try.ntmps73, List.size_toArray, List.length_cons, List.length_nil, Nat.reduceAdd, Nat.reduceSub, Array.replicate_succ, Array.replicate_zero, List.push_toArray, List.append_toArray, List.nil_append, List.cons_append]
  obtain ⟨NU, hNU⟩ : ∃ NU, us.length = NU := ⟨_, rfl⟩
  obtain ⟨NL, hNL⟩ : ∃ NL, lo.length = NL := ⟨_, rfl⟩
  have HRD : Hid (∀ wr, Fp B W wr → LayRd bu bl baseU baseL gu cu gl cl us lo wr) := fun wr hf => (hrd.fp hW (fun _ h => h.elim)).fp hf (fun k hk => (hB k hk).2)
  have HN : Hid (us.length = NU ∧ lo.length = NL) := ⟨hNU, hNL⟩
  have c1 : W.cell? ⟨bu, 0, none⟩ = some (.slice (some ⟨gu, 0, none⟩) NU cu) := by rw [← hNU]; simp [World.cell?, (HRD.out W (Fp.refl _ _)).ub]
  rw [hNU] at hlu
  rw [hNL] at hll
  have HY : Hid _ := hY
  have HJ : Hid _ := hJ
  have H0 : Hid (LSt J B W lo us B 0 0 [] W) := ⟨h0, Fp.refl _ _, fun k hk => ⟨.inl hk, (hB k hk).1⟩, by simp⟩
  clear hY hJ h0 hB hrd hW hNU hNL
  gi_wp2
  gi_loopw [4, 11] (fun iv jv wo => ∃ i j : Nat, i ≤ NL ∧ j ≤ NU ∧ iv = .int .i64 i ∧ jv = .int .i64 j ∧ Hid (∃ B' pre, LSt J B W lo us B' i j pre wo)) (fun _ jv _ => NU - (intOf jv).toNat)
  case atStart => exact ⟨0, 0, Nat.zero_le _, Nat.zero_le _, rfl, rfl, B, [], H0.out⟩
  case round =>
    obtain ⟨wo, rfl⟩ : ∃ x, x = wr := ⟨_, rfl⟩
    obtain ⟨i0, j, hi0, hj, rfl, rfl, HR⟩ := hrel
    by_cases hlt : j < NU
    · obtain ⟨B1, pre1, hst1⟩ := HR.out
      have hju : j < us.length := by have := HN.out.1; omega
      obtain ⟨u0, u1⟩ := ptsAt_cell (HRD.out wo hst1.foot).ur j hju
      obtain ⟨x, hx⟩ : ∃ x, us[j] = x := ⟨_, rfl⟩
      rw [hx] at u0 u1
      have HX : Hid (us.drop j = x :: us.drop (j + 1)) := by show _ = _; rw [List.drop_eq_getElem_cons hju, hx]
      have hgu : gu < wo.heap.size := (World.ownsRow.lt (HRD.out wo hst1.foot).ur gu rfl).2
      have HST1 : Hid _ := hst1
      clear hst1 hx hju
      have hjl : (j : Int) < (NU : Int) := by omega
      gi_wp2_with fail
      gi_loopw [4] (fun iv wr => ∃ i : Nat, i ≤ NL ∧ iv = .int .i64 i ∧ Hid (∃ B' pre, LSt J B W lo us B' i j pre wr ∧ ¬ B' wo.heap.size ∧ wr.heap[wo.heap.size]? = some (.cells #[.int .i64 x.t, .int .u64 (x.v : Nat)] 80 (0, 0)))) (fun iv _ => NL - (intOf iv).toNat)
      case atStart =>
        refine ⟨i0, hi0, rfl, B1, pre1, HST1.out.alloc HJ.out _, fun h => ?_, heap_new _ _⟩
        have := (HST1.out.old _ h).2
        omega
      case round =>
        obtain ⟨i, hi, rfl, HR2⟩ := hrel
        obtain ⟨B2, pre2, hst2, hnb, hpb⟩ := HR2.out
        have hrd2 := HRD.out wr hst2.foot
        have cl0 : wr.cell? ⟨bl, 0, none⟩ = some (.slice (some ⟨gl, 0, none⟩) NL cl) := by rw [← HN.out.2]; simp [World.cell?, hrd2.lb]
        have cx0 : wr.cell? ⟨wo.heap.size, 0, none⟩ = some (.int .i64 x.t) := by simp [World.cell?, hpb]
        have cx1 : wr.cell? ⟨wo.heap.size, 1, none⟩ = some (.int .u64 (x.v : Nat)) := by simp [World.cell?, hpb]
        have HS2 : Hid _ := And.intro hst2 (And.intro hnb hpb)
        have hgl : gl < wr.heap.size := (World.ownsRow.lt hrd2.lr gl rfl).2
        by_cases hil : i < NL
        · have hili : i < lo.length := by have := HN.out.2; omega
          obtain ⟨y0, y1⟩ := ptsAt_cell hrd2.lr i hili
          obtain ⟨y, hy⟩ : ∃ y, lo[i] = y := ⟨_, rfl⟩
          rw [hy] at y0 y1
          have HYD : Hid (lo.drop i = y :: lo.drop (i + 1)) := by show _ = _; rw [List.drop_eq_getElem_cons hili, hy]
          have hiI : (i : Int) < (NL : Int) := by omega
          clear hst2 hnb hpb hrd2 HR2 hy hili
          by_cases ht : y.t < x.t
          · gi_wp2_with fail
            gi_quiet (fail)
            have hm : Silo.mergeL (lo.drop i) (us.drop j) = y :: Silo.mergeL (lo.drop (i + 1)) (us.drop j) := by rw [HYD.out, HX.out, Silo.mergeL_lt ht]
            obtain ⟨fn, tmps, assign, body, hyy, hR⟩ := HY.out B2 pre2 y (wr.drewN nq) ((HS2.out.1.quiet HJ.out (Fp.drewN _ _ _)).inv) (fun k hk => (HS2.out.1.old k hk).2) (HS2.out.1.pre hm)
            have HM : Hid _ := hm
            clear hm
            dsimp only [ptV] at hyy
            gi_wp2
            refine ⟨fun _ => by omega, hR.mono ?_⟩
            rintro e W3 ⟨rfl, B3, h3⟩
            have H3 : Hid _ := h3
            clear h3 hR hyy
            gi_wp2
            go_roundw
            case rel =>
              refine ⟨i + 1, by omega, by go_num, B3, pre2 ++ [y], (HS2.out.1.quiet HJ.out (Fp.drewN _ _ _)).yielded HM.out H3.out.1 H3.out.2.1 H3.out.2.2, fun h => ?_, (H3.out.2.1.block _ (heap_lt HS2.out.2.2) HS2.out.2.1).trans HS2.out.2.2⟩
              have h4 := heap_lt HS2.out.2.2
              rcases (H3.out.2.2 _ h).1 with h5 | h5
              · exact HS2.out.2.1 h5
              · have h6 : wr.heap.size ≤ wo.heap.size := h5
                omega
            case measure => simp [intOf]; omega
          · by_cases heq : y.t = x.t
            · have hne : (y.t == x.t) = true := by simpa using heq
              gi_wp2_with fail
              gi_quiet (fail)
              obtain ⟨nq1, rfl⟩ : ∃ x, x = nq := ⟨_, rfl⟩
              gi_wp2_with fail
              gi_quiet (fail)
              have hm : Silo.mergeL (lo.drop i) (us.drop j) = x :: Silo.mergeL (lo.drop (i + 1)) (us.drop (j + 1)) := by rw [HYD.out, HX.out, Silo.mergeL_eq heq]
              obtain ⟨fn, tmps, assign, body, hyy, hR⟩ := HY.out B2 pre2 x (wr.drewN (nq1 + nq)) ((HS2.out.1.quiet HJ.out (Fp.drewN _ _ _)).inv) (fun k hk => (HS2.out.1.old k hk).2) (HS2.out.1.pre hm)
              have HM : Hid _ := hm
              clear hm
              dsimp only [ptV] at hyy
              gi_wp2
              refine ⟨fun _ => by omega, hR.mono ?_⟩
              rintro e W3 ⟨rfl, B3, h3⟩
              have H3 : Hid _ := h3
              clear h3 hR hyy
              gi_wp2
              go_roundw
              case rel => exact ⟨(i + 1), j + 1, by omega, by omega, by go_num, by go_num, B3, pre2 ++ [x], (HS2.out.1.quiet HJ.out (Fp.drewN _ _ _)).yielded HM.out H3.out.1 H3.out.2.1 H3.out.2.2⟩
              case measure => simp [intOf]; omega
            · have hne : (y.t == x.t) = false := by simpa using heq
              gi_wp2_with fail
              gi_quiet (fail)
              obtain ⟨nq1, rfl⟩ : ∃ x, x = nq := ⟨_, rfl⟩
              gi_wp2_with fail
              gi_quiet (fail)
              have hm : Silo.mergeL (lo.drop i) (us.drop j) = x :: Silo.mergeL (lo.drop i) (us.drop (j + 1)) := by rw [HYD.out, HX.out, Silo.mergeL_gt (by omega) heq]
              obtain ⟨fn, tmps, assign, body, hyy, hR⟩ := HY.out B2 pre2 x (wr.drewN (nq1 + nq)) ((HS2.out.1.quiet HJ.out (Fp.drewN _ _ _)).inv) (fun k hk => (HS2.out.1.old k hk).2) (HS2.out.1.pre hm)
              have HM : Hid _ := hm
              clear hm
              dsimp only [ptV] at hyy
              gi_wp2
              refine ⟨fun _ => by omega, hR.mono ?_⟩
              rintro e W3 ⟨rfl, B3, h3⟩
              have H3 : Hid _ := h3
              clear h3 hR hyy
              gi_wp2
              go_roundw
              case rel => exact ⟨i, j + 1, by omega, by omega, by go_num, by go_num, B3, pre2 ++ [x], (HS2.out.1.quiet HJ.out (Fp.drewN _ _ _)).yielded HM.out H3.out.1 H3.out.2.1 H3.out.2.2⟩
              case measure => simp [intOf]; omega
        · have hiI : ¬ (i : Int) < (NL : Int) := by omega
          have HYD : Hid (lo.drop i = []) := by show _ = _; exact List.drop_of_length_le (by have := HN.out.2; omega)
          clear hst2 hnb hpb hrd2 HR2
          gi_wp2_with fail
          gi_quiet (fail)
          obtain ⟨nq1, rfl⟩ : ∃ x, x = nq := ⟨_, rfl⟩
          gi_wp2_with fail
          gi_quiet (fail)
          have hm : Silo.mergeL (lo.drop i) (us.drop j) = x :: Silo.mergeL (lo.drop i) (us.drop (j + 1)) := by rw [HYD.out, HX.out, Silo.mergeL_nil]
          obtain ⟨fn, tmps, assign, body, hyy, hR⟩ := HY.out B2 pre2 x (wr.drewN (nq1 + nq)) ((HS2.out.1.quiet HJ.out (Fp.drewN _ _ _)).inv) (fun k hk => (HS2.out.1.old k hk).2) (HS2.out.1.pre hm)
          have HM : Hid _ := hm
          clear hm
          dsimp only [ptV] at hyy
          gi_wp2
          refine ⟨fun _ => by omega, hR.mono ?_⟩
          rintro e W3 ⟨rfl, B3, h3⟩
          have H3 : Hid _ := h3
          clear h3 hR hyy
          gi_wp2
          go_roundw
          case rel => exact ⟨i, j + 1, by omega, by omega, by go_num, by go_num, B3, pre2 ++ [x], (HS2.out.1.quiet HJ.out (Fp.drewN _ _ _)).yielded HM.out H3.out.1 H3.out.2.1 H3.out.2.2⟩
          case measure => simp [intOf]; omega
    · obtain rfl : j = NU := by omega
      obtain ⟨B1, pre1, hst1⟩ := HR.out
      have hrd1 := HRD.out wo hst1.foot
      have cl0 : wo.cell? ⟨bl, 0, none⟩ = some (.slice (some ⟨gl, 0, none⟩) NL cl) := by rw [← HN.out.2]; simp [World.cell?, hrd1.lb]
      have hcap : NL ≤ cl := by
        rcases hrd1.lr.2 with ⟨h1, _⟩ | ⟨g', cap', cur, h3, _, _, h6, _⟩
        · cases h1
        · simp only [Value.slice.injEq] at h3
          have := HN.out.2
          omega
      have HU : Hid (us.drop j = []) := by show _ = _; exact List.drop_of_length_le (by have := HN.out.1; omega)
      have HST1 : Hid _ := hst1
      clear hst1 hrd1
      have a1 : (0 : Int) ≤ (i0 : Int) := by omega
      have a2 : (i0 : Int) ≤ (NL : Int) := by omega
      have a3 : (NL : Int) ≤ (cl : Int) := by omega
      by_cases hend : i0 = NL
      · have HD : Hid (lo.drop i0 = []) := by show _ = _; exact List.drop_of_length_le (by have := HN.out.2; omega)
        have hfin : Silo.mergeL lo us = pre1 := by rw [HST1.out.rest, HD.out, HU.out, Silo.mergeL_end, List.append_nil]
        have HF : Hid _ := hfin
        clear hfin HD
        subst hend
        by_cases hz : cl = i0
        · subst hz
          gi_wp2_with fail
          gi_loopw [63] (fun kv wr => kv = .int .i64 0 ∧ wr = wo) (fun _ _ => 0)
          case atStart => exact ⟨rfl, rfl⟩
          case round =>
            obtain ⟨rfl, rfl⟩ := hrel
            gi_wp2
            go_end0
            exact ⟨⟨_, rfl⟩, B1, by rw [HF.out]; exact HST1.out.inv, HST1.out.foot.mono (fun _ _ h => .inl h), HST1.out.old, trivial⟩
        · gi_wp2_with fail
          gi_loopw [63] (fun kv wr => kv = .int .i64 0 ∧ wr = wo) (fun _ _ => 0)
          case atStart => exact ⟨rfl, rfl⟩
          case round =>
            obtain ⟨rfl, rfl⟩ := hrel
            gi_wp2
            go_end0
            exact ⟨⟨_, rfl⟩, B1, by rw [HF.out]; exact HST1.out.inv, HST1.out.foot.mono (fun _ _ h => .inl h), HST1.out.old, trivial⟩
      · have hz : ¬ cl = i0 := by omega
        obtain ⟨M, hM⟩ : ∃ M, NL - i0 = M := ⟨_, rfl⟩
        have hM' : (NL : Int) - (i0 : Int) = (M : Int) := by omega
        gi_wp2_with fail
        gi_loopw [63] (fun kv wr => ∃ k : Nat, k ≤ M ∧ kv = .int .i64 k ∧ Hid (∃ B' pre, LSt J B W lo us B' (i0 + k) j pre wr)) (fun kv _ => M - (intOf kv).toNat)
        case atStart => exact ⟨0, Nat.zero_le _, rfl, B1, pre1, HST1.out⟩
        case round =>
          obtain ⟨k, hk, rfl, HR2⟩ := hrel
          obtain ⟨B2, pre2, hst2⟩ := HR2.out
          by_cases hkl : k < M
          · have hkl' : i0 + k < lo.length := by have := HN.out.2; omega
            obtain ⟨y0, y1⟩ := ptsAt_cell (HRD.out wr hst2.foot).lr (i0 + k) hkl'
            have hgl : gl < wr.heap.size := (World.ownsRow.lt (HRD.out wr hst2.foot).lr gl rfl).2
            obtain ⟨y, hy⟩ : ∃ y, lo[i0 + k] = y := ⟨_, rfl⟩
            rw [hy, show (i0 + k) * 2 = i0 * 2 + k * 2 from by omega] at y0 y1
            have hm : Silo.mergeL (lo.drop (i0 + k)) (us.drop j) = y :: Silo.mergeL (lo.drop (i0 + (k + 1))) (us.drop j) := by
              rw [HU.out, Silo.mergeL_end, Silo.mergeL_end, List.drop_eq_getElem_cons hkl', hy, Nat.add_assoc]
            have HS2 : Hid _ := And.intro hst2 hm
            have hst3 := hst2.alloc HJ.out (.cells #[.int .i64 y.t, .int .u64 (y.v : Nat)] 80)
            obtain ⟨fn, tmps, assign, body, hyy, hR⟩ := HY.out B2 pre2 y _ hst3.inv (fun q hq => (hst3.old q hq).2) (hst2.pre hm)
            clear hst2 hst3 hm hy hkl' HR2
            dsimp only [ptV] at hyy
            have hkI : (k : Int) < (M : Int) := by omega
            gi_wp2
            refine ⟨fun _ => by omega, hR.mono ?_⟩
            rintro e W3 ⟨rfl, B3, h3⟩
            have H3 : Hid _ := h3
            clear h3 hR hyy
            gi_wp2
            go_roundw
            case rel => exact ⟨k + 1, by omega, by go_num, B3, pre2 ++ [y], (HS2.out.1.alloc HJ.out _).yielded HS2.out.2 H3.out.1 H3.out.2.1 H3.out.2.2⟩
            case measure => simp [intOf]; omega
          · have hkI : ¬ (k : Int) < (M : Int) := by omega
            have hfin : Silo.mergeL lo us = pre2 := by rw [hst2.rest, HU.out, Silo.mergeL_end, List.drop_of_length_le (by have := HN.out.2; omega), List.append_nil]
            have HF : Hid _ := And.intro hfin hst2
            clear hfin hst2 HR2
            gi_wp2
            go_end0
            first
              | exact ⟨⟨_, rfl⟩, B2, by rw [HF.out.1]; exact HF.out.2.inv, HF.out.2.foot.mono (fun _ _ h => .inl h), HF.out.2.old, trivial⟩
              | exact ⟨⟨_, rfl⟩, B2, by rw [HF.out.1]; exact HF.out.2.inv, HF.out.2.foot, HF.out.2.old⟩
              | exact ⟨B2, by rw [HF.out.1]; exact HF.out.2.inv, HF.out.2.foot, HF.out.2.old⟩

end Go.Proofs.Ytojjkjfcbfoinaa
