/- appendSeries: one series' bytes behind what is there. -/
import Derived.Test.YtojjkjfcbfoinaaSeriesAid
namespace Go.Proofs.Ytojjkjfcbfoinaa
open Go.RowKit Go.Shelf

attribute [local go_sem] Oper.semAt_some

set_option maxHeartbeats 1000000 in
set_option maxRecDepth 100000 in
theorem appendSeries_in (n : Nat) (hn : 20 ≤ n) (base tb tk s g cap : Nat) (l : List UInt8) (v : Value) (ps : List Silo.Pt) (w : World) (hs : s < 16) (hset : LineAt w base tb tk v ps)
    (hown : World.bytesAt w base (.slice (some ⟨g, 0, none⟩) l.length cap) l) (hb : base ≤ w.heap.size) (hne : ps ≠ []) (hg : Silo.goodPts 0 true ps) (hl : l.length + 30 * ps.length + 60 ≤ 1099511627776) :
    CallsIn Fence.wide n Try.prog 38 #[.slice (some ⟨g, 0, none⟩) l.length cap, .int .i64 s, .pointer (some ⟨tb, tk, none⟩)] w fun e w' => ∃ g' cap', e = .returned (.slice (some ⟨g', 0, none⟩) (l ++ Silo.encSer s ps).length cap') ∧
      World.bytesAt w' base (.slice (some ⟨g', 0, none⟩) (l ++ Silo.encSer s ps).length cap') (l ++ Silo.encSer s ps) ∧ Fp (fun k => k = g) w w' ∧ (g' = g ∨ w.heap.size ≤ g') ∧ g' < w'.heap.size := by
  refine callsIn_of_wp_marks Try.func38 rfl trivial ?_ rfl
  simp only [Try.ntmps38, List.size_toArray, List.length_cons, List.length_nil, Nat.reduceAdd, Nat.reduceSub, Array.replicate_succ, Array.replicate_zero, List.push_toArray, List.append_toArray, List.nil_append, List.cons_append]
  have hgl : g < w.heap.size := (World.ownsRow.lt hown g rfl).2
  have HS : Hid _ := And.intro hset (And.intro hown (And.intro hne hg))
  clear hset hown hne hg
  gi_wp2_with fail
  rw [show (s : Int) + 1 = ((s + 1 : Nat) : Int) from by omega]
  have hf0 : Fp (fun _ => False) w (w.alloc (.cells #[.slice (some ⟨g, 0, none⟩) l.length cap] 84)) := Fp.alloc _ _ _
  refine ⟨trivial, fun _ => by omega, (callsIn_wide.2 (Append_own base g cap l (s + 1) (w.alloc (.cells #[.slice (some ⟨g, 0, none⟩) l.length cap] 84)) (by unfold Silo.M64; omega) (Fp.ownsRow hf0 HS.out.2.1 (fun _ _ h => h)) (by omega) (by simp; omega))).mono ?_⟩
  rintro e w1 ⟨g1, cap1, rfl, H1⟩
  have hlen1 : (l ++ Silo.leb (s + 1)).length ≤ l.length + 10 := by rw [List.length_append]; have := Silo.leb_len (s + 1) (by unfold Silo.M64; omega); omega
  obtain ⟨l1, hl1⟩ : ∃ l1, l ++ Silo.leb (s + 1) = l1 := ⟨_, rfl⟩
  rw [hl1] at H1 hlen1 ⊢
  have HL1 : Hid _ := hl1
  clear hl1
  have hfb1 : w1.heap[w.heap.size]? = some (.cells #[.slice (some ⟨g, 0, none⟩) l.length cap] 84 (0, 0)) := (H1.out.2.1.block _ (by simp) (by omega)).trans (heap_new _ _)
  have kc1 : w1.cell? ⟨w.heap.size, 0, none⟩ = some (.slice (some ⟨g, 0, none⟩) l.length cap) := by simp [World.cell?, hfb1]
  have kf1 : w1.frozen? ⟨w.heap.size, 0, none⟩ = false := by simp [World.frozen?, hfb1]
  have hf1 : Fp (fun k => k = g) w w1 := hf0.trans H1.out.2.1 (fun _ h => h.elim) (fun _ _ h => h)
  have HF1 : Hid _ := And.intro hfb1 hf1
  clear hfb1 hf1 hf0
  gi_wp2_with fail
  obtain ⟨w2, hw2, hfb2, hown2, hf2, hsz2⟩ := box_step HF1.out.1 H1.out.1
  have hset1 : LineAt w1 base tb tk v ps := HS.out.1.grow HS.out.2.1 HF1.out.2
  have htb : tb < w.heap.size := HS.out.1.lt
  have hset2 : LineAt w2 base tb tk v ps := hset1.fp hf2 (by omega) (fun j hj e => by
    have := (World.ownsRow.lt HS.out.1.row j hj).2
    omega)
  have hs1 := HF1.out.2.size
  have k2 : w2.cell? ⟨w.heap.size, 0, none⟩ = some (.slice (some ⟨g1, 0, none⟩) l1.length cap1) := by simp [World.cell?, hfb2]
  rw [hw2]
  have HG1 : Hid (g1 = g ∨ w.heap.size < g1) := H1.out.2.2.1.imp id (fun h => by simp at h; omega)
  have hfw2 : Fp (fun k => k = g) w w2 := HF1.out.2.trans hf2 (fun _ h => h) (fun k hk e => by omega)
  have H2 : Hid _ := And.intro hset2 (And.intro hown2 (And.intro hfb2 hfw2))
  have hlt2 : w.heap.size < w2.heap.size := heap_lt hfb2
  clear hw2 hset2 hset1 hown2 hf2 hfw2 kc1 kf1 H1 HF1 hfb2 hsz2
  have hwrap : IntKind.u64.wrap (ps.length : Int) = (ps.length : Int) := by rw [IntKind.wrap_u64]; omega
  obtain ⟨l3, hl3⟩ : ∃ l3, l1 ++ Silo.leb ps.length = l3 := ⟨_, rfl⟩
  have hlen3 : l3.length = l1.length + (Silo.leb ps.length).length := by rw [← hl3, List.length_append]
  have hlen3' : l3.length ≤ l.length + 20 := by have := Silo.leb_len ps.length (by unfold Silo.M64; omega); omega
  have HL3 : Hid _ := And.intro hl3 hlen3
  clear hl3 hlen3
  refine wpIn_cut (fun a' w' => ∃ w3 g3 cap3, Hid (World.bytesAt w3 base (.slice (some ⟨g3, 0, none⟩) l3.length cap3) l3 ∧ Fp (fun k => k = g1) w2.drew w3 ∧ (g3 = g1 ∨ w2.heap.size ≤ g3) ∧ g3 < w3.heap.size ∧ w3.heap[w.heap.size]? = some (.cells #[.slice (some ⟨g1, 0, none⟩) l1.length cap1] 84 (0, 0))) ∧
    a' = { tmps := #[.slice (some ⟨g, 0, none⟩) l.length cap, .int .i64 s, .pointer (some ⟨tb, tk, none⟩), .pointer (some ⟨w.heap.size, 0, none⟩), undef, undef, .slice none 0 0, undef, undef, undef, .slice (some ⟨g, 0, none⟩) l.length cap, .int .i64 s, .int .u64 s, .int .u64 (s + 1), .slice (some ⟨g1, 0, none⟩) l1.length cap1, .slice (some ⟨g1, 0, none⟩) l1.length cap1, .pointer (some ⟨tb, tk, none⟩), .int .i64 (ps.length : Nat), .int .u64 (ps.length : Nat), .slice (some ⟨g3, 0, none⟩) l3.length cap3, undef, undef, undef, undef, undef, undef, undef, undef, undef, undef, undef, undef, undef, undef, undef, undef, undef, undef, undef, undef], defers := [] } ∧ w' = w3.setCell ⟨w.heap.size, 0, none⟩ (.slice (some ⟨g3, 0, none⟩) l3.length cap3)) ?region ?rest
  case region =>
    gi_region_with (first | (refine ⟨trivial, fun _ => by omega, ?_⟩; gi_at_call 37; refine (callsIn_wide.2 (LineCount_any w2.drew base tb tk v ps H2.out.1.drew (by omega))).mono ?_; rintro e w2' ⟨rfl, rfl⟩) | (refine ⟨trivial, fun _ => by omega, ?_⟩; gi_at_call 35; refine (callsIn_wide.2 (Append_own base g1 cap1 l1 ps.length w2.drew (by unfold Silo.M64; omega) (bytesAt_drew H2.out.2.1) (by omega) (by show base ≤ w2.heap.size; omega))).mono ?_; rintro e w3 ⟨g3, cap3, rfl, H3⟩; have hfb3 : Hid (w3.heap[w.heap.size]? = some (.cells #[.slice (some ⟨g1, 0, none⟩) l1.length cap1] 84 (0, 0))) := afb H2.out.2.2.1 H2.out.2.1 H3.out.2.1; have kc3 : w3.cell? ⟨w.heap.size, 0, none⟩ = some (.slice (some ⟨g1, 0, none⟩) l1.length cap1) := (by simp [World.cell?, hfb3.out]); have kf3 : w3.frozen? ⟨w.heap.size, 0, none⟩ = false := (by simp [World.frozen?, hfb3.out])))
    all_goals
      show ∃ w3 g3 cap3, _
      refine ⟨w3, g3, cap3, ?_, ?_, ?_⟩
      · rw [← HL3.out.1]; exact ⟨H3.out.1, H3.out.2.1, H3.out.2.2.1, H3.out.2.2.2, hfb3.out⟩
      · rw [HL3.out.2]
      · rw [HL3.out.2]
  rintro a' w' ⟨w3, g3, cap3, H3, rfl, rfl⟩
  dsimp only
  obtain ⟨w4, hw4, hfb4, hown4, hf4, hsz4⟩ := box_step H3.out.2.2.2.2 H3.out.1
  have hf23 : Fp (fun k => k = g1) w2 w3 := (Fp.drew (fun _ => False) w2).trans H3.out.2.1 (fun _ h => h.elim) (fun _ _ h => h)
  have hs3 := hf23.size
  have hset4 : LineAt w4 base tb tk v ps := (H2.out.1.grow H2.out.2.1 hf23).fp hf4 (by omega) (fun j hj e => by
    have := (World.ownsRow.lt HS.out.1.row j hj).2
    omega)
  have hfw4 : Fp (fun k => k = g) w w4 := by
    have t1 : Fp (fun k => k = g) w w3 := H2.out.2.2.2.trans hf23 (fun _ h => h) (fun k hk e => by
      rcases HG1.out with h | h
      · omega
      · omega)
    exact t1.trans hf4 (fun _ h => h) (fun k hk e => by omega)
  have HG3 : Hid (g3 = g ∨ w.heap.size < g3) := by
    rcases H3.out.2.2.1 with h | h
    · rw [h]; exact HG1.out
    · right; omega
  rw [hw4]
  have H4 : Hid _ := And.intro hset4 (And.intro hown4 (And.intro hfb4 hfw4))
  have hlt4 : w2.heap.size ≤ w4.heap.size := by omega
  clear hw4 hset4 hown4 hf4 hfw4 hfb4 hf23 hwrap k2 hsz4
  gi_wp2_with fail
  obtain ⟨w5, hw5⟩ : ∃ w5, (w4.alloc (.cells #[.bool true] 4)).alloc (.cells #[.int .i64 0, .int .u64 0] 80) = w5 := ⟨_, rfl⟩
  have hf5 : Fp (fun _ => False) w4 w5 := by rw [← hw5]; exact (Fp.alloc _ _ _).trans' (Fp.alloc _ _ _)
  have hsz5 : w5.heap.size = w4.heap.size + 2 := by rw [← hw5]; simp
  have hib5 : w5.heap[w4.heap.size]? = some (.cells #[.bool true] 4 (0, 0)) := by rw [← hw5]; exact heap_old _ _ (heap_new _ _)
  have hab5 : w5.heap[w4.heap.size + 1]? = some (.cells #[.int .i64 0, .int .u64 0] 80 (0, 0)) := by
    rw [← hw5]; have := heap_new (w4.alloc (.cells #[.bool true] 4)) (.cells #[.int .i64 0, .int .u64 0] 80); rwa [World.size_alloc] at this
  have hset5 : LineAt w5 base tb tk v ps := H4.out.1.fp hf5 (fun h => h) (fun _ _ h => h)
  have HSZ5 : Hid _ := hsz5
  clear hsz5
  rw [hw5]
  refine ⟨trivial, fun _ => by omega, (callsIn_wide.2 (LinePoints_any w5 base tb tk v ps hset5)).mono ?_⟩
  rintro e w6' ⟨av, cv, rfl, rfl, rfl⟩
  have hpts := hset5.row
  obtain ⟨gp, rfl⟩ : ∃ gp, av = some ⟨gp, 0, none⟩ := by
    rcases hpts.2 with ⟨h1, h2⟩ | ⟨g', cap', cur, h3, _⟩
    · exact absurd (List.length_eq_zero_iff.1 h2) HS.out.2.2.1
    · simp only [Value.slice.injEq] at h3
      exact ⟨g', h3.1⟩
  obtain ⟨w6, hw6⟩ : ∃ w6, w5.alloc (.cells #[.slice (some ⟨gp, 0, none⟩) ps.length cv] 58) = w6 := ⟨_, rfl⟩
  have hf6 : Fp (fun _ => False) w5 w6 := by rw [← hw6]; exact Fp.alloc _ _ _
  have hbx6 : w6.heap[w5.heap.size]? = some (.cells #[.slice (some ⟨gp, 0, none⟩) ps.length cv] 58 (0, 0)) := by rw [← hw6]; exact heap_new _ _
  have hsz6 : Hid (w6.heap.size = w5.heap.size + 1) := by show _ = _; rw [← hw6]; simp
  have hpts6 : World.ptsAt w6 base (.slice (some ⟨gp, 0, none⟩) ps.length cv) ps := Fp.ownsRow hf6 hpts (fun _ _ h => h)
  have hgp : gp < w.heap.size := by
    exact (World.ownsRow.lt HS.out.1.row gp rfl).2
  have hf46 : Fp (fun _ => False) w4 w6 := hf5.trans' hf6
  have hfb6 : w6.heap[w.heap.size]? = some (.cells #[.slice (some ⟨g3, 0, none⟩) l3.length cap3] 84 (0, 0)) := (hf46.block _ (heap_lt H4.out.2.2.1) (fun h => h)).trans H4.out.2.2.1
  have hown6 : World.bytesAt w6 base (.slice (some ⟨g3, 0, none⟩) l3.length cap3) l3 := Fp.ownsRow hf46 H4.out.2.1 (fun _ _ h => h)
  have hib6 : w6.heap[w4.heap.size]? = some (.cells #[.bool true] 4 (0, 0)) := (hf6.block _ (heap_lt hib5) (fun h => h)).trans hib5
  have hab6 : w6.heap[w4.heap.size + 1]? = some (.cells #[.int .i64 0, .int .u64 0] 80 (0, 0)) := (hf6.block _ (heap_lt hab5) (fun h => h)).trans hab5
  have hg3p : g3 ≠ gp := pts_ne hown6 hpts6 rfl
  have hg3l : g3 < w4.heap.size := (World.ownsRow.lt H4.out.2.1 g3 rfl).2
  have H6 : Hid _ := And.intro hf46 (And.intro hg3p hg3l)
  rw [hw6]
  clear hw6 hw5 hib5 hab5 hset5 hpts hf5 hf6 hf46 hg3p
  gi_wp2_with fail
  refine wpIn_rangeFp rfl (by omega) (gf := 85) (lb := #[.pointer (some ⟨w5.heap.size, 0, none⟩)]) rfl trivial (enters_of Try.func85 (by kernel_rfl) rfl)
    (ValuesCl_seq (n - 1) (by omega) w5.heap.size base gp cv ps w6 hbx6 hpts6 (by omega)) (fun _ => rfl)
    (fun _ _ _ _ => trivial) ?hR (AInv base w.heap.size (w4.heap.size + 1) w4.heap.size l3) (AInv_stable _ _ _ _ _) (fun k => k = w.heap.size ∨ k = w4.heap.size + 1 ∨ k = w4.heap.size ∨ k = g3) ?hB0 ?h0 ?hround ?hdone
  case hR =>
    have := HSZ5.out
    have := hsz6.out
    rintro k (rfl | rfl) <;> omega
  case hB0 =>
    have := HSZ5.out
    have := hsz6.out
    have := H6.out.2
    rintro k (rfl | rfl | rfl | rfl) <;> exact ⟨by omega, by omega⟩
  case h0 => exact ⟨g3, cap3, by simpa [Silo.encPts] using hfb6, by simpa [Silo.encPts] using hown6, hab6, hib6, fun k => Iff.rfl⟩
  case hround =>
    rintro l' Bi pre x Wq K' hl' hlt' hrec hnl hIq hBq hpre hK'
    have hpt : ptV x = .agg #[.int .i64 x.t, .int .u64 (x.v : Nat)] := rfl
    have HK' : Hid _ := hK'
    have HI : Hid _ := And.intro hBq (And.intro hpre hnl)
    clear hK' hIq hBq hpre hnl hrec hbx6 hpts6 hfb6 hown6 hib6 hab6
    gi_wp2
    refine HK'.out _ _ (Fp.alloc _ _ _) ?_
    rintro Wc hfc hrecc ⟨gc, capc, hfbc, hownc, habc, hibc, hBc⟩
    have hxb : Wc.heap[Wq.heap.size]? = some (.cells #[.int .i64 x.t, .int .u64 (x.v : Nat)] 80 (0, 0)) := (hfc.block _ (by simp) (by omega)).trans (heap_new _ _)
    obtain ⟨lc, hlc⟩ : ∃ lc, l3 ++ Silo.encPts 0 0 true pre = lc := ⟨_, rfl⟩
    rw [hlc] at hfbc hownc
    obtain ⟨lp, hlp⟩ : ∃ lp, lastPt pre = lp := ⟨_, rfl⟩
    rw [hlp] at habc
    obtain ⟨em, hem⟩ : ∃ em, pre.isEmpty = em := ⟨_, rfl⟩
    rw [hem] at hibc
    have HE : Hid _ := And.intro hlc (And.intro hlp hem)
    have hgood := good_pre HS.out.2.2.2 HI.out.2.1
    rw [hlp] at hgood
    have hclen : lc.length ≤ 1099511627776 - 30 := by
      rw [← hlc, List.length_append]
      have h1 := encPts_max pre 0 0 true (by unfold Silo.isInt; omega) Silo.M64_pos (good_pre' HS.out.2.2.2 HI.out.2.1)
      have h2 := HI.out.2.1.length_le
      simp at h2
      omega
    clear hlc hlp hem
    have k0 : Wc.cell? ⟨Wq.heap.size, 0, none⟩ = some (.int .i64 x.t) := by simp [World.cell?, hxb]
    have k2 : Wc.cell? ⟨w.heap.size, 0, none⟩ = some (.slice (some ⟨gc, 0, none⟩) lc.length capc) := by simp [World.cell?, hfbc]
    have k3 : Wc.cell? ⟨w4.heap.size + 1, 0, none⟩ = some (.int .i64 lp.t) := by simp [World.cell?, habc]
    have k5 : Wc.cell? ⟨w4.heap.size, 0, none⟩ = some (.bool em) := by simp [World.cell?, hibc]
    have hbc : base ≤ Wc.heap.size := by have := heap_lt hfbc; omega
    obtain ⟨cd, hcd⟩ : ∃ cd, timeCodeN x.t lp.t em = cd := ⟨_, rfl⟩
    have hcdl : cd < Silo.M64 := by rw [← hcd]; exact Silo.tcode_lt _ _ _ hgood.1
    have HCD : Hid _ := And.intro hcd hcdl
    have htc := (timeCode_any x.t lp.t em Wc.drew hgood.1.1 hgood.1.2 hgood.2.2.1.1 hgood.2.2.1.2)
    rw [hcd] at htc
    have HTC : Hid _ := htc
    clear hcd hcdl htc
    have HQ : Hid _ := And.intro hfbc (And.intro hownc (And.intro habc (And.intro hibc (And.intro hBc (And.intro hfc (And.intro hxb hgood))))))
    clear hfbc hownc habc hibc hBc hfc hxb hpt HK' hrecc hgood
    gi_wp2_with fail
    obtain ⟨l7, hl7⟩ : ∃ l7, lc ++ Silo.leb cd = l7 := ⟨_, rfl⟩
    have HL7 : Hid (lc ++ Silo.leb cd = l7 ∧ l7.length ≤ lc.length + 10) := ⟨hl7, by rw [← hl7, List.length_append]; have := Silo.leb_len cd HCD.out.2; omega⟩
    clear hl7
    refine wpIn_cut (fun a' w' => ∃ w7 g7 cap7, Hid (Fact7 base w.heap.size gc lc capc l7 Wc w7 g7 cap7) ∧ a' = { tmps := #[.slice (some ⟨g, 0, none⟩) l.length cap, .int .i64 s, .pointer (some ⟨tb, tk, none⟩), .pointer (some ⟨w.heap.size, 0, none⟩), undef, undef, .slice none 0 0, .pointer (some ⟨w4.heap.size, 0, none⟩), .pointer (some ⟨w4.heap.size + 1, 0, none⟩), .pointer (some ⟨Wq.heap.size, 0, none⟩), .slice (some ⟨g, 0, none⟩) l.length cap, .int .i64 s, .int .u64 s, .int .u64 (s + 1), .slice (some ⟨g1, 0, none⟩) l1.length cap1, .slice (some ⟨g1, 0, none⟩) l1.length cap1, .pointer (some ⟨tb, tk, none⟩), .int .i64 (ps.length : Nat), .int .u64 (ps.length : Nat), .slice (some ⟨g3, 0, none⟩) l3.length cap3, .pointer (some ⟨tb, tk, none⟩), .func (.func 85) #[] #[.pointer (some ⟨w5.heap.size, 0, none⟩)], .agg #[.int .i64 x.t, .int .u64 (x.v : Nat)], .slice (some ⟨gc, 0, none⟩) lc.length capc, .pointer (some ⟨Wq.heap.size, 0, none⟩), .int .i64 x.t, .pointer (some ⟨w4.heap.size + 1, 0, none⟩), .int .i64 lp.t, .bool em, .int .u64 (cd : Nat), .slice (some ⟨g7, 0, none⟩) l7.length cap7, undef, undef, undef, undef, undef, undef, undef, undef, undef], defers := [] } ∧ w' = w7.setCell ⟨w.heap.size, 0, none⟩ (.slice (some ⟨g7, 0, none⟩) l7.length cap7)) ?region7 ?rest7
    case region7 =>
      refine wpIn_region_inv (by kernel_rfl) (by kernel_rfl) (fun listed a' w' => ∃ u25 u26 u27 u28 u29 u30 u31 u32 : Value, a' = { tmps := #[.slice (some ⟨g, 0, none⟩) l.length cap, .int .i64 s, .pointer (some ⟨tb, tk, none⟩), .pointer (some ⟨w.heap.size, 0, none⟩), undef, undef, .slice none 0 0, .pointer (some ⟨w4.heap.size, 0, none⟩), .pointer (some ⟨w4.heap.size + 1, 0, none⟩), .pointer (some ⟨Wq.heap.size, 0, none⟩), .slice (some ⟨g, 0, none⟩) l.length cap, .int .i64 s, .int .u64 s, .int .u64 (s + 1), .slice (some ⟨g1, 0, none⟩) l1.length cap1, .slice (some ⟨g1, 0, none⟩) l1.length cap1, .pointer (some ⟨tb, tk, none⟩), .int .i64 (ps.length : Nat), .int .u64 (ps.length : Nat), .slice (some ⟨g3, 0, none⟩) l3.length cap3, .pointer (some ⟨tb, tk, none⟩), .func (.func 85) #[] #[.pointer (some ⟨w5.heap.size, 0, none⟩)], .agg #[.int .i64 x.t, .int .u64 (x.v : Nat)], u25, u26, u27, u28, u29, u30, u31, u32, undef, undef, undef, undef, undef, undef, undef, undef, undef], defers := [] } ∧ Hid (R7 base w.heap.size gc lc capc l7 Wc Wq.heap.size (w4.heap.size + 1) x.t lp.t em cd listed u25 u26 u27 u28 u29 u30 u31 u32 w')) ?q0 ?qend ?qstep
      case q0 => exact ⟨_, _, _, _, _, _, _, _, rfl, R7.start⟩
      case qend =>
        rintro listed a' w' hall ⟨u25, u26, u27, u28, u29, u30, u31, u32, rfl, HI⟩
        obtain ⟨w7, g7, cap7, rfl, hF7, hfb7, _, hw8⟩ := HI.out.e7 (hall 7 (by decide))
        obtain rfl := HI.out.e0 (hall 0 (by decide))
        obtain rfl := HI.out.e1 (hall 1 (by decide))
        obtain rfl := HI.out.e2 (hall 2 (by decide))
        obtain rfl := HI.out.e3 (hall 3 (by decide))
        obtain rfl := HI.out.e4 (hall 4 (by decide))
        obtain rfl := HI.out.e5 (hall 5 (by decide))
        obtain rfl := HI.out.e6 (hall 6 (by decide))
        obtain rfl := hw8 (hall 8 (by decide))
        exact ⟨w7, g7, cap7, ⟨hF7, hfb7⟩, rfl, rfl⟩
      case qstep =>
        rintro listed a' w' i o ho hi hd hdep hcl ⟨u25, u26, u27, u28, u29, u30, u31, u32, rfl, HI⟩ K hK
        match i, ho with
        | 0, ho =>
          cases ho
          have h7 : done listed 7 = false := nd hcl (j := 7) rfl ⟨0, .data⟩ (by simp) rfl hd
          obtain rfl := HI.out.nw h7
          go_simp
          refine hK _ _ ⟨_, _, _, _, _, _, _, _, rfl, ?_⟩
          exact HI.out.s0 h7
        | 1, ho =>
          cases ho
          have h2' : done listed 2 = false := nd hcl (j := 2) rfl ⟨1, .data⟩ (by simp) rfl hd
          have h6' : done listed 6 = false := nd hcl (j := 6) rfl ⟨2, .data⟩ (by simp) rfl h2'
          have h7 : done listed 7 = false := nd hcl (j := 7) rfl ⟨6, .data⟩ (by simp) rfl h6'
          obtain rfl := HI.out.nw h7
          go_simp
          refine hK _ _ ⟨_, _, _, _, _, _, _, _, rfl, ?_⟩
          exact HI.out.s1 h7
        | 2, ho =>
          cases ho
          have hd1 := hdep ⟨1, .data⟩ (by simp) rfl
          have h6' : done listed 6 = false := nd hcl (j := 6) rfl ⟨2, .data⟩ (by simp) rfl hd
          have h7 : done listed 7 = false := nd hcl (j := 7) rfl ⟨6, .data⟩ (by simp) rfl h6'
          obtain rfl := HI.out.nw h7
          obtain rfl := HI.out.e1 hd1
          go_simp
          refine hK _ _ ⟨_, _, _, _, _, _, _, _, rfl, ?_⟩
          exact HI.out.s2 h7
        | 3, ho =>
          cases ho
          have h4' : done listed 4 = false := nd hcl (j := 4) rfl ⟨3, .data⟩ (by simp) rfl hd
          have h6' : done listed 6 = false := nd hcl (j := 6) rfl ⟨4, .data⟩ (by simp) rfl h4'
          have h7 : done listed 7 = false := nd hcl (j := 7) rfl ⟨6, .data⟩ (by simp) rfl h6'
          obtain rfl := HI.out.nw h7
          go_simp
          refine hK _ _ ⟨_, _, _, _, _, _, _, _, rfl, ?_⟩
          exact HI.out.s3 h7
        | 4, ho =>
          cases ho
          have hd3 := hdep ⟨3, .data⟩ (by simp) rfl
          have h6' : done listed 6 = false := nd hcl (j := 6) rfl ⟨4, .data⟩ (by simp) rfl hd
          have h7 : done listed 7 = false := nd hcl (j := 7) rfl ⟨6, .data⟩ (by simp) rfl h6'
          obtain rfl := HI.out.nw h7
          obtain rfl := HI.out.e3 hd3
          go_simp
          refine hK _ _ ⟨_, _, _, _, _, _, _, _, rfl, ?_⟩
          exact HI.out.s4 h7
        | 5, ho =>
          cases ho
          have h6' : done listed 6 = false := nd hcl (j := 6) rfl ⟨5, .data⟩ (by simp) rfl hd
          have h7 : done listed 7 = false := nd hcl (j := 7) rfl ⟨6, .data⟩ (by simp) rfl h6'
          obtain rfl := HI.out.nw h7
          go_simp
          refine hK _ _ ⟨_, _, _, _, _, _, _, _, rfl, ?_⟩
          exact HI.out.s5 h7
        | 6, ho =>
          cases ho
          have hd2 := hdep ⟨2, .data⟩ (by simp) rfl
          have hd4 := hdep ⟨4, .data⟩ (by simp) rfl
          have hd5 := hdep ⟨5, .data⟩ (by simp) rfl
          have h7 : done listed 7 = false := nd hcl (j := 7) rfl ⟨6, .data⟩ (by simp) rfl hd
          obtain rfl := HI.out.nw h7
          obtain rfl := HI.out.e2 hd2
          obtain rfl := HI.out.e4 hd4
          obtain rfl := HI.out.e5 hd5
          go_simp
          refine ⟨trivial, fun _ => by omega, (callsIn_round HTC.out).mono ?_⟩
          rintro e w7' ⟨rfl, rfl⟩
          refine hK _ _ ⟨_, _, _, _, _, _, _, _, rfl, ?_⟩
          exact HI.out.s6 h7
        | 7, ho =>
          cases ho
          have hd0 := hdep ⟨0, .data⟩ (by simp) rfl
          have hd6 := hdep ⟨6, .data⟩ (by simp) rfl
          obtain rfl := HI.out.e0 hd0
          obtain rfl := HI.out.e6 hd6
          obtain rfl := HI.out.nw hd
          go_simp
          refine ⟨trivial, fun _ => by omega, (callsIn_round (Append_own base gc capc lc cd Wc.drew HCD.out.2 (bytesAt_drew HQ.out.2.1) (by omega) (by show base ≤ Wc.heap.size; omega))).mono ?_⟩
          rintro e w7 ⟨g7, cap7, rfl, H7⟩
          rw [HL7.out.1] at H7 ⊢
          have h8 : done listed 8 = false := nd hcl (j := 8) rfl ⟨7, .data⟩ (by simp) rfl hd
          refine hK _ _ ⟨_, _, _, _, _, _, _, _, rfl, ?_⟩
          exact HI.out.call hi h8 H7.out (afb HQ.out.1 HQ.out.2.1 H7.out.2.1)
        | 8, ho =>
          cases ho
          have hd7 := hdep ⟨7, .data⟩ (by simp) rfl
          obtain ⟨w7, g7, cap7, rfl, hF7, hfb7, hw8, _⟩ := HI.out.e7 hd7
          obtain rfl := hw8 hd
          have kc7 : w'.cell? ⟨w.heap.size, 0, none⟩ = some (.slice (some ⟨gc, 0, none⟩) lc.length capc) := by simp [World.cell?, hfb7]
          have kf7 : w'.frozen? ⟨w.heap.size, 0, none⟩ = false := by simp [World.frozen?, hfb7]
          go_simp
          refine hK _ _ ⟨_, _, _, _, _, _, _, _, rfl, ?_⟩
          exact HI.out.stored hi hd7 hF7 hfb7
    rintro a' w' ⟨w7, g7, cap7, H7, rfl, rfl⟩
    dsimp only
    obtain ⟨w8, hw8, hfb8, hown8, hf8, hsz8⟩ := box_step H7.out.2 H7.out.1.1
    rw [hw8]
    have hfc8 : Fp (fun k => k = gc ∨ k = w.heap.size) Wc w8 := ((Fp.drew (fun _ => False) Wc).trans H7.out.1.2.1 (U := fun k => k = gc ∨ k = w.heap.size) (fun _ h => h.elim) (fun _ _ h => .inl h)).trans hf8 (fun _ h => h) (fun _ _ h => .inr h)
    have hgcx : gc ≠ Wq.heap.size := bytes_ne HQ.out.2.1 HQ.out.2.2.2.2.2.2.1 (by decide)
    have hgca : gc ≠ w4.heap.size + 1 := bytes_ne HQ.out.2.1 HQ.out.2.2.1 (by decide)
    have hgci : gc ≠ w4.heap.size := bytes_ne HQ.out.2.1 HQ.out.2.2.2.1 (by decide)
    have hxl := heap_lt HQ.out.2.2.2.2.2.2.1
    have hal := heap_lt HQ.out.2.2.1
    have hil := heap_lt HQ.out.2.2.2.1
    have hfl := heap_lt HQ.out.1
    have hsz6' := hsz6.out
    have hsz5' := HSZ5.out
    have hwq : w4.heap.size + 3 ≤ Wq.heap.size := by omega
    have hxb8 : w8.heap[Wq.heap.size]? = some (.cells #[.int .i64 x.t, .int .u64 (x.v : Nat)] 80 (0, 0)) := (hfc8.block _ hxl (by omega)).trans HQ.out.2.2.2.2.2.2.1
    have hab8 : w8.heap[w4.heap.size + 1]? = some (.cells #[.int .i64 lp.t, .int .u64 (lp.v : Nat)] 80 (0, 0)) := (hfc8.block _ hal (by omega)).trans HQ.out.2.2.1
    have hib8 : w8.heap[w4.heap.size]? = some (.cells #[.bool em] 4 (0, 0)) := (hfc8.block _ hil (by omega)).trans HQ.out.2.2.2.1
    have j0 : w8.cell? ⟨w.heap.size, 0, none⟩ = some (.slice (some ⟨g7, 0, none⟩) l7.length cap7) := by simp [World.cell?, hfb8]
    have j1 : w8.cell? ⟨Wq.heap.size, 1, none⟩ = some (.int .u64 (x.v : Nat)) := by simp [World.cell?, hxb8]
    have j2 : w8.cell? ⟨w4.heap.size + 1, 1, none⟩ = some (.int .u64 (lp.v : Nat)) := by simp [World.cell?, hab8]
    have hxor : bits BinOp.xor IntKind.u64 (x.v : Int) (lp.v : Int) = ((x.v ^^^ lp.v : Nat) : Int) := xor64 _ _ HQ.out.2.2.2.2.2.2.2.2.1 HQ.out.2.2.2.2.2.2.2.2.2.2
    have hb8 : base ≤ w8.heap.size := by have := hfc8.size; omega
    have H8 : Hid _ := And.intro hfb8 (And.intro hown8 (And.intro hfc8 (And.intro hxb8 (And.intro hab8 (And.intro hib8 hsz8)))))
    clear hw8 hfb8 hown8 hf8 hsz8 hfc8 hxb8 hab8 hib8 k0 k2 k3 k5 hsz6' hsz5'
    have hlim7 : l7.length ≤ 1099511627776 := by have := HL7.out.2; omega
    gi_wp2_with fail
    refine ⟨trivial, fun _ => by omega, (callsIn_round (Append_own base g7 cap7 l7 (x.v ^^^ lp.v) w8 (Silo.xor_lt _ _ HQ.out.2.2.2.2.2.2.2.2.1 HQ.out.2.2.2.2.2.2.2.2.2.2) H8.out.2.1 hlim7 hb8)).mono ?_⟩
    rintro e w9 ⟨g9, cap9, rfl, H9⟩
    obtain ⟨l9, hl9⟩ : ∃ l9, l7 ++ Silo.leb (x.v ^^^ lp.v) = l9 := ⟨_, rfl⟩
    rw [hl9] at H9 ⊢
    have HL9 : Hid _ := hl9
    clear hl9
    have hg7x : g7 ≠ Wq.heap.size := bytes_ne H8.out.2.1 H8.out.2.2.2.1 (by decide)
    have hg7a : g7 ≠ w4.heap.size + 1 := bytes_ne H8.out.2.1 H8.out.2.2.2.2.1 (by decide)
    have hg7i : g7 ≠ w4.heap.size := bytes_ne H8.out.2.1 H8.out.2.2.2.2.2.1 (by decide)
    have hg7f : g7 ≠ w.heap.size := bytes_ne H8.out.2.1 H8.out.1 (by decide)
    have hfb9 : w9.heap[w.heap.size]? = some (.cells #[.slice (some ⟨g7, 0, none⟩) l7.length cap7] 84 (0, 0)) := (H9.out.2.1.block _ (heap_lt H8.out.1) (by omega)).trans H8.out.1
    have hxb9 := (H9.out.2.1.block _ (heap_lt H8.out.2.2.2.1) (by omega)).trans H8.out.2.2.2.1
    have hab9 := (H9.out.2.1.block _ (heap_lt H8.out.2.2.2.2.1) (by omega)).trans H8.out.2.2.2.2.1
    have hib9 := (H9.out.2.1.block _ (heap_lt H8.out.2.2.2.2.2.1) (by omega)).trans H8.out.2.2.2.2.2.1
    obtain ⟨w10, hw10, hfb10, hown10, hf10, hsz10⟩ := box_step hfb9 H9.out.1
    have hxb10 := (hf10.block _ (heap_lt hxb9) (by omega)).trans hxb9
    have hab10 := (hf10.block _ (heap_lt hab9) (by omega)).trans hab9
    have hib10 := (hf10.block _ (heap_lt hib9) (by omega)).trans hib9
    have m0 : w9.cell? ⟨w.heap.size, 0, none⟩ = some (.slice (some ⟨g7, 0, none⟩) l7.length cap7) := by simp [World.cell?, hfb9]
    have m1 : w9.frozen? ⟨w.heap.size, 0, none⟩ = false := by simp [World.frozen?, hfb9]
    have HW : Hid _ := hw10
    have m2 : (w9.setCell ⟨w.heap.size, 0, none⟩ (.slice (some ⟨g9, 0, none⟩) l9.length cap9)).cell? ⟨Wq.heap.size, 0, none⟩ = some (.int .i64 x.t) := by rw [hw10]; simp [World.cell?, hxb10]
    have m3 : (w9.setCell ⟨w.heap.size, 0, none⟩ (.slice (some ⟨g9, 0, none⟩) l9.length cap9)).cell? ⟨Wq.heap.size, 1, none⟩ = some (.int .u64 (x.v : Nat)) := by rw [hw10]; simp [World.cell?, hxb10]
    have m4 : (w9.setCell ⟨w.heap.size, 0, none⟩ (.slice (some ⟨g9, 0, none⟩) l9.length cap9)).cell? ⟨w4.heap.size + 1, 0, none⟩ = some (.int .i64 lp.t) := by rw [hw10]; simp [World.cell?, hab10]
    have m5 : (w9.setCell ⟨w.heap.size, 0, none⟩ (.slice (some ⟨g9, 0, none⟩) l9.length cap9)).cell? ⟨w4.heap.size + 1, 1, none⟩ = some (.int .u64 (lp.v : Nat)) := by rw [hw10]; simp [World.cell?, hab10]
    have m6 : (w9.setCell ⟨w.heap.size, 0, none⟩ (.slice (some ⟨g9, 0, none⟩) l9.length cap9)).cell? ⟨w4.heap.size, 0, none⟩ = some (.bool em) := by rw [hw10]; simp [World.cell?, hib10]
    have m7 : ∀ i, (w9.setCell ⟨w.heap.size, 0, none⟩ (.slice (some ⟨g9, 0, none⟩) l9.length cap9)).frozen? ⟨w4.heap.size + 1, i, none⟩ = false := by intro i; rw [hw10]; simp [World.frozen?, hab10]
    have m8 : (w9.setCell ⟨w.heap.size, 0, none⟩ (.slice (some ⟨g9, 0, none⟩) l9.length cap9)).frozen? ⟨w4.heap.size, 0, none⟩ = false := by rw [hw10]; simp [World.frozen?, hib10]
    have H10 : Hid _ := And.intro hfb10 (And.intro hown10 (And.intro hf10 (And.intro hxb10 (And.intro hab10 (And.intro hib10 hsz10)))))
    clear hw10 hfb10 hown10 hf10 hxb10 hab10 hib10 hsz10 hfb9 hxb9 hab9 hib9 j0 j1 j2 hxor
    gi_wp2
    rw [HW.out]
    exact around HE.out HCD.out.1 HL7.out.1 HL9.out HQ.out.2.2.2.2.1 rfl HQ.out.2.2.2.2.2.1 H7.out H8.out.2.2.1 H8.out.2.2.2.2.2.2 H9.out.2.1 H9.out.2.2.1 H9.out.2.2.2 H10.out.1 H10.out.2.1 H10.out.2.2.1 H10.out.2.2.2.2.1 H10.out.2.2.2.2.2.1 H10.out.2.2.2.2.2.2 (by omega) (by omega) (by omega)
  case hdone =>
    rintro D Bf Wf hD ⟨gf, capf, hfbf, hownf, habf, hibf, hBf'⟩ hff hBf hnD _ hdef
    have hle : l3 ++ Silo.encPts 0 0 true ps = l ++ Silo.encSer s ps := by
      rw [Silo.encSer, ← HL3.out.1, ← HL1.out]; simp
    rw [hle] at hfbf hownf
    obtain ⟨lf, hlf⟩ : ∃ lf, l ++ Silo.encSer s ps = lf := ⟨_, rfl⟩
    rw [hlf] at hfbf hownf
    have HLF : Hid _ := hlf
    have k6 : Wf.cell? ⟨w.heap.size, 0, none⟩ = some (.slice (some ⟨gf, 0, none⟩) lf.length capf) := by simp [World.cell?, hfbf]
    have HZ : Hid _ := And.intro hownf (And.intro hff (And.intro hBf (And.intro hnD (And.intro hdef hBf'))))
    clear hfbf hownf habf hibf hff hBf hnD hdef hBf' hbx6 hpts6 hfb6 hown6 hib6 hab6 hle hlf
    gi_wp2
    obtain ⟨hownf, hff, hBf, hnD, hdef, hBf'⟩ := HZ.out
    refine ⟨by simp, .inl ⟨D, _, rfl, run_takeDeferred hdef, ?_⟩⟩
    have hgD : gf ≠ D := fun e => hnD ((hBf' D).2 (.inr (.inr (.inr e.symm))))
    have hsz6' := hsz6.out
    have hsz5' := HSZ5.out
    have hfD : Fp (fun k => k = D) Wf (Wf.putObj D (.deferred none)) := Fp.putObj _ _ _ rfl
    have hszD : (Wf.putObj D (.deferred none)).heap.size = Wf.heap.size := by simp [World.putObj]
    refine ⟨_, results_tmp rfl _ _ _, gf, capf, ?_, ?_, ?_, ?_, ?_⟩
    · rw [HLF.out]; exact ret_val (by simp)
    · rw [HLF.out]
      refine Fp.ownsRow hfD hownf (fun k hk e => ?_)
      simp only [Value.ownBlock, Option.some.injEq] at hk; omega
    · have t1 : Fp (fun k => k = g) w w6 := H4.out.2.2.2.trans H6.out.1 (fun _ h => h) (fun _ _ h => h.elim)
      have t2 : Fp (fun k => k = g) w Wf := t1.trans hff (fun _ h => h) (fun k hk h => by
        rcases h with (h | h | h | h) | h
        · omega
        · omega
        · omega
        · rcases HG3.out with h' | h' <;> omega
        · exact h.elim)
      exact t2.trans hfD (fun _ h => h) (fun k hk e => by omega)
    · have := (hBf gf ((hBf' gf).2 (.inr (.inr (.inr rfl))))).1
      rcases this with (h | h | h | h) | h
      · right; omega
      · right; omega
      · right; omega
      · rcases HG3.out with h' | h'
        · left; omega
        · right; omega
      · right; omega
    · rw [hszD]; exact (hBf gf ((hBf' gf).2 (.inr (.inr (.inr rfl))))).2

end Go.Proofs.Ytojjkjfcbfoinaa
