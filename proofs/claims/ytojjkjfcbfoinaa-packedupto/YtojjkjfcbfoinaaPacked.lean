/- silokeep.Packed: the walk. -/
import Derived.Test.YtojjkjfcbfoinaaPure8
import Derived.Test.YtojjkjfcbfoinaaSamples
import Derived.BigQuiet
namespace Go.Proofs.Ytojjkjfcbfoinaa
open Go.RowKit Go.Shelf

/-- The block of nothing. -/
def nil12 : List UInt8 := Silo.sealed [66, 0, 0, 0]

theorem file_nil {m : Nat → List Silo.Pt} (h : Silo.LaidBy [] m) : Silo.file 0 0 m = nil12 := by
  have : Silo.encAll m 0 16 = [] := by
    have h2 := Silo.encAll_skip (m := m) 0 16 0 (fun j _ hj => by
      have h1 := h j (by omega)
      exact (Silo.Left.self (ps := []) List.Pairwise.nil).same h1 |>.symm)
    rw [Nat.add_zero] at h2
    rw [h2]; rfl
  unfold Silo.file Silo.encBody nil12
  rw [this, Silo.leb_lo 0 (by omega)]
  rfl

theorem nil12_size : (S nil12).size = 12 := rfl

theorem nil12_first : (((S nil12)[0]'(by rw [nil12_size]; decide)).toNat : Int) = 66 := rfl

/-- The sample with a series that may be. -/
def pk (x : Silo.Smp) : Silo.Smp := { x with s := pickI x.s 16 }

theorem pk_fits (raw : List Silo.Smp) : Silo.fits (raw.map pk) = true := by
  unfold Silo.fits
  rw [List.all_eq_true]
  intro a ha
  obtain ⟨x, _, rfl⟩ := List.mem_map.1 ha
  have := pickI_rng x.s 16 (by omega)
  simp only [decide_eq_true_eq]
  exact this

theorem file_len (lo hi : Nat) (m : Nat → List Silo.Pt) (hlo : lo ≤ 999999) (hhi : hi ≤ 999999) (hg : ∀ s, s < 16 → Silo.goodPts 0 true (m s)) (hl : ∀ s, s < 16 → (m s).length ≤ 16777216) : (Silo.file lo hi m).length ≤ 1099511627776 := by
  have h1 := encTo_len m hg hl 16 (by omega)
  rw [encTo_eq] at h1
  have h2 := Silo.leb_len lo (by unfold Silo.M64; omega)
  have h3 := Silo.leb_len hi (by unfold Silo.M64; omega)
  unfold Silo.file Silo.sealed Silo.encBody
  rw [List.length_append, Silo.be8_length, List.length_cons, List.length_append, List.length_append, List.length_append, List.length_singleton]
  omega

theorem decode_len {f : List UInt8} {d : Silo.Dec} (h : Silo.decode f = some d) : d.l.length ≤ f.length := by
  unfold Silo.decode at h
  split at h
  · cases h
  · split at h
    · cases h
    · split at h
      · cases h
      · rename_i b body hb
        have hlen : (b :: body).length ≤ f.length := by rw [← hb, List.length_take]; omega
        split at h
        · unfold Silo.decBody at h
          simp only at h
          split at h
          · cases h
          · split at h
            · simp only [Option.some.injEq] at h
              subst h
              have h1 := rdSmp_count 17 (Silo.rdNum (Silo.rdNum (some body)).2).2 0
              have h2 := left_rdNum (Silo.rdNum (some body)).2
              have h3 := left_rdNum (some body)
              have h4 : Silo.left (some body) = body.length := rfl
              simp only [List.length_cons] at hlen
              simp only
              omega
            · cases h
        · cases h

theorem smps_some {w : World} {base : Nat} {a : Option Addr} {n c : Nat} {xs : List Silo.Smp} (h : World.smpsAt w base (.slice a n c) xs) (hk : 0 < xs.length) : ∃ g, a = some ⟨g, 0, none⟩ ∧ n = xs.length ∧ g < w.heap.size := by
  rcases h.2 with ⟨_, h2⟩ | ⟨g, cap, cur, h3, _, hh, _⟩
  · omega
  · simp only [Value.slice.injEq] at h3
    exact ⟨g, h3.1, h3.2.1, heap_lt hh⟩

set_option maxHeartbeats 2000000 in
set_option maxRecDepth 100000 in
theorem Packed_walk (lo hi : Int) (rv : Value) (raw : List Silo.Smp) (fl : List UInt8) (w : World) (hlo : Silo.isInt lo) (hhi : Silo.isInt hi) (hin : SmpIn w w.heap.size rv raw) (hg : ∀ x ∈ raw, Silo.isInt x.s ∧ Silo.isInt x.t ∧ x.v < Silo.M64) (hl : raw.length ≤ 1048576) (hf : fl.length ≤ 1048576) :
    Calls Try.prog 4 #[.int .i64 lo, .int .i64 hi, rv, .string (S fl)] w fun e w' => e = .returned (.bool true) ∧ Fp (fun _ => False) w w' := by
  obtain ⟨ad, c, rfl, hin'⟩ := hin
  have H : Hid _ := And.intro hin' hg
  clear hin' hg
  go_enter Try.func4, Try.ntmps4
  go_wp2_with fail
  refine (Block_ok 0 0 (.slice none 0 0) [] w (by omega) (by omega) (SmpIn.nil _ _) (by simp) rfl (fun x hx => by cases hx)).mono ?_
  rintro e w1 ⟨m0, h01, _, _, rfl, h05⟩
  rw [file_nil h01]
  have H1 : Hid _ := h05
  clear h01 h05
  have n1 := nil12_size
  have n2 := nil12_first
  go_wp2_with fail
  go_loopw [11, 12] (fun lv iv wr => ∃ k : Nat, k ≤ raw.length ∧ iv = .int .i64 k ∧ Hid (World.smpsAt wr w.heap.size lv ((raw.take k).map pk) ∧ Fp (fun _ => False) w wr)) (fun _ iv _ => raw.length - (intOf iv).toNat)
  case atStart => exact ⟨0, by omega, rfl, nil_row _ _, H1.out⟩
  case round =>
    obtain ⟨k, hk, rfl, HR⟩ := hrel
    by_cases hlt : k < raw.length
    · obtain ⟨b, off, hb⟩ : ∃ b off, ad = some ⟨b, off, none⟩ ∧ b < w.heap.size ∧ ∀ k (hk : k < raw.length),
          w.cell? ⟨b, off + k * 3, none⟩ = some (.int .i64 raw[k].s) ∧ w.cell? ⟨b, off + k * 3 + 1, none⟩ = some (.int .i64 raw[k].t) ∧ w.cell? ⟨b, off + k * 3 + 2, none⟩ = some (.int .u64 (raw[k].v : Nat)) := by
        rcases H.out.1 with h | h
        · rw [h] at hlt; simp at hlt
        · exact h
      obtain ⟨rfl, hbt, hcell⟩ := hb
      obtain ⟨c0, c1, c2⟩ := hcell k hlt
      rw [← HR.out.2.cell (p := ⟨b, off + k * 3, none⟩) hbt (fun h => h)] at c0
      rw [← HR.out.2.cell (p := ⟨b, off + k * 3 + 1, none⟩) hbt (fun h => h)] at c1
      rw [← HR.out.2.cell (p := ⟨b, off + k * 3 + 2, none⟩) hbt (fun h => h)] at c2
      obtain ⟨x, hx⟩ : ∃ x, raw[k] = x := ⟨_, rfl⟩
      rw [hx] at c0 c1 c2
      have hxs : Silo.isInt x.s := by rw [← hx]; exact (H.out.2 _ (List.getElem_mem _)).1
      have HX : Hid _ := And.intro hx hxs
      have hbr : b < wr.heap.size := Nat.lt_of_lt_of_le hbt HR.out.2.size
      clear hcell hx hxs
      have kN : (k : Int) < (raw.length : Int) := by omega
      go_wp2_with fail
      refine (Keeppick_any x.s 16 _ HX.out.2.1 HX.out.2.2 (by omega) (by omega)).mono ?_
      rintro e w2 ⟨rfl, rfl⟩
      obtain ⟨y, hy⟩ : ∃ y : Silo.Smp, y = pk x := ⟨_, rfl⟩
      have ys : y.s = pickI x.s 16 := by rw [hy]; rfl
      have yt : y.t = x.t := by rw [hy]; rfl
      have yv : y.v = x.v := by rw [hy]; rfl
      rw [← ys]
      have HY : Hid _ := And.intro hy (And.intro ys (And.intro yt yv))
      clear hy ys yt yv
      go_wp2_with (at_builtin; refine wpList_append_smp rfl _ _ rfl w.heap.size u11 ((raw.take k).map pk) y rfl ?c1 _ rfl ?c2 ?c3 ?c4 ?_; rotate_left 4; intro g cap w3 HA)
      case c1 => exact Fp.ownsRow ((Fp.alloc (fun _ => False) _ _).trans' (Fp.alloc _ _ _)) HR.out.1 (fun _ _ h => h)
      case c2 =>
        intro j u hj
        rw [← HY.out.2.2.1, ← HY.out.2.2.2]
        have h := smp_new (wr.alloc (.cells #[.int .i64 y.s, .int .i64 y.t, .int .u64 (y.v : Nat)] 42)) y 42 j u hj
        have e : (wr.alloc (.cells #[.int .i64 y.s, .int .i64 y.t, .int .u64 (y.v : Nat)] 42)).heap.size = wr.heap.size + 1 := by simp
        rw [e] at h
        exact h
      case c3 => simp; omega
      case c4 => have := HR.out.2.size; simp; omega
      go_roundw
      case rel =>
        refine ⟨k + 1, by omega, by go_num, ?_, ?_⟩
        · have h := HA.out.row
          have e : ((raw.take k).map pk).length = k := by simp; omega
          rw [e] at h
          rw [List.take_succ_eq_append_getElem hlt, List.map_append, HX.out.1]
          rw [HY.out.1] at h
          exact h
        · refine (HR.out.2.trans' ((Fp.alloc _ _ _).trans' (Fp.alloc _ _ _))).trans HA.out.foot (fun _ h => h) (fun j hj h => ?_)
          have := (World.ownsRow.lt HR.out.1 j h).1
          omega
      case measure => simp [intOf]; omega
    · obtain rfl : k = raw.length := by omega
      have h1 := HR.out
      rw [List.take_length] at h1
      have HR1 : Hid _ := h1
      clear h1 HR hk hlt H1
      have pa := pickI_rng lo 1000000 (by omega)
      obtain ⟨a, ha⟩ : ∃ a : Nat, (a : Int) = pickI lo 1000000 := ⟨(pickI lo 1000000).toNat, by omega⟩
      have ha9 : a ≤ 999999 := by omega
      have pb := pickI_rng hi (1000000 - a) (by omega)
      obtain ⟨b, hb⟩ : ∃ b : Nat, (b : Int) = pickI hi (1000000 - a) := ⟨(pickI hi (1000000 - a)).toNat, by omega⟩
      have hb9 : a + b ≤ 999999 := by omega
      have HP : Hid _ := And.intro ha hb
      clear pa pb ha hb
      go_wp2_with fail
      refine (Keeppick_any lo 1000000 _ hlo.1 hlo.2 (by omega) (by omega)).mono ?_
      rintro e w2 ⟨rfl, rfl⟩
      rw [← HP.out.1]
      go_wp2_with fail
      refine (Keeppick_any hi (1000000 - a) _ hhi.1 hhi.2 (by omega) (by omega)).mono ?_
      rintro e w2 ⟨rfl, rfl⟩
      rw [← HP.out.2]
      go_wp2_with fail
      obtain ⟨b2, hb2⟩ : ∃ b2 : Nat, (b2 : Int) = (a : Int) + (b : Int) := ⟨a + b, by omega⟩
      rw [← hb2]
      have hab : a ≤ b2 := by omega
      have hb29 : b2 ≤ 999999 := by omega
      clear hb2 HP hb9
      have hpk : ∀ x ∈ raw.map pk, Silo.isInt x.t ∧ x.v < Silo.M64 := fun x hx => by
        obtain ⟨y, hy, rfl⟩ := List.mem_map.1 hx
        exact (H.out.2 y hy).2
      refine (Block_ok a b2 u11 (raw.map pk) w2 hab hb29 (SmpIn.of_row HR1.out.1 (Nat.le_refl _)) (by simp; omega) (pk_fits raw) hpk).mono ?_
      rintro e w3 ⟨m, k1, k2, k3, rfl, k4⟩
      have hm9 : ∀ s, s < 16 → (m s).length ≤ 16777216 := fun s hs => Nat.le_trans (k3 s hs) (by simp; omega)
      have hdec : Silo.decode (Silo.file a b2 m) = some ⟨a, b2, Silo.flat m⟩ := Silo.decode_file a b2 m hab hb29 (fun j hj => ⟨k2 j hj, by have := hm9 j hj; unfold Silo.M64; omega⟩)
      have hfl := file_len a b2 m (by omega) hb29 k2 hm9
      have hlay := Silo.lay_flat (pk_fits raw) k1
      have H3 : Hid _ := And.intro hdec (And.intro hfl (And.intro hlay k4))
      clear hdec hfl hlay k1 k2 k3 k4 hm9 hpk
      go_wp2_with fail
      refine (Samples_some (Silo.file a b2 m) w3 H3.out.2.1 _ H3.out.1).mono ?_
      rintro e w4 ⟨a4, c4, rfl, h4⟩
      have H4 : Hid _ := h4
      clear h4
      go_wp2_with fail
      have hin4 : SmpIn w4 w4.heap.size u11 (raw.map pk) :=
        (((SmpIn.of_row HR1.out.1 (Nat.le_refl _)).fp H3.out.2.2.2 (Nat.le_refl _) (fun _ _ h => h)).fp H4.out.2 H3.out.2.2.2.size (fun _ _ h => h)).up (Nat.le_trans H3.out.2.2.2.size H4.out.2.size)
      refine (KeeplayAll_any (raw.map pk) u11 w4 hin4 (by simp; omega)).mono ?_
      rintro e w5 ⟨v5, rfl, h5, h6⟩
      rw [H3.out.2.2.1] at h5
      obtain ⟨a5, c5, rfl⟩ := ownsRow_form h5
      have H5 : Hid _ := And.intro (Fp.ownsRow h6 H4.out.1 (fun _ _ h => h)) (And.intro h5 ((HR1.out.2.trans' H3.out.2.2.2).trans' (H4.out.2.trans' h6)))
      have hN9 : (Silo.flat m).length ≤ 1048576 := by
        have h := layAll_length [] (raw.map pk)
        rw [H3.out.2.2.1] at h
        simp only [List.length_nil, List.length_map] at h
        omega
      obtain ⟨N, hN⟩ : ∃ N, (Silo.flat m).length = N := ⟨_, rfl⟩
      rw [hN] at hN9
      have HN : Hid _ := hN
      clear h5 h6 hin4 H4 H3 HR1
      simp only [hN]
      clear hN
      go_wp2_with fail
      go_loopw [23] (fun iv wr => ∃ k : Nat, k ≤ N ∧ iv = .int .i64 k ∧ Hid (World.smpsAt wr w3.heap.size (.slice a4 N c4) (Silo.flat m) ∧ World.smpsAt wr w4.heap.size (.slice a5 N c5) (Silo.flat m) ∧ Fp (fun _ => False) w wr)) (fun iv _ => N - (intOf iv).toNat)
      case atStart =>
        have h := H5.out
        rw [HN.out] at h
        refine ⟨0, by omega, rfl, ?_, h.2⟩
        unfold World.smpsAt
        rw [HN.out]
        exact h.1
      case round =>
        obtain ⟨k, hk, rfl, HR⟩ := hrel
        by_cases hlt : k < N
        · have hkl : k < (Silo.flat m).length := by rw [HN.out]; exact hlt
          obtain ⟨g4, rfl, hn4, hg4⟩ := smps_some HR.out.1 (by omega)
          obtain ⟨g5, rfl, hn5, hg5⟩ := smps_some HR.out.2.1 (by omega)
          have hr4 := HR.out.1
          have hr5 := HR.out.2.1
          rw [hn4] at hr4 hr5
          obtain ⟨c0, c1, c2⟩ := smpsAt_cell hr4 k hkl
          obtain ⟨d0, d1, d2⟩ := smpsAt_cell hr5 k hkl
          obtain ⟨x, hx⟩ : ∃ x, (Silo.flat m)[k] = x := ⟨_, rfl⟩
          rw [hx] at c0 c1 c2 d0 d1 d2
          clear hr4 hr5 hn4 hn5 hkl hx
          have kN : (k : Int) < (N : Int) := by omega
          go_wp2_with fail
          go_quiet (fail)
          go_wp2
          go_roundw
          case rel =>
            exact ⟨k + 1, by omega, by go_num, Fp.ownsRow (Fp.drewN (fun _ => False) _ _) HR.out.1 (fun _ _ h => h), Fp.ownsRow (Fp.drewN (fun _ => False) _ _) HR.out.2.1 (fun _ _ h => h), HR.out.2.2.trans' (Fp.drewN _ _ _)⟩
          case measure => simp [intOf]; omega
        · obtain rfl : k = N := by omega
          have HF : Hid _ := HR.out.2.2
          clear HR H5 hlt hk
          go_wp2_with fail
          cases hd : Silo.decode fl with
          | none =>
            refine (Samples_none fl wr (by omega) hd).mono ?_
            rintro e w6 ⟨rfl, h6⟩
            have H6 : Hid _ := h6
            clear h6 hd
            go_wp2
            go_ret
            exact ⟨ret_val (by simp), HF.out.trans' H6.out⟩
          | some d =>
            refine (Samples_some fl wr (by omega) d hd).mono ?_
            rintro e w6 ⟨a6, c6, rfl, h6⟩
            have hlen := decode_len hd
            obtain ⟨m6, q1, q2, q3, q4, q5⟩ := Silo.decode_some hd
            have H6 : Hid _ := And.intro h6 (And.intro q1 (And.intro q2 (And.intro q3 (And.intro q4 (And.intro q5 hlen)))))
            clear h6 hd hlen q1 q2 q3 q4 q5
            go_wp2_with fail
            refine (Block_ok d.lo d.hi _ d.l w6 H6.out.2.2.2.2.1 H6.out.2.2.2.2.2.1 (SmpIn.of_row H6.out.1.1 (Nat.le_refl _)) (Nat.le_trans H6.out.2.2.2.2.2.2 (by omega)) (by rw [H6.out.2.2.1]; exact Silo.flat_fits m6) (by rw [H6.out.2.2.1]; exact Silo.flat_good H6.out.2.2.2.1)).mono ?_
            rintro e w7 ⟨m7, r1, _, _, rfl, r4⟩
            rw [H6.out.2.2.1] at r1
            have hfe : Silo.file d.lo d.hi m7 = fl := (Silo.file_again H6.out.2.2.2.1 r1).trans H6.out.2.1.symm
            rw [hfe]
            have H7 : Hid _ := r4
            clear r1 r4 hfe
            go_wp2
            go_ret
            exact ⟨ret_val (by simp), (HF.out.trans' H6.out.1.2).trans' H7.out⟩

end Go.Proofs.Ytojjkjfcbfoinaa
