/- Packed, RefSamples, in one text. -/
import Derived.Test.YtbimkgmhfcgpmaaGreatDoorAidOne
import Derived.Test.YtbimkgmhfcgpmaaGreatDoorDecOne
import Derived.BigQuiet
import Derived.Test.YtbimkgmhfcgpmaaGreatDoorRefTold
import Derived.Deep.CutRange

/- silokeep.Packed: the walk. -/
namespace Go.Proofs.YtbimkgmhfcgpmaaGreatDoor
open Go.RowKit Go.Shelf

theorem smps_some {w : World} {base : Nat} {a : Option Addr} {n c : Nat} {xs : List Silo.Smp} (h : World.smpsAt w base (.slice a n c) xs) (hk : 0 < xs.length) : ∃ g, a = some ⟨g, 0, none⟩ ∧ n = xs.length ∧ g < w.heap.size := by
  rcases h.2 with ⟨_, h2⟩ | ⟨g, cap, cur, h3, _, hh, _⟩
  · omega
  · simp only [Value.slice.injEq] at h3
    exact ⟨g, h3.1, h3.2.1, heap_lt hh⟩

end Go.Proofs.YtbimkgmhfcgpmaaGreatDoor

/- siloref.Samples. -/
namespace Go.Proofs.YtbimkgmhfcgpmaaGreatDoor
open Go.RowKit Go.Shelf

/-- No block. -/
def bad4 : Value := .tuple #[.int .i64 0, .int .i64 0, .slice none 0 0, .int .i64 3]

/-- What Samples leaves. -/
def RP (f : List UInt8) (w : World) (e : Ending) (w' : World) : Prop := Fp (fun _ => False) w w' ∧ (Silo.decode f = none → e = .returned bad4) ∧
  ∀ d, Silo.decode f = some d → ∃ a c, e = .returned (.tuple #[.int .i64 (d.lo : Nat), .int .i64 (d.hi : Nat), .slice a d.l.length c, .int .i64 0]) ∧ World.smpsAt w' w.heap.size (.slice a d.l.length c) d.l

theorem RP.bad {f : List UInt8} {w w' : World} (hf : Fp (fun _ => False) w w') (h : ∀ lo hi m, Silo.T f lo hi m → False) : RP f w (.returned bad4) w' :=
  ⟨hf, fun _ => rfl, fun d hd => by rw [Silo.no_decode h] at hd; cases hd⟩

/-- A place as a number: -1 is none. -/
def plc : Option Nat → Int
  | some p => (p : Int)
  | none => -1

/-- The sample x is block b. -/
structure XB (W : World) (b : Nat) (x : Silo.Smp) : Prop where
  blk : W.heap[b]? = some (.cells #[.int .i64 x.s, .int .i64 x.t, .int .u64 (x.v : Nat)] 118 (0, 0))

theorem XB.lies {W : World} {b : Nat} {x : Silo.Smp} (h : XB W b x) : Lies W b x :=
  ⟨heap_lt h.blk, by simp [World.cell?, h.blk], by simp [World.cell?, h.blk], by simp [World.cell?, h.blk]⟩

theorem XB.frozen {W : World} {b : Nat} {x : Silo.Smp} (h : XB W b x) (i : Nat) : W.frozen? ⟨b, i, none⟩ = false := by simp [World.frozen?, h.blk]

theorem XB.new (w : World) (x : Silo.Smp) : XB (w.alloc (.cells #[.int .i64 x.s, .int .i64 x.t, .int .u64 (x.v : Nat)] 118)) w.heap.size x := ⟨heap_new _ _⟩

theorem XB.fp {W W' : World} {b : Nat} {x : Silo.Smp} {S : Nat → Prop} (h : XB W b x) (hf : Fp S W W') (hS : ¬ S b) : XB W' b x := ⟨by rw [hf.block b (heap_lt h.blk) hS]; exact h.blk⟩

theorem XB.put {W : World} {b : Nat} {x : Silo.Smp} (h : XB W b x) (t : Int) (v : Nat) : XB ((W.setCell ⟨b, 1, none⟩ (.int .i64 t)).setCell ⟨b, 2, none⟩ (.int .u64 (v : Nat))) b ⟨x.s, t, v⟩ := ⟨heap_set (heap_set h.blk _) _⟩

/-- A sample that was just laid into a new block, appended. -/
theorem wpList_append_new {ops : Array Oper} {rest : List Oper} {o : Oper} {a : Act} {Q : Exit → Act → World → Prop} {W0 : World} {ty : TypeId} {i1 i2 i3 : Int} (hgd : o.guard = none) (s x : Operand)
    (ho : o.op = .call { callee := .builtin .append, args := #[s, x], argTypes := #[92, 92] })
    (base : Nat) (v : Value) (xs : List Silo.Smp) (hs : a.eval s = v) (b : Nat) (hx : a.eval x = .slice (some ⟨b, 0, none⟩) 1 1) (y : Silo.Smp) (hy : i1 = y.s ∧ i2 = y.t ∧ i3 = (y.v : Nat) ∧ b = W0.heap.size)
    (hown : World.smpsAt (W0.alloc (.cells #[.int .i64 i1, .int .i64 i2, .int .u64 i3] ty)) base v xs) (hl : xs.length ≤ 1099511627776) (hbase : base ≤ (W0.alloc (.cells #[.int .i64 i1, .int .i64 i2, .int .u64 i3] ty)).heap.size)
    (h : ∀ g cap w', Hid (Appended (W0.alloc (.cells #[.int .i64 y.s, .int .i64 y.t, .int .u64 (y.v : Nat)] ty)) w' base v xs y g cap) → wpList Tryz.prog ops Q rest (a.put o.dst (.slice (some ⟨g, 0, none⟩) (xs.length + 1) cap)) w') :
    wpList Tryz.prog ops Q (o :: rest) a (W0.alloc (.cells #[.int .i64 i1, .int .i64 i2, .int .u64 i3] ty)) := by
  obtain ⟨rfl, rfl, rfl, rfl⟩ := hy
  exact wpList_append_smp hgd s x ho base v xs y hs hown ⟨W0.heap.size, 0, none⟩ hx (smp_new W0 y ty) hl hbase h

theorem nextT_int (c : Nat) (x : Silo.Smp) (t : Nat) (ht : t < Silo.M64) : Silo.isInt (Silo.nextT c x t) := by
  unfold Silo.nextT
  split
  · exact Silo.zag_rng t ht
  · rw [IntKind.wrap_i64]; unfold Silo.isInt; omega

theorem nextV_lt (c : Nat) (x : Silo.Smp) (v : Nat) (hx : x.v < Silo.M64) (hv : v < Silo.M64) : Silo.nextV c x v < Silo.M64 := by
  unfold Silo.nextV
  split
  · exact hv
  · exact Silo.xor_lt _ _ hx hv

theorem se_pos {f : List UInt8} {p se q : Nat} (hm : Silo.more f (some p) = true) (h : Silo.Rd f p se (some q)) : 1 ≤ se := by
  obtain ⟨_, _, _, r, h1⟩ := h.some_lt
  rcases Nat.eq_zero_or_pos se with h0 | h0
  · exfalso
    subst h0
    obtain ⟨e, _⟩ := Silo.rdCode_some h1
    rw [Silo.leb_lo 0 (by omega)] at e
    have hb : f[p]? = some 0 := by
      have := congrArg (fun x => x[0]?) e
      simpa using this
    rw [Silo.more_some, hb] at hm
    simp at hm
  · exact h0

theorem read_as (f : List UInt8) (i : Nat) : ∃ n o, readRes i (Silo.rdCode (f.drop i)) = .tuple #[.int .u64 (n : Nat), .int .i64 (plc o)] ∧ Silo.Rd f i n o := by
  cases h : Silo.rdCode (f.drop i) with
  | none => exact ⟨0, none, rfl, .inl ⟨h, rfl, rfl⟩⟩
  | some x => exact ⟨x.1, some (i + (Silo.leb x.1).length), rfl, .inr ⟨x.2, h, rfl⟩⟩

set_option maxHeartbeats 4000000 in
set_option maxRecDepth 100000 in
theorem RefSamples_any (f : List UInt8) (w : World) (hl : f.length ≤ 16777216) :
    Calls Tryz.prog 39 #[.string (S f)] w fun e w' => RP f w e w' := by
  have hs : (S f).size = f.length := rfl
  by_cases h9 : f.length < 9
  · go_enter Tryz.func39, Tryz.ntmps39
    go_wp2
    exact bodyPost_ret (v := bad4) (by simp [bad4, results, Tryz.results39, go_sem]) rfl (RP.bad (Fp.refl _ _) (fun lo hi m h => by
      have := congrArg List.length h.shape
      simp only [List.length_cons, List.length_append, Silo.tl_length] at this
      omega))
  · have h0 : 0 < (S f).size := by rw [hs]; omega
    obtain ⟨b0, hb0⟩ : ∃ b0, (S f)[0] = b0 := ⟨_, rfl⟩
    have hf0 : f[0]? = some b0 := by rw [← hb0]; exact List.getElem?_eq_getElem (by omega)
    by_cases h66 : (b0.toNat : Int) = 66
    · have h66' : ((b0.toNat : Int) != 66) = false := by simpa using h66
      have HB : Hid _ := hf0
      clear hf0 h66
      go_enter Tryz.func39, Tryz.ntmps39
      go_wp2_with fail
      refine (RefRead_any f 1 w (by omega) (by omega)).mono ?_
      rintro e w1 ⟨rfl, h1⟩
      obtain ⟨LO, o1, hr1, hR1⟩ := read_as f 1
      rw [hr1]
      have hLO := hR1.lt
      have H1 : Hid _ := And.intro h1 (And.intro hR1 hLO)
      clear h1 hR1 hr1 hLO
      cases o1 with
      | none =>
        unfold plc
        go_wp2
        exact bodyPost_ret (v := bad4) (by simp [bad4, results, Tryz.results39, go_sem]) rfl (RP.bad H1.out.1 (Silo.no_first H1.out.2.1))
      | some i1 =>
        have hi1 := H1.out.2.1.some_lt
        have hi9 : i1 ≤ f.length := hi1.2.1
        clear hi1
        unfold plc
        simp only
        go_wp2_with fail
        refine (RefRead_any f i1 w1 hi9 (by omega)).mono ?_
        rintro e w2 ⟨rfl, h2⟩
        obtain ⟨HI, o2, hr2, hR2⟩ := read_as f i1
        obtain ⟨z2, hz2⟩ : ∃ z2, plc o2 = z2 := ⟨_, rfl⟩
        rw [hr2, hz2]
        have H2 : Hid (Fp (fun _ => False) w w2 ∧ Silo.KO f LO HI o2 [] ∧ LO < Silo.M64 ∧ HI < Silo.M64 ∧ (∀ p, o2 = some p → p ≤ f.length) ∧ plc o2 = z2) := ⟨H1.out.1.trans' h2, Silo.KO.start H1.out.2.1 hR2, H1.out.2.2, hR2.lt, fun p hp => by subst hp; exact hR2.some_lt.2.1, hz2⟩
        clear h2 hR2 hr2 H1 hz2
        go_wp2_with fail
        go_loopw [7, 9] (fun iv lv wr => ∃ (o : Option Nat) (l : List Silo.Smp), iv = .int .i64 (plc o) ∧ (∀ p, o = some p → p ≤ f.length) ∧ Hid (World.smpsAt wr w.heap.size lv l ∧ (∀ x ∈ l, Silo.goodSmp x) ∧ l.length ≤ f.length ∧ (∀ p, o = some p → l.length ≤ p) ∧ Silo.KO f LO HI o l ∧ Fp (fun _ => False) w wr)) (fun iv _ _ => if intOf iv < 0 then 0 else f.length + 1 - (intOf iv).toNat)
        case atStart => exact ⟨o2, [], by rw [H2.out.2.2.2.2.2], H2.out.2.2.2.2.1, nil_row _ _, by simp, by simp, fun p _ => by simp, H2.out.2.1, H2.out.1⟩
        case round =>
          obtain ⟨o, l, rfl, ho, HR⟩ := hrel
          go_upto_region 8 with fail
          go_cut [55] from 41 to 127 (fun cv wx => cv = .bool (Silo.more f o) ∧ wx = wr)
          case first =>
            cases o with
            | none =>
              unfold plc
              go_wp2
              go_meet
              exact ⟨rfl, rfl⟩
            | some p =>
              have hp := ho p rfl
              unfold plc
              simp only
              by_cases hp8 : p + 8 < f.length
              · obtain ⟨bp, hbp⟩ : ∃ bp, (S f)[p]'(by rw [hs]; omega) = bp := ⟨_, rfl⟩
                have hfp : f[p]? = some bp := by rw [← hbp]; exact List.getElem?_eq_getElem (by omega)
                have q1 : (p : Int) < (f.length : Int) - 8 := by omega
                by_cases hz : (bp.toNat : Int) = 0
                · have hz' : ((bp.toNat : Int) != 0) = false := by simpa using hz
                  have HM : Hid (Silo.more f (some p) = false) := by
                    show Silo.more f (some p) = false
                    rw [Silo.more_some, hfp]
                    have : bp = 0 := UInt8.toNat_inj.1 (by simpa using hz)
                    simp [this]
                  clear hz hfp
                  go_wp2
                  go_meet
                  exact ⟨by rw [HM.out], rfl⟩
                · have hz' : ((bp.toNat : Int) != 0) = true := by simpa using hz
                  have HM : Hid (Silo.more f (some p) = true) := by
                    show Silo.more f (some p) = true
                    rw [Silo.more_some, hfp]
                    have : ¬ bp = 0 := fun h => hz (by rw [h]; rfl)
                    simp [this, hp8]
                  clear hz hfp
                  go_wp2
                  go_meet
                  exact ⟨by rw [HM.out], rfl⟩
              · have q1 : ¬ (p : Int) < (f.length : Int) - 8 := by omega
                have HM : Hid (Silo.more f (some p) = false) := by
                  show Silo.more f (some p) = false
                  rw [Silo.more_some]
                  simp [hp8]
                go_wp2
                go_meet
                exact ⟨by rw [HM.out], rfl⟩
          case rest =>
            obtain ⟨rfl, rfl⟩ := hcut
            cases hm : Silo.more f o with
            | true =>
              cases o with
              | none => cases hm
              | some p =>
                obtain ⟨wz, hwz⟩ : ∃ wz, wz = wc := ⟨_, rfl⟩
                subst hwz
                have hp := ho p rfl
                have hlen : ∀ lo hi m, Silo.T f lo hi m → ∀ j, j < 16 → (m j).length < Silo.M64 := fun lo hi m h j hj => h.len hl j hj
                obtain ⟨se, o3, hr3, hR3⟩ := read_as f p
                simp only [plc]
                go_wp2_with fail
                refine (RefRead_any f p wz hp (by omega)).mono ?_
                rintro e w3 ⟨rfl, h3⟩
                rw [hr3]
                cases o3 with
                | none =>
                  have HN : Hid _ := And.intro (HR.out.2.2.2.2.2.trans' h3) (fun lo hi m (ht : Silo.T f lo hi m) => ((Silo.KO.series (n := 0) (o2 := none) HR.out.2.2.2.2.1 hm hR3 (fun q h => by cases h) hlen).1 lo hi m ht).1 rfl)
                  clear h3 hR3 hr3 hlen hm
                  simp only [plc]
                  go_wp2
                  exact bodyPost_ret (v := bad4) (by simp [bad4, results, Tryz.results39, go_sem]) rfl (RP.bad HN.out.1 HN.out.2)
                | some q =>
                  obtain ⟨n, o4, hr4, hR4⟩ := read_as f q
                  have hser := Silo.KO.series HR.out.2.2.2.2.1 hm hR3 (fun q' h => by cases h; exact hR4) hlen
                  have hq := hR3.some_lt
                  have hq9 : q ≤ f.length := hq.2.1
                  have hpq : p < q := hq.1
                  have hse1 := se_pos hm hR3
                  have hn9 := hR4.lt
                  have H3 : Hid _ := And.intro (HR.out.2.2.2.2.2.trans' h3) (And.intro hser (And.intro hR4 hn9))
                  have hse : (0 : Int) ≤ (q : Int) := by omega
                  have HW3 : Hid _ := h3
                  clear h3 hR3 hr3 hlen hm hser hR4 hq hn9
                  simp only [plc]
                  by_cases h16 : 16 < se
                  · have h16' : (16 : Int) < (se : Int) := by omega
                    go_wp2
                    exact bodyPost_ret (v := bad4) (by simp [bad4, results, Tryz.results39, go_sem]) rfl (RP.bad H3.out.1 (fun lo hi m ht => by have := (H3.out.2.1.1 lo hi m ht).2.1; omega))
                  · have h16' : ¬ (16 : Int) < (se : Int) := by omega
                    go_wp2_with fail
                    refine (RefRead_any f q w3 hq9 (by omega)).mono ?_
                    rintro e w4 ⟨rfl, h4⟩
                    rw [hr4]
                    cases o4 with
                    | none =>
                      have H4 : Hid _ := h4
                      clear h4 hr4
                      simp only [plc]
                      go_wp2
                      exact bodyPost_ret (v := bad4) (by simp [bad4, results, Tryz.results39, go_sem]) rfl (RP.bad (H3.out.1.trans' H4.out) (fun lo hi m ht => (H3.out.2.1.1 lo hi m ht).2.2 (by simp) rfl))
                    | some q2 =>
                      have hq2 := H3.out.2.2.1.some_lt
                      have hq29 : q2 ≤ f.length := hq2.2.1
                      have hqq : q < q2 := hq2.1
                      have H4 : Hid _ := And.intro (H3.out.1.trans' h4) (And.intro (H3.out.2.1.2 ⟨q, rfl⟩) H3.out.2.2.2)
                      have HW : Hid _ := HW3.out.trans' h4
                      have hnM : n < 18446744073709551616 := H3.out.2.2.2
                      clear h4 hr4 hq2 HW3
                      simp only [plc]
                      go_wp2_with fail
                      go_loopw [7, 9, 14] (fun iv lv cv wr => ∃ (o : Option Nat) (l2 : List Silo.Smp) (c : Nat) (x : Silo.Smp), iv = .int .i64 (plc o) ∧ cv = .int .u64 (c : Nat) ∧ c ≤ n ∧ (∀ p', o = some p' → p' ≤ f.length ∧ p < p') ∧ Hid (World.smpsAt wr w.heap.size lv l2 ∧ (∀ y ∈ l2, Silo.goodSmp y) ∧ l2.length ≤ f.length ∧ (∀ p', o = some p' → l2.length ≤ p') ∧ Silo.KI f LO HI se n c o x l2 ∧ XB wr w4.heap.size x ∧ x.s = (se : Int) - 1 ∧ (Silo.isInt x.t ∧ x.v < Silo.M64) ∧ (c = 0 → x.v = 0) ∧ (∀ k, lv.ownBlock = some k → k ≠ w4.heap.size) ∧ Fp (fun _ => False) w wr)) (fun _ _ cv _ => n - (intOf cv).toNat)
                      case atStart =>
                        refine ⟨some q2, l, 0, ⟨(se : Int) - 1, 0, 0⟩, rfl, rfl, Nat.zero_le _, fun p' h => by cases h; exact ⟨hq29, by omega⟩, ?_, HR.out.2.1, HR.out.2.2.1, fun p' h => by cases h; have := HR.out.2.2.2.1 p rfl; omega, H4.out.2.1, XB.new w4 ⟨(se : Int) - 1, 0, 0⟩, rfl, ⟨⟨by simp, by simp⟩, Silo.M64_pos⟩, fun _ => rfl, fun k hk => ?_, H4.out.1.trans' (Fp.alloc _ _ _)⟩
                        · exact Fp.ownsRow (HW.out.trans' (Fp.alloc (fun _ => False) _ _)) HR.out.1 (fun _ _ h => h)
                        · have h1 := (World.ownsRow.lt HR.out.1 k hk).2
                          have h2 := HW.out.size
                          omega
                      case round =>
                        obtain ⟨o, l2, c, x, rfl, rfl, hcn, ho2, HQ⟩ := hrel
                        by_cases hgo : c < n ∧ ∃ p', o = some p'
                        · obtain ⟨hc, p', hp'⟩ := hgo
                          subst hp'
                          have hp9 := (ho2 p' rfl).1
                          obtain ⟨t, o5, hr5, hR5⟩ := read_as f p'
                          have cN : (c : Int) < (n : Int) := by omega
                          simp only [plc]
                          go_wp2_with fail
                          refine (RefRead_any f p' wr hp9 (by omega)).mono ?_
                          rintro e w5 ⟨rfl, h5⟩
                          rw [hr5]
                          cases o5 with
                          | none =>
                            have HN : Hid _ := And.intro (HQ.out.2.2.2.2.2.2.2.2.2.2.trans' h5) (fun lo hi m (ht : Silo.T f lo hi m) => (Silo.KI.step (v := 0) (o2 := none) HQ.out.2.2.2.2.1 hc HQ.out.2.2.2.2.2.2.2.1 HQ.out.2.2.2.2.2.2.2.2.1 hR5 (fun q h => by cases h)).1 lo hi m ht rfl)
                            clear h5 hR5 hr5
                            simp only [plc]
                            go_wp2
                            exact bodyPost_ret (v := bad4) (by simp [bad4, results, Tryz.results39, go_sem]) rfl (RP.bad HN.out.1 HN.out.2)
                          | some q5 =>
                            obtain ⟨v, o6, hr6, hR6⟩ := read_as f q5
                            have hst := (Silo.KI.step HQ.out.2.2.2.2.1 hc HQ.out.2.2.2.2.2.2.2.1 HQ.out.2.2.2.2.2.2.2.2.1 hR5 (fun q' h => by cases h; exact hR6)).2 ⟨q5, rfl⟩
                            have hq5 := hR5.some_lt
                            have hq59 : q5 ≤ f.length := hq5.2.1
                            have hpq5 : p' < q5 := hq5.1
                            have htM : t < Silo.M64 := hR5.lt
                            have hvM : v < Silo.M64 := hR6.lt
                            have hq6 : ∀ p6, o6 = some p6 → p6 ≤ f.length ∧ q5 < p6 := fun p6 h => by subst h; exact ⟨hR6.some_lt.2.1, hR6.some_lt.1⟩
                            have HS : Hid _ := And.intro hst (And.intro htM (And.intro hvM hq6))
                            have H5 : Hid _ := h5
                            clear h5 hR5 hr5 hR6 hst hq5 htM hvM hq6
                            simp only [plc]
                            go_wp2_with fail
                            refine (RefRead_any f q5 w5 hq59 (by omega)).mono ?_
                            rintro e w6 ⟨rfl, h6⟩
                            obtain ⟨z6, hz6⟩ : ∃ z6, plc o6 = z6 := ⟨_, rfl⟩
                            rw [hr6, hz6]
                            have H6 : Hid _ := And.intro (H5.out.trans' h6) hz6
                            have hX : XB w6 w4.heap.size x := HQ.out.2.2.2.2.2.1.fp H6.out.1 (fun h => h)
                            have x0 := hX.lies.c0
                            have x1 := hX.lies.c1
                            have x2 := hX.lies.c2
                            have hfz := hX.frozen
                            have hxl : w4.heap.size < w6.heap.size := hX.lies.lt
                            have HX : Hid _ := hX
                            clear h6 hr6 hX H5 hz6
                            by_cases hc0 : c = 0
                            · have e0 : ((c : Int) == 0) = true := by simpa using hc0
                              have HT : Hid (Silo.zag t = Silo.nextT c x t ∧ v = Silo.nextV c x v) := by
                                refine ⟨?_, ?_⟩
                                · unfold Silo.nextT; rw [if_pos hc0]
                                · unfold Silo.nextV; rw [if_pos hc0]
                              clear hc0
                              go_wp2_with fail
                              refine (RefUnsigned_any t w6 HS.out.2.1).mono ?_
                              rintro e w8 ⟨rfl, rfl⟩
                              go_wp2_with (at_builtin; refine wpList_append_new rfl _ _ rfl w.heap.size u9 l2 rfl _ rfl ⟨(se : Int) - 1, Silo.nextT c x t, Silo.nextV c x v⟩ ?c0 ?c1 ?c3 ?c4 ?_; rotate_left 4; intro g cap w7 HA)
                              case c0 =>
                                have q0 := HQ.out.2.2.2.2.2.2.1
                                have qT := HT.out.1
                                have qV := HT.out.2
                                first | exact ⟨q0, qT, qV⟩ | exact ⟨q0, qT, by rw [← qV], by simp [World.setCell]⟩ | exact ⟨q0, qT, by rw [← qV]⟩ | (simp [q0, ← qT, ← qV, World.setCell]; done)
                              case c1 => exact Fp.ownsRow (S := fun k => k = w4.heap.size) (((H6.out.1.mono (fun _ _ h => h.elim)).trans' ((Fp.setCell (S := fun k => k = w4.heap.size) _ _ _ rfl).trans' (Fp.setCell (S := fun k => k = w4.heap.size) _ _ _ rfl))).trans' (Fp.alloc _ _ _)) HQ.out.1 (fun k hk h => HQ.out.2.2.2.2.2.2.2.2.2.1 k hk h)
                              case c3 => have := HQ.out.2.2.1; omega
                              case c4 => have h1 := HQ.out.2.2.2.2.2.2.2.2.2.2.size; have h2 := H6.out.1.size; simp [World.setCell]; omega
                              go_roundw
                              case rel =>
                                obtain ⟨y, hy⟩ : ∃ y : Silo.Smp, (⟨(se : Int) - 1, Silo.nextT c x t, Silo.nextV c x v⟩ : Silo.Smp) = y := ⟨_, rfl⟩
                                have hys : y.s = (se : Int) - 1 := by rw [← hy]
                                have hyt : y.t = Silo.nextT c x t := by rw [← hy]
                                have hyv : y.v = Silo.nextV c x v := by rw [← hy]
                                have hgt := nextT_int c x t HS.out.2.1
                                have hgv := nextV_lt c x v HQ.out.2.2.2.2.2.2.2.1.2 HS.out.2.2.1
                                have hll := HQ.out.2.2.2.1 p' rfl
                                have hWw := HQ.out.2.2.2.2.2.2.2.2.2.2
                                have hFw : w.heap.size ≤ w4.heap.size := H4.out.1.size
                                have hks := HS.out.1
                                rw [hy] at HA hks
                                have hye : (⟨x.s, Silo.zag t, v⟩ : Silo.Smp) = y := by rw [← hy]; simp only [Silo.Smp.mk.injEq]; exact ⟨HQ.out.2.2.2.2.2.2.1, HT.out.1, HT.out.2⟩
                                refine ⟨o6, l2 ++ [y], c + 1, y, by show Value.int .i64 z6 = .int .i64 (plc o6); rw [H6.out.2], by go_num, by omega, fun p6 h => ⟨(HS.out.2.2.2 p6 h).1, by have := (HS.out.2.2.2 p6 h).2; have := (ho2 p' rfl).2; omega⟩, HA.out.row, ?_, by simp; omega, fun p6 h => by have := (HS.out.2.2.2 p6 h).2; simp; omega, hks, ?_, hys, ⟨by rw [hyt]; exact hgt, by rw [hyv]; exact hgv⟩, fun h => by omega, ?_, ?_⟩
                                · intro z hz
                                  rcases List.mem_append.1 hz with hz | hz
                                  · exact HQ.out.2.1 z hz
                                  · simp only [List.mem_singleton] at hz
                                    subst hz
                                    exact ⟨by omega, by omega, by rw [hyt]; exact hgt, by rw [hyv]; exact hgv⟩
                                · rw [← hye] at HA ⊢
                                  exact ((HX.out.put _ _).fp (Fp.alloc (fun _ => False) _ _) (fun h => h)).fp HA.out.foot (fun h => HQ.out.2.2.2.2.2.2.2.2.2.1 _ h rfl)
                                · intro k hk
                                  simp only [Value.ownBlock, Option.some.injEq] at hk
                                  subst hk
                                  rcases HA.out.lies with h | h
                                  · exact HQ.out.2.2.2.2.2.2.2.2.2.1 _ h
                                  · simp [World.setCell] at h
                                    omega
                                · exact (((hWw.trans' H6.out.1).trans ((Fp.setCell (S := fun k => k = w4.heap.size) _ _ _ rfl).trans' (Fp.setCell (S := fun k => k = w4.heap.size) _ _ _ rfl)) (fun _ h => h) (fun k hk (h : k = w4.heap.size) => (by omega : False))).trans' (Fp.alloc _ _ _)).trans HA.out.foot (fun _ h => h) (fun k hk h => (by have := (World.ownsRow.lt HQ.out.1 k h).1; omega : False))
                              case measure => simp [intOf]; omega
                            · have e0 : ((c : Int) == 0) = false := by simpa using hc0
                              have HT : Hid (RowKit.wrap64 (IntKind.u64.wrap (IntKind.u64.wrap x.t + (t : Int))) = Silo.nextT c x t ∧ x.v ^^^ v = Silo.nextV c x v) := by
                                refine ⟨?_, ?_⟩
                                · unfold Silo.nextT; rw [if_neg hc0]; exact (IntWalk.i64_left _).symm
                                · unfold Silo.nextV; rw [if_neg hc0]
                              clear hc0
                              have g2 : bits BinOp.xor IntKind.u64 (x.v : Int) (v : Int) = ((x.v ^^^ v : Nat) : Int) := by
                                have q1 := HQ.out.2.2.2.2.2.2.2.1.2
                                have q2 := HS.out.2.2.1
                                unfold Silo.M64 at q1 q2
                                rw [bits_xor_u64_nat _ _ q1 q2]
                              go_wp2_with (at_builtin; refine wpList_append_new rfl _ _ rfl w.heap.size u9 l2 rfl _ rfl ⟨(se : Int) - 1, Silo.nextT c x t, Silo.nextV c x v⟩ ?c0 ?c1 ?c3 ?c4 ?_; rotate_left 4; intro g cap w7 HA)
                              case c0 =>
                                have q0 := HQ.out.2.2.2.2.2.2.1
                                have qT := HT.out.1
                                have qV := HT.out.2
                                first | exact ⟨q0, qT, qV⟩ | exact ⟨q0, qT, by rw [← qV], by simp [World.setCell]⟩ | exact ⟨q0, qT, by rw [← qV]⟩ | (simp [q0, ← qT, ← qV, World.setCell]; done)
                              case c1 => exact Fp.ownsRow (S := fun k => k = w4.heap.size) (((H6.out.1.mono (fun _ _ h => h.elim)).trans' ((Fp.setCell (S := fun k => k = w4.heap.size) _ _ _ rfl).trans' (Fp.setCell (S := fun k => k = w4.heap.size) _ _ _ rfl))).trans' (Fp.alloc _ _ _)) HQ.out.1 (fun k hk h => HQ.out.2.2.2.2.2.2.2.2.2.1 k hk h)
                              case c3 => have := HQ.out.2.2.1; omega
                              case c4 => have h1 := HQ.out.2.2.2.2.2.2.2.2.2.2.size; have h2 := H6.out.1.size; simp [World.setCell]; omega
                              go_roundw
                              case rel =>
                                obtain ⟨y, hy⟩ : ∃ y : Silo.Smp, (⟨(se : Int) - 1, Silo.nextT c x t, Silo.nextV c x v⟩ : Silo.Smp) = y := ⟨_, rfl⟩
                                have hys : y.s = (se : Int) - 1 := by rw [← hy]
                                have hyt : y.t = Silo.nextT c x t := by rw [← hy]
                                have hyv : y.v = Silo.nextV c x v := by rw [← hy]
                                have hgt := nextT_int c x t HS.out.2.1
                                have hgv := nextV_lt c x v HQ.out.2.2.2.2.2.2.2.1.2 HS.out.2.2.1
                                have hll := HQ.out.2.2.2.1 p' rfl
                                have hWw := HQ.out.2.2.2.2.2.2.2.2.2.2
                                have hFw : w.heap.size ≤ w4.heap.size := H4.out.1.size
                                have hks := HS.out.1
                                rw [hy] at HA hks
                                have hye : (⟨x.s, RowKit.wrap64 (IntKind.u64.wrap (IntKind.u64.wrap x.t + (t : Int))), x.v ^^^ v⟩ : Silo.Smp) = y := by rw [← hy]; simp only [Silo.Smp.mk.injEq]; exact ⟨HQ.out.2.2.2.2.2.2.1, HT.out.1, HT.out.2⟩
                                refine ⟨o6, l2 ++ [y], c + 1, y, by show Value.int .i64 z6 = .int .i64 (plc o6); rw [H6.out.2], by go_num, by omega, fun p6 h => ⟨(HS.out.2.2.2 p6 h).1, by have := (HS.out.2.2.2 p6 h).2; have := (ho2 p' rfl).2; omega⟩, HA.out.row, ?_, by simp; omega, fun p6 h => by have := (HS.out.2.2.2 p6 h).2; simp; omega, hks, ?_, hys, ⟨by rw [hyt]; exact hgt, by rw [hyv]; exact hgv⟩, fun h => by omega, ?_, ?_⟩
                                · intro z hz
                                  rcases List.mem_append.1 hz with hz | hz
                                  · exact HQ.out.2.1 z hz
                                  · simp only [List.mem_singleton] at hz
                                    subst hz
                                    exact ⟨by omega, by omega, by rw [hyt]; exact hgt, by rw [hyv]; exact hgv⟩
                                · rw [← hye] at HA ⊢
                                  exact ((HX.out.put _ _).fp (Fp.alloc (fun _ => False) _ _) (fun h => h)).fp HA.out.foot (fun h => HQ.out.2.2.2.2.2.2.2.2.2.1 _ h rfl)
                                · intro k hk
                                  simp only [Value.ownBlock, Option.some.injEq] at hk
                                  subst hk
                                  rcases HA.out.lies with h | h
                                  · exact HQ.out.2.2.2.2.2.2.2.2.2.1 _ h
                                  · simp [World.setCell] at h
                                    omega
                                · exact (((hWw.trans' H6.out.1).trans ((Fp.setCell (S := fun k => k = w4.heap.size) _ _ _ rfl).trans' (Fp.setCell (S := fun k => k = w4.heap.size) _ _ _ rfl)) (fun _ h => h) (fun k hk (h : k = w4.heap.size) => (by omega : False))).trans' (Fp.alloc _ _ _)).trans HA.out.foot (fun _ h => h) (fun k hk h => (by have := (World.ownsRow.lt HQ.out.1 k h).1; omega : False))
                              case measure => simp [intOf]; omega
                        · have HG : Hid _ := hgo
                          have hfin : (if plc o < 0 then 0 else f.length + 1 - (plc o).toNat) < f.length + 1 - p := by
                            cases o with
                            | none => show (if ((-1 : Int)) < 0 then 0 else f.length + 1 - ((-1 : Int)).toNat) < _; rw [if_pos (by omega)]; omega
                            | some p2 => show (if ((p2 : Nat) : Int) < 0 then 0 else f.length + 1 - ((p2 : Nat) : Int).toNat) < _; rw [if_neg (by omega)]; have h := ho2 p2 rfl; simp only [Int.toNat_natCast]; omega
                          have HM : Hid _ := hfin
                          by_cases hcc : c < n
                          · have ho9 : o = none := by
                              cases o with
                              | none => rfl
                              | some p2 => exact absurd ⟨hcc, p2, rfl⟩ hgo
                            subst ho9
                            clear hgo hfin
                            have cN : (c : Int) < (n : Int) := by omega
                            simp only [plc]
                            go_wp2
                            go_roundw
                            case rel => exact ⟨none, l2, rfl, fun p h => (by cases h), HQ.out.1, HQ.out.2.1, HQ.out.2.2.1, HQ.out.2.2.2.1, Silo.KI.done HQ.out.2.2.2.2.1 HG.out, HQ.out.2.2.2.2.2.2.2.2.2.2⟩
                            case measure => show (if ((-1 : Int)) < 0 then 0 else f.length + 1 - ((-1 : Int)).toNat) < (if ((p : Nat) : Int) < 0 then 0 else f.length + 1 - ((p : Nat) : Int).toNat); rw [if_pos (by omega), if_neg (by omega)]; simp only [Int.toNat_natCast]; omega
                          · clear hgo hfin
                            have cN : ¬ (c : Int) < (n : Int) := by omega
                            obtain ⟨z9, hz9⟩ : ∃ z9, plc o = z9 := ⟨_, rfl⟩
                            rw [hz9]
                            have HZ : Hid _ := hz9
                            clear hz9
                            go_wp2
                            go_roundw
                            case rel => exact ⟨o, l2, (by show Value.int .i64 z9 = .int .i64 (plc o); rw [HZ.out]), fun p h => (ho2 p h).1, HQ.out.1, HQ.out.2.1, HQ.out.2.2.1, HQ.out.2.2.2.1, Silo.KI.done HQ.out.2.2.2.2.1 HG.out, HQ.out.2.2.2.2.2.2.2.2.2.2⟩
                            case measure => have h := HM.out; rw [HZ.out] at h; show (if z9 < 0 then 0 else f.length + 1 - z9.toNat) < (if ((p : Nat) : Int) < 0 then 0 else f.length + 1 - ((p : Nat) : Int).toNat); rw [if_neg (by omega : ¬ ((p : Nat) : Int) < 0)]; simp only [Int.toNat_natCast]; exact h
            | false =>
              obtain ⟨wz, hwz⟩ : ∃ wz, wz = wc := ⟨_, rfl⟩
              subst hwz
              have hfin : ∀ lo hi m, Silo.T f lo hi m → LO = lo ∧ HI = hi ∧ (∃ p, o = some p) ∧ l = Silo.flat m := fun lo hi m ht => by
                obtain ⟨e1, e2, s, p, e3, e4, e5, e6⟩ := HR.out.2.2.2.2.1 lo hi m ht
                subst e4
                exact ⟨e1, e2, ⟨p, rfl⟩, by rw [e6, Silo.T.end_of e3 e5 hm]⟩
              obtain ⟨la, lc, hu9⟩ := ownsRow_form HR.out.1
              subst hu9
              have hll : l.length ≤ f.length := HR.out.2.2.1
              have HF : Hid _ := And.intro hfin (And.intro HR.out.2.1 (And.intro H2.out.2.2.1 H2.out.2.2.2.1))
              obtain ⟨z7, hz7⟩ : ∃ z7, plc o = z7 := ⟨_, rfl⟩
              rw [hz7]
              have HZ : Hid _ := hz7
              clear hfin hm hz7
              go_wp2_with fail
              go_loopw [19] (fun cv wr => ∃ c : Nat, 1 ≤ c ∧ c ≤ l.length + 1 ∧ cv = .int .i64 c ∧ Hid ((∀ q (hq : q + 1 < l.length), q + 1 < c → Silo.bef l[q] l[q + 1]) ∧ World.smpsAt wr w.heap.size (.slice la l.length lc) l ∧ Fp (fun _ => False) w wr)) (fun cv _ => l.length + 1 - (intOf cv).toNat)
              case atStart => exact ⟨1, by omega, by omega, rfl, fun q hq h => by omega, HR.out.1, HR.out.2.2.2.2.2⟩
              case round =>
                obtain ⟨c, hc1, hc2, rfl, HC⟩ := hrel
                by_cases hcl : c < l.length
                · obtain ⟨j, hj⟩ : ∃ j, c = j + 1 := ⟨c - 1, by omega⟩
                  have hjl : j < l.length := by omega
                  obtain ⟨g, hla, _, hg⟩ := smps_some HC.out.2.1 (by omega)
                  subst hla
                  obtain ⟨c0, c1, c2⟩ := smpsAt_cell HC.out.2.1 c hcl
                  obtain ⟨d0, d1, d2⟩ := smpsAt_cell HC.out.2.1 j hjl
                  obtain ⟨y, hy⟩ : ∃ y, l[c] = y := ⟨_, rfl⟩
                  obtain ⟨p, hp⟩ : ∃ p, l[j] = p := ⟨_, rfl⟩
                  rw [hy] at c0 c1 c2
                  rw [hp] at d0 d1 d2
                  have HY : Hid _ := And.intro hy (And.intro hp hj)
                  have hj1 : IntKind.i64.wrap ((c : Int) - 1) = (j : Int) := by rw [show (c : Int) - 1 = (j : Int) by omega, IntKind.wrap_i64]; omega
                  have cN : (c : Int) < (l.length : Int) := by omega
                  have jN : (j : Int) < (l.length : Int) := by omega
                  clear hy hp hj
                  go_upto_region 34 with fail
                  go_cut [173] from 128 to 173 (fun cv wx => cv = .bool (!(Silo.ahead p y)) ∧ Hid (Fp (fun _ => False) wr wx))
                  case first =>
                    by_cases h1 : y.s < p.s
                    · have t1 : decide (y.s < p.s) = true := decide_eq_true h1
                      have HA : Hid (Silo.ahead p y = false) := by show decide _ = false; simp; omega
                      clear h1
                      go_quiet (fail)
                      go_wp2
                      go_meet
                      exact ⟨by rw [HA.out]; rfl, Fp.drewN _ _ _⟩
                    · have t1 : decide (y.s < p.s) = false := decide_eq_false h1
                      by_cases h2 : y.s = p.s
                      · have t2 : (y.s == p.s) = true := by simpa using h2
                        by_cases h3 : y.t ≤ p.t
                        · have t3 : decide (y.t ≤ p.t) = true := decide_eq_true h3
                          have HA : Hid (Silo.ahead p y = false) := by show decide _ = false; simp; omega
                          clear h1 h2 h3
                          go_quiet (fail)
                          go_wp2
                          go_meet
                          exact ⟨by rw [HA.out]; rfl, Fp.drewN _ _ _⟩
                        · have t3 : decide (y.t ≤ p.t) = false := decide_eq_false h3
                          have HA : Hid (Silo.ahead p y = true) := by show decide _ = true; simp; omega
                          clear h1 h2 h3
                          go_quiet (fail)
                          go_wp2
                          go_meet
                          exact ⟨by rw [HA.out]; rfl, Fp.drewN _ _ _⟩
                      · have t2 : (y.s == p.s) = false := by simpa using h2
                        have HA : Hid (Silo.ahead p y = true) := by show decide _ = true; simp; omega
                        clear h1 h2
                        go_quiet (fail)
                        go_wp2
                        go_meet
                        exact ⟨by rw [HA.out]; rfl, Fp.drewN _ _ _⟩
                  case rest =>
                    obtain ⟨rfl, HW⟩ := hcut
                    cases hah : Silo.ahead p y with
                    | false =>
                      have hno : ∀ lo hi m, Silo.T f lo hi m → False := fun lo hi m ht => by
                        obtain ⟨_, _, _, e4⟩ := HF.out.1 lo hi m ht
                        have hasc : Silo.AscS l := by rw [e4]; exact Silo.flatFrom_asc (fun j => (Silo.goodPts_asc (ht.2.1 j)).1) 16 0
                        have hb : Silo.bef l[j] l[c] := (List.pairwise_iff_getElem.1 hasc) j c hjl hcl (by have := HY.out.2.2; omega)
                        rw [HY.out.1, HY.out.2.1] at hb
                        rw [Silo.ahead_bef.2 hb] at hah
                        cases hah
                      have HN : Hid _ := hno
                      clear hno hah
                      go_wp2
                      exact bodyPost_ret (v := bad4) (by simp [bad4, results, Tryz.results39, go_sem]) rfl (RP.bad (HC.out.2.2.trans' HW.out) HN.out)
                    | true =>
                      have HB2 : Hid _ := Silo.ahead_bef.1 hah
                      clear hah
                      go_wp2
                      go_roundw
                      case rel =>
                        refine ⟨c + 1, by omega, by omega, by go_num, fun q hq h => ?_, Fp.ownsRow HW.out HC.out.2.1 (fun _ _ h => h), HC.out.2.2.trans' HW.out⟩
                        by_cases e : q = j
                        · subst e
                          have e2 := HY.out.2.2
                          subst e2
                          rw [HY.out.1, HY.out.2.1]
                          exact HB2.out
                        · exact HC.out.1 q hq (by have := HY.out.2.2; omega)
                      case measure => simp [intOf]; omega
                · have hasc : Silo.AscS l := Silo.asc_of_adj (fun q hq => HC.out.1 q hq (by omega))
                  have cN : ¬ (c : Int) < (l.length : Int) := by omega
                  have HAS : Hid _ := hasc
                  clear hasc
                  cases o with
                  | none =>
                    have e7 : z7 = -1 := HZ.out.symm
                    subst e7
                    go_wp2
                    exact bodyPost_ret (v := bad4) (by simp [bad4, results, Tryz.results39, go_sem]) rfl (RP.bad HC.out.2.2 (fun lo hi m ht => by obtain ⟨_, _, ⟨p, hp⟩, _⟩ := HF.out.1 lo hi m ht; cases hp))
                  | some p7 =>
                    have e7 : ((p7 : Nat) : Int) = z7 := HZ.out
                    have z0 : ¬ z7 < 0 := by omega
                    have HE7 : Hid _ := e7
                    clear e7
                    by_cases h1 : HI < LO
                    · have h1' : (HI : Int) < (LO : Int) := by omega
                      go_wp2
                      exact bodyPost_ret (v := bad4) (by simp [bad4, results, Tryz.results39, go_sem]) rfl (RP.bad HC.out.2.2 (fun lo hi m ht => by obtain ⟨e1, e2, _, _⟩ := HF.out.1 lo hi m ht; have := ht.2.2.1; omega))
                    · have h1' : ¬ (HI : Int) < (LO : Int) := by omega
                      by_cases h2 : 999999 < HI
                      · have h2' : (999999 : Int) < (HI : Int) := by omega
                        go_wp2
                        exact bodyPost_ret (v := bad4) (by simp [bad4, results, Tryz.results39, go_sem]) rfl (RP.bad HC.out.2.2 (fun lo hi m ht => by obtain ⟨e1, e2, _, _⟩ := HF.out.1 lo hi m ht; have := ht.2.2.2; omega))
                      · have h2' : ¬ (999999 : Int) < (HI : Int) := by omega
                        go_wp2_with fail
                        refine (RefTold_any LO HI (.slice la l.length lc) l wr (by omega) (by omega) (SmpIn.of_row HC.out.2.1 (Nat.le_refl _)) (by omega) HF.out.2.1).mono ?_
                        rintro e w9 ⟨rfl, h9'⟩
                        obtain ⟨told, htold⟩ : ∃ told, Silo.sealed (Silo.toldBody LO HI l) = told := ⟨_, rfl⟩
                        rw [htold]
                        have H9 : Hid _ := And.intro (HC.out.2.2.trans' h9') (And.intro htold (Fp.ownsRow h9' HC.out.2.1 (fun _ _ h => h)))
                        clear h9' htold
                        by_cases heq : f = told
                        · have hc : ((S f).toList == (S told).toList) = true := by rw [heq]; simp
                          have hdec : Silo.decode f = some ⟨LO, HI, l⟩ := by
                            have hfit : Silo.fits l = true := by
                              unfold Silo.fits
                              rw [List.all_eq_true]
                              intro x hx
                              have := HF.out.2.1 x hx
                              simp only [decide_eq_true_eq]
                              exact ⟨this.1, this.2.1⟩
                            obtain ⟨g1, g2⟩ := Silo.flat_ser HAS.out hfit
                            have hgood : ∀ j, j < 16 → Silo.goodPts 0 true (Silo.ser j l) ∧ (Silo.ser j l).length < Silo.M64 := fun j hj =>
                              ⟨Silo.goodPts_of (g2 j hj).asc (fun p hp => Silo.ser_good HF.out.2.1 p ((g2 j hj).mem p hp)) 0 true (fun h => by cases h), by have := Silo.ser_length j l; unfold Silo.M64; omega⟩
                            have hfile : f = Silo.file LO HI (fun s => Silo.ser s l) := by
                              rw [heq, ← H9.out.2.1]
                              unfold Silo.file
                              rw [← Silo.toldBody_flat, ← g1]
                            rw [hfile, Silo.decode_file LO HI _ (by omega) (by omega) hgood, ← g1]
                          have HD : Hid _ := hdec
                          clear hdec heq
                          go_wp2
                          refine bodyPost_ret (v := .tuple #[.int .i64 (LO : Nat), .int .i64 (HI : Nat), .slice la l.length lc, .int .i64 0]) (by simp [results, Tryz.results39, go_sem]) rfl ⟨H9.out.1, fun h => (by rw [HD.out] at h; cases h), fun d hd => ?_⟩
                          rw [HD.out] at hd
                          simp only [Option.some.injEq] at hd
                          subst hd
                          exact ⟨la, lc, rfl, H9.out.2.2⟩
                        · have hc : ((S f).toList == (S told).toList) = false := by
                            rw [bytes_toList, bytes_toList, S_toList, S_toList]; simpa using heq
                          have HNE : Hid _ := heq
                          clear heq
                          go_wp2
                          exact bodyPost_ret (v := bad4) (by simp [bad4, results, Tryz.results39, go_sem]) rfl (RP.bad H9.out.1 (fun lo hi m ht => by
                            obtain ⟨e1, e2, _, e4⟩ := HF.out.1 lo hi m ht
                            apply HNE.out
                            rw [← H9.out.2.1, e1, e2, e4, Silo.toldBody_flat]
                            exact ht.1))
    · have h66' : ((b0.toNat : Int) != 66) = true := by simpa using h66
      have hno : ∀ lo hi m, Silo.T f lo hi m → False := fun lo hi m h => by
        rw [h.shape] at hf0
        simp only [List.getElem?_cons_zero, Option.some.injEq] at hf0
        apply h66
        rw [← hf0]
        rfl
      have HN : Hid _ := hno
      clear hno hf0
      go_enter Tryz.func39, Tryz.ntmps39
      go_wp2
      exact bodyPost_ret (v := bad4) (by simp [bad4, results, Tryz.results39, go_sem]) rfl (RP.bad (Fp.refl _ _) HN.out)

end Go.Proofs.YtbimkgmhfcgpmaaGreatDoor
