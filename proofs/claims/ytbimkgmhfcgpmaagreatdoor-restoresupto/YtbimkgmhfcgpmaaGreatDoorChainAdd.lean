/- (*chain).add. -/
import Derived.Test.YtbimkgmhfcgpmaaGreatDoorArcDec
import Derived.Test.YtbimkgmhfcgpmaaGreatDoorPFresh
import Derived.Test.YtbimkgmhfcgpmaaGreatDoorPureKOne
import Derived.Test.YtbimkgmhfcgpmaaGreatDoorChnOne
namespace Go.Proofs.YtbimkgmhfcgpmaaGreatDoor
open Go.RowKit Go.Shelf Go.Maps

/-- A chain as the program has it: block cb; its map is block mb. -/
structure ChAt (w : World) (cb mb : Nat) (c : Silo.Ch) (F : List (Silo.Ln × List UInt8)) (n : Nat) (a : Option Addr) (cp : Nat) : Prop where
  blk : w.heap[cb]? = some (.cells #[.string (S c.man), .slice a c.kept.length cp, .map (some mb)] 65 (0, 0))
  row : w.ownsRow (cb + 1) 86 4 (.slice a c.kept.length cp) c.kept.length (plCells (c.kept.map Prod.fst))
  map : FilesAt w mb n F
  inv : ∀ p ∈ c.kept, Silo.look F p.1 = some p.2
  ok : c.Ok
  man : c.man.length ≤ 16777216
  lt : mb < cb

theorem ChAt.fp {w w' : World} {cb mb : Nat} {c : Silo.Ch} {F : List (Silo.Ln × List UInt8)} {n : Nat} {a : Option Addr} {cp : Nat} (h : ChAt w cb mb c F n a cp) (hf : Fp (fun _ => False) w w') : ChAt w' cb mb c F n a cp :=
  ⟨by rw [hf.block _ (heap_lt h.blk) (fun h => h)]; exact h.blk, Fp.ownsRow hf h.row (fun _ _ h => h), h.map.fp hf (fun h => h), h.inv, h.ok, h.man, h.lt⟩

/-- What add leaves. -/
def AddRes (c : Silo.Ch) (s : List UInt8) (cb mb n : Nat) (e : Ending) (w' : World) : Prop := match Silo.stepR c s with
  | some c' => e = .returned (.bool true) ∧ ∃ F' n' a' cp', ChAt w' cb mb c' F' n' a' cp' ∧ n' ≤ n + 16777216
  | none => e = .returned (.bool false)

theorem AddRes.bad {c : Silo.Ch} {s : List UInt8} {cb mb n : Nat} {w' : World} (h : Silo.stepR c s = none) : AddRes c s cb mb n (.returned (.bool false)) w' := by
  unfold AddRes; rw [h]

theorem stepP_noArc {c : Silo.Ch} {s : List UInt8} (h : Silo.arcOf s = none) : Silo.stepR c s = none := by
  rw [Silo.stepR_eq]; unfold Silo.stepP; rw [h]
theorem stepP_noMan {c : Silo.Ch} {s b m : List UInt8} {ps : List (List UInt8)} (h : Silo.arcOf s = some (b, m, ps)) (h2 : Silo.manOf m = none) : Silo.stepR c s = none := by
  rw [Silo.stepR_eq]; unfold Silo.stepP; rw [h]; simp only; rw [h2]
theorem stepP_man {c : Silo.Ch} {s b m : List UInt8} {ps : List (List UInt8)} {ls : List Silo.Ln} (h : Silo.arcOf s = some (b, m, ps)) (h2 : Silo.manOf m = some ls) : Silo.stepR c s = if b = Silo.baseOf c.man then if Silo.allFit (Silo.fresh c.kept ls) ps = true then some ⟨m, ls.zip (Silo.weave c.kept ls ps)⟩ else none else none := by
  rw [Silo.stepR_eq]; unfold Silo.stepP; rw [h]; simp only; rw [h2]

theorem arcOf_lens {s b m : List UInt8} {ps : List (List UInt8)} (h : Silo.arcOf s = some (b, m, ps)) : m.length ≤ s.length ∧ (∀ p ∈ ps, p.length ≤ s.length) ∧ ps.length ≤ s.length := by
  unfold Silo.arcOf at h
  split at h
  · cases h
  · rename_i bd hb
    have hbl : bd.length ≤ s.length := by
      unfold Silo.arcBody at hb
      split at hb
      · cases hb; simp; omega
      · cases hb
    split at h
    · cases h
    · rename_i m' r hp
      have h1 := (Silo.partR_suffix hp).2
      have h2 := Silo.partR_lt hp
      simp at h1 h2
      split at h
      · cases h
      · rename_i ps' hps
        simp only [Option.some.injEq, Prod.mk.injEq] at h
        obtain ⟨_, rfl, rfl⟩ := h
        have key : ∀ (n : Nat) (r : List UInt8) (ps : List (List UInt8)), Silo.partsAll n r = some ps → (∀ p ∈ ps, p.length ≤ r.length) ∧ ps.length ≤ r.length := by
          intro n
          induction n with
          | zero =>
            intro r ps hp
            cases r with
            | nil => cases hp; simp
            | cons b t => cases hp
          | succ n ih =>
            intro r ps hp
            cases r with
            | nil => cases hp; simp
            | cons b t =>
              rw [Silo.partsAll] at hp
              cases hq : Silo.partR (b :: t) with
              | none => rw [hq] at hp; cases hp
              | some q =>
                obtain ⟨p0, r1⟩ := q
                rw [hq] at hp
                simp only at hp
                cases hr : Silo.partsAll n r1 with
                | none => rw [hr] at hp; cases hp
                | some qs =>
                  rw [hr] at hp
                  cases hp
                  obtain ⟨i1, i2⟩ := ih r1 qs hr
                  have l1 := Silo.partR_lt hq
                  have l2 := (Silo.partR_suffix hq).2
                  refine ⟨?_, ?_⟩
                  · intro p hp
                    rcases List.mem_cons.1 hp with rfl | hp
                    · exact l2
                    · have := i1 p hp; omega
                  · simp only [List.length_cons] at l1 ⊢
                    omega
        obtain ⟨k1, k2⟩ := key _ _ _ hps
        exact ⟨by omega, fun p hp => by have := k1 p hp; omega, by omega⟩

theorem chEnd {W : World} {cb : Nat} {u0 u1 u2 x y : Value} {t : TypeId} (h : W.heap[cb]? = some (.cells #[u0, u1, u2] t (0, 0))) :
    ∃ wz, (W.setCell ⟨cb, 0, none⟩ x).setCell ⟨cb, 1, none⟩ y = wz ∧ wz.heap[cb]? = some (.cells #[x, y, u2] t (0, 0)) ∧ Fp (fun k => k = cb) W wz :=
  ⟨_, rfl, heap_set (heap_set h x) y, (Fp.setCell (S := fun k => k = cb) _ _ _ rfl).trans' (Fp.setCell (S := fun k => k = cb) _ _ _ rfl)⟩

set_option maxHeartbeats 4000000 in
set_option maxRecDepth 100000 in
theorem chainAdd_any (c : Silo.Ch) (F : List (Silo.Ln × List UInt8)) (n : Nat) (a : Option Addr) (cp cb mb : Nat) (s : List UInt8) (w : World) (h : ChAt w cb mb c F n a cp) (hs : s.length ≤ 16777216) (hn : n ≤ 4611686018427387904) (hg : Gl w) :
    Calls Tryz.prog 23 #[.pointer (some ⟨cb, 0, none⟩), .string (S s)] w fun e w' => AddRes c s cb mb n e w' ∧ Fp (fun k => k = cb ∨ k = mb) w w' := by
  have HC : Hid _ := h
  have HG : Hid _ := hg
  have hcb := heap_lt h.blk
  clear h hg
  go_enter Tryz.func23, Tryz.ntmps23
  go_wp2_with fail
  refine (arcDecode_any s w hs).mono ?_
  rintro e w1 ⟨h1, hf1⟩
  unfold ARes at h1
  cases harc : Silo.arcOf s with
  | none =>
    rw [harc] at h1
    subst h1
    have HN : Hid _ := stepP_noArc (c := c) harc
    have HF1 : Hid _ := hf1
    clear harc hf1
    go_wp2_with fail
    refine (pLines_any [] _ (by simp) (HG.out.fp (HF1.out.trans' (Fp.alloc _ _ _)))).mono ?_
    rintro e w2 ⟨h2, hf2⟩
    unfold PLRes at h2
    rw [Silo.manOf_nil] at h2
    subst h2
    have HF2 : Hid _ := (HF1.out.trans' (Fp.alloc _ _ _)).trans' hf2
    clear hf2
    go_wp2_with fail
    go_quiet (fail)
    go_wp2
    go_ret
    exact ⟨AddRes.bad HN.out, (HF2.out.trans' (Fp.drewN _ _ _)).mono (fun _ _ h => h.elim)⟩
  | some q =>
    obtain ⟨b, m, ps⟩ := q
    rw [harc] at h1
    obtain ⟨a1, c1, rfl, hps⟩ := h1
    obtain ⟨hml, hpl, hpn⟩ := arcOf_lens harc
    have HArc : Hid _ := harc
    have H1 : Hid _ := And.intro hps hf1
    clear harc hps hf1
    go_wp2_with fail
    obtain ⟨w2, hw2⟩ : ∃ w2, w1.alloc (.cells #[.string (S b), .string (S m), .slice a1 ps.length c1] 77) = w2 := ⟨_, rfl⟩
    have hA2 : w2.heap[w1.heap.size]? = some (.cells #[.string (S b), .string (S m), .slice a1 ps.length c1] 77 (0, 0)) := by rw [← hw2]; exact heap_new _ _
    have hf2 : Fp (fun _ => False) w1 w2 := by rw [← hw2]; exact Fp.alloc _ _ _
    rw [hw2]
    refine (pLines_any m w2 (by omega) (HG.out.fp (H1.out.2.trans' hf2))).mono ?_
    rintro e w3 ⟨h3, hf3⟩
    obtain ⟨A, hA⟩ : ∃ A, w1.heap.size = A := ⟨_, rfl⟩
    rw [hA] at hA2 ⊢
    have hA3 : w3.heap[A]? = some (.cells #[.string (S b), .string (S m), .slice a1 ps.length c1] 77 (0, 0)) := by rw [hf3.block _ (heap_lt hA2) (fun h => h)]; exact hA2
    have hF3 : Fp (fun _ => False) w w3 := (H1.out.2.trans' hf2).trans' hf3
    have hC3 := HC.out.fp hF3
    have hps3 : World.strsAt w3 w.heap.size (.slice a1 ps.length c1) ps := Fp.ownsRow (hf2.trans' hf3) H1.out.1 (fun _ _ h => h)
    obtain ⟨_, ca0, ca1, ca2⟩ := boxed3 hA3
    obtain ⟨_, cc0, cc1, cc2⟩ := boxed3 hC3.blk
    have hAlt : A < w3.heap.size := heap_lt hA3
    have hclt : cb < w3.heap.size := heap_lt hC3.blk
    have H3 : Hid _ := And.intro hA3 (And.intro hF3 (And.intro hC3 hps3))
    have hw2' : (w1.alloc (.cells #[.string (S b), .string (S m), .slice a1 ps.length c1] 77)).heap.size = w2.heap.size := by rw [hw2]
    unfold PLRes at h3
    cases hmo : Silo.manOf m with
    | none =>
      rw [hmo] at h3
      subst h3
      have HN : Hid _ := stepP_noMan (c := c) HArc.out hmo
      clear hmo hA2 hf2 hf3 hw2 hA3 hF3 hC3 hps3
      go_wp2_with fail
      go_quiet (fail)
      go_wp2
      go_ret
      exact ⟨AddRes.bad HN.out, (H3.out.2.1.trans' (Fp.drewN _ _ _)).mono (fun _ _ h => h.elim)⟩
    | some ls =>
      rw [hmo] at h3
      obtain ⟨v3, rfl, hls⟩ := h3
      obtain ⟨a3, c3, rfl⟩ := ownsRow_form hls
      have HStep : Hid _ := stepP_man (c := c) HArc.out hmo
      have HLs : Hid _ := And.intro hls (And.intro (Silo.manOf_some hmo).1 (And.intro (Silo.manOf_nodup hmo) hmo))
      have hlsl : ls.length ≤ 16777216 := Nat.le_trans (Silo.manOf_len hmo) (by omega)
      clear hmo hA2 hf2 hf3 hw2 hA3 hF3 hC3 hps3 hls
      have hcm := HC.out.man
      go_wp2_with fail
      go_region_held3 (fun W => W.cell? ⟨A, 0, none⟩ = some (.string (S b)) ∧ W.cell? ⟨cb, 0, none⟩ = some (.string (S c.man)))
        (first | go_keep | exact ⟨(HX.out.cell (p := ⟨A, 0, none⟩) (by simp; omega) (fun h => h)).trans ca0, (HX.out.cell (p := ⟨cb, 0, none⟩) (by simp; omega) (fun h => h)).trans cc0⟩)
        ((go_at_call 31; refine (BaseOf_any c.man _ (by omega)).mono ?_; rintro e w4 ⟨rfl, hx⟩; have HX : Hid _ := hx; clear hx))
      have hF4 : Fp (fun _ => False) w3 w4 := (Fp.drew _ _).trans' HX.out
      have hC4 := H3.out.2.2.1.fp hF4
      have hA4 : w4.heap[A]? = some (.cells #[.string (S b), .string (S m), .slice a1 ps.length c1] 77 (0, 0)) := by rw [hF4.block _ hAlt (fun h => h)]; exact H3.out.1
      obtain ⟨_, _, cd1, cd2⟩ := boxed3 hC4.blk
      have H4 : Hid (Fp (fun _ => False) w w4 ∧ ChAt w4 cb mb c F n a cp ∧ w4.heap[A]? = some (.cells #[.string (S b), .string (S m), .slice a1 ps.length c1] 77 (0, 0)) ∧ World.strsAt w4 w.heap.size (.slice a1 ps.length c1) ps ∧ World.plsAt w4 w2.heap.size (.slice a3 ls.length c3) ls) := ⟨H3.out.2.1.trans' hF4, hC4, hA4, Fp.ownsRow hF4 H3.out.2.2.2 (fun _ _ h => h), Fp.ownsRow hF4 HLs.out.1 (fun _ _ h => h)⟩
      clear hF4 hC4 hA4 ca0 ca1 ca2 cc0 cc1 cc2
      by_cases hbb : b = Silo.baseOf c.man
      · have qb : ((S b).toList == (S (Silo.baseOf c.man)).toList) = true := by rw [hbb]; simp
        rw [if_pos hbb] at HStep
        rw [qb]
        clear hbb qb
        go_wp2_with fail
        refine (pFresh_any ls (c.kept.map Prod.fst) (.slice a3 ls.length c3) (.slice a c.kept.length cp) w2.heap.size (cb + 1) w4 H4.out.2.2.2.2 (by unfold World.plsAt; rw [List.length_map]; exact H4.out.2.1.row) hlsl (by rw [List.length_map]; exact Nat.le_trans (kept_len HC.out.ok) hcm) HLs.out.2.1 (fun l hl => by obtain ⟨p, hp, rfl⟩ := List.mem_map.1 hl; exact kept_ok HC.out.ok hp)).mono ?_
        rintro e w5 ⟨⟨a5, c5, rfl, hfr⟩, hf5⟩
        rw [Silo.fresh_eq] at hfr ⊢
        have hfok : ∀ l ∈ Silo.fresh c.kept ls, l.Ok := fun l hl => HLs.out.2.1 l (List.mem_filter.1 hl).1
        have hkl := fun (F : List (Silo.Ln × List UInt8)) hF hlen => Silo.kept_look (F := F) (ps := ps) (old := c.kept) HLs.out.2.2.1 hF hlen
        obtain ⟨fr, hfr'⟩ : ∃ fr, Silo.fresh c.kept ls = fr := ⟨_, rfl⟩
        rw [hfr'] at hfr hfok HStep ⊢
        have hfl : fr.length ≤ 16777216 := by rw [← hfr']; exact Nat.le_trans (List.length_filter_le _ _) hlsl
        have HKL : Hid (∀ F : List (Silo.Ln × List UInt8), (∀ p ∈ c.kept, Silo.look F p.1 = some p.2) → fr.length = ps.length → ∀ p ∈ ls.zip (Silo.weave c.kept ls ps), Silo.look ((fr.zip ps).reverse ++ F) p.1 = some p.2) := by
          intro F hF hlen
          have := hkl F hF (by rw [hfr']; exact hlen)
          rw [hfr'] at this
          exact this
        have hC5 := H4.out.2.1.fp hf5
        have hA5 : w5.heap[A]? = some (.cells #[.string (S b), .string (S m), .slice a1 ps.length c1] 77 (0, 0)) := by rw [hf5.block _ (heap_lt H4.out.2.2.1) (fun h => h)]; exact H4.out.2.2.1
        obtain ⟨_, _, _, ce2⟩ := boxed3 hA5
        obtain ⟨_, _, _, cf2⟩ := boxed3 hC5.blk
        have hA5lt := heap_lt hA5
        have hc5lt := heap_lt hC5.blk
        have hwA : w.heap.size ≤ A := by rw [← hA]; exact H1.out.2.size
        have hmb := HC.out.lt
        have hsz24 : w.heap.size ≤ w2.heap.size := by
          have h8 := H1.out.2.size
          rw [← hw2']
          simp
          omega
        have H5 : Hid (Fp (fun _ => False) w w5 ∧ ChAt w5 cb mb c F n a cp ∧ w5.heap[A]? = some (.cells #[.string (S b), .string (S m), .slice a1 ps.length c1] 77 (0, 0)) ∧ World.strsAt w5 w.heap.size (.slice a1 ps.length c1) ps ∧ World.plsAt w5 w2.heap.size (.slice a3 ls.length c3) ls ∧ World.plsAt w5 w4.heap.size (.slice a5 fr.length c5) fr ∧ (∀ l ∈ fr, l.Ok)) := ⟨H4.out.1.trans' hf5, hC5, hA5, Fp.ownsRow hf5 H4.out.2.2.2.1 (fun _ _ h => h), Fp.ownsRow hf5 H4.out.2.2.2.2 (fun _ _ h => h), hfr, hfok⟩
        clear hfr hfok hkl hfr' hC5 hA5 hf5 cd1 cd2
        by_cases hlen : fr.length = ps.length
        · have ql : (((fr.length : Nat) : Int) != ((ps.length : Nat) : Int)) = false := by rw [hlen]; simp
          have HLen : Hid _ := hlen
          obtain ⟨nf, hnf⟩ : ∃ nf, fr.length = nf := ⟨_, rfl⟩
          have hnp : ps.length = nf := by omega
          rw [hnf] at H5 hfl ql ⊢
          rw [hnp] at H5 ce2 ql ⊢
          have HNf : Hid _ := And.intro hnf hnp
          clear hlen hnf hnp
          go_wp2_with fail
          go_loopw [54] (fun iv wr => ∃ k : Nat, k ≤ nf ∧ iv = .int .i64 (k : Nat) ∧ Hid (Silo.allFit fr ps = Silo.allFit (fr.drop k) (ps.drop k) ∧ FilesAt wr mb (n + k) (((fr.zip ps).take k).reverse ++ F) ∧ Fp (fun j => j = mb) w5 wr)) (fun iv _ => nf - (intOf iv).toNat)
          case atStart => exact ⟨0, Nat.zero_le _, rfl, by simp, by simpa using H5.out.2.1.map, Fp.refl _ _⟩
          case round =>
            obtain ⟨k, hk, rfl, HI⟩ := hrel
            have hAr : wr.heap[A]? = some (.cells #[.string (S b), .string (S m), .slice a1 nf c1] 77 (0, 0)) := by rw [HI.out.2.2.block _ hA5lt (by omega)]; exact H5.out.2.2.1
            have hCr : wr.heap[cb]? = some (.cells #[.string (S c.man), .slice a c.kept.length cp, .map (some mb)] 65 (0, 0)) := by rw [HI.out.2.2.block _ hc5lt (by omega)]; exact H5.out.2.1.blk
            obtain ⟨⟨fA0, fA1, fA2⟩, cA0, cA1, cA2⟩ := boxed3 hAr
            obtain ⟨⟨fC0, fC1, fC2⟩, cC0, cC1, cC2⟩ := boxed3 hCr
            have hAlr := heap_lt hAr
            have hClr := heap_lt hCr
            have HB : Hid _ := And.intro hAr hCr
            clear hAr hCr
            by_cases hkl : k < nf
            · have qk : decide (((k : Nat) : Int) < ((nf : Nat) : Int)) = true := decide_eq_true (by omega)
              obtain ⟨gf, hgf⟩ := plsAt_place (by have h8 := H5.out.2.2.2.2.2.1; have h9 := HNf.out.1; unfold World.plsAt at h8; rw [h9] at h8; exact h8) (by omega)
              subst hgf
              obtain ⟨l, hlk⟩ : ∃ l, fr[k]? = some l := by
                have := HNf.out.1
                exact ⟨fr[k]'(by omega), List.getElem?_eq_getElem (by omega)⟩
              obtain ⟨f, hfk⟩ : ∃ f, ps[k]? = some f := by
                have := HNf.out.2
                exact ⟨ps[k]'(by omega), List.getElem?_eq_getElem (by omega)⟩
              have hrow : wr.ownsRow w4.heap.size 86 4 (.slice (some ⟨gf, 0, none⟩) nf c5) nf (plCells fr) := by
                have h8 := H5.out.2.2.2.2.2.1
                have h9 := HNf.out.1
                have h10 := H4.out.1.size
                unfold World.plsAt at h8
                rw [h9] at h8
                exact Fp.ownsRow HI.out.2.2 h8 (fun j hj e => by have := (World.ownsRow.lt h8 j hj).1; omega)
              have c0 : wr.cell? ⟨gf, k * 4, none⟩ = some (.int .i64 (l.lo : Nat)) := plsAt_cell (j := 0) hrow hlk rfl
              have c1' : wr.cell? ⟨gf, k * 4 + 1, none⟩ = some (.int .i64 (l.hi : Nat)) := plsAt_cell (j := 1) hrow hlk rfl
              have c2 : wr.cell? ⟨gf, k * 4 + 2, none⟩ = some (.int .i64 (l.size : Nat)) := plsAt_cell (j := 2) hrow hlk rfl
              have c3' : wr.cell? ⟨gf, k * 4 + 3, none⟩ = some (.int .u64 (l.hash : Nat)) := plsAt_cell (j := 3) hrow hlk rfl
              have hps : World.strsAt wr w.heap.size (.slice a1 nf c1) ps := Fp.ownsRow HI.out.2.2 H5.out.2.2.2.1 (fun j hj e => by have := (World.ownsRow.lt H5.out.2.2.2.1 j hj).1; omega)
              obtain ⟨gp, hgp⟩ : ∃ g, a1 = some ⟨g, 0, none⟩ := by
                rcases hps.2 with ⟨_, h2⟩ | ⟨g', cap, cur, h3, _⟩
                · have := HNf.out.2; omega
                · cases h3; exact ⟨g', rfl⟩
              subst hgp
              have cp' : wr.cell? ⟨gp, k, none⟩ = some (.string (S f)) := by
                have h9 := HNf.out.2
                have h2 := strsAt_cell (w := wr) (base := w.heap.size) (g := gp) (cap := c1) (xs := ps) (by rw [h9]; exact hps) k (by omega)
                rw [h2]
                rw [List.getElem?_eq_getElem (by omega)] at hfk
                rw [Option.some.inj hfk]
              have hgpl : gp < wr.heap.size := (World.ownsRow.lt hps gp rfl).2
              have hlok := H5.out.2.2.2.2.2.2 l (List.mem_of_getElem? hlk)
              have hfln : f.length ≤ 16777216 := Nat.le_trans (hpl f (List.mem_of_getElem? hfk)) hs
              have HAt : Hid _ := And.intro (Silo.allFit_at hlk hfk) (And.intro hlok (show (fr.zip ps).take (k + 1) = (fr.zip ps).take k ++ [(l, f)] by
                rw [List.take_add_one]
                congr 1
                rw [show (fr.zip ps)[k]? = some (l, f) from List.getElem?_zip_eq_some.2 ⟨hlk, hfk⟩]
                rfl))
              clear hrow hlk hfk hps hlok
              go_wp2_with fail
              refine (pFits_any l f _ (by omega)).mono ?_
              rintro e w6 ⟨rfl, h6⟩
              have hL6 : w6.heap[wr.heap.size]? = some (.cells #[.int .i64 (l.lo : Nat), .int .i64 (l.hi : Nat), .int .i64 (l.size : Nat), .int .u64 (l.hash : Nat)] 86 (0, 0)) := by rw [h6.block _ (by simp) (fun h => h)]; exact heap_new _ _
              obtain ⟨_, cl0, cl1, cl2, cl3⟩ := boxed4 hL6
              have H6 : Hid (w6.heap[wr.heap.size]? = some (.cells #[.int .i64 (l.lo : Nat), .int .i64 (l.hi : Nat), .int .i64 (l.size : Nat), .int .u64 (l.hash : Nat)] 86 (0, 0)) ∧ Fp (fun _ => False) wr w6) := ⟨hL6, (Fp.alloc _ _ _).trans' h6⟩
              have HNo : Hid (Silo.fileIs l f = false → Silo.stepR c s = none) := fun hff => by
                rw [HStep.out, if_neg]
                rw [HI.out.1, HAt.out.1, hff]
                simp
              clear hL6 h6 c0 c1' c2 c3' cp'
              cases hfit : l.fits f
              · have HN : Hid _ := HNo.out (by unfold Silo.fileIs; rw [hfit]; rfl)
                clear hfit
                go_wp2
                go_ret
                refine ⟨AddRes.bad HN.out, ?_⟩
                exact (H5.out.1.trans HI.out.2.2 (U := fun j => j = cb ∨ j = mb) (fun _ h => h.elim) (fun _ _ e => .inr e)).trans H6.out.2 (fun _ h => h) (fun _ _ h => h.elim)
              · have HFit : Hid _ := hfit
                clear hfit
                go_wp2_with fail
                refine (IsFile_any l.lo l.hi f w6 (by omega)).mono ?_
                rintro e w7 ⟨rfl, h7⟩
                cases hisf : isFileP l.lo l.hi f
                · have HN : Hid _ := HNo.out (by show (l.fits f && isFileP l.lo l.hi f) = false; rw [hisf]; simp)
                  have H7 : Hid _ := h7
                  clear hisf h7
                  go_wp2
                  go_ret
                  refine ⟨AddRes.bad HN.out, ?_⟩
                  exact (H5.out.1.trans HI.out.2.2 (U := fun j => j = cb ∨ j = mb) (fun _ h => h.elim) (fun _ _ e => .inr e)).trans (H6.out.2.trans' H7.out) (fun _ h => h) (fun _ _ h => h.elim)
                · have HFI : Hid (Silo.fileIs l f = true) := by show (l.fits f && isFileP l.lo l.hi f) = true; rw [hisf, HFit.out]; rfl
                  have hL7 : w7.heap[wr.heap.size]? = some (.cells #[.int .i64 (l.lo : Nat), .int .i64 (l.hi : Nat), .int .i64 (l.size : Nat), .int .u64 (l.hash : Nat)] 86 (0, 0)) := by rw [h7.block _ (heap_lt H6.out.1) (fun h => h)]; exact H6.out.1
                  have hC7 : w7.heap[cb]? = some (.cells #[.string (S c.man), .slice a c.kept.length cp, .map (some mb)] 65 (0, 0)) := by rw [(H6.out.2.trans' h7).block _ hClr (fun h => h)]; exact HB.out.2
                  obtain ⟨_, cm0, cm1, cm2, cm3⟩ := boxed4 hL7
                  obtain ⟨_, _, _, cq2⟩ := boxed3 hC7
                  obtain ⟨w9, hrun, hfa, hf9⟩ := FilesAt.put (l := l) f (HI.out.2.1.fp ((H6.out.2.trans' h7).trans' (Fp.drew (fun _ => False) w7)) (fun h => h)) (by unfold maxLen; omega) HAt.out.2.1
                  have H9 : Hid _ := And.intro hfa (And.intro hf9 ((H6.out.2.trans' h7).trans' (Fp.drew (fun _ => False) w7)))
                  clear hisf h7 hL7 hC7 hfa hf9 cl0 cl1 cl2 cl3
                  go_wp2_with fail
                  go_region
                  all_goals go_wp2
                  all_goals go_roundw
                  case rel =>
                    refine ⟨k + 1, by omega, by go_num, ?_, ?_, ?_⟩
                    · rw [HI.out.1, HAt.out.1, HFI.out]; simp
                    · rw [HAt.out.2.2, List.reverse_append]
                      exact H9.out.1
                    · exact (HI.out.2.2.trans H9.out.2.2 (fun _ h => h) (fun _ _ h => h.elim)).trans H9.out.2.1 (fun _ h => h) (fun _ _ h => h)
                  case measure => simp [intOf]; omega
            · obtain rfl : k = nf := by omega
              have qk : decide (((k : Nat) : Int) < ((k : Nat) : Int)) = false := decide_eq_false (by omega)
              have hfr0 : fr.drop k = [] := List.drop_eq_nil_of_le (by have := HNf.out.1; omega)
              have hps0 : ps.drop k = [] := List.drop_eq_nil_of_le (by have := HNf.out.2; omega)
              have hall : Silo.allFit fr ps = true := by rw [HI.out.1, hfr0, hps0]; rfl
              have HE : Hid (Silo.stepR c s = some ⟨m, ls.zip (Silo.weave c.kept ls ps)⟩) := by show _ = _; rw [HStep.out, if_pos hall]
              clear hfr0 hps0 hall
              go_wp2
              go_ret
              obtain ⟨wz, hz, z0, hfz⟩ := chEnd (x := .string (S m)) (y := .slice a3 ls.length c3) HB.out.2
              rw [hz]
              have hok := Silo.stepR_ok HE.out
              have hkk : (ls.zip (Silo.weave c.kept ls ps)).map Prod.fst = ls := by
                rcases hok.lines with ⟨h8, _⟩ | h8
                · have h9 := HLs.out.2.2.2
                  simp only at h8
                  rw [h8, Silo.manOf_nil] at h9
                  cases h9
                · have h9 := HLs.out.2.2.2
                  simp only at h8
                  rw [h9] at h8
                  exact (Option.some.inj h8).symm
              have hkl2 : (ls.zip (Silo.weave c.kept ls ps)).length = ls.length := by
                have := congrArg List.length hkk
                simpa using this
              have hF5 : Fp (fun j => j = cb ∨ j = mb) w5 wz := (HI.out.2.2.mono (fun _ _ e => .inr e)).trans' (hfz.mono (fun _ _ e => .inl e))
              refine ⟨?_, (H5.out.1.mono (fun _ _ h => h.elim)).trans' hF5⟩
              unfold AddRes
              rw [HE.out]
              refine ⟨rfl, (fr.zip ps).reverse ++ F, n + k, a3, c3, ⟨by rw [hkl2]; exact z0, ?_, ?_, HKL.out F HC.out.inv HLen.out, hok, by show m.length ≤ _; omega, hmb⟩, by omega⟩
              · rw [hkk, hkl2]
                have h8 : w5.ownsRow w2.heap.size 86 4 (.slice a3 ls.length c3) ls.length (plCells ls) := H5.out.2.2.2.2.1
                exact ownsRow_base (Fp.ownsRow hF5 h8 (fun j hj e => by have := (World.ownsRow.lt h8 j hj).1; omega)) (by omega)
              · have h8 := HI.out.2.1
                rw [List.take_of_length_le (by have h1 := HNf.out.1; have h2 := HNf.out.2; rw [List.length_zip]; omega)] at h8
                exact h8.fp hfz (by omega)
        · have ql : (((fr.length : Nat) : Int) != ((ps.length : Nat) : Int)) = true := by rw [bne_iff_ne]; omega
          have HN : Hid (Silo.stepR c s = none) := by
            show _ = _
            rw [HStep.out, if_neg]
            intro hh
            exact hlen (Silo.allFit_len _ _ hh)
          go_wp2
          go_ret
          exact ⟨AddRes.bad HN.out, H5.out.1.mono (fun _ _ h => h.elim)⟩
      · have qb : ((S b).toList == (S (Silo.baseOf c.man)).toList) = false := by rw [bytes_toList, bytes_toList, S_toList, S_toList, beq_eq_false_iff_ne]; exact hbb
        have HN : Hid (Silo.stepR c s = none) := by show _ = _; rw [HStep.out, if_neg hbb]
        rw [qb]
        clear hbb qb
        go_wp2
        go_ret
        exact ⟨AddRes.bad HN.out, H4.out.1.mono (fun _ _ h => h.elim)⟩

end Go.Proofs.YtbimkgmhfcgpmaaGreatDoor
