/- siloref's allowed, Lay and LayAll. -/
import Derived.Test.YteoboonapcjadaaPureA
import Derived.Test.YteoboonapcjadaaBlock
namespace Go.Proofs.Yteoboonapcjadaa
open Go.RowKit Go.Shelf

/-- A sample lies in block b. -/
structure Lies (W : World) (b : Nat) (x : Silo.Smp) : Prop where
  lt : b < W.heap.size
  c0 : W.cell? ⟨b, 0, none⟩ = some (.int .i64 x.s)
  c1 : W.cell? ⟨b, 1, none⟩ = some (.int .i64 x.t)
  c2 : W.cell? ⟨b, 2, none⟩ = some (.int .u64 (x.v : Nat))

theorem Lies.new (w : World) (x : Silo.Smp) (t : TypeId) : Lies (w.alloc (.cells #[.int .i64 x.s, .int .i64 x.t, .int .u64 (x.v : Nat)] t)) w.heap.size x :=
  ⟨by simp, by simp, by simp, by simp⟩

theorem Lies.next {W W' : World} {b : Nat} {x : Silo.Smp} {S : Nat → Prop} (h : Lies W b x) (hf : Fp S W W') (hS : ¬ S b) : Lies W' b x :=
  ⟨Nat.lt_of_lt_of_le h.lt hf.size, by rw [hf.cell (p := ⟨b, 0, none⟩) h.lt hS]; exact h.c0, by rw [hf.cell (p := ⟨b, 1, none⟩) h.lt hS]; exact h.c1, by rw [hf.cell (p := ⟨b, 2, none⟩) h.lt hS]; exact h.c2⟩

/-- A new block of one sample at the heap's end, as what is appended. -/
theorem src_new (W : World) (y : Silo.Smp) (t : TypeId) (b : Nat) (hb : b = W.heap.size) : ∀ j u, (smpCells [y])[j]? = some u → (W.alloc (.cells #[.int .i64 y.s, .int .i64 y.t, .int .u64 (y.v : Nat)] t)).cell? ((⟨b, 0, none⟩ : Addr).add j) = some u := by
  subst hb
  exact smp_new W y t

set_option maxHeartbeats 1000000 in
theorem Refallowed_any (w : World) (v : Value) (xs : List Silo.Smp) (hin : SmpIn w w.heap.size v xs) (hl : xs.length ≤ 1099511627776) :
    Calls Try.prog 25 #[v] w fun e w' => e = .returned (.bool (Silo.fits xs)) ∧ w' = w := by
  obtain ⟨ad, c, rfl, hin'⟩ := hin
  have H : Hid _ := hin'
  clear hin'
  go_enter Try.func25, Try.ntmps25
  go_wp2_with fail
  go_loop [3] (fun iv => ∃ k : Nat, k ≤ xs.length ∧ iv = .int .i64 k ∧ Hid (Silo.fits (xs.take k) = true)) (fun iv => xs.length - (intOf iv).toNat)
  case atStart => exact ⟨0, by omega, rfl, (rfl : Silo.fits (xs.take 0) = true)⟩
  case round =>
    obtain ⟨k, hk, rfl, HR⟩ := hrel
    by_cases hlt : k < xs.length
    · obtain ⟨b, off, hb⟩ : ∃ b off, ad = some ⟨b, off, none⟩ ∧ b < w.heap.size ∧ ∀ k (hk : k < xs.length),
          w.cell? ⟨b, off + k * 3, none⟩ = some (.int .i64 xs[k].s) ∧ w.cell? ⟨b, off + k * 3 + 1, none⟩ = some (.int .i64 xs[k].t) ∧ w.cell? ⟨b, off + k * 3 + 2, none⟩ = some (.int .u64 (xs[k].v : Nat)) := by
        rcases H.out with h | h
        · rw [h] at hlt; simp at hlt
        · exact h
      obtain ⟨rfl, hbt, hcell⟩ := hb
      obtain ⟨c0, c1, c2⟩ := hcell k hlt
      obtain ⟨x, hx⟩ : ∃ x, xs[k] = x := ⟨_, rfl⟩
      rw [hx] at c0 c1 c2
      have HX : Hid _ := hx
      clear hcell hx
      have kN : (k : Int) < (xs.length : Int) := by omega
      by_cases h1 : x.s < 0
      · go_wp2
        go_ret
        exact ⟨ret_val (by rw [fits_not hlt (by rw [HX.out]; omega)]; simp), rfl⟩
      · by_cases h2 : 16 ≤ x.s
        · go_wp2
          go_ret
          exact ⟨ret_val (by rw [fits_not hlt (by rw [HX.out]; omega)]; simp), rfl⟩
        · go_wp2
          go_round
          case rel => exact ⟨k + 1, by omega, by go_num, fits_cons hlt HR.out (by rw [HX.out]; omega)⟩
          case measure => simp [intOf]; omega
    · obtain rfl : k = xs.length := by omega
      go_wp2
      go_ret
      have := HR.out
      rw [List.take_length] at this
      exact ⟨ret_val (by rw [this]; simp), rfl⟩

/-- What the loop has made of the first k samples. -/
def laid (x : Silo.Smp) (l : List Silo.Smp) (k : Nat) : List Silo.Smp × Bool := (l.take k).foldl (Silo.layStep x) ([], false)

theorem laid_next {x : Silo.Smp} {l : List Silo.Smp} {k : Nat} (h : k < l.length) {y : Silo.Smp} (hy : l[k] = y) : laid x l (k + 1) = Silo.layStep x (laid x l k) y := by
  unfold laid
  rw [List.take_succ_eq_append_getElem h, List.foldl_append, hy]
  rfl

theorem laid_len (x : Silo.Smp) (l : List Silo.Smp) (k : Nat) : (laid x l k).1.length ≤ 2 * k := by
  have key : ∀ (l : List Silo.Smp) (st : List Silo.Smp × Bool), (l.foldl (Silo.layStep x) st).1.length ≤ st.1.length + 2 * l.length := by
    intro l
    induction l with
    | nil => intro st; simp
    | cons y l ih =>
      intro st
      have := ih (Silo.layStep x st y)
      have h2 : (Silo.layStep x st y).1.length ≤ st.1.length + 2 := by
        unfold Silo.layStep
        simp only [List.length_append]
        split <;> split <;> simp
      simp only [List.foldl_cons, List.length_cons]
      omega
  have := key (l.take k) ([], false)
  have h3 : (l.take k).length ≤ k := by simp; omega
  unfold laid
  simp only [List.length_nil] at this
  omega

set_option maxHeartbeats 4000000 in
set_option maxRecDepth 100000 in
theorem RefLay_any (l : List Silo.Smp) (x : Silo.Smp) (v : Value) (w : World) (hin : SmpIn w w.heap.size v l) (hl : l.length ≤ 1073741824) :
    Calls Try.prog 44 #[v, .agg #[.int .i64 x.s, .int .i64 x.t, .int .u64 (x.v : Nat)]] w fun e w' => ∃ v', e = .returned v' ∧ World.smpsAt w' w.heap.size v' (Silo.layR l x) ∧ Fp (fun _ => False) w w' := by
  obtain ⟨ad, c, rfl, hin'⟩ := hin
  have H : Hid _ := hin'
  clear hin'
  go_enter Try.func44, Try.ntmps44
  go_wp2_with fail
  go_loopw [5, 6, 7] (fun ov pv iv wr => ∃ k : Nat, k ≤ l.length ∧ iv = .int .i64 k ∧ pv = .bool (laid x l k).2 ∧ Hid (World.smpsAt wr (w.heap.size + 1) ov (laid x l k).1 ∧ Lies wr w.heap.size x ∧ Fp (fun _ => False) w wr)) (fun _ _ iv _ => l.length - (intOf iv).toNat)
  case atStart => exact ⟨0, by omega, rfl, rfl, nil_row _ _, Lies.new w x _, Fp.alloc _ _ _⟩
  case round =>
    obtain ⟨k, hk, rfl, rfl, HR⟩ := hrel
    by_cases hlt : k < l.length
    · obtain ⟨b, off, hb⟩ : ∃ b off, ad = some ⟨b, off, none⟩ ∧ b < w.heap.size ∧ ∀ k (hk : k < l.length),
          w.cell? ⟨b, off + k * 3, none⟩ = some (.int .i64 l[k].s) ∧ w.cell? ⟨b, off + k * 3 + 1, none⟩ = some (.int .i64 l[k].t) ∧ w.cell? ⟨b, off + k * 3 + 2, none⟩ = some (.int .u64 (l[k].v : Nat)) := by
        rcases H.out with h | h
        · rw [h] at hlt; simp at hlt
        · exact h
      obtain ⟨rfl, hbt, hcell⟩ := hb
      obtain ⟨c0, c1, c2⟩ := hcell k hlt
      rw [← HR.out.2.2.cell (p := ⟨b, off + k * 3, none⟩) hbt (fun h => h)] at c0
      rw [← HR.out.2.2.cell (p := ⟨b, off + k * 3 + 1, none⟩) hbt (fun h => h)] at c1
      rw [← HR.out.2.2.cell (p := ⟨b, off + k * 3 + 2, none⟩) hbt (fun h => h)] at c2
      obtain ⟨y, hy⟩ : ∃ y, l[k] = y := ⟨_, rfl⟩
      rw [hy] at c0 c1 c2
      have hnext := laid_next (x := x) hlt hy
      have hll := laid_len x l k
      have hbr : b < wr.heap.size := Nat.lt_of_lt_of_le hbt HR.out.2.2.size
      have hwr : w.heap.size < wr.heap.size := HR.out.2.1.lt
      have x0 := HR.out.2.1.c0
      have x1 := HR.out.2.1.c1
      have x2 := HR.out.2.1.c2
      have hown : ∀ j, u5.ownBlock = some j → w.heap.size < j ∧ j < wr.heap.size := fun j hj => by
        have := World.ownsRow.lt HR.out.1 j hj
        exact ⟨this.1, this.2⟩
      have HX : Hid _ := And.intro hnext (And.intro hll (And.intro hwr hown))
      clear hcell hy hnext hll hown
      have kN : (k : Int) < (l.length : Int) := by omega
      obtain ⟨out, hout⟩ : ∃ out, (laid x l k).1 = out := ⟨_, rfl⟩
      obtain ⟨put, hput⟩ : ∃ put, (laid x l k).2 = put := ⟨_, rfl⟩
      rw [hput]
      have HO : Hid _ := And.intro hout hput
      clear hout hput
      cases put with
      | true =>
        by_cases es : x.s = y.s
        · by_cases et : x.t = y.t
          · skip
            have HS : Hid (laid x l (k + 1) = (out, true)) := by rw [HX.out.1, show laid x l k = (out, true) from Prod.ext HO.out.1 HO.out.2]; exact Silo.step_none es et
            have f2 : (x.s != y.s) = false := by simpa using es
            have f3 : (x.s == y.s) = true := by simpa using es
            have f4 : ¬ x.s < y.s := by omega
            have f1 : (x.t != y.t) = false := by simpa using et
            have f5 : x.t ≤ y.t := by omega
            clear es et

            go_wp2
            go_roundw
            case rel =>
              refine ⟨k + 1, by omega, by go_num, by rw [HS.out], ?_, HR.out.2.1.next (Fp.alloc (fun _ => False) _ _) (fun h => h), HR.out.2.2.trans' (Fp.alloc _ _ _)⟩
              rw [HS.out]
              exact Fp.ownsRow (Fp.alloc (fun _ => False) _ _) (HO.out.1 ▸ HR.out.1) (fun _ _ h => h)
            case measure => simp [intOf]; omega
          · skip
            have HS : Hid (laid x l (k + 1) = (out ++ [y], true)) := by rw [HX.out.1, show laid x l k = (out, true) from Prod.ext HO.out.1 HO.out.2]; exact Silo.step_yp (fun h => et h.2)
            have f2 : (x.s != y.s) = false := by simpa using es
            have f3 : (x.s == y.s) = true := by simpa using es
            have f4 : ¬ x.s < y.s := by omega
            have f1 : (x.t != y.t) = true := by simpa using et
            clear es et

            go_wp2_with (at_builtin; refine wpList_append_smp rfl _ _ rfl (w.heap.size + 1) u5 out y rfl ?c1 _ rfl ?c2 ?c3 ?c4 ?_; rotate_left 4; intro g1 cap1 w2 HA)
            case c1 => exact Fp.ownsRow ((Fp.alloc (fun _ => False) _ _).trans' (Fp.alloc _ _ _)) (HO.out.1 ▸ HR.out.1) (fun _ _ h => h)
            case c2 => first | exact src_new _ _ _ _ (by simp) | exact src_new _ _ _ _ rfl | (intro j u hj; exact hj)
            case c3 => have h1 := HX.out.2.1; rw [HO.out.1] at h1; omega
            case c4 => first | omega | (simp; omega)
            go_roundw
            case rel =>
              refine ⟨k + 1, by omega, by go_num, by rw [HS.out], ?_, ?_, ?_⟩
              · rw [HS.out]; exact HA.out.row
              · exact ((HR.out.2.1.next (Fp.alloc (fun _ => False) _ _) (fun h => h)).next (Fp.alloc (fun _ => False) _ _) (fun h => h)).next HA.out.foot (fun h => by have := (HX.out.2.2.2 _ h).1; omega)
              · exact (HR.out.2.2.trans' ((Fp.alloc _ _ _).trans' (Fp.alloc _ _ _))).trans HA.out.foot (fun _ h => h) (fun j hj h => by have := (HX.out.2.2.2 j h).1; omega)
            case measure => simp [intOf]; omega
        · skip
          have HS : Hid (laid x l (k + 1) = (out ++ [y], true)) := by rw [HX.out.1, show laid x l k = (out, true) from Prod.ext HO.out.1 HO.out.2]; exact Silo.step_yp (fun h => es h.1)
          have f2 : (x.s != y.s) = true := by simpa using es
          have f3 : (x.s == y.s) = false := by simpa using es
          clear es

          go_wp2_with (at_builtin; refine wpList_append_smp rfl _ _ rfl (w.heap.size + 1) u5 out y rfl ?c1 _ rfl ?c2 ?c3 ?c4 ?_; rotate_left 4; intro g1 cap1 w2 HA)
          case c1 => exact Fp.ownsRow ((Fp.alloc (fun _ => False) _ _).trans' (Fp.alloc _ _ _)) (HO.out.1 ▸ HR.out.1) (fun _ _ h => h)
          case c2 => first | exact src_new _ _ _ _ (by simp) | exact src_new _ _ _ _ rfl | (intro j u hj; exact hj)
          case c3 => have h1 := HX.out.2.1; rw [HO.out.1] at h1; omega
          case c4 => first | omega | (simp; omega)
          go_roundw
          case rel =>
            refine ⟨k + 1, by omega, by go_num, by rw [HS.out], ?_, ?_, ?_⟩
            · rw [HS.out]; exact HA.out.row
            · exact ((HR.out.2.1.next (Fp.alloc (fun _ => False) _ _) (fun h => h)).next (Fp.alloc (fun _ => False) _ _) (fun h => h)).next HA.out.foot (fun h => by have := (HX.out.2.2.2 _ h).1; omega)
            · exact (HR.out.2.2.trans' ((Fp.alloc _ _ _).trans' (Fp.alloc _ _ _))).trans HA.out.foot (fun _ h => h) (fun j hj h => by have := (HX.out.2.2.2 j h).1; omega)
          case measure => simp [intOf]; omega
      | false =>
        by_cases es : x.s = y.s
        · by_cases et : x.t = y.t
          · skip
            have HS : Hid (laid x l (k + 1) = (out ++ [x], true)) := by rw [HX.out.1, show laid x l k = (out, false) from Prod.ext HO.out.1 HO.out.2]; exact Silo.step_x es et
            have f2 : (x.s != y.s) = false := by simpa using es
            have f3 : (x.s == y.s) = true := by simpa using es
            have f4 : ¬ x.s < y.s := by omega
            have f1 : (x.t != y.t) = false := by simpa using et
            have f5 : x.t ≤ y.t := by omega
            clear es et

            go_wp2_with (at_builtin; refine wpList_append_smp rfl _ _ rfl (w.heap.size + 1) u5 out x rfl ?c1 _ rfl ?c2 ?c3 ?c4 ?_; rotate_left 4; intro g1 cap1 w2 HA; have hx9 : ¬ (u5.ownBlock = some w.heap.size) := (fun h => by have := (HX.out.2.2.2 _ h).1; omega); have hy9 : ¬ (u5.ownBlock = some wr.heap.size) := (fun h => by have := (HX.out.2.2.2 _ h).2; omega); have lx := ((HR.out.2.1.next (Fp.alloc (fun _ => False) _ _) (fun h => h)).next (Fp.alloc (fun _ => False) _ _) (fun h => h)).next HA.out.foot hx9; have ly := ((Lies.new wr y 42).next (Fp.alloc (fun _ => False) _ _) (fun h => h)).next HA.out.foot hy9; have z0 := lx.c0; have z1 := lx.c1; have y0 := ly.c0; have y1 := ly.c1; have HL : Hid _ := And.intro lx ly; clear lx ly hx9 hy9)
            case c1 => exact Fp.ownsRow ((Fp.alloc (fun _ => False) _ _).trans' (Fp.alloc _ _ _)) (HO.out.1 ▸ HR.out.1) (fun _ _ h => h)
            case c2 => first | exact src_new _ _ _ _ (by simp) | exact src_new _ _ _ _ rfl | (intro j u hj; exact hj)
            case c3 => have h1 := HX.out.2.1; rw [HO.out.1] at h1; omega
            case c4 => first | omega | (simp; omega)
            go_roundw
            case rel =>
              refine ⟨k + 1, by omega, by go_num, by rw [HS.out], ?_, ?_, ?_⟩
              · rw [HS.out]; exact HA.out.row
              · exact ((HR.out.2.1.next (Fp.alloc (fun _ => False) _ _) (fun h => h)).next (Fp.alloc (fun _ => False) _ _) (fun h => h)).next HA.out.foot (fun h => by have := (HX.out.2.2.2 _ h).1; omega)
              · exact (HR.out.2.2.trans' ((Fp.alloc _ _ _).trans' (Fp.alloc _ _ _))).trans HA.out.foot (fun _ h => h) (fun j hj h => by have := (HX.out.2.2.2 j h).1; omega)
            case measure => simp [intOf]; omega
          · by_cases el : x.t ≤ y.t
            · skip
              have HS : Hid (laid x l (k + 1) = (out ++ [x] ++ [y], true)) := by rw [HX.out.1, show laid x l k = (out, false) from Prod.ext HO.out.1 HO.out.2]; exact Silo.step_xy (fun h => et h.2) (.inr ⟨es, el⟩)
              have f2 : (x.s != y.s) = false := by simpa using es
              have f3 : (x.s == y.s) = true := by simpa using es
              have f4 : ¬ x.s < y.s := by omega
              have f1 : (x.t != y.t) = true := by simpa using et
              clear es et

              go_wp2_with (first | (at_builtin; refine wpList_append_smp rfl _ _ rfl (w.heap.size + 1) u5 out x rfl ?c1 _ rfl ?c2 ?c3 ?c4 ?_; rotate_left 4; intro g1 cap1 w2 HA; have hx9 : ¬ (u5.ownBlock = some w.heap.size) := (fun h => by have := (HX.out.2.2.2 _ h).1; omega); have hy9 : ¬ (u5.ownBlock = some wr.heap.size) := (fun h => by have := (HX.out.2.2.2 _ h).2; omega); have lx := ((HR.out.2.1.next (Fp.alloc (fun _ => False) _ _) (fun h => h)).next (Fp.alloc (fun _ => False) _ _) (fun h => h)).next HA.out.foot hx9; have ly := ((Lies.new wr y 42).next (Fp.alloc (fun _ => False) _ _) (fun h => h)).next HA.out.foot hy9; have z0 := lx.c0; have z1 := lx.c1; have y0 := ly.c0; have y1 := ly.c1; have y2 := ly.c2; have HL : Hid _ := And.intro lx ly; clear lx ly hx9 hy9) | (at_builtin; refine wpList_append_smp rfl _ _ rfl (w.heap.size + 1) (.slice (some ⟨g1, 0, none⟩) (out.length + 1) cap1) (out ++ [x]) y rfl ?c5 _ rfl ?c6 ?c7 ?c8 ?_; rotate_left 4; intro g2 cap2 w3 HB))
              case c1 => exact Fp.ownsRow ((Fp.alloc (fun _ => False) _ _).trans' (Fp.alloc _ _ _)) (HO.out.1 ▸ HR.out.1) (fun _ _ h => h)
              case c2 => first | exact src_new _ _ _ _ (by simp) | exact src_new _ _ _ _ rfl | (intro j u hj; exact hj)
              case c3 => have h1 := HX.out.2.1; rw [HO.out.1] at h1; omega
              case c4 => first | omega | (simp; omega)
              case c5 => exact Fp.ownsRow (Fp.alloc (fun _ => False) _ _) HA.out.row (fun _ _ h => h)
              case c6 => first | exact src_new _ _ _ _ rfl | (intro j u hj; exact hj)
              case c7 => have h1 := HX.out.2.1; rw [HO.out.1] at h1; first | omega | (simp; omega)
              case c8 => have h1 := HL.out.1.lt; first | omega | (simp; omega)
              go_roundw
              case rel =>
                have h9 := HB.out.row
                rw [List.length_append, List.length_singleton] at h9
                refine ⟨k + 1, by omega, by go_num, by rw [HS.out], ?_, ?_, ?_⟩
                · rw [HS.out]; exact h9
                · exact (HL.out.1.next (Fp.alloc (fun _ => False) _ _) (fun h => h)).next HB.out.foot (fun h => by have := (World.ownsRow.lt HA.out.row _ h).1; omega)
                · exact ((HR.out.2.2.trans' ((Fp.alloc _ _ _).trans' (Fp.alloc _ _ _))).trans HA.out.foot (fun _ h => h) (fun j hj h => by have := (HX.out.2.2.2 j h).1; omega)).trans ((Fp.alloc (fun _ => False) _ _).trans HB.out.foot (fun _ h => h.elim) (fun _ _ h => h)) (fun _ h => h) (fun j hj h => by have := (World.ownsRow.lt HA.out.row j h).1; omega)
              case measure => simp [intOf]; omega
            · skip
              have HS : Hid (laid x l (k + 1) = (out ++ [y], false)) := by rw [HX.out.1, show laid x l k = (out, false) from Prod.ext HO.out.1 HO.out.2]; exact Silo.step_y (fun h => et h.2) (by omega)
              have f2 : (x.s != y.s) = false := by simpa using es
              have f3 : (x.s == y.s) = true := by simpa using es
              have f4 : ¬ x.s < y.s := by omega
              have f1 : (x.t != y.t) = true := by simpa using et
              clear es et

              go_wp2_with (at_builtin; refine wpList_append_smp rfl _ _ rfl (w.heap.size + 1) u5 out y rfl ?c1 _ rfl ?c2 ?c3 ?c4 ?_; rotate_left 4; intro g1 cap1 w2 HA)
              case c1 => exact Fp.ownsRow ((Fp.alloc (fun _ => False) _ _).trans' (Fp.alloc _ _ _)) (HO.out.1 ▸ HR.out.1) (fun _ _ h => h)
              case c2 => first | exact src_new _ _ _ _ (by simp) | exact src_new _ _ _ _ rfl | (intro j u hj; exact hj)
              case c3 => have h1 := HX.out.2.1; rw [HO.out.1] at h1; omega
              case c4 => first | omega | (simp; omega)
              go_roundw
              case rel =>
                refine ⟨k + 1, by omega, by go_num, by rw [HS.out], ?_, ?_, ?_⟩
                · rw [HS.out]; exact HA.out.row
                · exact ((HR.out.2.1.next (Fp.alloc (fun _ => False) _ _) (fun h => h)).next (Fp.alloc (fun _ => False) _ _) (fun h => h)).next HA.out.foot (fun h => by have := (HX.out.2.2.2 _ h).1; omega)
                · exact (HR.out.2.2.trans' ((Fp.alloc _ _ _).trans' (Fp.alloc _ _ _))).trans HA.out.foot (fun _ h => h) (fun j hj h => by have := (HX.out.2.2.2 j h).1; omega)
              case measure => simp [intOf]; omega
        · by_cases el : x.s < y.s
          · skip
            have HS : Hid (laid x l (k + 1) = (out ++ [x] ++ [y], true)) := by rw [HX.out.1, show laid x l k = (out, false) from Prod.ext HO.out.1 HO.out.2]; exact Silo.step_xy (fun h => es h.1) (.inl el)
            have f2 : (x.s != y.s) = true := by simpa using es
            have f3 : (x.s == y.s) = false := by simpa using es
            clear es

            go_wp2_with (first | (at_builtin; refine wpList_append_smp rfl _ _ rfl (w.heap.size + 1) u5 out x rfl ?c1 _ rfl ?c2 ?c3 ?c4 ?_; rotate_left 4; intro g1 cap1 w2 HA; have hx9 : ¬ (u5.ownBlock = some w.heap.size) := (fun h => by have := (HX.out.2.2.2 _ h).1; omega); have hy9 : ¬ (u5.ownBlock = some wr.heap.size) := (fun h => by have := (HX.out.2.2.2 _ h).2; omega); have lx := ((HR.out.2.1.next (Fp.alloc (fun _ => False) _ _) (fun h => h)).next (Fp.alloc (fun _ => False) _ _) (fun h => h)).next HA.out.foot hx9; have ly := ((Lies.new wr y 42).next (Fp.alloc (fun _ => False) _ _) (fun h => h)).next HA.out.foot hy9; have z0 := lx.c0; have z1 := lx.c1; have y0 := ly.c0; have y1 := ly.c1; have y2 := ly.c2; have HL : Hid _ := And.intro lx ly; clear lx ly hx9 hy9) | (at_builtin; refine wpList_append_smp rfl _ _ rfl (w.heap.size + 1) (.slice (some ⟨g1, 0, none⟩) (out.length + 1) cap1) (out ++ [x]) y rfl ?c5 _ rfl ?c6 ?c7 ?c8 ?_; rotate_left 4; intro g2 cap2 w3 HB))
            case c1 => exact Fp.ownsRow ((Fp.alloc (fun _ => False) _ _).trans' (Fp.alloc _ _ _)) (HO.out.1 ▸ HR.out.1) (fun _ _ h => h)
            case c2 => first | exact src_new _ _ _ _ (by simp) | exact src_new _ _ _ _ rfl | (intro j u hj; exact hj)
            case c3 => have h1 := HX.out.2.1; rw [HO.out.1] at h1; omega
            case c4 => first | omega | (simp; omega)
            case c5 => exact Fp.ownsRow (Fp.alloc (fun _ => False) _ _) HA.out.row (fun _ _ h => h)
            case c6 => first | exact src_new _ _ _ _ rfl | (intro j u hj; exact hj)
            case c7 => have h1 := HX.out.2.1; rw [HO.out.1] at h1; first | omega | (simp; omega)
            case c8 => have h1 := HL.out.1.lt; first | omega | (simp; omega)
            go_roundw
            case rel =>
              have h9 := HB.out.row
              rw [List.length_append, List.length_singleton] at h9
              refine ⟨k + 1, by omega, by go_num, by rw [HS.out], ?_, ?_, ?_⟩
              · rw [HS.out]; exact h9
              · exact (HL.out.1.next (Fp.alloc (fun _ => False) _ _) (fun h => h)).next HB.out.foot (fun h => by have := (World.ownsRow.lt HA.out.row _ h).1; omega)
              · exact ((HR.out.2.2.trans' ((Fp.alloc _ _ _).trans' (Fp.alloc _ _ _))).trans HA.out.foot (fun _ h => h) (fun j hj h => by have := (HX.out.2.2.2 j h).1; omega)).trans ((Fp.alloc (fun _ => False) _ _).trans HB.out.foot (fun _ h => h.elim) (fun _ _ h => h)) (fun _ h => h) (fun j hj h => by have := (World.ownsRow.lt HA.out.row j h).1; omega)
            case measure => simp [intOf]; omega
          · skip
            have HS : Hid (laid x l (k + 1) = (out ++ [y], false)) := by rw [HX.out.1, show laid x l k = (out, false) from Prod.ext HO.out.1 HO.out.2]; exact Silo.step_y (fun h => es h.1) (by omega)
            have f2 : (x.s != y.s) = true := by simpa using es
            have f3 : (x.s == y.s) = false := by simpa using es
            clear es

            go_wp2_with (at_builtin; refine wpList_append_smp rfl _ _ rfl (w.heap.size + 1) u5 out y rfl ?c1 _ rfl ?c2 ?c3 ?c4 ?_; rotate_left 4; intro g1 cap1 w2 HA)
            case c1 => exact Fp.ownsRow ((Fp.alloc (fun _ => False) _ _).trans' (Fp.alloc _ _ _)) (HO.out.1 ▸ HR.out.1) (fun _ _ h => h)
            case c2 => first | exact src_new _ _ _ _ (by simp) | exact src_new _ _ _ _ rfl | (intro j u hj; exact hj)
            case c3 => have h1 := HX.out.2.1; rw [HO.out.1] at h1; omega
            case c4 => first | omega | (simp; omega)
            go_roundw
            case rel =>
              refine ⟨k + 1, by omega, by go_num, by rw [HS.out], ?_, ?_, ?_⟩
              · rw [HS.out]; exact HA.out.row
              · exact ((HR.out.2.1.next (Fp.alloc (fun _ => False) _ _) (fun h => h)).next (Fp.alloc (fun _ => False) _ _) (fun h => h)).next HA.out.foot (fun h => by have := (HX.out.2.2.2 _ h).1; omega)
              · exact (HR.out.2.2.trans' ((Fp.alloc _ _ _).trans' (Fp.alloc _ _ _))).trans HA.out.foot (fun _ h => h) (fun j hj h => by have := (HX.out.2.2.2 j h).1; omega)
            case measure => simp [intOf]; omega
    · obtain rfl : k = l.length := by omega
      have hr : Silo.layR l x = if (laid x l l.length).2 then (laid x l l.length).1 else (laid x l l.length).1 ++ [x] := by unfold laid Silo.layR; rw [List.take_length]
      have hll := laid_len x l l.length
      have hwr : w.heap.size < wr.heap.size := HR.out.2.1.lt
      have x0 := HR.out.2.1.c0
      have x1 := HR.out.2.1.c1
      have x2 := HR.out.2.1.c2
      obtain ⟨out, hout⟩ : ∃ out, (laid x l l.length).1 = out := ⟨_, rfl⟩
      obtain ⟨put, hput⟩ : ∃ put, (laid x l l.length).2 = put := ⟨_, rfl⟩
      have h1 := HR.out.1
      rw [hout] at h1 hll hr
      rw [hput] at hr ⊢
      have HO : Hid _ := And.intro hr (And.intro hll (And.intro h1 HR.out.2))
      clear hout hput hr hll h1 HR hlt hk
      cases put with
      | true =>
        go_wp2
        go_ret
        refine ⟨u5, ret_val (by simp), ?_, HO.out.2.2.2.2⟩
        rw [HO.out.1]
        exact ownsRow_base HO.out.2.2.1 (by omega)
      | false =>
        go_wp2_with (at_builtin; refine wpList_append_smp rfl _ _ rfl (w.heap.size + 1) u5 out x rfl ?c1 _ rfl ?c2 ?c3 ?c4 ?_; rotate_left 4; intro g1 cap1 w2 HA)
        case c1 => exact Fp.ownsRow (Fp.alloc (fun _ => False) _ _) HO.out.2.2.1 (fun _ _ h => h)
        case c2 => exact src_new _ _ _ _ rfl
        case c3 => have h1 := HO.out.2.1; omega
        case c4 => first | omega | (simp; omega)
        go_ret
        refine ⟨_, ret_val (by simp; rfl), ?_, ?_⟩
        · rw [HO.out.1]
          exact ownsRow_base HA.out.row (by omega)
        · exact (HO.out.2.2.2.2.trans' (Fp.alloc _ _ _)).trans HA.out.foot (fun _ h => h) (fun j hj h => by have := (World.ownsRow.lt HO.out.2.2.1 j h).1; omega)

end Go.Proofs.Yteoboonapcjadaa
