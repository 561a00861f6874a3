/- appendSeries: what it leans on; the midst of one statement, in whatever order. -/
import Derived.Test.YtojjkjfcbfoinaaSetRead
import Derived.Test.YtojjkjfcbfoinaaAppend
import Derived.Test.YtojjkjfcbfoinaaRdSamples
import Derived.Test.YtojjkjfcbfoinaaLeaf
import Derived.Test.YtojjkjfcbfoinaaAnyInv
import Derived.Stop.RegionWithIn
namespace Go.Proofs.Ytojjkjfcbfoinaa
open Go.RowKit Go.Shelf

theorem timeCodeN_eq (t a : Int) (f : Bool) : timeCodeN t a f = Silo.tcode t a f := rfl

theorem Append_own (base g cap : Nat) (l : List UInt8) (n : Nat) (w : World) (hn : n < Silo.M64) (hown : World.bytesAt w base (.slice (some ⟨g, 0, none⟩) l.length cap) l) (hl : l.length ≤ 1099511627776) (hb : base ≤ w.heap.size) :
    Calls Try.prog 35 #[.slice (some ⟨g, 0, none⟩) l.length cap, .int .u64 n] w fun e w' => ∃ g' cap', e = .returned (.slice (some ⟨g', 0, none⟩) (l ++ Silo.leb n).length cap') ∧
      Hid (World.bytesAt w' base (.slice (some ⟨g', 0, none⟩) (l ++ Silo.leb n).length cap') (l ++ Silo.leb n) ∧ Fp (fun k => k = g) w w' ∧ (g' = g ∨ w.heap.size ≤ g') ∧ g' < w'.heap.size) := by
  refine (Append_any base _ l n w hn (.inl hown) hl hb).mono ?_
  rintro e w' ⟨g', cap', rfl, h1, h2, h3, h4⟩
  refine ⟨g', cap', rfl, h1, h2.mono (fun k _ e => by simpa [Value.ownBlock] using e.symm), h3.imp (fun e => by simpa [Value.ownBlock, eq_comm] using e) id, h4⟩

/-- The last of the points, or the zero one. -/
def lastPt (pre : List Silo.Pt) : Silo.Pt := pre.getLast?.getD ⟨0, 0⟩

theorem lastPt_snoc (pre : List Silo.Pt) (p : Silo.Pt) : lastPt (pre ++ [p]) = p := by simp [lastPt]

theorem encPts_snoc : ∀ (pre : List Silo.Pt) (t : Int) (v : Nat) (f : Bool) (p : Silo.Pt),
    Silo.encPts t v f (pre ++ [p]) = Silo.encPts t v f pre ++ Silo.leb (Silo.tcode p.t (pre.getLast?.getD ⟨t, v⟩).t (f && pre.isEmpty)) ++ Silo.leb (p.v ^^^ (pre.getLast?.getD ⟨t, v⟩).v) := by
  intro pre
  induction pre with
  | nil => intro t v f p; simp [Silo.encPts]
  | cons q pre ih =>
    intro t v f p
    rw [List.cons_append, Silo.encPts, ih, Silo.encPts]
    have e : ((q :: pre).getLast?.getD ⟨t, v⟩) = pre.getLast?.getD ⟨q.t, q.v⟩ := by
      cases pre with
      | nil => rfl
      | cons r pre => simp [List.getLast?_cons]
    rw [e]
    simp

theorem encPts_snoc0 (pre : List Silo.Pt) (p : Silo.Pt) :
    Silo.encPts 0 0 true (pre ++ [p]) = Silo.encPts 0 0 true pre ++ Silo.leb (Silo.tcode p.t (lastPt pre).t pre.isEmpty) ++ Silo.leb (p.v ^^^ (lastPt pre).v) := by
  rw [encPts_snoc]; simp [lastPt]

/-- What the loop keeps: the bytes so far, the point ahead, whether there is none. -/
def AInv (base fb ab ib : Nat) (l1 : List UInt8) (B : Nat → Prop) (pre : List Silo.Pt) (W : World) : Prop :=
  ∃ g cap, W.heap[fb]? = some (.cells #[.slice (some ⟨g, 0, none⟩) (l1 ++ Silo.encPts 0 0 true pre).length cap] 84 (0, 0)) ∧
    World.bytesAt W base (.slice (some ⟨g, 0, none⟩) (l1 ++ Silo.encPts 0 0 true pre).length cap) (l1 ++ Silo.encPts 0 0 true pre) ∧
    W.heap[ab]? = some (.cells #[.int .i64 (lastPt pre).t, .int .u64 ((lastPt pre).v : Nat)] 80 (0, 0)) ∧
    W.heap[ib]? = some (.cells #[.bool pre.isEmpty] 4 (0, 0)) ∧ (∀ k, B k ↔ k = fb ∨ k = ab ∨ k = ib ∨ k = g)

theorem AInv_stable (base fb ab ib : Nat) (l1 : List UInt8) : Stable (AInv base fb ab ib l1) := by
  rintro B pre A A' ⟨g, cap, h1, h2, h3, h4, hB⟩ hlt hf
  refine ⟨g, cap, (hf.block _ (heap_lt h1) (fun h => h ((hB _).2 (.inl rfl)))).trans h1, Fp.ownsRow hf h2 (fun k hk h => h ((hB k).2 (.inr (.inr (.inr ?_))))), (hf.block _ (heap_lt h3) (fun h => h ((hB _).2 (.inr (.inl rfl))))).trans h3,
    (hf.block _ (heap_lt h4) (fun h => h ((hB _).2 (.inr (.inr (.inl rfl)))))).trans h4, hB⟩
  simpa [Value.ownBlock, eq_comm] using hk

/-- A row of bytes is no block of another kind. -/
theorem bytes_ne {W : World} {base g n cap k : Nat} {l : List UInt8} {c : Array Value} {t : TypeId} {f : Nat × Nat} (h : World.bytesAt W base (.slice (some ⟨g, 0, none⟩) n cap) l) (hk : W.heap[k]? = some (.cells c t f)) (ht : t ≠ 5) : g ≠ k := by
  rintro rfl
  rcases h.2 with ⟨h1, _⟩ | ⟨g', cap', cur, h3, _, h5, _⟩
  · cases h1
  · simp only [Value.slice.injEq, Option.some.injEq, Addr.mk.injEq] at h3
    obtain ⟨⟨rfl, _⟩, _⟩ := h3
    rw [hk] at h5
    simp only [Option.some.injEq, Obj.cells.injEq] at h5
    exact ht h5.2.1

theorem pts_ne {W : World} {base base' g n cap k : Nat} {l : List UInt8} {v : Value} {ps : List Silo.Pt} (h : World.bytesAt W base (.slice (some ⟨g, 0, none⟩) n cap) l) (hp : World.ptsAt W base' v ps) (hk : v.ownBlock = some k) : g ≠ k := by
  rcases hp.2 with ⟨h1, _⟩ | ⟨g', cap', cur, h3, _, h5, _⟩
  · rw [h1] at hk; cases hk
  · rw [h3] at hk
    simp only [Value.ownBlock, Option.some.injEq] at hk
    subst hk
    exact bytes_ne h h5 (by decide)

theorem LineAt.grow {w w' : World} {base tb k g n cap : Nat} {v : Value} {ps : List Silo.Pt} {l : List UInt8} (h : LineAt w base tb k v ps) (hg : World.bytesAt w base (.slice (some ⟨g, 0, none⟩) n cap) l) (hf : Fp (fun k => k = g) w w') : LineAt w' base tb k v ps := by
  obtain ⟨cs, ty, h1, h2, h3, h4, h5⟩ := h
  exact LineAt.fp ⟨cs, ty, h1, h2, h3, h4, h5⟩ hf (fun e => bytes_ne hg h1 h2.1 e.symm) (fun j hj e => pts_ne hg h4 hj e.symm)

theorem pts_box_ne {W : World} {base k j : Nat} {v : Value} {ps : List Silo.Pt} {c : Array Value} {t : TypeId} {f : Nat × Nat} (hp : World.ptsAt W base v ps) (hv : v.ownBlock = some j) (hk : W.heap[k]? = some (.cells c t f)) (ht : t ≠ 80) : j ≠ k := by
  rcases hp.2 with ⟨h1, _⟩ | ⟨g', cap', cur, h3, _, h5, _⟩
  · rw [h1] at hv; cases hv
  · rw [h3] at hv
    simp only [Value.ownBlock, Option.some.injEq] at hv
    subst hv
    rintro rfl
    rw [hk] at h5
    simp only [Option.some.injEq, Obj.cells.injEq] at h5
    exact ht h5.2.1

theorem bytesAt_drew {w : World} {base : Nat} {v : Value} {l : List UInt8} (h : World.bytesAt w base v l) : World.bytesAt w.drew base v l := Fp.ownsRow (Fp.drew (fun _ => False) w) h (fun _ _ h => h)

/-- The ways through a piece meet again. -/
theorem wpIn_cut {F : Fence} {n : Nat} {P : Program} {c : Code} (M : Act → World → Prop) {K : Act → World → Prop} {Q : Exit → Act → World → Prop} {a : Act} {w : World} (h : c.wpIn F n P (Exit.then M (fun _ _ _ => False)) a w) (hM : ∀ a w, M a w → K a w) : c.wpIn F n P (Exit.then K Q) a w :=
  wpIn_mono h (fun e a w hq => by cases e <;> first | exact hM _ _ hq | exact hq.elim)

theorem wpIn_cutQ {F : Fence} {n : Nat} {P : Program} {c : Code} (M : Act → World → Prop) {Q : Exit → Act → World → Prop} {a : Act} {w : World} (h : c.wpIn F n P (Exit.then M (fun _ _ _ => False)) a w) (hM : ∀ a w, M a w → Q .normal a w) : c.wpIn F n P Q a w :=
  wpIn_mono h (fun e a w hq => by cases e <;> first | exact hM _ _ hq | exact hq.elim)

/-- A new slice is stored into its box: all that matters behind it. -/
theorem box_step {w1 : World} {base fb g1 cap1 : Nat} {l1 : List UInt8} {u : Value} (hfb : w1.heap[fb]? = some (.cells #[u] 84 (0, 0))) (hown : World.bytesAt w1 base (.slice (some ⟨g1, 0, none⟩) l1.length cap1) l1) :
    ∃ w2, w1.setCell ⟨fb, 0, none⟩ (.slice (some ⟨g1, 0, none⟩) l1.length cap1) = w2 ∧ w2.heap[fb]? = some (.cells #[.slice (some ⟨g1, 0, none⟩) l1.length cap1] 84 (0, 0)) ∧
      World.bytesAt w2 base (.slice (some ⟨g1, 0, none⟩) l1.length cap1) l1 ∧ Fp (fun k => k = fb) w1 w2 ∧ w2.heap.size = w1.heap.size := by
  have hf : Fp (fun k => k = fb) w1 (w1.setCell ⟨fb, 0, none⟩ (.slice (some ⟨g1, 0, none⟩) l1.length cap1)) := Fp.setCell (S := fun k => k = fb) _ _ _ rfl
  refine ⟨_, rfl, heap_set hfb _, Fp.ownsRow hf hown (fun k hk e => ?_), hf, by simp [World.setCell]⟩
  simp only [Value.ownBlock, Option.some.injEq] at hk
  exact bytes_ne hown hfb (by decide) (hk.trans e)

theorem afb {w2 w3 : World} {base fb g1 n cap1 : Nat} {l1 : List UInt8} {u : Value} (hfb : w2.heap[fb]? = some (.cells #[u] 84 (0, 0))) (hown : World.bytesAt w2 base (.slice (some ⟨g1, 0, none⟩) n cap1) l1)
    (hf : Fp (fun k => k = g1) w2.drew w3) : w3.heap[fb]? = some (.cells #[u] 84 (0, 0)) :=
  (hf.block fb (heap_lt hfb) (fun e => bytes_ne hown hfb (by decide) e.symm)).trans hfb

theorem good_mem : ∀ (ps : List Silo.Pt) (t : Int) (f : Bool), Silo.goodPts t f ps → ∀ p ∈ ps, Silo.isInt p.t ∧ p.v < Silo.M64 := by
  intro ps
  induction ps with
  | nil => intro t f _ p hp; cases hp
  | cons q ps ih =>
    rintro t f ⟨h1, h2, _, h4⟩ p hp
    rcases List.mem_cons.1 hp with rfl | hp
    · exact ⟨h1, h2⟩
    · exact ih _ _ h4 p hp

theorem good_pre {ps pre : List Silo.Pt} {x : Silo.Pt} (hg : Silo.goodPts 0 true ps) (hp : (pre ++ [x]) <+: ps) : Silo.isInt x.t ∧ x.v < Silo.M64 ∧ Silo.isInt (lastPt pre).t ∧ (lastPt pre).v < Silo.M64 := by
  have hm := good_mem ps 0 true hg
  have hx := hm x (hp.subset (by simp))
  refine ⟨hx.1, hx.2, ?_⟩
  unfold lastPt
  cases hl : pre.getLast? with
  | none => exact ⟨by unfold Silo.isInt; simp, Silo.M64_pos⟩
  | some q => exact hm q (hp.subset (List.mem_append_left _ (List.mem_of_getLast? hl)))

theorem good_pre' {ps pre : List Silo.Pt} {x : Silo.Pt} (hg : Silo.goodPts 0 true ps) (hp : (pre ++ [x]) <+: ps) : ∀ p ∈ pre, Silo.isInt p.t ∧ p.v < Silo.M64 :=
  fun p h => good_mem ps 0 true hg p (hp.subset (List.mem_append_left _ h))

theorem encPts_max : ∀ (ps : List Silo.Pt) (t : Int) (v : Nat) (f : Bool), Silo.isInt t → v < Silo.M64 → (∀ p ∈ ps, Silo.isInt p.t ∧ p.v < Silo.M64) → (Silo.encPts t v f ps).length ≤ 20 * ps.length := by
  intro ps
  induction ps with
  | nil => intros; simp [Silo.encPts]
  | cons p ps ih =>
    intro t v f ht hv hall
    have hp := hall p List.mem_cons_self
    have h1 := Silo.leb_len _ (Silo.tcode_lt p.t t f hp.1)
    have h2 := Silo.leb_len _ (Silo.xor_lt p.v v hp.2 hv)
    have h3 := ih p.t p.v false hp.1 hp.2 (fun q hq => hall q (List.mem_cons_of_mem _ hq))
    simp only [Silo.encPts, List.length_append, List.length_cons]
    omega

/-- What Append leaves. -/
def Fact7 (base fb gc : Nat) (lc : List UInt8) (capc : Nat) (l7 : List UInt8) (Wc w7 : World) (g7 cap7 : Nat) : Prop :=
  (World.bytesAt w7 base (.slice (some ⟨g7, 0, none⟩) l7.length cap7) l7 ∧ Fp (fun k => k = gc) Wc.drew w7 ∧ (g7 = gc ∨ Wc.drew.heap.size ≤ g7) ∧ g7 < w7.heap.size) ∧ w7.heap[fb]? = some (.cells #[.slice (some ⟨gc, 0, none⟩) lc.length capc] 84 (0, 0))

/-- What holds in the midst of 'file = codes.Append(file, timeCode(..))', in whatever order. -/
structure R7 (base fb gc : Nat) (lc : List UInt8) (capc : Nat) (l7 : List UInt8) (Wc : World) (xb ab : Nat) (xt lt : Int) (em : Bool) (cd : Nat) (listed : Array Bool) (u25 u26 u27 u28 u29 u30 u31 u32 : Value) (w' : World) : Prop where
  e0 : done listed 0 = true → u25 = .slice (some ⟨gc, 0, none⟩) lc.length capc
  e1 : done listed 1 = true → u26 = .pointer (some ⟨xb, 0, none⟩)
  e2 : done listed 2 = true → u27 = .int .i64 xt
  e3 : done listed 3 = true → u28 = .pointer (some ⟨ab, 0, none⟩)
  e4 : done listed 4 = true → u29 = .int .i64 lt
  e5 : done listed 5 = true → u30 = .bool em
  e6 : done listed 6 = true → u31 = .int .u64 (cd : Nat)
  nw : done listed 7 = false → w' = Wc.drew
  e7 : done listed 7 = true → ∃ w7 g7 cap7, u32 = .slice (some ⟨g7, 0, none⟩) l7.length cap7 ∧ (World.bytesAt w7 base (.slice (some ⟨g7, 0, none⟩) l7.length cap7) l7 ∧ Fp (fun k => k = gc) Wc.drew w7 ∧ (g7 = gc ∨ Wc.drew.heap.size ≤ g7) ∧ g7 < w7.heap.size) ∧
    w7.heap[fb]? = some (.cells #[.slice (some ⟨gc, 0, none⟩) lc.length capc] 84 (0, 0)) ∧ (done listed 8 = false → w' = w7) ∧ (done listed 8 = true → w' = w7.setCell ⟨fb, 0, none⟩ (.slice (some ⟨g7, 0, none⟩) l7.length cap7))

section
variable {base fb gc : Nat} {lc : List UInt8} {capc : Nat} {l7 : List UInt8} {Wc : World} {xb ab : Nat} {xt lt : Int} {em : Bool} {cd : Nat} {listed : Array Bool} {u25 u26 u27 u28 u29 u30 u31 u32 : Value} {w' : World}

theorem done_rep (n i : Nat) : done (Array.replicate n false) i = false := by
  unfold done
  simp only [Array.getD_eq_getD_getElem?, Array.getElem?_replicate]
  split <;> simp

theorem R7.start {k : Nat} : R7 base fb gc lc capc l7 Wc xb ab xt lt em cd (Array.replicate k false) u25 u26 u27 u28 u29 u30 u31 u32 Wc.drew := by
  constructor <;> intro h <;> first | rfl | (rw [done_rep] at h; cases h)

theorem R7.s0 (h : R7 base fb gc lc capc l7 Wc xb ab xt lt em cd listed u25 u26 u27 u28 u29 u30 u31 u32 w') (h7 : done listed 7 = false) : R7 base fb gc lc capc l7 Wc xb ab xt lt em cd (listed.setIfInBounds 0 true) (.slice (some ⟨gc, 0, none⟩) lc.length capc) u26 u27 u28 u29 u30 u31 u32 Wc.drew :=
  ⟨fun _ => rfl, fun d => h.e1 (done_of_set d (by decide)), fun d => h.e2 (done_of_set d (by decide)), fun d => h.e3 (done_of_set d (by decide)), fun d => h.e4 (done_of_set d (by decide)), fun d => h.e5 (done_of_set d (by decide)), fun d => h.e6 (done_of_set d (by decide)), fun _ => rfl, fun d => absurd (done_of_set d (by decide)) (by rw [h7]; decide)⟩

theorem R7.s1 (h : R7 base fb gc lc capc l7 Wc xb ab xt lt em cd listed u25 u26 u27 u28 u29 u30 u31 u32 w') (h7 : done listed 7 = false) : R7 base fb gc lc capc l7 Wc xb ab xt lt em cd (listed.setIfInBounds 1 true) u25 (.pointer (some ⟨xb, 0, none⟩)) u27 u28 u29 u30 u31 u32 Wc.drew :=
  ⟨fun d => h.e0 (done_of_set d (by decide)), fun _ => rfl, fun d => h.e2 (done_of_set d (by decide)), fun d => h.e3 (done_of_set d (by decide)), fun d => h.e4 (done_of_set d (by decide)), fun d => h.e5 (done_of_set d (by decide)), fun d => h.e6 (done_of_set d (by decide)), fun _ => rfl, fun d => absurd (done_of_set d (by decide)) (by rw [h7]; decide)⟩

theorem R7.s2 (h : R7 base fb gc lc capc l7 Wc xb ab xt lt em cd listed u25 u26 u27 u28 u29 u30 u31 u32 w') (h7 : done listed 7 = false) : R7 base fb gc lc capc l7 Wc xb ab xt lt em cd (listed.setIfInBounds 2 true) u25 u26 (.int .i64 xt) u28 u29 u30 u31 u32 Wc.drew :=
  ⟨fun d => h.e0 (done_of_set d (by decide)), fun d => h.e1 (done_of_set d (by decide)), fun _ => rfl, fun d => h.e3 (done_of_set d (by decide)), fun d => h.e4 (done_of_set d (by decide)), fun d => h.e5 (done_of_set d (by decide)), fun d => h.e6 (done_of_set d (by decide)), fun _ => rfl, fun d => absurd (done_of_set d (by decide)) (by rw [h7]; decide)⟩

theorem R7.s3 (h : R7 base fb gc lc capc l7 Wc xb ab xt lt em cd listed u25 u26 u27 u28 u29 u30 u31 u32 w') (h7 : done listed 7 = false) : R7 base fb gc lc capc l7 Wc xb ab xt lt em cd (listed.setIfInBounds 3 true) u25 u26 u27 (.pointer (some ⟨ab, 0, none⟩)) u29 u30 u31 u32 Wc.drew :=
  ⟨fun d => h.e0 (done_of_set d (by decide)), fun d => h.e1 (done_of_set d (by decide)), fun d => h.e2 (done_of_set d (by decide)), fun _ => rfl, fun d => h.e4 (done_of_set d (by decide)), fun d => h.e5 (done_of_set d (by decide)), fun d => h.e6 (done_of_set d (by decide)), fun _ => rfl, fun d => absurd (done_of_set d (by decide)) (by rw [h7]; decide)⟩

theorem R7.s4 (h : R7 base fb gc lc capc l7 Wc xb ab xt lt em cd listed u25 u26 u27 u28 u29 u30 u31 u32 w') (h7 : done listed 7 = false) : R7 base fb gc lc capc l7 Wc xb ab xt lt em cd (listed.setIfInBounds 4 true) u25 u26 u27 u28 (.int .i64 lt) u30 u31 u32 Wc.drew :=
  ⟨fun d => h.e0 (done_of_set d (by decide)), fun d => h.e1 (done_of_set d (by decide)), fun d => h.e2 (done_of_set d (by decide)), fun d => h.e3 (done_of_set d (by decide)), fun _ => rfl, fun d => h.e5 (done_of_set d (by decide)), fun d => h.e6 (done_of_set d (by decide)), fun _ => rfl, fun d => absurd (done_of_set d (by decide)) (by rw [h7]; decide)⟩

theorem R7.s5 (h : R7 base fb gc lc capc l7 Wc xb ab xt lt em cd listed u25 u26 u27 u28 u29 u30 u31 u32 w') (h7 : done listed 7 = false) : R7 base fb gc lc capc l7 Wc xb ab xt lt em cd (listed.setIfInBounds 5 true) u25 u26 u27 u28 u29 (.bool em) u31 u32 Wc.drew :=
  ⟨fun d => h.e0 (done_of_set d (by decide)), fun d => h.e1 (done_of_set d (by decide)), fun d => h.e2 (done_of_set d (by decide)), fun d => h.e3 (done_of_set d (by decide)), fun d => h.e4 (done_of_set d (by decide)), fun _ => rfl, fun d => h.e6 (done_of_set d (by decide)), fun _ => rfl, fun d => absurd (done_of_set d (by decide)) (by rw [h7]; decide)⟩

theorem R7.s6 (h : R7 base fb gc lc capc l7 Wc xb ab xt lt em cd listed u25 u26 u27 u28 u29 u30 u31 u32 w') (h7 : done listed 7 = false) : R7 base fb gc lc capc l7 Wc xb ab xt lt em cd (listed.setIfInBounds 6 true) u25 u26 u27 u28 u29 u30 (.int .u64 (cd : Nat)) u32 Wc.drew :=
  ⟨fun d => h.e0 (done_of_set d (by decide)), fun d => h.e1 (done_of_set d (by decide)), fun d => h.e2 (done_of_set d (by decide)), fun d => h.e3 (done_of_set d (by decide)), fun d => h.e4 (done_of_set d (by decide)), fun d => h.e5 (done_of_set d (by decide)), fun _ => rfl, fun _ => rfl, fun d => absurd (done_of_set d (by decide)) (by rw [h7]; decide)⟩

theorem R7.call {w7 : World} {g7 cap7 : Nat} (h : R7 base fb gc lc capc l7 Wc xb ab xt lt em cd listed u25 u26 u27 u28 u29 u30 u31 u32 w') (hi : 7 < listed.size) (h8 : done listed 8 = false) (hF : (World.bytesAt w7 base (.slice (some ⟨g7, 0, none⟩) l7.length cap7) l7 ∧ Fp (fun k => k = gc) Wc.drew w7 ∧ (g7 = gc ∨ Wc.drew.heap.size ≤ g7) ∧ g7 < w7.heap.size)) (hfb : w7.heap[fb]? = some (.cells #[.slice (some ⟨gc, 0, none⟩) lc.length capc] 84 (0, 0))) : R7 base fb gc lc capc l7 Wc xb ab xt lt em cd (listed.setIfInBounds 7 true) u25 u26 u27 u28 u29 u30 u31 (.slice (some ⟨g7, 0, none⟩) l7.length cap7) w7 :=
  ⟨fun d => h.e0 (done_of_set d (by decide)), fun d => h.e1 (done_of_set d (by decide)), fun d => h.e2 (done_of_set d (by decide)), fun d => h.e3 (done_of_set d (by decide)), fun d => h.e4 (done_of_set d (by decide)), fun d => h.e5 (done_of_set d (by decide)), fun d => h.e6 (done_of_set d (by decide)), fun d => absurd d (by rw [done_set_same hi]; decide), fun _ => ⟨w7, g7, cap7, rfl, hF, hfb, fun _ => rfl, fun d => absurd (done_of_set d (by decide)) (by rw [h8]; decide)⟩⟩

theorem R7.stored {w7 : World} {g7 cap7 : Nat} (h : R7 base fb gc lc capc l7 Wc xb ab xt lt em cd listed u25 u26 u27 u28 u29 u30 u31 (.slice (some ⟨g7, 0, none⟩) l7.length cap7) w') (hi : 8 < listed.size) (h7 : done listed 7 = true) (hF : (World.bytesAt w7 base (.slice (some ⟨g7, 0, none⟩) l7.length cap7) l7 ∧ Fp (fun k => k = gc) Wc.drew w7 ∧ (g7 = gc ∨ Wc.drew.heap.size ≤ g7) ∧ g7 < w7.heap.size)) (hfb : w7.heap[fb]? = some (.cells #[.slice (some ⟨gc, 0, none⟩) lc.length capc] 84 (0, 0))) : R7 base fb gc lc capc l7 Wc xb ab xt lt em cd (listed.setIfInBounds 8 true) u25 u26 u27 u28 u29 u30 u31 (.slice (some ⟨g7, 0, none⟩) l7.length cap7) (w7.setCell ⟨fb, 0, none⟩ (.slice (some ⟨g7, 0, none⟩) l7.length cap7)) :=
  ⟨fun d => h.e0 (done_of_set d (by decide)), fun d => h.e1 (done_of_set d (by decide)), fun d => h.e2 (done_of_set d (by decide)), fun d => h.e3 (done_of_set d (by decide)), fun d => h.e4 (done_of_set d (by decide)), fun d => h.e5 (done_of_set d (by decide)), fun d => h.e6 (done_of_set d (by decide)), fun d => absurd (undone_of_set d) (by rw [h7]; decide), fun _ => ⟨w7, g7, cap7, rfl, hF, hfb, fun d => absurd d (by rw [done_set_same hi]; decide), fun _ => rfl⟩⟩

theorem nd {ops : Array Oper} (hcl : closed ops listed) {j : Nat} {o : Oper} (ho : ops[j]? = some o) (e : Edge) (he : e ∈ o.after) (hb : Region.binds .any e = true) (h : done listed e.on = false) : done listed j = false := by
  cases hj : done listed j with
  | false => rfl
  | true => have := hcl j o ho hj e he hb; rw [h] at this; cases this

end

/-- What a round of the loop leaves. -/
theorem around {base fb ab ib gc capc g7 cap7 g9 cap9 sz l' : Nat} {l3 lc l7 l9 : List UInt8} {pre : List Silo.Pt} {x lp : Silo.Pt} {em : Bool} {cd : Nat} {Wc w7 w8 w9 w10 : World} {Bi : Nat → Prop} {o : Obj} {Wq : World}
    (hE : l3 ++ Silo.encPts 0 0 true pre = lc ∧ lastPt pre = lp ∧ pre.isEmpty = em) (hcd : timeCodeN x.t lp.t em = cd) (h7 : lc ++ Silo.leb cd = l7) (h9 : l7 ++ Silo.leb (x.v ^^^ lp.v) = l9)
    (hBi : ∀ k, Bi k ↔ k = fb ∨ k = ab ∨ k = ib ∨ k = gc) (hwq : sz = Wq.heap.size) (hfc : Fp (fun k => k = l') (Wq.alloc o) Wc)
    (hF7 : Fact7 base fb gc lc capc l7 Wc w7 g7 cap7) (hf8 : Fp (fun k => k = gc ∨ k = fb) Wc w8) (hsz8 : w8.heap.size = w7.heap.size) (hf9 : Fp (fun k => k = g7) w8 w9) (hg9 : g9 = g7 ∨ w8.heap.size ≤ g9) (hl9 : g9 < w9.heap.size)
    (h10fb : w10.heap[fb]? = some (.cells #[.slice (some ⟨g9, 0, none⟩) l9.length cap9] 84 (0, 0))) (h10own : World.bytesAt w10 base (.slice (some ⟨g9, 0, none⟩) l9.length cap9) l9) (hf10 : Fp (fun k => k = fb) w9 w10)
    (h10ab : w10.heap[ab]? = some (.cells #[.int .i64 lp.t, .int .u64 (lp.v : Nat)] 80 (0, 0))) (h10ib : w10.heap[ib]? = some (.cells #[.bool em] 4 (0, 0))) (hsz10 : w10.heap.size = w9.heap.size)
    (n1 : fb ≠ ab) (n2 : fb ≠ ib) (n3 : ab ≠ ib) :
    ∃ B', AInv base fb ab ib l3 B' (pre ++ [x]) (((w10.setCell ⟨ab, 0, none⟩ (.int .i64 x.t)).setCell ⟨ab, 1, none⟩ (.int .u64 (x.v : Nat))).setCell ⟨ib, 0, none⟩ (.bool false)) ∧
      Fp (fun k => Bi k ∨ sz ≤ k) Wc (((w10.setCell ⟨ab, 0, none⟩ (.int .i64 x.t)).setCell ⟨ab, 1, none⟩ (.int .u64 (x.v : Nat))).setCell ⟨ib, 0, none⟩ (.bool false)) ∧
      ∀ k, B' k → (Bi k ∨ sz ≤ k) ∧ k < (((w10.setCell ⟨ab, 0, none⟩ (.int .i64 x.t)).setCell ⟨ab, 1, none⟩ (.int .u64 (x.v : Nat))).setCell ⟨ib, 0, none⟩ (.bool false)).heap.size := by
  have f1 : Fp (fun k => k = ab ∨ k = ib) w10 (((w10.setCell ⟨ab, 0, none⟩ (.int .i64 x.t)).setCell ⟨ab, 1, none⟩ (.int .u64 (x.v : Nat))).setCell ⟨ib, 0, none⟩ (.bool false)) :=
    ((Fp.setCell (S := fun k => k = ab ∨ k = ib) w10 ⟨ab, 0, none⟩ _ (.inl rfl)).trans' (Fp.setCell _ _ _ (.inl rfl))).trans' (Fp.setCell _ _ _ (.inr rfl))
  have hb1 : ((w10.setCell ⟨ab, 0, none⟩ (.int .i64 x.t)).setCell ⟨ab, 1, none⟩ (.int .u64 (x.v : Nat))).heap[ab]? = some (.cells #[.int .i64 x.t, .int .u64 (x.v : Nat)] 80 (0, 0)) := heap_set (heap_set h10ab _) _
  have hb2 : ((w10.setCell ⟨ab, 0, none⟩ (.int .i64 x.t)).setCell ⟨ab, 1, none⟩ (.int .u64 (x.v : Nat))).heap[ib]? = some (.cells #[.bool em] 4 (0, 0)) := by
    rw [Below.heap_setCell _ _ _ _ (fun e => n3 e.symm), Below.heap_setCell _ _ _ _ (fun e => n3 e.symm)]; exact h10ib
  have hl : l3 ++ Silo.encPts 0 0 true (pre ++ [x]) = l9 := by
    rw [encPts_snoc0, ← h9, ← h7, ← hE.1, ← hcd, hE.2.1, hE.2.2, timeCodeN_eq]
    simp
  have hga : g9 ≠ ab := bytes_ne h10own h10ab (by decide)
  have hgi : g9 ≠ ib := bytes_ne h10own h10ib (by decide)
  have hs1 := hfc.size
  simp at hs1
  have hs8 := hf8.size
  have hs9 := hf9.size
  have hg7 : g7 = gc ∨ Wc.heap.size ≤ g7 := hF7.1.2.2.1
  refine ⟨fun k => k = fb ∨ k = ab ∨ k = ib ∨ k = g9, ⟨g9, cap9, ?_, ?_, ?_, ?_, fun k => Iff.rfl⟩, ?_, ?_⟩
  · rw [hl]; exact (f1.block fb (heap_lt h10fb) (fun h => h.elim n1 n2)).trans h10fb
  · rw [hl]; exact Fp.ownsRow f1 h10own (fun k hk h => by
      simp only [Value.ownBlock, Option.some.injEq] at hk
      subst hk
      exact h.elim hga hgi)
  · rw [lastPt_snoc, Below.heap_setCell _ _ _ _ n3]; exact hb1
  · have e : (pre ++ [x]).isEmpty = false := by simp
    rw [e]; exact heap_set hb2 _
  · have t1 : Fp (fun k => Bi k ∨ sz ≤ k) Wc w8 := hf8.mono (fun k _ h => h.elim (fun e => .inl ((hBi k).2 (.inr (.inr (.inr e))))) (fun e => .inl ((hBi k).2 (.inl e))))
    have t2 : Fp (fun k => Bi k ∨ sz ≤ k) Wc w9 := t1.trans hf9 (fun _ h => h) (fun k _ e => by
      rcases hg7 with h | h
      · exact .inl ((hBi k).2 (.inr (.inr (.inr (by omega)))))
      · right; omega)
    have t3 : Fp (fun k => Bi k ∨ sz ≤ k) Wc w10 := t2.trans hf10 (fun _ h => h) (fun k _ e => .inl ((hBi k).2 (.inl e)))
    exact t3.trans f1 (fun _ h => h) (fun k _ h => .inl ((hBi k).2 (h.elim (fun e => .inr (.inl e)) (fun e => .inr (.inr (.inl e))))))
  · have hsz11 : (((w10.setCell ⟨ab, 0, none⟩ (.int .i64 x.t)).setCell ⟨ab, 1, none⟩ (.int .u64 (x.v : Nat))).setCell ⟨ib, 0, none⟩ (.bool false)).heap.size = w10.heap.size := by simp [World.setCell]
    rw [hsz11]
    rintro k (rfl | rfl | rfl | rfl)
    · exact ⟨.inl ((hBi _).2 (.inl rfl)), heap_lt h10fb⟩
    · exact ⟨.inl ((hBi _).2 (.inr (.inl rfl))), heap_lt h10ab⟩
    · exact ⟨.inl ((hBi _).2 (.inr (.inr (.inl rfl)))), heap_lt h10ib⟩
    · refine ⟨?_, by omega⟩
      rcases hg9 with h | h
      · rcases hg7 with h' | h'
        · exact .inl ((hBi _).2 (.inr (.inr (.inr (by omega)))))
        · right; omega
      · right; omega

end Go.Proofs.Ytojjkjfcbfoinaa
