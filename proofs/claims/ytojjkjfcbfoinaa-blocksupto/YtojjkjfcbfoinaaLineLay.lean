/- sets.Line.lay: points in order laid on a line. -/
import Derived.Test.YtojjkjfcbfoinaaLayered3
import Derived.Test.YtojjkjfcbfoinaaPlace
import Derived.Test.YtojjkjfcbfoinaaAnyInv2
namespace Go.Proofs.Ytojjkjfcbfoinaa
open Go.RowKit Go.Shelf

theorem SeqFp.less {α : Type} {F : Fence} {n : Nat} {P : Program} {g : Nat} {lb : Array Value} {encs : α → Array Value} {xs : List α} {R R' T : Nat → Prop} {w : World} {E : World → Prop}
    (h : SeqFp F n P g lb encs xs R T w E) (hr : ∀ k, R k → R' k) : SeqFp F n P g lb encs xs R' T w E :=
  fun l J B W hW hB => h l J B W hW (fun k hk => ⟨(hB k hk).1, fun h' => (hB k hk).2 (hr k h')⟩)

theorem layeredCl_any (n : Nat) (hn : 4 ≤ n) (bu bl baseU baseL gu cu NU : Nat) (vl : Value) (us lo : List Silo.Pt) (w : World) (hNU : us.length = NU) (hub : w.heap[bu]? = some (.cells #[.slice (some ⟨gu, 0, none⟩) NU cu] 58 (0, 0)))
    (hlb : w.heap[bl]? = some (.cells #[vl] 58 (0, 0))) (hur : World.ptsAt w baseU (.slice (some ⟨gu, 0, none⟩) NU cu) us) (hlr : World.ptsAt w baseL vl lo) (hlu : NU ≤ 1099511627776) (hll : lo.length ≤ 1099511627776) :
    SeqFp Fence.wide n Try.prog 73 #[.pointer (some ⟨bu, 0, none⟩), .pointer (some ⟨bl, 0, none⟩)] (fun p => #[ptV p]) (Silo.mergeL lo us) (fun k => k = bu ∨ k = bl ∨ k = gu ∨ vl.ownBlock = some k) (fun _ => False) w (fun _ => True) := by
  subst hNU
  rcases hlr.2 with ⟨h1, h2⟩ | ⟨gl, cap, cur, h3, _⟩
  · have : lo = [] := List.length_eq_zero_iff.1 h2
    subst this
    rw [h1] at hlb
    exact (layeredCl_none n hn bu bl baseU gu cu us w hub hlb hur hlu).less (fun k hk => by rcases hk with h | h | h <;> simp [h])
  · rw [h3] at hlb hlr ⊢
    exact (layeredCl_row n hn bu bl baseU baseL gu cu gl cap us lo w ⟨hub, hlb, hur, hlr⟩ hlu hll).less (fun k hk => by rcases hk with h | h | h | h <;> simp [h, Value.ownBlock])

/-- The front of a row. -/
theorem ptsAt_take {w : World} {base g N c f : Nat} {ps : List Silo.Pt} (h : World.ptsAt w base (.slice (some ⟨g, 0, none⟩) N c) ps) (hN : ps.length = N) (hf : f ≤ N) : World.ptsAt w base (.slice (some ⟨g, 0, none⟩) f c) (ps.take f) := by
  have hl : (ps.take f).length = f := by rw [List.length_take]; omega
  rcases h.2 with ⟨h1, _⟩ | ⟨g', cap', cur, h3, hb, hg, hc, hm, hsz, ht⟩
  · cases h1
  · simp only [Value.slice.injEq, Option.some.injEq, Addr.mk.injEq] at h3
    obtain ⟨⟨rfl, _⟩, _, rfl⟩ := h3
    refine ⟨ptCells_length _, .inr ⟨g, c, cur, by rw [hl], hb, hg, by omega, hm, hsz, ?_⟩⟩
    have e : ptCells ps = ptCells (ps.take f) ++ ptCells (ps.drop f) := by rw [← ptCells_append, List.take_append_drop]
    have e2 : cur.toList.take ((ps.take f).length * 2) = (cur.toList.take (ps.length * 2)).take ((ps.take f).length * 2) := by
      rw [List.take_take, Nat.min_eq_left (by omega)]
    rw [e2, ht, e, ← ptCells_length (ps.take f), List.take_left]

theorem ptsAt_in {w : World} {base g N c f : Nat} {ps : List Silo.Pt} (h : World.ptsAt w base (.slice (some ⟨g, 0, none⟩) N c) ps) (hN : ps.length = N) : PtsIn w (some ⟨g, f * 2, none⟩) (ps.drop f) := by
  refine .inr ⟨g, f * 2, rfl, (World.ownsRow.lt h g rfl).2, fun q hq => ?_⟩
  rw [List.length_drop] at hq
  subst hN
  have h2 := ptsAt_cell h (f + q) (by omega)
  rw [List.getElem_drop]
  rw [show (f + q) * 2 = f * 2 + q * 2 from by omega] at h2
  exact h2

/-- What appending has left. -/
def ALaid (base : Nat) (S : Nat → Prop) (W2 : World) (L : List Silo.Pt) (w' : World) (v' : Value) : Prop :=
  World.ptsAt w' base v' L ∧ Fp S W2 w' ∧ (∀ j, v'.ownBlock = some j → S j ∨ W2.heap.size ≤ j)

/-- In the midst of the line's new points. -/
structure LLy (W : World) (tb k : Nat) (fI : Int) (vV preV lowV upV : Value) (A : World → Value → Prop) (listed : Array Bool) (u22 u23 u24 u25 u26 u27 u28 u29 u30 u31 u32 u33 u34 : Value) (w' : World) : Prop where
  e0 : done listed 0 = true → u22 = .pointer (some ⟨tb, k, none⟩)
  e1 : done listed 1 = true → u23 = .pointer (some ⟨tb, k, none⟩)
  e2 : done listed 2 = true → u24 = .pointer (some ⟨tb, k, none⟩)
  e3 : done listed 3 = true → u25 = .pointer (some ⟨tb, k, none⟩)
  e4 : done listed 4 = true → u26 = vV
  e5 : done listed 5 = true → u27 = .int .i64 fI
  e6 : done listed 6 = true → u28 = preV
  e7 : done listed 7 = true → u29 = lowV
  e8 : done listed 8 = true → u30 = upV
  e9 : done listed 9 = true → u31 = .func (.func 73) #[] #[.pointer (some ⟨W.heap.size + 1, 0, none⟩), .pointer (some ⟨W.heap.size, 0, none⟩)]
  e11 : done listed 11 = true → u33 = .pointer (some ⟨tb, k, none⟩)
  e12 : done listed 12 = true → u34 = .pointer (some ⟨tb, k, none⟩)
  x0 : done listed 9 = false → w' = W.drew
  x1 : done listed 9 = true → done listed 10 = false → w' = (W.drew.alloc (.cells #[lowV] 58)).alloc (.cells #[upV] 58)
  x2 : done listed 10 = true → done listed 13 = false → A w' u32
  x3 : done listed 13 = true → ∃ w5, A w5 u32 ∧ w' = w5.setCell ⟨tb, k, none⟩ u32

section
variable {W : World} {tb k : Nat} {fI : Int} {vV preV lowV upV : Value} {A : World → Value → Prop} {listed : Array Bool} {u22 u23 u24 u25 u26 u27 u28 u29 u30 u31 u32 u33 u34 : Value} {w' : World}

theorem LLy.start {nn : Nat} (h : w' = W.drew) : LLy W tb k fI vV preV lowV upV A (Array.replicate nn false) u22 u23 u24 u25 u26 u27 u28 u29 u30 u31 u32 u33 u34 w' := by
  constructor <;> first | exact h | (intro d; first | exact h | (rw [done_rep] at d; cases d))

theorem LLy.s0 (h : LLy W tb k fI vV preV lowV upV A listed u22 u23 u24 u25 u26 u27 u28 u29 u30 u31 u32 u33 u34 w') : LLy W tb k fI vV preV lowV upV A (listed.setIfInBounds 0 true) (.pointer (some ⟨tb, k, none⟩)) u23 u24 u25 u26 u27 u28 u29 u30 u31 u32 u33 u34 w' :=
  ⟨fun _ => rfl, fun d => h.e1 (done_of_set d (by decide)), fun d => h.e2 (done_of_set d (by decide)), fun d => h.e3 (done_of_set d (by decide)), fun d => h.e4 (done_of_set d (by decide)), fun d => h.e5 (done_of_set d (by decide)), fun d => h.e6 (done_of_set d (by decide)), fun d => h.e7 (done_of_set d (by decide)), fun d => h.e8 (done_of_set d (by decide)), fun d => h.e9 (done_of_set d (by decide)), fun d => h.e11 (done_of_set d (by decide)), fun d => h.e12 (done_of_set d (by decide)), fun d => h.x0 (undone_of_set d), fun d d' => h.x1 (done_of_set d (by decide)) (undone_of_set d'), fun d d' => h.x2 (done_of_set d (by decide)) (undone_of_set d'), fun d => h.x3 (done_of_set d (by decide))⟩

theorem LLy.s1 (h : LLy W tb k fI vV preV lowV upV A listed u22 u23 u24 u25 u26 u27 u28 u29 u30 u31 u32 u33 u34 w') : LLy W tb k fI vV preV lowV upV A (listed.setIfInBounds 1 true) u22 (.pointer (some ⟨tb, k, none⟩)) u24 u25 u26 u27 u28 u29 u30 u31 u32 u33 u34 w' :=
  ⟨fun d => h.e0 (done_of_set d (by decide)), fun _ => rfl, fun d => h.e2 (done_of_set d (by decide)), fun d => h.e3 (done_of_set d (by decide)), fun d => h.e4 (done_of_set d (by decide)), fun d => h.e5 (done_of_set d (by decide)), fun d => h.e6 (done_of_set d (by decide)), fun d => h.e7 (done_of_set d (by decide)), fun d => h.e8 (done_of_set d (by decide)), fun d => h.e9 (done_of_set d (by decide)), fun d => h.e11 (done_of_set d (by decide)), fun d => h.e12 (done_of_set d (by decide)), fun d => h.x0 (undone_of_set d), fun d d' => h.x1 (done_of_set d (by decide)) (undone_of_set d'), fun d d' => h.x2 (done_of_set d (by decide)) (undone_of_set d'), fun d => h.x3 (done_of_set d (by decide))⟩

theorem LLy.s2 (h : LLy W tb k fI vV preV lowV upV A listed u22 u23 u24 u25 u26 u27 u28 u29 u30 u31 u32 u33 u34 w') : LLy W tb k fI vV preV lowV upV A (listed.setIfInBounds 2 true) u22 u23 (.pointer (some ⟨tb, k, none⟩)) u25 u26 u27 u28 u29 u30 u31 u32 u33 u34 w' :=
  ⟨fun d => h.e0 (done_of_set d (by decide)), fun d => h.e1 (done_of_set d (by decide)), fun _ => rfl, fun d => h.e3 (done_of_set d (by decide)), fun d => h.e4 (done_of_set d (by decide)), fun d => h.e5 (done_of_set d (by decide)), fun d => h.e6 (done_of_set d (by decide)), fun d => h.e7 (done_of_set d (by decide)), fun d => h.e8 (done_of_set d (by decide)), fun d => h.e9 (done_of_set d (by decide)), fun d => h.e11 (done_of_set d (by decide)), fun d => h.e12 (done_of_set d (by decide)), fun d => h.x0 (undone_of_set d), fun d d' => h.x1 (done_of_set d (by decide)) (undone_of_set d'), fun d d' => h.x2 (done_of_set d (by decide)) (undone_of_set d'), fun d => h.x3 (done_of_set d (by decide))⟩

theorem LLy.s3 (h : LLy W tb k fI vV preV lowV upV A listed u22 u23 u24 u25 u26 u27 u28 u29 u30 u31 u32 u33 u34 w') : LLy W tb k fI vV preV lowV upV A (listed.setIfInBounds 3 true) u22 u23 u24 (.pointer (some ⟨tb, k, none⟩)) u26 u27 u28 u29 u30 u31 u32 u33 u34 w' :=
  ⟨fun d => h.e0 (done_of_set d (by decide)), fun d => h.e1 (done_of_set d (by decide)), fun d => h.e2 (done_of_set d (by decide)), fun _ => rfl, fun d => h.e4 (done_of_set d (by decide)), fun d => h.e5 (done_of_set d (by decide)), fun d => h.e6 (done_of_set d (by decide)), fun d => h.e7 (done_of_set d (by decide)), fun d => h.e8 (done_of_set d (by decide)), fun d => h.e9 (done_of_set d (by decide)), fun d => h.e11 (done_of_set d (by decide)), fun d => h.e12 (done_of_set d (by decide)), fun d => h.x0 (undone_of_set d), fun d d' => h.x1 (done_of_set d (by decide)) (undone_of_set d'), fun d d' => h.x2 (done_of_set d (by decide)) (undone_of_set d'), fun d => h.x3 (done_of_set d (by decide))⟩

theorem LLy.s4 (h : LLy W tb k fI vV preV lowV upV A listed u22 u23 u24 u25 u26 u27 u28 u29 u30 u31 u32 u33 u34 w') : LLy W tb k fI vV preV lowV upV A (listed.setIfInBounds 4 true) u22 u23 u24 u25 (vV) u27 u28 u29 u30 u31 u32 u33 u34 w' :=
  ⟨fun d => h.e0 (done_of_set d (by decide)), fun d => h.e1 (done_of_set d (by decide)), fun d => h.e2 (done_of_set d (by decide)), fun d => h.e3 (done_of_set d (by decide)), fun _ => rfl, fun d => h.e5 (done_of_set d (by decide)), fun d => h.e6 (done_of_set d (by decide)), fun d => h.e7 (done_of_set d (by decide)), fun d => h.e8 (done_of_set d (by decide)), fun d => h.e9 (done_of_set d (by decide)), fun d => h.e11 (done_of_set d (by decide)), fun d => h.e12 (done_of_set d (by decide)), fun d => h.x0 (undone_of_set d), fun d d' => h.x1 (done_of_set d (by decide)) (undone_of_set d'), fun d d' => h.x2 (done_of_set d (by decide)) (undone_of_set d'), fun d => h.x3 (done_of_set d (by decide))⟩

theorem LLy.s5 (h : LLy W tb k fI vV preV lowV upV A listed u22 u23 u24 u25 u26 u27 u28 u29 u30 u31 u32 u33 u34 w') : LLy W tb k fI vV preV lowV upV A (listed.setIfInBounds 5 true) u22 u23 u24 u25 u26 (.int .i64 fI) u28 u29 u30 u31 u32 u33 u34 w' :=
  ⟨fun d => h.e0 (done_of_set d (by decide)), fun d => h.e1 (done_of_set d (by decide)), fun d => h.e2 (done_of_set d (by decide)), fun d => h.e3 (done_of_set d (by decide)), fun d => h.e4 (done_of_set d (by decide)), fun _ => rfl, fun d => h.e6 (done_of_set d (by decide)), fun d => h.e7 (done_of_set d (by decide)), fun d => h.e8 (done_of_set d (by decide)), fun d => h.e9 (done_of_set d (by decide)), fun d => h.e11 (done_of_set d (by decide)), fun d => h.e12 (done_of_set d (by decide)), fun d => h.x0 (undone_of_set d), fun d d' => h.x1 (done_of_set d (by decide)) (undone_of_set d'), fun d d' => h.x2 (done_of_set d (by decide)) (undone_of_set d'), fun d => h.x3 (done_of_set d (by decide))⟩

theorem LLy.s6 (h : LLy W tb k fI vV preV lowV upV A listed u22 u23 u24 u25 u26 u27 u28 u29 u30 u31 u32 u33 u34 w') : LLy W tb k fI vV preV lowV upV A (listed.setIfInBounds 6 true) u22 u23 u24 u25 u26 u27 (preV) u29 u30 u31 u32 u33 u34 w' :=
  ⟨fun d => h.e0 (done_of_set d (by decide)), fun d => h.e1 (done_of_set d (by decide)), fun d => h.e2 (done_of_set d (by decide)), fun d => h.e3 (done_of_set d (by decide)), fun d => h.e4 (done_of_set d (by decide)), fun d => h.e5 (done_of_set d (by decide)), fun _ => rfl, fun d => h.e7 (done_of_set d (by decide)), fun d => h.e8 (done_of_set d (by decide)), fun d => h.e9 (done_of_set d (by decide)), fun d => h.e11 (done_of_set d (by decide)), fun d => h.e12 (done_of_set d (by decide)), fun d => h.x0 (undone_of_set d), fun d d' => h.x1 (done_of_set d (by decide)) (undone_of_set d'), fun d d' => h.x2 (done_of_set d (by decide)) (undone_of_set d'), fun d => h.x3 (done_of_set d (by decide))⟩

theorem LLy.s7 (h : LLy W tb k fI vV preV lowV upV A listed u22 u23 u24 u25 u26 u27 u28 u29 u30 u31 u32 u33 u34 w') : LLy W tb k fI vV preV lowV upV A (listed.setIfInBounds 7 true) u22 u23 u24 u25 u26 u27 u28 (lowV) u30 u31 u32 u33 u34 w' :=
  ⟨fun d => h.e0 (done_of_set d (by decide)), fun d => h.e1 (done_of_set d (by decide)), fun d => h.e2 (done_of_set d (by decide)), fun d => h.e3 (done_of_set d (by decide)), fun d => h.e4 (done_of_set d (by decide)), fun d => h.e5 (done_of_set d (by decide)), fun d => h.e6 (done_of_set d (by decide)), fun _ => rfl, fun d => h.e8 (done_of_set d (by decide)), fun d => h.e9 (done_of_set d (by decide)), fun d => h.e11 (done_of_set d (by decide)), fun d => h.e12 (done_of_set d (by decide)), fun d => h.x0 (undone_of_set d), fun d d' => h.x1 (done_of_set d (by decide)) (undone_of_set d'), fun d d' => h.x2 (done_of_set d (by decide)) (undone_of_set d'), fun d => h.x3 (done_of_set d (by decide))⟩

theorem LLy.s8 (h : LLy W tb k fI vV preV lowV upV A listed u22 u23 u24 u25 u26 u27 u28 u29 u30 u31 u32 u33 u34 w') : LLy W tb k fI vV preV lowV upV A (listed.setIfInBounds 8 true) u22 u23 u24 u25 u26 u27 u28 u29 (upV) u31 u32 u33 u34 w' :=
  ⟨fun d => h.e0 (done_of_set d (by decide)), fun d => h.e1 (done_of_set d (by decide)), fun d => h.e2 (done_of_set d (by decide)), fun d => h.e3 (done_of_set d (by decide)), fun d => h.e4 (done_of_set d (by decide)), fun d => h.e5 (done_of_set d (by decide)), fun d => h.e6 (done_of_set d (by decide)), fun d => h.e7 (done_of_set d (by decide)), fun _ => rfl, fun d => h.e9 (done_of_set d (by decide)), fun d => h.e11 (done_of_set d (by decide)), fun d => h.e12 (done_of_set d (by decide)), fun d => h.x0 (undone_of_set d), fun d d' => h.x1 (done_of_set d (by decide)) (undone_of_set d'), fun d d' => h.x2 (done_of_set d (by decide)) (undone_of_set d'), fun d => h.x3 (done_of_set d (by decide))⟩

theorem LLy.s9 {w2 : World} (h : LLy W tb k fI vV preV lowV upV A listed u22 u23 u24 u25 u26 u27 u28 u29 u30 u31 u32 u33 u34 w') (hi : 9 < listed.size) (hn1 : done listed 10 = false) (hn2 : done listed 13 = false) (hS : w2 = (W.drew.alloc (.cells #[lowV] 58)).alloc (.cells #[upV] 58)) : LLy W tb k fI vV preV lowV upV A (listed.setIfInBounds 9 true) u22 u23 u24 u25 u26 u27 u28 u29 u30 (.func (.func 73) #[] #[.pointer (some ⟨W.heap.size + 1, 0, none⟩), .pointer (some ⟨W.heap.size, 0, none⟩)]) u32 u33 u34 w2 :=
  ⟨fun d => h.e0 (done_of_set d (by decide)), fun d => h.e1 (done_of_set d (by decide)), fun d => h.e2 (done_of_set d (by decide)), fun d => h.e3 (done_of_set d (by decide)), fun d => h.e4 (done_of_set d (by decide)), fun d => h.e5 (done_of_set d (by decide)), fun d => h.e6 (done_of_set d (by decide)), fun d => h.e7 (done_of_set d (by decide)), fun d => h.e8 (done_of_set d (by decide)), fun _ => rfl, fun d => h.e11 (done_of_set d (by decide)), fun d => h.e12 (done_of_set d (by decide)), fun D => absurd D (by rw [done_set_same hi]; decide), fun _ _ => hS, fun D _ => absurd (done_of_set D (by decide)) (by rw [hn1]; decide), fun D => absurd (done_of_set D (by decide)) (by rw [hn2]; decide)⟩

theorem LLy.s10 {xf : Value} {w2 : World} (h : LLy W tb k fI vV preV lowV upV A listed u22 u23 u24 u25 u26 u27 u28 u29 u30 u31 u32 u33 u34 w') (hi : 10 < listed.size) (hp0 : done listed 9 = true) (hn2 : done listed 13 = false) (hS : A w2 xf) : LLy W tb k fI vV preV lowV upV A (listed.setIfInBounds 10 true) u22 u23 u24 u25 u26 u27 u28 u29 u30 u31 (xf) u33 u34 w2 :=
  ⟨fun d => h.e0 (done_of_set d (by decide)), fun d => h.e1 (done_of_set d (by decide)), fun d => h.e2 (done_of_set d (by decide)), fun d => h.e3 (done_of_set d (by decide)), fun d => h.e4 (done_of_set d (by decide)), fun d => h.e5 (done_of_set d (by decide)), fun d => h.e6 (done_of_set d (by decide)), fun d => h.e7 (done_of_set d (by decide)), fun d => h.e8 (done_of_set d (by decide)), fun d => h.e9 (done_of_set d (by decide)), fun d => h.e11 (done_of_set d (by decide)), fun d => h.e12 (done_of_set d (by decide)), fun D => absurd (undone_of_set D) (by rw [hp0]; decide), fun _ D => absurd D (by rw [done_set_same hi]; decide), fun _ _ => hS, fun D => absurd (done_of_set D (by decide)) (by rw [hn2]; decide)⟩

theorem LLy.s11 (h : LLy W tb k fI vV preV lowV upV A listed u22 u23 u24 u25 u26 u27 u28 u29 u30 u31 u32 u33 u34 w') : LLy W tb k fI vV preV lowV upV A (listed.setIfInBounds 11 true) u22 u23 u24 u25 u26 u27 u28 u29 u30 u31 u32 (.pointer (some ⟨tb, k, none⟩)) u34 w' :=
  ⟨fun d => h.e0 (done_of_set d (by decide)), fun d => h.e1 (done_of_set d (by decide)), fun d => h.e2 (done_of_set d (by decide)), fun d => h.e3 (done_of_set d (by decide)), fun d => h.e4 (done_of_set d (by decide)), fun d => h.e5 (done_of_set d (by decide)), fun d => h.e6 (done_of_set d (by decide)), fun d => h.e7 (done_of_set d (by decide)), fun d => h.e8 (done_of_set d (by decide)), fun d => h.e9 (done_of_set d (by decide)), fun _ => rfl, fun d => h.e12 (done_of_set d (by decide)), fun d => h.x0 (undone_of_set d), fun d d' => h.x1 (done_of_set d (by decide)) (undone_of_set d'), fun d d' => h.x2 (done_of_set d (by decide)) (undone_of_set d'), fun d => h.x3 (done_of_set d (by decide))⟩

theorem LLy.s12 (h : LLy W tb k fI vV preV lowV upV A listed u22 u23 u24 u25 u26 u27 u28 u29 u30 u31 u32 u33 u34 w') : LLy W tb k fI vV preV lowV upV A (listed.setIfInBounds 12 true) u22 u23 u24 u25 u26 u27 u28 u29 u30 u31 u32 u33 (.pointer (some ⟨tb, k, none⟩)) w' :=
  ⟨fun d => h.e0 (done_of_set d (by decide)), fun d => h.e1 (done_of_set d (by decide)), fun d => h.e2 (done_of_set d (by decide)), fun d => h.e3 (done_of_set d (by decide)), fun d => h.e4 (done_of_set d (by decide)), fun d => h.e5 (done_of_set d (by decide)), fun d => h.e6 (done_of_set d (by decide)), fun d => h.e7 (done_of_set d (by decide)), fun d => h.e8 (done_of_set d (by decide)), fun d => h.e9 (done_of_set d (by decide)), fun d => h.e11 (done_of_set d (by decide)), fun _ => rfl, fun d => h.x0 (undone_of_set d), fun d d' => h.x1 (done_of_set d (by decide)) (undone_of_set d'), fun d d' => h.x2 (done_of_set d (by decide)) (undone_of_set d'), fun d => h.x3 (done_of_set d (by decide))⟩

theorem LLy.s13 {w2 : World} (h : LLy W tb k fI vV preV lowV upV A listed u22 u23 u24 u25 u26 u27 u28 u29 u30 u31 u32 u33 u34 w') (hi : 13 < listed.size) (hp0 : done listed 9 = true) (hp1 : done listed 10 = true) (hS : ∃ w5, A w5 u32 ∧ w2 = w5.setCell ⟨tb, k, none⟩ u32) : LLy W tb k fI vV preV lowV upV A (listed.setIfInBounds 13 true) u22 u23 u24 u25 u26 u27 u28 u29 u30 u31 u32 u33 u34 w2 :=
  ⟨fun d => h.e0 (done_of_set d (by decide)), fun d => h.e1 (done_of_set d (by decide)), fun d => h.e2 (done_of_set d (by decide)), fun d => h.e3 (done_of_set d (by decide)), fun d => h.e4 (done_of_set d (by decide)), fun d => h.e5 (done_of_set d (by decide)), fun d => h.e6 (done_of_set d (by decide)), fun d => h.e7 (done_of_set d (by decide)), fun d => h.e8 (done_of_set d (by decide)), fun d => h.e9 (done_of_set d (by decide)), fun d => h.e11 (done_of_set d (by decide)), fun d => h.e12 (done_of_set d (by decide)), fun D => absurd (undone_of_set D) (by rw [hp0]; decide), fun _ D => absurd (undone_of_set D) (by rw [hp1]; decide), fun _ D => absurd D (by rw [done_set_same hi]; decide), fun _ => hS⟩

end

theorem LineAt.kind {w : World} {base tb k : Nat} {v : Value} {ps : List Silo.Pt} {cs : Array Value} {ty : TypeId} (h : LineAt w base tb k v ps) (hb : w.heap[tb]? = some (.cells cs ty (0, 0))) : Kind ty := by
  obtain ⟨cs', ty', q1, q2, _⟩ := h
  rw [hb] at q1
  cases q1
  exact q2

set_option maxHeartbeats 2000000 in
set_option maxRecDepth 100000 in
theorem LineLay_none (base baseU tb k gu cu NU : Nat) (cs : Array Value) (ty : TypeId) (us : List Silo.Pt) (x0 : Silo.Pt) (us' : List Silo.Pt) (w : World)
    (hb : w.heap[tb]? = some (.cells cs ty (0, 0))) (hk : Kind ty) (hv : cs[k]? = some (.slice none 0 0)) (hNU : us.length = NU) (htb : tb < base) (hbase : base ≤ w.heap.size)
    (hu : World.ptsAt w baseU (.slice (some ⟨gu, 0, none⟩) NU cu) us) (hus : us = x0 :: us') (hl : NU ≤ 1099511627776) :
    Calls Try.prog 32 #[.pointer (some ⟨tb, k, none⟩), .slice (some ⟨gu, 0, none⟩) NU cu] w fun e w' => e = .returned (.tuple #[]) ∧ ∃ v', w'.heap[tb]? = some (.cells (cs.setIfInBounds k v') ty (0, 0)) ∧ World.ptsAt w' base v' us ∧
      Fp (fun j => j = tb) w w' ∧ (∀ j, v'.ownBlock = some j → w.heap.size ≤ j) := by
  have hr : World.ptsAt w base (.slice none 0 0) [] := ⟨rfl, .inl ⟨rfl, rfl⟩⟩
  have hline : LineAt w base tb k (.slice none 0 0) [] := ⟨cs, ty, hb, hk, hv, hr, htb⟩
  have hu0 : w.cell? ⟨gu, 0, none⟩ = some (.int .i64 x0.t) := by
    rw [← hNU] at hu
    have h := (ptsAt_cell hu 0 (by rw [hus]; simp)).1
    simp only [hus] at h
    simpa using h
  have hne : ((NU : Int) == 0) = false := by
    have : us.length ≠ 0 := by rw [hus]; simp
    simp; omega
  have hpos : 0 < NU := by rw [← hNU, hus]; simp
  have H : Hid _ := And.intro hline (And.intro hu (And.intro hNU (And.intro hus hb)))
  clear hline hu hNU hus hb hk hr hv
  have htl : tb < w.heap.size := by omega
  go_enter Try.func32, Try.ntmps32
  go_wp2_with fail
  refine (LinePlace_any w base tb k (.slice none 0 0) [] x0.t H.out.1 List.Pairwise.nil (by simp)).mono ?_
  rintro e w1 ⟨rfl, h1⟩
  rw [show Silo.placeOf x0.t [] = 0 from rfl]
  have hc1 : w1.cell? ⟨tb, k, none⟩ = some (.slice none 0 0) := by
    obtain ⟨cs', ty', q1, _, q3, _⟩ := H.out.1
    rw [h1.cell (p := ⟨tb, k, none⟩) (heap_lt q1) (fun h => h)]
    simp [World.cell?, q1, q3]
  have H1 : Hid _ := h1
  clear h1 hu0
  go_wp2_with fail
  refine (Clone_any none 0 [] w1 (.inl rfl) (by simp)).mono ?_
  rintro e W ⟨vl, rfl, HC⟩
  have hfW : Fp (fun _ => False) w W := H1.out.trans' HC.out.2
  have hszW : w.heap.size ≤ W.heap.size := hfW.size
  have hcW : W.cell? ⟨tb, k, none⟩ = some (.slice none 0 0) := by rw [HC.out.2.cell (p := ⟨tb, k, none⟩) (Nat.lt_of_lt_of_le htl H1.out.size) (fun h => h)]; exact hc1
  have hll : (([] : List Silo.Pt)).length ≤ 1099511627776 := by simp
  obtain ⟨al, cl, hvl⟩ := ptsAt_form HC.out.1
  obtain ⟨nl, hnl⟩ : ∃ nl, (([] : List Silo.Pt)).length = nl := ⟨_, rfl⟩
  rw [hnl] at hvl
  subst hvl
  obtain ⟨W2, hW2⟩ : ∃ W2, (W.drew.alloc (.cells #[.slice al nl cl] 58)).alloc (.cells #[.slice (some ⟨gu, 0, none⟩) NU cu] 58) = W2 := ⟨_, rfl⟩
  have hf2 : Fp (fun _ => False) W W2 := by rw [← hW2]; exact ((Fp.drew _ W).trans' (Fp.alloc _ _ _)).trans' (Fp.alloc _ _ _)
  have hs2 : W2.heap.size = W.heap.size + 2 := by rw [← hW2]; simp
  have hbl2 : W2.heap[W.heap.size]? = some (.cells #[.slice al nl cl] 58 (0, 0)) := by rw [← hW2]; exact heap_old _ _ (heap_new _ _)
  have hbu2 : W2.heap[W.heap.size + 1]? = some (.cells #[.slice (some ⟨gu, 0, none⟩) NU cu] 58 (0, 0)) := by rw [← hW2]; have := heap_new (W.drew.alloc (.cells #[.slice al nl cl] 58)) (.cells #[.slice (some ⟨gu, 0, none⟩) NU cu] 58); rwa [World.size_alloc] at this
  have hlow2 : World.ptsAt W2 w1.heap.size (.slice al nl cl) (([] : List Silo.Pt)) := Fp.ownsRow hf2 HC.out.1 (fun _ _ h => h)
  have hup2 : World.ptsAt W2 baseU (.slice (some ⟨gu, 0, none⟩) NU cu) us := Fp.ownsRow (hfW.trans' hf2) H.out.2.1 (fun _ _ h => h)
  have hgul : gu < w.heap.size := (World.ownsRow.lt H.out.2.1 gu rfl).2
  have hsq := layeredCl_any 9 (by decide) (W.heap.size + 1) W.heap.size baseU w1.heap.size gu cu NU (.slice al nl cl) us (([] : List Silo.Pt)) W2 H.out.2.2.1 hbu2 hbl2 hup2 hlow2 (by omega) hll
  have hrow2 : World.ptsAt W2 base (.slice none 0 0) [] := ⟨rfl, .inl ⟨rfl, rfl⟩⟩
  have hw1s : w.heap.size ≤ w1.heap.size := H1.out.size
  obtain ⟨L, hL⟩ : ∃ L, ([] : List Silo.Pt) ++ Silo.mergeL (([] : List Silo.Pt)) us = L := ⟨_, rfl⟩
  have HL : Hid _ := hL
  have HAP : Hid (∃ hq : True, Calls Try.prog 53 #[.slice none 0 0, .func (.func 73) #[] #[.pointer (some ⟨W.heap.size + 1, 0, none⟩), .pointer (some ⟨W.heap.size, 0, none⟩)]] W2 fun e w' => ∃ v', e = .returned v' ∧ Hid (ALaid base (fun _ => False) W2 L w' v')) := by
    rw [← hL]
    refine ⟨trivial, (callsIn_wide.1 (AppendSeq_in 10 (by decide) base (.slice none 0 0) ([] : List Silo.Pt) (Silo.mergeL (([] : List Silo.Pt)) us) 73 _ _ (fun _ => False) W2 hrow2 (by omega) (enters_of Try.func73 (by kernel_rfl) rfl) hsq ?_ ?_ ?_)).mono ?_⟩
    · rintro j (rfl | rfl | rfl | h)
      · omega
      · omega
      · omega
      · exact (World.ownsRow.lt hlow2 _ h).2
    · intro j hj; simp [Value.ownBlock] at hj
    · have h1 := Silo.mergeL_len us (([] : List Silo.Pt))
      have h3 := H.out.2.2.1
      simp at h1 ⊢
      omega
    · rintro e w5 ⟨v5, rfl, h5⟩
      exact ⟨v5, rfl, h5.out.1, h5.out.2.1.mono (fun j _ h => by rcases h with h | h; simp [Value.ownBlock] at h; exact h.elim), fun j hj => (h5.out.2.2 j hj).imp (fun h => by simp [Value.ownBlock] at h) id⟩
  clear hL
  have hbW : w.heap[tb]? = some (.cells cs ty (0, 0)) := H.out.2.2.2.2
  have hb2 : W2.heap[tb]? = some (.cells cs ty (0, 0)) := ((hfW.trans' hf2).block _ htl (fun h => h)).trans hbW
  have HB5 : Hid (∀ w5 v5, ALaid base (fun _ => False) W2 L w5 v5 → w5.heap[tb]? = some (.cells cs ty (0, 0))) := fun w5 v5 h => (h.2.1.block _ (heap_lt hb2) (fun h => h)).trans hb2
  have HCS : Hid (cs[k]? = some (.slice none 0 0)) := by obtain ⟨cs', ty', q1, _, q3, _⟩ := H.out.1; rw [hbW] at q1; cases q1; exact q3
  have HCELL : Hid (∀ w5 v5, ALaid base (fun _ => False) W2 L w5 v5 → w5.cell? ⟨tb, k, none⟩ = some (.slice none 0 0)) := fun w5 v5 h => by simp [World.cell?, HB5.out w5 v5 h, HCS.out]
  have HFROZ : Hid (∀ w5 v5, ALaid base (fun _ => False) W2 L w5 v5 → w5.frozen? ⟨tb, k, none⟩ = false) := fun w5 v5 h => by simp [World.frozen?, HB5.out w5 v5 h]
  have HF : Hid (Fp (fun _ => False) w W2 ∧ W2.heap.size = W.heap.size + 2) := ⟨hfW.trans' hf2, hs2⟩
  have hW : tb < W.heap.size := by omega
  have HW2 : Hid _ := hW2
  clear hbW hb2 hsq hrow2 hup2 hlow2 hbu2 hbl2 hs2 hf2 hW2 hfW hc1 hll hnl
  go_wp2_with fail
  refine wp_region_inv (by kernel_rfl) (by kernel_rfl) (fun listed a' w' => ∃ u22 u23 u24 u25 u26 u27 u28 u29 u30 u31 u32 u33 u34 : Value, a' = { tmps := #[.pointer (some ⟨tb, k, none⟩), .slice (some ⟨gu, 0, none⟩) NU cu, undef, undef, .int .i64 0, .slice al nl cl, .slice (some ⟨gu, 0, none⟩) NU cu, .int .i64 (NU : Nat), .bool false, .pointer (some ⟨tb, k, none⟩), .slice (some ⟨gu, 0, none⟩) NU cu, .pointer (some ⟨gu, 0, none⟩), .pointer (some ⟨gu, 0, none⟩), .int .i64 x0.t, .int .i64 0, .pointer (some ⟨tb, k, none⟩), .pointer (some ⟨tb, k, none⟩), .pointer (some ⟨tb, k, none⟩), .slice none 0 0, .int .i64 0, .slice none 0 0, .slice al nl cl, u22, u23, u24, u25, u26, u27, u28, u29, u30, u31, u32, u33, u34], defers := [] } ∧ Hid (LLy W tb k 0 (.slice none 0 0) (.slice none 0 0) (.slice al nl cl) (.slice (some ⟨gu, 0, none⟩) NU cu) (ALaid base (fun _ => False) W2 L) listed u22 u23 u24 u25 u26 u27 u28 u29 u30 u31 u32 u33 u34 w')) ?ll0 ?llend ?llstep
  case ll0 => exact ⟨_, _, _, _, _, _, _, _, _, _, _, _, _, rfl, LLy.start (rfl)⟩
  case llend =>
    rintro listed a' w' hall ⟨u22, u23, u24, u25, u26, u27, u28, u29, u30, u31, u32, u33, u34, rfl, HI⟩
    obtain rfl := HI.out.e0 (hall 0 (by decide))
    obtain rfl := HI.out.e1 (hall 1 (by decide))
    obtain rfl := HI.out.e2 (hall 2 (by decide))
    obtain rfl := HI.out.e3 (hall 3 (by decide))
    obtain rfl := HI.out.e4 (hall 4 (by decide))
    obtain rfl := HI.out.e5 (hall 5 (by decide))
    obtain rfl := HI.out.e6 (hall 6 (by decide))
    obtain rfl := HI.out.e7 (hall 7 (by decide))
    obtain rfl := HI.out.e8 (hall 8 (by decide))
    obtain rfl := HI.out.e9 (hall 9 (by decide))
    obtain rfl := HI.out.e11 (hall 11 (by decide))
    obtain rfl := HI.out.e12 (hall 12 (by decide))
    have hw := HI.out.x3 (hall 13 (by decide))
    obtain ⟨w5, hA5, rfl⟩ := hw
    clear HI hall
    have e1 : L = us := by rw [← HL.out, Silo.mergeL_none]; rfl
    have hb5 := HB5.out w5 u32 hA5
    have hst : Fp (fun j => j = tb) w5 (w5.setCell ⟨tb, k, none⟩ u32) := Fp.setCell (S := fun j => j = tb) _ _ _ rfl
    go_end0
    refine ⟨rfl, u32, heap_set hb5 _, ?_, ?_, ?_⟩
    · rw [← e1]; exact Fp.ownsRow hst hA5.1 (fun j hj e => pts_box_ne hA5.1 hj hb5 (LineAt.kind H.out.1 H.out.2.2.2.2).2 e)
    · exact (HF.out.1.trans hA5.2.1 (U := fun j => j = tb) (fun _ h => h.elim) (fun _ _ h => h.elim)).trans hst (fun _ h => h) (fun _ _ h => h)
    · intro j hj
      rcases hA5.2.2 j hj with h | h
      · exact h.elim
      · have := HF.out.2; omega
  case llstep =>
    rintro listed a' w' i o ho hi hd hdep hcl ⟨u22, u23, u24, u25, u26, u27, u28, u29, u30, u31, u32, u33, u34, rfl, HI⟩ K hK
    match i, ho with
    | 0, ho =>
      cases ho
      go_simp
      refine hK _ _ ⟨_, _, _, _, _, _, _, _, _, _, _, _, _, rfl, ?_⟩
      exact HI.out.s0
    | 1, ho =>
      cases ho
      go_simp
      refine hK _ _ ⟨_, _, _, _, _, _, _, _, _, _, _, _, _, rfl, ?_⟩
      exact HI.out.s1
    | 2, ho =>
      cases ho
      have d1 := hdep ⟨1, .data⟩ (by simp) rfl
      obtain rfl := HI.out.e1 d1
      go_simp
      refine hK _ _ ⟨_, _, _, _, _, _, _, _, _, _, _, _, _, rfl, ?_⟩
      exact HI.out.s2
    | 3, ho =>
      cases ho
      have d2 := hdep ⟨2, .data⟩ (by simp) rfl
      obtain rfl := HI.out.e2 d2
      go_simp
      refine hK _ _ ⟨_, _, _, _, _, _, _, _, _, _, _, _, _, rfl, ?_⟩
      exact HI.out.s3
    | 4, ho =>
      cases ho
      have d3 := hdep ⟨3, .data⟩ (by simp) rfl
      obtain rfl := HI.out.e3 d3
      have q6 : done listed 6 = false := nd hcl (j := 6) rfl ⟨4, .data⟩ (by simp) rfl hd
      have q10 : done listed 10 = false := nd hcl (j := 10) rfl ⟨6, .data⟩ (by simp) rfl q6
      cases hd9 : done listed 9
      · have hw := HI.out.x0 hd9
        subst hw
        go_simp
        refine hK _ _ ⟨_, _, _, _, _, _, _, _, _, _, _, _, _, rfl, ?_⟩
        exact HI.out.s4
      · skip
        have hw := HI.out.x1 hd9 q10
        subst hw
        go_simp
        refine hK _ _ ⟨_, _, _, _, _, _, _, _, _, _, _, _, _, rfl, ?_⟩
        exact HI.out.s4
    | 5, ho =>
      cases ho
      go_simp
      refine hK _ _ ⟨_, _, _, _, _, _, _, _, _, _, _, _, _, rfl, ?_⟩
      exact HI.out.s5
    | 6, ho =>
      cases ho
      have d4 := hdep ⟨4, .data⟩ (by simp) rfl
      obtain rfl := HI.out.e4 d4
      have d5 := hdep ⟨5, .data⟩ (by simp) rfl
      obtain rfl := HI.out.e5 d5
      go_simp
      refine hK _ _ ⟨_, _, _, _, _, _, _, _, _, _, _, _, _, rfl, ?_⟩
      exact HI.out.s6
    | 7, ho =>
      cases ho
      go_simp
      refine hK _ _ ⟨_, _, _, _, _, _, _, _, _, _, _, _, _, rfl, ?_⟩
      exact HI.out.s7
    | 8, ho =>
      cases ho
      go_simp
      refine hK _ _ ⟨_, _, _, _, _, _, _, _, _, _, _, _, _, rfl, ?_⟩
      exact HI.out.s8
    | 9, ho =>
      cases ho
      have d7 := hdep ⟨7, .data⟩ (by simp) rfl
      obtain rfl := HI.out.e7 d7
      have d8 := hdep ⟨8, .data⟩ (by simp) rfl
      obtain rfl := HI.out.e8 d8
      have hw := HI.out.x0 hd
      have q10 : done listed 10 = false := nd hcl (j := 10) rfl ⟨9, .data⟩ (by simp) rfl hd
      have hn1 := q10
      have q13 : done listed 13 = false := nd hcl (j := 13) rfl ⟨9, .phase⟩ (by simp) rfl hd
      have hn2 := q13
      subst hw
      go_simp
      refine (layered_any _ _ _ _ _ _ _).mono ?_
      rintro e w5 ⟨rfl, rfl⟩
      refine hK _ _ ⟨_, _, _, _, _, _, _, _, _, _, _, _, _, rfl, ?_⟩
      exact HI.out.s9 hi hn1 hn2 (rfl)
    | 10, ho =>
      cases ho
      have d6 := hdep ⟨6, .data⟩ (by simp) rfl
      obtain rfl := HI.out.e6 d6
      have d9 := hdep ⟨9, .data⟩ (by simp) rfl
      obtain rfl := HI.out.e9 d9
      have hp0 := hdep ⟨9, .data⟩ (by simp) rfl
      have hw := HI.out.x1 hp0 hd
      have q13 : done listed 13 = false := nd hcl (j := 13) rfl ⟨10, .data⟩ (by simp) rfl hd
      have hn2 := q13
      rw [HW2.out] at hw
      subst hw
      go_simp
      refine (HAP.out.2).mono ?_
      rintro e w5 ⟨v5, rfl, h5⟩
      refine hK _ _ ⟨_, _, _, _, _, _, _, _, _, _, _, _, _, rfl, ?_⟩
      exact HI.out.s10 hi hp0 hn2 (h5.out)
    | 11, ho =>
      cases ho
      have d0 := hdep ⟨0, .data⟩ (by simp) rfl
      obtain rfl := HI.out.e0 d0
      go_simp
      refine hK _ _ ⟨_, _, _, _, _, _, _, _, _, _, _, _, _, rfl, ?_⟩
      exact HI.out.s11
    | 12, ho =>
      cases ho
      have d11 := hdep ⟨11, .data⟩ (by simp) rfl
      obtain rfl := HI.out.e11 d11
      go_simp
      refine hK _ _ ⟨_, _, _, _, _, _, _, _, _, _, _, _, _, rfl, ?_⟩
      exact HI.out.s12
    | 13, ho =>
      cases ho
      have d12 := hdep ⟨12, .data⟩ (by simp) rfl
      obtain rfl := HI.out.e12 d12
      have hp0 := hdep ⟨9, .phase⟩ (by simp) rfl
      have hp1 := hdep ⟨10, .data⟩ (by simp) rfl
      have hw := HI.out.x2 hp1 hd
      obtain ⟨a9, c9, rfl⟩ := ptsAt_form hw.1
      have hc5 := HCELL.out _ _ hw
      have hz5 := HFROZ.out _ _ hw
      go_simp
      refine hK _ _ ⟨_, _, _, _, _, _, _, _, _, _, _, _, _, rfl, ?_⟩
      exact HI.out.s13 hi hp0 hp1 (⟨_, hw, rfl⟩)

set_option maxHeartbeats 2000000 in
set_option maxRecDepth 100000 in
theorem LineLay_some (base baseU tb k g c N gu cu NU : Nat) (cs : Array Value) (ty : TypeId) (ps us : List Silo.Pt) (x0 : Silo.Pt) (us' : List Silo.Pt) (w : World)
    (hb : w.heap[tb]? = some (.cells cs ty (0, 0))) (hk : Kind ty) (hv : cs[k]? = some (.slice (some ⟨g, 0, none⟩) N c)) (hN : ps.length = N) (hNU : us.length = NU) (hr : World.ptsAt w base (.slice (some ⟨g, 0, none⟩) N c) ps) (htb : tb < base) (hbase : base ≤ w.heap.size)
    (hu : World.ptsAt w baseU (.slice (some ⟨gu, 0, none⟩) NU cu) us) (hus : us = x0 :: us') (hap : g ≠ gu) (hris : Silo.Rising ps) (hl : N + NU ≤ 1099511627776) :
    Calls Try.prog 32 #[.pointer (some ⟨tb, k, none⟩), .slice (some ⟨gu, 0, none⟩) NU cu] w fun e w' => e = .returned (.tuple #[]) ∧ ∃ v', w'.heap[tb]? = some (.cells (cs.setIfInBounds k v') ty (0, 0)) ∧ World.ptsAt w' base v' (Silo.mergeL ps us) ∧
      Fp (fun j => j = g ∨ j = tb) w w' ∧ (∀ j, v'.ownBlock = some j → j = g ∨ w.heap.size ≤ j) := by
  have hline : LineAt w base tb k (.slice (some ⟨g, 0, none⟩) N c) ps := ⟨cs, ty, hb, hk, hv, hr, htb⟩
  have hu0 : w.cell? ⟨gu, 0, none⟩ = some (.int .i64 x0.t) := by
    rw [← hNU] at hu
    have h := (ptsAt_cell hu 0 (by rw [hus]; simp)).1
    simp only [hus] at h
    simpa using h
  have hne : ((NU : Int) == 0) = false := by
    have : us.length ≠ 0 := by rw [hus]; simp
    simp; omega
  have hpos : 0 < NU := by rw [← hNU, hus]; simp
  have hcap : N ≤ c := by
    rcases hr.2 with ⟨h1, _⟩ | ⟨g', cap', cur, h3, _, _, h6, _⟩
    · cases h1
    · simp only [Value.slice.injEq] at h3
      omega
  have hfle : Silo.placeOf x0.t ps ≤ N := by rw [← hN]; exact Silo.placeOf_le _ _
  obtain ⟨f, hf⟩ : ∃ f, Silo.placeOf x0.t ps = f := ⟨_, rfl⟩
  rw [hf] at hfle
  have hgt : g ≠ tb := pts_box_ne hr rfl hb hk.2
  have hgl : g < w.heap.size := (World.ownsRow.lt hr g rfl).2
  have H : Hid _ := And.intro hline (And.intro hu (And.intro hris (And.intro hN (And.intro hNU (And.intro hus (And.intro hf (And.intro hb (And.intro hr hv))))))))
  clear hline hu hris hN hNU hus hf hb hk hr hv
  have htl : tb < w.heap.size := by omega
  go_enter Try.func32, Try.ntmps32
  go_wp2_with fail
  refine (LinePlace_any w base tb k (.slice (some ⟨g, 0, none⟩) N c) ps x0.t H.out.1 H.out.2.2.1 (by have := H.out.2.2.2.1; omega)).mono ?_
  rintro e w1 ⟨rfl, h1⟩
  rw [H.out.2.2.2.2.2.2.1]
  have hc1 : w1.cell? ⟨tb, k, none⟩ = some (.slice (some ⟨g, 0, none⟩) N c) := by
    obtain ⟨cs', ty', q1, _, q3, _⟩ := H.out.1
    rw [h1.cell (p := ⟨tb, k, none⟩) (heap_lt q1) (fun h => h)]
    simp [World.cell?, q1, q3]
  have H1 : Hid _ := h1
  clear h1 hu0
  have a1 : (0 : Int) ≤ (f : Int) := by omega
  have a2 : (f : Int) ≤ (N : Int) := by omega
  have a3 : (N : Int) ≤ (c : Int) := by omega
  have a4 : (f : Int) ≤ (c : Int) := by omega
  by_cases hz : c = f
  · obtain rfl : N = f := by omega
    subst hz
    go_wp2_with fail
    refine (show Calls Try.prog 52 #[.slice (some ⟨g, 0, none⟩) 0 0] w1 _ from by have h := Clone_any (some ⟨g, 0, none⟩) 0 (ps.drop c) w1 (.inl (List.drop_of_length_le (by have := H.out.2.2.2.1; omega))) (by rw [List.length_drop]; have := H.out.2.2.2.1; omega); rw [List.length_drop, H.out.2.2.2.1, Nat.sub_self] at h; exact h).mono ?_
    rintro e W ⟨vl, rfl, HC⟩
    have hfW : Fp (fun _ => False) w W := H1.out.trans' HC.out.2
    have hszW : w.heap.size ≤ W.heap.size := hfW.size
    have hcW : W.cell? ⟨tb, k, none⟩ = some (.slice (some ⟨g, 0, none⟩) c c) := by rw [HC.out.2.cell (p := ⟨tb, k, none⟩) (Nat.lt_of_lt_of_le htl H1.out.size) (fun h => h)]; exact hc1
    have hll : (ps.drop c).length ≤ 1099511627776 := by rw [List.length_drop, H.out.2.2.2.1]; omega
    obtain ⟨al, cl, hvl⟩ := ptsAt_form HC.out.1
    obtain ⟨nl, hnl⟩ : ∃ nl, (ps.drop c).length = nl := ⟨_, rfl⟩
    rw [hnl] at hvl
    subst hvl
    obtain ⟨W2, hW2⟩ : ∃ W2, (W.drew.alloc (.cells #[.slice al nl cl] 58)).alloc (.cells #[.slice (some ⟨gu, 0, none⟩) NU cu] 58) = W2 := ⟨_, rfl⟩
    have hf2 : Fp (fun _ => False) W W2 := by rw [← hW2]; exact ((Fp.drew _ W).trans' (Fp.alloc _ _ _)).trans' (Fp.alloc _ _ _)
    have hs2 : W2.heap.size = W.heap.size + 2 := by rw [← hW2]; simp
    have hbl2 : W2.heap[W.heap.size]? = some (.cells #[.slice al nl cl] 58 (0, 0)) := by rw [← hW2]; exact heap_old _ _ (heap_new _ _)
    have hbu2 : W2.heap[W.heap.size + 1]? = some (.cells #[.slice (some ⟨gu, 0, none⟩) NU cu] 58 (0, 0)) := by rw [← hW2]; have := heap_new (W.drew.alloc (.cells #[.slice al nl cl] 58)) (.cells #[.slice (some ⟨gu, 0, none⟩) NU cu] 58); rwa [World.size_alloc] at this
    have hlow2 : World.ptsAt W2 w1.heap.size (.slice al nl cl) (ps.drop c) := Fp.ownsRow hf2 HC.out.1 (fun _ _ h => h)
    have hup2 : World.ptsAt W2 baseU (.slice (some ⟨gu, 0, none⟩) NU cu) us := Fp.ownsRow (hfW.trans' hf2) H.out.2.1 (fun _ _ h => h)
    have hgul : gu < w.heap.size := (World.ownsRow.lt H.out.2.1 gu rfl).2
    have hsq := layeredCl_any 9 (by decide) (W.heap.size + 1) W.heap.size baseU w1.heap.size gu cu NU (.slice al nl cl) us (ps.drop c) W2 H.out.2.2.2.2.1 hbu2 hbl2 hup2 hlow2 (by omega) hll
    have hrow2 : World.ptsAt W2 base (.slice (some ⟨g, 0, none⟩) c c) (ps.take c) := ptsAt_take (N := c) (Fp.ownsRow (hfW.trans' hf2) H.out.2.2.2.2.2.2.2.2.1 (fun _ _ h => h)) H.out.2.2.2.1 (by omega)
    have hw1s : w.heap.size ≤ w1.heap.size := H1.out.size
    obtain ⟨L, hL⟩ : ∃ L, (ps.take c) ++ Silo.mergeL (ps.drop c) us = L := ⟨_, rfl⟩
    have HL : Hid _ := hL
    have HAP : Hid (∃ hq : True, Calls Try.prog 53 #[.slice (some ⟨g, 0, none⟩) c c, .func (.func 73) #[] #[.pointer (some ⟨W.heap.size + 1, 0, none⟩), .pointer (some ⟨W.heap.size, 0, none⟩)]] W2 fun e w' => ∃ v', e = .returned v' ∧ Hid (ALaid base (fun j => j = g) W2 L w' v')) := by
      rw [← hL]
      refine ⟨trivial, (callsIn_wide.1 (AppendSeq_in 10 (by decide) base (.slice (some ⟨g, 0, none⟩) c c) (ps.take c) (Silo.mergeL (ps.drop c) us) 73 _ _ (fun _ => False) W2 hrow2 (by omega) (enters_of Try.func73 (by kernel_rfl) rfl) hsq ?_ ?_ ?_)).mono ?_⟩
      · rintro j (rfl | rfl | rfl | h)
        · omega
        · omega
        · omega
        · exact (World.ownsRow.lt hlow2 _ h).2
      · intro j hj h; simp only [Value.ownBlock, Option.some.injEq] at hj; subst hj; rcases h with h | h | h | h; omega; omega; omega; (have := (World.ownsRow.lt hlow2 _ h).1; omega)
      · have h1 := Silo.mergeL_len us (ps.drop c)
        have h2 := H.out.2.2.2.1
        have h3 := H.out.2.2.2.2.1
        rw [List.length_take]
        rw [List.length_drop] at h1
        omega
      · rintro e w5 ⟨v5, rfl, h5⟩
        exact ⟨v5, rfl, h5.out.1, h5.out.2.1.mono (fun j _ h => by rcases h with h | h; simpa [Value.ownBlock, eq_comm] using h; exact h.elim), fun j hj => (h5.out.2.2 j hj).imp (fun h => by simpa [Value.ownBlock, eq_comm] using h) id⟩
    clear hL
    have hbW : w.heap[tb]? = some (.cells cs ty (0, 0)) := H.out.2.2.2.2.2.2.2.1
    have hb2 : W2.heap[tb]? = some (.cells cs ty (0, 0)) := ((hfW.trans' hf2).block _ htl (fun h => h)).trans hbW
    have HB5 : Hid (∀ w5 v5, ALaid base (fun j => j = g) W2 L w5 v5 → w5.heap[tb]? = some (.cells cs ty (0, 0))) := fun w5 v5 h => (h.2.1.block _ (heap_lt hb2) (fun h => hgt h.symm)).trans hb2
    have HCS : Hid (cs[k]? = some (.slice (some ⟨g, 0, none⟩) c c)) := H.out.2.2.2.2.2.2.2.2.2
    have HCELL : Hid (∀ w5 v5, ALaid base (fun j => j = g) W2 L w5 v5 → w5.cell? ⟨tb, k, none⟩ = some (.slice (some ⟨g, 0, none⟩) c c)) := fun w5 v5 h => by simp [World.cell?, HB5.out w5 v5 h, HCS.out]
    have HFROZ : Hid (∀ w5 v5, ALaid base (fun j => j = g) W2 L w5 v5 → w5.frozen? ⟨tb, k, none⟩ = false) := fun w5 v5 h => by simp [World.frozen?, HB5.out w5 v5 h]
    have HF : Hid (Fp (fun _ => False) w W2 ∧ W2.heap.size = W.heap.size + 2) := ⟨hfW.trans' hf2, hs2⟩
    have hW : tb < W.heap.size := by omega
    have HW2 : Hid _ := hW2
    clear hbW hb2 hsq hrow2 hup2 hlow2 hbu2 hbl2 hs2 hf2 hW2 hfW hc1 hll hnl
    go_wp2_with fail
    refine wp_region_inv (by kernel_rfl) (by kernel_rfl) (fun listed a' w' => ∃ u22 u23 u24 u25 u26 u27 u28 u29 u30 u31 u32 u33 u34 : Value, a' = { tmps := #[.pointer (some ⟨tb, k, none⟩), .slice (some ⟨gu, 0, none⟩) NU cu, undef, undef, .int .i64 (c : Nat), .slice al nl cl, .slice (some ⟨gu, 0, none⟩) NU cu, .int .i64 (NU : Nat), .bool false, .pointer (some ⟨tb, k, none⟩), .slice (some ⟨gu, 0, none⟩) NU cu, .pointer (some ⟨gu, 0, none⟩), .pointer (some ⟨gu, 0, none⟩), .int .i64 x0.t, .int .i64 (c : Nat), .pointer (some ⟨tb, k, none⟩), .pointer (some ⟨tb, k, none⟩), .pointer (some ⟨tb, k, none⟩), .slice (some ⟨g, 0, none⟩) c c, .int .i64 (c : Nat), .slice (some ⟨g, 0, none⟩) 0 0, .slice al nl cl, u22, u23, u24, u25, u26, u27, u28, u29, u30, u31, u32, u33, u34], defers := [] } ∧ Hid (LLy W tb k (c : Nat) (.slice (some ⟨g, 0, none⟩) c c) (.slice (some ⟨g, 0, none⟩) c c) (.slice al nl cl) (.slice (some ⟨gu, 0, none⟩) NU cu) (ALaid base (fun j => j = g) W2 L) listed u22 u23 u24 u25 u26 u27 u28 u29 u30 u31 u32 u33 u34 w')) ?ll0 ?llend ?llstep
    case ll0 => exact ⟨_, _, _, _, _, _, _, _, _, _, _, _, _, rfl, LLy.start (rfl)⟩
    case llend =>
      rintro listed a' w' hall ⟨u22, u23, u24, u25, u26, u27, u28, u29, u30, u31, u32, u33, u34, rfl, HI⟩
      obtain rfl := HI.out.e0 (hall 0 (by decide))
      obtain rfl := HI.out.e1 (hall 1 (by decide))
      obtain rfl := HI.out.e2 (hall 2 (by decide))
      obtain rfl := HI.out.e3 (hall 3 (by decide))
      obtain rfl := HI.out.e4 (hall 4 (by decide))
      obtain rfl := HI.out.e5 (hall 5 (by decide))
      obtain rfl := HI.out.e6 (hall 6 (by decide))
      obtain rfl := HI.out.e7 (hall 7 (by decide))
      obtain rfl := HI.out.e8 (hall 8 (by decide))
      obtain rfl := HI.out.e9 (hall 9 (by decide))
      obtain rfl := HI.out.e11 (hall 11 (by decide))
      obtain rfl := HI.out.e12 (hall 12 (by decide))
      have hw := HI.out.x3 (hall 13 (by decide))
      obtain ⟨w5, hA5, rfl⟩ := hw
      clear HI hall
      have e0 := Silo.layP_eq ps (x0 :: us')
      rw [Silo.layP, H.out.2.2.2.2.2.2.1] at e0
      have e1 : L = Silo.mergeL ps us := by rw [← HL.out, H.out.2.2.2.2.2.1]; exact e0
      have hb5 := HB5.out w5 u32 hA5
      have hst : Fp (fun j => j = tb) w5 (w5.setCell ⟨tb, k, none⟩ u32) := Fp.setCell (S := fun j => j = tb) _ _ _ rfl
      go_end0
      refine ⟨rfl, u32, heap_set hb5 _, ?_, ?_, ?_⟩
      · rw [← e1]; exact Fp.ownsRow hst hA5.1 (fun j hj e => pts_box_ne hA5.1 hj hb5 (LineAt.kind H.out.1 H.out.2.2.2.2.2.2.2.1).2 e)
      · exact (HF.out.1.trans hA5.2.1 (U := fun j => j = g ∨ j = tb) (fun _ h => h.elim) (fun _ _ h => .inl h)).trans hst (fun _ h => h) (fun _ _ h => .inr h)
      · intro j hj
        rcases hA5.2.2 j hj with h | h
        · exact .inl h
        · right; have := HF.out.2; omega
    case llstep =>
      rintro listed a' w' i o ho hi hd hdep hcl ⟨u22, u23, u24, u25, u26, u27, u28, u29, u30, u31, u32, u33, u34, rfl, HI⟩ K hK
      match i, ho with
      | 0, ho =>
        cases ho
        go_simp
        refine hK _ _ ⟨_, _, _, _, _, _, _, _, _, _, _, _, _, rfl, ?_⟩
        exact HI.out.s0
      | 1, ho =>
        cases ho
        go_simp
        refine hK _ _ ⟨_, _, _, _, _, _, _, _, _, _, _, _, _, rfl, ?_⟩
        exact HI.out.s1
      | 2, ho =>
        cases ho
        have d1 := hdep ⟨1, .data⟩ (by simp) rfl
        obtain rfl := HI.out.e1 d1
        go_simp
        refine hK _ _ ⟨_, _, _, _, _, _, _, _, _, _, _, _, _, rfl, ?_⟩
        exact HI.out.s2
      | 3, ho =>
        cases ho
        have d2 := hdep ⟨2, .data⟩ (by simp) rfl
        obtain rfl := HI.out.e2 d2
        go_simp
        refine hK _ _ ⟨_, _, _, _, _, _, _, _, _, _, _, _, _, rfl, ?_⟩
        exact HI.out.s3
      | 4, ho =>
        cases ho
        have d3 := hdep ⟨3, .data⟩ (by simp) rfl
        obtain rfl := HI.out.e3 d3
        have q6 : done listed 6 = false := nd hcl (j := 6) rfl ⟨4, .data⟩ (by simp) rfl hd
        have q10 : done listed 10 = false := nd hcl (j := 10) rfl ⟨6, .data⟩ (by simp) rfl q6
        cases hd9 : done listed 9
        · have hw := HI.out.x0 hd9
          subst hw
          go_simp
          refine hK _ _ ⟨_, _, _, _, _, _, _, _, _, _, _, _, _, rfl, ?_⟩
          exact HI.out.s4
        · skip
          have hw := HI.out.x1 hd9 q10
          subst hw
          go_simp
          refine hK _ _ ⟨_, _, _, _, _, _, _, _, _, _, _, _, _, rfl, ?_⟩
          exact HI.out.s4
      | 5, ho =>
        cases ho
        go_simp
        refine hK _ _ ⟨_, _, _, _, _, _, _, _, _, _, _, _, _, rfl, ?_⟩
        exact HI.out.s5
      | 6, ho =>
        cases ho
        have d4 := hdep ⟨4, .data⟩ (by simp) rfl
        obtain rfl := HI.out.e4 d4
        have d5 := hdep ⟨5, .data⟩ (by simp) rfl
        obtain rfl := HI.out.e5 d5
        go_simp
        refine hK _ _ ⟨_, _, _, _, _, _, _, _, _, _, _, _, _, rfl, ?_⟩
        exact HI.out.s6
      | 7, ho =>
        cases ho
        go_simp
        refine hK _ _ ⟨_, _, _, _, _, _, _, _, _, _, _, _, _, rfl, ?_⟩
        exact HI.out.s7
      | 8, ho =>
        cases ho
        go_simp
        refine hK _ _ ⟨_, _, _, _, _, _, _, _, _, _, _, _, _, rfl, ?_⟩
        exact HI.out.s8
      | 9, ho =>
        cases ho
        have d7 := hdep ⟨7, .data⟩ (by simp) rfl
        obtain rfl := HI.out.e7 d7
        have d8 := hdep ⟨8, .data⟩ (by simp) rfl
        obtain rfl := HI.out.e8 d8
        have hw := HI.out.x0 hd
        have q10 : done listed 10 = false := nd hcl (j := 10) rfl ⟨9, .data⟩ (by simp) rfl hd
        have hn1 := q10
        have q13 : done listed 13 = false := nd hcl (j := 13) rfl ⟨9, .phase⟩ (by simp) rfl hd
        have hn2 := q13
        subst hw
        go_simp
        refine (layered_any _ _ _ _ _ _ _).mono ?_
        rintro e w5 ⟨rfl, rfl⟩
        refine hK _ _ ⟨_, _, _, _, _, _, _, _, _, _, _, _, _, rfl, ?_⟩
        exact HI.out.s9 hi hn1 hn2 (rfl)
      | 10, ho =>
        cases ho
        have d6 := hdep ⟨6, .data⟩ (by simp) rfl
        obtain rfl := HI.out.e6 d6
        have d9 := hdep ⟨9, .data⟩ (by simp) rfl
        obtain rfl := HI.out.e9 d9
        have hp0 := hdep ⟨9, .data⟩ (by simp) rfl
        have hw := HI.out.x1 hp0 hd
        have q13 : done listed 13 = false := nd hcl (j := 13) rfl ⟨10, .data⟩ (by simp) rfl hd
        have hn2 := q13
        rw [HW2.out] at hw
        subst hw
        go_simp
        refine (HAP.out.2).mono ?_
        rintro e w5 ⟨v5, rfl, h5⟩
        refine hK _ _ ⟨_, _, _, _, _, _, _, _, _, _, _, _, _, rfl, ?_⟩
        exact HI.out.s10 hi hp0 hn2 (h5.out)
      | 11, ho =>
        cases ho
        have d0 := hdep ⟨0, .data⟩ (by simp) rfl
        obtain rfl := HI.out.e0 d0
        go_simp
        refine hK _ _ ⟨_, _, _, _, _, _, _, _, _, _, _, _, _, rfl, ?_⟩
        exact HI.out.s11
      | 12, ho =>
        cases ho
        have d11 := hdep ⟨11, .data⟩ (by simp) rfl
        obtain rfl := HI.out.e11 d11
        go_simp
        refine hK _ _ ⟨_, _, _, _, _, _, _, _, _, _, _, _, _, rfl, ?_⟩
        exact HI.out.s12
      | 13, ho =>
        cases ho
        have d12 := hdep ⟨12, .data⟩ (by simp) rfl
        obtain rfl := HI.out.e12 d12
        have hp0 := hdep ⟨9, .phase⟩ (by simp) rfl
        have hp1 := hdep ⟨10, .data⟩ (by simp) rfl
        have hw := HI.out.x2 hp1 hd
        obtain ⟨a9, c9, rfl⟩ := ptsAt_form hw.1
        have hc5 := HCELL.out _ _ hw
        have hz5 := HFROZ.out _ _ hw
        go_simp
        refine hK _ _ ⟨_, _, _, _, _, _, _, _, _, _, _, _, _, rfl, ?_⟩
        exact HI.out.s13 hi hp0 hp1 (⟨_, hw, rfl⟩)
  · skip
    go_wp2_with fail
    refine (show Calls Try.prog 52 #[.slice (some ⟨g, f * 2, none⟩) (N - f) (c - f)] w1 _ from by have h := Clone_any (some ⟨g, f * 2, none⟩) (c - f) (ps.drop f) w1 (ptsAt_in (N := N) (c := c) (Fp.ownsRow H1.out H.out.2.2.2.2.2.2.2.2.1 (fun _ _ h => h)) H.out.2.2.2.1) (by rw [List.length_drop]; have := H.out.2.2.2.1; omega); rw [List.length_drop, H.out.2.2.2.1] at h; exact h).mono ?_
    rintro e W ⟨vl, rfl, HC⟩
    have hfW : Fp (fun _ => False) w W := H1.out.trans' HC.out.2
    have hszW : w.heap.size ≤ W.heap.size := hfW.size
    have hcW : W.cell? ⟨tb, k, none⟩ = some (.slice (some ⟨g, 0, none⟩) N c) := by rw [HC.out.2.cell (p := ⟨tb, k, none⟩) (Nat.lt_of_lt_of_le htl H1.out.size) (fun h => h)]; exact hc1
    have hll : (ps.drop f).length ≤ 1099511627776 := by rw [List.length_drop, H.out.2.2.2.1]; omega
    obtain ⟨al, cl, hvl⟩ := ptsAt_form HC.out.1
    obtain ⟨nl, hnl⟩ : ∃ nl, (ps.drop f).length = nl := ⟨_, rfl⟩
    rw [hnl] at hvl
    subst hvl
    obtain ⟨W2, hW2⟩ : ∃ W2, (W.drew.alloc (.cells #[.slice al nl cl] 58)).alloc (.cells #[.slice (some ⟨gu, 0, none⟩) NU cu] 58) = W2 := ⟨_, rfl⟩
    have hf2 : Fp (fun _ => False) W W2 := by rw [← hW2]; exact ((Fp.drew _ W).trans' (Fp.alloc _ _ _)).trans' (Fp.alloc _ _ _)
    have hs2 : W2.heap.size = W.heap.size + 2 := by rw [← hW2]; simp
    have hbl2 : W2.heap[W.heap.size]? = some (.cells #[.slice al nl cl] 58 (0, 0)) := by rw [← hW2]; exact heap_old _ _ (heap_new _ _)
    have hbu2 : W2.heap[W.heap.size + 1]? = some (.cells #[.slice (some ⟨gu, 0, none⟩) NU cu] 58 (0, 0)) := by rw [← hW2]; have := heap_new (W.drew.alloc (.cells #[.slice al nl cl] 58)) (.cells #[.slice (some ⟨gu, 0, none⟩) NU cu] 58); rwa [World.size_alloc] at this
    have hlow2 : World.ptsAt W2 w1.heap.size (.slice al nl cl) (ps.drop f) := Fp.ownsRow hf2 HC.out.1 (fun _ _ h => h)
    have hup2 : World.ptsAt W2 baseU (.slice (some ⟨gu, 0, none⟩) NU cu) us := Fp.ownsRow (hfW.trans' hf2) H.out.2.1 (fun _ _ h => h)
    have hgul : gu < w.heap.size := (World.ownsRow.lt H.out.2.1 gu rfl).2
    have hsq := layeredCl_any 9 (by decide) (W.heap.size + 1) W.heap.size baseU w1.heap.size gu cu NU (.slice al nl cl) us (ps.drop f) W2 H.out.2.2.2.2.1 hbu2 hbl2 hup2 hlow2 (by omega) hll
    have hrow2 : World.ptsAt W2 base (.slice (some ⟨g, 0, none⟩) f c) (ps.take f) := ptsAt_take (N := N) (Fp.ownsRow (hfW.trans' hf2) H.out.2.2.2.2.2.2.2.2.1 (fun _ _ h => h)) H.out.2.2.2.1 (by omega)
    have hw1s : w.heap.size ≤ w1.heap.size := H1.out.size
    obtain ⟨L, hL⟩ : ∃ L, (ps.take f) ++ Silo.mergeL (ps.drop f) us = L := ⟨_, rfl⟩
    have HL : Hid _ := hL
    have HAP : Hid (∃ hq : True, Calls Try.prog 53 #[.slice (some ⟨g, 0, none⟩) f c, .func (.func 73) #[] #[.pointer (some ⟨W.heap.size + 1, 0, none⟩), .pointer (some ⟨W.heap.size, 0, none⟩)]] W2 fun e w' => ∃ v', e = .returned v' ∧ Hid (ALaid base (fun j => j = g) W2 L w' v')) := by
      rw [← hL]
      refine ⟨trivial, (callsIn_wide.1 (AppendSeq_in 10 (by decide) base (.slice (some ⟨g, 0, none⟩) f c) (ps.take f) (Silo.mergeL (ps.drop f) us) 73 _ _ (fun _ => False) W2 hrow2 (by omega) (enters_of Try.func73 (by kernel_rfl) rfl) hsq ?_ ?_ ?_)).mono ?_⟩
      · rintro j (rfl | rfl | rfl | h)
        · omega
        · omega
        · omega
        · exact (World.ownsRow.lt hlow2 _ h).2
      · intro j hj h; simp only [Value.ownBlock, Option.some.injEq] at hj; subst hj; rcases h with h | h | h | h; omega; omega; omega; (have := (World.ownsRow.lt hlow2 _ h).1; omega)
      · have h1 := Silo.mergeL_len us (ps.drop f)
        have h2 := H.out.2.2.2.1
        have h3 := H.out.2.2.2.2.1
        rw [List.length_take]
        rw [List.length_drop] at h1
        omega
      · rintro e w5 ⟨v5, rfl, h5⟩
        exact ⟨v5, rfl, h5.out.1, h5.out.2.1.mono (fun j _ h => by rcases h with h | h; simpa [Value.ownBlock, eq_comm] using h; exact h.elim), fun j hj => (h5.out.2.2 j hj).imp (fun h => by simpa [Value.ownBlock, eq_comm] using h) id⟩
    clear hL
    have hbW : w.heap[tb]? = some (.cells cs ty (0, 0)) := H.out.2.2.2.2.2.2.2.1
    have hb2 : W2.heap[tb]? = some (.cells cs ty (0, 0)) := ((hfW.trans' hf2).block _ htl (fun h => h)).trans hbW
    have HB5 : Hid (∀ w5 v5, ALaid base (fun j => j = g) W2 L w5 v5 → w5.heap[tb]? = some (.cells cs ty (0, 0))) := fun w5 v5 h => (h.2.1.block _ (heap_lt hb2) (fun h => hgt h.symm)).trans hb2
    have HCS : Hid (cs[k]? = some (.slice (some ⟨g, 0, none⟩) N c)) := H.out.2.2.2.2.2.2.2.2.2
    have HCELL : Hid (∀ w5 v5, ALaid base (fun j => j = g) W2 L w5 v5 → w5.cell? ⟨tb, k, none⟩ = some (.slice (some ⟨g, 0, none⟩) N c)) := fun w5 v5 h => by simp [World.cell?, HB5.out w5 v5 h, HCS.out]
    have HFROZ : Hid (∀ w5 v5, ALaid base (fun j => j = g) W2 L w5 v5 → w5.frozen? ⟨tb, k, none⟩ = false) := fun w5 v5 h => by simp [World.frozen?, HB5.out w5 v5 h]
    have HF : Hid (Fp (fun _ => False) w W2 ∧ W2.heap.size = W.heap.size + 2) := ⟨hfW.trans' hf2, hs2⟩
    have hW : tb < W.heap.size := by omega
    have HW2 : Hid _ := hW2
    clear hbW hb2 hsq hrow2 hup2 hlow2 hbu2 hbl2 hs2 hf2 hW2 hfW hc1 hll hnl
    go_wp2_with fail
    refine wp_region_inv (by kernel_rfl) (by kernel_rfl) (fun listed a' w' => ∃ u22 u23 u24 u25 u26 u27 u28 u29 u30 u31 u32 u33 u34 : Value, a' = { tmps := #[.pointer (some ⟨tb, k, none⟩), .slice (some ⟨gu, 0, none⟩) NU cu, undef, undef, .int .i64 (f : Nat), .slice al nl cl, .slice (some ⟨gu, 0, none⟩) NU cu, .int .i64 (NU : Nat), .bool false, .pointer (some ⟨tb, k, none⟩), .slice (some ⟨gu, 0, none⟩) NU cu, .pointer (some ⟨gu, 0, none⟩), .pointer (some ⟨gu, 0, none⟩), .int .i64 x0.t, .int .i64 (f : Nat), .pointer (some ⟨tb, k, none⟩), .pointer (some ⟨tb, k, none⟩), .pointer (some ⟨tb, k, none⟩), .slice (some ⟨g, 0, none⟩) N c, .int .i64 (f : Nat), .slice (some ⟨g, f * 2, none⟩) (N - f) (c - f), .slice al nl cl, u22, u23, u24, u25, u26, u27, u28, u29, u30, u31, u32, u33, u34], defers := [] } ∧ Hid (LLy W tb k (f : Nat) (.slice (some ⟨g, 0, none⟩) N c) (.slice (some ⟨g, 0, none⟩) f c) (.slice al nl cl) (.slice (some ⟨gu, 0, none⟩) NU cu) (ALaid base (fun j => j = g) W2 L) listed u22 u23 u24 u25 u26 u27 u28 u29 u30 u31 u32 u33 u34 w')) ?ll0 ?llend ?llstep
    case ll0 => exact ⟨_, _, _, _, _, _, _, _, _, _, _, _, _, rfl, LLy.start (rfl)⟩
    case llend =>
      rintro listed a' w' hall ⟨u22, u23, u24, u25, u26, u27, u28, u29, u30, u31, u32, u33, u34, rfl, HI⟩
      obtain rfl := HI.out.e0 (hall 0 (by decide))
      obtain rfl := HI.out.e1 (hall 1 (by decide))
      obtain rfl := HI.out.e2 (hall 2 (by decide))
      obtain rfl := HI.out.e3 (hall 3 (by decide))
      obtain rfl := HI.out.e4 (hall 4 (by decide))
      obtain rfl := HI.out.e5 (hall 5 (by decide))
      obtain rfl := HI.out.e6 (hall 6 (by decide))
      obtain rfl := HI.out.e7 (hall 7 (by decide))
      obtain rfl := HI.out.e8 (hall 8 (by decide))
      obtain rfl := HI.out.e9 (hall 9 (by decide))
      obtain rfl := HI.out.e11 (hall 11 (by decide))
      obtain rfl := HI.out.e12 (hall 12 (by decide))
      have hw := HI.out.x3 (hall 13 (by decide))
      obtain ⟨w5, hA5, rfl⟩ := hw
      clear HI hall
      have e0 := Silo.layP_eq ps (x0 :: us')
      rw [Silo.layP, H.out.2.2.2.2.2.2.1] at e0
      have e1 : L = Silo.mergeL ps us := by rw [← HL.out, H.out.2.2.2.2.2.1]; exact e0
      have hb5 := HB5.out w5 u32 hA5
      have hst : Fp (fun j => j = tb) w5 (w5.setCell ⟨tb, k, none⟩ u32) := Fp.setCell (S := fun j => j = tb) _ _ _ rfl
      go_end0
      refine ⟨rfl, u32, heap_set hb5 _, ?_, ?_, ?_⟩
      · rw [← e1]; exact Fp.ownsRow hst hA5.1 (fun j hj e => pts_box_ne hA5.1 hj hb5 (LineAt.kind H.out.1 H.out.2.2.2.2.2.2.2.1).2 e)
      · exact (HF.out.1.trans hA5.2.1 (U := fun j => j = g ∨ j = tb) (fun _ h => h.elim) (fun _ _ h => .inl h)).trans hst (fun _ h => h) (fun _ _ h => .inr h)
      · intro j hj
        rcases hA5.2.2 j hj with h | h
        · exact .inl h
        · right; have := HF.out.2; omega
    case llstep =>
      rintro listed a' w' i o ho hi hd hdep hcl ⟨u22, u23, u24, u25, u26, u27, u28, u29, u30, u31, u32, u33, u34, rfl, HI⟩ K hK
      match i, ho with
      | 0, ho =>
        cases ho
        go_simp
        refine hK _ _ ⟨_, _, _, _, _, _, _, _, _, _, _, _, _, rfl, ?_⟩
        exact HI.out.s0
      | 1, ho =>
        cases ho
        go_simp
        refine hK _ _ ⟨_, _, _, _, _, _, _, _, _, _, _, _, _, rfl, ?_⟩
        exact HI.out.s1
      | 2, ho =>
        cases ho
        have d1 := hdep ⟨1, .data⟩ (by simp) rfl
        obtain rfl := HI.out.e1 d1
        go_simp
        refine hK _ _ ⟨_, _, _, _, _, _, _, _, _, _, _, _, _, rfl, ?_⟩
        exact HI.out.s2
      | 3, ho =>
        cases ho
        have d2 := hdep ⟨2, .data⟩ (by simp) rfl
        obtain rfl := HI.out.e2 d2
        go_simp
        refine hK _ _ ⟨_, _, _, _, _, _, _, _, _, _, _, _, _, rfl, ?_⟩
        exact HI.out.s3
      | 4, ho =>
        cases ho
        have d3 := hdep ⟨3, .data⟩ (by simp) rfl
        obtain rfl := HI.out.e3 d3
        have q6 : done listed 6 = false := nd hcl (j := 6) rfl ⟨4, .data⟩ (by simp) rfl hd
        have q10 : done listed 10 = false := nd hcl (j := 10) rfl ⟨6, .data⟩ (by simp) rfl q6
        cases hd9 : done listed 9
        · have hw := HI.out.x0 hd9
          subst hw
          go_simp
          refine hK _ _ ⟨_, _, _, _, _, _, _, _, _, _, _, _, _, rfl, ?_⟩
          exact HI.out.s4
        · skip
          have hw := HI.out.x1 hd9 q10
          subst hw
          go_simp
          refine hK _ _ ⟨_, _, _, _, _, _, _, _, _, _, _, _, _, rfl, ?_⟩
          exact HI.out.s4
      | 5, ho =>
        cases ho
        go_simp
        refine hK _ _ ⟨_, _, _, _, _, _, _, _, _, _, _, _, _, rfl, ?_⟩
        exact HI.out.s5
      | 6, ho =>
        cases ho
        have d4 := hdep ⟨4, .data⟩ (by simp) rfl
        obtain rfl := HI.out.e4 d4
        have d5 := hdep ⟨5, .data⟩ (by simp) rfl
        obtain rfl := HI.out.e5 d5
        go_simp
        refine hK _ _ ⟨_, _, _, _, _, _, _, _, _, _, _, _, _, rfl, ?_⟩
        exact HI.out.s6
      | 7, ho =>
        cases ho
        go_simp
        refine hK _ _ ⟨_, _, _, _, _, _, _, _, _, _, _, _, _, rfl, ?_⟩
        exact HI.out.s7
      | 8, ho =>
        cases ho
        go_simp
        refine hK _ _ ⟨_, _, _, _, _, _, _, _, _, _, _, _, _, rfl, ?_⟩
        exact HI.out.s8
      | 9, ho =>
        cases ho
        have d7 := hdep ⟨7, .data⟩ (by simp) rfl
        obtain rfl := HI.out.e7 d7
        have d8 := hdep ⟨8, .data⟩ (by simp) rfl
        obtain rfl := HI.out.e8 d8
        have hw := HI.out.x0 hd
        have q10 : done listed 10 = false := nd hcl (j := 10) rfl ⟨9, .data⟩ (by simp) rfl hd
        have hn1 := q10
        have q13 : done listed 13 = false := nd hcl (j := 13) rfl ⟨9, .phase⟩ (by simp) rfl hd
        have hn2 := q13
        subst hw
        go_simp
        refine (layered_any _ _ _ _ _ _ _).mono ?_
        rintro e w5 ⟨rfl, rfl⟩
        refine hK _ _ ⟨_, _, _, _, _, _, _, _, _, _, _, _, _, rfl, ?_⟩
        exact HI.out.s9 hi hn1 hn2 (rfl)
      | 10, ho =>
        cases ho
        have d6 := hdep ⟨6, .data⟩ (by simp) rfl
        obtain rfl := HI.out.e6 d6
        have d9 := hdep ⟨9, .data⟩ (by simp) rfl
        obtain rfl := HI.out.e9 d9
        have hp0 := hdep ⟨9, .data⟩ (by simp) rfl
        have hw := HI.out.x1 hp0 hd
        have q13 : done listed 13 = false := nd hcl (j := 13) rfl ⟨10, .data⟩ (by simp) rfl hd
        have hn2 := q13
        rw [HW2.out] at hw
        subst hw
        go_simp
        refine (HAP.out.2).mono ?_
        rintro e w5 ⟨v5, rfl, h5⟩
        refine hK _ _ ⟨_, _, _, _, _, _, _, _, _, _, _, _, _, rfl, ?_⟩
        exact HI.out.s10 hi hp0 hn2 (h5.out)
      | 11, ho =>
        cases ho
        have d0 := hdep ⟨0, .data⟩ (by simp) rfl
        obtain rfl := HI.out.e0 d0
        go_simp
        refine hK _ _ ⟨_, _, _, _, _, _, _, _, _, _, _, _, _, rfl, ?_⟩
        exact HI.out.s11
      | 12, ho =>
        cases ho
        have d11 := hdep ⟨11, .data⟩ (by simp) rfl
        obtain rfl := HI.out.e11 d11
        go_simp
        refine hK _ _ ⟨_, _, _, _, _, _, _, _, _, _, _, _, _, rfl, ?_⟩
        exact HI.out.s12
      | 13, ho =>
        cases ho
        have d12 := hdep ⟨12, .data⟩ (by simp) rfl
        obtain rfl := HI.out.e12 d12
        have hp0 := hdep ⟨9, .phase⟩ (by simp) rfl
        have hp1 := hdep ⟨10, .data⟩ (by simp) rfl
        have hw := HI.out.x2 hp1 hd
        obtain ⟨a9, c9, rfl⟩ := ptsAt_form hw.1
        have hc5 := HCELL.out _ _ hw
        have hz5 := HFROZ.out _ _ hw
        go_simp
        refine hK _ _ ⟨_, _, _, _, _, _, _, _, _, _, _, _, _, rfl, ?_⟩
        exact HI.out.s13 hi hp0 hp1 (⟨_, hw, rfl⟩)

end Go.Proofs.Ytojjkjfcbfoinaa
