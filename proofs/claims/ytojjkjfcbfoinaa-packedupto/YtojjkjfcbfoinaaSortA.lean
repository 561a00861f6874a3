/- The library's insertion sort over points, by times. -/
import Derived.Test.YtojjkjfcbfoinaaValues
import Derived.Test.YtojjkjfcbfoinaaLeaf
import Derived.Test.YtojjkjfcbfoinaaPure4
import Derived.Test.YtojjkjfcbfoinaaSeriesAid
namespace Go.Proofs.Ytojjkjfcbfoinaa
open Go.RowKit
open Silo (ptAt sw)

attribute [local go_sem] Oper.semAt_some

/-- Block g holds the points ps, and 'tail' behind them. -/
def PB (w : World) (g : Nat) (ps : List Silo.Pt) (tail : List Value) : Prop := w.heap[g]? = some (.cells (ptCells ps ++ tail).toArray 80 (0, 0))

/-- The slice over them. -/
abbrev psl (g : Nat) (ps : List Silo.Pt) (cap : Nat) : Value := .slice (some ⟨g, 0, none⟩) ps.length cap

theorem PB.cell {w : World} {g : Nat} {ps : List Silo.Pt} {tail : List Value} (h : PB w g ps tail) (k : Nat) (hk : k < ps.length) :
    w.cell? ⟨g, k * 2, none⟩ = some (.int .i64 (ptAt ps k).t) ∧ w.cell? ⟨g, k * 2 + 1, none⟩ = some (.int .u64 ((ptAt ps k).v : Nat)) := by
  have h1 := ptCells_at ps k hk
  have hl := ptCells_length ps
  rw [Silo.ptAt_eq ps k hk]
  unfold PB at h
  constructor
  · simp only [World.cell?, h]
    simp only [Option.isSome_none, Bool.false_eq_true, if_false, List.getElem?_toArray]
    rw [List.getElem?_append_left (by omega)]; exact h1.1
  · simp only [World.cell?, h]
    simp only [Option.isSome_none, Bool.false_eq_true, if_false, List.getElem?_toArray]
    rw [List.getElem?_append_left (by omega)]; exact h1.2

theorem PB.frozen {w : World} {g : Nat} {ps : List Silo.Pt} {tail : List Value} (h : PB w g ps tail) (i : Nat) : w.frozen? ⟨g, i, none⟩ = false := by
  unfold PB at h; simp [World.frozen?, h]

theorem PB.fp {S : Nat → Prop} {w w' : World} {g : Nat} {ps : List Silo.Pt} {tail : List Value} (h : PB w g ps tail) (hf : Fp S w w') (hs : ¬ S g) : PB w' g ps tail :=
  (hf.block g (heap_lt h) hs).trans h

theorem PB.drew {w : World} {g : Nat} {ps : List Silo.Pt} {tail : List Value} (h : PB w g ps tail) : PB w.drew g ps tail := h

theorem ptCells_set : ∀ (ps : List Silo.Pt) (k : Nat) (p : Silo.Pt), k < ps.length → ptCells (ps.set k p) = ((ptCells ps).set (k * 2) (.int .i64 p.t)).set (k * 2 + 1) (.int .u64 (p.v : Nat)) := by
  intro ps
  induction ps with
  | nil => intro k p h; simp at h
  | cons q ps ih =>
    intro k p h
    cases k with
    | zero => rfl
    | succ k =>
      have e : ptCells (q :: ps) = Value.int .i64 q.t :: Value.int .u64 (q.v : Nat) :: ptCells ps := rfl
      have e' : ptCells ((q :: ps).set (k + 1) p) = Value.int .i64 q.t :: Value.int .u64 (q.v : Nat) :: ptCells (ps.set k p) := rfl
      have e1 : (k + 1) * 2 = k * 2 + 1 + 1 := by omega
      rw [e, e', e1, ih k p (by simpa using h)]
      rfl

theorem PB.put {w : World} {g : Nat} {ps : List Silo.Pt} {tail : List Value} (h : PB w g ps tail) (k : Nat) (hk : k < ps.length) (p : Silo.Pt) :
    PB ((w.setCell ⟨g, k * 2, none⟩ (.int .i64 p.t)).setCell ⟨g, k * 2 + 1, none⟩ (.int .u64 (p.v : Nat))) g (ps.set k p) tail := by
  have hl := ptCells_length ps
  unfold PB
  rw [heap_set (heap_set h _) _, ptCells_set ps k p hk]
  congr 2
  apply Array.toList_inj.1
  simp only [Array.toList_setIfInBounds]
  rw [List.set_append_left _ _ (by omega), List.set_append_left _ _ (by simp; omega)]

theorem cmpI_lt (a b : Int) : (cmpI a b < 0) ↔ a < b := by
  unfold cmpI
  split
  · simp [*]
  · split <;> omega

/-- In the midst of the comparison, in whatever order. -/
structure InsCmp (W : World) (g N cap a j j2 : Nat) (qs : List Silo.Pt) (listed : Array Bool) (u18 u19 u20 u21 u22 u23 u24 u25 u26 u27 u28 u29 u30 u31 u32 u33 u34 : Value) (w' : World) : Prop where
  e0 : done listed 0 = true → u18 = .int .i64 (j2 : Nat)
  e1 : done listed 1 = true → u19 = .int .i64 a
  e2 : done listed 2 = true → u20 = .bool true
  e3 : done listed 3 = true → u21 = .bool true
  e4 : done listed 4 = true → u22 = .func (.func 56) #[] #[]
  e5 : done listed 5 = true → u23 = .slice (some ⟨g, 0, none⟩) N cap
  e6 : done listed 6 = true → u24 = .int .i64 (j2 : Nat)
  e7 : done listed 7 = true → u25 = .pointer (some ⟨g, j2 * 2, none⟩)
  e8 : done listed 8 = true → u26 = .agg #[.int .i64 (ptAt qs j2).t, .int .u64 ((ptAt qs j2).v : Nat)]
  e9 : done listed 9 = true → u27 = .slice (some ⟨g, 0, none⟩) N cap
  e10 : done listed 10 = true → u28 = .int .i64 (j2 : Nat)
  e11 : done listed 11 = true → u29 = .int .i64 (j : Nat)
  e12 : done listed 12 = true → u30 = .pointer (some ⟨g, j * 2, none⟩)
  e13 : done listed 13 = true → u31 = .agg #[.int .i64 (ptAt qs j).t, .int .u64 ((ptAt qs j).v : Nat)]
  e14 : done listed 14 = true → u32 = .int .i64 (cmpI (ptAt qs j2).t (ptAt qs j).t)
  e15 : done listed 15 = true → u33 = .bool (decide (cmpI (ptAt qs j2).t (ptAt qs j).t < 0))
  e16 : done listed 16 = true → u34 = .bool (decide (cmpI (ptAt qs j2).t (ptAt qs j).t < 0))
  x0 : done listed 14 = false → w' = W.drew
  x1 : done listed 14 = true → Fp (fun _ => False) W w'

section
variable {W : World} {g N cap a j j2 : Nat} {qs : List Silo.Pt} {listed : Array Bool} {u18 u19 u20 u21 u22 u23 u24 u25 u26 u27 u28 u29 u30 u31 u32 u33 u34 : Value} {w' : World}

theorem InsCmp.start {k : Nat} (h : w' = W.drew) : InsCmp W g N cap a j j2 qs (Array.replicate k false) u18 u19 u20 u21 u22 u23 u24 u25 u26 u27 u28 u29 u30 u31 u32 u33 u34 w' := by
  constructor <;> first | exact h | (intro d; first | exact h | (rw [done_rep] at d; cases d))

theorem InsCmp.s0 (h : InsCmp W g N cap a j j2 qs listed u18 u19 u20 u21 u22 u23 u24 u25 u26 u27 u28 u29 u30 u31 u32 u33 u34 w') : InsCmp W g N cap a j j2 qs (listed.setIfInBounds 0 true) (.int .i64 (j2 : Nat)) u19 u20 u21 u22 u23 u24 u25 u26 u27 u28 u29 u30 u31 u32 u33 u34 w' :=
  ⟨fun _ => rfl, fun d => h.e1 (done_of_set d (by decide)), fun d => h.e2 (done_of_set d (by decide)), fun d => h.e3 (done_of_set d (by decide)), fun d => h.e4 (done_of_set d (by decide)), fun d => h.e5 (done_of_set d (by decide)), fun d => h.e6 (done_of_set d (by decide)), fun d => h.e7 (done_of_set d (by decide)), fun d => h.e8 (done_of_set d (by decide)), fun d => h.e9 (done_of_set d (by decide)), fun d => h.e10 (done_of_set d (by decide)), fun d => h.e11 (done_of_set d (by decide)), fun d => h.e12 (done_of_set d (by decide)), fun d => h.e13 (done_of_set d (by decide)), fun d => h.e14 (done_of_set d (by decide)), fun d => h.e15 (done_of_set d (by decide)), fun d => h.e16 (done_of_set d (by decide)), fun d => h.x0 (undone_of_set d), fun d => h.x1 (done_of_set d (by decide))⟩

theorem InsCmp.s1 (h : InsCmp W g N cap a j j2 qs listed u18 u19 u20 u21 u22 u23 u24 u25 u26 u27 u28 u29 u30 u31 u32 u33 u34 w') : InsCmp W g N cap a j j2 qs (listed.setIfInBounds 1 true) u18 (.int .i64 a) u20 u21 u22 u23 u24 u25 u26 u27 u28 u29 u30 u31 u32 u33 u34 w' :=
  ⟨fun d => h.e0 (done_of_set d (by decide)), fun _ => rfl, fun d => h.e2 (done_of_set d (by decide)), fun d => h.e3 (done_of_set d (by decide)), fun d => h.e4 (done_of_set d (by decide)), fun d => h.e5 (done_of_set d (by decide)), fun d => h.e6 (done_of_set d (by decide)), fun d => h.e7 (done_of_set d (by decide)), fun d => h.e8 (done_of_set d (by decide)), fun d => h.e9 (done_of_set d (by decide)), fun d => h.e10 (done_of_set d (by decide)), fun d => h.e11 (done_of_set d (by decide)), fun d => h.e12 (done_of_set d (by decide)), fun d => h.e13 (done_of_set d (by decide)), fun d => h.e14 (done_of_set d (by decide)), fun d => h.e15 (done_of_set d (by decide)), fun d => h.e16 (done_of_set d (by decide)), fun d => h.x0 (undone_of_set d), fun d => h.x1 (done_of_set d (by decide))⟩

theorem InsCmp.s2 (h : InsCmp W g N cap a j j2 qs listed u18 u19 u20 u21 u22 u23 u24 u25 u26 u27 u28 u29 u30 u31 u32 u33 u34 w') : InsCmp W g N cap a j j2 qs (listed.setIfInBounds 2 true) u18 u19 (.bool true) u21 u22 u23 u24 u25 u26 u27 u28 u29 u30 u31 u32 u33 u34 w' :=
  ⟨fun d => h.e0 (done_of_set d (by decide)), fun d => h.e1 (done_of_set d (by decide)), fun _ => rfl, fun d => h.e3 (done_of_set d (by decide)), fun d => h.e4 (done_of_set d (by decide)), fun d => h.e5 (done_of_set d (by decide)), fun d => h.e6 (done_of_set d (by decide)), fun d => h.e7 (done_of_set d (by decide)), fun d => h.e8 (done_of_set d (by decide)), fun d => h.e9 (done_of_set d (by decide)), fun d => h.e10 (done_of_set d (by decide)), fun d => h.e11 (done_of_set d (by decide)), fun d => h.e12 (done_of_set d (by decide)), fun d => h.e13 (done_of_set d (by decide)), fun d => h.e14 (done_of_set d (by decide)), fun d => h.e15 (done_of_set d (by decide)), fun d => h.e16 (done_of_set d (by decide)), fun d => h.x0 (undone_of_set d), fun d => h.x1 (done_of_set d (by decide))⟩

theorem InsCmp.s3 (h : InsCmp W g N cap a j j2 qs listed u18 u19 u20 u21 u22 u23 u24 u25 u26 u27 u28 u29 u30 u31 u32 u33 u34 w') : InsCmp W g N cap a j j2 qs (listed.setIfInBounds 3 true) u18 u19 u20 (.bool true) u22 u23 u24 u25 u26 u27 u28 u29 u30 u31 u32 u33 u34 w' :=
  ⟨fun d => h.e0 (done_of_set d (by decide)), fun d => h.e1 (done_of_set d (by decide)), fun d => h.e2 (done_of_set d (by decide)), fun _ => rfl, fun d => h.e4 (done_of_set d (by decide)), fun d => h.e5 (done_of_set d (by decide)), fun d => h.e6 (done_of_set d (by decide)), fun d => h.e7 (done_of_set d (by decide)), fun d => h.e8 (done_of_set d (by decide)), fun d => h.e9 (done_of_set d (by decide)), fun d => h.e10 (done_of_set d (by decide)), fun d => h.e11 (done_of_set d (by decide)), fun d => h.e12 (done_of_set d (by decide)), fun d => h.e13 (done_of_set d (by decide)), fun d => h.e14 (done_of_set d (by decide)), fun d => h.e15 (done_of_set d (by decide)), fun d => h.e16 (done_of_set d (by decide)), fun d => h.x0 (undone_of_set d), fun d => h.x1 (done_of_set d (by decide))⟩

theorem InsCmp.s4 (h : InsCmp W g N cap a j j2 qs listed u18 u19 u20 u21 u22 u23 u24 u25 u26 u27 u28 u29 u30 u31 u32 u33 u34 w') : InsCmp W g N cap a j j2 qs (listed.setIfInBounds 4 true) u18 u19 u20 u21 (.func (.func 56) #[] #[]) u23 u24 u25 u26 u27 u28 u29 u30 u31 u32 u33 u34 w' :=
  ⟨fun d => h.e0 (done_of_set d (by decide)), fun d => h.e1 (done_of_set d (by decide)), fun d => h.e2 (done_of_set d (by decide)), fun d => h.e3 (done_of_set d (by decide)), fun _ => rfl, fun d => h.e5 (done_of_set d (by decide)), fun d => h.e6 (done_of_set d (by decide)), fun d => h.e7 (done_of_set d (by decide)), fun d => h.e8 (done_of_set d (by decide)), fun d => h.e9 (done_of_set d (by decide)), fun d => h.e10 (done_of_set d (by decide)), fun d => h.e11 (done_of_set d (by decide)), fun d => h.e12 (done_of_set d (by decide)), fun d => h.e13 (done_of_set d (by decide)), fun d => h.e14 (done_of_set d (by decide)), fun d => h.e15 (done_of_set d (by decide)), fun d => h.e16 (done_of_set d (by decide)), fun d => h.x0 (undone_of_set d), fun d => h.x1 (done_of_set d (by decide))⟩

theorem InsCmp.s5 (h : InsCmp W g N cap a j j2 qs listed u18 u19 u20 u21 u22 u23 u24 u25 u26 u27 u28 u29 u30 u31 u32 u33 u34 w') : InsCmp W g N cap a j j2 qs (listed.setIfInBounds 5 true) u18 u19 u20 u21 u22 (.slice (some ⟨g, 0, none⟩) N cap) u24 u25 u26 u27 u28 u29 u30 u31 u32 u33 u34 w' :=
  ⟨fun d => h.e0 (done_of_set d (by decide)), fun d => h.e1 (done_of_set d (by decide)), fun d => h.e2 (done_of_set d (by decide)), fun d => h.e3 (done_of_set d (by decide)), fun d => h.e4 (done_of_set d (by decide)), fun _ => rfl, fun d => h.e6 (done_of_set d (by decide)), fun d => h.e7 (done_of_set d (by decide)), fun d => h.e8 (done_of_set d (by decide)), fun d => h.e9 (done_of_set d (by decide)), fun d => h.e10 (done_of_set d (by decide)), fun d => h.e11 (done_of_set d (by decide)), fun d => h.e12 (done_of_set d (by decide)), fun d => h.e13 (done_of_set d (by decide)), fun d => h.e14 (done_of_set d (by decide)), fun d => h.e15 (done_of_set d (by decide)), fun d => h.e16 (done_of_set d (by decide)), fun d => h.x0 (undone_of_set d), fun d => h.x1 (done_of_set d (by decide))⟩

theorem InsCmp.s6 (h : InsCmp W g N cap a j j2 qs listed u18 u19 u20 u21 u22 u23 u24 u25 u26 u27 u28 u29 u30 u31 u32 u33 u34 w') : InsCmp W g N cap a j j2 qs (listed.setIfInBounds 6 true) u18 u19 u20 u21 u22 u23 (.int .i64 (j2 : Nat)) u25 u26 u27 u28 u29 u30 u31 u32 u33 u34 w' :=
  ⟨fun d => h.e0 (done_of_set d (by decide)), fun d => h.e1 (done_of_set d (by decide)), fun d => h.e2 (done_of_set d (by decide)), fun d => h.e3 (done_of_set d (by decide)), fun d => h.e4 (done_of_set d (by decide)), fun d => h.e5 (done_of_set d (by decide)), fun _ => rfl, fun d => h.e7 (done_of_set d (by decide)), fun d => h.e8 (done_of_set d (by decide)), fun d => h.e9 (done_of_set d (by decide)), fun d => h.e10 (done_of_set d (by decide)), fun d => h.e11 (done_of_set d (by decide)), fun d => h.e12 (done_of_set d (by decide)), fun d => h.e13 (done_of_set d (by decide)), fun d => h.e14 (done_of_set d (by decide)), fun d => h.e15 (done_of_set d (by decide)), fun d => h.e16 (done_of_set d (by decide)), fun d => h.x0 (undone_of_set d), fun d => h.x1 (done_of_set d (by decide))⟩

theorem InsCmp.s7 (h : InsCmp W g N cap a j j2 qs listed u18 u19 u20 u21 u22 u23 u24 u25 u26 u27 u28 u29 u30 u31 u32 u33 u34 w') : InsCmp W g N cap a j j2 qs (listed.setIfInBounds 7 true) u18 u19 u20 u21 u22 u23 u24 (.pointer (some ⟨g, j2 * 2, none⟩)) u26 u27 u28 u29 u30 u31 u32 u33 u34 w' :=
  ⟨fun d => h.e0 (done_of_set d (by decide)), fun d => h.e1 (done_of_set d (by decide)), fun d => h.e2 (done_of_set d (by decide)), fun d => h.e3 (done_of_set d (by decide)), fun d => h.e4 (done_of_set d (by decide)), fun d => h.e5 (done_of_set d (by decide)), fun d => h.e6 (done_of_set d (by decide)), fun _ => rfl, fun d => h.e8 (done_of_set d (by decide)), fun d => h.e9 (done_of_set d (by decide)), fun d => h.e10 (done_of_set d (by decide)), fun d => h.e11 (done_of_set d (by decide)), fun d => h.e12 (done_of_set d (by decide)), fun d => h.e13 (done_of_set d (by decide)), fun d => h.e14 (done_of_set d (by decide)), fun d => h.e15 (done_of_set d (by decide)), fun d => h.e16 (done_of_set d (by decide)), fun d => h.x0 (undone_of_set d), fun d => h.x1 (done_of_set d (by decide))⟩

theorem InsCmp.s8 (h : InsCmp W g N cap a j j2 qs listed u18 u19 u20 u21 u22 u23 u24 u25 u26 u27 u28 u29 u30 u31 u32 u33 u34 w') : InsCmp W g N cap a j j2 qs (listed.setIfInBounds 8 true) u18 u19 u20 u21 u22 u23 u24 u25 (.agg #[.int .i64 (ptAt qs j2).t, .int .u64 ((ptAt qs j2).v : Nat)]) u27 u28 u29 u30 u31 u32 u33 u34 w' :=
  ⟨fun d => h.e0 (done_of_set d (by decide)), fun d => h.e1 (done_of_set d (by decide)), fun d => h.e2 (done_of_set d (by decide)), fun d => h.e3 (done_of_set d (by decide)), fun d => h.e4 (done_of_set d (by decide)), fun d => h.e5 (done_of_set d (by decide)), fun d => h.e6 (done_of_set d (by decide)), fun d => h.e7 (done_of_set d (by decide)), fun _ => rfl, fun d => h.e9 (done_of_set d (by decide)), fun d => h.e10 (done_of_set d (by decide)), fun d => h.e11 (done_of_set d (by decide)), fun d => h.e12 (done_of_set d (by decide)), fun d => h.e13 (done_of_set d (by decide)), fun d => h.e14 (done_of_set d (by decide)), fun d => h.e15 (done_of_set d (by decide)), fun d => h.e16 (done_of_set d (by decide)), fun d => h.x0 (undone_of_set d), fun d => h.x1 (done_of_set d (by decide))⟩

theorem InsCmp.s9 (h : InsCmp W g N cap a j j2 qs listed u18 u19 u20 u21 u22 u23 u24 u25 u26 u27 u28 u29 u30 u31 u32 u33 u34 w') : InsCmp W g N cap a j j2 qs (listed.setIfInBounds 9 true) u18 u19 u20 u21 u22 u23 u24 u25 u26 (.slice (some ⟨g, 0, none⟩) N cap) u28 u29 u30 u31 u32 u33 u34 w' :=
  ⟨fun d => h.e0 (done_of_set d (by decide)), fun d => h.e1 (done_of_set d (by decide)), fun d => h.e2 (done_of_set d (by decide)), fun d => h.e3 (done_of_set d (by decide)), fun d => h.e4 (done_of_set d (by decide)), fun d => h.e5 (done_of_set d (by decide)), fun d => h.e6 (done_of_set d (by decide)), fun d => h.e7 (done_of_set d (by decide)), fun d => h.e8 (done_of_set d (by decide)), fun _ => rfl, fun d => h.e10 (done_of_set d (by decide)), fun d => h.e11 (done_of_set d (by decide)), fun d => h.e12 (done_of_set d (by decide)), fun d => h.e13 (done_of_set d (by decide)), fun d => h.e14 (done_of_set d (by decide)), fun d => h.e15 (done_of_set d (by decide)), fun d => h.e16 (done_of_set d (by decide)), fun d => h.x0 (undone_of_set d), fun d => h.x1 (done_of_set d (by decide))⟩

theorem InsCmp.s10 (h : InsCmp W g N cap a j j2 qs listed u18 u19 u20 u21 u22 u23 u24 u25 u26 u27 u28 u29 u30 u31 u32 u33 u34 w') : InsCmp W g N cap a j j2 qs (listed.setIfInBounds 10 true) u18 u19 u20 u21 u22 u23 u24 u25 u26 u27 (.int .i64 (j2 : Nat)) u29 u30 u31 u32 u33 u34 w' :=
  ⟨fun d => h.e0 (done_of_set d (by decide)), fun d => h.e1 (done_of_set d (by decide)), fun d => h.e2 (done_of_set d (by decide)), fun d => h.e3 (done_of_set d (by decide)), fun d => h.e4 (done_of_set d (by decide)), fun d => h.e5 (done_of_set d (by decide)), fun d => h.e6 (done_of_set d (by decide)), fun d => h.e7 (done_of_set d (by decide)), fun d => h.e8 (done_of_set d (by decide)), fun d => h.e9 (done_of_set d (by decide)), fun _ => rfl, fun d => h.e11 (done_of_set d (by decide)), fun d => h.e12 (done_of_set d (by decide)), fun d => h.e13 (done_of_set d (by decide)), fun d => h.e14 (done_of_set d (by decide)), fun d => h.e15 (done_of_set d (by decide)), fun d => h.e16 (done_of_set d (by decide)), fun d => h.x0 (undone_of_set d), fun d => h.x1 (done_of_set d (by decide))⟩

theorem InsCmp.s11 (h : InsCmp W g N cap a j j2 qs listed u18 u19 u20 u21 u22 u23 u24 u25 u26 u27 u28 u29 u30 u31 u32 u33 u34 w') : InsCmp W g N cap a j j2 qs (listed.setIfInBounds 11 true) u18 u19 u20 u21 u22 u23 u24 u25 u26 u27 u28 (.int .i64 (j : Nat)) u30 u31 u32 u33 u34 w' :=
  ⟨fun d => h.e0 (done_of_set d (by decide)), fun d => h.e1 (done_of_set d (by decide)), fun d => h.e2 (done_of_set d (by decide)), fun d => h.e3 (done_of_set d (by decide)), fun d => h.e4 (done_of_set d (by decide)), fun d => h.e5 (done_of_set d (by decide)), fun d => h.e6 (done_of_set d (by decide)), fun d => h.e7 (done_of_set d (by decide)), fun d => h.e8 (done_of_set d (by decide)), fun d => h.e9 (done_of_set d (by decide)), fun d => h.e10 (done_of_set d (by decide)), fun _ => rfl, fun d => h.e12 (done_of_set d (by decide)), fun d => h.e13 (done_of_set d (by decide)), fun d => h.e14 (done_of_set d (by decide)), fun d => h.e15 (done_of_set d (by decide)), fun d => h.e16 (done_of_set d (by decide)), fun d => h.x0 (undone_of_set d), fun d => h.x1 (done_of_set d (by decide))⟩

theorem InsCmp.s12 (h : InsCmp W g N cap a j j2 qs listed u18 u19 u20 u21 u22 u23 u24 u25 u26 u27 u28 u29 u30 u31 u32 u33 u34 w') : InsCmp W g N cap a j j2 qs (listed.setIfInBounds 12 true) u18 u19 u20 u21 u22 u23 u24 u25 u26 u27 u28 u29 (.pointer (some ⟨g, j * 2, none⟩)) u31 u32 u33 u34 w' :=
  ⟨fun d => h.e0 (done_of_set d (by decide)), fun d => h.e1 (done_of_set d (by decide)), fun d => h.e2 (done_of_set d (by decide)), fun d => h.e3 (done_of_set d (by decide)), fun d => h.e4 (done_of_set d (by decide)), fun d => h.e5 (done_of_set d (by decide)), fun d => h.e6 (done_of_set d (by decide)), fun d => h.e7 (done_of_set d (by decide)), fun d => h.e8 (done_of_set d (by decide)), fun d => h.e9 (done_of_set d (by decide)), fun d => h.e10 (done_of_set d (by decide)), fun d => h.e11 (done_of_set d (by decide)), fun _ => rfl, fun d => h.e13 (done_of_set d (by decide)), fun d => h.e14 (done_of_set d (by decide)), fun d => h.e15 (done_of_set d (by decide)), fun d => h.e16 (done_of_set d (by decide)), fun d => h.x0 (undone_of_set d), fun d => h.x1 (done_of_set d (by decide))⟩

theorem InsCmp.s13 (h : InsCmp W g N cap a j j2 qs listed u18 u19 u20 u21 u22 u23 u24 u25 u26 u27 u28 u29 u30 u31 u32 u33 u34 w') : InsCmp W g N cap a j j2 qs (listed.setIfInBounds 13 true) u18 u19 u20 u21 u22 u23 u24 u25 u26 u27 u28 u29 u30 (.agg #[.int .i64 (ptAt qs j).t, .int .u64 ((ptAt qs j).v : Nat)]) u32 u33 u34 w' :=
  ⟨fun d => h.e0 (done_of_set d (by decide)), fun d => h.e1 (done_of_set d (by decide)), fun d => h.e2 (done_of_set d (by decide)), fun d => h.e3 (done_of_set d (by decide)), fun d => h.e4 (done_of_set d (by decide)), fun d => h.e5 (done_of_set d (by decide)), fun d => h.e6 (done_of_set d (by decide)), fun d => h.e7 (done_of_set d (by decide)), fun d => h.e8 (done_of_set d (by decide)), fun d => h.e9 (done_of_set d (by decide)), fun d => h.e10 (done_of_set d (by decide)), fun d => h.e11 (done_of_set d (by decide)), fun d => h.e12 (done_of_set d (by decide)), fun _ => rfl, fun d => h.e14 (done_of_set d (by decide)), fun d => h.e15 (done_of_set d (by decide)), fun d => h.e16 (done_of_set d (by decide)), fun d => h.x0 (undone_of_set d), fun d => h.x1 (done_of_set d (by decide))⟩

theorem InsCmp.s14 {w2 : World} (h : InsCmp W g N cap a j j2 qs listed u18 u19 u20 u21 u22 u23 u24 u25 u26 u27 u28 u29 u30 u31 u32 u33 u34 w') (hi : 14 < listed.size) (hS : Fp (fun _ => False) W w2) : InsCmp W g N cap a j j2 qs (listed.setIfInBounds 14 true) u18 u19 u20 u21 u22 u23 u24 u25 u26 u27 u28 u29 u30 u31 (.int .i64 (cmpI (ptAt qs j2).t (ptAt qs j).t)) u33 u34 w2 :=
  ⟨fun d => h.e0 (done_of_set d (by decide)), fun d => h.e1 (done_of_set d (by decide)), fun d => h.e2 (done_of_set d (by decide)), fun d => h.e3 (done_of_set d (by decide)), fun d => h.e4 (done_of_set d (by decide)), fun d => h.e5 (done_of_set d (by decide)), fun d => h.e6 (done_of_set d (by decide)), fun d => h.e7 (done_of_set d (by decide)), fun d => h.e8 (done_of_set d (by decide)), fun d => h.e9 (done_of_set d (by decide)), fun d => h.e10 (done_of_set d (by decide)), fun d => h.e11 (done_of_set d (by decide)), fun d => h.e12 (done_of_set d (by decide)), fun d => h.e13 (done_of_set d (by decide)), fun _ => rfl, fun d => h.e15 (done_of_set d (by decide)), fun d => h.e16 (done_of_set d (by decide)), fun D => absurd D (by rw [done_set_same hi]; decide), fun _ => hS⟩

theorem InsCmp.s15 (h : InsCmp W g N cap a j j2 qs listed u18 u19 u20 u21 u22 u23 u24 u25 u26 u27 u28 u29 u30 u31 u32 u33 u34 w') : InsCmp W g N cap a j j2 qs (listed.setIfInBounds 15 true) u18 u19 u20 u21 u22 u23 u24 u25 u26 u27 u28 u29 u30 u31 u32 (.bool (decide (cmpI (ptAt qs j2).t (ptAt qs j).t < 0))) u34 w' :=
  ⟨fun d => h.e0 (done_of_set d (by decide)), fun d => h.e1 (done_of_set d (by decide)), fun d => h.e2 (done_of_set d (by decide)), fun d => h.e3 (done_of_set d (by decide)), fun d => h.e4 (done_of_set d (by decide)), fun d => h.e5 (done_of_set d (by decide)), fun d => h.e6 (done_of_set d (by decide)), fun d => h.e7 (done_of_set d (by decide)), fun d => h.e8 (done_of_set d (by decide)), fun d => h.e9 (done_of_set d (by decide)), fun d => h.e10 (done_of_set d (by decide)), fun d => h.e11 (done_of_set d (by decide)), fun d => h.e12 (done_of_set d (by decide)), fun d => h.e13 (done_of_set d (by decide)), fun d => h.e14 (done_of_set d (by decide)), fun _ => rfl, fun d => h.e16 (done_of_set d (by decide)), fun d => h.x0 (undone_of_set d), fun d => h.x1 (done_of_set d (by decide))⟩

theorem InsCmp.s16 (h : InsCmp W g N cap a j j2 qs listed u18 u19 u20 u21 u22 u23 u24 u25 u26 u27 u28 u29 u30 u31 u32 u33 u34 w') : InsCmp W g N cap a j j2 qs (listed.setIfInBounds 16 true) u18 u19 u20 u21 u22 u23 u24 u25 u26 u27 u28 u29 u30 u31 u32 u33 (.bool (decide (cmpI (ptAt qs j2).t (ptAt qs j).t < 0))) w' :=
  ⟨fun d => h.e0 (done_of_set d (by decide)), fun d => h.e1 (done_of_set d (by decide)), fun d => h.e2 (done_of_set d (by decide)), fun d => h.e3 (done_of_set d (by decide)), fun d => h.e4 (done_of_set d (by decide)), fun d => h.e5 (done_of_set d (by decide)), fun d => h.e6 (done_of_set d (by decide)), fun d => h.e7 (done_of_set d (by decide)), fun d => h.e8 (done_of_set d (by decide)), fun d => h.e9 (done_of_set d (by decide)), fun d => h.e10 (done_of_set d (by decide)), fun d => h.e11 (done_of_set d (by decide)), fun d => h.e12 (done_of_set d (by decide)), fun d => h.e13 (done_of_set d (by decide)), fun d => h.e14 (done_of_set d (by decide)), fun d => h.e15 (done_of_set d (by decide)), fun _ => rfl, fun d => h.x0 (undone_of_set d), fun d => h.x1 (done_of_set d (by decide))⟩

end

/-- In the midst of the exchange. -/
structure InsSw (W : World) (g N cap j j2 : Nat) (qs : List Silo.Pt) (tail : List Value) (listed : Array Bool) (u37 u38 u39 u40 u41 u42 u43 u44 u45 u46 u47 u48 u49 u50 u51 u52 : Value) (w' : World) : Prop where
  e0 : done listed 0 = true → u37 = .slice (some ⟨g, 0, none⟩) N cap
  e1 : done listed 1 = true → u38 = .int .i64 (j2 : Nat)
  e2 : done listed 2 = true → u39 = .slice (some ⟨g, 0, none⟩) N cap
  e3 : done listed 3 = true → u40 = .int .i64 (j2 : Nat)
  e4 : done listed 4 = true → u41 = .int .i64 (j : Nat)
  e5 : done listed 5 = true → u42 = .slice (some ⟨g, 0, none⟩) N cap
  e6 : done listed 6 = true → u43 = .int .i64 (j2 : Nat)
  e7 : done listed 7 = true → u44 = .int .i64 (j : Nat)
  e8 : done listed 8 = true → u45 = .pointer (some ⟨g, j * 2, none⟩)
  e9 : done listed 9 = true → u46 = .agg #[.int .i64 (ptAt qs j).t, .int .u64 ((ptAt qs j).v : Nat)]
  e10 : done listed 10 = true → u47 = .slice (some ⟨g, 0, none⟩) N cap
  e11 : done listed 11 = true → u48 = .int .i64 (j2 : Nat)
  e12 : done listed 12 = true → u49 = .pointer (some ⟨g, j2 * 2, none⟩)
  e13 : done listed 13 = true → u50 = .agg #[.int .i64 (ptAt qs j2).t, .int .u64 ((ptAt qs j2).v : Nat)]
  e14 : done listed 14 = true → u51 = .pointer (some ⟨g, j2 * 2, none⟩)
  e16 : done listed 16 = true → u52 = .pointer (some ⟨g, j * 2, none⟩)
  x0 : done listed 15 = false → w' = W.drew
  x1 : done listed 15 = true → done listed 17 = false → PB w' g (qs.set j2 (ptAt qs j)) tail ∧ Fp (fun k => k = g) W w'
  x2 : done listed 17 = true → PB w' g ((qs.set j2 (ptAt qs j)).set j (ptAt qs j2)) tail ∧ Fp (fun k => k = g) W w'

section
variable {W : World} {g N cap j j2 : Nat} {qs : List Silo.Pt} {tail : List Value} {listed : Array Bool} {u37 u38 u39 u40 u41 u42 u43 u44 u45 u46 u47 u48 u49 u50 u51 u52 : Value} {w' : World}

theorem InsSw.start {k : Nat} (h : w' = W.drew) : InsSw W g N cap j j2 qs tail (Array.replicate k false) u37 u38 u39 u40 u41 u42 u43 u44 u45 u46 u47 u48 u49 u50 u51 u52 w' := by
  constructor <;> first | exact h | (intro d; first | exact h | (rw [done_rep] at d; cases d))

theorem InsSw.s0 (h : InsSw W g N cap j j2 qs tail listed u37 u38 u39 u40 u41 u42 u43 u44 u45 u46 u47 u48 u49 u50 u51 u52 w') : InsSw W g N cap j j2 qs tail (listed.setIfInBounds 0 true) (.slice (some ⟨g, 0, none⟩) N cap) u38 u39 u40 u41 u42 u43 u44 u45 u46 u47 u48 u49 u50 u51 u52 w' :=
  ⟨fun _ => rfl, fun d => h.e1 (done_of_set d (by decide)), fun d => h.e2 (done_of_set d (by decide)), fun d => h.e3 (done_of_set d (by decide)), fun d => h.e4 (done_of_set d (by decide)), fun d => h.e5 (done_of_set d (by decide)), fun d => h.e6 (done_of_set d (by decide)), fun d => h.e7 (done_of_set d (by decide)), fun d => h.e8 (done_of_set d (by decide)), fun d => h.e9 (done_of_set d (by decide)), fun d => h.e10 (done_of_set d (by decide)), fun d => h.e11 (done_of_set d (by decide)), fun d => h.e12 (done_of_set d (by decide)), fun d => h.e13 (done_of_set d (by decide)), fun d => h.e14 (done_of_set d (by decide)), fun d => h.e16 (done_of_set d (by decide)), fun d => h.x0 (undone_of_set d), fun d d' => h.x1 (done_of_set d (by decide)) (undone_of_set d'), fun d => h.x2 (done_of_set d (by decide))⟩

theorem InsSw.s1 (h : InsSw W g N cap j j2 qs tail listed u37 u38 u39 u40 u41 u42 u43 u44 u45 u46 u47 u48 u49 u50 u51 u52 w') : InsSw W g N cap j j2 qs tail (listed.setIfInBounds 1 true) u37 (.int .i64 (j2 : Nat)) u39 u40 u41 u42 u43 u44 u45 u46 u47 u48 u49 u50 u51 u52 w' :=
  ⟨fun d => h.e0 (done_of_set d (by decide)), fun _ => rfl, fun d => h.e2 (done_of_set d (by decide)), fun d => h.e3 (done_of_set d (by decide)), fun d => h.e4 (done_of_set d (by decide)), fun d => h.e5 (done_of_set d (by decide)), fun d => h.e6 (done_of_set d (by decide)), fun d => h.e7 (done_of_set d (by decide)), fun d => h.e8 (done_of_set d (by decide)), fun d => h.e9 (done_of_set d (by decide)), fun d => h.e10 (done_of_set d (by decide)), fun d => h.e11 (done_of_set d (by decide)), fun d => h.e12 (done_of_set d (by decide)), fun d => h.e13 (done_of_set d (by decide)), fun d => h.e14 (done_of_set d (by decide)), fun d => h.e16 (done_of_set d (by decide)), fun d => h.x0 (undone_of_set d), fun d d' => h.x1 (done_of_set d (by decide)) (undone_of_set d'), fun d => h.x2 (done_of_set d (by decide))⟩

theorem InsSw.s2 (h : InsSw W g N cap j j2 qs tail listed u37 u38 u39 u40 u41 u42 u43 u44 u45 u46 u47 u48 u49 u50 u51 u52 w') : InsSw W g N cap j j2 qs tail (listed.setIfInBounds 2 true) u37 u38 (.slice (some ⟨g, 0, none⟩) N cap) u40 u41 u42 u43 u44 u45 u46 u47 u48 u49 u50 u51 u52 w' :=
  ⟨fun d => h.e0 (done_of_set d (by decide)), fun d => h.e1 (done_of_set d (by decide)), fun _ => rfl, fun d => h.e3 (done_of_set d (by decide)), fun d => h.e4 (done_of_set d (by decide)), fun d => h.e5 (done_of_set d (by decide)), fun d => h.e6 (done_of_set d (by decide)), fun d => h.e7 (done_of_set d (by decide)), fun d => h.e8 (done_of_set d (by decide)), fun d => h.e9 (done_of_set d (by decide)), fun d => h.e10 (done_of_set d (by decide)), fun d => h.e11 (done_of_set d (by decide)), fun d => h.e12 (done_of_set d (by decide)), fun d => h.e13 (done_of_set d (by decide)), fun d => h.e14 (done_of_set d (by decide)), fun d => h.e16 (done_of_set d (by decide)), fun d => h.x0 (undone_of_set d), fun d d' => h.x1 (done_of_set d (by decide)) (undone_of_set d'), fun d => h.x2 (done_of_set d (by decide))⟩

theorem InsSw.s3 (h : InsSw W g N cap j j2 qs tail listed u37 u38 u39 u40 u41 u42 u43 u44 u45 u46 u47 u48 u49 u50 u51 u52 w') : InsSw W g N cap j j2 qs tail (listed.setIfInBounds 3 true) u37 u38 u39 (.int .i64 (j2 : Nat)) u41 u42 u43 u44 u45 u46 u47 u48 u49 u50 u51 u52 w' :=
  ⟨fun d => h.e0 (done_of_set d (by decide)), fun d => h.e1 (done_of_set d (by decide)), fun d => h.e2 (done_of_set d (by decide)), fun _ => rfl, fun d => h.e4 (done_of_set d (by decide)), fun d => h.e5 (done_of_set d (by decide)), fun d => h.e6 (done_of_set d (by decide)), fun d => h.e7 (done_of_set d (by decide)), fun d => h.e8 (done_of_set d (by decide)), fun d => h.e9 (done_of_set d (by decide)), fun d => h.e10 (done_of_set d (by decide)), fun d => h.e11 (done_of_set d (by decide)), fun d => h.e12 (done_of_set d (by decide)), fun d => h.e13 (done_of_set d (by decide)), fun d => h.e14 (done_of_set d (by decide)), fun d => h.e16 (done_of_set d (by decide)), fun d => h.x0 (undone_of_set d), fun d d' => h.x1 (done_of_set d (by decide)) (undone_of_set d'), fun d => h.x2 (done_of_set d (by decide))⟩

theorem InsSw.s4 (h : InsSw W g N cap j j2 qs tail listed u37 u38 u39 u40 u41 u42 u43 u44 u45 u46 u47 u48 u49 u50 u51 u52 w') : InsSw W g N cap j j2 qs tail (listed.setIfInBounds 4 true) u37 u38 u39 u40 (.int .i64 (j : Nat)) u42 u43 u44 u45 u46 u47 u48 u49 u50 u51 u52 w' :=
  ⟨fun d => h.e0 (done_of_set d (by decide)), fun d => h.e1 (done_of_set d (by decide)), fun d => h.e2 (done_of_set d (by decide)), fun d => h.e3 (done_of_set d (by decide)), fun _ => rfl, fun d => h.e5 (done_of_set d (by decide)), fun d => h.e6 (done_of_set d (by decide)), fun d => h.e7 (done_of_set d (by decide)), fun d => h.e8 (done_of_set d (by decide)), fun d => h.e9 (done_of_set d (by decide)), fun d => h.e10 (done_of_set d (by decide)), fun d => h.e11 (done_of_set d (by decide)), fun d => h.e12 (done_of_set d (by decide)), fun d => h.e13 (done_of_set d (by decide)), fun d => h.e14 (done_of_set d (by decide)), fun d => h.e16 (done_of_set d (by decide)), fun d => h.x0 (undone_of_set d), fun d d' => h.x1 (done_of_set d (by decide)) (undone_of_set d'), fun d => h.x2 (done_of_set d (by decide))⟩

theorem InsSw.s5 (h : InsSw W g N cap j j2 qs tail listed u37 u38 u39 u40 u41 u42 u43 u44 u45 u46 u47 u48 u49 u50 u51 u52 w') : InsSw W g N cap j j2 qs tail (listed.setIfInBounds 5 true) u37 u38 u39 u40 u41 (.slice (some ⟨g, 0, none⟩) N cap) u43 u44 u45 u46 u47 u48 u49 u50 u51 u52 w' :=
  ⟨fun d => h.e0 (done_of_set d (by decide)), fun d => h.e1 (done_of_set d (by decide)), fun d => h.e2 (done_of_set d (by decide)), fun d => h.e3 (done_of_set d (by decide)), fun d => h.e4 (done_of_set d (by decide)), fun _ => rfl, fun d => h.e6 (done_of_set d (by decide)), fun d => h.e7 (done_of_set d (by decide)), fun d => h.e8 (done_of_set d (by decide)), fun d => h.e9 (done_of_set d (by decide)), fun d => h.e10 (done_of_set d (by decide)), fun d => h.e11 (done_of_set d (by decide)), fun d => h.e12 (done_of_set d (by decide)), fun d => h.e13 (done_of_set d (by decide)), fun d => h.e14 (done_of_set d (by decide)), fun d => h.e16 (done_of_set d (by decide)), fun d => h.x0 (undone_of_set d), fun d d' => h.x1 (done_of_set d (by decide)) (undone_of_set d'), fun d => h.x2 (done_of_set d (by decide))⟩

theorem InsSw.s6 (h : InsSw W g N cap j j2 qs tail listed u37 u38 u39 u40 u41 u42 u43 u44 u45 u46 u47 u48 u49 u50 u51 u52 w') : InsSw W g N cap j j2 qs tail (listed.setIfInBounds 6 true) u37 u38 u39 u40 u41 u42 (.int .i64 (j2 : Nat)) u44 u45 u46 u47 u48 u49 u50 u51 u52 w' :=
  ⟨fun d => h.e0 (done_of_set d (by decide)), fun d => h.e1 (done_of_set d (by decide)), fun d => h.e2 (done_of_set d (by decide)), fun d => h.e3 (done_of_set d (by decide)), fun d => h.e4 (done_of_set d (by decide)), fun d => h.e5 (done_of_set d (by decide)), fun _ => rfl, fun d => h.e7 (done_of_set d (by decide)), fun d => h.e8 (done_of_set d (by decide)), fun d => h.e9 (done_of_set d (by decide)), fun d => h.e10 (done_of_set d (by decide)), fun d => h.e11 (done_of_set d (by decide)), fun d => h.e12 (done_of_set d (by decide)), fun d => h.e13 (done_of_set d (by decide)), fun d => h.e14 (done_of_set d (by decide)), fun d => h.e16 (done_of_set d (by decide)), fun d => h.x0 (undone_of_set d), fun d d' => h.x1 (done_of_set d (by decide)) (undone_of_set d'), fun d => h.x2 (done_of_set d (by decide))⟩

theorem InsSw.s7 (h : InsSw W g N cap j j2 qs tail listed u37 u38 u39 u40 u41 u42 u43 u44 u45 u46 u47 u48 u49 u50 u51 u52 w') : InsSw W g N cap j j2 qs tail (listed.setIfInBounds 7 true) u37 u38 u39 u40 u41 u42 u43 (.int .i64 (j : Nat)) u45 u46 u47 u48 u49 u50 u51 u52 w' :=
  ⟨fun d => h.e0 (done_of_set d (by decide)), fun d => h.e1 (done_of_set d (by decide)), fun d => h.e2 (done_of_set d (by decide)), fun d => h.e3 (done_of_set d (by decide)), fun d => h.e4 (done_of_set d (by decide)), fun d => h.e5 (done_of_set d (by decide)), fun d => h.e6 (done_of_set d (by decide)), fun _ => rfl, fun d => h.e8 (done_of_set d (by decide)), fun d => h.e9 (done_of_set d (by decide)), fun d => h.e10 (done_of_set d (by decide)), fun d => h.e11 (done_of_set d (by decide)), fun d => h.e12 (done_of_set d (by decide)), fun d => h.e13 (done_of_set d (by decide)), fun d => h.e14 (done_of_set d (by decide)), fun d => h.e16 (done_of_set d (by decide)), fun d => h.x0 (undone_of_set d), fun d d' => h.x1 (done_of_set d (by decide)) (undone_of_set d'), fun d => h.x2 (done_of_set d (by decide))⟩

theorem InsSw.s8 (h : InsSw W g N cap j j2 qs tail listed u37 u38 u39 u40 u41 u42 u43 u44 u45 u46 u47 u48 u49 u50 u51 u52 w') : InsSw W g N cap j j2 qs tail (listed.setIfInBounds 8 true) u37 u38 u39 u40 u41 u42 u43 u44 (.pointer (some ⟨g, j * 2, none⟩)) u46 u47 u48 u49 u50 u51 u52 w' :=
  ⟨fun d => h.e0 (done_of_set d (by decide)), fun d => h.e1 (done_of_set d (by decide)), fun d => h.e2 (done_of_set d (by decide)), fun d => h.e3 (done_of_set d (by decide)), fun d => h.e4 (done_of_set d (by decide)), fun d => h.e5 (done_of_set d (by decide)), fun d => h.e6 (done_of_set d (by decide)), fun d => h.e7 (done_of_set d (by decide)), fun _ => rfl, fun d => h.e9 (done_of_set d (by decide)), fun d => h.e10 (done_of_set d (by decide)), fun d => h.e11 (done_of_set d (by decide)), fun d => h.e12 (done_of_set d (by decide)), fun d => h.e13 (done_of_set d (by decide)), fun d => h.e14 (done_of_set d (by decide)), fun d => h.e16 (done_of_set d (by decide)), fun d => h.x0 (undone_of_set d), fun d d' => h.x1 (done_of_set d (by decide)) (undone_of_set d'), fun d => h.x2 (done_of_set d (by decide))⟩

theorem InsSw.s9 (h : InsSw W g N cap j j2 qs tail listed u37 u38 u39 u40 u41 u42 u43 u44 u45 u46 u47 u48 u49 u50 u51 u52 w') : InsSw W g N cap j j2 qs tail (listed.setIfInBounds 9 true) u37 u38 u39 u40 u41 u42 u43 u44 u45 (.agg #[.int .i64 (ptAt qs j).t, .int .u64 ((ptAt qs j).v : Nat)]) u47 u48 u49 u50 u51 u52 w' :=
  ⟨fun d => h.e0 (done_of_set d (by decide)), fun d => h.e1 (done_of_set d (by decide)), fun d => h.e2 (done_of_set d (by decide)), fun d => h.e3 (done_of_set d (by decide)), fun d => h.e4 (done_of_set d (by decide)), fun d => h.e5 (done_of_set d (by decide)), fun d => h.e6 (done_of_set d (by decide)), fun d => h.e7 (done_of_set d (by decide)), fun d => h.e8 (done_of_set d (by decide)), fun _ => rfl, fun d => h.e10 (done_of_set d (by decide)), fun d => h.e11 (done_of_set d (by decide)), fun d => h.e12 (done_of_set d (by decide)), fun d => h.e13 (done_of_set d (by decide)), fun d => h.e14 (done_of_set d (by decide)), fun d => h.e16 (done_of_set d (by decide)), fun d => h.x0 (undone_of_set d), fun d d' => h.x1 (done_of_set d (by decide)) (undone_of_set d'), fun d => h.x2 (done_of_set d (by decide))⟩

theorem InsSw.s10 (h : InsSw W g N cap j j2 qs tail listed u37 u38 u39 u40 u41 u42 u43 u44 u45 u46 u47 u48 u49 u50 u51 u52 w') : InsSw W g N cap j j2 qs tail (listed.setIfInBounds 10 true) u37 u38 u39 u40 u41 u42 u43 u44 u45 u46 (.slice (some ⟨g, 0, none⟩) N cap) u48 u49 u50 u51 u52 w' :=
  ⟨fun d => h.e0 (done_of_set d (by decide)), fun d => h.e1 (done_of_set d (by decide)), fun d => h.e2 (done_of_set d (by decide)), fun d => h.e3 (done_of_set d (by decide)), fun d => h.e4 (done_of_set d (by decide)), fun d => h.e5 (done_of_set d (by decide)), fun d => h.e6 (done_of_set d (by decide)), fun d => h.e7 (done_of_set d (by decide)), fun d => h.e8 (done_of_set d (by decide)), fun d => h.e9 (done_of_set d (by decide)), fun _ => rfl, fun d => h.e11 (done_of_set d (by decide)), fun d => h.e12 (done_of_set d (by decide)), fun d => h.e13 (done_of_set d (by decide)), fun d => h.e14 (done_of_set d (by decide)), fun d => h.e16 (done_of_set d (by decide)), fun d => h.x0 (undone_of_set d), fun d d' => h.x1 (done_of_set d (by decide)) (undone_of_set d'), fun d => h.x2 (done_of_set d (by decide))⟩

theorem InsSw.s11 (h : InsSw W g N cap j j2 qs tail listed u37 u38 u39 u40 u41 u42 u43 u44 u45 u46 u47 u48 u49 u50 u51 u52 w') : InsSw W g N cap j j2 qs tail (listed.setIfInBounds 11 true) u37 u38 u39 u40 u41 u42 u43 u44 u45 u46 u47 (.int .i64 (j2 : Nat)) u49 u50 u51 u52 w' :=
  ⟨fun d => h.e0 (done_of_set d (by decide)), fun d => h.e1 (done_of_set d (by decide)), fun d => h.e2 (done_of_set d (by decide)), fun d => h.e3 (done_of_set d (by decide)), fun d => h.e4 (done_of_set d (by decide)), fun d => h.e5 (done_of_set d (by decide)), fun d => h.e6 (done_of_set d (by decide)), fun d => h.e7 (done_of_set d (by decide)), fun d => h.e8 (done_of_set d (by decide)), fun d => h.e9 (done_of_set d (by decide)), fun d => h.e10 (done_of_set d (by decide)), fun _ => rfl, fun d => h.e12 (done_of_set d (by decide)), fun d => h.e13 (done_of_set d (by decide)), fun d => h.e14 (done_of_set d (by decide)), fun d => h.e16 (done_of_set d (by decide)), fun d => h.x0 (undone_of_set d), fun d d' => h.x1 (done_of_set d (by decide)) (undone_of_set d'), fun d => h.x2 (done_of_set d (by decide))⟩

theorem InsSw.s12 (h : InsSw W g N cap j j2 qs tail listed u37 u38 u39 u40 u41 u42 u43 u44 u45 u46 u47 u48 u49 u50 u51 u52 w') : InsSw W g N cap j j2 qs tail (listed.setIfInBounds 12 true) u37 u38 u39 u40 u41 u42 u43 u44 u45 u46 u47 u48 (.pointer (some ⟨g, j2 * 2, none⟩)) u50 u51 u52 w' :=
  ⟨fun d => h.e0 (done_of_set d (by decide)), fun d => h.e1 (done_of_set d (by decide)), fun d => h.e2 (done_of_set d (by decide)), fun d => h.e3 (done_of_set d (by decide)), fun d => h.e4 (done_of_set d (by decide)), fun d => h.e5 (done_of_set d (by decide)), fun d => h.e6 (done_of_set d (by decide)), fun d => h.e7 (done_of_set d (by decide)), fun d => h.e8 (done_of_set d (by decide)), fun d => h.e9 (done_of_set d (by decide)), fun d => h.e10 (done_of_set d (by decide)), fun d => h.e11 (done_of_set d (by decide)), fun _ => rfl, fun d => h.e13 (done_of_set d (by decide)), fun d => h.e14 (done_of_set d (by decide)), fun d => h.e16 (done_of_set d (by decide)), fun d => h.x0 (undone_of_set d), fun d d' => h.x1 (done_of_set d (by decide)) (undone_of_set d'), fun d => h.x2 (done_of_set d (by decide))⟩

theorem InsSw.s13 (h : InsSw W g N cap j j2 qs tail listed u37 u38 u39 u40 u41 u42 u43 u44 u45 u46 u47 u48 u49 u50 u51 u52 w') : InsSw W g N cap j j2 qs tail (listed.setIfInBounds 13 true) u37 u38 u39 u40 u41 u42 u43 u44 u45 u46 u47 u48 u49 (.agg #[.int .i64 (ptAt qs j2).t, .int .u64 ((ptAt qs j2).v : Nat)]) u51 u52 w' :=
  ⟨fun d => h.e0 (done_of_set d (by decide)), fun d => h.e1 (done_of_set d (by decide)), fun d => h.e2 (done_of_set d (by decide)), fun d => h.e3 (done_of_set d (by decide)), fun d => h.e4 (done_of_set d (by decide)), fun d => h.e5 (done_of_set d (by decide)), fun d => h.e6 (done_of_set d (by decide)), fun d => h.e7 (done_of_set d (by decide)), fun d => h.e8 (done_of_set d (by decide)), fun d => h.e9 (done_of_set d (by decide)), fun d => h.e10 (done_of_set d (by decide)), fun d => h.e11 (done_of_set d (by decide)), fun d => h.e12 (done_of_set d (by decide)), fun _ => rfl, fun d => h.e14 (done_of_set d (by decide)), fun d => h.e16 (done_of_set d (by decide)), fun d => h.x0 (undone_of_set d), fun d d' => h.x1 (done_of_set d (by decide)) (undone_of_set d'), fun d => h.x2 (done_of_set d (by decide))⟩

theorem InsSw.s14 (h : InsSw W g N cap j j2 qs tail listed u37 u38 u39 u40 u41 u42 u43 u44 u45 u46 u47 u48 u49 u50 u51 u52 w') : InsSw W g N cap j j2 qs tail (listed.setIfInBounds 14 true) u37 u38 u39 u40 u41 u42 u43 u44 u45 u46 u47 u48 u49 u50 (.pointer (some ⟨g, j2 * 2, none⟩)) u52 w' :=
  ⟨fun d => h.e0 (done_of_set d (by decide)), fun d => h.e1 (done_of_set d (by decide)), fun d => h.e2 (done_of_set d (by decide)), fun d => h.e3 (done_of_set d (by decide)), fun d => h.e4 (done_of_set d (by decide)), fun d => h.e5 (done_of_set d (by decide)), fun d => h.e6 (done_of_set d (by decide)), fun d => h.e7 (done_of_set d (by decide)), fun d => h.e8 (done_of_set d (by decide)), fun d => h.e9 (done_of_set d (by decide)), fun d => h.e10 (done_of_set d (by decide)), fun d => h.e11 (done_of_set d (by decide)), fun d => h.e12 (done_of_set d (by decide)), fun d => h.e13 (done_of_set d (by decide)), fun _ => rfl, fun d => h.e16 (done_of_set d (by decide)), fun d => h.x0 (undone_of_set d), fun d d' => h.x1 (done_of_set d (by decide)) (undone_of_set d'), fun d => h.x2 (done_of_set d (by decide))⟩

theorem InsSw.s15 {w2 : World} (h : InsSw W g N cap j j2 qs tail listed u37 u38 u39 u40 u41 u42 u43 u44 u45 u46 u47 u48 u49 u50 u51 u52 w') (hi : 15 < listed.size) (hn : done listed 17 = false) (hS : PB w2 g (qs.set j2 (ptAt qs j)) tail ∧ Fp (fun k => k = g) W w2) : InsSw W g N cap j j2 qs tail (listed.setIfInBounds 15 true) u37 u38 u39 u40 u41 u42 u43 u44 u45 u46 u47 u48 u49 u50 u51 u52 w2 :=
  ⟨fun d => h.e0 (done_of_set d (by decide)), fun d => h.e1 (done_of_set d (by decide)), fun d => h.e2 (done_of_set d (by decide)), fun d => h.e3 (done_of_set d (by decide)), fun d => h.e4 (done_of_set d (by decide)), fun d => h.e5 (done_of_set d (by decide)), fun d => h.e6 (done_of_set d (by decide)), fun d => h.e7 (done_of_set d (by decide)), fun d => h.e8 (done_of_set d (by decide)), fun d => h.e9 (done_of_set d (by decide)), fun d => h.e10 (done_of_set d (by decide)), fun d => h.e11 (done_of_set d (by decide)), fun d => h.e12 (done_of_set d (by decide)), fun d => h.e13 (done_of_set d (by decide)), fun d => h.e14 (done_of_set d (by decide)), fun d => h.e16 (done_of_set d (by decide)), fun D => absurd D (by rw [done_set_same hi]; decide), fun _ _ => hS, fun D => absurd (done_of_set D (by decide)) (by rw [hn]; decide)⟩

theorem InsSw.s16 (h : InsSw W g N cap j j2 qs tail listed u37 u38 u39 u40 u41 u42 u43 u44 u45 u46 u47 u48 u49 u50 u51 u52 w') : InsSw W g N cap j j2 qs tail (listed.setIfInBounds 16 true) u37 u38 u39 u40 u41 u42 u43 u44 u45 u46 u47 u48 u49 u50 u51 (.pointer (some ⟨g, j * 2, none⟩)) w' :=
  ⟨fun d => h.e0 (done_of_set d (by decide)), fun d => h.e1 (done_of_set d (by decide)), fun d => h.e2 (done_of_set d (by decide)), fun d => h.e3 (done_of_set d (by decide)), fun d => h.e4 (done_of_set d (by decide)), fun d => h.e5 (done_of_set d (by decide)), fun d => h.e6 (done_of_set d (by decide)), fun d => h.e7 (done_of_set d (by decide)), fun d => h.e8 (done_of_set d (by decide)), fun d => h.e9 (done_of_set d (by decide)), fun d => h.e10 (done_of_set d (by decide)), fun d => h.e11 (done_of_set d (by decide)), fun d => h.e12 (done_of_set d (by decide)), fun d => h.e13 (done_of_set d (by decide)), fun d => h.e14 (done_of_set d (by decide)), fun _ => rfl, fun d => h.x0 (undone_of_set d), fun d d' => h.x1 (done_of_set d (by decide)) (undone_of_set d'), fun d => h.x2 (done_of_set d (by decide))⟩

theorem InsSw.s17 {w2 : World} (h : InsSw W g N cap j j2 qs tail listed u37 u38 u39 u40 u41 u42 u43 u44 u45 u46 u47 u48 u49 u50 u51 u52 w') (hi : 17 < listed.size) (hp : done listed 15 = true) (hS : PB w2 g ((qs.set j2 (ptAt qs j)).set j (ptAt qs j2)) tail ∧ Fp (fun k => k = g) W w2) : InsSw W g N cap j j2 qs tail (listed.setIfInBounds 17 true) u37 u38 u39 u40 u41 u42 u43 u44 u45 u46 u47 u48 u49 u50 u51 u52 w2 :=
  ⟨fun d => h.e0 (done_of_set d (by decide)), fun d => h.e1 (done_of_set d (by decide)), fun d => h.e2 (done_of_set d (by decide)), fun d => h.e3 (done_of_set d (by decide)), fun d => h.e4 (done_of_set d (by decide)), fun d => h.e5 (done_of_set d (by decide)), fun d => h.e6 (done_of_set d (by decide)), fun d => h.e7 (done_of_set d (by decide)), fun d => h.e8 (done_of_set d (by decide)), fun d => h.e9 (done_of_set d (by decide)), fun d => h.e10 (done_of_set d (by decide)), fun d => h.e11 (done_of_set d (by decide)), fun d => h.e12 (done_of_set d (by decide)), fun d => h.e13 (done_of_set d (by decide)), fun d => h.e14 (done_of_set d (by decide)), fun d => h.e16 (done_of_set d (by decide)), fun D => absurd (undone_of_set D) (by rw [hp]; decide), fun _ D => absurd D (by rw [done_set_same hi]; decide), fun _ => hS⟩

end

structure InsNo (W : World) (g N cap a j2 : Nat) (listed : Array Bool) (u18 u19 u20 u21 u22 u23 u24 u25 u26 u27 u28 u29 u30 u31 u32 u33 u34 : Value) (w' : World) : Prop where
  e0 : done listed 0 = true → u18 = .int .i64 (j2 : Nat)
  e1 : done listed 1 = true → u19 = .int .i64 a
  e2 : done listed 2 = true → u20 = .bool false
  e3 : done listed 3 = true → u21 = .bool false
  e4 : done listed 4 = true → u22 = undef
  e5 : done listed 5 = true → u23 = undef
  e6 : done listed 6 = true → u24 = undef
  e7 : done listed 7 = true → u25 = undef
  e8 : done listed 8 = true → u26 = undef
  e9 : done listed 9 = true → u27 = undef
  e10 : done listed 10 = true → u28 = undef
  e11 : done listed 11 = true → u29 = undef
  e12 : done listed 12 = true → u30 = undef
  e13 : done listed 13 = true → u31 = undef
  e14 : done listed 14 = true → u32 = undef
  e15 : done listed 15 = true → u33 = undef
  e16 : done listed 16 = true → u34 = .bool false
  x0 : w' = W.drew

section
variable {W : World} {g N cap a j2 : Nat} {listed : Array Bool} {u18 u19 u20 u21 u22 u23 u24 u25 u26 u27 u28 u29 u30 u31 u32 u33 u34 : Value} {w' : World}

theorem InsNo.start {k : Nat} (h : w' = W.drew) : InsNo W g N cap a j2 (Array.replicate k false) u18 u19 u20 u21 u22 u23 u24 u25 u26 u27 u28 u29 u30 u31 u32 u33 u34 w' := by
  constructor <;> first | exact h | (intro d; first | exact h | (rw [done_rep] at d; cases d))

theorem InsNo.s0 (h : InsNo W g N cap a j2 listed u18 u19 u20 u21 u22 u23 u24 u25 u26 u27 u28 u29 u30 u31 u32 u33 u34 w') : InsNo W g N cap a j2 (listed.setIfInBounds 0 true) (.int .i64 (j2 : Nat)) u19 u20 u21 u22 u23 u24 u25 u26 u27 u28 u29 u30 u31 u32 u33 u34 w' :=
  ⟨fun _ => rfl, fun d => h.e1 (done_of_set d (by decide)), fun d => h.e2 (done_of_set d (by decide)), fun d => h.e3 (done_of_set d (by decide)), fun d => h.e4 (done_of_set d (by decide)), fun d => h.e5 (done_of_set d (by decide)), fun d => h.e6 (done_of_set d (by decide)), fun d => h.e7 (done_of_set d (by decide)), fun d => h.e8 (done_of_set d (by decide)), fun d => h.e9 (done_of_set d (by decide)), fun d => h.e10 (done_of_set d (by decide)), fun d => h.e11 (done_of_set d (by decide)), fun d => h.e12 (done_of_set d (by decide)), fun d => h.e13 (done_of_set d (by decide)), fun d => h.e14 (done_of_set d (by decide)), fun d => h.e15 (done_of_set d (by decide)), fun d => h.e16 (done_of_set d (by decide)), h.x0⟩

theorem InsNo.s1 (h : InsNo W g N cap a j2 listed u18 u19 u20 u21 u22 u23 u24 u25 u26 u27 u28 u29 u30 u31 u32 u33 u34 w') : InsNo W g N cap a j2 (listed.setIfInBounds 1 true) u18 (.int .i64 a) u20 u21 u22 u23 u24 u25 u26 u27 u28 u29 u30 u31 u32 u33 u34 w' :=
  ⟨fun d => h.e0 (done_of_set d (by decide)), fun _ => rfl, fun d => h.e2 (done_of_set d (by decide)), fun d => h.e3 (done_of_set d (by decide)), fun d => h.e4 (done_of_set d (by decide)), fun d => h.e5 (done_of_set d (by decide)), fun d => h.e6 (done_of_set d (by decide)), fun d => h.e7 (done_of_set d (by decide)), fun d => h.e8 (done_of_set d (by decide)), fun d => h.e9 (done_of_set d (by decide)), fun d => h.e10 (done_of_set d (by decide)), fun d => h.e11 (done_of_set d (by decide)), fun d => h.e12 (done_of_set d (by decide)), fun d => h.e13 (done_of_set d (by decide)), fun d => h.e14 (done_of_set d (by decide)), fun d => h.e15 (done_of_set d (by decide)), fun d => h.e16 (done_of_set d (by decide)), h.x0⟩

theorem InsNo.s2 (h : InsNo W g N cap a j2 listed u18 u19 u20 u21 u22 u23 u24 u25 u26 u27 u28 u29 u30 u31 u32 u33 u34 w') : InsNo W g N cap a j2 (listed.setIfInBounds 2 true) u18 u19 (.bool false) u21 u22 u23 u24 u25 u26 u27 u28 u29 u30 u31 u32 u33 u34 w' :=
  ⟨fun d => h.e0 (done_of_set d (by decide)), fun d => h.e1 (done_of_set d (by decide)), fun _ => rfl, fun d => h.e3 (done_of_set d (by decide)), fun d => h.e4 (done_of_set d (by decide)), fun d => h.e5 (done_of_set d (by decide)), fun d => h.e6 (done_of_set d (by decide)), fun d => h.e7 (done_of_set d (by decide)), fun d => h.e8 (done_of_set d (by decide)), fun d => h.e9 (done_of_set d (by decide)), fun d => h.e10 (done_of_set d (by decide)), fun d => h.e11 (done_of_set d (by decide)), fun d => h.e12 (done_of_set d (by decide)), fun d => h.e13 (done_of_set d (by decide)), fun d => h.e14 (done_of_set d (by decide)), fun d => h.e15 (done_of_set d (by decide)), fun d => h.e16 (done_of_set d (by decide)), h.x0⟩

theorem InsNo.s3 (h : InsNo W g N cap a j2 listed u18 u19 u20 u21 u22 u23 u24 u25 u26 u27 u28 u29 u30 u31 u32 u33 u34 w') : InsNo W g N cap a j2 (listed.setIfInBounds 3 true) u18 u19 u20 (.bool false) u22 u23 u24 u25 u26 u27 u28 u29 u30 u31 u32 u33 u34 w' :=
  ⟨fun d => h.e0 (done_of_set d (by decide)), fun d => h.e1 (done_of_set d (by decide)), fun d => h.e2 (done_of_set d (by decide)), fun _ => rfl, fun d => h.e4 (done_of_set d (by decide)), fun d => h.e5 (done_of_set d (by decide)), fun d => h.e6 (done_of_set d (by decide)), fun d => h.e7 (done_of_set d (by decide)), fun d => h.e8 (done_of_set d (by decide)), fun d => h.e9 (done_of_set d (by decide)), fun d => h.e10 (done_of_set d (by decide)), fun d => h.e11 (done_of_set d (by decide)), fun d => h.e12 (done_of_set d (by decide)), fun d => h.e13 (done_of_set d (by decide)), fun d => h.e14 (done_of_set d (by decide)), fun d => h.e15 (done_of_set d (by decide)), fun d => h.e16 (done_of_set d (by decide)), h.x0⟩

theorem InsNo.s4 (h : InsNo W g N cap a j2 listed u18 u19 u20 u21 u22 u23 u24 u25 u26 u27 u28 u29 u30 u31 u32 u33 u34 w') : InsNo W g N cap a j2 (listed.setIfInBounds 4 true) u18 u19 u20 u21 (undef) u23 u24 u25 u26 u27 u28 u29 u30 u31 u32 u33 u34 w' :=
  ⟨fun d => h.e0 (done_of_set d (by decide)), fun d => h.e1 (done_of_set d (by decide)), fun d => h.e2 (done_of_set d (by decide)), fun d => h.e3 (done_of_set d (by decide)), fun _ => rfl, fun d => h.e5 (done_of_set d (by decide)), fun d => h.e6 (done_of_set d (by decide)), fun d => h.e7 (done_of_set d (by decide)), fun d => h.e8 (done_of_set d (by decide)), fun d => h.e9 (done_of_set d (by decide)), fun d => h.e10 (done_of_set d (by decide)), fun d => h.e11 (done_of_set d (by decide)), fun d => h.e12 (done_of_set d (by decide)), fun d => h.e13 (done_of_set d (by decide)), fun d => h.e14 (done_of_set d (by decide)), fun d => h.e15 (done_of_set d (by decide)), fun d => h.e16 (done_of_set d (by decide)), h.x0⟩

theorem InsNo.s5 (h : InsNo W g N cap a j2 listed u18 u19 u20 u21 u22 u23 u24 u25 u26 u27 u28 u29 u30 u31 u32 u33 u34 w') : InsNo W g N cap a j2 (listed.setIfInBounds 5 true) u18 u19 u20 u21 u22 (undef) u24 u25 u26 u27 u28 u29 u30 u31 u32 u33 u34 w' :=
  ⟨fun d => h.e0 (done_of_set d (by decide)), fun d => h.e1 (done_of_set d (by decide)), fun d => h.e2 (done_of_set d (by decide)), fun d => h.e3 (done_of_set d (by decide)), fun d => h.e4 (done_of_set d (by decide)), fun _ => rfl, fun d => h.e6 (done_of_set d (by decide)), fun d => h.e7 (done_of_set d (by decide)), fun d => h.e8 (done_of_set d (by decide)), fun d => h.e9 (done_of_set d (by decide)), fun d => h.e10 (done_of_set d (by decide)), fun d => h.e11 (done_of_set d (by decide)), fun d => h.e12 (done_of_set d (by decide)), fun d => h.e13 (done_of_set d (by decide)), fun d => h.e14 (done_of_set d (by decide)), fun d => h.e15 (done_of_set d (by decide)), fun d => h.e16 (done_of_set d (by decide)), h.x0⟩

theorem InsNo.s6 (h : InsNo W g N cap a j2 listed u18 u19 u20 u21 u22 u23 u24 u25 u26 u27 u28 u29 u30 u31 u32 u33 u34 w') : InsNo W g N cap a j2 (listed.setIfInBounds 6 true) u18 u19 u20 u21 u22 u23 (undef) u25 u26 u27 u28 u29 u30 u31 u32 u33 u34 w' :=
  ⟨fun d => h.e0 (done_of_set d (by decide)), fun d => h.e1 (done_of_set d (by decide)), fun d => h.e2 (done_of_set d (by decide)), fun d => h.e3 (done_of_set d (by decide)), fun d => h.e4 (done_of_set d (by decide)), fun d => h.e5 (done_of_set d (by decide)), fun _ => rfl, fun d => h.e7 (done_of_set d (by decide)), fun d => h.e8 (done_of_set d (by decide)), fun d => h.e9 (done_of_set d (by decide)), fun d => h.e10 (done_of_set d (by decide)), fun d => h.e11 (done_of_set d (by decide)), fun d => h.e12 (done_of_set d (by decide)), fun d => h.e13 (done_of_set d (by decide)), fun d => h.e14 (done_of_set d (by decide)), fun d => h.e15 (done_of_set d (by decide)), fun d => h.e16 (done_of_set d (by decide)), h.x0⟩

theorem InsNo.s7 (h : InsNo W g N cap a j2 listed u18 u19 u20 u21 u22 u23 u24 u25 u26 u27 u28 u29 u30 u31 u32 u33 u34 w') : InsNo W g N cap a j2 (listed.setIfInBounds 7 true) u18 u19 u20 u21 u22 u23 u24 (undef) u26 u27 u28 u29 u30 u31 u32 u33 u34 w' :=
  ⟨fun d => h.e0 (done_of_set d (by decide)), fun d => h.e1 (done_of_set d (by decide)), fun d => h.e2 (done_of_set d (by decide)), fun d => h.e3 (done_of_set d (by decide)), fun d => h.e4 (done_of_set d (by decide)), fun d => h.e5 (done_of_set d (by decide)), fun d => h.e6 (done_of_set d (by decide)), fun _ => rfl, fun d => h.e8 (done_of_set d (by decide)), fun d => h.e9 (done_of_set d (by decide)), fun d => h.e10 (done_of_set d (by decide)), fun d => h.e11 (done_of_set d (by decide)), fun d => h.e12 (done_of_set d (by decide)), fun d => h.e13 (done_of_set d (by decide)), fun d => h.e14 (done_of_set d (by decide)), fun d => h.e15 (done_of_set d (by decide)), fun d => h.e16 (done_of_set d (by decide)), h.x0⟩

theorem InsNo.s8 (h : InsNo W g N cap a j2 listed u18 u19 u20 u21 u22 u23 u24 u25 u26 u27 u28 u29 u30 u31 u32 u33 u34 w') : InsNo W g N cap a j2 (listed.setIfInBounds 8 true) u18 u19 u20 u21 u22 u23 u24 u25 (undef) u27 u28 u29 u30 u31 u32 u33 u34 w' :=
  ⟨fun d => h.e0 (done_of_set d (by decide)), fun d => h.e1 (done_of_set d (by decide)), fun d => h.e2 (done_of_set d (by decide)), fun d => h.e3 (done_of_set d (by decide)), fun d => h.e4 (done_of_set d (by decide)), fun d => h.e5 (done_of_set d (by decide)), fun d => h.e6 (done_of_set d (by decide)), fun d => h.e7 (done_of_set d (by decide)), fun _ => rfl, fun d => h.e9 (done_of_set d (by decide)), fun d => h.e10 (done_of_set d (by decide)), fun d => h.e11 (done_of_set d (by decide)), fun d => h.e12 (done_of_set d (by decide)), fun d => h.e13 (done_of_set d (by decide)), fun d => h.e14 (done_of_set d (by decide)), fun d => h.e15 (done_of_set d (by decide)), fun d => h.e16 (done_of_set d (by decide)), h.x0⟩

theorem InsNo.s9 (h : InsNo W g N cap a j2 listed u18 u19 u20 u21 u22 u23 u24 u25 u26 u27 u28 u29 u30 u31 u32 u33 u34 w') : InsNo W g N cap a j2 (listed.setIfInBounds 9 true) u18 u19 u20 u21 u22 u23 u24 u25 u26 (undef) u28 u29 u30 u31 u32 u33 u34 w' :=
  ⟨fun d => h.e0 (done_of_set d (by decide)), fun d => h.e1 (done_of_set d (by decide)), fun d => h.e2 (done_of_set d (by decide)), fun d => h.e3 (done_of_set d (by decide)), fun d => h.e4 (done_of_set d (by decide)), fun d => h.e5 (done_of_set d (by decide)), fun d => h.e6 (done_of_set d (by decide)), fun d => h.e7 (done_of_set d (by decide)), fun d => h.e8 (done_of_set d (by decide)), fun _ => rfl, fun d => h.e10 (done_of_set d (by decide)), fun d => h.e11 (done_of_set d (by decide)), fun d => h.e12 (done_of_set d (by decide)), fun d => h.e13 (done_of_set d (by decide)), fun d => h.e14 (done_of_set d (by decide)), fun d => h.e15 (done_of_set d (by decide)), fun d => h.e16 (done_of_set d (by decide)), h.x0⟩

theorem InsNo.s10 (h : InsNo W g N cap a j2 listed u18 u19 u20 u21 u22 u23 u24 u25 u26 u27 u28 u29 u30 u31 u32 u33 u34 w') : InsNo W g N cap a j2 (listed.setIfInBounds 10 true) u18 u19 u20 u21 u22 u23 u24 u25 u26 u27 (undef) u29 u30 u31 u32 u33 u34 w' :=
  ⟨fun d => h.e0 (done_of_set d (by decide)), fun d => h.e1 (done_of_set d (by decide)), fun d => h.e2 (done_of_set d (by decide)), fun d => h.e3 (done_of_set d (by decide)), fun d => h.e4 (done_of_set d (by decide)), fun d => h.e5 (done_of_set d (by decide)), fun d => h.e6 (done_of_set d (by decide)), fun d => h.e7 (done_of_set d (by decide)), fun d => h.e8 (done_of_set d (by decide)), fun d => h.e9 (done_of_set d (by decide)), fun _ => rfl, fun d => h.e11 (done_of_set d (by decide)), fun d => h.e12 (done_of_set d (by decide)), fun d => h.e13 (done_of_set d (by decide)), fun d => h.e14 (done_of_set d (by decide)), fun d => h.e15 (done_of_set d (by decide)), fun d => h.e16 (done_of_set d (by decide)), h.x0⟩

theorem InsNo.s11 (h : InsNo W g N cap a j2 listed u18 u19 u20 u21 u22 u23 u24 u25 u26 u27 u28 u29 u30 u31 u32 u33 u34 w') : InsNo W g N cap a j2 (listed.setIfInBounds 11 true) u18 u19 u20 u21 u22 u23 u24 u25 u26 u27 u28 (undef) u30 u31 u32 u33 u34 w' :=
  ⟨fun d => h.e0 (done_of_set d (by decide)), fun d => h.e1 (done_of_set d (by decide)), fun d => h.e2 (done_of_set d (by decide)), fun d => h.e3 (done_of_set d (by decide)), fun d => h.e4 (done_of_set d (by decide)), fun d => h.e5 (done_of_set d (by decide)), fun d => h.e6 (done_of_set d (by decide)), fun d => h.e7 (done_of_set d (by decide)), fun d => h.e8 (done_of_set d (by decide)), fun d => h.e9 (done_of_set d (by decide)), fun d => h.e10 (done_of_set d (by decide)), fun _ => rfl, fun d => h.e12 (done_of_set d (by decide)), fun d => h.e13 (done_of_set d (by decide)), fun d => h.e14 (done_of_set d (by decide)), fun d => h.e15 (done_of_set d (by decide)), fun d => h.e16 (done_of_set d (by decide)), h.x0⟩

theorem InsNo.s12 (h : InsNo W g N cap a j2 listed u18 u19 u20 u21 u22 u23 u24 u25 u26 u27 u28 u29 u30 u31 u32 u33 u34 w') : InsNo W g N cap a j2 (listed.setIfInBounds 12 true) u18 u19 u20 u21 u22 u23 u24 u25 u26 u27 u28 u29 (undef) u31 u32 u33 u34 w' :=
  ⟨fun d => h.e0 (done_of_set d (by decide)), fun d => h.e1 (done_of_set d (by decide)), fun d => h.e2 (done_of_set d (by decide)), fun d => h.e3 (done_of_set d (by decide)), fun d => h.e4 (done_of_set d (by decide)), fun d => h.e5 (done_of_set d (by decide)), fun d => h.e6 (done_of_set d (by decide)), fun d => h.e7 (done_of_set d (by decide)), fun d => h.e8 (done_of_set d (by decide)), fun d => h.e9 (done_of_set d (by decide)), fun d => h.e10 (done_of_set d (by decide)), fun d => h.e11 (done_of_set d (by decide)), fun _ => rfl, fun d => h.e13 (done_of_set d (by decide)), fun d => h.e14 (done_of_set d (by decide)), fun d => h.e15 (done_of_set d (by decide)), fun d => h.e16 (done_of_set d (by decide)), h.x0⟩

theorem InsNo.s13 (h : InsNo W g N cap a j2 listed u18 u19 u20 u21 u22 u23 u24 u25 u26 u27 u28 u29 u30 u31 u32 u33 u34 w') : InsNo W g N cap a j2 (listed.setIfInBounds 13 true) u18 u19 u20 u21 u22 u23 u24 u25 u26 u27 u28 u29 u30 (undef) u32 u33 u34 w' :=
  ⟨fun d => h.e0 (done_of_set d (by decide)), fun d => h.e1 (done_of_set d (by decide)), fun d => h.e2 (done_of_set d (by decide)), fun d => h.e3 (done_of_set d (by decide)), fun d => h.e4 (done_of_set d (by decide)), fun d => h.e5 (done_of_set d (by decide)), fun d => h.e6 (done_of_set d (by decide)), fun d => h.e7 (done_of_set d (by decide)), fun d => h.e8 (done_of_set d (by decide)), fun d => h.e9 (done_of_set d (by decide)), fun d => h.e10 (done_of_set d (by decide)), fun d => h.e11 (done_of_set d (by decide)), fun d => h.e12 (done_of_set d (by decide)), fun _ => rfl, fun d => h.e14 (done_of_set d (by decide)), fun d => h.e15 (done_of_set d (by decide)), fun d => h.e16 (done_of_set d (by decide)), h.x0⟩

theorem InsNo.s14 (h : InsNo W g N cap a j2 listed u18 u19 u20 u21 u22 u23 u24 u25 u26 u27 u28 u29 u30 u31 u32 u33 u34 w') : InsNo W g N cap a j2 (listed.setIfInBounds 14 true) u18 u19 u20 u21 u22 u23 u24 u25 u26 u27 u28 u29 u30 u31 (undef) u33 u34 w' :=
  ⟨fun d => h.e0 (done_of_set d (by decide)), fun d => h.e1 (done_of_set d (by decide)), fun d => h.e2 (done_of_set d (by decide)), fun d => h.e3 (done_of_set d (by decide)), fun d => h.e4 (done_of_set d (by decide)), fun d => h.e5 (done_of_set d (by decide)), fun d => h.e6 (done_of_set d (by decide)), fun d => h.e7 (done_of_set d (by decide)), fun d => h.e8 (done_of_set d (by decide)), fun d => h.e9 (done_of_set d (by decide)), fun d => h.e10 (done_of_set d (by decide)), fun d => h.e11 (done_of_set d (by decide)), fun d => h.e12 (done_of_set d (by decide)), fun d => h.e13 (done_of_set d (by decide)), fun _ => rfl, fun d => h.e15 (done_of_set d (by decide)), fun d => h.e16 (done_of_set d (by decide)), h.x0⟩

theorem InsNo.s15 (h : InsNo W g N cap a j2 listed u18 u19 u20 u21 u22 u23 u24 u25 u26 u27 u28 u29 u30 u31 u32 u33 u34 w') : InsNo W g N cap a j2 (listed.setIfInBounds 15 true) u18 u19 u20 u21 u22 u23 u24 u25 u26 u27 u28 u29 u30 u31 u32 (undef) u34 w' :=
  ⟨fun d => h.e0 (done_of_set d (by decide)), fun d => h.e1 (done_of_set d (by decide)), fun d => h.e2 (done_of_set d (by decide)), fun d => h.e3 (done_of_set d (by decide)), fun d => h.e4 (done_of_set d (by decide)), fun d => h.e5 (done_of_set d (by decide)), fun d => h.e6 (done_of_set d (by decide)), fun d => h.e7 (done_of_set d (by decide)), fun d => h.e8 (done_of_set d (by decide)), fun d => h.e9 (done_of_set d (by decide)), fun d => h.e10 (done_of_set d (by decide)), fun d => h.e11 (done_of_set d (by decide)), fun d => h.e12 (done_of_set d (by decide)), fun d => h.e13 (done_of_set d (by decide)), fun d => h.e14 (done_of_set d (by decide)), fun _ => rfl, fun d => h.e16 (done_of_set d (by decide)), h.x0⟩

theorem InsNo.s16 (h : InsNo W g N cap a j2 listed u18 u19 u20 u21 u22 u23 u24 u25 u26 u27 u28 u29 u30 u31 u32 u33 u34 w') : InsNo W g N cap a j2 (listed.setIfInBounds 16 true) u18 u19 u20 u21 u22 u23 u24 u25 u26 u27 u28 u29 u30 u31 u32 u33 (.bool false) w' :=
  ⟨fun d => h.e0 (done_of_set d (by decide)), fun d => h.e1 (done_of_set d (by decide)), fun d => h.e2 (done_of_set d (by decide)), fun d => h.e3 (done_of_set d (by decide)), fun d => h.e4 (done_of_set d (by decide)), fun d => h.e5 (done_of_set d (by decide)), fun d => h.e6 (done_of_set d (by decide)), fun d => h.e7 (done_of_set d (by decide)), fun d => h.e8 (done_of_set d (by decide)), fun d => h.e9 (done_of_set d (by decide)), fun d => h.e10 (done_of_set d (by decide)), fun d => h.e11 (done_of_set d (by decide)), fun d => h.e12 (done_of_set d (by decide)), fun d => h.e13 (done_of_set d (by decide)), fun d => h.e14 (done_of_set d (by decide)), fun d => h.e15 (done_of_set d (by decide)), fun _ => rfl, h.x0⟩

end

set_option maxHeartbeats 2000000 in
set_option maxRecDepth 100000 in
theorem insertion_in (n : Nat) (hn : 5 ≤ n) (g cap a b : Nat) (ps : List Silo.Pt) (tail : List Value) (w : World) (h : PB w g ps tail) (ha : a ≤ b) (hb : b ≤ ps.length) (hl : ps.length ≤ 1099511627776) :
    CallsIn Fence.wide n Try.prog 83 #[.slice (some ⟨g, 0, none⟩) ps.length cap, .int .i64 a, .int .i64 b, .func (.func 56) #[] #[]] w fun e w' => e = .returned (.tuple #[]) ∧
      ∃ qs, PB w' g qs tail ∧ Silo.Within ps qs a b ∧ Silo.Sorted qs a b ∧ Fp (fun k => k = g) w w' := by
  have H : Hid _ := h
  clear h
  refine callsIn_of_wp Try.func83 rfl trivial ?_ rfl
  simp only [Try.ntmps83, List.size_toArray, List.length_cons, List.length_nil, Nat.reduceAdd, Nat.reduceSub, Array.replicate_succ, Array.replicate_zero, List.push_toArray, List.append_toArray, List.nil_append, List.cons_append]
  gi_wp2_with fail
  gi_loopw [8] (fun i wr => ∃ k : Nat, a + 1 ≤ k ∧ k ≤ ps.length + 1 ∧ i = .int .i64 k ∧ Hid (∃ qs, PB wr g qs tail ∧ Silo.Within ps qs a b ∧ Silo.Sorted qs a k ∧ Fp (fun k => k = g) w wr)) (fun i _ => b - (intOf i).toNat)
  case atStart => exact ⟨a + 1, by omega, by omega, by go_num, ps, H.out, Silo.Within.refl _ _ _, fun i j h1 h2 h3 => by omega, Fp.refl _ _⟩
  case round =>
    obtain ⟨i, hi1, hi2, rfl, HR⟩ := hrel
    by_cases hlt : i < b
    · gi_wp2_with fail
      gi_loopw [9] (fun jv wq => ∃ j : Nat, a ≤ j ∧ j ≤ i ∧ jv = .int .i64 j ∧ Hid (∃ qs, PB wq g qs tail ∧ Silo.Within ps qs a b ∧ Silo.Ins qs a i j ∧ Fp (fun k => k = g) w wq)) (fun jv _ => (intOf jv).toNat)
      case atStart =>
        obtain ⟨qs, h1, h2, h3, h4⟩ := HR.out
        exact ⟨i, by omega, by omega, rfl, qs, h1, h2, Silo.Ins.start h3, h4⟩
      case round =>
        obtain ⟨j2, hj1, hj2, rfl, HQ⟩ := hrel
        obtain ⟨qs, hpb, hwi, hins, hfp⟩ := HQ.out
        have hq1 : ps.length ≤ qs.length := Nat.le_of_eq hwi.len.symm
        have hq2 : qs.length ≤ ps.length := Nat.le_of_eq hwi.len
        by_cases hja : a < j2
        · obtain ⟨j, hjj⟩ : ∃ j, j2 = j + 1 := ⟨j2 - 1, by omega⟩
          obtain ⟨c0, c1⟩ := hpb.cell j2 (by omega)
          obtain ⟨c2, c3⟩ := hpb.cell j (by omega)
          have hfz := hpb.frozen
          have hgl : g < wr.heap.size := heap_lt hpb
          have HB : Hid (PB wr g qs tail) := hpb
          have HP : Hid _ := And.intro hpb (And.intro hwi (And.intro hins hfp))
          clear hpb hwi hins hfp HQ
          have b0 : (j2 : Int) - 1 = (j : Int) := by omega
          have b1 : (0 : Int) ≤ (j : Int) := by omega
          have b2 : (j2 : Int) < (ps.length : Int) := by omega
          have b3 : (j : Int) < (ps.length : Int) := by omega
          have b4 : (a : Int) < (j2 : Int) := by omega
          have b5 : j < j2 := by omega
          have b6 : IntKind.i64.wrap (j : Int) = (j : Int) := by rw [IntKind.wrap_i64]; omega
          have HJ : Hid (j2 = j + 1) := hjj
          clear hjj
          gi_wp2_with fail
          refine wpIn_cut (fun a' w' => Fp (fun _ => False) wr w' ∧ a' = { tmps := #[.slice (some ⟨g, 0, none⟩) ps.length cap, .int .i64 a, .int .i64 b, .func (.func 56) #[] #[], undef, undef, undef, undef, .int .i64 i, .int .i64 (j2 : Nat), .int .i64 a, .int .i64 (a + 1), .int .i64 i, .int .i64 b, .bool true, u15, u16, .int .i64 i, .int .i64 (j2 : Nat), .int .i64 a, .bool true, .bool true, .func (.func 56) #[] #[], .slice (some ⟨g, 0, none⟩) ps.length cap, .int .i64 (j2 : Nat), .pointer (some ⟨g, j2 * 2, none⟩), .agg #[.int .i64 (ptAt qs j2).t, .int .u64 ((ptAt qs j2).v : Nat)], .slice (some ⟨g, 0, none⟩) ps.length cap, .int .i64 (j2 : Nat), .int .i64 (j : Nat), .pointer (some ⟨g, j * 2, none⟩), .agg #[.int .i64 (ptAt qs j).t, .int .u64 ((ptAt qs j).v : Nat)], .int .i64 (cmpI (ptAt qs j2).t (ptAt qs j).t), .bool (decide (cmpI (ptAt qs j2).t (ptAt qs j).t < 0)), .bool (decide (cmpI (ptAt qs j2).t (ptAt qs j).t < 0)), u35, u36, u37, u38, u39, u40, u41, u42, u43, u44, u45, u46, u47, u48, u49, u50, u51, u52], defers := [] }) ?r4 ?k4
          case r4 =>
            refine wpIn_region_inv (by kernel_rfl) (by kernel_rfl) (fun listed a' w' => ∃ u18 u19 u20 u21 u22 u23 u24 u25 u26 u27 u28 u29 u30 u31 u32 u33 u34 : Value, a' = { tmps := #[.slice (some ⟨g, 0, none⟩) ps.length cap, .int .i64 a, .int .i64 b, .func (.func 56) #[] #[], undef, undef, undef, undef, .int .i64 i, .int .i64 (j2 : Nat), .int .i64 a, .int .i64 (a + 1), .int .i64 i, .int .i64 b, .bool true, u15, u16, .int .i64 i, u18, u19, u20, u21, u22, u23, u24, u25, u26, u27, u28, u29, u30, u31, u32, u33, u34, u35, u36, u37, u38, u39, u40, u41, u42, u43, u44, u45, u46, u47, u48, u49, u50, u51, u52], defers := [] } ∧ Hid (InsCmp wr g ps.length cap a j j2 qs listed u18 u19 u20 u21 u22 u23 u24 u25 u26 u27 u28 u29 u30 u31 u32 u33 u34 w')) ?p0 ?pend ?pstep
            case p0 => exact ⟨_, _, _, _, _, _, _, _, _, _, _, _, _, _, _, _, _, rfl, InsCmp.start (rfl)⟩
            case pend =>
              rintro listed a' w' hall ⟨u18, u19, u20, u21, u22, u23, u24, u25, u26, u27, u28, u29, u30, u31, u32, u33, u34, rfl, HI⟩
              obtain rfl := HI.out.e0 (hall 0 (by decide))
              obtain rfl := HI.out.e1 (hall 1 (by decide))
              obtain rfl := HI.out.e2 (hall 2 (by decide))
              obtain rfl := HI.out.e3 (hall 3 (by decide))
              obtain rfl := HI.out.e4 (hall 4 (by decide))
              obtain rfl := HI.out.e5 (hall 5 (by decide))
              obtain rfl := HI.out.e6 (hall 6 (by decide))
              obtain rfl := HI.out.e7 (hall 7 (by decide))
              obtain rfl := HI.out.e8 (hall 8 (by decide))
              obtain rfl := HI.out.e9 (hall 9 (by decide))
              obtain rfl := HI.out.e10 (hall 10 (by decide))
              obtain rfl := HI.out.e11 (hall 11 (by decide))
              obtain rfl := HI.out.e12 (hall 12 (by decide))
              obtain rfl := HI.out.e13 (hall 13 (by decide))
              obtain rfl := HI.out.e14 (hall 14 (by decide))
              obtain rfl := HI.out.e15 (hall 15 (by decide))
              obtain rfl := HI.out.e16 (hall 16 (by decide))
              have hw := HI.out.x1 (hall 14 (by decide))
              exact ⟨hw, rfl⟩
            case pstep =>
              rintro listed a' w' i o ho hi hd hdep hcl ⟨u18, u19, u20, u21, u22, u23, u24, u25, u26, u27, u28, u29, u30, u31, u32, u33, u34, rfl, HI⟩ K hK
              match i, ho with
              | 0, ho =>
                cases ho
                go_simp
                refine hK _ _ ⟨_, _, _, _, _, _, _, _, _, _, _, _, _, _, _, _, _, rfl, ?_⟩
                exact HI.out.s0
              | 1, ho =>
                cases ho
                go_simp
                refine hK _ _ ⟨_, _, _, _, _, _, _, _, _, _, _, _, _, _, _, _, _, rfl, ?_⟩
                exact HI.out.s1
              | 2, ho =>
                cases ho
                have d0 := hdep ⟨0, .data⟩ (by simp) rfl
                obtain rfl := HI.out.e0 d0
                have d1 := hdep ⟨1, .data⟩ (by simp) rfl
                obtain rfl := HI.out.e1 d1
                go_simp
                refine hK _ _ ⟨_, _, _, _, _, _, _, _, _, _, _, _, _, _, _, _, _, rfl, ?_⟩
                exact HI.out.s2
              | 3, ho =>
                cases ho
                have d2 := hdep ⟨2, .data⟩ (by simp) rfl
                obtain rfl := HI.out.e2 d2
                go_simp
                refine hK _ _ ⟨_, _, _, _, _, _, _, _, _, _, _, _, _, _, _, _, _, rfl, ?_⟩
                exact HI.out.s3
              | 4, ho =>
                cases ho
                have d3 := hdep ⟨3, .guard⟩ (by simp) rfl
                obtain rfl := HI.out.e3 d3
                go_simp
                refine hK _ _ ⟨_, _, _, _, _, _, _, _, _, _, _, _, _, _, _, _, _, rfl, ?_⟩
                exact HI.out.s4
              | 5, ho =>
                cases ho
                have d3 := hdep ⟨3, .guard⟩ (by simp) rfl
                obtain rfl := HI.out.e3 d3
                go_simp
                refine hK _ _ ⟨_, _, _, _, _, _, _, _, _, _, _, _, _, _, _, _, _, rfl, ?_⟩
                exact HI.out.s5
              | 6, ho =>
                cases ho
                have d3 := hdep ⟨3, .guard⟩ (by simp) rfl
                obtain rfl := HI.out.e3 d3
                go_simp
                refine hK _ _ ⟨_, _, _, _, _, _, _, _, _, _, _, _, _, _, _, _, _, rfl, ?_⟩
                exact HI.out.s6
              | 7, ho =>
                cases ho
                have d5 := hdep ⟨5, .data⟩ (by simp) rfl
                obtain rfl := HI.out.e5 d5
                have d6 := hdep ⟨6, .data⟩ (by simp) rfl
                obtain rfl := HI.out.e6 d6
                have d3 := hdep ⟨3, .guard⟩ (by simp) rfl
                obtain rfl := HI.out.e3 d3
                go_simp
                refine hK _ _ ⟨_, _, _, _, _, _, _, _, _, _, _, _, _, _, _, _, _, rfl, ?_⟩
                exact HI.out.s7
              | 8, ho =>
                cases ho
                have d7 := hdep ⟨7, .data⟩ (by simp) rfl
                obtain rfl := HI.out.e7 d7
                have d3 := hdep ⟨3, .guard⟩ (by simp) rfl
                obtain rfl := HI.out.e3 d3
                have q14 : done listed 14 = false := nd hcl (j := 14) rfl ⟨8, .data⟩ (by simp) rfl hd
                have hw := HI.out.x0 q14
                subst hw
                go_simp
                refine hK _ _ ⟨_, _, _, _, _, _, _, _, _, _, _, _, _, _, _, _, _, rfl, ?_⟩
                exact HI.out.s8
              | 9, ho =>
                cases ho
                have d3 := hdep ⟨3, .guard⟩ (by simp) rfl
                obtain rfl := HI.out.e3 d3
                go_simp
                refine hK _ _ ⟨_, _, _, _, _, _, _, _, _, _, _, _, _, _, _, _, _, rfl, ?_⟩
                exact HI.out.s9
              | 10, ho =>
                cases ho
                have d3 := hdep ⟨3, .guard⟩ (by simp) rfl
                obtain rfl := HI.out.e3 d3
                go_simp
                refine hK _ _ ⟨_, _, _, _, _, _, _, _, _, _, _, _, _, _, _, _, _, rfl, ?_⟩
                exact HI.out.s10
              | 11, ho =>
                cases ho
                have d10 := hdep ⟨10, .data⟩ (by simp) rfl
                obtain rfl := HI.out.e10 d10
                have d3 := hdep ⟨3, .guard⟩ (by simp) rfl
                obtain rfl := HI.out.e3 d3
                go_simp
                refine hK _ _ ⟨_, _, _, _, _, _, _, _, _, _, _, _, _, _, _, _, _, rfl, ?_⟩
                exact HI.out.s11
              | 12, ho =>
                cases ho
                have d9 := hdep ⟨9, .data⟩ (by simp) rfl
                obtain rfl := HI.out.e9 d9
                have d11 := hdep ⟨11, .data⟩ (by simp) rfl
                obtain rfl := HI.out.e11 d11
                have d3 := hdep ⟨3, .guard⟩ (by simp) rfl
                obtain rfl := HI.out.e3 d3
                go_simp
                refine hK _ _ ⟨_, _, _, _, _, _, _, _, _, _, _, _, _, _, _, _, _, rfl, ?_⟩
                exact HI.out.s12
              | 13, ho =>
                cases ho
                have d12 := hdep ⟨12, .data⟩ (by simp) rfl
                obtain rfl := HI.out.e12 d12
                have d3 := hdep ⟨3, .guard⟩ (by simp) rfl
                obtain rfl := HI.out.e3 d3
                have q14 : done listed 14 = false := nd hcl (j := 14) rfl ⟨13, .data⟩ (by simp) rfl hd
                have hw := HI.out.x0 q14
                subst hw
                go_simp
                refine hK _ _ ⟨_, _, _, _, _, _, _, _, _, _, _, _, _, _, _, _, _, rfl, ?_⟩
                exact HI.out.s13
              | 14, ho =>
                cases ho
                have d4 := hdep ⟨4, .data⟩ (by simp) rfl
                obtain rfl := HI.out.e4 d4
                have d8 := hdep ⟨8, .data⟩ (by simp) rfl
                obtain rfl := HI.out.e8 d8
                have d13 := hdep ⟨13, .data⟩ (by simp) rfl
                obtain rfl := HI.out.e13 d13
                have d3 := hdep ⟨3, .guard⟩ (by simp) rfl
                obtain rfl := HI.out.e3 d3
                have hw := HI.out.x0 hd
                subst hw
                go_simp
                refine ⟨trivial, fun _ => by omega, (callsIn_wide.2 (byTime_any (ptAt qs j2).t (ptAt qs j).t _ _ wr.drew)).mono ?_⟩
                rintro e w5 ⟨rfl, h5⟩
                refine hK _ _ ⟨_, _, _, _, _, _, _, _, _, _, _, _, _, _, _, _, _, rfl, ?_⟩
                exact HI.out.s14 hi ((Fp.drew _ wr).trans' h5)
              | 15, ho =>
                cases ho
                have d14 := hdep ⟨14, .data⟩ (by simp) rfl
                obtain rfl := HI.out.e14 d14
                have d3 := hdep ⟨3, .guard⟩ (by simp) rfl
                obtain rfl := HI.out.e3 d3
                go_simp
                refine hK _ _ ⟨_, _, _, _, _, _, _, _, _, _, _, _, _, _, _, _, _, rfl, ?_⟩
                exact HI.out.s15
              | 16, ho =>
                cases ho
                have d3 := hdep ⟨3, .data⟩ (by simp) rfl
                obtain rfl := HI.out.e3 d3
                have d15 := hdep ⟨15, .data⟩ (by simp) rfl
                obtain rfl := HI.out.e15 d15
                go_simp
                refine hK _ _ ⟨_, _, _, _, _, _, _, _, _, _, _, _, _, _, _, _, _, rfl, ?_⟩
                exact HI.out.s16
          rintro a' w5 ⟨hf4, rfl⟩
          dsimp only
          have hpb5 : PB w5 g qs tail := HB.out.fp hf4 (fun h => h)
          by_cases hc : (ptAt qs j2).t < (ptAt qs j).t
          · have hcc : decide (cmpI (ptAt qs j2).t (ptAt qs j).t < 0) = true := by rw [decide_eq_true_eq, cmpI_lt]; exact hc
            rw [hcc]
            obtain ⟨c4, c5⟩ := hpb5.cell j2 (by omega)
            obtain ⟨c6, c7⟩ := hpb5.cell j (by omega)
            have hfz5 := hpb5.frozen
            have HB5 : Hid (PB w5 g qs tail) := hpb5
            have HC : Hid _ := And.intro hc hf4
            clear hc hcc hf4 hpb5 c0 c1 c2 c3 hfz HB
            gi_wp2_with fail
            refine wpIn_cutQ (fun a' w' => (PB w' g ((qs.set j2 (ptAt qs j)).set j (ptAt qs j2)) tail ∧ Fp (fun k => k = g) w5 w') ∧ a' = { tmps := #[.slice (some ⟨g, 0, none⟩) ps.length cap, .int .i64 a, .int .i64 b, .func (.func 56) #[] #[], undef, undef, undef, undef, .int .i64 i, .int .i64 (j2 : Nat), .int .i64 a, .int .i64 (a + 1), .int .i64 i, .int .i64 b, .bool true, u15, u16, .int .i64 i, .int .i64 (j2 : Nat), .int .i64 a, .bool true, .bool true, .func (.func 56) #[] #[], .slice (some ⟨g, 0, none⟩) ps.length cap, .int .i64 (j2 : Nat), .pointer (some ⟨g, j2 * 2, none⟩), .agg #[.int .i64 (ptAt qs j2).t, .int .u64 ((ptAt qs j2).v : Nat)], .slice (some ⟨g, 0, none⟩) ps.length cap, .int .i64 (j2 : Nat), .int .i64 (j : Nat), .pointer (some ⟨g, j * 2, none⟩), .agg #[.int .i64 (ptAt qs j).t, .int .u64 ((ptAt qs j).v : Nat)], .int .i64 (cmpI (ptAt qs j2).t (ptAt qs j).t), .bool true, .bool true, u35, u36, .slice (some ⟨g, 0, none⟩) ps.length cap, .int .i64 (j2 : Nat), .slice (some ⟨g, 0, none⟩) ps.length cap, .int .i64 (j2 : Nat), .int .i64 (j : Nat), .slice (some ⟨g, 0, none⟩) ps.length cap, .int .i64 (j2 : Nat), .int .i64 (j : Nat), .pointer (some ⟨g, j * 2, none⟩), .agg #[.int .i64 (ptAt qs j).t, .int .u64 ((ptAt qs j).v : Nat)], .slice (some ⟨g, 0, none⟩) ps.length cap, .int .i64 (j2 : Nat), .pointer (some ⟨g, j2 * 2, none⟩), .agg #[.int .i64 (ptAt qs j2).t, .int .u64 ((ptAt qs j2).v : Nat)], .pointer (some ⟨g, j2 * 2, none⟩), .pointer (some ⟨g, j * 2, none⟩)], defers := [] }) ?r6 ?k6
            case r6 =>
              refine wpIn_region_inv (by kernel_rfl) (by kernel_rfl) (fun listed a' w' => ∃ u37 u38 u39 u40 u41 u42 u43 u44 u45 u46 u47 u48 u49 u50 u51 u52 : Value, a' = { tmps := #[.slice (some ⟨g, 0, none⟩) ps.length cap, .int .i64 a, .int .i64 b, .func (.func 56) #[] #[], undef, undef, undef, undef, .int .i64 i, .int .i64 (j2 : Nat), .int .i64 a, .int .i64 (a + 1), .int .i64 i, .int .i64 b, .bool true, u15, u16, .int .i64 i, .int .i64 (j2 : Nat), .int .i64 a, .bool true, .bool true, .func (.func 56) #[] #[], .slice (some ⟨g, 0, none⟩) ps.length cap, .int .i64 (j2 : Nat), .pointer (some ⟨g, j2 * 2, none⟩), .agg #[.int .i64 (ptAt qs j2).t, .int .u64 ((ptAt qs j2).v : Nat)], .slice (some ⟨g, 0, none⟩) ps.length cap, .int .i64 (j2 : Nat), .int .i64 (j : Nat), .pointer (some ⟨g, j * 2, none⟩), .agg #[.int .i64 (ptAt qs j).t, .int .u64 ((ptAt qs j).v : Nat)], .int .i64 (cmpI (ptAt qs j2).t (ptAt qs j).t), .bool true, .bool true, u35, u36, u37, u38, u39, u40, u41, u42, u43, u44, u45, u46, u47, u48, u49, u50, u51, u52], defers := [] } ∧ Hid (InsSw w5 g ps.length cap j j2 qs tail listed u37 u38 u39 u40 u41 u42 u43 u44 u45 u46 u47 u48 u49 u50 u51 u52 w')) ?s0 ?send ?sstep
              case s0 => exact ⟨_, _, _, _, _, _, _, _, _, _, _, _, _, _, _, _, rfl, InsSw.start (rfl)⟩
              case send =>
                rintro listed a' w' hall ⟨u37, u38, u39, u40, u41, u42, u43, u44, u45, u46, u47, u48, u49, u50, u51, u52, rfl, HI⟩
                obtain rfl := HI.out.e0 (hall 0 (by decide))
                obtain rfl := HI.out.e1 (hall 1 (by decide))
                obtain rfl := HI.out.e2 (hall 2 (by decide))
                obtain rfl := HI.out.e3 (hall 3 (by decide))
                obtain rfl := HI.out.e4 (hall 4 (by decide))
                obtain rfl := HI.out.e5 (hall 5 (by decide))
                obtain rfl := HI.out.e6 (hall 6 (by decide))
                obtain rfl := HI.out.e7 (hall 7 (by decide))
                obtain rfl := HI.out.e8 (hall 8 (by decide))
                obtain rfl := HI.out.e9 (hall 9 (by decide))
                obtain rfl := HI.out.e10 (hall 10 (by decide))
                obtain rfl := HI.out.e11 (hall 11 (by decide))
                obtain rfl := HI.out.e12 (hall 12 (by decide))
                obtain rfl := HI.out.e13 (hall 13 (by decide))
                obtain rfl := HI.out.e14 (hall 14 (by decide))
                obtain rfl := HI.out.e16 (hall 16 (by decide))
                have hw := HI.out.x2 (hall 17 (by decide))
                exact ⟨hw, rfl⟩
              case sstep =>
                rintro listed a' w' i o ho hi hd hdep hcl ⟨u37, u38, u39, u40, u41, u42, u43, u44, u45, u46, u47, u48, u49, u50, u51, u52, rfl, HI⟩ K hK
                match i, ho with
                | 0, ho =>
                  cases ho
                  go_simp
                  refine hK _ _ ⟨_, _, _, _, _, _, _, _, _, _, _, _, _, _, _, _, rfl, ?_⟩
                  exact HI.out.s0
                | 1, ho =>
                  cases ho
                  go_simp
                  refine hK _ _ ⟨_, _, _, _, _, _, _, _, _, _, _, _, _, _, _, _, rfl, ?_⟩
                  exact HI.out.s1
                | 2, ho =>
                  cases ho
                  go_simp
                  refine hK _ _ ⟨_, _, _, _, _, _, _, _, _, _, _, _, _, _, _, _, rfl, ?_⟩
                  exact HI.out.s2
                | 3, ho =>
                  cases ho
                  go_simp
                  refine hK _ _ ⟨_, _, _, _, _, _, _, _, _, _, _, _, _, _, _, _, rfl, ?_⟩
                  exact HI.out.s3
                | 4, ho =>
                  cases ho
                  have d3 := hdep ⟨3, .data⟩ (by simp) rfl
                  obtain rfl := HI.out.e3 d3
                  go_simp
                  refine hK _ _ ⟨_, _, _, _, _, _, _, _, _, _, _, _, _, _, _, _, rfl, ?_⟩
                  exact HI.out.s4
                | 5, ho =>
                  cases ho
                  go_simp
                  refine hK _ _ ⟨_, _, _, _, _, _, _, _, _, _, _, _, _, _, _, _, rfl, ?_⟩
                  exact HI.out.s5
                | 6, ho =>
                  cases ho
                  go_simp
                  refine hK _ _ ⟨_, _, _, _, _, _, _, _, _, _, _, _, _, _, _, _, rfl, ?_⟩
                  exact HI.out.s6
                | 7, ho =>
                  cases ho
                  have d6 := hdep ⟨6, .data⟩ (by simp) rfl
                  obtain rfl := HI.out.e6 d6
                  go_simp
                  refine hK _ _ ⟨_, _, _, _, _, _, _, _, _, _, _, _, _, _, _, _, rfl, ?_⟩
                  exact HI.out.s7
                | 8, ho =>
                  cases ho
                  have d5 := hdep ⟨5, .data⟩ (by simp) rfl
                  obtain rfl := HI.out.e5 d5
                  have d7 := hdep ⟨7, .data⟩ (by simp) rfl
                  obtain rfl := HI.out.e7 d7
                  go_simp
                  refine hK _ _ ⟨_, _, _, _, _, _, _, _, _, _, _, _, _, _, _, _, rfl, ?_⟩
                  exact HI.out.s8
                | 9, ho =>
                  cases ho
                  have d8 := hdep ⟨8, .data⟩ (by simp) rfl
                  obtain rfl := HI.out.e8 d8
                  have q15 : done listed 15 = false := nd hcl (j := 15) rfl ⟨9, .data⟩ (by simp) rfl hd
                  have hw := HI.out.x0 q15
                  subst hw
                  go_simp
                  refine hK _ _ ⟨_, _, _, _, _, _, _, _, _, _, _, _, _, _, _, _, rfl, ?_⟩
                  exact HI.out.s9
                | 10, ho =>
                  cases ho
                  go_simp
                  refine hK _ _ ⟨_, _, _, _, _, _, _, _, _, _, _, _, _, _, _, _, rfl, ?_⟩
                  exact HI.out.s10
                | 11, ho =>
                  cases ho
                  go_simp
                  refine hK _ _ ⟨_, _, _, _, _, _, _, _, _, _, _, _, _, _, _, _, rfl, ?_⟩
                  exact HI.out.s11
                | 12, ho =>
                  cases ho
                  have d10 := hdep ⟨10, .data⟩ (by simp) rfl
                  obtain rfl := HI.out.e10 d10
                  have d11 := hdep ⟨11, .data⟩ (by simp) rfl
                  obtain rfl := HI.out.e11 d11
                  go_simp
                  refine hK _ _ ⟨_, _, _, _, _, _, _, _, _, _, _, _, _, _, _, _, rfl, ?_⟩
                  exact HI.out.s12
                | 13, ho =>
                  cases ho
                  have d12 := hdep ⟨12, .data⟩ (by simp) rfl
                  obtain rfl := HI.out.e12 d12
                  have q15 : done listed 15 = false := nd hcl (j := 15) rfl ⟨13, .phase⟩ (by simp) rfl hd
                  have hw := HI.out.x0 q15
                  subst hw
                  go_simp
                  refine hK _ _ ⟨_, _, _, _, _, _, _, _, _, _, _, _, _, _, _, _, rfl, ?_⟩
                  exact HI.out.s13
                | 14, ho =>
                  cases ho
                  have d0 := hdep ⟨0, .data⟩ (by simp) rfl
                  obtain rfl := HI.out.e0 d0
                  have d1 := hdep ⟨1, .data⟩ (by simp) rfl
                  obtain rfl := HI.out.e1 d1
                  go_simp
                  refine hK _ _ ⟨_, _, _, _, _, _, _, _, _, _, _, _, _, _, _, _, rfl, ?_⟩
                  exact HI.out.s14
                | 15, ho =>
                  cases ho
                  have d14 := hdep ⟨14, .data⟩ (by simp) rfl
                  obtain rfl := HI.out.e14 d14
                  have d9 := hdep ⟨9, .data⟩ (by simp) rfl
                  obtain rfl := HI.out.e9 d9
                  have hw := HI.out.x0 hd
                  have q17 : done listed 17 = false := nd hcl (j := 17) rfl ⟨15, .chain⟩ (by simp) rfl hd
                  have hn := q17
                  subst hw
                  go_simp
                  refine hK _ _ ⟨_, _, _, _, _, _, _, _, _, _, _, _, _, _, _, _, rfl, ?_⟩
                  exact HI.out.s15 hi hn (⟨(PB.put HB5.out.drew j2 (by omega) (ptAt qs j)), Fp.trans' (Fp.drew _ w5) (Fp.trans' (Fp.setCell _ _ _ rfl) (Fp.setCell _ _ _ rfl))⟩)
                | 16, ho =>
                  cases ho
                  have d2 := hdep ⟨2, .data⟩ (by simp) rfl
                  obtain rfl := HI.out.e2 d2
                  have d4 := hdep ⟨4, .data⟩ (by simp) rfl
                  obtain rfl := HI.out.e4 d4
                  go_simp
                  refine hK _ _ ⟨_, _, _, _, _, _, _, _, _, _, _, _, _, _, _, _, rfl, ?_⟩
                  exact HI.out.s16
                | 17, ho =>
                  cases ho
                  have d16 := hdep ⟨16, .data⟩ (by simp) rfl
                  obtain rfl := HI.out.e16 d16
                  have d13 := hdep ⟨13, .data⟩ (by simp) rfl
                  obtain rfl := HI.out.e13 d13
                  have hp := hdep ⟨15, .chain⟩ (by simp) rfl
                  have hw := HI.out.x1 hp hd
                  have hb1 := hw.1
                  have hc1 := hb1.cell j (by simp; omega)
                  have hz1 := hb1.frozen
                  have hc2 := hc1.1
                  have hc3 := hc1.2
                  go_simp
                  refine hK _ _ ⟨_, _, _, _, _, _, _, _, _, _, _, _, _, _, _, _, rfl, ?_⟩
                  exact HI.out.s17 hi hp (⟨(PB.put hw.1 j (by simp; omega) (ptAt qs j2)), Fp.trans' hw.2 (Fp.trans' (Fp.setCell _ _ _ rfl) (Fp.setCell _ _ _ rfl))⟩)
            rintro a' w6 ⟨h6, rfl⟩
            dsimp only
            have H6 : Hid _ := h6
            clear h6 c4 c5 c6 c7 hfz5
            gi_wp2
            go_roundw
            case rel =>
              obtain ⟨hpb, hwi, hins, hfp⟩ := HP.out
              have e := HJ.out
              subst e
              refine ⟨j, by omega, by omega, by go_num, sw qs (j + 1) j, H6.out.1, hwi.trans (Silo.Within.sw (by omega) (by omega) (by omega) HC.out.1), hins.step (by omega) hj2 (by omega) HC.out.1, ?_⟩
              exact (hfp.trans HC.out.2 (fun _ h => h) (fun _ _ h => h.elim)).trans' H6.out.2
            case measure => simp [intOf]; omega
          · have hcc : decide (cmpI (ptAt qs j2).t (ptAt qs j).t < 0) = false := by rw [decide_eq_false_iff_not, cmpI_lt]; exact hc
            rw [hcc]
            have HC : Hid _ := And.intro hc (And.intro hf4 hpb5)
            clear hc hcc hf4 hpb5 c0 c1 c2 c3 hfz
            gi_wp2
            go_roundw
            case rel =>
              obtain ⟨hpb, hwi, hins, hfp⟩ := HP.out
              have e := HJ.out
              refine ⟨i + 1, by omega, by omega, by go_num, qs, HC.out.2.2, hwi, hins.stop (.inr ?_), hfp.trans HC.out.2.1 (fun _ h => h) (fun _ _ h => h.elim)⟩
              have e2 : j2 - 1 = j := by omega
              rw [e2]
              have := HC.out.1
              omega
            case measure => simp [intOf]; omega
        · have HP : Hid _ := And.intro hpb (And.intro hwi (And.intro hins hfp))
          clear hpb hwi hins hfp HQ
          have b4 : (j2 : Int) ≤ (a : Int) := by omega
          gi_wp2_with fail
          refine wpIn_cut (fun a' w' => w' = wr.drew ∧ a' = { tmps := #[.slice (some ⟨g, 0, none⟩) ps.length cap, .int .i64 a, .int .i64 b, .func (.func 56) #[] #[], undef, undef, undef, undef, .int .i64 i, .int .i64 (j2 : Nat), .int .i64 a, .int .i64 (a + 1), .int .i64 i, .int .i64 b, .bool true, u15, u16, .int .i64 i, .int .i64 (j2 : Nat), .int .i64 a, .bool false, .bool false, undef, undef, undef, undef, undef, undef, undef, undef, undef, undef, undef, undef, .bool false, u35, u36, u37, u38, u39, u40, u41, u42, u43, u44, u45, u46, u47, u48, u49, u50, u51, u52], defers := [] }) ?r5 ?k5
          case r5 =>
            refine wpIn_region_inv (by kernel_rfl) (by kernel_rfl) (fun listed a' w' => ∃ u18 u19 u20 u21 u22 u23 u24 u25 u26 u27 u28 u29 u30 u31 u32 u33 u34 : Value, a' = { tmps := #[.slice (some ⟨g, 0, none⟩) ps.length cap, .int .i64 a, .int .i64 b, .func (.func 56) #[] #[], undef, undef, undef, undef, .int .i64 i, .int .i64 (j2 : Nat), .int .i64 a, .int .i64 (a + 1), .int .i64 i, .int .i64 b, .bool true, u15, u16, .int .i64 i, u18, u19, u20, u21, u22, u23, u24, u25, u26, u27, u28, u29, u30, u31, u32, u33, u34, u35, u36, u37, u38, u39, u40, u41, u42, u43, u44, u45, u46, u47, u48, u49, u50, u51, u52], defers := [] } ∧ Hid (InsNo wr g ps.length cap a j2 listed u18 u19 u20 u21 u22 u23 u24 u25 u26 u27 u28 u29 u30 u31 u32 u33 u34 w')) ?g0 ?gend ?gstep
            case g0 => exact ⟨_, _, _, _, _, _, _, _, _, _, _, _, _, _, _, _, _, rfl, InsNo.start (rfl)⟩
            case gend =>
              rintro listed a' w' hall ⟨u18, u19, u20, u21, u22, u23, u24, u25, u26, u27, u28, u29, u30, u31, u32, u33, u34, rfl, HI⟩
              obtain rfl := HI.out.e0 (hall 0 (by decide))
              obtain rfl := HI.out.e1 (hall 1 (by decide))
              obtain rfl := HI.out.e2 (hall 2 (by decide))
              obtain rfl := HI.out.e3 (hall 3 (by decide))
              obtain rfl := HI.out.e4 (hall 4 (by decide))
              obtain rfl := HI.out.e5 (hall 5 (by decide))
              obtain rfl := HI.out.e6 (hall 6 (by decide))
              obtain rfl := HI.out.e7 (hall 7 (by decide))
              obtain rfl := HI.out.e8 (hall 8 (by decide))
              obtain rfl := HI.out.e9 (hall 9 (by decide))
              obtain rfl := HI.out.e10 (hall 10 (by decide))
              obtain rfl := HI.out.e11 (hall 11 (by decide))
              obtain rfl := HI.out.e12 (hall 12 (by decide))
              obtain rfl := HI.out.e13 (hall 13 (by decide))
              obtain rfl := HI.out.e14 (hall 14 (by decide))
              obtain rfl := HI.out.e15 (hall 15 (by decide))
              obtain rfl := HI.out.e16 (hall 16 (by decide))
              have hw := HI.out.x0
              exact ⟨hw, rfl⟩
            case gstep =>
              rintro listed a' w' i o ho hi hd hdep hcl ⟨u18, u19, u20, u21, u22, u23, u24, u25, u26, u27, u28, u29, u30, u31, u32, u33, u34, rfl, HI⟩ K hK
              match i, ho with
              | 0, ho =>
                cases ho
                go_simp
                refine hK _ _ ⟨_, _, _, _, _, _, _, _, _, _, _, _, _, _, _, _, _, rfl, ?_⟩
                exact HI.out.s0
              | 1, ho =>
                cases ho
                go_simp
                refine hK _ _ ⟨_, _, _, _, _, _, _, _, _, _, _, _, _, _, _, _, _, rfl, ?_⟩
                exact HI.out.s1
              | 2, ho =>
                cases ho
                have d0 := hdep ⟨0, .data⟩ (by simp) rfl
                obtain rfl := HI.out.e0 d0
                have d1 := hdep ⟨1, .data⟩ (by simp) rfl
                obtain rfl := HI.out.e1 d1
                go_simp
                refine hK _ _ ⟨_, _, _, _, _, _, _, _, _, _, _, _, _, _, _, _, _, rfl, ?_⟩
                exact HI.out.s2
              | 3, ho =>
                cases ho
                have d2 := hdep ⟨2, .data⟩ (by simp) rfl
                obtain rfl := HI.out.e2 d2
                go_simp
                refine hK _ _ ⟨_, _, _, _, _, _, _, _, _, _, _, _, _, _, _, _, _, rfl, ?_⟩
                exact HI.out.s3
              | 4, ho =>
                cases ho
                have d3 := hdep ⟨3, .guard⟩ (by simp) rfl
                obtain rfl := HI.out.e3 d3
                go_simp
                refine hK _ _ ⟨_, _, _, _, _, _, _, _, _, _, _, _, _, _, _, _, _, rfl, ?_⟩
                exact HI.out.s4
              | 5, ho =>
                cases ho
                have d3 := hdep ⟨3, .guard⟩ (by simp) rfl
                obtain rfl := HI.out.e3 d3
                go_simp
                refine hK _ _ ⟨_, _, _, _, _, _, _, _, _, _, _, _, _, _, _, _, _, rfl, ?_⟩
                exact HI.out.s5
              | 6, ho =>
                cases ho
                have d3 := hdep ⟨3, .guard⟩ (by simp) rfl
                obtain rfl := HI.out.e3 d3
                go_simp
                refine hK _ _ ⟨_, _, _, _, _, _, _, _, _, _, _, _, _, _, _, _, _, rfl, ?_⟩
                exact HI.out.s6
              | 7, ho =>
                cases ho
                have d5 := hdep ⟨5, .data⟩ (by simp) rfl
                obtain rfl := HI.out.e5 d5
                have d6 := hdep ⟨6, .data⟩ (by simp) rfl
                obtain rfl := HI.out.e6 d6
                have d3 := hdep ⟨3, .guard⟩ (by simp) rfl
                obtain rfl := HI.out.e3 d3
                go_simp
                refine hK _ _ ⟨_, _, _, _, _, _, _, _, _, _, _, _, _, _, _, _, _, rfl, ?_⟩
                exact HI.out.s7
              | 8, ho =>
                cases ho
                have d7 := hdep ⟨7, .data⟩ (by simp) rfl
                obtain rfl := HI.out.e7 d7
                have d3 := hdep ⟨3, .guard⟩ (by simp) rfl
                obtain rfl := HI.out.e3 d3
                have hw := HI.out.x0
                subst hw
                go_simp
                refine hK _ _ ⟨_, _, _, _, _, _, _, _, _, _, _, _, _, _, _, _, _, rfl, ?_⟩
                exact HI.out.s8
              | 9, ho =>
                cases ho
                have d3 := hdep ⟨3, .guard⟩ (by simp) rfl
                obtain rfl := HI.out.e3 d3
                go_simp
                refine hK _ _ ⟨_, _, _, _, _, _, _, _, _, _, _, _, _, _, _, _, _, rfl, ?_⟩
                exact HI.out.s9
              | 10, ho =>
                cases ho
                have d3 := hdep ⟨3, .guard⟩ (by simp) rfl
                obtain rfl := HI.out.e3 d3
                go_simp
                refine hK _ _ ⟨_, _, _, _, _, _, _, _, _, _, _, _, _, _, _, _, _, rfl, ?_⟩
                exact HI.out.s10
              | 11, ho =>
                cases ho
                have d10 := hdep ⟨10, .data⟩ (by simp) rfl
                obtain rfl := HI.out.e10 d10
                have d3 := hdep ⟨3, .guard⟩ (by simp) rfl
                obtain rfl := HI.out.e3 d3
                go_simp
                refine hK _ _ ⟨_, _, _, _, _, _, _, _, _, _, _, _, _, _, _, _, _, rfl, ?_⟩
                exact HI.out.s11
              | 12, ho =>
                cases ho
                have d9 := hdep ⟨9, .data⟩ (by simp) rfl
                obtain rfl := HI.out.e9 d9
                have d11 := hdep ⟨11, .data⟩ (by simp) rfl
                obtain rfl := HI.out.e11 d11
                have d3 := hdep ⟨3, .guard⟩ (by simp) rfl
                obtain rfl := HI.out.e3 d3
                go_simp
                refine hK _ _ ⟨_, _, _, _, _, _, _, _, _, _, _, _, _, _, _, _, _, rfl, ?_⟩
                exact HI.out.s12
              | 13, ho =>
                cases ho
                have d12 := hdep ⟨12, .data⟩ (by simp) rfl
                obtain rfl := HI.out.e12 d12
                have d3 := hdep ⟨3, .guard⟩ (by simp) rfl
                obtain rfl := HI.out.e3 d3
                have hw := HI.out.x0
                subst hw
                go_simp
                refine hK _ _ ⟨_, _, _, _, _, _, _, _, _, _, _, _, _, _, _, _, _, rfl, ?_⟩
                exact HI.out.s13
              | 14, ho =>
                cases ho
                have d4 := hdep ⟨4, .data⟩ (by simp) rfl
                obtain rfl := HI.out.e4 d4
                have d8 := hdep ⟨8, .data⟩ (by simp) rfl
                obtain rfl := HI.out.e8 d8
                have d13 := hdep ⟨13, .data⟩ (by simp) rfl
                obtain rfl := HI.out.e13 d13
                have d3 := hdep ⟨3, .guard⟩ (by simp) rfl
                obtain rfl := HI.out.e3 d3
                go_simp
                refine ⟨fun _ _ => trivial, ?_⟩
                refine hK _ _ ⟨_, _, _, _, _, _, _, _, _, _, _, _, _, _, _, _, _, rfl, ?_⟩
                exact HI.out.s14
              | 15, ho =>
                cases ho
                have d14 := hdep ⟨14, .data⟩ (by simp) rfl
                obtain rfl := HI.out.e14 d14
                have d3 := hdep ⟨3, .guard⟩ (by simp) rfl
                obtain rfl := HI.out.e3 d3
                go_simp
                refine hK _ _ ⟨_, _, _, _, _, _, _, _, _, _, _, _, _, _, _, _, _, rfl, ?_⟩
                exact HI.out.s15
              | 16, ho =>
                cases ho
                have d3 := hdep ⟨3, .data⟩ (by simp) rfl
                obtain rfl := HI.out.e3 d3
                have d15 := hdep ⟨15, .data⟩ (by simp) rfl
                obtain rfl := HI.out.e15 d15
                go_simp
                refine hK _ _ ⟨_, _, _, _, _, _, _, _, _, _, _, _, _, _, _, _, _, rfl, ?_⟩
                exact HI.out.s16
          rintro a' w5 ⟨rfl, rfl⟩
          dsimp only
          gi_wp2
          go_roundw
          case rel =>
            obtain ⟨hpb, hwi, hins, hfp⟩ := HP.out
            exact ⟨i + 1, by omega, by omega, by go_num, qs, hpb, hwi, hins.stop (.inl (by omega)), hfp.trans (Fp.drew (fun _ => False) _) (fun _ h => h) (fun _ _ h => h.elim)⟩
          case measure => simp [intOf]; omega
    · gi_wp2
      go_end0
      obtain ⟨qs, h1, h2, h3, h4⟩ := HR.out
      exact ⟨rfl, qs, h1, h2, fun x y g1 g2 g3 => h3 x y g1 g2 (by omega), h4⟩

end Go.Proofs.Ytojjkjfcbfoinaa
