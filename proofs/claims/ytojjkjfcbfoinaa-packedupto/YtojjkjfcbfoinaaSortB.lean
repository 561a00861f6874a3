/- The library's swapRange, rotate over points. -/
import Derived.Test.YtojjkjfcbfoinaaSortA
namespace Go.Proofs.Ytojjkjfcbfoinaa
open Go.RowKit
open Silo (ptAt sw)

attribute [local go_sem] Oper.semAt_some

/-- Stretches of k change places. -/
def swR (ps : List Silo.Pt) (a b : Nat) : Nat → List Silo.Pt
  | 0 => ps
  | k + 1 => sw (swR ps a b k) (a + k) (b + k)

theorem swR_length (ps : List Silo.Pt) (a b : Nat) : ∀ k, (swR ps a b k).length = ps.length
  | 0 => rfl
  | k + 1 => by rw [swR, Silo.sw_length, swR_length ps a b k]

/-- In the midst of an exchange of two points. -/
structure RgSw (W : World) (g N cap a b i p q : Nat) (qs : List Silo.Pt) (tail : List Value) (listed : Array Bool) (u16 u17 u18 u19 u20 u21 u22 u23 u24 u25 u26 u27 u28 u29 u30 u31 u32 u33 u34 u35 u36 u37 : Value) (w' : World) : Prop where
  e0 : done listed 0 = true → u16 = .slice (some ⟨g, 0, none⟩) N cap
  e1 : done listed 1 = true → u17 = .int .i64 (a : Nat)
  e2 : done listed 2 = true → u18 = .int .i64 (i : Nat)
  e3 : done listed 3 = true → u19 = .int .i64 (p : Nat)
  e4 : done listed 4 = true → u20 = .slice (some ⟨g, 0, none⟩) N cap
  e5 : done listed 5 = true → u21 = .int .i64 (b : Nat)
  e6 : done listed 6 = true → u22 = .int .i64 (i : Nat)
  e7 : done listed 7 = true → u23 = .int .i64 (q : Nat)
  e8 : done listed 8 = true → u24 = .slice (some ⟨g, 0, none⟩) N cap
  e9 : done listed 9 = true → u25 = .int .i64 (b : Nat)
  e10 : done listed 10 = true → u26 = .int .i64 (i : Nat)
  e11 : done listed 11 = true → u27 = .int .i64 (q : Nat)
  e12 : done listed 12 = true → u28 = .pointer (some ⟨g, q * 2, none⟩)
  e13 : done listed 13 = true → u29 = .agg #[.int .i64 (ptAt qs q).t, .int .u64 ((ptAt qs q).v : Nat)]
  e14 : done listed 14 = true → u30 = .slice (some ⟨g, 0, none⟩) N cap
  e15 : done listed 15 = true → u31 = .int .i64 (a : Nat)
  e16 : done listed 16 = true → u32 = .int .i64 (i : Nat)
  e17 : done listed 17 = true → u33 = .int .i64 (p : Nat)
  e18 : done listed 18 = true → u34 = .pointer (some ⟨g, p * 2, none⟩)
  e19 : done listed 19 = true → u35 = .agg #[.int .i64 (ptAt qs p).t, .int .u64 ((ptAt qs p).v : Nat)]
  e20 : done listed 20 = true → u36 = .pointer (some ⟨g, p * 2, none⟩)
  e22 : done listed 22 = true → u37 = .pointer (some ⟨g, q * 2, none⟩)
  x0 : done listed 21 = false → w' = W.drew
  x1 : done listed 21 = true → done listed 23 = false → PB w' g (qs.set p (ptAt qs q)) tail ∧ Fp (fun k => k = g) W w'
  x2 : done listed 23 = true → PB w' g ((qs.set p (ptAt qs q)).set q (ptAt qs p)) tail ∧ Fp (fun k => k = g) W w'

section
variable {W : World} {g N cap a b i p q : Nat} {qs : List Silo.Pt} {tail : List Value} {listed : Array Bool} {u16 u17 u18 u19 u20 u21 u22 u23 u24 u25 u26 u27 u28 u29 u30 u31 u32 u33 u34 u35 u36 u37 : Value} {w' : World}

theorem RgSw.start {k : Nat} (h : w' = W.drew) : RgSw W g N cap a b i p q qs tail (Array.replicate k false) u16 u17 u18 u19 u20 u21 u22 u23 u24 u25 u26 u27 u28 u29 u30 u31 u32 u33 u34 u35 u36 u37 w' := by
  constructor <;> first | exact h | (intro d; first | exact h | (rw [done_rep] at d; cases d))

theorem RgSw.s0 (h : RgSw W g N cap a b i p q qs tail listed u16 u17 u18 u19 u20 u21 u22 u23 u24 u25 u26 u27 u28 u29 u30 u31 u32 u33 u34 u35 u36 u37 w') : RgSw W g N cap a b i p q qs tail (listed.setIfInBounds 0 true) (.slice (some ⟨g, 0, none⟩) N cap) u17 u18 u19 u20 u21 u22 u23 u24 u25 u26 u27 u28 u29 u30 u31 u32 u33 u34 u35 u36 u37 w' :=
  ⟨fun _ => rfl, fun d => h.e1 (done_of_set d (by decide)), fun d => h.e2 (done_of_set d (by decide)), fun d => h.e3 (done_of_set d (by decide)), fun d => h.e4 (done_of_set d (by decide)), fun d => h.e5 (done_of_set d (by decide)), fun d => h.e6 (done_of_set d (by decide)), fun d => h.e7 (done_of_set d (by decide)), fun d => h.e8 (done_of_set d (by decide)), fun d => h.e9 (done_of_set d (by decide)), fun d => h.e10 (done_of_set d (by decide)), fun d => h.e11 (done_of_set d (by decide)), fun d => h.e12 (done_of_set d (by decide)), fun d => h.e13 (done_of_set d (by decide)), fun d => h.e14 (done_of_set d (by decide)), fun d => h.e15 (done_of_set d (by decide)), fun d => h.e16 (done_of_set d (by decide)), fun d => h.e17 (done_of_set d (by decide)), fun d => h.e18 (done_of_set d (by decide)), fun d => h.e19 (done_of_set d (by decide)), fun d => h.e20 (done_of_set d (by decide)), fun d => h.e22 (done_of_set d (by decide)), fun d => h.x0 (undone_of_set d), fun d d' => h.x1 (done_of_set d (by decide)) (undone_of_set d'), fun d => h.x2 (done_of_set d (by decide))⟩

theorem RgSw.s1 (h : RgSw W g N cap a b i p q qs tail listed u16 u17 u18 u19 u20 u21 u22 u23 u24 u25 u26 u27 u28 u29 u30 u31 u32 u33 u34 u35 u36 u37 w') : RgSw W g N cap a b i p q qs tail (listed.setIfInBounds 1 true) u16 (.int .i64 (a : Nat)) u18 u19 u20 u21 u22 u23 u24 u25 u26 u27 u28 u29 u30 u31 u32 u33 u34 u35 u36 u37 w' :=
  ⟨fun d => h.e0 (done_of_set d (by decide)), fun _ => rfl, fun d => h.e2 (done_of_set d (by decide)), fun d => h.e3 (done_of_set d (by decide)), fun d => h.e4 (done_of_set d (by decide)), fun d => h.e5 (done_of_set d (by decide)), fun d => h.e6 (done_of_set d (by decide)), fun d => h.e7 (done_of_set d (by decide)), fun d => h.e8 (done_of_set d (by decide)), fun d => h.e9 (done_of_set d (by decide)), fun d => h.e10 (done_of_set d (by decide)), fun d => h.e11 (done_of_set d (by decide)), fun d => h.e12 (done_of_set d (by decide)), fun d => h.e13 (done_of_set d (by decide)), fun d => h.e14 (done_of_set d (by decide)), fun d => h.e15 (done_of_set d (by decide)), fun d => h.e16 (done_of_set d (by decide)), fun d => h.e17 (done_of_set d (by decide)), fun d => h.e18 (done_of_set d (by decide)), fun d => h.e19 (done_of_set d (by decide)), fun d => h.e20 (done_of_set d (by decide)), fun d => h.e22 (done_of_set d (by decide)), fun d => h.x0 (undone_of_set d), fun d d' => h.x1 (done_of_set d (by decide)) (undone_of_set d'), fun d => h.x2 (done_of_set d (by decide))⟩

theorem RgSw.s2 (h : RgSw W g N cap a b i p q qs tail listed u16 u17 u18 u19 u20 u21 u22 u23 u24 u25 u26 u27 u28 u29 u30 u31 u32 u33 u34 u35 u36 u37 w') : RgSw W g N cap a b i p q qs tail (listed.setIfInBounds 2 true) u16 u17 (.int .i64 (i : Nat)) u19 u20 u21 u22 u23 u24 u25 u26 u27 u28 u29 u30 u31 u32 u33 u34 u35 u36 u37 w' :=
  ⟨fun d => h.e0 (done_of_set d (by decide)), fun d => h.e1 (done_of_set d (by decide)), fun _ => rfl, fun d => h.e3 (done_of_set d (by decide)), fun d => h.e4 (done_of_set d (by decide)), fun d => h.e5 (done_of_set d (by decide)), fun d => h.e6 (done_of_set d (by decide)), fun d => h.e7 (done_of_set d (by decide)), fun d => h.e8 (done_of_set d (by decide)), fun d => h.e9 (done_of_set d (by decide)), fun d => h.e10 (done_of_set d (by decide)), fun d => h.e11 (done_of_set d (by decide)), fun d => h.e12 (done_of_set d (by decide)), fun d => h.e13 (done_of_set d (by decide)), fun d => h.e14 (done_of_set d (by decide)), fun d => h.e15 (done_of_set d (by decide)), fun d => h.e16 (done_of_set d (by decide)), fun d => h.e17 (done_of_set d (by decide)), fun d => h.e18 (done_of_set d (by decide)), fun d => h.e19 (done_of_set d (by decide)), fun d => h.e20 (done_of_set d (by decide)), fun d => h.e22 (done_of_set d (by decide)), fun d => h.x0 (undone_of_set d), fun d d' => h.x1 (done_of_set d (by decide)) (undone_of_set d'), fun d => h.x2 (done_of_set d (by decide))⟩

theorem RgSw.s3 (h : RgSw W g N cap a b i p q qs tail listed u16 u17 u18 u19 u20 u21 u22 u23 u24 u25 u26 u27 u28 u29 u30 u31 u32 u33 u34 u35 u36 u37 w') : RgSw W g N cap a b i p q qs tail (listed.setIfInBounds 3 true) u16 u17 u18 (.int .i64 (p : Nat)) u20 u21 u22 u23 u24 u25 u26 u27 u28 u29 u30 u31 u32 u33 u34 u35 u36 u37 w' :=
  ⟨fun d => h.e0 (done_of_set d (by decide)), fun d => h.e1 (done_of_set d (by decide)), fun d => h.e2 (done_of_set d (by decide)), fun _ => rfl, fun d => h.e4 (done_of_set d (by decide)), fun d => h.e5 (done_of_set d (by decide)), fun d => h.e6 (done_of_set d (by decide)), fun d => h.e7 (done_of_set d (by decide)), fun d => h.e8 (done_of_set d (by decide)), fun d => h.e9 (done_of_set d (by decide)), fun d => h.e10 (done_of_set d (by decide)), fun d => h.e11 (done_of_set d (by decide)), fun d => h.e12 (done_of_set d (by decide)), fun d => h.e13 (done_of_set d (by decide)), fun d => h.e14 (done_of_set d (by decide)), fun d => h.e15 (done_of_set d (by decide)), fun d => h.e16 (done_of_set d (by decide)), fun d => h.e17 (done_of_set d (by decide)), fun d => h.e18 (done_of_set d (by decide)), fun d => h.e19 (done_of_set d (by decide)), fun d => h.e20 (done_of_set d (by decide)), fun d => h.e22 (done_of_set d (by decide)), fun d => h.x0 (undone_of_set d), fun d d' => h.x1 (done_of_set d (by decide)) (undone_of_set d'), fun d => h.x2 (done_of_set d (by decide))⟩

theorem RgSw.s4 (h : RgSw W g N cap a b i p q qs tail listed u16 u17 u18 u19 u20 u21 u22 u23 u24 u25 u26 u27 u28 u29 u30 u31 u32 u33 u34 u35 u36 u37 w') : RgSw W g N cap a b i p q qs tail (listed.setIfInBounds 4 true) u16 u17 u18 u19 (.slice (some ⟨g, 0, none⟩) N cap) u21 u22 u23 u24 u25 u26 u27 u28 u29 u30 u31 u32 u33 u34 u35 u36 u37 w' :=
  ⟨fun d => h.e0 (done_of_set d (by decide)), fun d => h.e1 (done_of_set d (by decide)), fun d => h.e2 (done_of_set d (by decide)), fun d => h.e3 (done_of_set d (by decide)), fun _ => rfl, fun d => h.e5 (done_of_set d (by decide)), fun d => h.e6 (done_of_set d (by decide)), fun d => h.e7 (done_of_set d (by decide)), fun d => h.e8 (done_of_set d (by decide)), fun d => h.e9 (done_of_set d (by decide)), fun d => h.e10 (done_of_set d (by decide)), fun d => h.e11 (done_of_set d (by decide)), fun d => h.e12 (done_of_set d (by decide)), fun d => h.e13 (done_of_set d (by decide)), fun d => h.e14 (done_of_set d (by decide)), fun d => h.e15 (done_of_set d (by decide)), fun d => h.e16 (done_of_set d (by decide)), fun d => h.e17 (done_of_set d (by decide)), fun d => h.e18 (done_of_set d (by decide)), fun d => h.e19 (done_of_set d (by decide)), fun d => h.e20 (done_of_set d (by decide)), fun d => h.e22 (done_of_set d (by decide)), fun d => h.x0 (undone_of_set d), fun d d' => h.x1 (done_of_set d (by decide)) (undone_of_set d'), fun d => h.x2 (done_of_set d (by decide))⟩

theorem RgSw.s5 (h : RgSw W g N cap a b i p q qs tail listed u16 u17 u18 u19 u20 u21 u22 u23 u24 u25 u26 u27 u28 u29 u30 u31 u32 u33 u34 u35 u36 u37 w') : RgSw W g N cap a b i p q qs tail (listed.setIfInBounds 5 true) u16 u17 u18 u19 u20 (.int .i64 (b : Nat)) u22 u23 u24 u25 u26 u27 u28 u29 u30 u31 u32 u33 u34 u35 u36 u37 w' :=
  ⟨fun d => h.e0 (done_of_set d (by decide)), fun d => h.e1 (done_of_set d (by decide)), fun d => h.e2 (done_of_set d (by decide)), fun d => h.e3 (done_of_set d (by decide)), fun d => h.e4 (done_of_set d (by decide)), fun _ => rfl, fun d => h.e6 (done_of_set d (by decide)), fun d => h.e7 (done_of_set d (by decide)), fun d => h.e8 (done_of_set d (by decide)), fun d => h.e9 (done_of_set d (by decide)), fun d => h.e10 (done_of_set d (by decide)), fun d => h.e11 (done_of_set d (by decide)), fun d => h.e12 (done_of_set d (by decide)), fun d => h.e13 (done_of_set d (by decide)), fun d => h.e14 (done_of_set d (by decide)), fun d => h.e15 (done_of_set d (by decide)), fun d => h.e16 (done_of_set d (by decide)), fun d => h.e17 (done_of_set d (by decide)), fun d => h.e18 (done_of_set d (by decide)), fun d => h.e19 (done_of_set d (by decide)), fun d => h.e20 (done_of_set d (by decide)), fun d => h.e22 (done_of_set d (by decide)), fun d => h.x0 (undone_of_set d), fun d d' => h.x1 (done_of_set d (by decide)) (undone_of_set d'), fun d => h.x2 (done_of_set d (by decide))⟩

theorem RgSw.s6 (h : RgSw W g N cap a b i p q qs tail listed u16 u17 u18 u19 u20 u21 u22 u23 u24 u25 u26 u27 u28 u29 u30 u31 u32 u33 u34 u35 u36 u37 w') : RgSw W g N cap a b i p q qs tail (listed.setIfInBounds 6 true) u16 u17 u18 u19 u20 u21 (.int .i64 (i : Nat)) u23 u24 u25 u26 u27 u28 u29 u30 u31 u32 u33 u34 u35 u36 u37 w' :=
  ⟨fun d => h.e0 (done_of_set d (by decide)), fun d => h.e1 (done_of_set d (by decide)), fun d => h.e2 (done_of_set d (by decide)), fun d => h.e3 (done_of_set d (by decide)), fun d => h.e4 (done_of_set d (by decide)), fun d => h.e5 (done_of_set d (by decide)), fun _ => rfl, fun d => h.e7 (done_of_set d (by decide)), fun d => h.e8 (done_of_set d (by decide)), fun d => h.e9 (done_of_set d (by decide)), fun d => h.e10 (done_of_set d (by decide)), fun d => h.e11 (done_of_set d (by decide)), fun d => h.e12 (done_of_set d (by decide)), fun d => h.e13 (done_of_set d (by decide)), fun d => h.e14 (done_of_set d (by decide)), fun d => h.e15 (done_of_set d (by decide)), fun d => h.e16 (done_of_set d (by decide)), fun d => h.e17 (done_of_set d (by decide)), fun d => h.e18 (done_of_set d (by decide)), fun d => h.e19 (done_of_set d (by decide)), fun d => h.e20 (done_of_set d (by decide)), fun d => h.e22 (done_of_set d (by decide)), fun d => h.x0 (undone_of_set d), fun d d' => h.x1 (done_of_set d (by decide)) (undone_of_set d'), fun d => h.x2 (done_of_set d (by decide))⟩

theorem RgSw.s7 (h : RgSw W g N cap a b i p q qs tail listed u16 u17 u18 u19 u20 u21 u22 u23 u24 u25 u26 u27 u28 u29 u30 u31 u32 u33 u34 u35 u36 u37 w') : RgSw W g N cap a b i p q qs tail (listed.setIfInBounds 7 true) u16 u17 u18 u19 u20 u21 u22 (.int .i64 (q : Nat)) u24 u25 u26 u27 u28 u29 u30 u31 u32 u33 u34 u35 u36 u37 w' :=
  ⟨fun d => h.e0 (done_of_set d (by decide)), fun d => h.e1 (done_of_set d (by decide)), fun d => h.e2 (done_of_set d (by decide)), fun d => h.e3 (done_of_set d (by decide)), fun d => h.e4 (done_of_set d (by decide)), fun d => h.e5 (done_of_set d (by decide)), fun d => h.e6 (done_of_set d (by decide)), fun _ => rfl, fun d => h.e8 (done_of_set d (by decide)), fun d => h.e9 (done_of_set d (by decide)), fun d => h.e10 (done_of_set d (by decide)), fun d => h.e11 (done_of_set d (by decide)), fun d => h.e12 (done_of_set d (by decide)), fun d => h.e13 (done_of_set d (by decide)), fun d => h.e14 (done_of_set d (by decide)), fun d => h.e15 (done_of_set d (by decide)), fun d => h.e16 (done_of_set d (by decide)), fun d => h.e17 (done_of_set d (by decide)), fun d => h.e18 (done_of_set d (by decide)), fun d => h.e19 (done_of_set d (by decide)), fun d => h.e20 (done_of_set d (by decide)), fun d => h.e22 (done_of_set d (by decide)), fun d => h.x0 (undone_of_set d), fun d d' => h.x1 (done_of_set d (by decide)) (undone_of_set d'), fun d => h.x2 (done_of_set d (by decide))⟩

theorem RgSw.s8 (h : RgSw W g N cap a b i p q qs tail listed u16 u17 u18 u19 u20 u21 u22 u23 u24 u25 u26 u27 u28 u29 u30 u31 u32 u33 u34 u35 u36 u37 w') : RgSw W g N cap a b i p q qs tail (listed.setIfInBounds 8 true) u16 u17 u18 u19 u20 u21 u22 u23 (.slice (some ⟨g, 0, none⟩) N cap) u25 u26 u27 u28 u29 u30 u31 u32 u33 u34 u35 u36 u37 w' :=
  ⟨fun d => h.e0 (done_of_set d (by decide)), fun d => h.e1 (done_of_set d (by decide)), fun d => h.e2 (done_of_set d (by decide)), fun d => h.e3 (done_of_set d (by decide)), fun d => h.e4 (done_of_set d (by decide)), fun d => h.e5 (done_of_set d (by decide)), fun d => h.e6 (done_of_set d (by decide)), fun d => h.e7 (done_of_set d (by decide)), fun _ => rfl, fun d => h.e9 (done_of_set d (by decide)), fun d => h.e10 (done_of_set d (by decide)), fun d => h.e11 (done_of_set d (by decide)), fun d => h.e12 (done_of_set d (by decide)), fun d => h.e13 (done_of_set d (by decide)), fun d => h.e14 (done_of_set d (by decide)), fun d => h.e15 (done_of_set d (by decide)), fun d => h.e16 (done_of_set d (by decide)), fun d => h.e17 (done_of_set d (by decide)), fun d => h.e18 (done_of_set d (by decide)), fun d => h.e19 (done_of_set d (by decide)), fun d => h.e20 (done_of_set d (by decide)), fun d => h.e22 (done_of_set d (by decide)), fun d => h.x0 (undone_of_set d), fun d d' => h.x1 (done_of_set d (by decide)) (undone_of_set d'), fun d => h.x2 (done_of_set d (by decide))⟩

theorem RgSw.s9 (h : RgSw W g N cap a b i p q qs tail listed u16 u17 u18 u19 u20 u21 u22 u23 u24 u25 u26 u27 u28 u29 u30 u31 u32 u33 u34 u35 u36 u37 w') : RgSw W g N cap a b i p q qs tail (listed.setIfInBounds 9 true) u16 u17 u18 u19 u20 u21 u22 u23 u24 (.int .i64 (b : Nat)) u26 u27 u28 u29 u30 u31 u32 u33 u34 u35 u36 u37 w' :=
  ⟨fun d => h.e0 (done_of_set d (by decide)), fun d => h.e1 (done_of_set d (by decide)), fun d => h.e2 (done_of_set d (by decide)), fun d => h.e3 (done_of_set d (by decide)), fun d => h.e4 (done_of_set d (by decide)), fun d => h.e5 (done_of_set d (by decide)), fun d => h.e6 (done_of_set d (by decide)), fun d => h.e7 (done_of_set d (by decide)), fun d => h.e8 (done_of_set d (by decide)), fun _ => rfl, fun d => h.e10 (done_of_set d (by decide)), fun d => h.e11 (done_of_set d (by decide)), fun d => h.e12 (done_of_set d (by decide)), fun d => h.e13 (done_of_set d (by decide)), fun d => h.e14 (done_of_set d (by decide)), fun d => h.e15 (done_of_set d (by decide)), fun d => h.e16 (done_of_set d (by decide)), fun d => h.e17 (done_of_set d (by decide)), fun d => h.e18 (done_of_set d (by decide)), fun d => h.e19 (done_of_set d (by decide)), fun d => h.e20 (done_of_set d (by decide)), fun d => h.e22 (done_of_set d (by decide)), fun d => h.x0 (undone_of_set d), fun d d' => h.x1 (done_of_set d (by decide)) (undone_of_set d'), fun d => h.x2 (done_of_set d (by decide))⟩

theorem RgSw.s10 (h : RgSw W g N cap a b i p q qs tail listed u16 u17 u18 u19 u20 u21 u22 u23 u24 u25 u26 u27 u28 u29 u30 u31 u32 u33 u34 u35 u36 u37 w') : RgSw W g N cap a b i p q qs tail (listed.setIfInBounds 10 true) u16 u17 u18 u19 u20 u21 u22 u23 u24 u25 (.int .i64 (i : Nat)) u27 u28 u29 u30 u31 u32 u33 u34 u35 u36 u37 w' :=
  ⟨fun d => h.e0 (done_of_set d (by decide)), fun d => h.e1 (done_of_set d (by decide)), fun d => h.e2 (done_of_set d (by decide)), fun d => h.e3 (done_of_set d (by decide)), fun d => h.e4 (done_of_set d (by decide)), fun d => h.e5 (done_of_set d (by decide)), fun d => h.e6 (done_of_set d (by decide)), fun d => h.e7 (done_of_set d (by decide)), fun d => h.e8 (done_of_set d (by decide)), fun d => h.e9 (done_of_set d (by decide)), fun _ => rfl, fun d => h.e11 (done_of_set d (by decide)), fun d => h.e12 (done_of_set d (by decide)), fun d => h.e13 (done_of_set d (by decide)), fun d => h.e14 (done_of_set d (by decide)), fun d => h.e15 (done_of_set d (by decide)), fun d => h.e16 (done_of_set d (by decide)), fun d => h.e17 (done_of_set d (by decide)), fun d => h.e18 (done_of_set d (by decide)), fun d => h.e19 (done_of_set d (by decide)), fun d => h.e20 (done_of_set d (by decide)), fun d => h.e22 (done_of_set d (by decide)), fun d => h.x0 (undone_of_set d), fun d d' => h.x1 (done_of_set d (by decide)) (undone_of_set d'), fun d => h.x2 (done_of_set d (by decide))⟩

theorem RgSw.s11 (h : RgSw W g N cap a b i p q qs tail listed u16 u17 u18 u19 u20 u21 u22 u23 u24 u25 u26 u27 u28 u29 u30 u31 u32 u33 u34 u35 u36 u37 w') : RgSw W g N cap a b i p q qs tail (listed.setIfInBounds 11 true) u16 u17 u18 u19 u20 u21 u22 u23 u24 u25 u26 (.int .i64 (q : Nat)) u28 u29 u30 u31 u32 u33 u34 u35 u36 u37 w' :=
  ⟨fun d => h.e0 (done_of_set d (by decide)), fun d => h.e1 (done_of_set d (by decide)), fun d => h.e2 (done_of_set d (by decide)), fun d => h.e3 (done_of_set d (by decide)), fun d => h.e4 (done_of_set d (by decide)), fun d => h.e5 (done_of_set d (by decide)), fun d => h.e6 (done_of_set d (by decide)), fun d => h.e7 (done_of_set d (by decide)), fun d => h.e8 (done_of_set d (by decide)), fun d => h.e9 (done_of_set d (by decide)), fun d => h.e10 (done_of_set d (by decide)), fun _ => rfl, fun d => h.e12 (done_of_set d (by decide)), fun d => h.e13 (done_of_set d (by decide)), fun d => h.e14 (done_of_set d (by decide)), fun d => h.e15 (done_of_set d (by decide)), fun d => h.e16 (done_of_set d (by decide)), fun d => h.e17 (done_of_set d (by decide)), fun d => h.e18 (done_of_set d (by decide)), fun d => h.e19 (done_of_set d (by decide)), fun d => h.e20 (done_of_set d (by decide)), fun d => h.e22 (done_of_set d (by decide)), fun d => h.x0 (undone_of_set d), fun d d' => h.x1 (done_of_set d (by decide)) (undone_of_set d'), fun d => h.x2 (done_of_set d (by decide))⟩

theorem RgSw.s12 (h : RgSw W g N cap a b i p q qs tail listed u16 u17 u18 u19 u20 u21 u22 u23 u24 u25 u26 u27 u28 u29 u30 u31 u32 u33 u34 u35 u36 u37 w') : RgSw W g N cap a b i p q qs tail (listed.setIfInBounds 12 true) u16 u17 u18 u19 u20 u21 u22 u23 u24 u25 u26 u27 (.pointer (some ⟨g, q * 2, none⟩)) u29 u30 u31 u32 u33 u34 u35 u36 u37 w' :=
  ⟨fun d => h.e0 (done_of_set d (by decide)), fun d => h.e1 (done_of_set d (by decide)), fun d => h.e2 (done_of_set d (by decide)), fun d => h.e3 (done_of_set d (by decide)), fun d => h.e4 (done_of_set d (by decide)), fun d => h.e5 (done_of_set d (by decide)), fun d => h.e6 (done_of_set d (by decide)), fun d => h.e7 (done_of_set d (by decide)), fun d => h.e8 (done_of_set d (by decide)), fun d => h.e9 (done_of_set d (by decide)), fun d => h.e10 (done_of_set d (by decide)), fun d => h.e11 (done_of_set d (by decide)), fun _ => rfl, fun d => h.e13 (done_of_set d (by decide)), fun d => h.e14 (done_of_set d (by decide)), fun d => h.e15 (done_of_set d (by decide)), fun d => h.e16 (done_of_set d (by decide)), fun d => h.e17 (done_of_set d (by decide)), fun d => h.e18 (done_of_set d (by decide)), fun d => h.e19 (done_of_set d (by decide)), fun d => h.e20 (done_of_set d (by decide)), fun d => h.e22 (done_of_set d (by decide)), fun d => h.x0 (undone_of_set d), fun d d' => h.x1 (done_of_set d (by decide)) (undone_of_set d'), fun d => h.x2 (done_of_set d (by decide))⟩

theorem RgSw.s13 (h : RgSw W g N cap a b i p q qs tail listed u16 u17 u18 u19 u20 u21 u22 u23 u24 u25 u26 u27 u28 u29 u30 u31 u32 u33 u34 u35 u36 u37 w') : RgSw W g N cap a b i p q qs tail (listed.setIfInBounds 13 true) u16 u17 u18 u19 u20 u21 u22 u23 u24 u25 u26 u27 u28 (.agg #[.int .i64 (ptAt qs q).t, .int .u64 ((ptAt qs q).v : Nat)]) u30 u31 u32 u33 u34 u35 u36 u37 w' :=
  ⟨fun d => h.e0 (done_of_set d (by decide)), fun d => h.e1 (done_of_set d (by decide)), fun d => h.e2 (done_of_set d (by decide)), fun d => h.e3 (done_of_set d (by decide)), fun d => h.e4 (done_of_set d (by decide)), fun d => h.e5 (done_of_set d (by decide)), fun d => h.e6 (done_of_set d (by decide)), fun d => h.e7 (done_of_set d (by decide)), fun d => h.e8 (done_of_set d (by decide)), fun d => h.e9 (done_of_set d (by decide)), fun d => h.e10 (done_of_set d (by decide)), fun d => h.e11 (done_of_set d (by decide)), fun d => h.e12 (done_of_set d (by decide)), fun _ => rfl, fun d => h.e14 (done_of_set d (by decide)), fun d => h.e15 (done_of_set d (by decide)), fun d => h.e16 (done_of_set d (by decide)), fun d => h.e17 (done_of_set d (by decide)), fun d => h.e18 (done_of_set d (by decide)), fun d => h.e19 (done_of_set d (by decide)), fun d => h.e20 (done_of_set d (by decide)), fun d => h.e22 (done_of_set d (by decide)), fun d => h.x0 (undone_of_set d), fun d d' => h.x1 (done_of_set d (by decide)) (undone_of_set d'), fun d => h.x2 (done_of_set d (by decide))⟩

theorem RgSw.s14 (h : RgSw W g N cap a b i p q qs tail listed u16 u17 u18 u19 u20 u21 u22 u23 u24 u25 u26 u27 u28 u29 u30 u31 u32 u33 u34 u35 u36 u37 w') : RgSw W g N cap a b i p q qs tail (listed.setIfInBounds 14 true) u16 u17 u18 u19 u20 u21 u22 u23 u24 u25 u26 u27 u28 u29 (.slice (some ⟨g, 0, none⟩) N cap) u31 u32 u33 u34 u35 u36 u37 w' :=
  ⟨fun d => h.e0 (done_of_set d (by decide)), fun d => h.e1 (done_of_set d (by decide)), fun d => h.e2 (done_of_set d (by decide)), fun d => h.e3 (done_of_set d (by decide)), fun d => h.e4 (done_of_set d (by decide)), fun d => h.e5 (done_of_set d (by decide)), fun d => h.e6 (done_of_set d (by decide)), fun d => h.e7 (done_of_set d (by decide)), fun d => h.e8 (done_of_set d (by decide)), fun d => h.e9 (done_of_set d (by decide)), fun d => h.e10 (done_of_set d (by decide)), fun d => h.e11 (done_of_set d (by decide)), fun d => h.e12 (done_of_set d (by decide)), fun d => h.e13 (done_of_set d (by decide)), fun _ => rfl, fun d => h.e15 (done_of_set d (by decide)), fun d => h.e16 (done_of_set d (by decide)), fun d => h.e17 (done_of_set d (by decide)), fun d => h.e18 (done_of_set d (by decide)), fun d => h.e19 (done_of_set d (by decide)), fun d => h.e20 (done_of_set d (by decide)), fun d => h.e22 (done_of_set d (by decide)), fun d => h.x0 (undone_of_set d), fun d d' => h.x1 (done_of_set d (by decide)) (undone_of_set d'), fun d => h.x2 (done_of_set d (by decide))⟩

theorem RgSw.s15 (h : RgSw W g N cap a b i p q qs tail listed u16 u17 u18 u19 u20 u21 u22 u23 u24 u25 u26 u27 u28 u29 u30 u31 u32 u33 u34 u35 u36 u37 w') : RgSw W g N cap a b i p q qs tail (listed.setIfInBounds 15 true) u16 u17 u18 u19 u20 u21 u22 u23 u24 u25 u26 u27 u28 u29 u30 (.int .i64 (a : Nat)) u32 u33 u34 u35 u36 u37 w' :=
  ⟨fun d => h.e0 (done_of_set d (by decide)), fun d => h.e1 (done_of_set d (by decide)), fun d => h.e2 (done_of_set d (by decide)), fun d => h.e3 (done_of_set d (by decide)), fun d => h.e4 (done_of_set d (by decide)), fun d => h.e5 (done_of_set d (by decide)), fun d => h.e6 (done_of_set d (by decide)), fun d => h.e7 (done_of_set d (by decide)), fun d => h.e8 (done_of_set d (by decide)), fun d => h.e9 (done_of_set d (by decide)), fun d => h.e10 (done_of_set d (by decide)), fun d => h.e11 (done_of_set d (by decide)), fun d => h.e12 (done_of_set d (by decide)), fun d => h.e13 (done_of_set d (by decide)), fun d => h.e14 (done_of_set d (by decide)), fun _ => rfl, fun d => h.e16 (done_of_set d (by decide)), fun d => h.e17 (done_of_set d (by decide)), fun d => h.e18 (done_of_set d (by decide)), fun d => h.e19 (done_of_set d (by decide)), fun d => h.e20 (done_of_set d (by decide)), fun d => h.e22 (done_of_set d (by decide)), fun d => h.x0 (undone_of_set d), fun d d' => h.x1 (done_of_set d (by decide)) (undone_of_set d'), fun d => h.x2 (done_of_set d (by decide))⟩

theorem RgSw.s16 (h : RgSw W g N cap a b i p q qs tail listed u16 u17 u18 u19 u20 u21 u22 u23 u24 u25 u26 u27 u28 u29 u30 u31 u32 u33 u34 u35 u36 u37 w') : RgSw W g N cap a b i p q qs tail (listed.setIfInBounds 16 true) u16 u17 u18 u19 u20 u21 u22 u23 u24 u25 u26 u27 u28 u29 u30 u31 (.int .i64 (i : Nat)) u33 u34 u35 u36 u37 w' :=
  ⟨fun d => h.e0 (done_of_set d (by decide)), fun d => h.e1 (done_of_set d (by decide)), fun d => h.e2 (done_of_set d (by decide)), fun d => h.e3 (done_of_set d (by decide)), fun d => h.e4 (done_of_set d (by decide)), fun d => h.e5 (done_of_set d (by decide)), fun d => h.e6 (done_of_set d (by decide)), fun d => h.e7 (done_of_set d (by decide)), fun d => h.e8 (done_of_set d (by decide)), fun d => h.e9 (done_of_set d (by decide)), fun d => h.e10 (done_of_set d (by decide)), fun d => h.e11 (done_of_set d (by decide)), fun d => h.e12 (done_of_set d (by decide)), fun d => h.e13 (done_of_set d (by decide)), fun d => h.e14 (done_of_set d (by decide)), fun d => h.e15 (done_of_set d (by decide)), fun _ => rfl, fun d => h.e17 (done_of_set d (by decide)), fun d => h.e18 (done_of_set d (by decide)), fun d => h.e19 (done_of_set d (by decide)), fun d => h.e20 (done_of_set d (by decide)), fun d => h.e22 (done_of_set d (by decide)), fun d => h.x0 (undone_of_set d), fun d d' => h.x1 (done_of_set d (by decide)) (undone_of_set d'), fun d => h.x2 (done_of_set d (by decide))⟩

theorem RgSw.s17 (h : RgSw W g N cap a b i p q qs tail listed u16 u17 u18 u19 u20 u21 u22 u23 u24 u25 u26 u27 u28 u29 u30 u31 u32 u33 u34 u35 u36 u37 w') : RgSw W g N cap a b i p q qs tail (listed.setIfInBounds 17 true) u16 u17 u18 u19 u20 u21 u22 u23 u24 u25 u26 u27 u28 u29 u30 u31 u32 (.int .i64 (p : Nat)) u34 u35 u36 u37 w' :=
  ⟨fun d => h.e0 (done_of_set d (by decide)), fun d => h.e1 (done_of_set d (by decide)), fun d => h.e2 (done_of_set d (by decide)), fun d => h.e3 (done_of_set d (by decide)), fun d => h.e4 (done_of_set d (by decide)), fun d => h.e5 (done_of_set d (by decide)), fun d => h.e6 (done_of_set d (by decide)), fun d => h.e7 (done_of_set d (by decide)), fun d => h.e8 (done_of_set d (by decide)), fun d => h.e9 (done_of_set d (by decide)), fun d => h.e10 (done_of_set d (by decide)), fun d => h.e11 (done_of_set d (by decide)), fun d => h.e12 (done_of_set d (by decide)), fun d => h.e13 (done_of_set d (by decide)), fun d => h.e14 (done_of_set d (by decide)), fun d => h.e15 (done_of_set d (by decide)), fun d => h.e16 (done_of_set d (by decide)), fun _ => rfl, fun d => h.e18 (done_of_set d (by decide)), fun d => h.e19 (done_of_set d (by decide)), fun d => h.e20 (done_of_set d (by decide)), fun d => h.e22 (done_of_set d (by decide)), fun d => h.x0 (undone_of_set d), fun d d' => h.x1 (done_of_set d (by decide)) (undone_of_set d'), fun d => h.x2 (done_of_set d (by decide))⟩

theorem RgSw.s18 (h : RgSw W g N cap a b i p q qs tail listed u16 u17 u18 u19 u20 u21 u22 u23 u24 u25 u26 u27 u28 u29 u30 u31 u32 u33 u34 u35 u36 u37 w') : RgSw W g N cap a b i p q qs tail (listed.setIfInBounds 18 true) u16 u17 u18 u19 u20 u21 u22 u23 u24 u25 u26 u27 u28 u29 u30 u31 u32 u33 (.pointer (some ⟨g, p * 2, none⟩)) u35 u36 u37 w' :=
  ⟨fun d => h.e0 (done_of_set d (by decide)), fun d => h.e1 (done_of_set d (by decide)), fun d => h.e2 (done_of_set d (by decide)), fun d => h.e3 (done_of_set d (by decide)), fun d => h.e4 (done_of_set d (by decide)), fun d => h.e5 (done_of_set d (by decide)), fun d => h.e6 (done_of_set d (by decide)), fun d => h.e7 (done_of_set d (by decide)), fun d => h.e8 (done_of_set d (by decide)), fun d => h.e9 (done_of_set d (by decide)), fun d => h.e10 (done_of_set d (by decide)), fun d => h.e11 (done_of_set d (by decide)), fun d => h.e12 (done_of_set d (by decide)), fun d => h.e13 (done_of_set d (by decide)), fun d => h.e14 (done_of_set d (by decide)), fun d => h.e15 (done_of_set d (by decide)), fun d => h.e16 (done_of_set d (by decide)), fun d => h.e17 (done_of_set d (by decide)), fun _ => rfl, fun d => h.e19 (done_of_set d (by decide)), fun d => h.e20 (done_of_set d (by decide)), fun d => h.e22 (done_of_set d (by decide)), fun d => h.x0 (undone_of_set d), fun d d' => h.x1 (done_of_set d (by decide)) (undone_of_set d'), fun d => h.x2 (done_of_set d (by decide))⟩

theorem RgSw.s19 (h : RgSw W g N cap a b i p q qs tail listed u16 u17 u18 u19 u20 u21 u22 u23 u24 u25 u26 u27 u28 u29 u30 u31 u32 u33 u34 u35 u36 u37 w') : RgSw W g N cap a b i p q qs tail (listed.setIfInBounds 19 true) u16 u17 u18 u19 u20 u21 u22 u23 u24 u25 u26 u27 u28 u29 u30 u31 u32 u33 u34 (.agg #[.int .i64 (ptAt qs p).t, .int .u64 ((ptAt qs p).v : Nat)]) u36 u37 w' :=
  ⟨fun d => h.e0 (done_of_set d (by decide)), fun d => h.e1 (done_of_set d (by decide)), fun d => h.e2 (done_of_set d (by decide)), fun d => h.e3 (done_of_set d (by decide)), fun d => h.e4 (done_of_set d (by decide)), fun d => h.e5 (done_of_set d (by decide)), fun d => h.e6 (done_of_set d (by decide)), fun d => h.e7 (done_of_set d (by decide)), fun d => h.e8 (done_of_set d (by decide)), fun d => h.e9 (done_of_set d (by decide)), fun d => h.e10 (done_of_set d (by decide)), fun d => h.e11 (done_of_set d (by decide)), fun d => h.e12 (done_of_set d (by decide)), fun d => h.e13 (done_of_set d (by decide)), fun d => h.e14 (done_of_set d (by decide)), fun d => h.e15 (done_of_set d (by decide)), fun d => h.e16 (done_of_set d (by decide)), fun d => h.e17 (done_of_set d (by decide)), fun d => h.e18 (done_of_set d (by decide)), fun _ => rfl, fun d => h.e20 (done_of_set d (by decide)), fun d => h.e22 (done_of_set d (by decide)), fun d => h.x0 (undone_of_set d), fun d d' => h.x1 (done_of_set d (by decide)) (undone_of_set d'), fun d => h.x2 (done_of_set d (by decide))⟩

theorem RgSw.s20 (h : RgSw W g N cap a b i p q qs tail listed u16 u17 u18 u19 u20 u21 u22 u23 u24 u25 u26 u27 u28 u29 u30 u31 u32 u33 u34 u35 u36 u37 w') : RgSw W g N cap a b i p q qs tail (listed.setIfInBounds 20 true) u16 u17 u18 u19 u20 u21 u22 u23 u24 u25 u26 u27 u28 u29 u30 u31 u32 u33 u34 u35 (.pointer (some ⟨g, p * 2, none⟩)) u37 w' :=
  ⟨fun d => h.e0 (done_of_set d (by decide)), fun d => h.e1 (done_of_set d (by decide)), fun d => h.e2 (done_of_set d (by decide)), fun d => h.e3 (done_of_set d (by decide)), fun d => h.e4 (done_of_set d (by decide)), fun d => h.e5 (done_of_set d (by decide)), fun d => h.e6 (done_of_set d (by decide)), fun d => h.e7 (done_of_set d (by decide)), fun d => h.e8 (done_of_set d (by decide)), fun d => h.e9 (done_of_set d (by decide)), fun d => h.e10 (done_of_set d (by decide)), fun d => h.e11 (done_of_set d (by decide)), fun d => h.e12 (done_of_set d (by decide)), fun d => h.e13 (done_of_set d (by decide)), fun d => h.e14 (done_of_set d (by decide)), fun d => h.e15 (done_of_set d (by decide)), fun d => h.e16 (done_of_set d (by decide)), fun d => h.e17 (done_of_set d (by decide)), fun d => h.e18 (done_of_set d (by decide)), fun d => h.e19 (done_of_set d (by decide)), fun _ => rfl, fun d => h.e22 (done_of_set d (by decide)), fun d => h.x0 (undone_of_set d), fun d d' => h.x1 (done_of_set d (by decide)) (undone_of_set d'), fun d => h.x2 (done_of_set d (by decide))⟩

theorem RgSw.s21 {w2 : World} (h : RgSw W g N cap a b i p q qs tail listed u16 u17 u18 u19 u20 u21 u22 u23 u24 u25 u26 u27 u28 u29 u30 u31 u32 u33 u34 u35 u36 u37 w') (hi : 21 < listed.size) (hn : done listed 23 = false) (hS : PB w2 g (qs.set p (ptAt qs q)) tail ∧ Fp (fun k => k = g) W w2) : RgSw W g N cap a b i p q qs tail (listed.setIfInBounds 21 true) u16 u17 u18 u19 u20 u21 u22 u23 u24 u25 u26 u27 u28 u29 u30 u31 u32 u33 u34 u35 u36 u37 w2 :=
  ⟨fun d => h.e0 (done_of_set d (by decide)), fun d => h.e1 (done_of_set d (by decide)), fun d => h.e2 (done_of_set d (by decide)), fun d => h.e3 (done_of_set d (by decide)), fun d => h.e4 (done_of_set d (by decide)), fun d => h.e5 (done_of_set d (by decide)), fun d => h.e6 (done_of_set d (by decide)), fun d => h.e7 (done_of_set d (by decide)), fun d => h.e8 (done_of_set d (by decide)), fun d => h.e9 (done_of_set d (by decide)), fun d => h.e10 (done_of_set d (by decide)), fun d => h.e11 (done_of_set d (by decide)), fun d => h.e12 (done_of_set d (by decide)), fun d => h.e13 (done_of_set d (by decide)), fun d => h.e14 (done_of_set d (by decide)), fun d => h.e15 (done_of_set d (by decide)), fun d => h.e16 (done_of_set d (by decide)), fun d => h.e17 (done_of_set d (by decide)), fun d => h.e18 (done_of_set d (by decide)), fun d => h.e19 (done_of_set d (by decide)), fun d => h.e20 (done_of_set d (by decide)), fun d => h.e22 (done_of_set d (by decide)), fun D => absurd D (by rw [done_set_same hi]; decide), fun _ _ => hS, fun D => absurd (done_of_set D (by decide)) (by rw [hn]; decide)⟩

theorem RgSw.s22 (h : RgSw W g N cap a b i p q qs tail listed u16 u17 u18 u19 u20 u21 u22 u23 u24 u25 u26 u27 u28 u29 u30 u31 u32 u33 u34 u35 u36 u37 w') : RgSw W g N cap a b i p q qs tail (listed.setIfInBounds 22 true) u16 u17 u18 u19 u20 u21 u22 u23 u24 u25 u26 u27 u28 u29 u30 u31 u32 u33 u34 u35 u36 (.pointer (some ⟨g, q * 2, none⟩)) w' :=
  ⟨fun d => h.e0 (done_of_set d (by decide)), fun d => h.e1 (done_of_set d (by decide)), fun d => h.e2 (done_of_set d (by decide)), fun d => h.e3 (done_of_set d (by decide)), fun d => h.e4 (done_of_set d (by decide)), fun d => h.e5 (done_of_set d (by decide)), fun d => h.e6 (done_of_set d (by decide)), fun d => h.e7 (done_of_set d (by decide)), fun d => h.e8 (done_of_set d (by decide)), fun d => h.e9 (done_of_set d (by decide)), fun d => h.e10 (done_of_set d (by decide)), fun d => h.e11 (done_of_set d (by decide)), fun d => h.e12 (done_of_set d (by decide)), fun d => h.e13 (done_of_set d (by decide)), fun d => h.e14 (done_of_set d (by decide)), fun d => h.e15 (done_of_set d (by decide)), fun d => h.e16 (done_of_set d (by decide)), fun d => h.e17 (done_of_set d (by decide)), fun d => h.e18 (done_of_set d (by decide)), fun d => h.e19 (done_of_set d (by decide)), fun d => h.e20 (done_of_set d (by decide)), fun _ => rfl, fun d => h.x0 (undone_of_set d), fun d d' => h.x1 (done_of_set d (by decide)) (undone_of_set d'), fun d => h.x2 (done_of_set d (by decide))⟩

theorem RgSw.s23 {w2 : World} (h : RgSw W g N cap a b i p q qs tail listed u16 u17 u18 u19 u20 u21 u22 u23 u24 u25 u26 u27 u28 u29 u30 u31 u32 u33 u34 u35 u36 u37 w') (hi : 23 < listed.size) (hp : done listed 21 = true) (hS : PB w2 g ((qs.set p (ptAt qs q)).set q (ptAt qs p)) tail ∧ Fp (fun k => k = g) W w2) : RgSw W g N cap a b i p q qs tail (listed.setIfInBounds 23 true) u16 u17 u18 u19 u20 u21 u22 u23 u24 u25 u26 u27 u28 u29 u30 u31 u32 u33 u34 u35 u36 u37 w2 :=
  ⟨fun d => h.e0 (done_of_set d (by decide)), fun d => h.e1 (done_of_set d (by decide)), fun d => h.e2 (done_of_set d (by decide)), fun d => h.e3 (done_of_set d (by decide)), fun d => h.e4 (done_of_set d (by decide)), fun d => h.e5 (done_of_set d (by decide)), fun d => h.e6 (done_of_set d (by decide)), fun d => h.e7 (done_of_set d (by decide)), fun d => h.e8 (done_of_set d (by decide)), fun d => h.e9 (done_of_set d (by decide)), fun d => h.e10 (done_of_set d (by decide)), fun d => h.e11 (done_of_set d (by decide)), fun d => h.e12 (done_of_set d (by decide)), fun d => h.e13 (done_of_set d (by decide)), fun d => h.e14 (done_of_set d (by decide)), fun d => h.e15 (done_of_set d (by decide)), fun d => h.e16 (done_of_set d (by decide)), fun d => h.e17 (done_of_set d (by decide)), fun d => h.e18 (done_of_set d (by decide)), fun d => h.e19 (done_of_set d (by decide)), fun d => h.e20 (done_of_set d (by decide)), fun d => h.e22 (done_of_set d (by decide)), fun D => absurd (undone_of_set D) (by rw [hp]; decide), fun _ D => absurd D (by rw [done_set_same hi]; decide), fun _ => hS⟩

end

set_option maxHeartbeats 2000000 in
set_option maxRecDepth 100000 in
theorem swapRange_in (n : Nat) (_hn : 5 ≤ n) (g cap a b m : Nat) (ps : List Silo.Pt) (tail : List Value) (w : World) (h : PB w g ps tail) (ha : a + m ≤ ps.length) (hb : b + m ≤ ps.length) (hl : ps.length ≤ 1099511627776) :
    CallsIn Fence.wide n Try.prog 88 #[.slice (some ⟨g, 0, none⟩) ps.length cap, .int .i64 a, .int .i64 b, .int .i64 m, .func (.func 56) #[] #[]] w fun e w' => e = .returned (.tuple #[]) ∧
      PB w' g (swR ps a b m) tail ∧ Fp (fun k => k = g) w w' := by
  have H : Hid _ := h
  clear h
  refine callsIn_of_wp Try.func88 rfl trivial ?_ rfl
  simp only [Try.ntmps88, List.size_toArray, List.length_cons, List.length_nil, Nat.reduceAdd, Nat.reduceSub, Array.replicate_succ, Array.replicate_zero, List.push_toArray, List.append_toArray, List.nil_append, List.cons_append]
  gi_wp2_with fail
  gi_loopw [10] (fun iv wr => ∃ i : Nat, i ≤ m ∧ iv = .int .i64 i ∧ Hid (PB wr g (swR ps a b i) tail ∧ Fp (fun k => k = g) w wr)) (fun iv _ => m - (intOf iv).toNat)
  case atStart => exact ⟨0, Nat.zero_le _, rfl, H.out, Fp.refl _ _⟩
  case round =>
    obtain ⟨i, hi, rfl, HR⟩ := hrel
    by_cases hlt : i < m
    · gi_wp2_with fail
      obtain ⟨p, hp⟩ : ∃ p, a + i = p := ⟨_, rfl⟩
      obtain ⟨q, hq⟩ : ∃ q, b + i = q := ⟨_, rfl⟩
      obtain ⟨qs, hqs⟩ : ∃ qs, swR ps a b i = qs := ⟨_, rfl⟩
      have hpb : PB wr g qs tail := by rw [← hqs]; exact HR.out.1
      have hql : qs.length = ps.length := by rw [← hqs]; exact swR_length _ _ _ _
      have l1 : ps.length ≤ qs.length := Nat.le_of_eq hql.symm
      have b1 : (a : Int) + (i : Int) = (p : Int) := by omega
      have b2 : (b : Int) + (i : Int) = (q : Int) := by omega
      have b3 : (p : Int) < (ps.length : Int) := by omega
      have b4 : (q : Int) < (ps.length : Int) := by omega
      have b5 : IntKind.i64.wrap (p : Int) = (p : Int) := by rw [IntKind.wrap_i64]; omega
      have b6 : IntKind.i64.wrap (q : Int) = (q : Int) := by rw [IntKind.wrap_i64]; omega
      have b7 : p < qs.length := by omega
      have b8 : q < qs.length := by omega
      obtain ⟨c0, c1⟩ := hpb.cell p b7
      obtain ⟨c2, c3⟩ := hpb.cell q b8
      have hfz := hpb.frozen
      have HB : Hid (PB wr g qs tail) := hpb
      have HP : Hid (a + i = p ∧ b + i = q ∧ swR ps a b i = qs) := ⟨hp, hq, hqs⟩
      clear hp hq hqs hql hpb
      refine wpIn_cutQ (fun a' w' => (PB w' g ((qs.set p (ptAt qs q)).set q (ptAt qs p)) tail ∧ Fp (fun k => k = g) wr w') ∧ a' = { tmps := #[.slice (some ⟨g, 0, none⟩) ps.length cap, .int .i64 (a : Nat), .int .i64 (b : Nat), .int .i64 (m : Nat), .func (.func 56) #[] #[], undef, undef, undef, undef, undef, .int .i64 (i : Nat), .int .i64 (i : Nat), .int .i64 (m : Nat), .bool true, u14, u15, .slice (some ⟨g, 0, none⟩) ps.length cap, .int .i64 (a : Nat), .int .i64 (i : Nat), .int .i64 (p : Nat), .slice (some ⟨g, 0, none⟩) ps.length cap, .int .i64 (b : Nat), .int .i64 (i : Nat), .int .i64 (q : Nat), .slice (some ⟨g, 0, none⟩) ps.length cap, .int .i64 (b : Nat), .int .i64 (i : Nat), .int .i64 (q : Nat), .pointer (some ⟨g, q * 2, none⟩), .agg #[.int .i64 (ptAt qs q).t, .int .u64 ((ptAt qs q).v : Nat)], .slice (some ⟨g, 0, none⟩) ps.length cap, .int .i64 (a : Nat), .int .i64 (i : Nat), .int .i64 (p : Nat), .pointer (some ⟨g, p * 2, none⟩), .agg #[.int .i64 (ptAt qs p).t, .int .u64 ((ptAt qs p).v : Nat)], .pointer (some ⟨g, p * 2, none⟩), .pointer (some ⟨g, q * 2, none⟩)], defers := [] }) ?r3 ?k3
      case r3 =>
        refine wpIn_region_inv (by kernel_rfl) (by kernel_rfl) (fun listed a' w' => ∃ u16 u17 u18 u19 u20 u21 u22 u23 u24 u25 u26 u27 u28 u29 u30 u31 u32 u33 u34 u35 u36 u37 : Value, a' = { tmps := #[.slice (some ⟨g, 0, none⟩) ps.length cap, .int .i64 (a : Nat), .int .i64 (b : Nat), .int .i64 (m : Nat), .func (.func 56) #[] #[], undef, undef, undef, undef, undef, .int .i64 (i : Nat), .int .i64 (i : Nat), .int .i64 (m : Nat), .bool true, u14, u15, u16, u17, u18, u19, u20, u21, u22, u23, u24, u25, u26, u27, u28, u29, u30, u31, u32, u33, u34, u35, u36, u37], defers := [] } ∧ Hid (RgSw wr g ps.length cap a b i p q qs tail listed u16 u17 u18 u19 u20 u21 u22 u23 u24 u25 u26 u27 u28 u29 u30 u31 u32 u33 u34 u35 u36 u37 w')) ?s0 ?send ?sstep
        case s0 => exact ⟨_, _, _, _, _, _, _, _, _, _, _, _, _, _, _, _, _, _, _, _, _, _, rfl, RgSw.start (rfl)⟩
        case send =>
          rintro listed a' w' hall ⟨u16, u17, u18, u19, u20, u21, u22, u23, u24, u25, u26, u27, u28, u29, u30, u31, u32, u33, u34, u35, u36, u37, rfl, HI⟩
          obtain rfl := HI.out.e0 (hall 0 (by decide))
          obtain rfl := HI.out.e1 (hall 1 (by decide))
          obtain rfl := HI.out.e2 (hall 2 (by decide))
          obtain rfl := HI.out.e3 (hall 3 (by decide))
          obtain rfl := HI.out.e4 (hall 4 (by decide))
          obtain rfl := HI.out.e5 (hall 5 (by decide))
          obtain rfl := HI.out.e6 (hall 6 (by decide))
          obtain rfl := HI.out.e7 (hall 7 (by decide))
          obtain rfl := HI.out.e8 (hall 8 (by decide))
          obtain rfl := HI.out.e9 (hall 9 (by decide))
          obtain rfl := HI.out.e10 (hall 10 (by decide))
          obtain rfl := HI.out.e11 (hall 11 (by decide))
          obtain rfl := HI.out.e12 (hall 12 (by decide))
          obtain rfl := HI.out.e13 (hall 13 (by decide))
          obtain rfl := HI.out.e14 (hall 14 (by decide))
          obtain rfl := HI.out.e15 (hall 15 (by decide))
          obtain rfl := HI.out.e16 (hall 16 (by decide))
          obtain rfl := HI.out.e17 (hall 17 (by decide))
          obtain rfl := HI.out.e18 (hall 18 (by decide))
          obtain rfl := HI.out.e19 (hall 19 (by decide))
          obtain rfl := HI.out.e20 (hall 20 (by decide))
          obtain rfl := HI.out.e22 (hall 22 (by decide))
          have hw := HI.out.x2 (hall 23 (by decide))
          exact ⟨hw, rfl⟩
        case sstep =>
          rintro listed a' w' i o ho hi hd hdep hcl ⟨u16, u17, u18, u19, u20, u21, u22, u23, u24, u25, u26, u27, u28, u29, u30, u31, u32, u33, u34, u35, u36, u37, rfl, HI⟩ K hK
          match i, ho with
          | 0, ho =>
            cases ho
            go_simp
            refine hK _ _ ⟨_, _, _, _, _, _, _, _, _, _, _, _, _, _, _, _, _, _, _, _, _, _, rfl, ?_⟩
            exact HI.out.s0
          | 1, ho =>
            cases ho
            go_simp
            refine hK _ _ ⟨_, _, _, _, _, _, _, _, _, _, _, _, _, _, _, _, _, _, _, _, _, _, rfl, ?_⟩
            exact HI.out.s1
          | 2, ho =>
            cases ho
            go_simp
            refine hK _ _ ⟨_, _, _, _, _, _, _, _, _, _, _, _, _, _, _, _, _, _, _, _, _, _, rfl, ?_⟩
            exact HI.out.s2
          | 3, ho =>
            cases ho
            have d1 := hdep ⟨1, .data⟩ (by simp) rfl
            obtain rfl := HI.out.e1 d1
            have d2 := hdep ⟨2, .data⟩ (by simp) rfl
            obtain rfl := HI.out.e2 d2
            go_simp
            refine hK _ _ ⟨_, _, _, _, _, _, _, _, _, _, _, _, _, _, _, _, _, _, _, _, _, _, rfl, ?_⟩
            exact HI.out.s3
          | 4, ho =>
            cases ho
            go_simp
            refine hK _ _ ⟨_, _, _, _, _, _, _, _, _, _, _, _, _, _, _, _, _, _, _, _, _, _, rfl, ?_⟩
            exact HI.out.s4
          | 5, ho =>
            cases ho
            go_simp
            refine hK _ _ ⟨_, _, _, _, _, _, _, _, _, _, _, _, _, _, _, _, _, _, _, _, _, _, rfl, ?_⟩
            exact HI.out.s5
          | 6, ho =>
            cases ho
            go_simp
            refine hK _ _ ⟨_, _, _, _, _, _, _, _, _, _, _, _, _, _, _, _, _, _, _, _, _, _, rfl, ?_⟩
            exact HI.out.s6
          | 7, ho =>
            cases ho
            have d5 := hdep ⟨5, .data⟩ (by simp) rfl
            obtain rfl := HI.out.e5 d5
            have d6 := hdep ⟨6, .data⟩ (by simp) rfl
            obtain rfl := HI.out.e6 d6
            go_simp
            refine hK _ _ ⟨_, _, _, _, _, _, _, _, _, _, _, _, _, _, _, _, _, _, _, _, _, _, rfl, ?_⟩
            exact HI.out.s7
          | 8, ho =>
            cases ho
            go_simp
            refine hK _ _ ⟨_, _, _, _, _, _, _, _, _, _, _, _, _, _, _, _, _, _, _, _, _, _, rfl, ?_⟩
            exact HI.out.s8
          | 9, ho =>
            cases ho
            go_simp
            refine hK _ _ ⟨_, _, _, _, _, _, _, _, _, _, _, _, _, _, _, _, _, _, _, _, _, _, rfl, ?_⟩
            exact HI.out.s9
          | 10, ho =>
            cases ho
            go_simp
            refine hK _ _ ⟨_, _, _, _, _, _, _, _, _, _, _, _, _, _, _, _, _, _, _, _, _, _, rfl, ?_⟩
            exact HI.out.s10
          | 11, ho =>
            cases ho
            have d9 := hdep ⟨9, .data⟩ (by simp) rfl
            obtain rfl := HI.out.e9 d9
            have d10 := hdep ⟨10, .data⟩ (by simp) rfl
            obtain rfl := HI.out.e10 d10
            go_simp
            refine hK _ _ ⟨_, _, _, _, _, _, _, _, _, _, _, _, _, _, _, _, _, _, _, _, _, _, rfl, ?_⟩
            exact HI.out.s11
          | 12, ho =>
            cases ho
            have d8 := hdep ⟨8, .data⟩ (by simp) rfl
            obtain rfl := HI.out.e8 d8
            have d11 := hdep ⟨11, .data⟩ (by simp) rfl
            obtain rfl := HI.out.e11 d11
            go_simp
            refine hK _ _ ⟨_, _, _, _, _, _, _, _, _, _, _, _, _, _, _, _, _, _, _, _, _, _, rfl, ?_⟩
            exact HI.out.s12
          | 13, ho =>
            cases ho
            have d12 := hdep ⟨12, .data⟩ (by simp) rfl
            obtain rfl := HI.out.e12 d12
            have q21 : done listed 21 = false := nd hcl (j := 21) rfl ⟨13, .data⟩ (by simp) rfl hd
            have hw := HI.out.x0 q21
            subst hw
            go_simp
            refine hK _ _ ⟨_, _, _, _, _, _, _, _, _, _, _, _, _, _, _, _, _, _, _, _, _, _, rfl, ?_⟩
            exact HI.out.s13
          | 14, ho =>
            cases ho
            go_simp
            refine hK _ _ ⟨_, _, _, _, _, _, _, _, _, _, _, _, _, _, _, _, _, _, _, _, _, _, rfl, ?_⟩
            exact HI.out.s14
          | 15, ho =>
            cases ho
            go_simp
            refine hK _ _ ⟨_, _, _, _, _, _, _, _, _, _, _, _, _, _, _, _, _, _, _, _, _, _, rfl, ?_⟩
            exact HI.out.s15
          | 16, ho =>
            cases ho
            go_simp
            refine hK _ _ ⟨_, _, _, _, _, _, _, _, _, _, _, _, _, _, _, _, _, _, _, _, _, _, rfl, ?_⟩
            exact HI.out.s16
          | 17, ho =>
            cases ho
            have d15 := hdep ⟨15, .data⟩ (by simp) rfl
            obtain rfl := HI.out.e15 d15
            have d16 := hdep ⟨16, .data⟩ (by simp) rfl
            obtain rfl := HI.out.e16 d16
            go_simp
            refine hK _ _ ⟨_, _, _, _, _, _, _, _, _, _, _, _, _, _, _, _, _, _, _, _, _, _, rfl, ?_⟩
            exact HI.out.s17
          | 18, ho =>
            cases ho
            have d14 := hdep ⟨14, .data⟩ (by simp) rfl
            obtain rfl := HI.out.e14 d14
            have d17 := hdep ⟨17, .data⟩ (by simp) rfl
            obtain rfl := HI.out.e17 d17
            go_simp
            refine hK _ _ ⟨_, _, _, _, _, _, _, _, _, _, _, _, _, _, _, _, _, _, _, _, _, _, rfl, ?_⟩
            exact HI.out.s18
          | 19, ho =>
            cases ho
            have d18 := hdep ⟨18, .data⟩ (by simp) rfl
            obtain rfl := HI.out.e18 d18
            have q21 : done listed 21 = false := nd hcl (j := 21) rfl ⟨19, .phase⟩ (by simp) rfl hd
            have hw := HI.out.x0 q21
            subst hw
            go_simp
            refine hK _ _ ⟨_, _, _, _, _, _, _, _, _, _, _, _, _, _, _, _, _, _, _, _, _, _, rfl, ?_⟩
            exact HI.out.s19
          | 20, ho =>
            cases ho
            have d0 := hdep ⟨0, .data⟩ (by simp) rfl
            obtain rfl := HI.out.e0 d0
            have d3 := hdep ⟨3, .data⟩ (by simp) rfl
            obtain rfl := HI.out.e3 d3
            go_simp
            refine hK _ _ ⟨_, _, _, _, _, _, _, _, _, _, _, _, _, _, _, _, _, _, _, _, _, _, rfl, ?_⟩
            exact HI.out.s20
          | 21, ho =>
            cases ho
            have d20 := hdep ⟨20, .data⟩ (by simp) rfl
            obtain rfl := HI.out.e20 d20
            have d13 := hdep ⟨13, .data⟩ (by simp) rfl
            obtain rfl := HI.out.e13 d13
            have hw := HI.out.x0 hd
            have q23 : done listed 23 = false := nd hcl (j := 23) rfl ⟨21, .chain⟩ (by simp) rfl hd
            have hn := q23
            subst hw
            go_simp
            refine hK _ _ ⟨_, _, _, _, _, _, _, _, _, _, _, _, _, _, _, _, _, _, _, _, _, _, rfl, ?_⟩
            exact HI.out.s21 hi hn (⟨PB.put HB.out.drew p (by omega) (ptAt qs q), Fp.trans' (Fp.drew _ wr) (Fp.trans' (Fp.setCell _ _ _ rfl) (Fp.setCell _ _ _ rfl))⟩)
          | 22, ho =>
            cases ho
            have d4 := hdep ⟨4, .data⟩ (by simp) rfl
            obtain rfl := HI.out.e4 d4
            have d7 := hdep ⟨7, .data⟩ (by simp) rfl
            obtain rfl := HI.out.e7 d7
            go_simp
            refine hK _ _ ⟨_, _, _, _, _, _, _, _, _, _, _, _, _, _, _, _, _, _, _, _, _, _, rfl, ?_⟩
            exact HI.out.s22
          | 23, ho =>
            cases ho
            have d22 := hdep ⟨22, .data⟩ (by simp) rfl
            obtain rfl := HI.out.e22 d22
            have d19 := hdep ⟨19, .data⟩ (by simp) rfl
            obtain rfl := HI.out.e19 d19
            have hp := hdep ⟨21, .chain⟩ (by simp) rfl
            have hw := HI.out.x1 hp hd
            have hb1 := hw.1
            have hc1 := hb1.cell q (by simp; omega)
            have hz1 := hb1.frozen
            have hc2 := hc1.1
            have hc3 := hc1.2
            go_simp
            refine hK _ _ ⟨_, _, _, _, _, _, _, _, _, _, _, _, _, _, _, _, _, _, _, _, _, _, rfl, ?_⟩
            exact HI.out.s23 hi hp (⟨PB.put hw.1 q (by simp; omega) (ptAt qs p), Fp.trans' hw.2 (Fp.trans' (Fp.setCell _ _ _ rfl) (Fp.setCell _ _ _ rfl))⟩)
      rintro a' w6 ⟨h6, rfl⟩
      dsimp only
      have H6 : Hid _ := h6
      clear h6 c0 c1 c2 c3 hfz b1 b2 b5 b6
      gi_wp2
      go_roundw
      case rel =>
        obtain ⟨e1, e2, e3⟩ := HP.out
        refine ⟨i + 1, by omega, by go_num, ?_, HR.out.2.trans' H6.out.2⟩
        have e : swR ps a b (i + 1) = (qs.set p (ptAt qs q)).set q (ptAt qs p) := by rw [swR, e1, e2, e3]; rfl
        rw [e]
        exact H6.out.1
      case measure => simp [intOf]; omega
    · gi_wp2
      go_end0
      obtain rfl : i = m := by omega
      exact ⟨rfl, HR.out.1, HR.out.2⟩

end Go.Proofs.Ytojjkjfcbfoinaa
