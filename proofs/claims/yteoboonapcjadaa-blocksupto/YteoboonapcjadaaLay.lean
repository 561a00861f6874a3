/- sets.Lay's contract. -/
import Derived.Test.YteoboonapcjadaaLayAid
namespace Go.Proofs.Yteoboonapcjadaa
open Go.RowKit Go.Shelf
open Silo (ptAt)
attribute [local go_sem] Oper.semAt_some

/-- In the midst of one sample's laying. -/
structure LyA (W W1 W2 : World) (tb p s pn cp gn cn : Nat) (x : Silo.Smp) (a0 : Option Addr) (listed : Array Bool) (u20 u21 u22 u23 u24 u25 u26 u27 u28 u29 u30 u31 u32 u33 u34 u35 : Value) (w' : World) : Prop where
  e0 : done listed 0 = true → u20 = .pointer (some ⟨tb, 0, none⟩)
  e1 : done listed 1 = true → u21 = .pointer (some ⟨p, 0, none⟩)
  e2 : done listed 2 = true → u22 = .int .i64 (s : Nat)
  e3 : done listed 3 = true → u23 = .pointer (some ⟨tb, 0, none⟩)
  e4 : done listed 4 = true → u24 = .pointer (some ⟨p, 0, none⟩)
  e5 : done listed 5 = true → u25 = .int .i64 (s : Nat)
  e6 : done listed 6 = true → u26 = .pointer (some ⟨tb, 0, none⟩)
  e7 : done listed 7 = true → u27 = .pointer (some ⟨tb, 0, none⟩)
  e8 : done listed 8 = true → u28 = .pointer (some ⟨tb, s, none⟩)
  e9 : done listed 9 = true → u29 = .slice a0 pn cp
  e10 : done listed 10 = true → u30 = .agg #[.int .i64 x.t, .int .u64 (x.v : Nat)]
  e11 : done listed 11 = true → u31 = .slice (some ⟨W.heap.size, 0, none⟩) 1 1
  e12 : done listed 12 = true → u32 = .slice (some ⟨gn, 0, none⟩) (pn + 1) cn
  e13 : done listed 13 = true → u33 = .pointer (some ⟨tb, 0, none⟩)
  e14 : done listed 14 = true → u34 = .pointer (some ⟨tb, 0, none⟩)
  e15 : done listed 15 = true → u35 = .pointer (some ⟨tb, s, none⟩)
  x0 : done listed 11 = false → w' = W.drew
  x1 : done listed 11 = true → done listed 12 = false → w' = W1
  x2 : done listed 12 = true → done listed 16 = false → w' = W2
  x3 : done listed 16 = true → w' = W2.setCell ⟨tb, s, none⟩ (.slice (some ⟨gn, 0, none⟩) (pn + 1) cn)

section
variable {W W1 W2 : World} {tb p s pn cp gn cn : Nat} {x : Silo.Smp} {a0 : Option Addr} {listed : Array Bool} {u20 u21 u22 u23 u24 u25 u26 u27 u28 u29 u30 u31 u32 u33 u34 u35 : Value} {w' : World}

theorem LyA.start {k : Nat} (h : w' = W.drew) : LyA W W1 W2 tb p s pn cp gn cn x a0 (Array.replicate k false) u20 u21 u22 u23 u24 u25 u26 u27 u28 u29 u30 u31 u32 u33 u34 u35 w' := by
  constructor <;> first | exact h | (intro d; first | exact h | (rw [done_rep] at d; cases d))

theorem LyA.s0 (h : LyA W W1 W2 tb p s pn cp gn cn x a0 listed u20 u21 u22 u23 u24 u25 u26 u27 u28 u29 u30 u31 u32 u33 u34 u35 w') : LyA W W1 W2 tb p s pn cp gn cn x a0 (listed.setIfInBounds 0 true) (.pointer (some ⟨tb, 0, none⟩)) u21 u22 u23 u24 u25 u26 u27 u28 u29 u30 u31 u32 u33 u34 u35 w' :=
  ⟨fun _ => rfl, fun d => h.e1 (done_of_set d (by decide)), fun d => h.e2 (done_of_set d (by decide)), fun d => h.e3 (done_of_set d (by decide)), fun d => h.e4 (done_of_set d (by decide)), fun d => h.e5 (done_of_set d (by decide)), fun d => h.e6 (done_of_set d (by decide)), fun d => h.e7 (done_of_set d (by decide)), fun d => h.e8 (done_of_set d (by decide)), fun d => h.e9 (done_of_set d (by decide)), fun d => h.e10 (done_of_set d (by decide)), fun d => h.e11 (done_of_set d (by decide)), fun d => h.e12 (done_of_set d (by decide)), fun d => h.e13 (done_of_set d (by decide)), fun d => h.e14 (done_of_set d (by decide)), fun d => h.e15 (done_of_set d (by decide)), fun d => h.x0 (undone_of_set d), fun d d' => h.x1 (done_of_set d (by decide)) (undone_of_set d'), fun d d' => h.x2 (done_of_set d (by decide)) (undone_of_set d'), fun d => h.x3 (done_of_set d (by decide))⟩

theorem LyA.s1 (h : LyA W W1 W2 tb p s pn cp gn cn x a0 listed u20 u21 u22 u23 u24 u25 u26 u27 u28 u29 u30 u31 u32 u33 u34 u35 w') : LyA W W1 W2 tb p s pn cp gn cn x a0 (listed.setIfInBounds 1 true) u20 (.pointer (some ⟨p, 0, none⟩)) u22 u23 u24 u25 u26 u27 u28 u29 u30 u31 u32 u33 u34 u35 w' :=
  ⟨fun d => h.e0 (done_of_set d (by decide)), fun _ => rfl, fun d => h.e2 (done_of_set d (by decide)), fun d => h.e3 (done_of_set d (by decide)), fun d => h.e4 (done_of_set d (by decide)), fun d => h.e5 (done_of_set d (by decide)), fun d => h.e6 (done_of_set d (by decide)), fun d => h.e7 (done_of_set d (by decide)), fun d => h.e8 (done_of_set d (by decide)), fun d => h.e9 (done_of_set d (by decide)), fun d => h.e10 (done_of_set d (by decide)), fun d => h.e11 (done_of_set d (by decide)), fun d => h.e12 (done_of_set d (by decide)), fun d => h.e13 (done_of_set d (by decide)), fun d => h.e14 (done_of_set d (by decide)), fun d => h.e15 (done_of_set d (by decide)), fun d => h.x0 (undone_of_set d), fun d d' => h.x1 (done_of_set d (by decide)) (undone_of_set d'), fun d d' => h.x2 (done_of_set d (by decide)) (undone_of_set d'), fun d => h.x3 (done_of_set d (by decide))⟩

theorem LyA.s2 (h : LyA W W1 W2 tb p s pn cp gn cn x a0 listed u20 u21 u22 u23 u24 u25 u26 u27 u28 u29 u30 u31 u32 u33 u34 u35 w') : LyA W W1 W2 tb p s pn cp gn cn x a0 (listed.setIfInBounds 2 true) u20 u21 (.int .i64 (s : Nat)) u23 u24 u25 u26 u27 u28 u29 u30 u31 u32 u33 u34 u35 w' :=
  ⟨fun d => h.e0 (done_of_set d (by decide)), fun d => h.e1 (done_of_set d (by decide)), fun _ => rfl, fun d => h.e3 (done_of_set d (by decide)), fun d => h.e4 (done_of_set d (by decide)), fun d => h.e5 (done_of_set d (by decide)), fun d => h.e6 (done_of_set d (by decide)), fun d => h.e7 (done_of_set d (by decide)), fun d => h.e8 (done_of_set d (by decide)), fun d => h.e9 (done_of_set d (by decide)), fun d => h.e10 (done_of_set d (by decide)), fun d => h.e11 (done_of_set d (by decide)), fun d => h.e12 (done_of_set d (by decide)), fun d => h.e13 (done_of_set d (by decide)), fun d => h.e14 (done_of_set d (by decide)), fun d => h.e15 (done_of_set d (by decide)), fun d => h.x0 (undone_of_set d), fun d d' => h.x1 (done_of_set d (by decide)) (undone_of_set d'), fun d d' => h.x2 (done_of_set d (by decide)) (undone_of_set d'), fun d => h.x3 (done_of_set d (by decide))⟩

theorem LyA.s3 (h : LyA W W1 W2 tb p s pn cp gn cn x a0 listed u20 u21 u22 u23 u24 u25 u26 u27 u28 u29 u30 u31 u32 u33 u34 u35 w') : LyA W W1 W2 tb p s pn cp gn cn x a0 (listed.setIfInBounds 3 true) u20 u21 u22 (.pointer (some ⟨tb, 0, none⟩)) u24 u25 u26 u27 u28 u29 u30 u31 u32 u33 u34 u35 w' :=
  ⟨fun d => h.e0 (done_of_set d (by decide)), fun d => h.e1 (done_of_set d (by decide)), fun d => h.e2 (done_of_set d (by decide)), fun _ => rfl, fun d => h.e4 (done_of_set d (by decide)), fun d => h.e5 (done_of_set d (by decide)), fun d => h.e6 (done_of_set d (by decide)), fun d => h.e7 (done_of_set d (by decide)), fun d => h.e8 (done_of_set d (by decide)), fun d => h.e9 (done_of_set d (by decide)), fun d => h.e10 (done_of_set d (by decide)), fun d => h.e11 (done_of_set d (by decide)), fun d => h.e12 (done_of_set d (by decide)), fun d => h.e13 (done_of_set d (by decide)), fun d => h.e14 (done_of_set d (by decide)), fun d => h.e15 (done_of_set d (by decide)), fun d => h.x0 (undone_of_set d), fun d d' => h.x1 (done_of_set d (by decide)) (undone_of_set d'), fun d d' => h.x2 (done_of_set d (by decide)) (undone_of_set d'), fun d => h.x3 (done_of_set d (by decide))⟩

theorem LyA.s4 (h : LyA W W1 W2 tb p s pn cp gn cn x a0 listed u20 u21 u22 u23 u24 u25 u26 u27 u28 u29 u30 u31 u32 u33 u34 u35 w') : LyA W W1 W2 tb p s pn cp gn cn x a0 (listed.setIfInBounds 4 true) u20 u21 u22 u23 (.pointer (some ⟨p, 0, none⟩)) u25 u26 u27 u28 u29 u30 u31 u32 u33 u34 u35 w' :=
  ⟨fun d => h.e0 (done_of_set d (by decide)), fun d => h.e1 (done_of_set d (by decide)), fun d => h.e2 (done_of_set d (by decide)), fun d => h.e3 (done_of_set d (by decide)), fun _ => rfl, fun d => h.e5 (done_of_set d (by decide)), fun d => h.e6 (done_of_set d (by decide)), fun d => h.e7 (done_of_set d (by decide)), fun d => h.e8 (done_of_set d (by decide)), fun d => h.e9 (done_of_set d (by decide)), fun d => h.e10 (done_of_set d (by decide)), fun d => h.e11 (done_of_set d (by decide)), fun d => h.e12 (done_of_set d (by decide)), fun d => h.e13 (done_of_set d (by decide)), fun d => h.e14 (done_of_set d (by decide)), fun d => h.e15 (done_of_set d (by decide)), fun d => h.x0 (undone_of_set d), fun d d' => h.x1 (done_of_set d (by decide)) (undone_of_set d'), fun d d' => h.x2 (done_of_set d (by decide)) (undone_of_set d'), fun d => h.x3 (done_of_set d (by decide))⟩

theorem LyA.s5 (h : LyA W W1 W2 tb p s pn cp gn cn x a0 listed u20 u21 u22 u23 u24 u25 u26 u27 u28 u29 u30 u31 u32 u33 u34 u35 w') : LyA W W1 W2 tb p s pn cp gn cn x a0 (listed.setIfInBounds 5 true) u20 u21 u22 u23 u24 (.int .i64 (s : Nat)) u26 u27 u28 u29 u30 u31 u32 u33 u34 u35 w' :=
  ⟨fun d => h.e0 (done_of_set d (by decide)), fun d => h.e1 (done_of_set d (by decide)), fun d => h.e2 (done_of_set d (by decide)), fun d => h.e3 (done_of_set d (by decide)), fun d => h.e4 (done_of_set d (by decide)), fun _ => rfl, fun d => h.e6 (done_of_set d (by decide)), fun d => h.e7 (done_of_set d (by decide)), fun d => h.e8 (done_of_set d (by decide)), fun d => h.e9 (done_of_set d (by decide)), fun d => h.e10 (done_of_set d (by decide)), fun d => h.e11 (done_of_set d (by decide)), fun d => h.e12 (done_of_set d (by decide)), fun d => h.e13 (done_of_set d (by decide)), fun d => h.e14 (done_of_set d (by decide)), fun d => h.e15 (done_of_set d (by decide)), fun d => h.x0 (undone_of_set d), fun d d' => h.x1 (done_of_set d (by decide)) (undone_of_set d'), fun d d' => h.x2 (done_of_set d (by decide)) (undone_of_set d'), fun d => h.x3 (done_of_set d (by decide))⟩

theorem LyA.s6 (h : LyA W W1 W2 tb p s pn cp gn cn x a0 listed u20 u21 u22 u23 u24 u25 u26 u27 u28 u29 u30 u31 u32 u33 u34 u35 w') : LyA W W1 W2 tb p s pn cp gn cn x a0 (listed.setIfInBounds 6 true) u20 u21 u22 u23 u24 u25 (.pointer (some ⟨tb, 0, none⟩)) u27 u28 u29 u30 u31 u32 u33 u34 u35 w' :=
  ⟨fun d => h.e0 (done_of_set d (by decide)), fun d => h.e1 (done_of_set d (by decide)), fun d => h.e2 (done_of_set d (by decide)), fun d => h.e3 (done_of_set d (by decide)), fun d => h.e4 (done_of_set d (by decide)), fun d => h.e5 (done_of_set d (by decide)), fun _ => rfl, fun d => h.e7 (done_of_set d (by decide)), fun d => h.e8 (done_of_set d (by decide)), fun d => h.e9 (done_of_set d (by decide)), fun d => h.e10 (done_of_set d (by decide)), fun d => h.e11 (done_of_set d (by decide)), fun d => h.e12 (done_of_set d (by decide)), fun d => h.e13 (done_of_set d (by decide)), fun d => h.e14 (done_of_set d (by decide)), fun d => h.e15 (done_of_set d (by decide)), fun d => h.x0 (undone_of_set d), fun d d' => h.x1 (done_of_set d (by decide)) (undone_of_set d'), fun d d' => h.x2 (done_of_set d (by decide)) (undone_of_set d'), fun d => h.x3 (done_of_set d (by decide))⟩

theorem LyA.s7 (h : LyA W W1 W2 tb p s pn cp gn cn x a0 listed u20 u21 u22 u23 u24 u25 u26 u27 u28 u29 u30 u31 u32 u33 u34 u35 w') : LyA W W1 W2 tb p s pn cp gn cn x a0 (listed.setIfInBounds 7 true) u20 u21 u22 u23 u24 u25 u26 (.pointer (some ⟨tb, 0, none⟩)) u28 u29 u30 u31 u32 u33 u34 u35 w' :=
  ⟨fun d => h.e0 (done_of_set d (by decide)), fun d => h.e1 (done_of_set d (by decide)), fun d => h.e2 (done_of_set d (by decide)), fun d => h.e3 (done_of_set d (by decide)), fun d => h.e4 (done_of_set d (by decide)), fun d => h.e5 (done_of_set d (by decide)), fun d => h.e6 (done_of_set d (by decide)), fun _ => rfl, fun d => h.e8 (done_of_set d (by decide)), fun d => h.e9 (done_of_set d (by decide)), fun d => h.e10 (done_of_set d (by decide)), fun d => h.e11 (done_of_set d (by decide)), fun d => h.e12 (done_of_set d (by decide)), fun d => h.e13 (done_of_set d (by decide)), fun d => h.e14 (done_of_set d (by decide)), fun d => h.e15 (done_of_set d (by decide)), fun d => h.x0 (undone_of_set d), fun d d' => h.x1 (done_of_set d (by decide)) (undone_of_set d'), fun d d' => h.x2 (done_of_set d (by decide)) (undone_of_set d'), fun d => h.x3 (done_of_set d (by decide))⟩

theorem LyA.s8 (h : LyA W W1 W2 tb p s pn cp gn cn x a0 listed u20 u21 u22 u23 u24 u25 u26 u27 u28 u29 u30 u31 u32 u33 u34 u35 w') : LyA W W1 W2 tb p s pn cp gn cn x a0 (listed.setIfInBounds 8 true) u20 u21 u22 u23 u24 u25 u26 u27 (.pointer (some ⟨tb, s, none⟩)) u29 u30 u31 u32 u33 u34 u35 w' :=
  ⟨fun d => h.e0 (done_of_set d (by decide)), fun d => h.e1 (done_of_set d (by decide)), fun d => h.e2 (done_of_set d (by decide)), fun d => h.e3 (done_of_set d (by decide)), fun d => h.e4 (done_of_set d (by decide)), fun d => h.e5 (done_of_set d (by decide)), fun d => h.e6 (done_of_set d (by decide)), fun d => h.e7 (done_of_set d (by decide)), fun _ => rfl, fun d => h.e9 (done_of_set d (by decide)), fun d => h.e10 (done_of_set d (by decide)), fun d => h.e11 (done_of_set d (by decide)), fun d => h.e12 (done_of_set d (by decide)), fun d => h.e13 (done_of_set d (by decide)), fun d => h.e14 (done_of_set d (by decide)), fun d => h.e15 (done_of_set d (by decide)), fun d => h.x0 (undone_of_set d), fun d d' => h.x1 (done_of_set d (by decide)) (undone_of_set d'), fun d d' => h.x2 (done_of_set d (by decide)) (undone_of_set d'), fun d => h.x3 (done_of_set d (by decide))⟩

theorem LyA.s9 (h : LyA W W1 W2 tb p s pn cp gn cn x a0 listed u20 u21 u22 u23 u24 u25 u26 u27 u28 u29 u30 u31 u32 u33 u34 u35 w') : LyA W W1 W2 tb p s pn cp gn cn x a0 (listed.setIfInBounds 9 true) u20 u21 u22 u23 u24 u25 u26 u27 u28 (.slice a0 pn cp) u30 u31 u32 u33 u34 u35 w' :=
  ⟨fun d => h.e0 (done_of_set d (by decide)), fun d => h.e1 (done_of_set d (by decide)), fun d => h.e2 (done_of_set d (by decide)), fun d => h.e3 (done_of_set d (by decide)), fun d => h.e4 (done_of_set d (by decide)), fun d => h.e5 (done_of_set d (by decide)), fun d => h.e6 (done_of_set d (by decide)), fun d => h.e7 (done_of_set d (by decide)), fun d => h.e8 (done_of_set d (by decide)), fun _ => rfl, fun d => h.e10 (done_of_set d (by decide)), fun d => h.e11 (done_of_set d (by decide)), fun d => h.e12 (done_of_set d (by decide)), fun d => h.e13 (done_of_set d (by decide)), fun d => h.e14 (done_of_set d (by decide)), fun d => h.e15 (done_of_set d (by decide)), fun d => h.x0 (undone_of_set d), fun d d' => h.x1 (done_of_set d (by decide)) (undone_of_set d'), fun d d' => h.x2 (done_of_set d (by decide)) (undone_of_set d'), fun d => h.x3 (done_of_set d (by decide))⟩

theorem LyA.s10 (h : LyA W W1 W2 tb p s pn cp gn cn x a0 listed u20 u21 u22 u23 u24 u25 u26 u27 u28 u29 u30 u31 u32 u33 u34 u35 w') : LyA W W1 W2 tb p s pn cp gn cn x a0 (listed.setIfInBounds 10 true) u20 u21 u22 u23 u24 u25 u26 u27 u28 u29 (.agg #[.int .i64 x.t, .int .u64 (x.v : Nat)]) u31 u32 u33 u34 u35 w' :=
  ⟨fun d => h.e0 (done_of_set d (by decide)), fun d => h.e1 (done_of_set d (by decide)), fun d => h.e2 (done_of_set d (by decide)), fun d => h.e3 (done_of_set d (by decide)), fun d => h.e4 (done_of_set d (by decide)), fun d => h.e5 (done_of_set d (by decide)), fun d => h.e6 (done_of_set d (by decide)), fun d => h.e7 (done_of_set d (by decide)), fun d => h.e8 (done_of_set d (by decide)), fun d => h.e9 (done_of_set d (by decide)), fun _ => rfl, fun d => h.e11 (done_of_set d (by decide)), fun d => h.e12 (done_of_set d (by decide)), fun d => h.e13 (done_of_set d (by decide)), fun d => h.e14 (done_of_set d (by decide)), fun d => h.e15 (done_of_set d (by decide)), fun d => h.x0 (undone_of_set d), fun d d' => h.x1 (done_of_set d (by decide)) (undone_of_set d'), fun d d' => h.x2 (done_of_set d (by decide)) (undone_of_set d'), fun d => h.x3 (done_of_set d (by decide))⟩

theorem LyA.s11 {w2 : World} (h : LyA W W1 W2 tb p s pn cp gn cn x a0 listed u20 u21 u22 u23 u24 u25 u26 u27 u28 u29 u30 u31 u32 u33 u34 u35 w') (hi : 11 < listed.size) (hn1 : done listed 12 = false) (hn2 : done listed 16 = false) (hS : w2 = W1) : LyA W W1 W2 tb p s pn cp gn cn x a0 (listed.setIfInBounds 11 true) u20 u21 u22 u23 u24 u25 u26 u27 u28 u29 u30 (.slice (some ⟨W.heap.size, 0, none⟩) 1 1) u32 u33 u34 u35 w2 :=
  ⟨fun d => h.e0 (done_of_set d (by decide)), fun d => h.e1 (done_of_set d (by decide)), fun d => h.e2 (done_of_set d (by decide)), fun d => h.e3 (done_of_set d (by decide)), fun d => h.e4 (done_of_set d (by decide)), fun d => h.e5 (done_of_set d (by decide)), fun d => h.e6 (done_of_set d (by decide)), fun d => h.e7 (done_of_set d (by decide)), fun d => h.e8 (done_of_set d (by decide)), fun d => h.e9 (done_of_set d (by decide)), fun d => h.e10 (done_of_set d (by decide)), fun _ => rfl, fun d => h.e12 (done_of_set d (by decide)), fun d => h.e13 (done_of_set d (by decide)), fun d => h.e14 (done_of_set d (by decide)), fun d => h.e15 (done_of_set d (by decide)), fun D => absurd D (by rw [done_set_same hi]; decide), fun _ _ => hS, fun D _ => absurd (done_of_set D (by decide)) (by rw [hn1]; decide), fun D => absurd (done_of_set D (by decide)) (by rw [hn2]; decide)⟩

theorem LyA.s12 {w2 : World} (h : LyA W W1 W2 tb p s pn cp gn cn x a0 listed u20 u21 u22 u23 u24 u25 u26 u27 u28 u29 u30 u31 u32 u33 u34 u35 w') (hi : 12 < listed.size) (hp0 : done listed 11 = true) (hn2 : done listed 16 = false) (hS : w2 = W2) : LyA W W1 W2 tb p s pn cp gn cn x a0 (listed.setIfInBounds 12 true) u20 u21 u22 u23 u24 u25 u26 u27 u28 u29 u30 u31 (.slice (some ⟨gn, 0, none⟩) (pn + 1) cn) u33 u34 u35 w2 :=
  ⟨fun d => h.e0 (done_of_set d (by decide)), fun d => h.e1 (done_of_set d (by decide)), fun d => h.e2 (done_of_set d (by decide)), fun d => h.e3 (done_of_set d (by decide)), fun d => h.e4 (done_of_set d (by decide)), fun d => h.e5 (done_of_set d (by decide)), fun d => h.e6 (done_of_set d (by decide)), fun d => h.e7 (done_of_set d (by decide)), fun d => h.e8 (done_of_set d (by decide)), fun d => h.e9 (done_of_set d (by decide)), fun d => h.e10 (done_of_set d (by decide)), fun d => h.e11 (done_of_set d (by decide)), fun _ => rfl, fun d => h.e13 (done_of_set d (by decide)), fun d => h.e14 (done_of_set d (by decide)), fun d => h.e15 (done_of_set d (by decide)), fun D => absurd (undone_of_set D) (by rw [hp0]; decide), fun _ D => absurd D (by rw [done_set_same hi]; decide), fun _ _ => hS, fun D => absurd (done_of_set D (by decide)) (by rw [hn2]; decide)⟩

theorem LyA.s13 (h : LyA W W1 W2 tb p s pn cp gn cn x a0 listed u20 u21 u22 u23 u24 u25 u26 u27 u28 u29 u30 u31 u32 u33 u34 u35 w') : LyA W W1 W2 tb p s pn cp gn cn x a0 (listed.setIfInBounds 13 true) u20 u21 u22 u23 u24 u25 u26 u27 u28 u29 u30 u31 u32 (.pointer (some ⟨tb, 0, none⟩)) u34 u35 w' :=
  ⟨fun d => h.e0 (done_of_set d (by decide)), fun d => h.e1 (done_of_set d (by decide)), fun d => h.e2 (done_of_set d (by decide)), fun d => h.e3 (done_of_set d (by decide)), fun d => h.e4 (done_of_set d (by decide)), fun d => h.e5 (done_of_set d (by decide)), fun d => h.e6 (done_of_set d (by decide)), fun d => h.e7 (done_of_set d (by decide)), fun d => h.e8 (done_of_set d (by decide)), fun d => h.e9 (done_of_set d (by decide)), fun d => h.e10 (done_of_set d (by decide)), fun d => h.e11 (done_of_set d (by decide)), fun d => h.e12 (done_of_set d (by decide)), fun _ => rfl, fun d => h.e14 (done_of_set d (by decide)), fun d => h.e15 (done_of_set d (by decide)), fun d => h.x0 (undone_of_set d), fun d d' => h.x1 (done_of_set d (by decide)) (undone_of_set d'), fun d d' => h.x2 (done_of_set d (by decide)) (undone_of_set d'), fun d => h.x3 (done_of_set d (by decide))⟩

theorem LyA.s14 (h : LyA W W1 W2 tb p s pn cp gn cn x a0 listed u20 u21 u22 u23 u24 u25 u26 u27 u28 u29 u30 u31 u32 u33 u34 u35 w') : LyA W W1 W2 tb p s pn cp gn cn x a0 (listed.setIfInBounds 14 true) u20 u21 u22 u23 u24 u25 u26 u27 u28 u29 u30 u31 u32 u33 (.pointer (some ⟨tb, 0, none⟩)) u35 w' :=
  ⟨fun d => h.e0 (done_of_set d (by decide)), fun d => h.e1 (done_of_set d (by decide)), fun d => h.e2 (done_of_set d (by decide)), fun d => h.e3 (done_of_set d (by decide)), fun d => h.e4 (done_of_set d (by decide)), fun d => h.e5 (done_of_set d (by decide)), fun d => h.e6 (done_of_set d (by decide)), fun d => h.e7 (done_of_set d (by decide)), fun d => h.e8 (done_of_set d (by decide)), fun d => h.e9 (done_of_set d (by decide)), fun d => h.e10 (done_of_set d (by decide)), fun d => h.e11 (done_of_set d (by decide)), fun d => h.e12 (done_of_set d (by decide)), fun d => h.e13 (done_of_set d (by decide)), fun _ => rfl, fun d => h.e15 (done_of_set d (by decide)), fun d => h.x0 (undone_of_set d), fun d d' => h.x1 (done_of_set d (by decide)) (undone_of_set d'), fun d d' => h.x2 (done_of_set d (by decide)) (undone_of_set d'), fun d => h.x3 (done_of_set d (by decide))⟩

theorem LyA.s15 (h : LyA W W1 W2 tb p s pn cp gn cn x a0 listed u20 u21 u22 u23 u24 u25 u26 u27 u28 u29 u30 u31 u32 u33 u34 u35 w') : LyA W W1 W2 tb p s pn cp gn cn x a0 (listed.setIfInBounds 15 true) u20 u21 u22 u23 u24 u25 u26 u27 u28 u29 u30 u31 u32 u33 u34 (.pointer (some ⟨tb, s, none⟩)) w' :=
  ⟨fun d => h.e0 (done_of_set d (by decide)), fun d => h.e1 (done_of_set d (by decide)), fun d => h.e2 (done_of_set d (by decide)), fun d => h.e3 (done_of_set d (by decide)), fun d => h.e4 (done_of_set d (by decide)), fun d => h.e5 (done_of_set d (by decide)), fun d => h.e6 (done_of_set d (by decide)), fun d => h.e7 (done_of_set d (by decide)), fun d => h.e8 (done_of_set d (by decide)), fun d => h.e9 (done_of_set d (by decide)), fun d => h.e10 (done_of_set d (by decide)), fun d => h.e11 (done_of_set d (by decide)), fun d => h.e12 (done_of_set d (by decide)), fun d => h.e13 (done_of_set d (by decide)), fun d => h.e14 (done_of_set d (by decide)), fun _ => rfl, fun d => h.x0 (undone_of_set d), fun d d' => h.x1 (done_of_set d (by decide)) (undone_of_set d'), fun d d' => h.x2 (done_of_set d (by decide)) (undone_of_set d'), fun d => h.x3 (done_of_set d (by decide))⟩

theorem LyA.s16 {w2 : World} (h : LyA W W1 W2 tb p s pn cp gn cn x a0 listed u20 u21 u22 u23 u24 u25 u26 u27 u28 u29 u30 u31 u32 u33 u34 u35 w') (hi : 16 < listed.size) (hp0 : done listed 11 = true) (hp1 : done listed 12 = true) (hS : w2 = W2.setCell ⟨tb, s, none⟩ (.slice (some ⟨gn, 0, none⟩) (pn + 1) cn)) : LyA W W1 W2 tb p s pn cp gn cn x a0 (listed.setIfInBounds 16 true) u20 u21 u22 u23 u24 u25 u26 u27 u28 u29 u30 u31 u32 u33 u34 u35 w2 :=
  ⟨fun d => h.e0 (done_of_set d (by decide)), fun d => h.e1 (done_of_set d (by decide)), fun d => h.e2 (done_of_set d (by decide)), fun d => h.e3 (done_of_set d (by decide)), fun d => h.e4 (done_of_set d (by decide)), fun d => h.e5 (done_of_set d (by decide)), fun d => h.e6 (done_of_set d (by decide)), fun d => h.e7 (done_of_set d (by decide)), fun d => h.e8 (done_of_set d (by decide)), fun d => h.e9 (done_of_set d (by decide)), fun d => h.e10 (done_of_set d (by decide)), fun d => h.e11 (done_of_set d (by decide)), fun d => h.e12 (done_of_set d (by decide)), fun d => h.e13 (done_of_set d (by decide)), fun d => h.e14 (done_of_set d (by decide)), fun d => h.e15 (done_of_set d (by decide)), fun D => absurd (undone_of_set D) (by rw [hp0]; decide), fun _ D => absurd (undone_of_set D) (by rw [hp1]; decide), fun _ D => absurd D (by rw [done_set_same hi]; decide), fun _ => hS⟩

end

/-- What settling one series has left. -/
def LySet (W w' : World) (tb : Nat) (v v' : Value) (ps : List Silo.Pt) : Prop := ∃ rs, Settled ps rs ∧ World.ptsAt w' (tb + 1) v' rs ∧ v'.ownBlock = v.ownBlock ∧ Fp (fun k => v.ownBlock = some k) W w'

theorem LyBa {W w' : World} {tb k : Nat} {v v' : Value} {ps : List Silo.Pt} {u : Value} (h : LySet W w' tb v v' ps) (hz : tb < W.heap.size ∧ v.ownBlock ≠ some tb ∧ W.cell? ⟨tb, k, none⟩ = some u ∧ W.frozen? ⟨tb, k, none⟩ = false) : w'.cell? ⟨tb, k, none⟩ = some u := by
  obtain ⟨_, _, _, _, hf⟩ := h
  rw [hf.cell (p := ⟨tb, k, none⟩) hz.1 hz.2.1]; exact hz.2.2.1

theorem LyBz {W w' : World} {tb k : Nat} {v v' : Value} {ps : List Silo.Pt} {u : Value} (h : LySet W w' tb v v' ps) (hz : tb < W.heap.size ∧ v.ownBlock ≠ some tb ∧ W.cell? ⟨tb, k, none⟩ = some u ∧ W.frozen? ⟨tb, k, none⟩ = false) : w'.frozen? ⟨tb, k, none⟩ = false := by
  obtain ⟨_, _, _, _, hf⟩ := h
  rw [hf.frozen (p := ⟨tb, k, none⟩) hz.1 hz.2.1]; exact hz.2.2.2

theorem LyBf {W w' : World} {tb : Nat} {v v' : Value} {ps : List Silo.Pt} (h : LySet W w' tb v v' ps) : ∃ a n c, v' = .slice a n c := by
  obtain ⟨rs, _, hr, _, _⟩ := h
  obtain ⟨a, c, e⟩ := ptsAt_form hr
  exact ⟨a, _, c, e⟩

/-- In the midst of one series' settling. -/
structure LyB (W : World) (tb jj cv : Nat) (av : Option Addr) (ps : List Silo.Pt) (listed : Array Bool) (u45 u46 u47 u48 u49 u50 u51 : Value) (w' : World) : Prop where
  e0 : done listed 0 = true → u45 = .pointer (some ⟨tb, 0, none⟩)
  e1 : done listed 1 = true → u46 = .int .i64 (jj : Nat)
  e2 : done listed 2 = true → u47 = .slice av ps.length cv
  e4 : done listed 4 = true → u49 = .pointer (some ⟨tb, 0, none⟩)
  e5 : done listed 5 = true → u50 = .pointer (some ⟨tb, 0, none⟩)
  e6 : done listed 6 = true → u51 = .pointer (some ⟨tb, jj, none⟩)
  x0 : done listed 3 = false → w' = W.drew
  x1 : done listed 3 = true → done listed 7 = false → LySet W w' tb (.slice av ps.length cv) u48 ps
  x2 : done listed 7 = true → ∃ w5, LySet W w5 tb (.slice av ps.length cv) u48 ps ∧ w' = w5.setCell ⟨tb, jj, none⟩ u48

section
variable {W : World} {tb jj cv : Nat} {av : Option Addr} {ps : List Silo.Pt} {listed : Array Bool} {u45 u46 u47 u48 u49 u50 u51 : Value} {w' : World}

theorem LyB.start {k : Nat} (h : w' = W.drew) : LyB W tb jj cv av ps (Array.replicate k false) u45 u46 u47 u48 u49 u50 u51 w' := by
  constructor <;> first | exact h | (intro d; first | exact h | (rw [done_rep] at d; cases d))

theorem LyB.s0 (h : LyB W tb jj cv av ps listed u45 u46 u47 u48 u49 u50 u51 w') : LyB W tb jj cv av ps (listed.setIfInBounds 0 true) (.pointer (some ⟨tb, 0, none⟩)) u46 u47 u48 u49 u50 u51 w' :=
  ⟨fun _ => rfl, fun d => h.e1 (done_of_set d (by decide)), fun d => h.e2 (done_of_set d (by decide)), fun d => h.e4 (done_of_set d (by decide)), fun d => h.e5 (done_of_set d (by decide)), fun d => h.e6 (done_of_set d (by decide)), fun d => h.x0 (undone_of_set d), fun d d' => h.x1 (done_of_set d (by decide)) (undone_of_set d'), fun d => h.x2 (done_of_set d (by decide))⟩

theorem LyB.s1 (h : LyB W tb jj cv av ps listed u45 u46 u47 u48 u49 u50 u51 w') : LyB W tb jj cv av ps (listed.setIfInBounds 1 true) u45 (.int .i64 (jj : Nat)) u47 u48 u49 u50 u51 w' :=
  ⟨fun d => h.e0 (done_of_set d (by decide)), fun _ => rfl, fun d => h.e2 (done_of_set d (by decide)), fun d => h.e4 (done_of_set d (by decide)), fun d => h.e5 (done_of_set d (by decide)), fun d => h.e6 (done_of_set d (by decide)), fun d => h.x0 (undone_of_set d), fun d d' => h.x1 (done_of_set d (by decide)) (undone_of_set d'), fun d => h.x2 (done_of_set d (by decide))⟩

theorem LyB.s2 (h : LyB W tb jj cv av ps listed u45 u46 u47 u48 u49 u50 u51 w') : LyB W tb jj cv av ps (listed.setIfInBounds 2 true) u45 u46 (.slice av ps.length cv) u48 u49 u50 u51 w' :=
  ⟨fun d => h.e0 (done_of_set d (by decide)), fun d => h.e1 (done_of_set d (by decide)), fun _ => rfl, fun d => h.e4 (done_of_set d (by decide)), fun d => h.e5 (done_of_set d (by decide)), fun d => h.e6 (done_of_set d (by decide)), fun d => h.x0 (undone_of_set d), fun d d' => h.x1 (done_of_set d (by decide)) (undone_of_set d'), fun d => h.x2 (done_of_set d (by decide))⟩

theorem LyB.s3 {xf : Value} {w2 : World} (h : LyB W tb jj cv av ps listed u45 u46 u47 u48 u49 u50 u51 w') (hi : 3 < listed.size) (hn : done listed 7 = false) (hS : LySet W w2 tb (.slice av ps.length cv) xf ps) : LyB W tb jj cv av ps (listed.setIfInBounds 3 true) u45 u46 u47 (xf) u49 u50 u51 w2 :=
  ⟨fun d => h.e0 (done_of_set d (by decide)), fun d => h.e1 (done_of_set d (by decide)), fun d => h.e2 (done_of_set d (by decide)), fun d => h.e4 (done_of_set d (by decide)), fun d => h.e5 (done_of_set d (by decide)), fun d => h.e6 (done_of_set d (by decide)), fun D => absurd D (by rw [done_set_same hi]; decide), fun _ _ => hS, fun D => absurd (done_of_set D (by decide)) (by rw [hn]; decide)⟩

theorem LyB.s4 (h : LyB W tb jj cv av ps listed u45 u46 u47 u48 u49 u50 u51 w') : LyB W tb jj cv av ps (listed.setIfInBounds 4 true) u45 u46 u47 u48 (.pointer (some ⟨tb, 0, none⟩)) u50 u51 w' :=
  ⟨fun d => h.e0 (done_of_set d (by decide)), fun d => h.e1 (done_of_set d (by decide)), fun d => h.e2 (done_of_set d (by decide)), fun _ => rfl, fun d => h.e5 (done_of_set d (by decide)), fun d => h.e6 (done_of_set d (by decide)), fun d => h.x0 (undone_of_set d), fun d d' => h.x1 (done_of_set d (by decide)) (undone_of_set d'), fun d => h.x2 (done_of_set d (by decide))⟩

theorem LyB.s5 (h : LyB W tb jj cv av ps listed u45 u46 u47 u48 u49 u50 u51 w') : LyB W tb jj cv av ps (listed.setIfInBounds 5 true) u45 u46 u47 u48 u49 (.pointer (some ⟨tb, 0, none⟩)) u51 w' :=
  ⟨fun d => h.e0 (done_of_set d (by decide)), fun d => h.e1 (done_of_set d (by decide)), fun d => h.e2 (done_of_set d (by decide)), fun d => h.e4 (done_of_set d (by decide)), fun _ => rfl, fun d => h.e6 (done_of_set d (by decide)), fun d => h.x0 (undone_of_set d), fun d d' => h.x1 (done_of_set d (by decide)) (undone_of_set d'), fun d => h.x2 (done_of_set d (by decide))⟩

theorem LyB.s6 (h : LyB W tb jj cv av ps listed u45 u46 u47 u48 u49 u50 u51 w') : LyB W tb jj cv av ps (listed.setIfInBounds 6 true) u45 u46 u47 u48 u49 u50 (.pointer (some ⟨tb, jj, none⟩)) w' :=
  ⟨fun d => h.e0 (done_of_set d (by decide)), fun d => h.e1 (done_of_set d (by decide)), fun d => h.e2 (done_of_set d (by decide)), fun d => h.e4 (done_of_set d (by decide)), fun d => h.e5 (done_of_set d (by decide)), fun _ => rfl, fun d => h.x0 (undone_of_set d), fun d d' => h.x1 (done_of_set d (by decide)) (undone_of_set d'), fun d => h.x2 (done_of_set d (by decide))⟩

theorem LyB.s7 {w2 : World} (h : LyB W tb jj cv av ps listed u45 u46 u47 u48 u49 u50 u51 w') (hi : 7 < listed.size) (hp : done listed 3 = true) (hS : ∃ w5, LySet W w5 tb (.slice av ps.length cv) u48 ps ∧ w2 = w5.setCell ⟨tb, jj, none⟩ u48) : LyB W tb jj cv av ps (listed.setIfInBounds 7 true) u45 u46 u47 u48 u49 u50 u51 w2 :=
  ⟨fun d => h.e0 (done_of_set d (by decide)), fun d => h.e1 (done_of_set d (by decide)), fun d => h.e2 (done_of_set d (by decide)), fun d => h.e4 (done_of_set d (by decide)), fun d => h.e5 (done_of_set d (by decide)), fun d => h.e6 (done_of_set d (by decide)), fun D => absurd (undone_of_set D) (by rw [hp]; decide), fun _ D => absurd D (by rw [done_set_same hi]; decide), fun _ => hS⟩

end

theorem arr16 (cs : Array Value) (h : cs.size = 16) : #[cs[0], cs[1], cs[2], cs[3], cs[4], cs[5], cs[6], cs[7], cs[8], cs[9], cs[10], cs[11], cs[12], cs[13], cs[14], cs[15]] = cs := by
  apply Array.ext
  · simp [h]
  · intro i h1 _
    simp at h1
    match i, h1 with
    | 0, _ => rfl
    | 1, _ => rfl
    | 2, _ => rfl
    | 3, _ => rfl
    | 4, _ => rfl
    | 5, _ => rfl
    | 6, _ => rfl
    | 7, _ => rfl
    | 8, _ => rfl
    | 9, _ => rfl
    | 10, _ => rfl
    | 11, _ => rfl
    | 12, _ => rfl
    | 13, _ => rfl
    | 14, _ => rfl
    | 15, _ => rfl
    | j + 16, h1 => exact absurd h1 (by omega)

theorem Try.infoSlice : (Try.prog.info? 57).map (fun i => i.size) = some 1 := by kernel_rfl

theorem index16 (w : World) (cs : Array Value) (k : Nat) (v : Value) (hk : k < 16) (h : cs[k]? = some v) : (Instr.index 58 (.agg cs) (.int .i64 (k : Nat))).run Try.prog w = .ok v w := by
  have h1 : (0 : Int) ≤ (k : Int) ∧ (k : Int) < 16 := by omega
  obtain ⟨i0, hi, hz⟩ := Option.map_eq_some_iff.1 Try.infoSlice
  simp [Instr.index, asIntOf, run_underlying Try.underlying58, h1, part, sizeOf, typeInfo, hi, hz, h]
  omega

set_option maxHeartbeats 2000000 in
set_option maxRecDepth 100000 in
theorem Lay_in (n : Nat) (hn : 5 ≤ n) (tb : Nat) (v : Value) (xs : List Silo.Smp) (cs : Array Value) (m : Nat → List Silo.Pt) (w : World) (hset : SetAt w (tb + 1) tb cs m) (hin : SmpIn w tb v xs) (hg : ∀ x ∈ xs, Silo.goodSmp x) (hl : ∀ s, s < 16 → (m s).length + xs.length ≤ 16777216) :
    CallsIn Fence.wide n Try.prog 21 #[.pointer (some ⟨tb, 0, none⟩), v] w fun e w' => e = .returned (.tuple #[]) ∧
      ∃ cs' m', SetAt w' (tb + 1) tb cs' m' ∧ (∀ s, s < 16 → Settled (m s ++ Silo.ser s xs) (m' s)) ∧ Fp (fun k => tb ≤ k) w w' := by
  obtain ⟨ad, c, rfl, hin'⟩ := hin
  have H : Hid _ := And.intro hset (And.intro hin' hg)
  have HL : Hid _ := hl
  have htl : tb < w.heap.size := heap_lt hset.block
  have hxl : xs.length ≤ 16777216 := by have := hl 0 (by omega); omega
  clear hset hin' hg hl
  refine callsIn_of_wp Try.func21 rfl trivial ?_ rfl
  simp only [Try.ntmps21, List.size_toArray, List.length_cons, List.length_nil, Nat.reduceAdd, Nat.reduceSub, Array.replicate_succ, Array.replicate_zero, List.push_toArray, List.append_toArray, List.nil_append, List.cons_append]
  gi_wp2_with fail
  gi_loopw [11] (fun iv wr => ∃ k : Nat, k ≤ xs.length ∧ iv = .int .i64 k ∧ Hid (∃ cs1, SetAt wr (tb + 1) tb cs1 (fun s => m s ++ Silo.ser s (xs.take k)) ∧ Fp (fun k => tb ≤ k) w wr)) (fun iv _ => xs.length - (intOf iv).toNat)
  case atStart => exact ⟨0, by omega, rfl, cs, by simpa [Silo.ser_nil] using H.out.1, Fp.refl _ _⟩
  case round =>
    obtain ⟨k, hk, rfl, HR⟩ := hrel
    by_cases hlt : k < xs.length
    · obtain ⟨b, off, hb⟩ : ∃ b off, ad = some ⟨b, off, none⟩ ∧ b < tb ∧ ∀ k (hk : k < xs.length),
          w.cell? ⟨b, off + k * 3, none⟩ = some (.int .i64 xs[k].s) ∧ w.cell? ⟨b, off + k * 3 + 1, none⟩ = some (.int .i64 xs[k].t) ∧ w.cell? ⟨b, off + k * 3 + 2, none⟩ = some (.int .u64 (xs[k].v : Nat)) := by
        rcases H.out.2.1 with h | h
        · rw [h] at hlt; simp at hlt
        · exact h
      obtain ⟨rfl, hbt, hcell⟩ := hb
      obtain ⟨c0, c1, c2⟩ := hcell k hlt
      obtain ⟨cs1, hset, hfp⟩ := HR.out
      have hbw : b < w.heap.size := by omega
      rw [← hfp.cell (p := ⟨b, off + k * 3, none⟩) hbw (fun h => by have : tb ≤ b := h; omega)] at c0
      rw [← hfp.cell (p := ⟨b, off + k * 3 + 1, none⟩) hbw (fun h => by have : tb ≤ b := h; omega)] at c1
      rw [← hfp.cell (p := ⟨b, off + k * 3 + 2, none⟩) hbw (fun h => by have : tb ≤ b := h; omega)] at c2
      obtain ⟨x, hx⟩ : ∃ x, xs[k] = x := ⟨_, rfl⟩
      rw [hx] at c0 c1 c2
      have hgx : Silo.goodSmp x := H.out.2.2 x (by rw [← hx]; exact List.getElem_mem _)
      obtain ⟨s, hs⟩ : ∃ s : Nat, x.s = (s : Int) := ⟨x.s.toNat, by have := hgx.1; omega⟩
      have hs16 : s < 16 := by have := hgx.2.1; omega
      rw [hs] at c0
      have hbr : b < wr.heap.size := Nat.lt_of_lt_of_le hbw hfp.size
      obtain ⟨vv, hvv, hrow⟩ := hset.row s hs16
      obtain ⟨a0, cp, rfl⟩ := ptsAt_form hrow
      obtain ⟨ps, hps⟩ : ∃ ps, m s ++ Silo.ser s (xs.take k) = ps := ⟨_, rfl⟩
      simp only [hps] at hvv hrow
      have hpl : ps.length ≤ 16777216 := by
        rw [← hps, List.length_append]
        have h1 := Silo.ser_length s (xs.take k)
        have h2 := HL.out s hs16
        simp only [List.length_take] at h1
        omega
      have HX : Hid _ := And.intro hset (And.intro hfp (And.intro hx (And.intro hgx (And.intro hs (And.intro hvv (And.intro hrow hps))))))
      have hblk := hset.block
      have hsz := hset.size
      have htr : tb < wr.heap.size := heap_lt hblk
      clear hset hfp hx hgx hs hcell HR hvv hrow hps
      have kN : (k : Int) < (xs.length : Int) := by omega
      have HBK : Hid _ := And.intro hblk hsz
      clear hblk hsz
      gi_wp2_with fail
      obtain ⟨W, hW⟩ : ∃ W, ((wr.alloc (.cells #[.int .i64 (s : Nat), .int .i64 x.t, .int .u64 (x.v : Nat)] 42)).alloc (.cells #[.int .i64 x.t, .int .u64 (x.v : Nat)] 71)) = W := ⟨_, rfl⟩
      obtain ⟨p, hp⟩ : ∃ p, wr.heap.size = p := ⟨_, rfl⟩
      rw [hW, hp]
      have hfW : Fp (fun _ => False) wr W := by rw [← hW]; exact Fp.trans' (Fp.alloc _ _ _) (Fp.alloc _ _ _)
      have hWs : W.heap.size = p + 2 := by rw [← hW, ← hp]; simp
      have k0 : W.cell? ⟨p, 0, none⟩ = some (.int .i64 (s : Nat)) := by rw [← hW, ← hp]; simp
      have hnb : W.heap[p + 1]? = some (.cells #[.int .i64 x.t, .int .u64 (x.v : Nat)] 71 (0, 0)) := by
        have := heap_new (wr.alloc (.cells #[.int .i64 (s : Nat), .int .i64 x.t, .int .u64 (x.v : Nat)] 42)) (.cells #[.int .i64 x.t, .int .u64 (x.v : Nat)] 71)
        rw [hW, show (wr.alloc (.cells #[.int .i64 (s : Nat), .int .i64 x.t, .int .u64 (x.v : Nat)] 42)).heap.size = wr.heap.size + 1 from by simp, hp] at this
        exact this
      have k1 : W.cell? ⟨p + 1, 0, none⟩ = some (.int .i64 x.t) := by simp [World.cell?, hnb]
      have k2 : W.cell? ⟨p + 1, 1, none⟩ = some (.int .u64 (x.v : Nat)) := by simp [World.cell?, hnb]
      clear hnb
      have hbW : W.heap[tb]? = some (.cells cs1 60 (0, 0)) := (hfW.block tb htr (fun h => h)).trans HBK.out.1
      have k3 : W.cell? ⟨tb, s, none⟩ = some (.slice a0 ps.length cp) := by simp [World.cell?, hbW, HX.out.2.2.2.2.2.1]
      have hrW : World.ptsAt W (tb + 1) (.slice a0 ps.length cp) ps := Fp.ownsRow hfW HX.out.2.2.2.2.2.2.1 (fun _ _ h => h)
      obtain ⟨W1, hW1⟩ : ∃ W1, W.drew.alloc (.cells #[.int .i64 x.t, .int .u64 (x.v : Nat)] 71) = W1 := ⟨_, rfl⟩
      have hfW1 : Fp (fun _ => False) W W1 := by rw [← hW1]; exact Fp.trans' (Fp.drew _ _) (Fp.alloc _ _ _)
      have hpt := pt_new W.drew ⟨x.t, x.v⟩ 71
      rw [hW1] at hpt
      obtain ⟨gn, cn, W2, hrn, hA⟩ := run_append_pt (W := W1) 57 (tb + 1) (.slice a0 ps.length cp) ps ⟨x.t, x.v⟩ (Fp.ownsRow hfW1 hrW (fun _ _ h => h)) ⟨W.heap.size, 0, none⟩ hpt (by omega) (by have := hfW1.size; omega)
      have hown : ∀ j, (.slice a0 ps.length cp : Value).ownBlock = some j → tb + 1 ≤ j ∧ j < p := fun j hj => by
        have := World.ownsRow.lt HX.out.2.2.2.2.2.2.1 j hj
        omega
      have hp1 : p < W.heap.size := by omega
      have htW : tb < W.heap.size := by omega
      have k4 : W1.cell? ⟨p, 0, none⟩ = some (.int .i64 (s : Nat)) := by rw [hfW1.cell (p := ⟨p, 0, none⟩) hp1 (fun h => h)]; exact k0
      have k5 : W1.cell? ⟨tb, s, none⟩ = some (.slice a0 ps.length cp) := by rw [hfW1.cell (p := ⟨tb, s, none⟩) htW (fun h => h)]; exact k3
      have hsz1 := hfW1.size
      have k6 : W2.cell? ⟨p, 0, none⟩ = some (.int .i64 (s : Nat)) := by
        rw [hA.foot.cell (p := ⟨p, 0, none⟩) (show p < W1.heap.size by omega) (fun h => by have := hown p h; omega)]; exact k4
      have k7 : W2.cell? ⟨tb, s, none⟩ = some (.slice a0 ps.length cp) := by
        rw [hA.foot.cell (p := ⟨tb, s, none⟩) (show tb < W1.heap.size by omega) (fun h => by have := hown tb h; omega)]; exact k5
      have k8 : W2.frozen? ⟨tb, s, none⟩ = false := by
        rw [hA.foot.frozen (p := ⟨tb, s, none⟩) (show tb < W1.heap.size by omega) (fun h => by have := hown tb h; omega), hfW1.frozen (p := ⟨tb, s, none⟩) htW (fun h => h)]
        simp [World.frozen?, hbW]
      have hW2b : W2.heap[tb]? = some (.cells cs1 60 (0, 0)) := (hA.foot.block tb (by omega) (fun h => by have := hown tb h; omega)).trans ((hfW1.block tb htW (fun h => h)).trans hbW)
      have HW : Hid _ := And.intro hW (And.intro hp (And.intro hfW (And.intro hfW1 (And.intro hA (And.intro hown (And.intro hW2b hWs))))))
      have HW1 : Hid _ := hW1
      have HRn : Hid _ := hrn
      clear hW hp hfW hfW1 hA hown hW2b hW1 hrn hWs hbW hrW hpt
      have i1 : (0 : Int) ≤ (s : Int) := by omega
      have i2 : (s : Int) < 16 := by omega
      refine wpIn_cutQ (fun a' w' => (w' = W2.setCell ⟨tb, s, none⟩ (.slice (some ⟨gn, 0, none⟩) (ps.length + 1) cn)) ∧ a' = { tmps := #[.pointer (some ⟨tb, 0, none⟩), .slice (some ⟨b, off, none⟩) xs.length c, undef, undef, undef, .pointer (some ⟨p, 0, none⟩), .pointer (some ⟨p + 1, 0, none⟩), undef, undef, .slice (some ⟨b, off, none⟩) xs.length c, .int .i64 (xs.length : Nat), .int .i64 (k : Nat), .bool true, .pointer (some ⟨b, off + k * 3, none⟩), .agg #[.int .i64 (s : Nat), .int .i64 x.t, .int .u64 (x.v : Nat)], .pointer (some ⟨p, 1, none⟩), .int .i64 x.t, .pointer (some ⟨p, 2, none⟩), .int .u64 (x.v : Nat), .agg #[.int .i64 x.t, .int .u64 (x.v : Nat)], .pointer (some ⟨tb, 0, none⟩), .pointer (some ⟨p, 0, none⟩), .int .i64 (s : Nat), .pointer (some ⟨tb, 0, none⟩), .pointer (some ⟨p, 0, none⟩), .int .i64 (s : Nat), .pointer (some ⟨tb, 0, none⟩), .pointer (some ⟨tb, 0, none⟩), .pointer (some ⟨tb, s, none⟩), .slice a0 ps.length cp, .agg #[.int .i64 x.t, .int .u64 (x.v : Nat)], .slice (some ⟨W.heap.size, 0, none⟩) 1 1, .slice (some ⟨gn, 0, none⟩) (ps.length + 1) cn, .pointer (some ⟨tb, 0, none⟩), .pointer (some ⟨tb, 0, none⟩), .pointer (some ⟨tb, s, none⟩), u36, undef, undef, undef, undef, undef, undef, undef, undef, undef, undef, undef, undef, undef, undef, undef, undef], defers := [] }) ?r6 ?k6
      case r6 =>
        refine wpIn_region_inv (by kernel_rfl) (by kernel_rfl) (fun listed a' w' => ∃ u20 u21 u22 u23 u24 u25 u26 u27 u28 u29 u30 u31 u32 u33 u34 u35 : Value, a' = { tmps := #[.pointer (some ⟨tb, 0, none⟩), .slice (some ⟨b, off, none⟩) xs.length c, undef, undef, undef, .pointer (some ⟨p, 0, none⟩), .pointer (some ⟨p + 1, 0, none⟩), undef, undef, .slice (some ⟨b, off, none⟩) xs.length c, .int .i64 (xs.length : Nat), .int .i64 (k : Nat), .bool true, .pointer (some ⟨b, off + k * 3, none⟩), .agg #[.int .i64 (s : Nat), .int .i64 x.t, .int .u64 (x.v : Nat)], .pointer (some ⟨p, 1, none⟩), .int .i64 x.t, .pointer (some ⟨p, 2, none⟩), .int .u64 (x.v : Nat), .agg #[.int .i64 x.t, .int .u64 (x.v : Nat)], u20, u21, u22, u23, u24, u25, u26, u27, u28, u29, u30, u31, u32, u33, u34, u35, u36, undef, undef, undef, undef, undef, undef, undef, undef, undef, undef, undef, undef, undef, undef, undef, undef], defers := [] } ∧ Hid (LyA W W1 W2 tb p s ps.length cp gn cn x a0 listed u20 u21 u22 u23 u24 u25 u26 u27 u28 u29 u30 u31 u32 u33 u34 u35 w')) ?s0 ?send ?sstep
        case s0 => exact ⟨_, _, _, _, _, _, _, _, _, _, _, _, _, _, _, _, rfl, LyA.start (rfl)⟩
        case send =>
          rintro listed a' w' hall ⟨u20, u21, u22, u23, u24, u25, u26, u27, u28, u29, u30, u31, u32, u33, u34, u35, rfl, HI⟩
          obtain rfl := HI.out.e0 (hall 0 (by decide))
          obtain rfl := HI.out.e1 (hall 1 (by decide))
          obtain rfl := HI.out.e2 (hall 2 (by decide))
          obtain rfl := HI.out.e3 (hall 3 (by decide))
          obtain rfl := HI.out.e4 (hall 4 (by decide))
          obtain rfl := HI.out.e5 (hall 5 (by decide))
          obtain rfl := HI.out.e6 (hall 6 (by decide))
          obtain rfl := HI.out.e7 (hall 7 (by decide))
          obtain rfl := HI.out.e8 (hall 8 (by decide))
          obtain rfl := HI.out.e9 (hall 9 (by decide))
          obtain rfl := HI.out.e10 (hall 10 (by decide))
          obtain rfl := HI.out.e11 (hall 11 (by decide))
          obtain rfl := HI.out.e12 (hall 12 (by decide))
          obtain rfl := HI.out.e13 (hall 13 (by decide))
          obtain rfl := HI.out.e14 (hall 14 (by decide))
          obtain rfl := HI.out.e15 (hall 15 (by decide))
          have hw := HI.out.x3 (hall 16 (by decide))
          exact ⟨hw, rfl⟩
        case sstep =>
          rintro listed a' w' i o ho hi hd hdep hcl ⟨u20, u21, u22, u23, u24, u25, u26, u27, u28, u29, u30, u31, u32, u33, u34, u35, rfl, HI⟩ K hK
          match i, ho with
          | 0, ho =>
            cases ho
            go_simp
            refine hK _ _ ⟨_, _, _, _, _, _, _, _, _, _, _, _, _, _, _, _, rfl, ?_⟩
            exact HI.out.s0
          | 1, ho =>
            cases ho
            go_simp
            refine hK _ _ ⟨_, _, _, _, _, _, _, _, _, _, _, _, _, _, _, _, rfl, ?_⟩
            exact HI.out.s1
          | 2, ho =>
            cases ho
            have d1 := hdep ⟨1, .data⟩ (by simp) rfl
            obtain rfl := HI.out.e1 d1
            have q16 : done listed 16 = false := nd hcl (j := 16) rfl ⟨2, .phase⟩ (by simp) rfl hd
            cases hd11 : done listed 11
            · have hw := HI.out.x0 hd11
              subst hw
              go_simp
              refine hK _ _ ⟨_, _, _, _, _, _, _, _, _, _, _, _, _, _, _, _, rfl, ?_⟩
              exact HI.out.s2
            · skip
              cases hd12 : done listed 12
              · have hw := HI.out.x1 hd11 hd12
                subst hw
                go_simp
                refine hK _ _ ⟨_, _, _, _, _, _, _, _, _, _, _, _, _, _, _, _, rfl, ?_⟩
                exact HI.out.s2
              · skip
                have hw := HI.out.x2 hd12 q16
                subst hw
                go_simp
                refine hK _ _ ⟨_, _, _, _, _, _, _, _, _, _, _, _, _, _, _, _, rfl, ?_⟩
                exact HI.out.s2
          | 3, ho =>
            cases ho
            go_simp
            refine hK _ _ ⟨_, _, _, _, _, _, _, _, _, _, _, _, _, _, _, _, rfl, ?_⟩
            exact HI.out.s3
          | 4, ho =>
            cases ho
            go_simp
            refine hK _ _ ⟨_, _, _, _, _, _, _, _, _, _, _, _, _, _, _, _, rfl, ?_⟩
            exact HI.out.s4
          | 5, ho =>
            cases ho
            have d4 := hdep ⟨4, .data⟩ (by simp) rfl
            obtain rfl := HI.out.e4 d4
            have q8 : done listed 8 = false := nd hcl (j := 8) rfl ⟨5, .data⟩ (by simp) rfl hd
            have q9 : done listed 9 = false := nd hcl (j := 9) rfl ⟨8, .data⟩ (by simp) rfl q8
            have q12 : done listed 12 = false := nd hcl (j := 12) rfl ⟨9, .data⟩ (by simp) rfl q9
            cases hd11 : done listed 11
            · have hw := HI.out.x0 hd11
              subst hw
              go_simp
              refine hK _ _ ⟨_, _, _, _, _, _, _, _, _, _, _, _, _, _, _, _, rfl, ?_⟩
              exact HI.out.s5
            · skip
              have hw := HI.out.x1 hd11 q12
              subst hw
              go_simp
              refine hK _ _ ⟨_, _, _, _, _, _, _, _, _, _, _, _, _, _, _, _, rfl, ?_⟩
              exact HI.out.s5
          | 6, ho =>
            cases ho
            have d3 := hdep ⟨3, .data⟩ (by simp) rfl
            obtain rfl := HI.out.e3 d3
            go_simp
            refine hK _ _ ⟨_, _, _, _, _, _, _, _, _, _, _, _, _, _, _, _, rfl, ?_⟩
            exact HI.out.s6
          | 7, ho =>
            cases ho
            have d6 := hdep ⟨6, .data⟩ (by simp) rfl
            obtain rfl := HI.out.e6 d6
            go_simp
            refine hK _ _ ⟨_, _, _, _, _, _, _, _, _, _, _, _, _, _, _, _, rfl, ?_⟩
            exact HI.out.s7
          | 8, ho =>
            cases ho
            have d7 := hdep ⟨7, .data⟩ (by simp) rfl
            obtain rfl := HI.out.e7 d7
            have d5 := hdep ⟨5, .data⟩ (by simp) rfl
            obtain rfl := HI.out.e5 d5
            go_simp
            refine hK _ _ ⟨_, _, _, _, _, _, _, _, _, _, _, _, _, _, _, _, rfl, ?_⟩
            exact HI.out.s8
          | 9, ho =>
            cases ho
            have d8 := hdep ⟨8, .data⟩ (by simp) rfl
            obtain rfl := HI.out.e8 d8
            have q12 : done listed 12 = false := nd hcl (j := 12) rfl ⟨9, .data⟩ (by simp) rfl hd
            cases hd11 : done listed 11
            · have hw := HI.out.x0 hd11
              subst hw
              go_simp
              refine hK _ _ ⟨_, _, _, _, _, _, _, _, _, _, _, _, _, _, _, _, rfl, ?_⟩
              exact HI.out.s9
            · skip
              have hw := HI.out.x1 hd11 q12
              subst hw
              go_simp
              refine hK _ _ ⟨_, _, _, _, _, _, _, _, _, _, _, _, _, _, _, _, rfl, ?_⟩
              exact HI.out.s9
          | 10, ho =>
            cases ho
            have q11 : done listed 11 = false := nd hcl (j := 11) rfl ⟨10, .data⟩ (by simp) rfl hd
            have hw := HI.out.x0 q11
            subst hw
            go_simp
            refine hK _ _ ⟨_, _, _, _, _, _, _, _, _, _, _, _, _, _, _, _, rfl, ?_⟩
            exact HI.out.s10
          | 11, ho =>
            cases ho
            have d10 := hdep ⟨10, .data⟩ (by simp) rfl
            obtain rfl := HI.out.e10 d10
            have hw := HI.out.x0 hd
            have q12 : done listed 12 = false := nd hcl (j := 12) rfl ⟨11, .data⟩ (by simp) rfl hd
            have hn1 := q12
            have q16 : done listed 16 = false := nd hcl (j := 16) rfl ⟨11, .phase⟩ (by simp) rfl hd
            have hn2 := q16
            subst hw
            go_simp
            refine hK _ _ ⟨_, _, _, _, _, _, _, _, _, _, _, _, _, _, _, _, rfl, ?_⟩
            exact HI.out.s11 hi hn1 hn2 (HW1.out)
          | 12, ho =>
            cases ho
            have d9 := hdep ⟨9, .data⟩ (by simp) rfl
            obtain rfl := HI.out.e9 d9
            have d11 := hdep ⟨11, .data⟩ (by simp) rfl
            obtain rfl := HI.out.e11 d11
            have hp0 := hdep ⟨11, .data⟩ (by simp) rfl
            have hw := HI.out.x1 hp0 hd
            have q16 : done listed 16 = false := nd hcl (j := 16) rfl ⟨12, .data⟩ (by simp) rfl hd
            have hn2 := q16
            subst hw
            refine opIn_append rfl _ _ _ rfl _ _ _ _ rfl rfl HRn.out ?_
            refine hK _ _ ⟨_, _, _, _, _, _, _, _, _, _, _, _, _, _, _, _, rfl, ?_⟩
            exact HI.out.s12 hi hp0 hn2 (rfl)
          | 13, ho =>
            cases ho
            have d0 := hdep ⟨0, .data⟩ (by simp) rfl
            obtain rfl := HI.out.e0 d0
            go_simp
            refine hK _ _ ⟨_, _, _, _, _, _, _, _, _, _, _, _, _, _, _, _, rfl, ?_⟩
            exact HI.out.s13
          | 14, ho =>
            cases ho
            have d13 := hdep ⟨13, .data⟩ (by simp) rfl
            obtain rfl := HI.out.e13 d13
            go_simp
            refine hK _ _ ⟨_, _, _, _, _, _, _, _, _, _, _, _, _, _, _, _, rfl, ?_⟩
            exact HI.out.s14
          | 15, ho =>
            cases ho
            have d14 := hdep ⟨14, .data⟩ (by simp) rfl
            obtain rfl := HI.out.e14 d14
            have d2 := hdep ⟨2, .data⟩ (by simp) rfl
            obtain rfl := HI.out.e2 d2
            go_simp
            refine hK _ _ ⟨_, _, _, _, _, _, _, _, _, _, _, _, _, _, _, _, rfl, ?_⟩
            exact HI.out.s15
          | 16, ho =>
            cases ho
            have d15 := hdep ⟨15, .data⟩ (by simp) rfl
            obtain rfl := HI.out.e15 d15
            have d12 := hdep ⟨12, .data⟩ (by simp) rfl
            obtain rfl := HI.out.e12 d12
            have hp0 := hdep ⟨11, .phase⟩ (by simp) rfl
            have hp1 := hdep ⟨12, .data⟩ (by simp) rfl
            have hw := HI.out.x2 hp1 hd
            subst hw
            go_simp
            refine hK _ _ ⟨_, _, _, _, _, _, _, _, _, _, _, _, _, _, _, _, rfl, ?_⟩
            exact HI.out.s16 hi hp0 hp1 (rfl)
      rintro a' w6 ⟨h6, rfl⟩
      dsimp only
      have H6 : Hid _ := h6
      clear h6 k0 k1 k2 k3 k4 k5 k6 k7 k8 c0 c1 c2
      gi_wp2
      go_roundw
      case rel =>
        obtain ⟨g1, g2, g3, g4, g5, g6, g7, g8⟩ := HX.out
        obtain ⟨z1, z2, z3, z4, z5, z6, z7, z8⟩ := HW.out
        have e6 := H6.out
        have hF1 : Fp (fun k => (.slice a0 ps.length cp : Value).ownBlock = some k ∨ k = tb) wr w6 := by
          rw [e6]
          exact (((z3.trans z4 (fun _ h => h) (fun _ _ h => h)).trans z5.foot (U := fun k => (.slice a0 ps.length cp : Value).ownBlock = some k ∨ k = tb) (fun _ h => h.elim) (fun _ _ h => .inl h))).trans (Fp.setCell (S := fun k => k = tb) _ _ _ rfl) (fun _ h => h) (fun _ _ h => .inr h)
        have hgn : tb + 1 ≤ gn := (World.ownsRow.lt z5.row gn rfl).1
        have hput := g1.put hs16 _ (.slice (some ⟨gn, 0, none⟩) (ps.length + 1) cn) (ps ++ [⟨x.t, x.v⟩]) g6 hF1 (by rw [e6]; exact heap_set z7 _) (by
          rw [e6]
          have hh := Fp.ownsRow (Fp.setCell (S := fun k => k = tb) W2 ⟨tb, s, none⟩ (.slice (some ⟨gn, 0, none⟩) (ps.length + 1) cn) rfl) z5.row (fun k hk e => by simp [Value.ownBlock] at hk; omega)
          exact hh) (fun j hj => by
          simp only [Value.ownBlock, Option.some.injEq] at hj
          subst hj
          rcases z5.lies with h | h
          · exact .inl h
          · refine .inr ?_
            have := z4.size; have := z3.size; omega)
        have hput2 := hput.congr (m' := fun j => m j ++ Silo.ser j (xs.take (k + 1))) (by
          intro j
          rw [List.take_succ_eq_append_getElem hlt, Silo.ser_append, g3]
          by_cases c : j = s
          · subst c
            rw [if_pos rfl, Silo.ser_same _ _ g5, ← g8, List.append_assoc]
          · rw [if_neg c, Silo.ser_other _ _ (by rw [g5]; omega), List.append_nil])
        refine ⟨k + 1, by omega, by go_num, _, hput2, g2.trans hF1 (fun _ h => h) (fun j hj h => ?_)⟩
        rcases h with h | h
        · have := z6 j h; omega
        · omega
      case measure => simp [intOf]; omega
    · obtain rfl : k = xs.length := by omega
      obtain ⟨cs1, hset, hfp⟩ := HR.out
      rw [List.take_length] at hset
      have hcz := hset.size
      have q0 : wr.cell? ⟨tb, 0, none⟩ = some cs1[0] := by simp [World.cell?, hset.block, hcz]
      have q1 : wr.cell? ⟨tb, 1, none⟩ = some cs1[1] := by simp [World.cell?, hset.block, hcz]
      have q2 : wr.cell? ⟨tb, 2, none⟩ = some cs1[2] := by simp [World.cell?, hset.block, hcz]
      have q3 : wr.cell? ⟨tb, 3, none⟩ = some cs1[3] := by simp [World.cell?, hset.block, hcz]
      have q4 : wr.cell? ⟨tb, 4, none⟩ = some cs1[4] := by simp [World.cell?, hset.block, hcz]
      have q5 : wr.cell? ⟨tb, 5, none⟩ = some cs1[5] := by simp [World.cell?, hset.block, hcz]
      have q6 : wr.cell? ⟨tb, 6, none⟩ = some cs1[6] := by simp [World.cell?, hset.block, hcz]
      have q7 : wr.cell? ⟨tb, 7, none⟩ = some cs1[7] := by simp [World.cell?, hset.block, hcz]
      have q8 : wr.cell? ⟨tb, 8, none⟩ = some cs1[8] := by simp [World.cell?, hset.block, hcz]
      have q9 : wr.cell? ⟨tb, 9, none⟩ = some cs1[9] := by simp [World.cell?, hset.block, hcz]
      have q10 : wr.cell? ⟨tb, 10, none⟩ = some cs1[10] := by simp [World.cell?, hset.block, hcz]
      have q11 : wr.cell? ⟨tb, 11, none⟩ = some cs1[11] := by simp [World.cell?, hset.block, hcz]
      have q12 : wr.cell? ⟨tb, 12, none⟩ = some cs1[12] := by simp [World.cell?, hset.block, hcz]
      have q13 : wr.cell? ⟨tb, 13, none⟩ = some cs1[13] := by simp [World.cell?, hset.block, hcz]
      have q14 : wr.cell? ⟨tb, 14, none⟩ = some cs1[14] := by simp [World.cell?, hset.block, hcz]
      have q15 : wr.cell? ⟨tb, 15, none⟩ = some cs1[15] := by simp [World.cell?, hset.block, hcz]
      have h16 := arr16 cs1 hcz
      have HS : Hid _ := And.intro hset hfp
      clear hset hfp HR
      gi_wp2_with fail
      clear h16 q0 q1 q2 q3 q4 q5 q6 q7 q8 q9 q10 q11 q12 q13 q14 q15
      gi_loopw [7, 8, 41] (fun _ _ iv wr => ∃ k : Nat, k ≤ 16 ∧ iv = .int .i64 k ∧ Hid (∃ cs2 m2, SetAt wr (tb + 1) tb cs2 m2 ∧ (∀ j, j < k → Settled (m j ++ Silo.ser j xs) (m2 j)) ∧ (∀ j, k ≤ j → m2 j = m j ++ Silo.ser j xs ∧ cs2[j]? = cs1[j]?) ∧ Fp (fun k => tb ≤ k) w wr)) (fun _ _ iv _ => 16 - (intOf iv).toNat)
      case atStart => exact ⟨0, by omega, rfl, cs1, _, HS.out.1, fun j h => by omega, fun j _ => ⟨rfl, rfl⟩, HS.out.2⟩
      case round =>
        obtain ⟨jj, hk, rfl, HQ⟩ := hrel
        by_cases hlt : jj < 16
        · obtain ⟨cs2, m2, hset, h1, h2, hfp⟩ := HQ.out
          obtain ⟨v, hv, hrow⟩ := hset.row jj hlt
          obtain ⟨av, cv, rfl⟩ := ptsAt_form hrow
          rw [(h2 jj (Nat.le_refl _)).1] at hrow hv
          have hv1 : cs1[jj]? = some (.slice av (m jj ++ Silo.ser jj xs).length cv) := by rw [← (h2 jj (Nat.le_refl _)).2]; exact hv
          obtain ⟨ps, hps⟩ : ∃ ps, m jj ++ Silo.ser jj xs = ps := ⟨_, rfl⟩
          rw [hps] at hrow hv hv1
          have hpl : ps.length ≤ 1099511627776 := by
            rw [← hps, List.length_append]
            have := Silo.ser_length jj xs
            have := HL.out jj hlt
            omega
          have hblk := hset.block
          have htr : tb < wr.heap.size := heap_lt hblk
          have hown : (.slice av ps.length cv : Value).ownBlock ≠ some tb := fun h => by have := (World.ownsRow.lt hrow tb h).1; omega
          have HZ : Hid (tb < wr.heap.size ∧ (.slice av ps.length cv : Value).ownBlock ≠ some tb ∧ wr.cell? ⟨tb, jj, none⟩ = some (.slice av ps.length cv) ∧ wr.frozen? ⟨tb, jj, none⟩ = false) := ⟨htr, hown, by simp [World.cell?, hblk, hv], by simp [World.frozen?, hblk]⟩
          have HV : Hid (World.ptsAt wr.drew (tb + 1) (.slice av ps.length cv) ps ∧ ps.length ≤ 1099511627776) := ⟨hrow, hpl⟩
          have HX : Hid _ := And.intro hset (And.intro h1 (And.intro h2 (And.intro hfp (And.intro hv (And.intro hrow hps)))))
          clear hset h1 h2 hfp hv hrow hps hblk hown hpl
          have i1 : (0 : Int) ≤ (jj : Int) := by omega
          have i2 : (jj : Int) < 16 := by omega
          have hix := index16 wr cs1 jj _ hlt hv1
          gi_wp2_with fail
          refine wpIn_cutQ (fun a' w' => ∃ u48, (∃ w5, LySet wr w5 tb (.slice av ps.length cv) u48 ps ∧ w' = w5.setCell ⟨tb, jj, none⟩ u48) ∧ a' = { tmps := #[.pointer (some ⟨tb, 0, none⟩), .slice ad xs.length c, undef, undef, undef, u5, u6, .int .i64 (jj : Nat), .slice av ps.length cv, .slice ad xs.length c, .int .i64 (xs.length : Nat), .int .i64 (xs.length : Nat), .bool false, u13, u14, u15, u16, u17, u18, u19, u20, u21, u22, u23, u24, u25, u26, u27, u28, u29, u30, u31, u32, u33, u34, u35, u36, .pointer (some ⟨tb, 0, none⟩), .pointer (some ⟨tb, 0, none⟩), .pointer (some ⟨tb, 0, none⟩), .agg cs1, .int .i64 (jj : Nat), .bool true, .int .i64 (jj : Nat), .slice av ps.length cv, .pointer (some ⟨tb, 0, none⟩), .int .i64 (jj : Nat), .slice av ps.length cv, u48, .pointer (some ⟨tb, 0, none⟩), .pointer (some ⟨tb, 0, none⟩), .pointer (some ⟨tb, jj, none⟩), u52], defers := [] }) ?r9 ?k9
          case r9 =>
            refine wpIn_region_inv (by kernel_rfl) (by kernel_rfl) (fun listed a' w' => ∃ u45 u46 u47 u48 u49 u50 u51 : Value, a' = { tmps := #[.pointer (some ⟨tb, 0, none⟩), .slice ad xs.length c, undef, undef, undef, u5, u6, .int .i64 (jj : Nat), .slice av ps.length cv, .slice ad xs.length c, .int .i64 (xs.length : Nat), .int .i64 (xs.length : Nat), .bool false, u13, u14, u15, u16, u17, u18, u19, u20, u21, u22, u23, u24, u25, u26, u27, u28, u29, u30, u31, u32, u33, u34, u35, u36, .pointer (some ⟨tb, 0, none⟩), .pointer (some ⟨tb, 0, none⟩), .pointer (some ⟨tb, 0, none⟩), .agg cs1, .int .i64 (jj : Nat), .bool true, .int .i64 (jj : Nat), .slice av ps.length cv, u45, u46, u47, u48, u49, u50, u51, u52], defers := [] } ∧ Hid (LyB wr tb jj cv av ps listed u45 u46 u47 u48 u49 u50 u51 w')) ?r0 ?rend ?rstep
            case r0 => exact ⟨_, _, _, _, _, _, _, rfl, LyB.start (rfl)⟩
            case rend =>
              rintro listed a' w' hall ⟨u45, u46, u47, u48, u49, u50, u51, rfl, HI⟩
              obtain rfl := HI.out.e0 (hall 0 (by decide))
              obtain rfl := HI.out.e1 (hall 1 (by decide))
              obtain rfl := HI.out.e2 (hall 2 (by decide))
              obtain rfl := HI.out.e4 (hall 4 (by decide))
              obtain rfl := HI.out.e5 (hall 5 (by decide))
              obtain rfl := HI.out.e6 (hall 6 (by decide))
              have hw := HI.out.x2 (hall 7 (by decide))
              exact ⟨_, hw, rfl⟩
            case rstep =>
              rintro listed a' w' i o ho hi hd hdep hcl ⟨u45, u46, u47, u48, u49, u50, u51, rfl, HI⟩ K hK
              match i, ho with
              | 0, ho =>
                cases ho
                go_simp
                refine hK _ _ ⟨_, _, _, _, _, _, _, rfl, ?_⟩
                exact HI.out.s0
              | 1, ho =>
                cases ho
                go_simp
                refine hK _ _ ⟨_, _, _, _, _, _, _, rfl, ?_⟩
                exact HI.out.s1
              | 2, ho =>
                cases ho
                go_simp
                refine hK _ _ ⟨_, _, _, _, _, _, _, rfl, ?_⟩
                exact HI.out.s2
              | 3, ho =>
                cases ho
                have d2 := hdep ⟨2, .data⟩ (by simp) rfl
                obtain rfl := HI.out.e2 d2
                have hw := HI.out.x0 hd
                have q7 : done listed 7 = false := nd hcl (j := 7) rfl ⟨3, .data⟩ (by simp) rfl hd
                have hn := q7
                subst hw
                go_simp
                refine ⟨trivial, fun _ => by omega, (callsIn_wide.2 (settled_row (tb + 1) (.slice av ps.length cv) ps wr.drew HV.out.1 HV.out.2)).mono ?_⟩
                rintro e w5 ⟨v5, rs5, rfl, h51, h52, h53, h54⟩
                refine hK _ _ ⟨_, _, _, _, _, _, _, rfl, ?_⟩
                exact HI.out.s3 hi hn (⟨rs5, h51, h52, h53, (Fp.drew _ wr).trans' h54⟩)
              | 4, ho =>
                cases ho
                have d0 := hdep ⟨0, .data⟩ (by simp) rfl
                obtain rfl := HI.out.e0 d0
                go_simp
                refine hK _ _ ⟨_, _, _, _, _, _, _, rfl, ?_⟩
                exact HI.out.s4
              | 5, ho =>
                cases ho
                have d4 := hdep ⟨4, .data⟩ (by simp) rfl
                obtain rfl := HI.out.e4 d4
                go_simp
                refine hK _ _ ⟨_, _, _, _, _, _, _, rfl, ?_⟩
                exact HI.out.s5
              | 6, ho =>
                cases ho
                have d5 := hdep ⟨5, .data⟩ (by simp) rfl
                obtain rfl := HI.out.e5 d5
                have d1 := hdep ⟨1, .data⟩ (by simp) rfl
                obtain rfl := HI.out.e1 d1
                go_simp
                refine hK _ _ ⟨_, _, _, _, _, _, _, rfl, ?_⟩
                exact HI.out.s6
              | 7, ho =>
                cases ho
                have d6 := hdep ⟨6, .data⟩ (by simp) rfl
                obtain rfl := HI.out.e6 d6
                have hp := hdep ⟨3, .data⟩ (by simp) rfl
                have hw := HI.out.x1 hp hd
                have hc5 := LyBa hw HZ.out
                have hz5 := LyBz hw HZ.out
                obtain ⟨a9, n9, c9, rfl⟩ := LyBf hw
                go_simp
                refine hK _ _ ⟨_, _, _, _, _, _, _, rfl, ?_⟩
                exact HI.out.s7 hi hp (⟨_, hw, rfl⟩)
          rintro a' w6 ⟨v6, h6, rfl⟩
          dsimp only
          have H6 : Hid _ := h6
          clear h6
          gi_wp2
          go_roundw
          case rel =>
            obtain ⟨g1, g2, g3, g4, g5, g6, g7⟩ := HX.out
            obtain ⟨w5, ⟨rs, r1, r2, r3, r4⟩, e6⟩ := H6.out
            have hF1 : Fp (fun j => (.slice av ps.length cv : Value).ownBlock = some j ∨ j = tb) wr w6 := by
              rw [e6]
              exact (r4.mono (T := fun j => (.slice av ps.length cv : Value).ownBlock = some j ∨ j = tb) (fun _ _ h => .inl h)).trans (Fp.setCell (S := fun j => j = tb) _ _ _ rfl) (fun _ h => h) (fun _ _ h => .inr h)
            have hob : ∀ j, (.slice av ps.length cv : Value).ownBlock = some j → tb + 1 ≤ j := fun j hj => (World.ownsRow.lt g6 j hj).1
            have hput := g1.put hlt _ v6 rs g5 hF1 (by
              rw [e6]
              refine heap_set ?_ _
              rw [r4.block tb (heap_lt g1.block) (fun h => by have := hob tb h; omega)]; exact g1.block) (by
              rw [e6]
              exact Fp.ownsRow (Fp.setCell (S := fun j => j = tb) w5 ⟨tb, jj, none⟩ v6 rfl) r2 (fun j hj e => by rw [r3] at hj; have := hob j hj; omega)) (fun j hj => .inl (by rw [← r3]; exact hj))
            refine ⟨jj + 1, by omega, by go_num, _, _, hput, fun j hj => ?_, fun j hj => ?_, g4.trans hF1 (fun _ h => h) (fun j hj h => ?_)⟩
            · by_cases c : j = jj
              · subst c; simp only [if_true]; rw [g7]; exact r1
              · simp only [if_neg c]; exact g2 j (by omega)
            · simp only [if_neg (show j ≠ jj by omega)]
              rw [Array.getElem?_setIfInBounds_ne (by omega)]
              exact g3 j (by omega)
            · rcases h with h | h
              · have := hob j h; omega
              · omega
          case measure => simp [intOf]; omega
        · gi_wp2
          go_end0
          obtain rfl : jj = 16 := by omega
          obtain ⟨cs2, m2, hset, h1, h2, hfp⟩ := HQ.out
          exact ⟨rfl, cs2, m2, hset, h1, hfp⟩

theorem Lay_any (tb : Nat) (v : Value) (xs : List Silo.Smp) (cs : Array Value) (m : Nat → List Silo.Pt) (w : World) (hset : SetAt w (tb + 1) tb cs m) (hin : SmpIn w tb v xs) (hg : ∀ x ∈ xs, Silo.goodSmp x) (hl : ∀ s, s < 16 → (m s).length + xs.length ≤ 16777216) :
    Calls Try.prog 21 #[.pointer (some ⟨tb, 0, none⟩), v] w fun e w' => e = .returned (.tuple #[]) ∧
      ∃ cs' m', SetAt w' (tb + 1) tb cs' m' ∧ (∀ s, s < 16 → Settled (m s ++ Silo.ser s xs) (m' s)) ∧ Fp (fun k => tb ≤ k) w w' :=
  callsIn_wide.1 (Lay_in 5 (by decide) tb v xs cs m w hset hin hg hl)

end Go.Proofs.Yteoboonapcjadaa
