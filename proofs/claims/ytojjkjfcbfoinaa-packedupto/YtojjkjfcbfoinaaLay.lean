/- sets.Set.Lay's contract. -/
import Derived.Test.YtojjkjfcbfoinaaValS
namespace Silo

/-- What laying samples on a set leaves of one series. -/
def LaidOn (ps : List Pt) (xs : List Smp) (s : Nat) (qs : List Pt) : Prop := ∃ rs, Go.Proofs.Ytojjkjfcbfoinaa.Settled (ser s xs) rs ∧ qs = mergeL ps rs

end Silo

namespace Go.Proofs.Ytojjkjfcbfoinaa
open Go.RowKit Go.Shelf
open Silo (ptAt)
attribute [local go_sem] Oper.semAt_some

/-- In the midst of one sample's laying. -/
structure LyA (W W1 W2 : World) (fb p q s pn cp gn cn : Nat) (x : Silo.Smp) (a0 : Option Addr) (listed : Array Bool) (u16 u17 u18 u19 u20 u21 u22 u23 u24 u25 : Value) (w' : World) : Prop where
  e0 : done listed 0 = true → u16 = .pointer (some ⟨p, 0, none⟩)
  e1 : done listed 1 = true → u17 = .int .i64 (s : Nat)
  e2 : done listed 2 = true → u18 = .pointer (some ⟨p, 0, none⟩)
  e3 : done listed 3 = true → u19 = .int .i64 (s : Nat)
  e4 : done listed 4 = true → u20 = .pointer (some ⟨fb, s, none⟩)
  e5 : done listed 5 = true → u21 = .slice a0 pn cp
  e6 : done listed 6 = true → u22 = .agg #[.int .i64 x.t, .int .u64 (x.v : Nat)]
  e7 : done listed 7 = true → u23 = .slice (some ⟨W.heap.size, 0, none⟩) 1 1
  e8 : done listed 8 = true → u24 = .slice (some ⟨gn, 0, none⟩) (pn + 1) cn
  e9 : done listed 9 = true → u25 = .pointer (some ⟨fb, s, none⟩)
  x0 : done listed 7 = false → w' = W.drew
  x1 : done listed 7 = true → done listed 8 = false → w' = W1
  x2 : done listed 8 = true → done listed 10 = false → w' = W2
  x3 : done listed 10 = true → w' = W2.setCell ⟨fb, s, none⟩ (.slice (some ⟨gn, 0, none⟩) (pn + 1) cn)

section
variable {W W1 W2 : World} {fb p q s pn cp gn cn : Nat} {x : Silo.Smp} {a0 : Option Addr} {listed : Array Bool} {u16 u17 u18 u19 u20 u21 u22 u23 u24 u25 : Value} {w' : World}

theorem LyA.start {k : Nat} (h : w' = W.drew) : LyA W W1 W2 fb p q s pn cp gn cn x a0 (Array.replicate k false) u16 u17 u18 u19 u20 u21 u22 u23 u24 u25 w' := by
  constructor <;> first | exact h | (intro d; first | exact h | (rw [done_rep] at d; cases d))

theorem LyA.s0 (h : LyA W W1 W2 fb p q s pn cp gn cn x a0 listed u16 u17 u18 u19 u20 u21 u22 u23 u24 u25 w') : LyA W W1 W2 fb p q s pn cp gn cn x a0 (listed.setIfInBounds 0 true) (.pointer (some ⟨p, 0, none⟩)) u17 u18 u19 u20 u21 u22 u23 u24 u25 w' :=
  ⟨fun _ => rfl, fun d => h.e1 (done_of_set d (by decide)), fun d => h.e2 (done_of_set d (by decide)), fun d => h.e3 (done_of_set d (by decide)), fun d => h.e4 (done_of_set d (by decide)), fun d => h.e5 (done_of_set d (by decide)), fun d => h.e6 (done_of_set d (by decide)), fun d => h.e7 (done_of_set d (by decide)), fun d => h.e8 (done_of_set d (by decide)), fun d => h.e9 (done_of_set d (by decide)), fun d => h.x0 (undone_of_set d), fun d d' => h.x1 (done_of_set d (by decide)) (undone_of_set d'), fun d d' => h.x2 (done_of_set d (by decide)) (undone_of_set d'), fun d => h.x3 (done_of_set d (by decide))⟩

theorem LyA.s1 (h : LyA W W1 W2 fb p q s pn cp gn cn x a0 listed u16 u17 u18 u19 u20 u21 u22 u23 u24 u25 w') : LyA W W1 W2 fb p q s pn cp gn cn x a0 (listed.setIfInBounds 1 true) u16 (.int .i64 (s : Nat)) u18 u19 u20 u21 u22 u23 u24 u25 w' :=
  ⟨fun d => h.e0 (done_of_set d (by decide)), fun _ => rfl, fun d => h.e2 (done_of_set d (by decide)), fun d => h.e3 (done_of_set d (by decide)), fun d => h.e4 (done_of_set d (by decide)), fun d => h.e5 (done_of_set d (by decide)), fun d => h.e6 (done_of_set d (by decide)), fun d => h.e7 (done_of_set d (by decide)), fun d => h.e8 (done_of_set d (by decide)), fun d => h.e9 (done_of_set d (by decide)), fun d => h.x0 (undone_of_set d), fun d d' => h.x1 (done_of_set d (by decide)) (undone_of_set d'), fun d d' => h.x2 (done_of_set d (by decide)) (undone_of_set d'), fun d => h.x3 (done_of_set d (by decide))⟩

theorem LyA.s2 (h : LyA W W1 W2 fb p q s pn cp gn cn x a0 listed u16 u17 u18 u19 u20 u21 u22 u23 u24 u25 w') : LyA W W1 W2 fb p q s pn cp gn cn x a0 (listed.setIfInBounds 2 true) u16 u17 (.pointer (some ⟨p, 0, none⟩)) u19 u20 u21 u22 u23 u24 u25 w' :=
  ⟨fun d => h.e0 (done_of_set d (by decide)), fun d => h.e1 (done_of_set d (by decide)), fun _ => rfl, fun d => h.e3 (done_of_set d (by decide)), fun d => h.e4 (done_of_set d (by decide)), fun d => h.e5 (done_of_set d (by decide)), fun d => h.e6 (done_of_set d (by decide)), fun d => h.e7 (done_of_set d (by decide)), fun d => h.e8 (done_of_set d (by decide)), fun d => h.e9 (done_of_set d (by decide)), fun d => h.x0 (undone_of_set d), fun d d' => h.x1 (done_of_set d (by decide)) (undone_of_set d'), fun d d' => h.x2 (done_of_set d (by decide)) (undone_of_set d'), fun d => h.x3 (done_of_set d (by decide))⟩

theorem LyA.s3 (h : LyA W W1 W2 fb p q s pn cp gn cn x a0 listed u16 u17 u18 u19 u20 u21 u22 u23 u24 u25 w') : LyA W W1 W2 fb p q s pn cp gn cn x a0 (listed.setIfInBounds 3 true) u16 u17 u18 (.int .i64 (s : Nat)) u20 u21 u22 u23 u24 u25 w' :=
  ⟨fun d => h.e0 (done_of_set d (by decide)), fun d => h.e1 (done_of_set d (by decide)), fun d => h.e2 (done_of_set d (by decide)), fun _ => rfl, fun d => h.e4 (done_of_set d (by decide)), fun d => h.e5 (done_of_set d (by decide)), fun d => h.e6 (done_of_set d (by decide)), fun d => h.e7 (done_of_set d (by decide)), fun d => h.e8 (done_of_set d (by decide)), fun d => h.e9 (done_of_set d (by decide)), fun d => h.x0 (undone_of_set d), fun d d' => h.x1 (done_of_set d (by decide)) (undone_of_set d'), fun d d' => h.x2 (done_of_set d (by decide)) (undone_of_set d'), fun d => h.x3 (done_of_set d (by decide))⟩

theorem LyA.s4 (h : LyA W W1 W2 fb p q s pn cp gn cn x a0 listed u16 u17 u18 u19 u20 u21 u22 u23 u24 u25 w') : LyA W W1 W2 fb p q s pn cp gn cn x a0 (listed.setIfInBounds 4 true) u16 u17 u18 u19 (.pointer (some ⟨fb, s, none⟩)) u21 u22 u23 u24 u25 w' :=
  ⟨fun d => h.e0 (done_of_set d (by decide)), fun d => h.e1 (done_of_set d (by decide)), fun d => h.e2 (done_of_set d (by decide)), fun d => h.e3 (done_of_set d (by decide)), fun _ => rfl, fun d => h.e5 (done_of_set d (by decide)), fun d => h.e6 (done_of_set d (by decide)), fun d => h.e7 (done_of_set d (by decide)), fun d => h.e8 (done_of_set d (by decide)), fun d => h.e9 (done_of_set d (by decide)), fun d => h.x0 (undone_of_set d), fun d d' => h.x1 (done_of_set d (by decide)) (undone_of_set d'), fun d d' => h.x2 (done_of_set d (by decide)) (undone_of_set d'), fun d => h.x3 (done_of_set d (by decide))⟩

theorem LyA.s5 (h : LyA W W1 W2 fb p q s pn cp gn cn x a0 listed u16 u17 u18 u19 u20 u21 u22 u23 u24 u25 w') : LyA W W1 W2 fb p q s pn cp gn cn x a0 (listed.setIfInBounds 5 true) u16 u17 u18 u19 u20 (.slice a0 pn cp) u22 u23 u24 u25 w' :=
  ⟨fun d => h.e0 (done_of_set d (by decide)), fun d => h.e1 (done_of_set d (by decide)), fun d => h.e2 (done_of_set d (by decide)), fun d => h.e3 (done_of_set d (by decide)), fun d => h.e4 (done_of_set d (by decide)), fun _ => rfl, fun d => h.e6 (done_of_set d (by decide)), fun d => h.e7 (done_of_set d (by decide)), fun d => h.e8 (done_of_set d (by decide)), fun d => h.e9 (done_of_set d (by decide)), fun d => h.x0 (undone_of_set d), fun d d' => h.x1 (done_of_set d (by decide)) (undone_of_set d'), fun d d' => h.x2 (done_of_set d (by decide)) (undone_of_set d'), fun d => h.x3 (done_of_set d (by decide))⟩

theorem LyA.s6 (h : LyA W W1 W2 fb p q s pn cp gn cn x a0 listed u16 u17 u18 u19 u20 u21 u22 u23 u24 u25 w') : LyA W W1 W2 fb p q s pn cp gn cn x a0 (listed.setIfInBounds 6 true) u16 u17 u18 u19 u20 u21 (.agg #[.int .i64 x.t, .int .u64 (x.v : Nat)]) u23 u24 u25 w' :=
  ⟨fun d => h.e0 (done_of_set d (by decide)), fun d => h.e1 (done_of_set d (by decide)), fun d => h.e2 (done_of_set d (by decide)), fun d => h.e3 (done_of_set d (by decide)), fun d => h.e4 (done_of_set d (by decide)), fun d => h.e5 (done_of_set d (by decide)), fun _ => rfl, fun d => h.e7 (done_of_set d (by decide)), fun d => h.e8 (done_of_set d (by decide)), fun d => h.e9 (done_of_set d (by decide)), fun d => h.x0 (undone_of_set d), fun d d' => h.x1 (done_of_set d (by decide)) (undone_of_set d'), fun d d' => h.x2 (done_of_set d (by decide)) (undone_of_set d'), fun d => h.x3 (done_of_set d (by decide))⟩

theorem LyA.s7 {w2 : World} (h : LyA W W1 W2 fb p q s pn cp gn cn x a0 listed u16 u17 u18 u19 u20 u21 u22 u23 u24 u25 w') (hi : 7 < listed.size) (hn1 : done listed 8 = false) (hn2 : done listed 10 = false) (hS : w2 = W1) : LyA W W1 W2 fb p q s pn cp gn cn x a0 (listed.setIfInBounds 7 true) u16 u17 u18 u19 u20 u21 u22 (.slice (some ⟨W.heap.size, 0, none⟩) 1 1) u24 u25 w2 :=
  ⟨fun d => h.e0 (done_of_set d (by decide)), fun d => h.e1 (done_of_set d (by decide)), fun d => h.e2 (done_of_set d (by decide)), fun d => h.e3 (done_of_set d (by decide)), fun d => h.e4 (done_of_set d (by decide)), fun d => h.e5 (done_of_set d (by decide)), fun d => h.e6 (done_of_set d (by decide)), fun _ => rfl, fun d => h.e8 (done_of_set d (by decide)), fun d => h.e9 (done_of_set d (by decide)), fun D => absurd D (by rw [done_set_same hi]; decide), fun _ _ => hS, fun D _ => absurd (done_of_set D (by decide)) (by rw [hn1]; decide), fun D => absurd (done_of_set D (by decide)) (by rw [hn2]; decide)⟩

theorem LyA.s8 {w2 : World} (h : LyA W W1 W2 fb p q s pn cp gn cn x a0 listed u16 u17 u18 u19 u20 u21 u22 u23 u24 u25 w') (hi : 8 < listed.size) (hp0 : done listed 7 = true) (hn2 : done listed 10 = false) (hS : w2 = W2) : LyA W W1 W2 fb p q s pn cp gn cn x a0 (listed.setIfInBounds 8 true) u16 u17 u18 u19 u20 u21 u22 u23 (.slice (some ⟨gn, 0, none⟩) (pn + 1) cn) u25 w2 :=
  ⟨fun d => h.e0 (done_of_set d (by decide)), fun d => h.e1 (done_of_set d (by decide)), fun d => h.e2 (done_of_set d (by decide)), fun d => h.e3 (done_of_set d (by decide)), fun d => h.e4 (done_of_set d (by decide)), fun d => h.e5 (done_of_set d (by decide)), fun d => h.e6 (done_of_set d (by decide)), fun d => h.e7 (done_of_set d (by decide)), fun _ => rfl, fun d => h.e9 (done_of_set d (by decide)), fun D => absurd (undone_of_set D) (by rw [hp0]; decide), fun _ D => absurd D (by rw [done_set_same hi]; decide), fun _ _ => hS, fun D => absurd (done_of_set D (by decide)) (by rw [hn2]; decide)⟩

theorem LyA.s9 (h : LyA W W1 W2 fb p q s pn cp gn cn x a0 listed u16 u17 u18 u19 u20 u21 u22 u23 u24 u25 w') : LyA W W1 W2 fb p q s pn cp gn cn x a0 (listed.setIfInBounds 9 true) u16 u17 u18 u19 u20 u21 u22 u23 u24 (.pointer (some ⟨fb, s, none⟩)) w' :=
  ⟨fun d => h.e0 (done_of_set d (by decide)), fun d => h.e1 (done_of_set d (by decide)), fun d => h.e2 (done_of_set d (by decide)), fun d => h.e3 (done_of_set d (by decide)), fun d => h.e4 (done_of_set d (by decide)), fun d => h.e5 (done_of_set d (by decide)), fun d => h.e6 (done_of_set d (by decide)), fun d => h.e7 (done_of_set d (by decide)), fun d => h.e8 (done_of_set d (by decide)), fun _ => rfl, fun d => h.x0 (undone_of_set d), fun d d' => h.x1 (done_of_set d (by decide)) (undone_of_set d'), fun d d' => h.x2 (done_of_set d (by decide)) (undone_of_set d'), fun d => h.x3 (done_of_set d (by decide))⟩

theorem LyA.s10 {w2 : World} (h : LyA W W1 W2 fb p q s pn cp gn cn x a0 listed u16 u17 u18 u19 u20 u21 u22 u23 u24 u25 w') (hi : 10 < listed.size) (hp0 : done listed 7 = true) (hp1 : done listed 8 = true) (hS : w2 = W2.setCell ⟨fb, s, none⟩ (.slice (some ⟨gn, 0, none⟩) (pn + 1) cn)) : LyA W W1 W2 fb p q s pn cp gn cn x a0 (listed.setIfInBounds 10 true) u16 u17 u18 u19 u20 u21 u22 u23 u24 u25 w2 :=
  ⟨fun d => h.e0 (done_of_set d (by decide)), fun d => h.e1 (done_of_set d (by decide)), fun d => h.e2 (done_of_set d (by decide)), fun d => h.e3 (done_of_set d (by decide)), fun d => h.e4 (done_of_set d (by decide)), fun d => h.e5 (done_of_set d (by decide)), fun d => h.e6 (done_of_set d (by decide)), fun d => h.e7 (done_of_set d (by decide)), fun d => h.e8 (done_of_set d (by decide)), fun d => h.e9 (done_of_set d (by decide)), fun D => absurd (undone_of_set D) (by rw [hp0]; decide), fun _ D => absurd (undone_of_set D) (by rw [hp1]; decide), fun _ D => absurd D (by rw [done_set_same hi]; decide), fun _ => hS⟩

end

/-- In the midst of one series' settling. -/
structure LyB (W : World) (tb off jj pn cv : Nat) (av : Option Addr) (A : World → Value → Prop) (C : World → Value → World → Prop) (listed : Array Bool) (u31 u32 u33 u34 u35 u36 u37 u38 : Value) (w' : World) : Prop where
  e0 : done listed 0 = true → u31 = .pointer (some ⟨tb, off, none⟩)
  e1 : done listed 1 = true → u32 = .int .i64 (jj : Nat)
  e2 : done listed 2 = true → u33 = .pointer (some ⟨tb, off, none⟩)
  e3 : done listed 3 = true → u34 = .pointer (some ⟨tb, off, none⟩)
  e4 : done listed 4 = true → u35 = .pointer (some ⟨tb, (off + jj), none⟩)
  e5 : done listed 5 = true → u36 = .slice av pn cv
  e7 : done listed 7 = true → u38 = .tuple #[]
  x0 : done listed 6 = false → w' = W.drew
  x1 : done listed 6 = true → done listed 7 = false → A w' u37
  x2 : done listed 7 = true → ∃ w5, A w5 u37 ∧ C w5 u37 w'

section
variable {W : World} {tb off jj pn cv : Nat} {av : Option Addr} {A : World → Value → Prop} {C : World → Value → World → Prop} {listed : Array Bool} {u31 u32 u33 u34 u35 u36 u37 u38 : Value} {w' : World}

theorem LyB.start {k : Nat} (h : w' = W.drew) : LyB W tb off jj pn cv av A C (Array.replicate k false) u31 u32 u33 u34 u35 u36 u37 u38 w' := by
  constructor <;> first | exact h | (intro d; first | exact h | (rw [done_rep] at d; cases d))

theorem LyB.s0 (h : LyB W tb off jj pn cv av A C listed u31 u32 u33 u34 u35 u36 u37 u38 w') : LyB W tb off jj pn cv av A C (listed.setIfInBounds 0 true) (.pointer (some ⟨tb, off, none⟩)) u32 u33 u34 u35 u36 u37 u38 w' :=
  ⟨fun _ => rfl, fun d => h.e1 (done_of_set d (by decide)), fun d => h.e2 (done_of_set d (by decide)), fun d => h.e3 (done_of_set d (by decide)), fun d => h.e4 (done_of_set d (by decide)), fun d => h.e5 (done_of_set d (by decide)), fun d => h.e7 (done_of_set d (by decide)), fun d => h.x0 (undone_of_set d), fun d d' => h.x1 (done_of_set d (by decide)) (undone_of_set d'), fun d => h.x2 (done_of_set d (by decide))⟩

theorem LyB.s1 (h : LyB W tb off jj pn cv av A C listed u31 u32 u33 u34 u35 u36 u37 u38 w') : LyB W tb off jj pn cv av A C (listed.setIfInBounds 1 true) u31 (.int .i64 (jj : Nat)) u33 u34 u35 u36 u37 u38 w' :=
  ⟨fun d => h.e0 (done_of_set d (by decide)), fun _ => rfl, fun d => h.e2 (done_of_set d (by decide)), fun d => h.e3 (done_of_set d (by decide)), fun d => h.e4 (done_of_set d (by decide)), fun d => h.e5 (done_of_set d (by decide)), fun d => h.e7 (done_of_set d (by decide)), fun d => h.x0 (undone_of_set d), fun d d' => h.x1 (done_of_set d (by decide)) (undone_of_set d'), fun d => h.x2 (done_of_set d (by decide))⟩

theorem LyB.s2 (h : LyB W tb off jj pn cv av A C listed u31 u32 u33 u34 u35 u36 u37 u38 w') : LyB W tb off jj pn cv av A C (listed.setIfInBounds 2 true) u31 u32 (.pointer (some ⟨tb, off, none⟩)) u34 u35 u36 u37 u38 w' :=
  ⟨fun d => h.e0 (done_of_set d (by decide)), fun d => h.e1 (done_of_set d (by decide)), fun _ => rfl, fun d => h.e3 (done_of_set d (by decide)), fun d => h.e4 (done_of_set d (by decide)), fun d => h.e5 (done_of_set d (by decide)), fun d => h.e7 (done_of_set d (by decide)), fun d => h.x0 (undone_of_set d), fun d d' => h.x1 (done_of_set d (by decide)) (undone_of_set d'), fun d => h.x2 (done_of_set d (by decide))⟩

theorem LyB.s3 (h : LyB W tb off jj pn cv av A C listed u31 u32 u33 u34 u35 u36 u37 u38 w') : LyB W tb off jj pn cv av A C (listed.setIfInBounds 3 true) u31 u32 u33 (.pointer (some ⟨tb, off, none⟩)) u35 u36 u37 u38 w' :=
  ⟨fun d => h.e0 (done_of_set d (by decide)), fun d => h.e1 (done_of_set d (by decide)), fun d => h.e2 (done_of_set d (by decide)), fun _ => rfl, fun d => h.e4 (done_of_set d (by decide)), fun d => h.e5 (done_of_set d (by decide)), fun d => h.e7 (done_of_set d (by decide)), fun d => h.x0 (undone_of_set d), fun d d' => h.x1 (done_of_set d (by decide)) (undone_of_set d'), fun d => h.x2 (done_of_set d (by decide))⟩

theorem LyB.s4 (h : LyB W tb off jj pn cv av A C listed u31 u32 u33 u34 u35 u36 u37 u38 w') : LyB W tb off jj pn cv av A C (listed.setIfInBounds 4 true) u31 u32 u33 u34 (.pointer (some ⟨tb, (off + jj), none⟩)) u36 u37 u38 w' :=
  ⟨fun d => h.e0 (done_of_set d (by decide)), fun d => h.e1 (done_of_set d (by decide)), fun d => h.e2 (done_of_set d (by decide)), fun d => h.e3 (done_of_set d (by decide)), fun _ => rfl, fun d => h.e5 (done_of_set d (by decide)), fun d => h.e7 (done_of_set d (by decide)), fun d => h.x0 (undone_of_set d), fun d d' => h.x1 (done_of_set d (by decide)) (undone_of_set d'), fun d => h.x2 (done_of_set d (by decide))⟩

theorem LyB.s5 (h : LyB W tb off jj pn cv av A C listed u31 u32 u33 u34 u35 u36 u37 u38 w') : LyB W tb off jj pn cv av A C (listed.setIfInBounds 5 true) u31 u32 u33 u34 u35 (.slice av pn cv) u37 u38 w' :=
  ⟨fun d => h.e0 (done_of_set d (by decide)), fun d => h.e1 (done_of_set d (by decide)), fun d => h.e2 (done_of_set d (by decide)), fun d => h.e3 (done_of_set d (by decide)), fun d => h.e4 (done_of_set d (by decide)), fun _ => rfl, fun d => h.e7 (done_of_set d (by decide)), fun d => h.x0 (undone_of_set d), fun d d' => h.x1 (done_of_set d (by decide)) (undone_of_set d'), fun d => h.x2 (done_of_set d (by decide))⟩

theorem LyB.s6 {xf : Value} {w2 : World} (h : LyB W tb off jj pn cv av A C listed u31 u32 u33 u34 u35 u36 u37 u38 w') (hi : 6 < listed.size) (hn : done listed 7 = false) (hS : A w2 xf) : LyB W tb off jj pn cv av A C (listed.setIfInBounds 6 true) u31 u32 u33 u34 u35 u36 (xf) u38 w2 :=
  ⟨fun d => h.e0 (done_of_set d (by decide)), fun d => h.e1 (done_of_set d (by decide)), fun d => h.e2 (done_of_set d (by decide)), fun d => h.e3 (done_of_set d (by decide)), fun d => h.e4 (done_of_set d (by decide)), fun d => h.e5 (done_of_set d (by decide)), fun d => h.e7 (done_of_set d (by decide)), fun D => absurd D (by rw [done_set_same hi]; decide), fun _ _ => hS, fun D => absurd (done_of_set D (by decide)) (by rw [hn]; decide)⟩

theorem LyB.s7 {w2 : World} (h : LyB W tb off jj pn cv av A C listed u31 u32 u33 u34 u35 u36 u37 u38 w') (hi : 7 < listed.size) (hp : done listed 6 = true) (hS : ∃ w5, A w5 u37 ∧ C w5 u37 w2) : LyB W tb off jj pn cv av A C (listed.setIfInBounds 7 true) u31 u32 u33 u34 u35 u36 u37 (.tuple #[]) w2 :=
  ⟨fun d => h.e0 (done_of_set d (by decide)), fun d => h.e1 (done_of_set d (by decide)), fun d => h.e2 (done_of_set d (by decide)), fun d => h.e3 (done_of_set d (by decide)), fun d => h.e4 (done_of_set d (by decide)), fun d => h.e5 (done_of_set d (by decide)), fun _ => rfl, fun D => absurd (undone_of_set D) (by rw [hp]; decide), fun _ D => absurd D (by rw [done_set_same hi]; decide), fun _ => hS⟩

end

theorem arr16 (cs : Array Value) (h : cs.size = 16) : #[cs[0], cs[1], cs[2], cs[3], cs[4], cs[5], cs[6], cs[7], cs[8], cs[9], cs[10], cs[11], cs[12], cs[13], cs[14], cs[15]] = cs := by
  apply Array.ext
  · simp [h]
  · intro i h1 _
    simp at h1
    match i, h1 with
    | 0, _ => rfl
    | 1, _ => rfl
    | 2, _ => rfl
    | 3, _ => rfl
    | 4, _ => rfl
    | 5, _ => rfl
    | 6, _ => rfl
    | 7, _ => rfl
    | 8, _ => rfl
    | 9, _ => rfl
    | 10, _ => rfl
    | 11, _ => rfl
    | 12, _ => rfl
    | 13, _ => rfl
    | 14, _ => rfl
    | 15, _ => rfl
    | j + 16, h1 => exact absurd h1 (by omega)

theorem Try.infoSlice : (Try.prog.info? 58).map (fun i => i.size) = some 1 := by kernel_rfl

theorem index16 (w : World) (cs : Array Value) (k : Nat) (v : Value) (hk : k < 16) (h : cs[k]? = some v) : (Instr.index 78 (.agg cs) (.int .i64 (k : Nat))).run Try.prog w = .ok v w := by
  have h1 : (0 : Int) ≤ (k : Int) ∧ (k : Int) < 16 := by omega
  obtain ⟨i0, hi, hz⟩ := Option.map_eq_some_iff.1 Try.infoSlice
  simp [Instr.index, asIntOf, run_underlying Try.underlying78, h1, part, sizeOf, typeInfo, hi, hz, h]
  omega

/-- What the range keeps: the fresh points. -/
def FInv (fb : Nat) (B : Nat → Prop) (pre : List Silo.Smp) (W : World) : Prop :=
  ∃ cs, cs.size = 16 ∧ SetAt W (fb + 1) fb 0 78 cs (fun s => Silo.ser s pre) ∧ ∀ k, B k ↔ k = fb ∨ ∃ s v, s < 16 ∧ cs[s]? = some v ∧ v.ownBlock = some k

theorem FInv_stable (fb : Nat) : Stable (FInv fb) := by
  rintro B pre A A' ⟨cs, hz, h1, hB⟩ hlt hf
  exact ⟨cs, hz, h1.fp hf (fun h => h ((hB _).2 (.inl rfl))) (fun s v k hs hv hk h => h ((hB k).2 (.inr ⟨s, v, hs, by simpa using hv, hk⟩))), hB⟩

theorem SetAt.zeroOf (w : World) (ty : TypeId) (hk : Kind ty) : SetAt (w.alloc (.cells #[.slice none 0 0, .slice none 0 0, .slice none 0 0, .slice none 0 0, .slice none 0 0, .slice none 0 0, .slice none 0 0, .slice none 0 0, .slice none 0 0, .slice none 0 0, .slice none 0 0, .slice none 0 0, .slice none 0 0, .slice none 0 0, .slice none 0 0, .slice none 0 0] ty)) (w.heap.size + 1) w.heap.size 0 ty
    (Array.replicate 16 (.slice none 0 0)) (fun _ => []) where
  block := heap_new _ _
  kind := hk
  size := by simp
  below := by omega
  row := fun s hs => ⟨.slice none 0 0, by simp [hs], rfl, .inl ⟨rfl, rfl⟩⟩
  apart := fun s s' v v' k hs hs' hne hv hv' hk => by
    simp [hs] at hv
    subst hv
    simp [Value.ownBlock] at hk

theorem own_deferred {w : World} {base k : Nat} {v : Value} {ps : List Silo.Pt} {d : Option (List Deferred)} (h : World.ptsAt w base v ps) (hk : v.ownBlock = some k) (hd : w.heap[k]? = some (.deferred d)) : False := by
  rcases h.2 with ⟨h1, _⟩ | ⟨g, cap, cur, h3, _, h5, _⟩
  · rw [h1] at hk; cases hk
  · rw [h3] at hk
    simp only [Value.ownBlock, Option.some.injEq] at hk
    subst hk
    rw [hd] at h5
    cases h5

/-- The blocks that laying may turn. -/
def LF (T : Nat → Prop) (tb off : Nat) (cs : Array Value) (k : Nat) : Prop := T k ∨ k = tb ∨ ∃ s v, s < 16 ∧ cs[off + s]? = some v ∧ v.ownBlock = some k

/-- What the second loop keeps, behind k series. -/
def LInv (T : Nat → Prop) (base tb off : Nat) (ty : TypeId) (cs : Array Value) (m : Nat → List Silo.Pt) (xs : List Silo.Smp) (fb D : Nat) (cs1 : Array Value) (w : World) (k : Nat) (wr : World) : Prop :=
  ∃ cs2 m2, SetAt wr base tb off ty cs2 m2 ∧ (∀ s, s < k → Silo.LaidOn (m s) xs s (m2 s)) ∧ (∀ s, k ≤ s → m2 s = m s ∧ cs2[off + s]? = cs[off + s]?) ∧ (∀ i, i < off ∨ off + 16 ≤ i → cs2[i]? = cs[i]?) ∧ cs2.size = cs.size ∧
    (∀ s, s < 16 → k ≤ s → ∃ v, cs1[s]? = some v ∧ World.ptsAt wr (fb + 1) v (Silo.ser s xs)) ∧ Fp (LF T tb off cs) w wr ∧ wr.heap[D]? = some (.deferred (some [])) ∧ fb < wr.heap.size ∧
    (∀ s v j, s < 16 → cs2[off + s]? = some v → v.ownBlock = some j → (∃ v0, cs[off + s]? = some v0 ∧ v0.ownBlock = some j) ∨ (fb < j ∧ ∀ s' v', s' < 16 → k ≤ s' → cs1[s']? = some v' → v'.ownBlock ≠ some j))

/-- What settling one series has left. -/
def LA (fb : Nat) (xs : List Silo.Smp) (jj : Nat) (v : Value) (W w' : World) (v' : Value) : Prop := ∃ rs, Settled (Silo.ser jj xs) rs ∧ World.ptsAt w' (fb + 1) v' rs ∧ v'.ownBlock = v.ownBlock ∧ Fp (fun k => v.ownBlock = some k) W w'

/-- What laying it has left. -/
def LC (base tb off : Nat) (ty : TypeId) (jj : Nat) (cs2 : Array Value) (lv : Value) (ps : List Silo.Pt) (_fb : Nat) (xs : List Silo.Smp) (w5 : World) (_v5 : Value) (w' : World) : Prop :=
  ∃ v' rs, Settled (Silo.ser jj xs) rs ∧ w'.heap[tb]? = some (.cells (cs2.setIfInBounds (off + jj) v') ty (0, 0)) ∧ World.ptsAt w' base v' (Silo.mergeL ps rs) ∧ Fp (fun j => lv.ownBlock = some j ∨ j = tb) w5 w' ∧ (∀ j, v'.ownBlock = some j → lv.ownBlock = some j ∨ w5.heap.size ≤ j)

set_option maxHeartbeats 2000000 in
set_option maxRecDepth 100000 in
theorem Lay_in (n : Nat) (hn : 30 ≤ n) (base tb off : Nat) (ty : TypeId) (cs : Array Value) (m : Nat → List Silo.Pt) (xs : List Silo.Smp) (gf : Nat) (lb : Array Value) (R T : Nat → Prop) (w : World) (hset : SetAt w base tb off ty cs m) (hb : base ≤ w.heap.size)
    (hen : ∀ args w, (callFunc gf args).run Try.prog w = .ok (.enter gf args) w) (hseq : SeqFp Fence.wide (n - 1) Try.prog gf lb (fun p => #[smpV p]) xs R T w (fun _ => True)) (hR : ∀ k, R k → k < w.heap.size)
    (hT : ∀ k, T k → k ≠ tb ∧ ∀ s v, s < 16 → cs[off + s]? = some v → v.ownBlock ≠ some k) (hg : ∀ x ∈ xs, Silo.goodSmp x) (hris : ∀ s, s < 16 → Silo.Rising (m s)) (hl : ∀ s, s < 16 → (m s).length + xs.length ≤ 1099511627776) :
    CallsIn Fence.wide n Try.prog 21 #[.pointer (some ⟨tb, off, none⟩), .func (.func gf) #[] lb] w fun e w' => e = .returned (.tuple #[]) ∧
      Hid (∃ cs' m', SetAt w' base tb off ty cs' m' ∧ (∀ s, s < 16 → Silo.LaidOn (m s) xs s (m' s)) ∧ (∀ i, i < off ∨ off + 16 ≤ i → cs'[i]? = cs[i]?) ∧ cs'.size = cs.size ∧
        Fp (fun k => T k ∨ k = tb ∨ ∃ s v, s < 16 ∧ cs[off + s]? = some v ∧ v.ownBlock = some k) w w' ∧ (∀ s v' k, s < 16 → cs'[off + s]? = some v' → v'.ownBlock = some k → (∃ v, cs[off + s]? = some v ∧ v.ownBlock = some k) ∨ w.heap.size ≤ k)) := by
  refine callsIn_of_wp_marks Try.func21 rfl trivial ?_ rfl
  simp only [Try.ntmps21, List.size_toArray, List.length_cons, List.length_nil, Nat.reduceAdd, Nat.reduceSub, Array.replicate_succ, Array.replicate_zero, List.push_toArray, List.append_toArray, List.nil_append, List.cons_append]
  have htl : tb < w.heap.size := heap_lt hset.block
  have hz0 := SetAt.zeroOf w 78 (by unfold Kind; decide)
  have hf1 : Fp (fun _ => False) w (w.alloc (.cells #[.slice none 0 0, .slice none 0 0, .slice none 0 0, .slice none 0 0, .slice none 0 0, .slice none 0 0, .slice none 0 0, .slice none 0 0, .slice none 0 0, .slice none 0 0, .slice none 0 0, .slice none 0 0, .slice none 0 0, .slice none 0 0, .slice none 0 0, .slice none 0 0] 78)) := Fp.alloc _ _ _
  obtain ⟨w1, hw1⟩ : ∃ w1, w.alloc (.cells #[.slice none 0 0, .slice none 0 0, .slice none 0 0, .slice none 0 0, .slice none 0 0, .slice none 0 0, .slice none 0 0, .slice none 0 0, .slice none 0 0, .slice none 0 0, .slice none 0 0, .slice none 0 0, .slice none 0 0, .slice none 0 0, .slice none 0 0, .slice none 0 0] 78) = w1 := ⟨_, rfl⟩
  rw [hw1] at hz0 hf1
  have hs1 : w1.heap.size = w.heap.size + 1 := by rw [← hw1]; simp
  obtain ⟨fb, hfb⟩ : ∃ fb, w.heap.size = fb := ⟨_, rfl⟩
  rw [hfb] at hz0 hs1 htl hb
  have HS : Hid _ := And.intro (hseq.up hf1) (And.intro hR (And.intro hset (And.intro hT (And.intro hg (And.intro hris (And.intro hl (And.intro hz0 (And.intro hf1 hs1))))))))
  have HE : Hid _ := hen
  have HFB : Hid _ := hfb
  clear hseq hR hset hT hg hris hl hz0 hf1 hs1 hen
  gi_wp2_with fail
  have HW1 : Hid _ := hw1
  clear hw1 hfb
  refine wpIn_rangeFp rfl (by omega) (gf := gf) (lb := lb) rfl trivial HE.out HS.out.1 (fun _ => rfl)
    (fun _ _ _ _ => trivial) ?hR (FInv fb) (FInv_stable _) (fun k => k = fb) ?hB0 ?h0 ?hround ?hdone
  case hR => intro k hk; have := HS.out.2.1 k hk; have := HS.out.2.2.2.2.2.2.2.2.2; have := HFB.out; omega
  case hB0 => rintro k rfl; exact ⟨by have := HS.out.2.2.2.2.2.2.2.2.2; omega, fun h => by have := HS.out.2.1 _ h; have := HFB.out; omega⟩
  case h0 =>
    refine ⟨_, by simp, HS.out.2.2.2.2.2.2.2.1, fun k => ?_⟩
    constructor
    · exact .inl
    · rintro (h | ⟨s, v, hs, hv, hk⟩)
      · exact h
      · simp [hs] at hv
        subst hv
        simp [Value.ownBlock] at hk
  case hround =>
    rintro l' Bi pre x Wq K' hl' hlt' hrec hnl hIq hBq hpre hK'
    have hgx : Silo.goodSmp x := HS.out.2.2.2.2.1 x (hpre.subset (by simp))
    obtain ⟨s, hs⟩ : ∃ s : Nat, x.s = (s : Int) := ⟨x.s.toNat, by have := hgx.1; omega⟩
    have hs16 : s < 16 := by have := hgx.2.1; omega
    have hpt : smpV x = .agg #[.int .i64 (s : Nat), .int .i64 x.t, .int .u64 (x.v : Nat)] := by rw [← hs]; rfl
    have hlen : pre.length + 1 ≤ xs.length := by have := List.IsPrefix.length_le hpre; simpa using this
    have HK' : Hid _ := hK'
    have HI : Hid _ := And.intro hs (And.intro hpre hlen)
    clear hK' hIq hBq hpre hnl hrec hgx hs hlen
    gi_wp2
    refine HK'.out _ _ (Fp.alloc _ _ _) ?_
    rintro Wc hfc hrecc ⟨cs1, hz1, hset1, hBv⟩
    obtain ⟨p, hp⟩ : ∃ p, Wq.heap.size = p := ⟨_, rfl⟩
    have hxb : Wc.heap[p]? = some (.cells #[.int .i64 (s : Nat), .int .i64 x.t, .int .u64 (x.v : Nat)] 42 (0, 0)) := by rw [← hp]; exact (hfc.block _ (by simp) (by omega)).trans (heap_new _ _)
    have hszq : p + 1 ≤ Wc.heap.size := by have := hfc.size; simp at this; omega
    rw [hp]
    have c0 : Wc.cell? ⟨p, 0, none⟩ = some (.int .i64 (s : Nat)) := by simp [World.cell?, hxb]
    have c1 : Wc.cell? ⟨p, 1, none⟩ = some (.int .i64 x.t) := by simp [World.cell?, hxb]
    have c2 : Wc.cell? ⟨p, 2, none⟩ = some (.int .u64 (x.v : Nat)) := by simp [World.cell?, hxb]
    obtain ⟨vv, hvv, hrow⟩ := hset1.row s hs16
    rw [Nat.zero_add] at hvv
    obtain ⟨ps, hps⟩ : ∃ ps, Silo.ser s pre = ps := ⟨_, rfl⟩
    simp only [hps] at hrow
    obtain ⟨a0, cp, rfl⟩ := ptsAt_form hrow
    have hpl : ps.length ≤ 1099511627776 := by
      rw [← hps]
      have h1 := Silo.ser_length s pre
      have h2 := HS.out.2.2.2.2.2.2.1 0 (by omega)
      have h3 := HI.out.2.2
      omega
    have hblk := hset1.block
    have htr : fb < Wc.heap.size := heap_lt hblk
    obtain ⟨q, hq⟩ : ∃ q, Wc.heap.size = q := ⟨_, rfl⟩
    have hpq : p < q := by omega
    have htq : fb < q := by omega
    have hbp : fb < p := by have h1 := HS.out.2.2.2.2.2.2.2.2.2; omega
    have HX : Hid _ := And.intro hset1 (And.intro hvv (And.intro hrow (And.intro hps (And.intro hBv (And.intro hfc (And.intro hz1 (And.intro hp hblk)))))))
    clear hset1 hvv hrow hps hBv hfc hz1 hp hblk HK' hrecc hpt hszq
    gi_wp2_with fail
    obtain ⟨W, hW⟩ : ∃ W, Wc.alloc (.cells #[.int .i64 x.t, .int .u64 (x.v : Nat)] 80) = W := ⟨_, rfl⟩
    rw [hW]
    have hfW : Fp (fun _ => False) Wc W := by rw [← hW]; exact Fp.alloc _ _ _
    have hWs : W.heap.size = q + 1 := by rw [← hW, ← hq]; simp
    have hnb : W.heap[q]? = some (.cells #[.int .i64 x.t, .int .u64 (x.v : Nat)] 80 (0, 0)) := by rw [← hW, ← hq]; exact heap_new _ _
    have k0 : W.cell? ⟨p, 0, none⟩ = some (.int .i64 (s : Nat)) := by rw [hfW.cell (p := ⟨p, 0, none⟩) (show p < Wc.heap.size by omega) (fun h => h)]; exact c0
    have k1 : W.cell? ⟨q, 0, none⟩ = some (.int .i64 x.t) := by simp [World.cell?, hnb]
    have k2 : W.cell? ⟨q, 1, none⟩ = some (.int .u64 (x.v : Nat)) := by simp [World.cell?, hnb]
    clear hnb
    have hbW : W.heap[fb]? = some (.cells cs1 78 (0, 0)) := (hfW.block fb htr (fun h => h)).trans HX.out.2.2.2.2.2.2.2.2
    have k3 : W.cell? ⟨fb, s, none⟩ = some (.slice a0 ps.length cp) := by simp [World.cell?, hbW, HX.out.2.1]
    have hrW : World.ptsAt W (fb + 1) (.slice a0 ps.length cp) ps := Fp.ownsRow hfW HX.out.2.2.1 (fun _ _ h => h)
    obtain ⟨W1, hW1⟩ : ∃ W1, W.drew.alloc (.cells #[.int .i64 x.t, .int .u64 (x.v : Nat)] 80) = W1 := ⟨_, rfl⟩
    have hfW1 : Fp (fun _ => False) W W1 := by rw [← hW1]; exact Fp.trans' (Fp.drew _ _) (Fp.alloc _ _ _)
    have hptn := pt_new W.drew ⟨x.t, x.v⟩ 80
    rw [hW1] at hptn
    obtain ⟨gn, cn, W2, hrn, hA⟩ := run_append_pt (W := W1) 58 (fb + 1) (.slice a0 ps.length cp) ps ⟨x.t, x.v⟩ (Fp.ownsRow hfW1 hrW (fun _ _ h => h)) ⟨W.heap.size, 0, none⟩ hptn (by omega) (by have := hfW1.size; omega)
    have hown : ∀ j, (.slice a0 ps.length cp : Value).ownBlock = some j → fb + 1 ≤ j ∧ j < q ∧ j ≠ p := fun j hj => by
      have h1 := World.ownsRow.lt HX.out.2.2.1 j hj
      have h2 : j ≠ p := fun e => by
        subst e
        have h3 := HX.out.2.2.2.2.2.1.size
        exact (pts_box_ne HX.out.2.2.1 hj hxb (by decide)) rfl
      omega
    have hp1 : p < W.heap.size := by omega
    have htW : fb < W.heap.size := by omega
    have k4 : W1.cell? ⟨p, 0, none⟩ = some (.int .i64 (s : Nat)) := by rw [hfW1.cell (p := ⟨p, 0, none⟩) hp1 (fun h => h)]; exact k0
    have k5 : W1.cell? ⟨fb, s, none⟩ = some (.slice a0 ps.length cp) := by rw [hfW1.cell (p := ⟨fb, s, none⟩) htW (fun h => h)]; exact k3
    have hsz1 := hfW1.size
    have k6 : W2.cell? ⟨p, 0, none⟩ = some (.int .i64 (s : Nat)) := by
      rw [hA.foot.cell (p := ⟨p, 0, none⟩) (show p < W1.heap.size by omega) (fun h => (hown p h).2.2 rfl)]; exact k4
    have k7 : W2.cell? ⟨fb, s, none⟩ = some (.slice a0 ps.length cp) := by
      rw [hA.foot.cell (p := ⟨fb, s, none⟩) (show fb < W1.heap.size by omega) (fun h => by have := hown fb h; omega)]; exact k5
    have k8 : W2.frozen? ⟨fb, s, none⟩ = false := by
      rw [hA.foot.frozen (p := ⟨fb, s, none⟩) (show fb < W1.heap.size by omega) (fun h => by have := hown fb h; omega), hfW1.frozen (p := ⟨fb, s, none⟩) htW (fun h => h)]
      simp [World.frozen?, hbW]
    have hW2b : W2.heap[fb]? = some (.cells cs1 78 (0, 0)) := (hA.foot.block fb (by omega) (fun h => by have := hown fb h; omega)).trans ((hfW1.block fb htW (fun h => h)).trans hbW)
    have HW : Hid _ := And.intro hq (And.intro hfW (And.intro hfW1 (And.intro hA (And.intro hown (And.intro hW2b hWs)))))
    have HWW : Hid _ := hW
    have HW1' : Hid _ := hW1
    have HRn : Hid _ := hrn
    clear hW hq hfW hfW1 hA hown hW2b hW1 hrn hWs hbW hrW hptn
    have HW1 := HW1'
    have i1 : (0 : Int) ≤ (s : Int) := by omega
    have i2 : (s : Int) < 16 := by omega
    refine wpIn_cutQ (fun a' w' => (w' = W2.setCell ⟨fb, s, none⟩ (.slice (some ⟨gn, 0, none⟩) (ps.length + 1) cn)) ∧ a' = { tmps := #[.pointer (some ⟨tb, off, none⟩), .func (.func gf) #[] lb, undef, undef, .pointer (some ⟨fb, 0, none⟩), .pointer (some ⟨p, 0, none⟩), .pointer (some ⟨q, 0, none⟩), undef, undef, .func (.func gf) #[] lb, .agg #[.int .i64 (s : Nat), .int .i64 x.t, .int .u64 (x.v : Nat)], .pointer (some ⟨p, 1, none⟩), .int .i64 x.t, .pointer (some ⟨p, 2, none⟩), .int .u64 (x.v : Nat), .agg #[.int .i64 x.t, .int .u64 (x.v : Nat)], .pointer (some ⟨p, 0, none⟩), .int .i64 (s : Nat), .pointer (some ⟨p, 0, none⟩), .int .i64 (s : Nat), .pointer (some ⟨fb, s, none⟩), .slice a0 ps.length cp, .agg #[.int .i64 x.t, .int .u64 (x.v : Nat)], .slice (some ⟨W.heap.size, 0, none⟩) 1 1, .slice (some ⟨gn, 0, none⟩) (ps.length + 1) cn, .pointer (some ⟨fb, s, none⟩), undef, undef, undef, undef, undef, undef, undef, undef, undef, undef, undef, undef, undef, undef], defers := [] }) ?r6 ?k6
    case r6 =>
      refine wpIn_region_inv (by kernel_rfl) (by kernel_rfl) (fun listed a' w' => ∃ u16 u17 u18 u19 u20 u21 u22 u23 u24 u25 : Value, a' = { tmps := #[.pointer (some ⟨tb, off, none⟩), .func (.func gf) #[] lb, undef, undef, .pointer (some ⟨fb, 0, none⟩), .pointer (some ⟨p, 0, none⟩), .pointer (some ⟨q, 0, none⟩), undef, undef, .func (.func gf) #[] lb, .agg #[.int .i64 (s : Nat), .int .i64 x.t, .int .u64 (x.v : Nat)], .pointer (some ⟨p, 1, none⟩), .int .i64 x.t, .pointer (some ⟨p, 2, none⟩), .int .u64 (x.v : Nat), .agg #[.int .i64 x.t, .int .u64 (x.v : Nat)], u16, u17, u18, u19, u20, u21, u22, u23, u24, u25, undef, undef, undef, undef, undef, undef, undef, undef, undef, undef, undef, undef, undef, undef], defers := [] } ∧ Hid (LyA W W1 W2 fb p q s ps.length cp gn cn x a0 listed u16 u17 u18 u19 u20 u21 u22 u23 u24 u25 w')) ?s0 ?send ?sstep
      case s0 => exact ⟨_, _, _, _, _, _, _, _, _, _, rfl, LyA.start (rfl)⟩
      case send =>
        rintro listed a' w' hall ⟨u16, u17, u18, u19, u20, u21, u22, u23, u24, u25, rfl, HI⟩
        obtain rfl := HI.out.e0 (hall 0 (by decide))
        obtain rfl := HI.out.e1 (hall 1 (by decide))
        obtain rfl := HI.out.e2 (hall 2 (by decide))
        obtain rfl := HI.out.e3 (hall 3 (by decide))
        obtain rfl := HI.out.e4 (hall 4 (by decide))
        obtain rfl := HI.out.e5 (hall 5 (by decide))
        obtain rfl := HI.out.e6 (hall 6 (by decide))
        obtain rfl := HI.out.e7 (hall 7 (by decide))
        obtain rfl := HI.out.e8 (hall 8 (by decide))
        obtain rfl := HI.out.e9 (hall 9 (by decide))
        have hw := HI.out.x3 (hall 10 (by decide))
        exact ⟨hw, rfl⟩
      case sstep =>
        rintro listed a' w' i o ho hi hd hdep hcl ⟨u16, u17, u18, u19, u20, u21, u22, u23, u24, u25, rfl, HI⟩ K hK
        match i, ho with
        | 0, ho =>
          cases ho
          go_simp
          refine hK _ _ ⟨_, _, _, _, _, _, _, _, _, _, rfl, ?_⟩
          exact HI.out.s0
        | 1, ho =>
          cases ho
          have d0 := hdep ⟨0, .data⟩ (by simp) rfl
          obtain rfl := HI.out.e0 d0
          have q10 : done listed 10 = false := nd hcl (j := 10) rfl ⟨1, .phase⟩ (by simp) rfl hd
          cases hd7 : done listed 7
          · have hw := HI.out.x0 hd7
            subst hw
            go_simp
            refine hK _ _ ⟨_, _, _, _, _, _, _, _, _, _, rfl, ?_⟩
            exact HI.out.s1
          · skip
            cases hd8 : done listed 8
            · have hw := HI.out.x1 hd7 hd8
              subst hw
              go_simp
              refine hK _ _ ⟨_, _, _, _, _, _, _, _, _, _, rfl, ?_⟩
              exact HI.out.s1
            · skip
              have hw := HI.out.x2 hd8 q10
              subst hw
              go_simp
              refine hK _ _ ⟨_, _, _, _, _, _, _, _, _, _, rfl, ?_⟩
              exact HI.out.s1
        | 2, ho =>
          cases ho
          go_simp
          refine hK _ _ ⟨_, _, _, _, _, _, _, _, _, _, rfl, ?_⟩
          exact HI.out.s2
        | 3, ho =>
          cases ho
          have d2 := hdep ⟨2, .data⟩ (by simp) rfl
          obtain rfl := HI.out.e2 d2
          have q4 : done listed 4 = false := nd hcl (j := 4) rfl ⟨3, .data⟩ (by simp) rfl hd
          have q5 : done listed 5 = false := nd hcl (j := 5) rfl ⟨4, .data⟩ (by simp) rfl q4
          have q8 : done listed 8 = false := nd hcl (j := 8) rfl ⟨5, .data⟩ (by simp) rfl q5
          cases hd7 : done listed 7
          · have hw := HI.out.x0 hd7
            subst hw
            go_simp
            refine hK _ _ ⟨_, _, _, _, _, _, _, _, _, _, rfl, ?_⟩
            exact HI.out.s3
          · skip
            have hw := HI.out.x1 hd7 q8
            subst hw
            go_simp
            refine hK _ _ ⟨_, _, _, _, _, _, _, _, _, _, rfl, ?_⟩
            exact HI.out.s3
        | 4, ho =>
          cases ho
          have d3 := hdep ⟨3, .data⟩ (by simp) rfl
          obtain rfl := HI.out.e3 d3
          go_simp
          refine hK _ _ ⟨_, _, _, _, _, _, _, _, _, _, rfl, ?_⟩
          exact HI.out.s4
        | 5, ho =>
          cases ho
          have d4 := hdep ⟨4, .data⟩ (by simp) rfl
          obtain rfl := HI.out.e4 d4
          have q8 : done listed 8 = false := nd hcl (j := 8) rfl ⟨5, .data⟩ (by simp) rfl hd
          cases hd7 : done listed 7
          · have hw := HI.out.x0 hd7
            subst hw
            go_simp
            refine hK _ _ ⟨_, _, _, _, _, _, _, _, _, _, rfl, ?_⟩
            exact HI.out.s5
          · skip
            have hw := HI.out.x1 hd7 q8
            subst hw
            go_simp
            refine hK _ _ ⟨_, _, _, _, _, _, _, _, _, _, rfl, ?_⟩
            exact HI.out.s5
        | 6, ho =>
          cases ho
          have q7 : done listed 7 = false := nd hcl (j := 7) rfl ⟨6, .data⟩ (by simp) rfl hd
          have hw := HI.out.x0 q7
          subst hw
          go_simp
          refine hK _ _ ⟨_, _, _, _, _, _, _, _, _, _, rfl, ?_⟩
          exact HI.out.s6
        | 7, ho =>
          cases ho
          have d6 := hdep ⟨6, .data⟩ (by simp) rfl
          obtain rfl := HI.out.e6 d6
          have hw := HI.out.x0 hd
          have q8 : done listed 8 = false := nd hcl (j := 8) rfl ⟨7, .data⟩ (by simp) rfl hd
          have hn1 := q8
          have q10 : done listed 10 = false := nd hcl (j := 10) rfl ⟨7, .phase⟩ (by simp) rfl hd
          have hn2 := q10
          subst hw
          go_simp
          refine hK _ _ ⟨_, _, _, _, _, _, _, _, _, _, rfl, ?_⟩
          exact HI.out.s7 hi hn1 hn2 (HW1.out)
        | 8, ho =>
          cases ho
          have d5 := hdep ⟨5, .data⟩ (by simp) rfl
          obtain rfl := HI.out.e5 d5
          have d7 := hdep ⟨7, .data⟩ (by simp) rfl
          obtain rfl := HI.out.e7 d7
          have hp0 := hdep ⟨7, .data⟩ (by simp) rfl
          have hw := HI.out.x1 hp0 hd
          have q10 : done listed 10 = false := nd hcl (j := 10) rfl ⟨8, .data⟩ (by simp) rfl hd
          have hn2 := q10
          subst hw
          refine opIn_append rfl _ _ _ rfl _ _ _ _ rfl rfl HRn.out ?_
          refine hK _ _ ⟨_, _, _, _, _, _, _, _, _, _, rfl, ?_⟩
          exact HI.out.s8 hi hp0 hn2 (rfl)
        | 9, ho =>
          cases ho
          have d1 := hdep ⟨1, .data⟩ (by simp) rfl
          obtain rfl := HI.out.e1 d1
          go_simp
          refine hK _ _ ⟨_, _, _, _, _, _, _, _, _, _, rfl, ?_⟩
          exact HI.out.s9
        | 10, ho =>
          cases ho
          have d9 := hdep ⟨9, .data⟩ (by simp) rfl
          obtain rfl := HI.out.e9 d9
          have d8 := hdep ⟨8, .data⟩ (by simp) rfl
          obtain rfl := HI.out.e8 d8
          have hp0 := hdep ⟨7, .phase⟩ (by simp) rfl
          have hp1 := hdep ⟨8, .data⟩ (by simp) rfl
          have hw := HI.out.x2 hp1 hd
          subst hw
          go_simp
          refine hK _ _ ⟨_, _, _, _, _, _, _, _, _, _, rfl, ?_⟩
          exact HI.out.s10 hi hp0 hp1 (rfl)
    rintro a' w6 ⟨h6, rfl⟩
    obtain ⟨g1, g2, g3, g4, g5, g6, g7, g8, g9⟩ := HX.out
    obtain ⟨z1, z2, z3, z4, z5, z6, z7⟩ := HW.out
    have hF1 : Fp (fun k => (.slice a0 ps.length cp : Value).ownBlock = some k ∨ k = fb) Wc w6 := by
      rw [h6]
      exact ((z2.trans' z3).trans z4.foot (U := fun k => (.slice a0 ps.length cp : Value).ownBlock = some k ∨ k = fb) (fun _ h => h.elim) (fun _ _ h => .inl h)).trans (Fp.setCell (S := fun k => k = fb) _ _ _ rfl) (fun _ h => h) (fun _ _ h => .inr h)
    have hgn : fb + 1 ≤ gn := (World.ownsRow.lt z4.row gn rfl).1
    have hput := g1.put hs16 _ (.slice (some ⟨gn, 0, none⟩) (ps.length + 1) cn) (ps ++ [⟨x.t, x.v⟩]) (by rw [Nat.zero_add]; exact g2) hF1 (by rw [h6, Nat.zero_add]; exact heap_set z6 _) (by
      rw [h6]
      have hh := Fp.ownsRow (Fp.setCell (S := fun k => k = fb) W2 ⟨fb, s, none⟩ (.slice (some ⟨gn, 0, none⟩) (ps.length + 1) cn) rfl) z4.row (fun k hk e => by simp [Value.ownBlock] at hk; omega)
      exact hh) (fun j hj => by
      simp only [Value.ownBlock, Option.some.injEq] at hj
      subst hj
      rcases z4.lies with h | h
      · exact .inl h
      · refine .inr ?_
        have := z2.size; have := z3.size; omega)
    have hput2 := hput.congr (m' := fun j => Silo.ser j (pre ++ [x])) (by
      intro j
      rw [Silo.ser_append]
      by_cases c : j = s
      · subst c
        rw [if_pos rfl, Silo.ser_same _ _ HI.out.1, ← g4]
      · rw [if_neg c, Silo.ser_other _ _ (by rw [HI.out.1]; omega), List.append_nil])
    rw [Nat.zero_add] at hput2
    refine ⟨_, ⟨_, by simp [g7], hput2, fun k => Iff.rfl⟩, hF1.mono (fun k _ h => ?_), ?_⟩
    · rcases h with h | h
      · exact .inl ((g5 k).2 (.inr ⟨s, _, hs16, g2, h⟩))
      · exact .inl ((g5 k).2 (.inl h))
    · intro k hk
      refine ⟨?_, ?_⟩
      · rcases hk with h | ⟨s', v', hs', hv', hk'⟩
        · exact .inl ((g5 k).2 (.inl h))
        · by_cases c : s = s'
          · subst c
            rw [Array.getElem?_setIfInBounds_self_of_lt (by omega)] at hv'
            cases hv'
            simp only [Value.ownBlock, Option.some.injEq] at hk'
            subst hk'
            rcases z4.lies with h | h
            · exact .inl ((g5 _).2 (.inr ⟨s, _, hs16, g2, h⟩))
            · right
              have := z2.size; have := z3.size; omega
          · rw [Array.getElem?_setIfInBounds_ne c] at hv'
            exact .inl ((g5 k).2 (.inr ⟨s', v', hs', hv', hk'⟩))
      · rcases hk with h | ⟨s', v', hs', hv', hk'⟩
        · rw [h]; exact heap_lt hput2.block
        · obtain ⟨v2, hv2, hr2⟩ := hput2.row s' hs'
          rw [Nat.zero_add, hv'] at hv2
          cases hv2
          exact (World.ownsRow.lt hr2 k hk').2
  case hdone =>
    rintro D Bf Wf hD ⟨cs1, hz1, hset1, hBv⟩ hff hBf hnD _ hdef
    have hs1 := HS.out.2.2.2.2.2.2.2.2.2
    have hf1 := HS.out.2.2.2.2.2.2.2.2.1
    have hset0 := HS.out.2.2.1
    have hT := HS.out.2.2.2.1
    have hfb := HFB.out
    have hold : ∀ s v k, s < 16 → cs[off + s]? = some v → v.ownBlock = some k → k < fb := fun s v k hs hv hk => by
      obtain ⟨v', hv', hr⟩ := hset0.row s hs
      rw [hv] at hv'
      cases hv'
      have := (World.ownsRow.lt hr k hk).2
      omega
    have hsetF : SetAt Wf base tb off ty cs m := (hset0.fp hf1 (fun h => h) (fun _ _ _ _ _ _ h => h)).fp hff (fun h => by
      rcases h with h | h
      · omega
      · exact (hT _ h).1 rfl) (fun s v k hs hv hk h => by
      rcases h with h | h
      · have := hold s v k hs hv hk; omega
      · exact (hT _ h).2 s v hs hv hk)
    have hfw : Fp (LF T tb off cs) w Wf := hf1.trans hff (fun _ h => h.elim) (fun k hk h => by
      rcases h with h | h
      · omega
      · exact .inl h)
    have hnDf : ∀ s v k, s < 16 → cs1[s]? = some v → v.ownBlock = some k → k ≠ D := fun s v k hs hv hk e => by
      subst e
      exact hnD ((hBv _).2 (.inr ⟨s, v, hs, hv, hk⟩))
    have hrows : ∀ s, s < 16 → ∃ v, cs1[s]? = some v ∧ World.ptsAt Wf (fb + 1) v (Silo.ser s xs) := fun s hs => by
      obtain ⟨v, hv, hr⟩ := hset1.row s hs
      rw [Nat.zero_add] at hv
      exact ⟨v, hv, hr⟩
    have hapart : ∀ s s' v v' k, s < 16 → s' < 16 → s ≠ s' → cs1[s]? = some v → cs1[s']? = some v' → v.ownBlock = some k → v'.ownBlock ≠ some k := fun s s' v v' k h1 h2 h3 h4 h5 => hset1.apart s s' v v' k h1 h2 h3 (by rw [Nat.zero_add]; exact h4) (by rw [Nat.zero_add]; exact h5)
    have q0 : Wf.cell? ⟨fb, 0, none⟩ = some cs1[0] := by simp [World.cell?, hset1.block, hz1]
    have q1 : Wf.cell? ⟨fb, 1, none⟩ = some cs1[1] := by simp [World.cell?, hset1.block, hz1]
    have q2 : Wf.cell? ⟨fb, 2, none⟩ = some cs1[2] := by simp [World.cell?, hset1.block, hz1]
    have q3 : Wf.cell? ⟨fb, 3, none⟩ = some cs1[3] := by simp [World.cell?, hset1.block, hz1]
    have q4 : Wf.cell? ⟨fb, 4, none⟩ = some cs1[4] := by simp [World.cell?, hset1.block, hz1]
    have q5 : Wf.cell? ⟨fb, 5, none⟩ = some cs1[5] := by simp [World.cell?, hset1.block, hz1]
    have q6 : Wf.cell? ⟨fb, 6, none⟩ = some cs1[6] := by simp [World.cell?, hset1.block, hz1]
    have q7 : Wf.cell? ⟨fb, 7, none⟩ = some cs1[7] := by simp [World.cell?, hset1.block, hz1]
    have q8 : Wf.cell? ⟨fb, 8, none⟩ = some cs1[8] := by simp [World.cell?, hset1.block, hz1]
    have q9 : Wf.cell? ⟨fb, 9, none⟩ = some cs1[9] := by simp [World.cell?, hset1.block, hz1]
    have q10 : Wf.cell? ⟨fb, 10, none⟩ = some cs1[10] := by simp [World.cell?, hset1.block, hz1]
    have q11 : Wf.cell? ⟨fb, 11, none⟩ = some cs1[11] := by simp [World.cell?, hset1.block, hz1]
    have q12 : Wf.cell? ⟨fb, 12, none⟩ = some cs1[12] := by simp [World.cell?, hset1.block, hz1]
    have q13 : Wf.cell? ⟨fb, 13, none⟩ = some cs1[13] := by simp [World.cell?, hset1.block, hz1]
    have q14 : Wf.cell? ⟨fb, 14, none⟩ = some cs1[14] := by simp [World.cell?, hset1.block, hz1]
    have q15 : Wf.cell? ⟨fb, 15, none⟩ = some cs1[15] := by simp [World.cell?, hset1.block, hz1]
    have h16 := arr16 cs1 hz1
    have HM : Hid (LInv T base tb off ty cs m xs fb D cs1 w 0 Wf) := ⟨cs, m, hsetF, fun s h => by omega, fun s _ => ⟨rfl, rfl⟩, fun _ _ => rfl, rfl, fun s hs _ => hrows s hs, hfw, hdef, heap_lt hset1.block, fun s v k hs hv hk => .inl ⟨v, hv, hk⟩⟩
    have HC : Hid _ := And.intro hnDf (And.intro hapart hold)
    have hDf : fb < D := by omega
    clear hset1 hBv hff hBf hnD hdef hs1 hf1 hset0 hT hfb hold hsetF hfw hnDf hrows hapart
    gi_wp2_with fail
    clear h16 q0 q1 q2 q3 q4 q5 q6 q7 q8 q9 q10 q11 q12 q13 q14 q15 hz1
    gi_loopw [7, 8, 27] (fun _ _ iv wr => ∃ k : Nat, k ≤ 16 ∧ iv = .int .i64 k ∧ Hid (LInv T base tb off ty cs m xs fb D cs1 w k wr)) (fun _ _ iv _ => 16 - (intOf iv).toNat)
    case atStart => exact ⟨0, by omega, rfl, HM.out⟩
    case round =>
      obtain ⟨jj, hk, rfl, HQ⟩ := hrel
      by_cases hlt : jj < 16
      · obtain ⟨cs2, m2, hset, h1, h2, h3, h4, h5, hfp, hdef, hwf, h8⟩ := HQ.out
        obtain ⟨fv, hfv, hfrow⟩ := h5 jj hlt (Nat.le_refl _)
        obtain ⟨av, cv, rfl⟩ := ptsAt_form hfrow
        obtain ⟨ps, hps⟩ : ∃ ps, Silo.ser jj xs = ps := ⟨_, rfl⟩
        rw [hps] at hfrow hfv
        obtain ⟨pn, hpn⟩ : ∃ pn, ps.length = pn := ⟨_, rfl⟩
        rw [hpn] at hfrow hfv
        have hpl : ps.length + (m jj).length ≤ 1099511627776 := by
          rw [← hps]
          have q1 := Silo.ser_length jj xs
          have q2 := HS.out.2.2.2.2.2.2.1 jj hlt
          omega
        obtain ⟨lv, hlv, hlrow⟩ := hset.row jj hlt
        rw [(h2 jj (Nat.le_refl _)).1] at hlrow
        have hlv0 : cs[off + jj]? = some lv := by rw [← (h2 jj (Nat.le_refl _)).2]; exact hlv
        have HSET : Hid (True ∧ Calls Try.prog 33 #[.slice av pn cv] wr.drew fun e w' => ∃ v', e = .returned v' ∧ Hid (LA fb xs jj (.slice av pn cv) wr w' v')) := by
          refine ⟨trivial, (settled_row (fb + 1) (.slice av pn cv) ps wr.drew (Fp.ownsRow (Fp.drew (fun _ => False) wr) hfrow (fun _ _ h => h)) (by omega)).mono ?_⟩
          rintro e w' ⟨v', rs, rfl, r1, r2, r3, r4⟩
          exact ⟨v', rfl, rs, by rw [hps]; exact r1, r2, r3, (Fp.drew _ wr).trans' r4⟩
        have hfown : ∀ k, (Value.slice av pn cv).ownBlock = some k → fb + 1 ≤ k := fun k hk => (World.ownsRow.lt hfrow k hk).1
        have hsr : ∀ w5 v5, LA fb xs jj (.slice av pn cv) wr w5 v5 → SetAt w5 base tb off ty cs2 m2 := fun w5 v5 h => by
          obtain ⟨rs, _, _, _, r4⟩ := h
          refine hset.fp r4 (fun e => by have := hfown _ e; omega) (fun s v k hs hv hk e => ?_)
          have q1 := hfown _ e
          rcases h8 s v k hs hv hk with ⟨v0, q2, q3⟩ | q2
          · have := HC.out.2.2 s v0 k hs q2 q3; omega
          · exact absurd (q2.2 jj _ hlt (Nat.le_refl _) hfv e) (fun h => h)
        have HLAY : Hid (∀ w5 v5, LA fb xs jj (.slice av pn cv) wr w5 v5 → True ∧ Calls Try.prog 32 #[.pointer (some ⟨tb, off + jj, none⟩), v5] w5 fun e w' => e = .returned (.tuple #[]) ∧ LC base tb off ty jj cs2 lv (m jj) fb xs w5 v5 w') := fun w5 v5 h => by
          have hs5 := hsr w5 v5 h
          obtain ⟨rs, r1, r2, r3, r4⟩ := h
          obtain ⟨lv', hlv', hlr'⟩ := hs5.row jj hlt
          rw [hlv] at hlv'
          cases hlv'
          rw [(h2 jj (Nat.le_refl _)).1] at hlr'
          refine ⟨trivial, (LineLay_any base (fb + 1) tb (off + jj) cs2 ty lv v5 (m jj) rs w5 hs5.block hs5.kind hlv hlr' hs5.below (by have := r4.size; omega) r2 (fun j hj hj' => ?_) (HS.out.2.2.2.2.2.1 jj hlt) ?_).mono ?_⟩
          · rw [r3] at hj'
            have q1 := hfown j hj'
            have q2 := HC.out.2.2 jj lv j hlt hlv0 hj
            omega
          · obtain ⟨qs, _, _, e3⟩ := r1
            have q1 := Silo.ddTo_le qs (Silo.ser jj xs).length
            rw [← e3, hps] at q1
            omega
          · rintro e w6 ⟨rfl, v', q1, q2, q3, q4⟩
            exact ⟨rfl, v', rs, r1, q1, q2, q3, q4⟩
        have HX : Hid _ := And.intro hset (And.intro h1 (And.intro h2 (And.intro h3 (And.intro h4 (And.intro h5 (And.intro hfp (And.intro hdef (And.intro hwf (And.intro h8 (And.intro hlv (And.intro hlv0 (And.intro hfown (And.intro hsr hfv)))))))))))))
        have i1 : (0 : Int) ≤ (jj : Int) := by omega
        have i2 : (jj : Int) < 16 := by omega
        have hix := index16 wr cs1 jj _ hlt hfv
        clear hset h1 h2 h3 h4 h5 hfp hdef hwf h8 hfrow hpn hps hlv hlrow hlv0 hfown hsr hfv hpl
        gi_wp2_with fail
        refine wpIn_cutQ (fun a' w' => ∃ u37, (∃ w5, LA fb xs jj (.slice av pn cv) wr w5 u37 ∧ LC base tb off ty jj cs2 lv (m jj) fb xs w5 u37 w') ∧ a' = { tmps := #[.pointer (some ⟨tb, off, none⟩), .func (.func gf) #[] lb, undef, undef, .pointer (some ⟨fb, 0, none⟩), undef, undef, .int .i64 (jj : Nat), .slice av pn cv, .func (.func gf) #[] lb, undef, undef, undef, undef, undef, undef, undef, undef, undef, undef, undef, undef, undef, undef, undef, undef, .agg cs1, .int .i64 (jj : Nat), .bool true, .int .i64 (jj : Nat), .slice av pn cv, .pointer (some ⟨tb, off, none⟩), .int .i64 (jj : Nat), .pointer (some ⟨tb, off, none⟩), .pointer (some ⟨tb, off, none⟩), .pointer (some ⟨tb, (off + jj), none⟩), .slice av pn cv, u37, .tuple #[], u39], defers := [{ target := .collected D, args := #[] }] }) ?r9 ?k9
        case r9 =>
          refine wpIn_region_inv (by kernel_rfl) (by kernel_rfl) (fun listed a' w' => ∃ u31 u32 u33 u34 u35 u36 u37 u38 : Value, a' = { tmps := #[.pointer (some ⟨tb, off, none⟩), .func (.func gf) #[] lb, undef, undef, .pointer (some ⟨fb, 0, none⟩), undef, undef, .int .i64 (jj : Nat), .slice av pn cv, .func (.func gf) #[] lb, undef, undef, undef, undef, undef, undef, undef, undef, undef, undef, undef, undef, undef, undef, undef, undef, .agg cs1, .int .i64 (jj : Nat), .bool true, .int .i64 (jj : Nat), .slice av pn cv, u31, u32, u33, u34, u35, u36, u37, u38, u39], defers := [{ target := .collected D, args := #[] }] } ∧ Hid (LyB wr tb off jj pn cv av (LA fb xs jj (.slice av pn cv) wr) (LC base tb off ty jj cs2 lv (m jj) fb xs) listed u31 u32 u33 u34 u35 u36 u37 u38 w')) ?r0 ?rend ?rstep
          case r0 => exact ⟨_, _, _, _, _, _, _, _, rfl, LyB.start (rfl)⟩
          case rend =>
            rintro listed a' w' hall ⟨u31, u32, u33, u34, u35, u36, u37, u38, rfl, HI⟩
            obtain rfl := HI.out.e0 (hall 0 (by decide))
            obtain rfl := HI.out.e1 (hall 1 (by decide))
            obtain rfl := HI.out.e2 (hall 2 (by decide))
            obtain rfl := HI.out.e3 (hall 3 (by decide))
            obtain rfl := HI.out.e4 (hall 4 (by decide))
            obtain rfl := HI.out.e5 (hall 5 (by decide))
            obtain rfl := HI.out.e7 (hall 7 (by decide))
            have hw := HI.out.x2 (hall 7 (by decide))
            exact ⟨_, hw, rfl⟩
          case rstep =>
            rintro listed a' w' i o ho hi hd hdep hcl ⟨u31, u32, u33, u34, u35, u36, u37, u38, rfl, HI⟩ K hK
            match i, ho with
            | 0, ho =>
              cases ho
              go_simp
              refine hK _ _ ⟨_, _, _, _, _, _, _, _, rfl, ?_⟩
              exact HI.out.s0
            | 1, ho =>
              cases ho
              go_simp
              refine hK _ _ ⟨_, _, _, _, _, _, _, _, rfl, ?_⟩
              exact HI.out.s1
            | 2, ho =>
              cases ho
              have d0 := hdep ⟨0, .data⟩ (by simp) rfl
              obtain rfl := HI.out.e0 d0
              go_simp
              refine hK _ _ ⟨_, _, _, _, _, _, _, _, rfl, ?_⟩
              exact HI.out.s2
            | 3, ho =>
              cases ho
              have d2 := hdep ⟨2, .data⟩ (by simp) rfl
              obtain rfl := HI.out.e2 d2
              go_simp
              refine hK _ _ ⟨_, _, _, _, _, _, _, _, rfl, ?_⟩
              exact HI.out.s3
            | 4, ho =>
              cases ho
              have d3 := hdep ⟨3, .data⟩ (by simp) rfl
              obtain rfl := HI.out.e3 d3
              have d1 := hdep ⟨1, .data⟩ (by simp) rfl
              obtain rfl := HI.out.e1 d1
              go_simp
              refine hK _ _ ⟨_, _, _, _, _, _, _, _, rfl, ?_⟩
              exact HI.out.s4
            | 5, ho =>
              cases ho
              go_simp
              refine hK _ _ ⟨_, _, _, _, _, _, _, _, rfl, ?_⟩
              exact HI.out.s5
            | 6, ho =>
              cases ho
              have d5 := hdep ⟨5, .data⟩ (by simp) rfl
              obtain rfl := HI.out.e5 d5
              have hw := HI.out.x0 hd
              have q7 : done listed 7 = false := nd hcl (j := 7) rfl ⟨6, .data⟩ (by simp) rfl hd
              have hn := q7
              subst hw
              go_simp
              refine ⟨trivial, fun _ => by omega, (callsIn_wide.2 HSET.out.2).mono ?_⟩
              rintro e w5 ⟨v5, rfl, h5⟩
              refine hK _ _ ⟨_, _, _, _, _, _, _, _, rfl, ?_⟩
              exact HI.out.s6 hi hn (h5.out)
            | 7, ho =>
              cases ho
              have d4 := hdep ⟨4, .data⟩ (by simp) rfl
              obtain rfl := HI.out.e4 d4
              have hp := hdep ⟨6, .data⟩ (by simp) rfl
              have hw := HI.out.x1 hp hd
              go_simp
              refine ⟨trivial, fun _ => by omega, (callsIn_wide.2 (HLAY.out _ _ hw).2).mono ?_⟩
              rintro e w6 ⟨rfl, h6⟩
              refine hK _ _ ⟨_, _, _, _, _, _, _, _, rfl, ?_⟩
              exact HI.out.s7 hi hp (⟨_, hw, h6⟩)
        rintro a' w6 ⟨v6, h6, rfl⟩
        dsimp only
        have H6 : Hid _ := h6
        clear h6 hix
        gi_wp2
        go_roundw
        case rel =>
          obtain ⟨g1, g2, g3, g4, g5, g6, g7, g8, g9, g10, g11, g12, g13, g14, g15⟩ := HX.out
          obtain ⟨w5, hA, v', rs, r1, q1, q2, q3, q4⟩ := H6.out
          have hs5 := g14 w5 v6 hA
          obtain ⟨rs0, _, _, a3, a4⟩ := hA
          have hput := hs5.put hlt lv v' (Silo.mergeL (m jj) rs) g11 q3 q1 q2 q4
          have hfb := HFB.out
          have hlown : ∀ j, lv.ownBlock = some j → j < fb := fun j hj => HC.out.2.2 jj lv j hlt g12 hj
          have hz4 := a4.size
          have hz3 := q3.size
          refine ⟨jj + 1, by omega, by go_num, _, _, hput, fun s hs => ?_, fun s hs => ?_, fun i hi => ?_, by simp [g5], fun s hs hjs => ?_, ?_, ?_, by omega, fun s v j hs hv hj => ?_⟩
          · by_cases c : s = jj
            · subst c; simp only [if_true]; exact ⟨rs, r1, rfl⟩
            · simp only [if_neg c]; exact g2 s (by omega)
          · simp only [if_neg (show s ≠ jj by omega)]
            rw [Array.getElem?_setIfInBounds_ne (by omega)]
            exact g3 s (by omega)
          · rw [Array.getElem?_setIfInBounds_ne (by omega)]
            exact g4 i hi
          · obtain ⟨fv, hfv, hfr⟩ := g6 s hs (by omega)
            refine ⟨fv, hfv, Fp.ownsRow q3 (Fp.ownsRow a4 hfr (fun k hk e => ?_)) (fun k hk e => ?_)⟩
            · exact HC.out.2.1 s jj fv _ k hs hlt (by omega) hfv g15 hk e
            · have q5 := (World.ownsRow.lt hfr k hk).1
              rcases e with e | e
              · have := hlown k e; omega
              · omega
          · refine (g7.trans a4 (fun _ h => h) (fun k hk h => ?_)).trans q3 (fun _ h => h) (fun k hk h => ?_)
            · have := g13 k h; omega
            · rcases h with h | h
              · exact .inr (.inr ⟨jj, lv, hlt, g12, h⟩)
              · exact .inr (.inl h)
          · have q5 := heap_lt g8
            refine (q3.block D (by omega) (fun h => ?_)).trans ((a4.block D q5 (fun h => HC.out.1 jj _ D hlt g15 h rfl)).trans g8)
            rcases h with h | h
            · have := hlown D h; omega
            · omega
          · by_cases c : s = jj
            · subst c
              rw [Array.getElem?_setIfInBounds_self_of_lt (by have := g1.size; omega)] at hv
              cases hv
              rcases q4 j hj with h | h
              · exact .inl ⟨lv, g12, h⟩
              · refine .inr ⟨by omega, fun s' v'' hs' hjs' hv'' e => ?_⟩
                obtain ⟨fv, hfv, hfr⟩ := g6 s' hs' (by omega)
                rw [hv''] at hfv
                cases hfv
                have := (World.ownsRow.lt hfr j e).2
                omega
            · rw [Array.getElem?_setIfInBounds_ne (by omega)] at hv
              rcases g10 s v j hs hv hj with h | h
              · exact .inl h
              · exact .inr ⟨h.1, fun s' v'' hs' hjs' => h.2 s' v'' hs' (by omega)⟩
        case measure => simp [intOf]; omega
      · obtain rfl : jj = 16 := by omega
        gi_wp2
        obtain ⟨cs2, m2, hset, h1, h2, h3, h4, h5, hfp, hdef, hwf, h8⟩ := HQ.out
        have hfb := HFB.out
        have hfD : Fp (fun k => k = D) wr (wr.putObj D (.deferred none)) := Fp.putObj _ _ _ rfl
        have hb0 := hset.below
        refine ⟨by simp, .inl ⟨D, _, rfl, run_takeDeferred hdef, ?_⟩⟩
        refine ⟨_, results_none rfl _ _ _, rfl, cs2, m2, hset.fp hfD (by omega) (fun s v k hs hv hk e => ?_), fun s hs => h1 s hs, h3, h4, hfp.trans hfD (fun _ h => h) (fun k hk e => by omega), fun s v k hs hv hk => ?_⟩
        · subst e
          obtain ⟨v', hv', hr'⟩ := hset.row s hs
          rw [hv] at hv'
          cases hv'
          exact own_deferred hr' hk hdef
        · rcases h8 s v k hs hv hk with h | h
          · exact .inl h
          · right; omega

end Go.Proofs.Ytojjkjfcbfoinaa
