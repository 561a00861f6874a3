/- A set and its lines, read: Line, Count, Points. -/
import Derived.Test.YtojjkjfcbfoinaaValues
namespace Go.Proofs.Ytojjkjfcbfoinaa
open Go.RowKit Go.Shelf

/-- A block of this type holds neither bytes nor points. -/
def Kind (ty : TypeId) : Prop := ty ≠ 5 ∧ ty ≠ 80

/-- A line: the slice in cell k of block tb. -/
def LineAt (w : World) (base tb k : Nat) (v : Value) (ps : List Silo.Pt) : Prop :=
  ∃ cs ty, w.heap[tb]? = some (.cells cs ty (0, 0)) ∧ Kind ty ∧ cs[k]? = some v ∧ World.ptsAt w base v ps ∧ tb < base

theorem LineAt.lt {w : World} {base tb k : Nat} {v : Value} {ps : List Silo.Pt} (h : LineAt w base tb k v ps) : tb < w.heap.size := by
  obtain ⟨cs, ty, h1, _⟩ := h
  exact heap_lt h1

theorem LineAt.row {w : World} {base tb k : Nat} {v : Value} {ps : List Silo.Pt} (h : LineAt w base tb k v ps) : World.ptsAt w base v ps := by
  obtain ⟨cs, ty, _, _, _, h4, _⟩ := h
  exact h4

theorem LineAt.fp {w w' : World} {T : Nat → Prop} {base tb k : Nat} {v : Value} {ps : List Silo.Pt} (h : LineAt w base tb k v ps) (hf : Fp T w w') (htb : ¬ T tb) (hrow : ∀ j, v.ownBlock = some j → ¬ T j) : LineAt w' base tb k v ps := by
  obtain ⟨cs, ty, h1, h2, h3, h4, h5⟩ := h
  exact ⟨cs, ty, (hf.block _ (heap_lt h1) htb).trans h1, h2, h3, Fp.ownsRow hf h4 hrow, h5⟩

theorem LineAt.drew {w : World} {base tb k : Nat} {v : Value} {ps : List Silo.Pt} (h : LineAt w base tb k v ps) : LineAt w.drew base tb k v ps := h.fp (Fp.drew (fun _ => False) w) (fun h => h) (fun _ _ h => h)

/-- A set lies in block tb, from cell off on: its sixteen slices. -/
structure SetAt (w : World) (base tb off : Nat) (ty : TypeId) (cs : Array Value) (m : Nat → List Silo.Pt) : Prop where
  block : w.heap[tb]? = some (.cells cs ty (0, 0))
  kind : Kind ty
  size : off + 16 ≤ cs.size
  below : tb < base
  row : ∀ s, s < 16 → ∃ v, cs[off + s]? = some v ∧ World.ptsAt w base v (m s)
  apart : ∀ s s' v v' k, s < 16 → s' < 16 → s ≠ s' → cs[off + s]? = some v → cs[off + s']? = some v' → v.ownBlock = some k → v'.ownBlock ≠ some k

theorem SetAt.fp {w w' : World} {T : Nat → Prop} {base tb off : Nat} {ty : TypeId} {cs : Array Value} {m : Nat → List Silo.Pt} (h : SetAt w base tb off ty cs m) (hf : Fp T w w') (htb : ¬ T tb)
    (hrow : ∀ s v k, s < 16 → cs[off + s]? = some v → v.ownBlock = some k → ¬ T k) : SetAt w' base tb off ty cs m where
  block := (hf.block _ (heap_lt h.block) htb).trans h.block
  kind := h.kind
  size := h.size
  below := h.below
  row := fun s hs => by
    obtain ⟨v, hv, hr⟩ := h.row s hs
    exact ⟨v, hv, Fp.ownsRow hf hr (fun k hk => hrow s v k hs hv hk)⟩
  apart := h.apart

theorem SetAt.line {w : World} {base tb off : Nat} {ty : TypeId} {cs : Array Value} {m : Nat → List Silo.Pt} (h : SetAt w base tb off ty cs m) (s : Nat) (hs : s < 16) : ∃ v, cs[off + s]? = some v ∧ LineAt w base tb (off + s) v (m s) := by
  obtain ⟨v, hv, hr⟩ := h.row s hs
  exact ⟨v, hv, cs, ty, h.block, h.kind, hv, hr, h.below⟩

theorem ptsAt_form {w : World} {base : Nat} {v : Value} {ps : List Silo.Pt} (h : World.ptsAt w base v ps) : ∃ a c, v = .slice a ps.length c := by
  rcases h.2 with ⟨h1, h2⟩ | ⟨g, cap, cur, h3, _⟩
  · exact ⟨none, 0, by rw [h1, h2]⟩
  · exact ⟨_, _, h3⟩

set_option maxHeartbeats 400000 in
theorem SetLine_any (w : World) (tb off s : Nat) (hs : s < 16) :
    Calls Try.prog 36 #[.pointer (some ⟨tb, off, none⟩), .int .i64 s] w fun e w' => e = .returned (.pointer (some ⟨tb, off + s, none⟩)) ∧ w' = w := by
  have i1 : (0 : Int) ≤ (s : Int) := by omega
  have i2 : (s : Int) < 16 := by omega
  go_enter Try.func36, Try.ntmps36
  go_wp2
  go_ret
  exact ⟨ret_val (by simp), rfl⟩

set_option maxHeartbeats 400000 in
theorem LineCount_any (w : World) (base tb k : Nat) (v : Value) (ps : List Silo.Pt) (h : LineAt w base tb k v ps) (_hlen : ps.length ≤ 1099511627776) :
    Calls Try.prog 37 #[.pointer (some ⟨tb, k, none⟩)] w fun e w' => e = .returned (.int .i64 (ps.length : Nat)) ∧ w' = w := by
  obtain ⟨cs, ty, hb, _, hv, hr, _⟩ := h
  obtain ⟨a, c, rfl⟩ := ptsAt_form hr
  have hc : w.cell? ⟨tb, k, none⟩ = some (.slice a ps.length c) := by simp [World.cell?, hb, hv]
  clear hb hr hv
  go_enter Try.func37, Try.ntmps37
  go_wp2
  go_ret
  exact ⟨ret_val (by simp), rfl⟩

set_option maxHeartbeats 400000 in
theorem LinePoints_any (w : World) (base tb k : Nat) (v : Value) (ps : List Silo.Pt) (h : LineAt w base tb k v ps) :
    Calls Try.prog 57 #[.pointer (some ⟨tb, k, none⟩)] w fun e w' => ∃ a c, v = .slice a ps.length c ∧
      e = .returned (.func (.func 85) #[] #[.pointer (some ⟨w.heap.size, 0, none⟩)]) ∧ w' = w.alloc (.cells #[.slice a ps.length c] 58) := by
  obtain ⟨cs, ty, hb, _, hv, hr, _⟩ := h
  obtain ⟨a, c, rfl⟩ := ptsAt_form hr
  have hc : w.cell? ⟨tb, k, none⟩ = some (.slice a ps.length c) := by simp [World.cell?, hb, hv]
  clear hb hr hv
  go_enter Try.func57, Try.ntmps57
  go_wp2_with fail
  refine (Values_any a ps.length c w).mono ?_
  rintro e w1 ⟨rfl, rfl⟩
  go_wp2
  go_ret
  exact ⟨a, c, rfl, ret_val (by simp), rfl⟩

end Go.Proofs.Ytojjkjfcbfoinaa
