/- A set, read: Count, Points. -/
import Derived.Test.YteoboonapcjadaaValues
namespace Go.Proofs.Yteoboonapcjadaa
open Go.RowKit Go.Shelf

/-- A set lies in block tb: its sixteen slices. -/
structure SetAt (w : World) (base tb : Nat) (cs : Array Value) (m : Nat → List Silo.Pt) : Prop where
  block : w.heap[tb]? = some (.cells cs 60 (0, 0))
  size : cs.size = 16
  below : tb < base
  row : ∀ s, s < 16 → ∃ v, cs[s]? = some v ∧ World.ptsAt w base v (m s)
  apart : ∀ s s' v v' k, s < 16 → s' < 16 → s ≠ s' → cs[s]? = some v → cs[s']? = some v' → v.ownBlock = some k → v'.ownBlock ≠ some k

theorem SetAt.fp {w w' : World} {T : Nat → Prop} {base tb : Nat} {cs : Array Value} {m : Nat → List Silo.Pt} (h : SetAt w base tb cs m) (hf : Fp T w w') (htb : ¬ T tb)
    (hrow : ∀ s v k, s < 16 → cs[s]? = some v → v.ownBlock = some k → ¬ T k) : SetAt w' base tb cs m where
  block := (hf.block _ (heap_lt h.block) htb).trans h.block
  size := h.size
  below := h.below
  row := fun s hs => by
    obtain ⟨v, hv, hr⟩ := h.row s hs
    exact ⟨v, hv, Fp.ownsRow hf hr (fun k hk => hrow s v k hs hv hk)⟩
  apart := h.apart

theorem ptsAt_form {w : World} {base : Nat} {v : Value} {ps : List Silo.Pt} (h : World.ptsAt w base v ps) : ∃ a c, v = .slice a ps.length c := by
  rcases h.2 with ⟨h1, h2⟩ | ⟨g, cap, cur, h3, _⟩
  · exact ⟨none, 0, by rw [h1, h2]⟩
  · exact ⟨_, _, h3⟩

set_option maxHeartbeats 400000 in
theorem SetCount_any (w : World) (base tb s : Nat) (cs : Array Value) (m : Nat → List Silo.Pt) (h : SetAt w base tb cs m) (hs : s < 16) (_hlen : (m s).length ≤ 1099511627776) :
    Calls Try.prog 32 #[.pointer (some ⟨tb, 0, none⟩), .int .i64 s] w fun e w' => e = .returned (.int .i64 ((m s).length : Nat)) ∧ w' = w := by
  obtain ⟨v, hv, hr⟩ := h.row s hs
  obtain ⟨a, c, rfl⟩ := ptsAt_form hr
  have hc : w.cell? ⟨tb, s, none⟩ = some (.slice a (m s).length c) := by simp [World.cell?, h.block, hv]
  have i1 : (0 : Int) ≤ (s : Int) := by omega
  have i2 : (s : Int) < 16 := by omega
  clear h hr hv
  go_enter Try.func32, Try.ntmps32
  go_wp2
  go_ret
  exact ⟨ret_val (by simp), rfl⟩

set_option maxHeartbeats 400000 in
theorem SetPoints_any (w : World) (base tb s : Nat) (cs : Array Value) (m : Nat → List Silo.Pt) (h : SetAt w base tb cs m) (hs : s < 16) :
    Calls Try.prog 47 #[.pointer (some ⟨tb, 0, none⟩), .int .i64 s] w fun e w' => ∃ a c, cs[s]? = some (.slice a (m s).length c) ∧ World.ptsAt w base (.slice a (m s).length c) (m s) ∧
      e = .returned (.func (.func 70) #[] #[.pointer (some ⟨w.heap.size, 0, none⟩)]) ∧ w' = w.alloc (.cells #[.slice a (m s).length c] 57) := by
  obtain ⟨v, hv, hr⟩ := h.row s hs
  obtain ⟨a, c, rfl⟩ := ptsAt_form hr
  have hc : w.cell? ⟨tb, s, none⟩ = some (.slice a (m s).length c) := by simp [World.cell?, h.block, hv]
  have i1 : (0 : Int) ≤ (s : Int) := by omega
  have i2 : (s : Int) < 16 := by omega
  have HR : Hid _ := And.intro hv hr
  clear h hr hv
  go_enter Try.func47, Try.ntmps47
  go_wp2_with fail
  refine (Values_any a (m s).length c w).mono ?_
  rintro e w1 ⟨rfl, rfl⟩
  go_wp2
  go_ret
  exact ⟨a, c, HR.out.1, HR.out.2, ret_val (by simp), rfl⟩

end Go.Proofs.Yteoboonapcjadaa
