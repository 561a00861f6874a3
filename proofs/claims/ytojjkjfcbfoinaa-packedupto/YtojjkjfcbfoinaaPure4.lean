/- Plain facts: points in a list that is turned about in place, stably. -/
import Derived.Test.YtojjkjfcbfoinaaPure3
namespace Silo

/-- The point at a place. -/
def ptAt (ps : List Pt) (k : Nat) : Pt := ps[k]?.getD ⟨0, 0⟩

theorem ptAt_eq (ps : List Pt) (k : Nat) (h : k < ps.length) : ptAt ps k = ps[k] := by simp [ptAt, h]

theorem ptAt_set_same (ps : List Pt) (k : Nat) (p : Pt) (h : k < ps.length) : ptAt (ps.set k p) k = p := by simp [ptAt, h]
theorem ptAt_set_ne (ps : List Pt) (k j : Nat) (p : Pt) (h : k ≠ j) : ptAt (ps.set k p) j = ptAt ps j := by simp [ptAt, List.getElem?_set_ne h]

/-- Two points change places. -/
def sw (ps : List Pt) (i j : Nat) : List Pt := (ps.set i (ptAt ps j)).set j (ptAt ps i)

theorem sw_length (ps : List Pt) (i j : Nat) : (sw ps i j).length = ps.length := by simp [sw]

theorem sw_at (ps : List Pt) (i j k : Nat) (hi : i < ps.length) (hj : j < ps.length) : ptAt (sw ps i j) k = if k = j then ptAt ps i else if k = i then ptAt ps j else ptAt ps k := by
  unfold sw
  by_cases h1 : k = j
  · subst h1; rw [ptAt_set_same _ _ _ (by simpa using hj), if_pos rfl]
  · rw [ptAt_set_ne _ _ _ _ (fun e => h1 e.symm), if_neg h1]
    by_cases h2 : k = i
    · subst h2; rw [ptAt_set_same _ _ _ hi, if_pos rfl]
    · rw [ptAt_set_ne _ _ _ _ (fun e => h2 e.symm), if_neg h2]

theorem list_ext_at {a b : List Pt} (hl : a.length = b.length) (h : ∀ k, k < a.length → ptAt a k = ptAt b k) : a = b := by
  apply List.ext_getElem hl
  intro i h1 h2
  have := h i h1
  rwa [ptAt_eq _ _ h1, ptAt_eq _ _ h2] at this

/-- Stable: the points of one time stand in the order in which they stood. -/
def Stab (a b : List Pt) : Prop := ∀ t : Int, a.filter (fun p => p.t == t) = b.filter (fun p => p.t == t)

theorem Stab.refl (a : List Pt) : Stab a a := fun _ => rfl
theorem Stab.trans {a b c : List Pt} (h : Stab a b) (k : Stab b c) : Stab a c := fun t => (h t).trans (k t)

/-- Two stretches whose times do not meet change places. -/
theorem Stab.rot (l x y r : List Pt) (h : ∀ p ∈ x, ∀ q ∈ y, p.t ≠ q.t) : Stab (l ++ (x ++ (y ++ r))) (l ++ (y ++ (x ++ r))) := by
  intro t
  simp only [List.filter_append]
  congr 1
  rw [← List.append_assoc, ← List.append_assoc]
  congr 1
  by_cases hx : x.filter (fun p => p.t == t) = []
  · rw [hx]; simp
  · by_cases hy : y.filter (fun p => p.t == t) = []
    · rw [hy]; simp
    · exfalso
      obtain ⟨p, hp⟩ := List.exists_mem_of_ne_nil _ hx
      obtain ⟨q, hq⟩ := List.exists_mem_of_ne_nil _ hy
      rw [List.mem_filter] at hp hq
      exact h p hp.1 q hq.1 (by rw [eq_of_beq hp.2, eq_of_beq hq.2])

/-- A list, parted. -/
theorem part (ps : List Pt) (a m b : Nat) (h1 : a ≤ m) (h2 : m ≤ b) :
    ps = ps.take a ++ ((ps.take m).drop a ++ ((ps.take b).drop m ++ ps.drop b)) := by
  have e1 : ps.take b = ps.take m ++ (ps.take b).drop m := by
    conv => lhs; rw [← List.take_append_drop m (ps.take b)]
    rw [List.take_take, Nat.min_eq_left h2]
  have e2 : ps.take m = ps.take a ++ (ps.take m).drop a := by
    conv => lhs; rw [← List.take_append_drop a (ps.take m)]
    rw [List.take_take, Nat.min_eq_left h1]
  conv => lhs; rw [← List.take_append_drop b ps, e1, e2]
  simp

/-- Two stretches that stand beside each other, turned about. -/
def rot (ps : List Pt) (a m b : Nat) : List Pt := ps.take a ++ ((ps.take b).drop m ++ ((ps.take m).drop a ++ ps.drop b))

theorem rot_length (ps : List Pt) (a m b : Nat) (h1 : a ≤ m) (h2 : m ≤ b) (h3 : b ≤ ps.length) : (rot ps a m b).length = ps.length := by
  simp [rot]; omega

theorem rot_at (ps : List Pt) (a m b k : Nat) (h1 : a ≤ m) (h2 : m ≤ b) (h3 : b ≤ ps.length) :
    ptAt (rot ps a m b) k = if k < a then ptAt ps k else if k < a + (b - m) then ptAt ps (k - a + m) else if k < b then ptAt ps (k - (b - m)) else ptAt ps k := by
  unfold rot ptAt
  by_cases c1 : k < a
  · rw [if_pos c1, List.getElem?_append_left (by simp; omega), List.getElem?_take_of_lt c1]
  · rw [if_neg c1, List.getElem?_append_right (by simp; omega)]
    have l1 : (ps.take a).length = a := by simp; omega
    rw [l1]
    by_cases c2 : k < a + (b - m)
    · rw [if_pos c2, List.getElem?_append_left (by simp; omega), List.getElem?_drop, List.getElem?_take_of_lt (by omega)]
      congr 2; omega
    · rw [if_neg c2, List.getElem?_append_right (by simp; omega)]
      have l2 : ((ps.take b).drop m).length = b - m := by simp; omega
      rw [l2]
      by_cases c3 : k < b
      · rw [if_pos c3, List.getElem?_append_left (by simp; omega), List.getElem?_drop, List.getElem?_take_of_lt (by omega)]
        congr 2; omega
      · rw [if_neg c3, List.getElem?_append_right (by simp; omega)]
        have l3 : ((ps.take m).drop a).length = m - a := by simp; omega
        rw [l3, List.getElem?_drop]
        congr 2; omega

theorem rot_stab (ps : List Pt) (a m b : Nat) (h1 : a ≤ m) (h2 : m ≤ b) (h3 : b ≤ ps.length) (h : ∀ i j, a ≤ i → i < m → m ≤ j → j < b → (ptAt ps i).t ≠ (ptAt ps j).t) : Stab ps (rot ps a m b) := by
  have e := part ps a m b h1 h2
  unfold rot
  conv => lhs; rw [e]
  refine Stab.rot _ _ _ _ ?_
  intro p hp q hq
  obtain ⟨i, hi, rfl⟩ := List.getElem_of_mem hp
  obtain ⟨j, hj, rfl⟩ := List.getElem_of_mem hq
  simp at hi hj
  have := h (a + i) (m + j) (by omega) (by omega) (by omega) (by omega)
  rw [ptAt_eq _ _ (by omega), ptAt_eq _ _ (by omega)] at this
  simpa using this

/-- Two neighbours change places: a turn of stretches of one. -/
theorem sw_rot (ps : List Pt) (j : Nat) (h : j + 1 < ps.length) : sw ps (j + 1) j = rot ps j (j + 1) (j + 2) := by
  refine list_ext_at (by rw [sw_length, rot_length _ _ _ _ (by omega) (by omega) (by omega)]) ?_
  intro k hk
  rw [sw_at _ _ _ _ (by omega) (by omega), rot_at _ _ _ _ _ (by omega) (by omega) (by omega)]
  by_cases c1 : k = j
  · subst c1; simp
    try (congr 1; omega)
  · by_cases c2 : k = j + 1
    · subst c2; simp
      intro h'; omega
    · by_cases c3 : k < j
      · simp [c1, c2, c3]
      · simp [c1, c2, c3]
        rw [if_neg (by omega), if_neg (by omega)]

/-- In rising order from a to b. -/
def Sorted (ps : List Pt) (a b : Nat) : Prop := ∀ i j, a ≤ i → i < j → j < b → (ptAt ps i).t ≤ (ptAt ps j).t

/-- Nothing outside of a to b has turned; stable. -/
structure Within (ps qs : List Pt) (a b : Nat) : Prop where
  len : qs.length = ps.length
  stab : Stab ps qs
  out : ∀ k, k < a ∨ b ≤ k → ptAt qs k = ptAt ps k
  inn : ∀ k, a ≤ k → k < b → ∃ j, a ≤ j ∧ j < b ∧ ptAt qs k = ptAt ps j

theorem Within.refl (ps : List Pt) (a b : Nat) : Within ps ps a b := ⟨rfl, Stab.refl _, fun _ _ => rfl, fun k h1 h2 => ⟨k, h1, h2, rfl⟩⟩

theorem Within.trans {ps qs rs : List Pt} {a b : Nat} (h : Within ps qs a b) (k : Within qs rs a b) : Within ps rs a b :=
  ⟨k.len.trans h.len, h.stab.trans k.stab, fun i hi => (k.out i hi).trans (h.out i hi), fun i h1 h2 => by
    obtain ⟨j, g1, g2, e⟩ := k.inn i h1 h2
    obtain ⟨l, g3, g4, e'⟩ := h.inn j g1 g2
    exact ⟨l, g3, g4, e.trans e'⟩⟩

theorem Within.wider {ps qs : List Pt} {a b a' b' : Nat} (h : Within ps qs a b) (ha : a' ≤ a) (hb : b ≤ b') : Within ps qs a' b' :=
  ⟨h.len, h.stab, fun k hk => h.out k (by omega), fun k h1 h2 => by
    by_cases c : a ≤ k ∧ k < b
    · obtain ⟨j, g1, g2, e⟩ := h.inn k c.1 c.2
      exact ⟨j, by omega, by omega, e⟩
    · exact ⟨k, h1, h2, h.out k (by omega)⟩⟩

theorem Within.sw {ps : List Pt} {a b j : Nat} (ha : a ≤ j) (hj : j + 1 < b) (hb : b ≤ ps.length) (hne : (ptAt ps (j + 1)).t < (ptAt ps j).t) : Within ps (sw ps (j + 1) j) a b := by
  refine ⟨sw_length _ _ _, ?_, fun k hk => ?_, fun k h1 h2 => ?_⟩
  · rw [sw_rot _ _ (by omega)]
    refine rot_stab _ _ _ _ (by omega) (by omega) (by omega) ?_
    intro x y h1 h2 h3 h4
    obtain rfl : x = j := by omega
    obtain rfl : y = x + 1 := by omega
    omega
  · rw [sw_at _ _ _ _ (by omega) (by omega), if_neg (by omega), if_neg (by omega)]
  · rw [sw_at _ _ _ _ (by omega) (by omega)]
    split
    · exact ⟨j + 1, by omega, by omega, rfl⟩
    · split
      · exact ⟨j, by omega, by omega, rfl⟩
      · exact ⟨k, h1, h2, rfl⟩

/-- In the midst of an insertion: all from a to i but the one at j in rising order; those behind j above it. -/
structure Ins (ps : List Pt) (a i j : Nat) : Prop where
  ord : ∀ x y, a ≤ x → x < y → y ≤ i → x ≠ j → y ≠ j → (ptAt ps x).t ≤ (ptAt ps y).t
  abv : ∀ y, j < y → y ≤ i → (ptAt ps j).t ≤ (ptAt ps y).t

theorem Ins.start {ps : List Pt} {a i : Nat} (h : Sorted ps a i) : Ins ps a i i :=
  ⟨fun x y h1 h2 h3 _ h5 => h x y h1 h2 (by omega), fun y h1 h2 => by omega⟩

theorem Ins.step {ps : List Pt} {a i j : Nat} (h : Ins ps a i (j + 1)) (ha : a ≤ j) (hj : j + 1 ≤ i) (hi : i < ps.length) (hlt : (ptAt ps (j + 1)).t < (ptAt ps j).t) : Ins (sw ps (j + 1) j) a i j := by
  have e : ∀ k, ptAt (Silo.sw ps (j + 1) j) k = if k = j then ptAt ps (j + 1) else if k = j + 1 then ptAt ps j else ptAt ps k := fun k => sw_at _ _ _ _ (by omega) (by omega)
  refine ⟨fun x y h1 h2 h3 h4 h5 => ?_, fun y h1 h2 => ?_⟩
  · rw [e, e, if_neg h4, if_neg h5]
    by_cases c1 : x = j + 1
    · rw [if_pos c1, if_neg (by omega)]; exact h.ord j y ha (by omega) h3 (by omega) (by omega)
    · rw [if_neg c1]
      by_cases c2 : y = j + 1
      · rw [if_pos c2]; exact h.ord x j h1 (by omega) (by omega) c1 (by omega)
      · rw [if_neg c2]; exact h.ord x y h1 h2 h3 c1 c2
  · rw [e, e, if_pos rfl, if_neg (by omega)]
    by_cases c : y = j + 1
    · rw [if_pos c]; omega
    · rw [if_neg c]; exact h.abv y (by omega) h2

theorem Ins.stop {ps : List Pt} {a i j : Nat} (h : Ins ps a i j) (hs : j ≤ a ∨ (ptAt ps (j - 1)).t ≤ (ptAt ps j).t) : Sorted ps a (i + 1) := by
  intro x y h1 h2 h3
  by_cases c1 : x = j
  · subst c1; exact h.abv y h2 (by omega)
  · by_cases c2 : y = j
    · subst c2
      rcases hs with hs | hs
      · omega
      · by_cases c3 : x = y - 1
        · subst c3; exact hs
        · have := h.ord x (y - 1) h1 (by omega) (by omega) c1 (by omega); omega
    · exact h.ord x y h1 h2 (by omega) c1 c2

end Silo
