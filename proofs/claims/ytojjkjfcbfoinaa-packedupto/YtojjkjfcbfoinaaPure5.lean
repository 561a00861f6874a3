/- Plain facts: the merge of two stretches in place. -/
import Derived.Test.YtojjkjfcbfoinaaPure4
namespace Silo

theorem sw_comm (ps : List Pt) (i j : Nat) (hi : i < ps.length) (hj : j < ps.length) : sw ps i j = sw ps j i := by
  refine list_ext_at (by rw [sw_length, sw_length]) ?_
  intro k _
  rw [sw_at _ _ _ _ hi hj, sw_at _ _ _ _ hj hi]
  by_cases h1 : k = j
  · by_cases h2 : k = i
    · rw [if_pos h1, if_pos h2, ← h1, ← h2]
    · rw [if_pos h1, if_neg h2, if_pos h1]
  · by_cases h2 : k = i
    · rw [if_neg h1, if_pos h2, if_pos h2]
    · rw [if_neg h1, if_neg h2, if_neg h2, if_neg h1]

theorem rot_nil (ps : List Pt) (a m b : Nat) (h1 : a ≤ m) (h2 : m ≤ b) (h3 : b ≤ ps.length) (h : a = m ∨ m = b) : rot ps a m b = ps := by
  refine list_ext_at (rot_length _ _ _ _ h1 h2 h3) ?_
  intro k _
  rw [rot_at _ _ _ _ _ h1 h2 h3]
  repeat' split
  all_goals first | rfl | omega | (congr 1; omega)

theorem Sorted.le {ps : List Pt} {a b i j : Nat} (h : Sorted ps a b) (h1 : a ≤ i) (h2 : i ≤ j) (h3 : j < b) : (ptAt ps i).t ≤ (ptAt ps j).t := by
  by_cases c : i = j
  · subst c; exact Int.le_refl _
  · exact h i j h1 (by omega) h3

theorem Sorted.sub {ps : List Pt} {a b a' b' : Nat} (h : Sorted ps a b) (h1 : a ≤ a') (h2 : b' ≤ b) : Sorted ps a' b' :=
  fun i j g1 g2 g3 => h i j (by omega) g2 (by omega)

/-- Where the two stretches are turned about. -/
structure Halves (ps qs : List Pt) (a s mid e b : Nat) : Prop where
  wi : Within ps qs a b
  s1 : Sorted qs a s
  s2 : Sorted qs s mid
  s3 : Sorted qs mid e
  s4 : Sorted qs e b
  le : ∀ i j, a ≤ i → i < mid → mid ≤ j → j < b → (ptAt qs i).t ≤ (ptAt qs j).t

theorem halves {ps : List Pt} {a m b s mid e : Nat} (hb : b ≤ ps.length) (h1 : Sorted ps a m) (h2 : Sorted ps m b) (ha : a ≤ s) (hs : s ≤ m) (he : m ≤ e) (heb : e ≤ b) (hsum : s + e = mid + m)
    (hA : s = a ∨ e = b ∨ (ptAt ps (s - 1)).t ≤ (ptAt ps e).t) (hB : s = m ∨ m = e ∨ (ptAt ps (e - 1)).t < (ptAt ps s).t) : Halves ps (rot ps s m e) a s mid e b := by
  have hat : ∀ k, ptAt (rot ps s m e) k = if k < s then ptAt ps k else if k < s + (e - m) then ptAt ps (k - s + m) else if k < e then ptAt ps (k - (e - m)) else ptAt ps k := fun k => rot_at ps s m e k hs he (by omega)
  have hRL : ∀ x y, s ≤ x → x < m → m ≤ y → y < e → (ptAt ps y).t < (ptAt ps x).t := by
    intro x y g1 g2 g3 g4
    rcases hB with hB | hB | hB
    · omega
    · omega
    · have e1 := h1.le (i := s) (j := x) (by omega) g1 g2
      have e2 := h2.le (i := y) (j := e - 1) g3 (by omega) (by omega)
      omega
  have hLR : ∀ x y, a ≤ x → x < s → e ≤ y → y < b → (ptAt ps x).t ≤ (ptAt ps y).t := by
    intro x y g1 g2 g3 g4
    rcases hA with hA | hA | hA
    · omega
    · omega
    · have e1 := h1.le (i := x) (j := s - 1) g1 (by omega) (by omega)
      have e2 := h2.le (i := e) (j := y) (by omega) g3 g4
      omega
  refine ⟨⟨rot_length _ _ _ _ hs he (by omega), rot_stab _ _ _ _ hs he (by omega) (fun i j g1 g2 g3 g4 => ?_), fun k hk => ?_, fun k g1 g2 => ?_⟩, ?_, ?_, ?_, ?_, ?_⟩
  · have := hRL i j g1 g2 g3 g4; omega
  · rw [hat]
    repeat' split
    all_goals first | rfl | omega
  · rw [hat]
    repeat' split
    · exact ⟨k, g1, g2, rfl⟩
    · exact ⟨_, by omega, by omega, rfl⟩
    · exact ⟨_, by omega, by omega, rfl⟩
    · exact ⟨k, g1, g2, rfl⟩
  · intro i j g1 g2 g3
    rw [hat, hat, if_pos (by omega), if_pos (by omega)]
    exact h1 i j g1 g2 (by omega)
  · intro i j g1 g2 g3
    rw [hat, hat, if_neg (by omega), if_pos (by omega), if_neg (by omega), if_pos (by omega)]
    exact h2 _ _ (by omega) (by omega) (by omega)
  · intro i j g1 g2 g3
    rw [hat, hat, if_neg (by omega), if_neg (by omega), if_pos (by omega), if_neg (by omega), if_neg (by omega), if_pos (by omega)]
    exact h1 _ _ (by omega) (by omega) (by omega)
  · intro i j g1 g2 g3
    rw [hat, hat, if_neg (by omega), if_neg (by omega), if_neg (by omega), if_neg (by omega), if_neg (by omega), if_neg (by omega)]
    exact h2 i j (by omega) g2 g3
  · intro i j g1 g2 g3 g4
    rw [hat, hat]
    by_cases c1 : i < s
    · rw [if_pos c1, if_neg (by omega), if_neg (by omega)]
      by_cases c2 : j < e
      · rw [if_pos c2]; exact h1 _ _ g1 (by omega) (by omega)
      · rw [if_neg c2]; exact hLR _ _ g1 c1 (by omega) g4
    · rw [if_neg c1, if_pos (by omega), if_neg (by omega), if_neg (by omega)]
      by_cases c2 : j < e
      · rw [if_pos c2]; have := hRL (j - (e - m)) (i - s + m) (by omega) (by omega) (by omega) (by omega); omega
      · rw [if_neg c2]; exact h2 _ _ (by omega) (by omega) g4

theorem Halves.join {ps qs r1 r2 : List Pt} {a s mid e b : Nat} (h : Halves ps qs a s mid e b) (ha : a ≤ mid) (hb : mid ≤ b) (w1 : Within qs r1 a mid) (s1 : Sorted r1 a mid) (w2 : Within r1 r2 mid b) (s2 : Sorted r2 mid b) :
    Within ps r2 a b ∧ Sorted r2 a b := by
  refine ⟨(h.wi.trans (w1.wider (Nat.le_refl _) hb)).trans (w2.wider ha (Nat.le_refl _)), ?_⟩
  intro i j g1 g2 g3
  by_cases c1 : j < mid
  · rw [w2.out i (.inl (by omega)), w2.out j (.inl c1)]; exact s1 i j g1 g2 c1
  · by_cases c2 : mid ≤ i
    · exact s2 i j c2 g2 g3
    · rw [w2.out i (.inl (by omega))]
      obtain ⟨x, x1, x2, e1⟩ := w1.inn i g1 (by omega)
      obtain ⟨y, y1, y2, e2⟩ := w2.inn j (by omega) g3
      rw [e1, e2, w1.out y (.inr y1)]
      exact h.le x y x1 x2 y1 y2

/-- The first one on its way up: it stands at k now. -/
structure Up (ps qs : List Pt) (a k b : Nat) : Prop where
  wi : Within ps qs a b
  lo : ∀ z, a ≤ z → z < k → ptAt qs z = ptAt ps (z + 1)
  it : ptAt qs k = ptAt ps a
  hi : ∀ z, k < z → ptAt qs z = ptAt ps z

theorem Up.start (ps : List Pt) (a b : Nat) : Up ps ps a a b := ⟨Within.refl _ _ _, fun z h1 h2 => by omega, rfl, fun _ _ => rfl⟩

theorem Up.step {ps qs : List Pt} {a k b : Nat} (h : Up ps qs a k b) (ha : a ≤ k) (hk : k + 1 < b) (hb : b ≤ ps.length) (hlt : (ptAt ps (k + 1)).t < (ptAt ps a).t) : Up ps (sw qs k (k + 1)) a (k + 1) b := by
  have hl := h.wi.len
  rw [sw_comm _ _ _ (by omega) (by omega)]
  have e : ∀ z, ptAt (Silo.sw qs (k + 1) k) z = if z = k then ptAt qs (k + 1) else if z = k + 1 then ptAt qs k else ptAt qs z := fun z => sw_at _ _ _ _ (by omega) (by omega)
  refine ⟨h.wi.trans (Within.sw ha hk (by omega) (by rw [h.it, h.hi _ (by omega)]; exact hlt)), fun z h1 h2 => ?_, ?_, fun z h1 => ?_⟩
  · rw [e]
    by_cases c : z = k
    · rw [if_pos c, h.hi _ (by omega), c]
    · rw [if_neg c, if_neg (by omega)]; exact h.lo z h1 (by omega)
  · rw [e, if_neg (by omega), if_pos rfl]; exact h.it
  · rw [e, if_neg (by omega), if_neg (by omega)]; exact h.hi z (by omega)

theorem Up.stop {ps qs : List Pt} {a i b : Nat} (h : Up ps qs a (i - 1) b) (_hai : a + 1 ≤ i) (_hib : i ≤ b) (hs : Sorted ps (a + 1) b) (h1 : ∀ k, a + 1 ≤ k → k < i → (ptAt ps k).t < (ptAt ps a).t) (h2 : ∀ k, i ≤ k → k < b → (ptAt ps a).t ≤ (ptAt ps k).t) : Sorted qs a b := by
  intro x y g1 g2 g3
  by_cases c1 : y < i - 1
  · rw [h.lo _ g1 (by omega), h.lo _ (by omega) c1]; exact hs _ _ (by omega) (by omega) (by omega)
  · by_cases c2 : y = i - 1
    · subst c2; rw [h.it, h.lo _ g1 g2]; exact Int.le_of_lt (h1 _ (by omega) (by omega))
    · rw [h.hi y (by omega)]
      by_cases c3 : x < i - 1
      · rw [h.lo _ g1 c3]; exact hs _ _ (by omega) (by omega) g3
      · by_cases c4 : x = i - 1
        · subst c4; rw [h.it]; exact h2 _ (by omega) g3
        · rw [h.hi x (by omega)]; exact hs _ _ (by omega) g2 g3

/-- The last one on its way down: it stands at k now. -/
structure Down (ps qs : List Pt) (a k m : Nat) : Prop where
  wi : Within ps qs a (m + 1)
  ins : Ins qs a m k
  it : ptAt qs k = ptAt ps m
  lo : ∀ z, z < k → ptAt qs z = ptAt ps z

theorem Down.start {ps : List Pt} {a m : Nat} (h : Sorted ps a m) : Down ps ps a m m := ⟨Within.refl _ _ _, Ins.start h, rfl, fun _ _ => rfl⟩

theorem Down.step {ps qs : List Pt} {a k m : Nat} (h : Down ps qs a (k + 1) m) (ha : a ≤ k) (hk : k + 1 ≤ m) (hb : m < ps.length) (hlt : (ptAt ps m).t < (ptAt ps k).t) : Down ps (sw qs (k + 1) k) a k m := by
  have hl := h.wi.len
  have hlt' : (ptAt qs (k + 1)).t < (ptAt qs k).t := by rw [h.it, h.lo _ (by omega)]; exact hlt
  refine ⟨h.wi.trans (Within.sw ha (by omega) (by omega) hlt'), h.ins.step ha hk (by omega) hlt', ?_, fun z h1 => ?_⟩
  · rw [sw_at _ _ _ _ (by omega) (by omega), if_pos rfl]; exact h.it
  · rw [sw_at _ _ _ _ (by omega) (by omega), if_neg (by omega), if_neg (by omega)]; exact h.lo z (by omega)

theorem Down.stop {ps qs : List Pt} {a k m : Nat} (h : Down ps qs a k m) (_hk : k ≤ m) (h1 : ∀ z, a ≤ z → z < k → (ptAt ps z).t ≤ (ptAt ps m).t) : Sorted qs a (m + 1) := by
  refine h.ins.stop ?_
  by_cases c : k ≤ a
  · exact .inl c
  · exact .inr (by rw [h.it, h.lo _ (by omega)]; exact h1 _ (by omega) (by omega))

end Silo
