/- Plain facts: what is left of points that are settled is told by what came last at each time. -/
import Derived.Test.YtojjkjfcbfoinaaSortG
import Derived.Test.YtojjkjfcbfoinaaSettle
namespace Silo

/-- Strictly rising times. -/
def Asc (l : List Pt) : Prop := l.Pairwise fun a b => a.t < b.t

/-- The points of a time. -/
def ofT (t : Int) (l : List Pt) : List Pt := l.filter fun p => p.t == t

theorem ofT_append (t : Int) (a b : List Pt) : ofT t (a ++ b) = ofT t a ++ ofT t b := by simp [ofT]
theorem ofT_same (p : Pt) : ofT p.t [p] = [p] := by simp [ofT]
theorem ofT_ne {t : Int} {p : Pt} (h : p.t ≠ t) : ofT t [p] = [] := by simp [ofT, h]
theorem ofT_nil_of {t : Int} {l : List Pt} (h : ∀ p ∈ l, p.t ≠ t) : ofT t l = [] := by
  unfold ofT
  rw [List.filter_eq_nil_iff]
  intro p hp
  simpa using h p hp

theorem take_ptAt (qs : List Pt) (i : Nat) (h : i < qs.length) : qs.take (i + 1) = qs.take i ++ [ptAt qs i] := by
  rw [List.take_succ_eq_append_getElem h, ptAt_eq _ _ h]

theorem ddTo_asc {qs : List Pt} (hs : Sorted qs 0 qs.length) : ∀ i, i ≤ qs.length → Asc (ddTo qs i) ∧ ∀ p ∈ ddTo qs i, i < qs.length → p.t < (ptAt qs i).t := by
  intro i
  induction i with
  | zero => intro _; exact ⟨List.Pairwise.nil, fun p hp => by simp [ddTo] at hp⟩
  | succ i ih =>
    intro hi
    obtain ⟨h1, h2⟩ := ih (by omega)
    by_cases hc : i + 1 < qs.length ∧ (ptAt qs (i + 1)).t = (ptAt qs i).t
    · rw [ddTo, if_pos hc]
      exact ⟨h1, fun p hp _ => by rw [hc.2]; exact h2 p hp (by omega)⟩
    · rw [ddTo_put hc]
      refine ⟨?_, fun p hp hlt => ?_⟩
      · unfold Asc
        rw [List.pairwise_append]
        refine ⟨h1, by simp, fun p hp q hq => ?_⟩
        simp only [List.mem_singleton] at hq
        subst hq
        exact h2 p hp (by omega)
      · have h3 := hs i (i + 1) (by omega) (by omega) hlt
        have h4 : (ptAt qs (i + 1)).t ≠ (ptAt qs i).t := fun e => hc ⟨hlt, e⟩
        rw [List.mem_append] at hp
        rcases hp with hp | hp
        · have := h2 p hp (by omega); omega
        · simp only [List.mem_singleton] at hp
          subst hp
          omega

theorem ddTo_mem {qs : List Pt} : ∀ i, i ≤ qs.length → ∀ p ∈ ddTo qs i, p ∈ qs := by
  intro i
  induction i with
  | zero => intro _ p hp; simp [ddTo] at hp
  | succ i ih =>
    intro hi p hp
    rw [ddTo] at hp
    split at hp
    · exact ih (by omega) p hp
    · rw [List.mem_append] at hp
      rcases hp with hp | hp
      · exact ih (by omega) p hp
      · simp only [List.mem_singleton] at hp
        subst hp
        rw [ptAt_eq _ _ (by omega)]
        exact List.getElem_mem _

theorem ddTo_last {qs : List Pt} (hs : Sorted qs 0 qs.length) (t : Int) : ∀ i, i ≤ qs.length → ¬ (i < qs.length ∧ (ptAt qs i).t = t) → ofT t (ddTo qs i) = (ofT t (qs.take i)).getLast?.toList := by
  intro i
  induction i with
  | zero => intro _ _; simp [ddTo, ofT]
  | succ i ih =>
    intro hi hn
    have hb := (ddTo_asc hs i (by omega)).2
    rw [take_ptAt qs i (by omega), ofT_append]
    by_cases ht : (ptAt qs i).t = t
    · have hc : ¬ (i + 1 < qs.length ∧ (ptAt qs (i + 1)).t = (ptAt qs i).t) := fun h => hn ⟨h.1, h.2.trans ht⟩
      rw [ddTo_put hc, ofT_append, ofT_nil_of (l := ddTo qs i) (fun p hp => by have := hb p hp (by omega); omega)]
      subst ht
      rw [ofT_same]
      simp
    · have h1 := ih (by omega) (fun h => ht h.2)
      rw [ofT_ne ht, List.append_nil, ← h1]
      by_cases hc : i + 1 < qs.length ∧ (ptAt qs (i + 1)).t = (ptAt qs i).t
      · rw [ddTo, if_pos hc]
      · rw [ddTo_put hc, ofT_append, ofT_ne ht, List.append_nil]

theorem Asc.ofT_le {l : List Pt} (h : Asc l) (t : Int) : (ofT t l).getLast?.toList = ofT t l := by
  induction l with
  | nil => rfl
  | cons p l ih =>
    have hp := List.pairwise_cons.1 h
    have e : ofT t (p :: l) = ofT t [p] ++ ofT t l := ofT_append t [p] l
    rw [e]
    by_cases c : p.t = t
    · have : ofT t l = [] := ofT_nil_of (fun q hq => by have := hp.1 q hq; omega)
      rw [this]
      subst c
      rw [ofT_same]; rfl
    · rw [ofT_ne c, List.nil_append]; exact ih hp.2

theorem mem_ofT {p : Pt} {t : Int} {l : List Pt} : p ∈ ofT t l ↔ p ∈ l ∧ p.t = t := by
  unfold ofT; rw [List.mem_filter]; simp

/-- Strictly rising points are told by what they have at each time. -/
theorem Asc.ext : ∀ {a b : List Pt}, Asc a → Asc b → (∀ t, ofT t a = ofT t b) → a = b := by
  intro a
  induction a with
  | nil =>
    intro b _ _ h
    cases b with
    | nil => rfl
    | cons q b =>
      have := h q.t
      have hm : q ∈ ofT q.t (q :: b) := mem_ofT.2 ⟨List.mem_cons_self, rfl⟩
      rw [← this] at hm
      simp [ofT] at hm
  | cons p a ih =>
    intro b ha hb h
    have hpa := List.pairwise_cons.1 ha
    cases b with
    | nil =>
      have hm : p ∈ ofT p.t (p :: a) := mem_ofT.2 ⟨List.mem_cons_self, rfl⟩
      rw [h p.t] at hm
      simp [ofT] at hm
    | cons q b =>
      have hqb := List.pairwise_cons.1 hb
      have hp : p ∈ q :: b := (mem_ofT.1 (by rw [← h p.t]; exact mem_ofT.2 ⟨List.mem_cons_self, rfl⟩)).1
      have hq : q ∈ p :: a := (mem_ofT.1 (by rw [h q.t]; exact mem_ofT.2 ⟨List.mem_cons_self, rfl⟩)).1
      have e : p = q := by
        rcases List.mem_cons.1 hp with e | hp
        · exact e
        · rcases List.mem_cons.1 hq with e | hq
          · exact e.symm
          · have h1 := hqb.1 p hp
            have h2 := hpa.1 q hq
            omega
      subst e
      congr 1
      refine ih hpa.2 hqb.2 (fun t => ?_)
      have := h t
      have e1 : ofT t (p :: a) = ofT t [p] ++ ofT t a := ofT_append t [p] a
      have e2 : ofT t (p :: b) = ofT t [p] ++ ofT t b := ofT_append t [p] b
      rw [e1, e2] at this
      exact List.append_cancel_left this

/-- What settling leaves: rising, at each time what came last. -/
structure Left (ps rs : List Pt) : Prop where
  asc : Asc rs
  last : ∀ t, ofT t rs = (ofT t ps).getLast?.toList

theorem Left.same {ps rs rs' : List Pt} (h : Left ps rs) (k : Left ps rs') : rs = rs' := h.asc.ext k.asc (fun t => (h.last t).trans (k.last t).symm)

theorem Left.self {ps : List Pt} (h : Asc ps) : Left ps ps := ⟨h, fun t => (h.ofT_le t).symm⟩

theorem Left.of_sort {ps qs : List Pt} (w : Within ps qs 0 ps.length) (s : Sorted qs 0 ps.length) : Left ps (ddTo qs ps.length) := by
  have hl := w.len
  rw [← hl] at s ⊢
  refine ⟨(ddTo_asc s _ (Nat.le_refl _)).1, fun t => ?_⟩
  rw [ddTo_last s t _ (Nat.le_refl _) (fun h => by omega), List.take_length]
  have := w.stab t
  unfold ofT
  rw [this]

theorem Left.mem {ps rs : List Pt} (h : Left ps rs) : ∀ p ∈ rs, p ∈ ps := by
  intro p hp
  have h1 : p ∈ ofT p.t rs := mem_ofT.2 ⟨hp, rfl⟩
  rw [h.last p.t] at h1
  have h2 : (ofT p.t ps).getLast? = some p := by
    cases hc : (ofT p.t ps).getLast? with
    | none => rw [hc] at h1; simp at h1
    | some q => rw [hc] at h1; simp at h1; rw [h1]
  exact (mem_ofT.1 (List.mem_of_getLast? h2)).1

theorem goodPts_of {rs : List Pt} (ha : Asc rs) (hg : ∀ p ∈ rs, isInt p.t ∧ p.v < M64) : ∀ (t : Int) (f : Bool), (f = false → ∀ p ∈ rs, t < p.t) → goodPts t f rs := by
  induction rs with
  | nil => intros; trivial
  | cons p rs ih =>
    intro t f hf
    have hp := List.pairwise_cons.1 ha
    exact ⟨(hg p List.mem_cons_self).1, (hg p List.mem_cons_self).2, fun h => hf h p List.mem_cons_self, ih hp.2 (fun q hq => hg q (List.mem_cons_of_mem _ hq)) p.t false (fun _ q hq => hp.1 q hq)⟩

theorem goodPts_asc : ∀ {rs : List Pt} {t : Int} {f : Bool}, goodPts t f rs → Asc rs ∧ (∀ p ∈ rs, isInt p.t ∧ p.v < M64) ∧ (f = false → ∀ p ∈ rs, t < p.t) := by
  intro rs
  induction rs with
  | nil => intro t f _; exact ⟨List.Pairwise.nil, fun p hp => (by cases hp), fun _ p hp => (by cases hp)⟩
  | cons p rs ih =>
    intro t f h
    obtain ⟨h1, h2, h3, h4⟩ := h
    obtain ⟨i1, i2, i3⟩ := ih h4
    refine ⟨List.pairwise_cons.2 ⟨fun q hq => i3 rfl q hq, i1⟩, fun q hq => ?_, fun hf q hq => ?_⟩
    · rcases List.mem_cons.1 hq with rfl | hq
      · exact ⟨h1, h2⟩
      · exact i2 q hq
    · rcases List.mem_cons.1 hq with rfl | hq
      · exact h3 hf
      · have := h3 hf; have := i3 rfl q hq; omega

end Silo
