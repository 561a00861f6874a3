/- Plain facts: laying samples one by one leaves what a block of them is read as. -/
import Derived.Test.YtojjkjfcbfoinaaPure7
import Derived.Test.YtojjkjfcbfoinaaKeepRow
namespace Silo
open Go.Proofs.Ytojjkjfcbfoinaa (layAll layAll_snoc)

theorem ahead_bef {a x : Smp} : ahead a x = true ↔ bef a x := by unfold ahead bef; simp

theorem mem_tw (p : Smp → Bool) : ∀ (l : List Smp) {a : Smp}, a ∈ l.takeWhile p → p a = true
  | [], a, h => by simp at h
  | b :: l, a, h => by
    rw [List.takeWhile_cons] at h
    split at h
    · rcases List.mem_cons.1 h with rfl | h
      · assumption
      · exact mem_tw p l h
    · simp at h

/-- What stands behind x when it is laid. -/
theorem rest_bef {l : List Smp} (hl : AscS l) (x : Smp) : (∀ a ∈ l.take (place l x), bef a x) ∧ (∀ a ∈ layRest l x, bef x a) ∧ (∀ s t, ¬ (x.s = s ∧ x.t = t) → ofK s t (layRest l x) = ofK s t (l.drop (place l x))) ∧ (layRest l x).Sublist (l.drop (place l x)) := by
  have htw : l.take (place l x) = l.takeWhile (fun a => ahead a x) := by
    have := List.prefix_iff_eq_take.1 (List.takeWhile_prefix (l := l) (fun a => ahead a x))
    exact this.symm
  refine ⟨fun a ha => ?_, ?_⟩
  · rw [htw] at ha
    exact ahead_bef.1 (mem_tw (fun a => ahead a x) l ha)
  · have hd : l.drop (place l x) = l.dropWhile (fun a => ahead a x) := by
      have h1 := List.takeWhile_append_dropWhile (p := fun a => ahead a x) (l := l)
      have h2 := List.take_append_drop (place l x) l
      rw [htw] at h2
      exact List.append_cancel_left (h2.trans h1.symm)
    have hdl : (l.drop (place l x)).Pairwise bef := List.Pairwise.sublist (List.drop_sublist _ _) hl
    unfold layRest
    cases hc : l.drop (place l x) with
    | nil => simp [ofK]
    | cons a r =>
      rw [hc] at hdl hd
      have hp := List.pairwise_cons.1 hdl
      have hna : ahead a x = false := by
        have := List.head?_dropWhile_not (fun a => ahead a x) l
        rw [← hd] at this
        simpa using this
      have hna' : ¬ bef a x := fun h => by rw [ahead_bef.2 h] at hna; cases hna
      simp only
      by_cases hk : sameKey a x = true
      · rw [if_pos hk]
        unfold sameKey at hk
        rw [decide_eq_true_eq] at hk
        refine ⟨fun b hb => ?_, fun s t hst => ?_, List.sublist_cons_self _ _⟩
        · have := hp.1 b hb
          unfold bef at this ⊢
          omega
        · have e : ofK s t (a :: r) = ofK s t [a] ++ ofK s t r := ofK_append s t [a] r
          rw [e, ofK_ne (by rw [hk.1, hk.2]; exact hst), List.nil_append]
      · rw [if_neg hk]
        unfold sameKey at hk
        rw [decide_eq_true_eq] at hk
        have hxa : bef x a := by unfold bef at hna' ⊢; omega
        refine ⟨fun b hb => ?_, fun _ _ _ => rfl, List.Sublist.refl _⟩
        rcases List.mem_cons.1 hb with rfl | hb
        · exact hxa
        · have := hp.1 b hb
          unfold bef at this hxa ⊢
          omega

theorem layL_ok {l : List Smp} (hl : AscS l) (x : Smp) : AscS (layL l x) ∧ ∀ s t, ofK s t (layL l x) = if x.s = s ∧ x.t = t then [x] else ofK s t l := by
  obtain ⟨h1, h2, h3, h4⟩ := rest_bef hl x
  refine ⟨?_, fun s t => ?_⟩
  · unfold AscS layL
    rw [List.pairwise_append, List.pairwise_append]
    refine ⟨⟨List.Pairwise.sublist (List.take_sublist _ _) hl, by simp, fun a ha b hb => ?_⟩, ?_, fun a ha b hb => ?_⟩
    · simp only [List.mem_singleton] at hb
      subst hb
      exact h1 a ha
    · exact List.Pairwise.sublist (h4.trans (List.drop_sublist _ _)) hl
    · have hb' := h2 b hb
      rw [List.mem_append] at ha
      rcases ha with ha | ha
      · have := h1 a ha
        unfold bef at this hb' ⊢
        omega
      · simp only [List.mem_singleton] at ha
        subst ha
        exact hb'
  · unfold layL
    rw [ofK_append, ofK_append]
    by_cases c : x.s = s ∧ x.t = t
    · rw [if_pos c]
      obtain ⟨rfl, rfl⟩ := c
      rw [ofK_same, ofK_nil_of (l := l.take _) (fun a ha hk => by have := h1 a ha; unfold bef at this; omega), ofK_nil_of (l := layRest l x) (fun a ha hk => by have := h2 a ha; unfold bef at this; omega)]
      rfl
    · rw [if_neg c, ofK_ne c, h3 s t c, List.append_nil, ← ofK_append, List.take_append_drop]

theorem layAll_ok (xs : List Smp) : AscS (layAll [] xs) ∧ ∀ s t, ofK s t (layAll [] xs) = (ofK s t xs).getLast?.toList := by
  have key : ∀ n, n ≤ xs.length → AscS (layAll [] (xs.take n)) ∧ ∀ s t, ofK s t (layAll [] (xs.take n)) = (ofK s t (xs.take n)).getLast?.toList := by
    intro n
    induction n with
    | zero => intro _; exact ⟨List.Pairwise.nil, fun _ _ => rfl⟩
    | succ n ih =>
      intro hn
      have ih' := ih (by omega)
      rw [List.take_succ_eq_append_getElem hn, layAll_snoc]
      obtain ⟨x, hx⟩ : ∃ x, xs[n] = x := ⟨_, rfl⟩
      rw [hx]
      obtain ⟨h1, h2⟩ := layL_ok ih'.1 x
      refine ⟨h1, fun s t => ?_⟩
      rw [h2, ofK_append]
      by_cases c : x.s = s ∧ x.t = t
      · rw [if_pos c]
        obtain ⟨rfl, rfl⟩ := c
        rw [ofK_same]; simp
      · rw [if_neg c, ofK_ne c, List.append_nil, ih'.2]
  have := key xs.length (Nat.le_refl _)
  rwa [List.take_length] at this

theorem ofK_smps (s t : Int) (j : Nat) (ps : List Pt) : ofK s t (smps j ps) = if s = (j : Int) then smps j (ofT t ps) else [] := by
  by_cases c : s = (j : Int)
  · rw [if_pos c]
    subst c
    induction ps with
    | nil => rfl
    | cons p ps ih =>
      have e : smps j (p :: ps) = [⟨(j : Int), p.t, p.v⟩] ++ smps j ps := rfl
      have e2 : ofT t (p :: ps) = ofT t [p] ++ ofT t ps := ofT_append t [p] ps
      rw [e, ofK_append, ih, e2]
      by_cases ct : p.t = t
      · subst ct
        rw [ofT_same]
        have := ofK_same ⟨(j : Int), p.t, p.v⟩
        simp only at this
        rw [this]; rfl
      · rw [ofT_ne ct, ofK_ne (fun h => ct h.2)]; rfl
  · rw [if_neg c]
    refine ofK_nil_of (fun a ha h => ?_)
    unfold smps at ha
    obtain ⟨p, _, rfl⟩ := List.mem_map.1 ha
    exact c h.1.symm

theorem flatFrom_mem {m : Nat → List Pt} : ∀ (n s : Nat) (a : Smp), a ∈ flatFrom m s n → ∃ j : Nat, s ≤ j ∧ j < s + n ∧ a.s = (j : Int) ∧ (⟨a.t, a.v⟩ : Pt) ∈ m j := by
  intro n
  induction n with
  | zero => intro s a h; simp [flatFrom] at h
  | succ n ih =>
    intro s a h
    rw [flatFrom, List.mem_append] at h
    rcases h with h | h
    · unfold smps at h
      obtain ⟨p, hp, rfl⟩ := List.mem_map.1 h
      exact ⟨s, by omega, by omega, rfl, hp⟩
    · obtain ⟨j, h1, h2, h3, h4⟩ := ih (s + 1) a h
      exact ⟨j, by omega, by omega, h3, h4⟩

theorem flatFrom_asc {m : Nat → List Pt} (hm : ∀ j, Asc (m j)) : ∀ (n s : Nat), AscS (flatFrom m s n) := by
  intro n
  induction n with
  | zero => intro s; exact List.Pairwise.nil
  | succ n ih =>
    intro s
    unfold AscS
    rw [flatFrom, List.pairwise_append]
    refine ⟨?_, ih (s + 1), fun a ha b hb => ?_⟩
    · unfold smps
      rw [List.pairwise_map]
      exact (hm s).imp (fun h => .inr ⟨rfl, h⟩)
    · unfold smps at ha
      obtain ⟨p, _, rfl⟩ := List.mem_map.1 ha
      obtain ⟨j, h1, _, h3, _⟩ := flatFrom_mem n (s + 1) b hb
      left
      rw [h3]
      show ((s : Nat) : Int) < _
      omega

theorem ofK_flatFrom (s t : Int) (m : Nat → List Pt) : ∀ (n a : Nat), ofK s t (flatFrom m a n) = if (a : Int) ≤ s ∧ s < (a + n : Nat) then smps s.toNat (ofT t (m s.toNat)) else [] := by
  intro n
  induction n with
  | zero => intro a; rw [if_neg (by omega)]; rfl
  | succ n ih =>
    intro a
    rw [flatFrom, ofK_append, ofK_smps, ih (a + 1)]
    by_cases c : s = (a : Int)
    · rw [if_pos c, if_neg (by omega), if_pos (by omega), List.append_nil]
      subst c
      rfl
    · rw [if_neg c, List.nil_append]
      by_cases c2 : ((a + 1 : Nat) : Int) ≤ s ∧ s < (a + 1 + n : Nat)
      · rw [if_pos c2, if_pos (by omega)]
      · rw [if_neg c2, if_neg (by omega)]

theorem ofK_ser (s : Nat) (t : Int) (xs : List Smp) : ofK (s : Int) t xs = smps s (ofT t (ser s xs)) := by
  induction xs with
  | nil => rfl
  | cons x xs ih =>
    have e1 : ofK (s : Int) t (x :: xs) = ofK (s : Int) t [x] ++ ofK (s : Int) t xs := ofK_append _ t [x] xs
    have e2 : ser s (x :: xs) = ser s [x] ++ ser s xs := ser_append s [x] xs
    rw [e1, e2, ofT_append, ih]
    unfold smps
    rw [List.map_append]
    congr 1
    by_cases c : x.s = (s : Int)
    · rw [ser_same s x c]
      by_cases ct : x.t = t
      · subst ct
        have h1 := ofK_same x
        have h2 := ofT_same ⟨x.t, x.v⟩
        simp only at h2
        rw [← c, h1, h2]
        simp
      · rw [ofK_ne (fun h => ct h.2), ofT_ne ct]; rfl
    · rw [ser_other s x c, ofK_ne (fun h => c h.1)]; rfl

theorem getLast_smps (s : Nat) (l : List Pt) : (smps s l).getLast?.toList = smps s l.getLast?.toList := by
  unfold smps
  rw [List.getLast?_map]
  cases l.getLast? <;> rfl

/-- Laying samples one by one leaves what the block of them is read as. -/
theorem lay_flat {xs : List Smp} {m : Nat → List Pt} (hf : fits xs = true) (hm : LaidBy xs m) : layAll [] xs = flat m := by
  obtain ⟨h1, h2⟩ := layAll_ok xs
  -- the series above 15 do not matter
  let m' : Nat → List Pt := fun j => if j < 16 then m j else []
  have hm' : ∀ j, Asc (m' j) := fun j => by
    show Asc (if j < 16 then m j else [])
    split
    · exact (hm j (by assumption)).asc
    · exact List.Pairwise.nil
  have hflat : flat m = flat m' := flatFrom_congr 16 0 (fun j _ hj => by show m j = if j < 16 then m j else []; rw [if_pos (by omega)])
  rw [hflat]
  refine h1.ext (flatFrom_asc hm' 16 0) (fun s t => ?_)
  rw [h2, show ofK s t (flat m') = _ from ofK_flatFrom s t m' 16 0]
  by_cases c : ((0 : Nat) : Int) ≤ s ∧ s < (0 + 16 : Nat)
  · rw [if_pos c]
    obtain ⟨j, rfl⟩ : ∃ j : Nat, s = (j : Int) := ⟨s.toNat, by omega⟩
    have hj : j < 16 := by omega
    rw [ofK_ser, getLast_smps, Int.toNat_natCast, ← (hm j hj).last t]
    show _ = smps j (ofT t (if j < 16 then m j else []))
    rw [if_pos hj]
  · rw [if_neg c, ofK_nil_of (l := xs) (fun a ha h => ?_)]
    · rfl
    · unfold fits at hf
      rw [List.all_eq_true] at hf
      have := hf a ha
      simp only [decide_eq_true_eq] at this
      omega

theorem ser_smps (s j : Nat) (ps : List Pt) : ser s (smps j ps) = if j = s then ps else [] := by
  unfold ser smps
  rw [List.filterMap_map]
  by_cases c : j = s
  · subst c
    rw [if_pos rfl]
    induction ps with
    | nil => rfl
    | cons p ps ih => rw [List.filterMap_cons]; simp only [Function.comp, if_true]; rw [ih]
  · rw [if_neg c, List.filterMap_eq_nil_iff]
    intro p _
    simp only [Function.comp]
    rw [if_neg (by omega)]

theorem ser_flatFrom (s : Nat) (m : Nat → List Pt) : ∀ (n a : Nat), ser s (flatFrom m a n) = if a ≤ s ∧ s < a + n then m s else [] := by
  intro n
  induction n with
  | zero => intro a; rw [if_neg (by omega)]; rfl
  | succ n ih =>
    intro a
    rw [flatFrom, ser_append, ser_smps, ih (a + 1)]
    by_cases c : a = s
    · subst c; rw [if_pos rfl, if_neg (by omega), if_pos (by omega), List.append_nil]
    · rw [if_neg c, List.nil_append]
      by_cases c2 : a + 1 ≤ s ∧ s < a + 1 + n
      · rw [if_pos c2, if_pos (by omega)]
      · rw [if_neg c2, if_neg (by omega)]

/-- What is read of a block, told again. -/
theorem file_again {lo hi : Nat} {m m' : Nat → List Pt} (hg : ∀ j, goodPts 0 true (m j)) (hm : LaidBy (flat m) m') : file lo hi m' = file lo hi m := by
  unfold file encBody
  have : encAll m' 0 16 = encAll m 0 16 := encAll_congr 16 0 (fun j _ hj => by
    have h1 := hm j (by omega)
    rw [show ser j (flat m) = _ from ser_flatFrom j m 16 0, if_pos (by omega)] at h1
    exact h1.same (Left.self (goodPts_asc (hg j)).1))
  rw [this]

theorem flat_fits (m : Nat → List Pt) : fits (flat m) = true := by
  unfold fits
  rw [List.all_eq_true]
  intro a ha
  obtain ⟨j, h1, h2, h3, _⟩ := flatFrom_mem 16 0 a ha
  simp only [decide_eq_true_eq]
  omega

theorem flat_good {m : Nat → List Pt} (hg : ∀ j, goodPts 0 true (m j)) : ∀ a ∈ flat m, isInt a.t ∧ a.v < M64 := by
  intro a ha
  obtain ⟨j, _, _, _, h4⟩ := flatFrom_mem 16 0 a ha
  exact (goodPts_asc (hg j)).2.1 _ h4

end Silo
