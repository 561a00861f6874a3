/- PureK, PureL, in one text. -/
import Derived.Test.YtbimkgmhfcgpmaaGreatDoorPureHOne
import Derived.Test.YtbimkgmhfcgpmaaGreatDoorChnOne
import Derived.Test.YtbimkgmhfcgpmaaGreatDoorGlob

/- Plain facts: an archive as the program reads it. -/
namespace Silo

theorem partsAll_fuel : ∀ (n m : Nat) (r : List UInt8), r.length ≤ n → r.length ≤ m → partsAll n r = partsAll m r := by
  intro n
  induction n with
  | zero =>
    intro m r hn _
    have : r = [] := List.length_eq_zero_iff.1 (by omega)
    subst this
    cases m <;> rfl
  | succ n ih =>
    intro m r hn hm
    cases r with
    | nil => cases m <;> rfl
    | cons b t =>
      cases m with
      | zero => simp at hm
      | succ m =>
        rw [partsAll, partsAll]
        cases hp : partR (b :: t) with
        | none => rfl
        | some q =>
          obtain ⟨p, r1⟩ := q
          simp only
          have := partR_lt hp
          rw [ih m r1 (by simp at hn this; omega) (by simp at hm this; omega)]

theorem partsAll_step {r p r1 : List UInt8} (h : partR r = some (p, r1)) : partsAll r.length r = (partsAll r1.length r1).map (p :: ·) := by
  cases r with
  | nil => rw [partR_nil] at h; cases h
  | cons b t =>
    have hlt := partR_lt h
    rw [List.length_cons, partsAll, h]
    simp only
    rw [partsAll_fuel t.length r1.length r1 (by simp at hlt; omega) (Nat.le_refl _)]
    cases partsAll r1.length r1 <;> rfl

theorem partsAll_none {r : List UInt8} (h : partR r = none) (hr : r ≠ []) : partsAll r.length r = none := by
  cases r with
  | nil => exact absurd rfl hr
  | cons b t => rw [List.length_cons, partsAll, h]

/-- The parts that have come, and where the reading stands. -/
def AInv (r0 : List UInt8) (fs : List (List UInt8)) : St → Prop
  | some r => partsAll r0.length r0 = (partsAll r.length r).map (fs ++ ·)
  | none => partsAll r0.length r0 = none

theorem AInv.start (r : List UInt8) : AInv r [] (some r) := by
  show partsAll r.length r = (partsAll r.length r).map ([] ++ ·)
  cases partsAll r.length r <;> rfl

theorem AInv.step {r0 r : List UInt8} {fs : List (List UInt8)} (h : AInv r0 fs (some r)) (hr : r ≠ []) : AInv r0 (fs ++ [(rdPart (some r)).1]) (rdPart (some r)).2 := by
  rw [rdPart_some]
  have h : partsAll r0.length r0 = (partsAll r.length r).map (fs ++ ·) := h
  cases hp : partR r with
  | none =>
    simp only
    rw [partsAll_none hp hr] at h
    exact h
  | some q =>
    obtain ⟨p, r1⟩ := q
    simp only
    rw [partsAll_step hp] at h
    show partsAll r0.length r0 = (partsAll r1.length r1).map (fs ++ [p] ++ ·)
    rw [h]
    cases partsAll r1.length r1 <;> simp

theorem AInv.done {r0 : List UInt8} {fs : List (List UInt8)} (h : AInv r0 fs (some [])) : partsAll r0.length r0 = some fs := by
  have h : partsAll r0.length r0 = (partsAll [].length []).map (fs ++ ·) := h
  rw [h]
  simp [partsAll]

/-- What the program reads of an archive. -/
def arcP (b : List UInt8) : Option (List UInt8 × List UInt8 × List (List UInt8)) :=
  match (rdB 8 (some b)).2 with
  | none => none
  | some r0 => match partR r0 with
    | none => none
    | some (m, r) => (partsAll r.length r).map fun ps => ((rdB 8 (some b)).1, m, ps)

end Silo

namespace Go.Proofs.YtbimkgmhfcgpmaaGreatDoor
open Go.RowKit

theorem arcOf_bad {s : List UInt8} (h : ¬ (isSealed s = true ∧ Lib.hasPrefix (sealedData s) [65] = true)) : Silo.arcOf s = none := by
  unfold Silo.arcOf
  have : Silo.arcBody s = none := by
    unfold Silo.arcBody
    rw [if_neg]
    rintro ⟨h17, hs, hh⟩
    apply h
    have hse : isSealed s = true := by
      unfold isSealed
      rw [Bool.and_eq_true]
      refine ⟨decide_eq_true (by omega), ?_⟩
      rw [beq_iff_eq]
      have e := congrArg (List.drop (s.length - 8)) hs
      rw [List.drop_left' (by simp)] at e
      exact e.symm
    refine ⟨hse, ?_⟩
    unfold sealedData Lib.hasPrefix
    rw [if_pos hse]
    cases s with
    | nil => simp at h17
    | cons x t =>
      simp at hh
      subst hh
      obtain ⟨n, hn⟩ : ∃ n, (65 :: t).length - 8 = n + 1 := ⟨t.length - 8, by simp at h17 ⊢; omega⟩
      rw [hn]
      simp
  rw [this]

theorem arcOf_good {s : List UInt8} (h1 : isSealed s = true) (h2 : Lib.hasPrefix (sealedData s) [65] = true) : Silo.arcOf s = Silo.arcP (Lib.trimPrefix (sealedData s) [65]) := by
  have e0 : sealedData s = s.take (s.length - 8) := by unfold sealedData; rw [if_pos h1]
  have e1 : Lib.trimPrefix (sealedData s) [65] = (s.take (s.length - 8)).drop 1 := by
    unfold Lib.trimPrefix
    rw [if_pos h2, e0]
    rfl
  rw [e1]
  have h3 := h1
  unfold isSealed at h1
  rw [Bool.and_eq_true, beq_iff_eq] at h1
  have h8 : 8 ≤ s.length := of_decide_eq_true h1.1
  have hs : s = s.take (s.length - 8) ++ Silo.be8 (Silo.fnv (s.take (s.length - 8))) := by
    rw [h1.2, List.take_append_drop]
  have hh : 1 ≤ s.length - 8 ∧ s.head? = some 65 := by
    rw [e0] at h2
    unfold Lib.hasPrefix at h2
    cases s with
    | nil => simp at h8
    | cons x t =>
      cases hn : (x :: t).length - 8 with
      | zero => rw [hn] at h2; simp at h2
      | succ n =>
        rw [hn] at h2
        simp at h2
        subst h2
        exact ⟨by omega, rfl⟩
  unfold Silo.arcOf Silo.arcBody Silo.arcP
  by_cases h17 : 17 ≤ s.length
  · rw [if_pos ⟨h17, hs, hh.2⟩]
    have hl : 8 ≤ ((s.take (s.length - 8)).drop 1).length := by simp; omega
    simp only [Silo.rdB, if_pos hl]
    cases Silo.partR (((s.take (s.length - 8)).drop 1).drop 8) with
    | none => rfl
    | some q =>
      obtain ⟨m, r⟩ := q
      simp only
      cases Silo.partsAll r.length r <;> rfl
  · rw [if_neg (fun h => h17 h.1)]
    have hl : ¬ 8 ≤ ((s.take (s.length - 8)).drop 1).length := by simp; omega
    simp only [Silo.rdB, if_neg hl]

end Go.Proofs.YtbimkgmhfcgpmaaGreatDoor

/- Plain facts: what the program keeps of a chain. -/
namespace Silo

theorem look_mem {old : List (Ln × List UInt8)} {l : Ln} {f : List UInt8} (h : look old l = some f) : (l, f) ∈ old := by
  unfold look at h
  cases hf : old.find? (fun p => decide (p.1 = l)) with
  | none => rw [hf] at h; cases h
  | some p =>
    rw [hf] at h
    have h1 := List.find?_some hf
    simp at h1
    cases h
    rw [← h1]
    exact List.mem_of_find?_eq_some hf

theorem look_isNone (old : List (Ln × List UInt8)) (l : Ln) : (look old l).isNone = decide (l ∉ old.map Prod.fst) := by
  by_cases hm : l ∈ old.map Prod.fst
  · rw [decide_eq_false (fun h => h hm)]
    obtain ⟨p, hp, rfl⟩ := List.mem_map.1 hm
    unfold look
    cases hf : old.find? (fun q => decide (q.1 = p.1)) with
    | none =>
      rw [List.find?_eq_none] at hf
      exact absurd (decide_eq_true rfl) (hf p hp)
    | some q => rfl
  · rw [decide_eq_true hm]
    unfold look
    rw [List.find?_eq_none.2]
    · rfl
    · intro p hp
      simp only [decide_eq_true_eq]
      rintro rfl
      exact hm (List.mem_map_of_mem hp)

theorem fresh_eq (old : List (Ln × List UInt8)) (ls : List Ln) : ls.filter (fun l => decide (l ∉ old.map Prod.fst)) = fresh old ls := by
  unfold fresh
  congr 1
  funext l
  exact (look_isNone old l).symm

theorem weave_pairs (old : List (Ln × List UInt8)) : ∀ (ls : List Ln) (ps : List (List UInt8)), ∀ p ∈ ls.zip (weave old ls ps), look old p.1 = some p.2 ∨ (look old p.1 = none ∧ p ∈ (fresh old ls).zip ps)
  | [], _, p, h => by simp at h
  | l :: ls, ps, p, h => by
    cases hl : look old l with
    | some f =>
      have e1 : fresh old (l :: ls) = fresh old ls := by unfold fresh; rw [List.filter_cons, if_neg (by rw [hl]; simp)]
      have e2 : weave old (l :: ls) ps = f :: weave old ls ps := by rw [weave.eq_def]; simp only [hl]
      rw [e2, List.zip_cons_cons] at h
      rcases List.mem_cons.1 h with rfl | h
      · exact .inl hl
      · rw [e1]; exact weave_pairs old ls ps p h
    | none =>
      have e1 : fresh old (l :: ls) = l :: fresh old ls := by unfold fresh; rw [List.filter_cons, if_pos (by rw [hl]; rfl)]
      cases ps with
      | nil =>
        have e2 : weave old (l :: ls) [] = [] := by rw [weave.eq_def]; simp only [hl]
        rw [e2] at h
        simp at h
      | cons q qs =>
        have e2 : weave old (l :: ls) (q :: qs) = q :: weave old ls qs := by rw [weave.eq_def]; simp only [hl]
        rw [e2, List.zip_cons_cons] at h
        rw [e1, List.zip_cons_cons]
        rcases List.mem_cons.1 h with rfl | h
        · exact .inr ⟨hl, List.mem_cons_self⟩
        · exact (weave_pairs old ls qs p h).imp id (fun x => ⟨x.1, List.mem_cons_of_mem _ x.2⟩)

theorem look_append (a b : List (Ln × List UInt8)) (l : Ln) : look (a ++ b) l = match look a l with
    | some f => some f
    | none => look b l := by
  unfold look
  rw [List.find?_append]
  cases a.find? (fun p => decide (p.1 = l)) with
  | none => rfl
  | some p => rfl

theorem look_none_of {a : List (Ln × List UInt8)} {l : Ln} (h : l ∉ a.map Prod.fst) : look a l = none := by
  have := look_isNone a l
  rw [decide_eq_true h] at this
  cases hx : look a l with
  | none => rfl
  | some f => rw [hx] at this; cases this

theorem look_of_mem {a : List (Ln × List UInt8)} {p : Ln × List UInt8} (hd : (a.map Prod.fst).Nodup) (hp : p ∈ a) : look a p.1 = some p.2 := by
  induction a with
  | nil => cases hp
  | cons q a ih =>
    rw [List.map_cons, List.nodup_cons] at hd
    unfold look
    rw [List.find?_cons]
    rcases List.mem_cons.1 hp with rfl | hp
    · simp
    · have hne : ¬ q.1 = p.1 := fun e => hd.1 (by rw [e]; exact List.mem_map_of_mem hp)
      rw [decide_eq_false hne]
      exact ih hd.2 hp

/-- All fit, one behind the other. -/
theorem allFit_step {l : Ln} {ls : List Ln} {p : List UInt8} {ps : List (List UInt8)} : allFit (l :: ls) (p :: ps) = (fileIs l p && allFit ls ps) := rfl

theorem allFit_len : ∀ (ls : List Ln) (ps : List (List UInt8)), allFit ls ps = true → ls.length = ps.length
  | [], [], _ => rfl
  | [], _ :: _, h => by cases h
  | _ :: _, [], h => by cases h
  | l :: ls, p :: ps, h => by
    rw [allFit, Bool.and_eq_true] at h
    simp [allFit_len ls ps h.2]

theorem allFit_at {ls : List Ln} {ps : List (List UInt8)} {k : Nat} {l : Ln} {p : List UInt8} (h1 : ls[k]? = some l) (h2 : ps[k]? = some p) : allFit (ls.drop k) (ps.drop k) = (fileIs l p && allFit (ls.drop (k + 1)) (ps.drop (k + 1))) := by
  have e1 : ls.drop k = l :: ls.drop (k + 1) := by
    have hk : k < ls.length := by
      rcases Nat.lt_or_ge k ls.length with h' | h'
      · exact h'
      · rw [List.getElem?_eq_none h'] at h1; cases h1
    rw [List.drop_eq_getElem_cons hk]
    rw [List.getElem?_eq_getElem hk] at h1
    rw [Option.some.inj h1]
  have e2 : ps.drop k = p :: ps.drop (k + 1) := by
    have hk : k < ps.length := by
      rcases Nat.lt_or_ge k ps.length with h' | h'
      · exact h'
      · rw [List.getElem?_eq_none h'] at h2; cases h2
    rw [List.drop_eq_getElem_cons hk]
    rw [List.getElem?_eq_getElem hk] at h2
    rw [Option.some.inj h2]
  rw [e1, e2, allFit_step]

/-- What the program's map has behind an archive. -/
theorem kept_look {old F : List (Ln × List UInt8)} {ls : List Ln} {ps : List (List UInt8)} (hd : ls.Nodup) (hF : ∀ p ∈ old, look F p.1 = some p.2) (hlen : (fresh old ls).length = ps.length) :
    ∀ p ∈ ls.zip (weave old ls ps), look (((fresh old ls).zip ps).reverse ++ F) p.1 = some p.2 := by
  intro p hp
  have hm1 : ((fresh old ls).zip ps).map Prod.fst = fresh old ls := List.map_fst_zip (by omega)
  have hnd : (((fresh old ls).zip ps).reverse.map Prod.fst).Nodup := by
    rw [List.map_reverse, hm1]
    unfold List.Nodup
    rw [List.pairwise_reverse]
    exact (hd.sublist List.filter_sublist).imp (fun h => h.symm)
  rw [look_append]
  rcases weave_pairs old ls ps p hp with h | ⟨h, hmem⟩
  · rw [look_none_of]
    · exact hF _ (look_mem h)
    · rw [List.map_reverse, List.mem_reverse, hm1]
      unfold fresh
      rw [List.mem_filter]
      rintro ⟨_, h2⟩
      rw [h] at h2
      cases h2
  · rw [look_of_mem hnd (List.mem_reverse.2 hmem)]

end Silo
