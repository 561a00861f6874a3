/- PureH, PureI, in one text. -/
import Derived.Test.YtbimkgmhfcgpmaaGreatDoorRefPart

/- Plain facts: an archive behind a manifest: line by line, and all parts first: the same. -/
namespace Silo

/-- The base that stands for a manifest, or for none. -/
def baseOf (before : List UInt8) : List UInt8 := if before = [] then List.replicate 8 0 else be8 (fnv before)

/-- A file is the one that a line speaks of, and a block of its range. -/
def fileIs (l : Ln) (f : List UInt8) : Bool := l.fits f && (match decode f with
  | some d => decide (d.lo = l.lo ∧ d.hi = l.hi)
  | none => false)

/-- The file of a line among those that are there. -/
def look (old : List (Ln × List UInt8)) (l : Ln) : Option (List UInt8) := match old.find? (fun p => decide (p.1 = l)) with
  | some p => some p.2
  | none => none

/-- Line by line: what is there is taken from there, the others' parts are read. -/
def gather (old : List (Ln × List UInt8)) : List Ln → List UInt8 → Option (List (List UInt8) × List UInt8)
  | [], r => some ([], r)
  | l :: ls, r => match look old l with
    | some f => match gather old ls r with
      | some (fs, r') => some (f :: fs, r')
      | none => none
    | none => match partR r with
      | some (f, r1) => if fileIs l f = true then match gather old ls r1 with
          | some (fs, r') => some (f :: fs, r')
          | none => none
        else none
      | none => none

/-- All parts, to the end (n is above how many bytes there are). -/
def partsAll : Nat → List UInt8 → Option (List (List UInt8))
  | _, [] => some []
  | 0, _ :: _ => none
  | n + 1, b :: t => match partR (b :: t) with
    | some (p, r) => match partsAll n r with
      | some ps => some (p :: ps)
      | none => none
    | none => none

/-- The lines that are not there yet. -/
def fresh (old : List (Ln × List UInt8)) (ls : List Ln) : List Ln := ls.filter fun l => (look old l).isNone

def allFit : List Ln → List (List UInt8) → Bool
  | [], [] => true
  | l :: ls, p :: ps => fileIs l p && allFit ls ps
  | _, _ => false

/-- The files of all lines, out of those that are there and the new ones. -/
def weave (old : List (Ln × List UInt8)) : List Ln → List (List UInt8) → List (List UInt8)
  | [], _ => []
  | l :: ls, ps => match look old l with
    | some f => f :: weave old ls ps
    | none => match ps with
      | p :: ps => p :: weave old ls ps
      | [] => []

theorem partR_lt {l p r : List UInt8} (h : partR l = some (p, r)) : r.length < l.length := by
  unfold partR at h
  cases hc : rdCode l with
  | none => rw [hc] at h; cases h
  | some q =>
    obtain ⟨n, r0⟩ := q
    rw [hc] at h
    simp only at h
    split at h
    · simp only [Option.some.injEq, Prod.mk.injEq] at h
      obtain ⟨e1, _⟩ := rdCode_some hc
      have := leb_pos n
      rw [← h.2, e1]
      simp
      omega
    · cases h

theorem partR_nil : partR [] = none := by
  cases h : partR [] with
  | none => rfl
  | some q =>
    obtain ⟨p, r⟩ := q
    have := partR_lt h
    simp at this

theorem gather_parts (old : List (Ln × List UInt8)) : ∀ (ls : List Ln) (n : Nat) (r : List UInt8) (fs : List (List UInt8)), r.length ≤ n →
    (gather old ls r = some (fs, []) ↔ ∃ ps, partsAll n r = some ps ∧ allFit (fresh old ls) ps = true ∧ fs = weave old ls ps) := by
  intro ls
  induction ls with
  | nil =>
    intro n r fs hn
    simp only [gather, fresh, List.filter_nil, weave, Option.some.injEq, Prod.mk.injEq]
    constructor
    · rintro ⟨rfl, rfl⟩
      exact ⟨[], by cases n <;> rfl, rfl, rfl⟩
    · rintro ⟨ps, h1, h2, h3⟩
      cases ps with
      | cons p ps => cases h2
      | nil =>
        refine ⟨h3.symm, ?_⟩
        cases r with
        | nil => rfl
        | cons b t =>
          cases n with
          | zero => simp at hn
          | succ n =>
            rw [partsAll] at h1
            cases hp : partR (b :: t) with
            | none => rw [hp] at h1; cases h1
            | some q =>
              obtain ⟨p, r1⟩ := q
              rw [hp] at h1
              simp only at h1
              cases hq : partsAll n r1 with
              | none => rw [hq] at h1; cases h1
              | some ps => rw [hq] at h1; cases h1
  | cons l ls ih =>
    intro n r fs hn
    cases hl : look old l with
    | some f =>
      have e1 : fresh old (l :: ls) = fresh old ls := by unfold fresh; rw [List.filter_cons, if_neg (by rw [hl]; simp)]
      have e2 : ∀ ps, weave old (l :: ls) ps = f :: weave old ls ps := fun ps => by rw [weave.eq_def]; simp only [hl]
      have e3 : gather old (l :: ls) r = match gather old ls r with
          | some (fs, r') => some (f :: fs, r')
          | none => none := by rw [gather, hl]
      rw [e1, e3]
      constructor
      · intro h
        cases hg : gather old ls r with
        | none => rw [hg] at h; cases h
        | some q =>
          obtain ⟨fs', r'⟩ := q
          rw [hg] at h
          simp only [Option.some.injEq, Prod.mk.injEq] at h
          obtain ⟨rfl, rfl⟩ := h
          obtain ⟨ps, h1, h2, h3⟩ := (ih n r fs' hn).1 hg
          exact ⟨ps, h1, h2, by rw [e2, h3]⟩
      · rintro ⟨ps, h1, h2, h3⟩
        rw [e2] at h3
        have := (ih n r (weave old ls ps) hn).2 ⟨ps, h1, h2, rfl⟩
        rw [this, h3]
    | none =>
      have e1 : fresh old (l :: ls) = l :: fresh old ls := by unfold fresh; rw [List.filter_cons, if_pos (by rw [hl]; rfl)]
      have e2 : ∀ p ps, weave old (l :: ls) (p :: ps) = p :: weave old ls ps := fun p ps => by rw [weave.eq_def]; simp only [hl]
      have e3 : gather old (l :: ls) r = match partR r with
          | some (f, r1) => if fileIs l f = true then match gather old ls r1 with
              | some (fs, r') => some (f :: fs, r')
              | none => none
            else none
          | none => none := by rw [gather, hl]
      rw [e1, e3]
      cases hp : partR r with
      | none =>
        simp only
        constructor
        · intro h; cases h
        · rintro ⟨ps, h1, h2, _⟩
          cases r with
          | nil =>
            have : ps = [] := by cases n <;> (rw [partsAll] at h1; exact (Option.some.inj h1).symm)
            subst this
            cases h2
          | cons b t =>
            cases n with
            | zero => simp at hn
            | succ n => rw [partsAll, hp] at h1; cases h1
      | some q =>
        obtain ⟨f, r1⟩ := q
        have hlt := partR_lt hp
        obtain ⟨b, t, rfl⟩ : ∃ b t, r = b :: t := List.exists_cons_of_ne_nil (by rintro rfl; rw [partR_nil] at hp; cases hp)
        obtain ⟨n', rfl⟩ : ∃ n', n = n' + 1 := ⟨n - 1, by simp at hn; omega⟩
        have hn1 : r1.length ≤ n' := by simp at hn hlt; omega
        simp only
        constructor
        · intro h
          split at h
          · rename_i hf
            cases hg : gather old ls r1 with
            | none => rw [hg] at h; cases h
            | some q =>
              obtain ⟨fs', r'⟩ := q
              rw [hg] at h
              simp only [Option.some.injEq, Prod.mk.injEq] at h
              obtain ⟨rfl, rfl⟩ := h
              obtain ⟨ps, h1, h2, h3⟩ := (ih n' r1 fs' hn1).1 hg
              exact ⟨f :: ps, by rw [partsAll, hp]; simp only; rw [h1], by rw [allFit, hf, h2]; rfl, by rw [e2, h3]⟩
          · cases h
        · rintro ⟨ps, h1, h2, h3⟩
          rw [partsAll, hp] at h1
          simp only at h1
          cases hq : partsAll n' r1 with
          | none => rw [hq] at h1; cases h1
          | some ps' =>
            rw [hq] at h1
            simp only [Option.some.injEq] at h1
            subst h1
            rw [allFit, Bool.and_eq_true] at h2
            rw [e2] at h3
            have := (ih n' r1 (weave old ls ps') hn1).2 ⟨ps', hq, h2.2, rfl⟩
            rw [if_pos h2.1, this, h3]

end Silo

/- Plain facts: a manifest's lines as they are read one behind the other; a chain of archives, step by step. -/
namespace Silo
open Go.Lib

/-! ### The lines behind a manifest's first -/
def manRest (rest : List UInt8) (least : Nat) : Option (List Ln) :=
  if (pcs 10 rest).getLast? = some [] then manRows (pcs 10 rest).dropLast least else none

theorem manRest_nil (least : Nat) : manRest [] least = some [] := by
  unfold manRest
  rw [pcs_none 10 [] (by simp)]
  rfl

theorem manRest_last {rest : List UInt8} (least : Nat) (h : (10 : UInt8) ∉ rest) (h0 : rest ≠ []) : manRest rest least = none := by
  unfold manRest
  rw [pcs_none 10 rest h, if_neg]
  simpa using h0

theorem manRest_row (a r : List UInt8) (least : Nat) (h : (10 : UInt8) ∉ a) : manRest (a ++ 10 :: r) least = match lineOf a with
    | some l => if l.lo < least then none else (manRest r (l.hi + 1)).map (l :: ·)
    | none => none := by
  unfold manRest
  rw [pcs_cut 10 a r h]
  have hne := pcs_ne 10 r
  obtain ⟨p, ps, hp⟩ : ∃ p ps, pcs 10 r = p :: ps := List.exists_cons_of_ne_nil hne
  rw [hp, List.getLast?_cons_cons, List.dropLast_cons_cons]
  cases hl : lineOf a with
  | none =>
    split
    · rw [manRows_none _ _ hl]
    · rfl
  | some l =>
    simp only
    by_cases hlo : l.lo < least
    · rw [if_pos hlo]
      split
      · rw [manRows_low _ hl hlo]
      · rfl
    · rw [if_neg hlo]
      split
      · rw [manRows_step _ hl hlo]
      · rfl

theorem manOf_rest (body : List UInt8) : manOf ([115, 105, 108, 111, 10] ++ body) = manRest body 0 := by
  have h : pcs 10 ([115, 105, 108, 111, 10] ++ body) = [115, 105, 108, 111] :: pcs 10 body := pcs_cut 10 [115, 105, 108, 111] body (by decide)
  unfold manOf manRest
  rw [h]
  simp only [ne_eq, pcs_ne, not_false_eq_true, true_and]

theorem manOf_prefix {m : List UInt8} (h : manOf m ≠ none) : ∃ body, m = [115, 105, 108, 111, 10] ++ body := by
  unfold manOf at h
  split at h
  · rename_i rs hp
    split at h
    · rename_i hr
      obtain ⟨r', h1, _, _⟩ := pcs_cons hp hr.1
      exact ⟨r', by rw [h1]; simp⟩
    · exact absurd rfl h
  · exact absurd rfl h

theorem manOf_noPrefix {m : List UInt8} (h : ¬ [115, 105, 108, 111, 10] <+: m) : manOf m = none := by
  cases hm : manOf m with
  | none => rfl
  | some ls =>
    obtain ⟨b, e⟩ := manOf_prefix (m := m) (by rw [hm]; simp)
    exact absurd ⟨b, e.symm⟩ h

/-- Lines rise. -/
theorem manRows_rise : ∀ (rows : List (List UInt8)) (least : Nat) (ls : List Ln), manRows rows least = some ls → (∀ l ∈ ls, least ≤ l.lo) ∧ ls.Pairwise (fun x y => x.hi < y.lo)
  | [], _, ls, h => by cases h; simp
  | r :: rs, least, ls, h => by
    rw [manRows] at h
    cases hl : lineOf r with
    | none => rw [hl] at h; cases h
    | some l =>
      rw [hl] at h
      simp only at h
      split at h
      · cases h
      · rename_i hlo
        cases hm : manRows rs (l.hi + 1) with
        | none => rw [hm] at h; cases h
        | some ls' =>
          rw [hm] at h
          cases h
          obtain ⟨h1, h2⟩ := manRows_rise rs _ ls' hm
          have hok := ((lineOf_iff _ _).1 hl).2
          refine ⟨?_, ?_⟩
          · intro x hx
            rcases List.mem_cons.1 hx with rfl | hx
            · omega
            · have := h1 x hx
              have := hok.le
              omega
          · rw [List.pairwise_cons]
            exact ⟨fun x hx => h1 x hx, h2⟩

theorem manOf_some {m : List UInt8} {ls : List Ln} (h : manOf m = some ls) : (∀ l ∈ ls, l.Ok) ∧ ls.Pairwise (fun x y => x.hi < y.lo) := by
  obtain ⟨b, rfl⟩ := manOf_prefix (m := m) (by rw [h]; simp)
  rw [manOf_rest] at h
  unfold manRest at h
  split at h
  · exact ⟨manRows_ok _ _ _ h, (manRows_rise _ _ _ h).2⟩
  · cases h

theorem manOf_nodup {m : List UInt8} {ls : List Ln} (h : manOf m = some ls) : ls.Nodup := by
  obtain ⟨h1, h2⟩ := manOf_some h
  have h3 : ls.Pairwise (fun x y => x.Ok ∧ x.hi < y.lo) := by
    rw [List.pairwise_iff_forall_sublist] at h2 ⊢
    intro a b hs
    exact ⟨h1 a (hs.subset (by simp)), h2 hs⟩
  refine h3.imp ?_
  rintro a b ⟨ha, hlt⟩ rfl
  have := ha.le
  omega

theorem manRows_count : ∀ (rows : List (List UInt8)) (least : Nat) (ls : List Ln), manRows rows least = some ls → ls.length = rows.length
  | [], _, ls, h => by cases h; rfl
  | r :: rs, least, ls, h => by
    rw [manRows] at h
    cases hl : lineOf r with
    | none => rw [hl] at h; cases h
    | some l =>
      rw [hl] at h
      simp only at h
      split at h
      · cases h
      · cases hm : manRows rs (l.hi + 1) with
        | none => rw [hm] at h; cases h
        | some ls' =>
          rw [hm] at h
          cases h
          simp [manRows_count rs _ ls' hm]

theorem pcs_len (c : UInt8) : ∀ (l : List UInt8), (pcs c l).length ≤ l.length + 1
  | [] => by simp [pcs]
  | b :: r => by
    have ih := pcs_len c r
    rw [pcs]
    split
    · simp; omega
    · split
      · rename_i q qs hq
        rw [hq] at ih
        simp at ih ⊢
        omega
      · simp

theorem manOf_len {m : List UInt8} {ls : List Ln} (h : manOf m = some ls) : ls.length ≤ m.length := by
  obtain ⟨b, rfl⟩ := manOf_prefix (m := m) (by rw [h]; simp)
  rw [manOf_rest] at h
  unfold manRest at h
  split at h
  · have h1 := manRows_count _ _ _ h
    have h2 := pcs_len 10 b
    rw [h1, List.length_dropLast]
    simp
    omega
  · cases h

/-! ### A chain -/
structure Ch where
  man : List UInt8
  kept : List (Ln × List UInt8)

def Ch.start : Ch := ⟨[], []⟩

/-- What an archive has behind its mark, if its hash and its mark are right. -/
def arcBody (s : List UInt8) : Option (List UInt8) :=
  if 17 ≤ s.length ∧ s = s.take (s.length - 8) ++ be8 (fnv (s.take (s.length - 8))) ∧ s.head? = some 65 then some ((s.take (s.length - 8)).drop 1) else none

/-- One archive more, as the reference goes. -/
def stepR (c : Ch) (s : List UInt8) : Option Ch := match arcBody s with
  | none => none
  | some b => if b.take 8 = baseOf c.man then match partR (b.drop 8) with
      | none => none
      | some (m, r) => match manOf m with
        | none => none
        | some ls => match gather c.kept ls r with
          | some (fs, []) => some ⟨m, ls.zip fs⟩
          | _ => none
    else none

/-- An archive by itself. -/
def arcOf (s : List UInt8) : Option (List UInt8 × List UInt8 × List (List UInt8)) := match arcBody s with
  | none => none
  | some b => match partR (b.drop 8) with
    | none => none
    | some (m, r) => match partsAll r.length r with
      | none => none
      | some ps => some (b.take 8, m, ps)

/-- One archive more, as the program goes. -/
def stepP (c : Ch) (s : List UInt8) : Option Ch := match arcOf s with
  | none => none
  | some (base, m, ps) => match manOf m with
    | none => none
    | some ls => if base = baseOf c.man then if allFit (fresh c.kept ls) ps = true then some ⟨m, ls.zip (weave c.kept ls ps)⟩ else none else none

theorem stepR_eq (c : Ch) (s : List UInt8) : stepR c s = stepP c s := by
  unfold stepR stepP arcOf
  cases arcBody s with
  | none => rfl
  | some b =>
    simp only
    cases partR (b.drop 8) with
    | none => simp
    | some q =>
      obtain ⟨m, r⟩ := q
      simp only
      by_cases hb : b.take 8 = baseOf c.man
      · rw [if_pos hb]
        cases hm : manOf m with
        | none =>
          cases partsAll r.length r with
          | none => rfl
          | some ps => simp only; rw [hm]
        | some ls =>
          simp only
          cases hp : partsAll r.length r with
          | none =>
            simp only
            cases hg : gather c.kept ls r with
            | none => rfl
            | some q =>
              obtain ⟨fs, r'⟩ := q
              cases r' with
              | cons b t => rfl
              | nil =>
                obtain ⟨ps, h1, _⟩ := (gather_parts c.kept ls r.length r fs (Nat.le_refl _)).1 hg
                rw [hp] at h1
                cases h1
          | some ps =>
            simp only
            rw [hm]
            simp only
            rw [if_pos hb]
            by_cases hf : allFit (fresh c.kept ls) ps = true
            · rw [if_pos hf, (gather_parts c.kept ls r.length r _ (Nat.le_refl _)).2 ⟨ps, hp, hf, rfl⟩]
            · rw [if_neg hf]
              cases hg : gather c.kept ls r with
              | none => rfl
              | some q =>
                obtain ⟨fs, r'⟩ := q
                cases r' with
                | cons b t => rfl
                | nil =>
                  obtain ⟨ps', h1, h2, _⟩ := (gather_parts c.kept ls r.length r fs (Nat.le_refl _)).1 hg
                  rw [hp] at h1
                  cases h1
                  exact absurd h2 hf
      · rw [if_neg hb]
        cases partsAll r.length r with
        | none => rfl
        | some ps =>
          simp only
          cases manOf m with
          | none => rfl
          | some ls => simp only; rw [if_neg hb]

def chainP (c : Ch) : List (List UInt8) → Option Ch
  | [] => some c
  | s :: l => match stepR c s with
    | some c' => chainP c' l
    | none => none

/-- What is restored: a file's name, its bytes. -/
def Ch.files (c : Ch) : List (List UInt8 × List UInt8) := c.kept.map fun p => (nameOf p.1.lo p.1.hi, p.2)

def restoreP (l : List (List UInt8)) : Option (List (List UInt8 × List UInt8)) := match l with
  | [] => none
  | _ :: _ => (chainP Ch.start l).map Ch.files

theorem chainP_snoc (c : Ch) (l : List (List UInt8)) (s : List UInt8) : chainP c (l ++ [s]) = match chainP c l with
    | some c' => stepR c' s
    | none => none := by
  induction l generalizing c with
  | nil =>
    simp only [List.nil_append, chainP]
    cases stepR c s <;> rfl
  | cons x l ih =>
    rw [List.cons_append, chainP, chainP]
    cases stepR c x with
    | none => rfl
    | some c' => exact ih c'

/-- A chain whose lines are those of its manifest. -/
structure Ch.Ok (c : Ch) : Prop where
  lines : c.man = [] ∧ c.kept = [] ∨ manOf c.man = some (c.kept.map Prod.fst)

theorem manOf_nil : manOf [] = none := by
  unfold manOf
  rw [pcs_none 10 [] (by simp)]

theorem gather_len (old : List (Ln × List UInt8)) : ∀ (ls : List Ln) (r : List UInt8) (fs : List (List UInt8)) (r' : List UInt8), gather old ls r = some (fs, r') → fs.length = ls.length
  | [], r, fs, r', h => by cases h; rfl
  | l :: ls, r, fs, r', h => by
    rw [gather] at h
    split at h
    · split at h
      · rename_i hg
        cases h
        simp [gather_len old ls _ _ _ hg]
      · cases h
    · split at h
      · split at h
        · split at h
          · rename_i hg
            cases h
            simp [gather_len old ls _ _ _ hg]
          · cases h
        · cases h
      · cases h

theorem stepR_ok {c c' : Ch} {s : List UInt8} (h : stepR c s = some c') : c'.Ok := by
  unfold stepR at h
  split at h
  · cases h
  · split at h
    · split at h
      · cases h
      · split at h
        · cases h
        · rename_i ls hm
          split at h
          · rename_i fs hg
            cases h
            refine ⟨.inr ?_⟩
            rw [List.map_fst_zip (by rw [gather_len _ _ _ _ _ hg]; exact Nat.le_refl _)]
            exact hm
          · cases h
    · cases h

end Silo
