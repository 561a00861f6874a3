/- Plain facts: a block's file as the reference tells it, of samples in order. -/
import Derived.Test.YteoboonapcjadaaPureA
namespace Silo

/-- How many of the first samples are of series s. -/
def runLen (s : Int) (r : List Smp) : Nat := (r.takeWhile fun a => decide (a.s = s)).length

def tHead (x : Smp) (r : List Smp) : List UInt8 := leb (x.s + 1).toNat ++ leb (runLen x.s (x :: r)) ++ leb (zig x.t) ++ leb x.v
def tNext (p x : Smp) : List UInt8 := leb (tcode x.t p.t false) ++ leb (x.v ^^^ p.v)

/-- The samples' bytes, one behind the other. -/
def toldFrom : Option Smp → List Smp → List UInt8
  | _, [] => []
  | none, x :: r => tHead x r ++ toldFrom (some x) r
  | some p, x :: r => (if p.s = x.s then tNext p x else tHead x r) ++ toldFrom (some x) r

theorem runLen_smps (s : Nat) (ps : List Pt) (r : List Smp) (h : ∀ a ∈ r, (s : Int) < a.s) : runLen (s : Int) (smps s ps ++ r) = ps.length := by
  unfold runLen
  induction ps with
  | nil =>
    cases r with
    | nil => rfl
    | cons a r =>
      have := h a (by simp)
      have e : decide (a.s = (s : Int)) = false := by simp; omega
      simp [smps, e]
  | cons p ps ih =>
    simp only [smps, List.map_cons, List.cons_append, List.takeWhile_cons, decide_true, if_true, List.length_cons] at ih ⊢
    omega

theorem toldFrom_pts (s : Nat) (r : List Smp) : ∀ (ps : List Pt) (t : Int) (v : Nat), ∃ q : Smp, q.s = (s : Int) ∧ toldFrom (some ⟨(s : Int), t, v⟩) (smps s ps ++ r) = encPts t v false ps ++ toldFrom (some q) r := by
  intro ps
  induction ps with
  | nil => intro t v; exact ⟨⟨(s : Int), t, v⟩, rfl, rfl⟩
  | cons p ps ih =>
    intro t v
    obtain ⟨q, h1, h2⟩ := ih p.t p.v
    refine ⟨q, h1, ?_⟩
    have e : smps s (p :: ps) ++ r = ⟨(s : Int), p.t, p.v⟩ :: (smps s ps ++ r) := rfl
    rw [e, toldFrom, if_pos rfl, h2, encPts, tNext]
    simp

theorem toldFrom_flat (m : Nat → List Pt) : ∀ (n s : Nat) (prev : Option Smp), (∀ p, prev = some p → p.s < (s : Int)) → toldFrom prev (flatFrom m s n) = encAll m s n := by
  intro n
  induction n with
  | zero => intro s prev _; cases prev <;> rfl
  | succ n ih =>
    intro s prev hp
    rw [flatFrom, encAll]
    have hrest : ∀ a ∈ flatFrom m (s + 1) n, (s : Int) < a.s := fun a ha => by
      obtain ⟨j, h1, _, h3, _⟩ := flatFrom_mem n (s + 1) a ha
      omega
    cases hm : m s with
    | nil =>
      rw [if_pos rfl]
      simp only [smps, List.map_nil, List.nil_append]
      exact ih (s + 1) prev (fun p hh => by have := hp p hh; omega)
    | cons p ps =>
      rw [if_neg (by simp)]
      have e : smps s (p :: ps) ++ flatFrom m (s + 1) n = ⟨(s : Int), p.t, p.v⟩ :: (smps s ps ++ flatFrom m (s + 1) n) := rfl
      obtain ⟨q, h1, h2⟩ := toldFrom_pts s (flatFrom m (s + 1) n) ps p.t p.v
      have hq := ih (s + 1) (some q) (fun p' hh => by cases hh; omega)
      have hhd : tHead ⟨(s : Int), p.t, p.v⟩ (smps s ps ++ flatFrom m (s + 1) n) = leb (s + 1) ++ leb (p :: ps).length ++ leb (zig p.t) ++ leb p.v := by
        unfold tHead
        rw [← e, runLen_smps s (p :: ps) _ hrest]
        rfl
      have hpre : toldFrom prev (⟨(s : Int), p.t, p.v⟩ :: (smps s ps ++ flatFrom m (s + 1) n)) = tHead ⟨(s : Int), p.t, p.v⟩ (smps s ps ++ flatFrom m (s + 1) n) ++ toldFrom (some ⟨(s : Int), p.t, p.v⟩) (smps s ps ++ flatFrom m (s + 1) n) := by
        cases prev with
        | none => rfl
        | some p' =>
          have := hp p' rfl
          rw [toldFrom, if_neg (by show ¬ p'.s = (s : Int); omega)]
      rw [e, hpre, h2, hq, hhd]
      unfold encSer
      rw [encPts]
      simp [tcode]

/-- The text, as the reference tells it. -/
def toldBody (lo hi : Nat) (l : List Smp) : List UInt8 := 66 :: (leb lo ++ leb hi ++ (toldFrom none l ++ [0]))

theorem toldBody_flat (lo hi : Nat) (m : Nat → List Pt) : toldBody lo hi (flat m) = encBody lo hi m := by
  unfold toldBody encBody flat
  rw [toldFrom_flat m 16 0 none (fun p h => by cases h)]

/-- Samples in order, of series that may be, are the flat form of their series. -/
theorem flat_ser {l : List Smp} (hl : AscS l) (hf : fits l = true) : l = flat (fun s => ser s l) ∧ LaidBy l (fun s => ser s l) := by
  have hasc : ∀ s, Asc (ser s l) := fun s => by
    unfold Asc ser
    rw [List.pairwise_filterMap]
    refine List.Pairwise.imp ?_ hl
    intro a b hab c hc d hd
    unfold bef at hab
    split at hc
    · split at hd
      · simp only [Option.some.injEq] at hc hd
        subst hc; subst hd
        simp only
        omega
      · cases hd
    · cases hc
  have hlaid : LaidBy l (fun s => ser s l) := fun s _ => Left.self (hasc s)
  refine ⟨?_, hlaid⟩
  have h1 := lay_flat hf hlaid
  rw [← h1]
  -- laying samples that are in order leaves them
  obtain ⟨g1, g2⟩ := layAll_ok l
  refine (g1.ext hl (fun s t => ?_)).symm
  rw [g2]
  -- at most one sample of each series and time
  have key : ∀ (k : List Smp), AscS k → (ofK s t k).getLast?.toList = ofK s t k := by
    intro k hk
    have hle : (ofK s t k).length ≤ 1 := by
      have hp : AscS (ofK s t k) := List.Pairwise.sublist List.filter_sublist hk
      match hq : ofK s t k with
      | [] => simp
      | [a] => simp
      | a :: b :: r =>
        exfalso
        rw [hq] at hp
        have hab : bef a b := (List.pairwise_cons.1 hp).1 b (by simp)
        have ha := (mem_ofK.1 (show a ∈ ofK s t k by rw [hq]; simp)).2
        have hb := (mem_ofK.1 (show b ∈ ofK s t k by rw [hq]; simp)).2
        unfold bef at hab
        omega
    match hq : ofK s t k with
    | [] => rfl
    | [a] => rfl
    | a :: b :: r => rw [hq] at hle; simp at hle
  exact key l hl

end Silo
