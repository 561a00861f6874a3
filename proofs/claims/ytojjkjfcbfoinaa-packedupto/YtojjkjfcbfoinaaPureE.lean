/- One line laid on another: what is told of two lists in order as if they were one. -/
import Derived.Test.YtojjkjfcbfoinaaPure4
namespace Silo

/-- Without the first one, if it has this time. -/
def skipEq (t : Int) : List Pt → List Pt
  | [] => []
  | p :: r => if p.t = t then r else p :: r

/-- The upper ones laid on the lower ones, both by rising times. -/
def mergeL : List Pt → List Pt → List Pt
  | lo, [] => lo
  | lo, u :: us => lo.takeWhile (fun p => decide (p.t < u.t)) ++ u :: mergeL (skipEq u.t (lo.dropWhile (fun p => decide (p.t < u.t)))) us

theorem mergeL_end (lo : List Pt) : mergeL lo [] = lo := by simp [mergeL]
theorem mergeL_lt {p u : Pt} {r us : List Pt} (h : p.t < u.t) : mergeL (p :: r) (u :: us) = p :: mergeL r (u :: us) := by simp [mergeL, h]
theorem mergeL_eq {p u : Pt} {r us : List Pt} (h : p.t = u.t) : mergeL (p :: r) (u :: us) = u :: mergeL r us := by simp [mergeL, h, skipEq]
theorem mergeL_gt {p u : Pt} {r us : List Pt} (h : ¬ p.t < u.t) (h' : p.t ≠ u.t) : mergeL (p :: r) (u :: us) = u :: mergeL (p :: r) us := by simp [mergeL, h, h', skipEq]
theorem mergeL_nil (u : Pt) (us : List Pt) : mergeL [] (u :: us) = u :: mergeL [] us := by simp [mergeL, skipEq]
theorem mergeL_none : ∀ us : List Pt, mergeL [] us = us
  | [] => rfl
  | u :: us => by rw [mergeL_nil, mergeL_none us]

theorem mergeL_len : ∀ (us lo : List Pt), (mergeL lo us).length ≤ lo.length + us.length
  | [], lo => by simp [mergeL]
  | u :: us, lo => by
    rw [mergeL, List.length_append, List.length_cons]
    have h1 := mergeL_len us (skipEq u.t (lo.dropWhile (fun p => decide (p.t < u.t))))
    have h2 : (skipEq u.t (lo.dropWhile (fun p => decide (p.t < u.t)))).length ≤ (lo.dropWhile (fun p => decide (p.t < u.t))).length := by
      cases lo.dropWhile (fun p => decide (p.t < u.t)) with
      | nil => simp [skipEq]
      | cons p r => simp only [skipEq]; split <;> simp
    have h3 : (lo.takeWhile (fun p => decide (p.t < u.t))).length + (lo.dropWhile (fun p => decide (p.t < u.t))).length = lo.length := by
      rw [← List.length_append, List.takeWhile_append_dropWhile]
    simp only [List.length_cons]
    omega

/-- How many are ahead of a time. -/
def placeOf (t : Int) (ps : List Pt) : Nat := (ps.takeWhile (fun p => decide (p.t < t))).length

/-- Upper points laid on a line. -/
def layP (ps : List Pt) : List Pt → List Pt
  | [] => ps
  | u :: us => ps.take (placeOf u.t ps) ++ mergeL (ps.drop (placeOf u.t ps)) (u :: us)

theorem placeOf_le (t : Int) (ps : List Pt) : placeOf t ps ≤ ps.length := (List.takeWhile_sublist _).length_le

theorem take_place (t : Int) (ps : List Pt) : ps.take (placeOf t ps) = ps.takeWhile (fun p => decide (p.t < t)) := by
  have h := List.takeWhile_append_dropWhile (p := fun p : Pt => decide (p.t < t)) (l := ps)
  have e : ps.take (placeOf t ps) = (ps.takeWhile (fun p => decide (p.t < t)) ++ ps.dropWhile (fun p => decide (p.t < t))).take (placeOf t ps) := by rw [h]
  rw [e]
  exact List.take_left' rfl

theorem drop_place (t : Int) (ps : List Pt) : ps.drop (placeOf t ps) = ps.dropWhile (fun p => decide (p.t < t)) := by
  have h := List.takeWhile_append_dropWhile (p := fun p : Pt => decide (p.t < t)) (l := ps)
  have e : ps.drop (placeOf t ps) = (ps.takeWhile (fun p => decide (p.t < t)) ++ ps.dropWhile (fun p => decide (p.t < t))).drop (placeOf t ps) := by rw [h]
  rw [e]
  exact List.drop_left' rfl

/-- It is the same as if all of the line were gone through. -/
theorem dropWhile_dropWhile (f : Pt → Bool) : ∀ l : List Pt, (l.dropWhile f).dropWhile f = l.dropWhile f
  | [] => rfl
  | p :: l => by
    cases h : f p with
    | true => simp [h, dropWhile_dropWhile f l]
    | false => simp [h]

theorem takeWhile_dropWhile (f : Pt → Bool) : ∀ l : List Pt, (l.dropWhile f).takeWhile f = []
  | [] => rfl
  | p :: l => by
    cases h : f p with
    | true => simp [h, takeWhile_dropWhile f l]
    | false => simp [h]

theorem layP_eq (ps us : List Pt) : layP ps us = mergeL ps us := by
  cases us with
  | nil => simp [layP, mergeL]
  | cons u us =>
    rw [layP, take_place, drop_place, mergeL, mergeL, takeWhile_dropWhile, dropWhile_dropWhile]
    simp

/-- Rising times. -/
def Rising (ps : List Pt) : Prop := ps.Pairwise fun a b => a.t < b.t

theorem Rising.at_lt {ps : List Pt} (h : Rising ps) {i j : Nat} (hi : i < j) (hj : j < ps.length) : (ps[i]'(by omega)).t < ps[j].t := (List.pairwise_iff_getElem.1 h) i j _ _ hi

/-- The place, found by halving. -/
theorem placeOf_of {ps : List Pt} {t : Int} {n : Nat} (hn : n ≤ ps.length) (hlo : ∀ j (h : j < n), (ps[j]'(by omega)).t < t) (hhi : ∀ h : n < ps.length, ¬ ps[n].t < t) : placeOf t ps = n := by
  have e : ps = ps.take n ++ ps.drop n := (List.take_append_drop n ps).symm
  unfold placeOf
  have h1 : ∀ x ∈ ps.take n, decide (x.t < t) = true := fun x hx => by
    obtain ⟨j, hj, rfl⟩ := List.getElem_of_mem hx
    rw [List.length_take] at hj
    rw [List.getElem_take]
    simpa using hlo j (by omega)
  have h2 : (ps.drop n).takeWhile (fun p => decide (p.t < t)) = [] := by
    by_cases c : n < ps.length
    · rw [List.drop_eq_getElem_cons c, List.takeWhile_cons]
      simp [hhi c]
    · rw [List.drop_of_length_le (by omega)]; rfl
  conv => lhs; rw [e, List.takeWhile_append_of_pos h1, h2]
  simp
  omega

end Silo
