/- Plain facts: the reference lays a sample as the other does. -/
import Derived.Test.YteoboonapcjadaaPure8
namespace Silo

/-- Does x come to stand here, ahead of y? -/
def here (x : Smp) (put : Bool) (y : Smp) : Bool := !put && (decide (x.s < y.s) || (decide (x.s = y.s) && decide (x.t ≤ y.t)))
def layStep (x : Smp) (st : List Smp × Bool) (y : Smp) : List Smp × Bool :=
  ((if here x st.2 y then st.1 ++ [x] else st.1) ++ (if x.s = y.s ∧ x.t = y.t then [] else [y]), st.2 || here x st.2 y)
def layR (l : List Smp) (x : Smp) : List Smp := let r := l.foldl (layStep x) ([], false); if r.2 then r.1 else r.1 ++ [x]

theorem layR_ahead (x : Smp) : ∀ (l out : List Smp), (∀ y ∈ l, ahead y x = true) → l.foldl (layStep x) (out, false) = (out ++ l, false) := by
  intro l
  induction l with
  | nil => intro out _; simp
  | cons y l ih =>
    intro out h
    have hy : bef y x := ahead_bef.1 (h y (by simp))
    have h1 : here x false y = false := by
      unfold here
      unfold bef at hy
      have a1 : decide (x.s < y.s) = false := by simp; omega
      by_cases e : x.s = y.s
      · have a2 : decide (x.t ≤ y.t) = false := by simp; omega
        simp [a1, a2]
      · simp [a1, e]
    have h2 : ¬ (x.s = y.s ∧ x.t = y.t) := by unfold bef at hy; omega
    rw [List.foldl_cons]
    have : layStep x (out, false) y = (out ++ [y], false) := by simp [layStep, h1, h2]
    rw [this, ih (out ++ [y]) (fun z hz => h z (by simp [hz]))]
    simp

theorem layR_behind (x : Smp) : ∀ (l out : List Smp), (∀ y ∈ l, bef x y) → l.foldl (layStep x) (out, true) = (out ++ l, true) := by
  intro l
  induction l with
  | nil => intro out _; simp
  | cons y l ih =>
    intro out h
    have hy := h y (by simp)
    have h2 : ¬ (x.s = y.s ∧ x.t = y.t) := by unfold bef at hy; omega
    rw [List.foldl_cons]
    have : layStep x (out, true) y = (out ++ [y], true) := by simp [layStep, here, h2]
    rw [this, ih (out ++ [y]) (fun z hz => h z (by simp [hz]))]
    simp

theorem take_of_app {a b l : List Smp} (h : a ++ b = l) : l.take a.length = a := by rw [← h]; simp
theorem drop_of_app {a b l : List Smp} (h : a ++ b = l) : l.drop a.length = b := by rw [← h]; simp

theorem layR_eq {l : List Smp} (hl : AscS l) (x : Smp) : layR l x = layL l x := by
  have hsplit : l = l.take (place l x) ++ l.drop (place l x) := (List.take_append_drop _ _).symm
  have htw : l.take (place l x) = l.takeWhile (fun a => ahead a x) := take_of_app (List.takeWhile_append_dropWhile (p := fun a => ahead a x) (l := l))
  have hah : ∀ y ∈ l.take (place l x), ahead y x = true := fun y hy => by rw [htw] at hy; exact mem_tw (fun a => ahead a x) l hy
  have key : l.foldl (layStep x) ([], false) = (l.drop (place l x)).foldl (layStep x) (l.take (place l x), false) := by
    conv => lhs; rw [hsplit]
    rw [List.foldl_append, layR_ahead x _ [] hah]
    rfl
  have hdrop : AscS (l.drop (place l x)) := List.Pairwise.sublist (List.drop_sublist _ _) hl
  have hnext : ∀ y ys, l.drop (place l x) = y :: ys → ahead y x = false := fun y ys hy => by
    have hdw : l.drop (place l x) = l.dropWhile (fun a => ahead a x) := drop_of_app (List.takeWhile_append_dropWhile (p := fun a => ahead a x) (l := l))
    rw [hdw] at hy
    have := List.head?_dropWhile_not (fun a => ahead a x) l
    rw [hy] at this
    simpa using this
  unfold layR layL
  simp only [key]
  cases hd : l.drop (place l x) with
  | nil =>
    have : layRest l x = [] := by unfold layRest; rw [hd]
    simp [this]
  | cons y ys =>
    have hn := hnext y ys hd
    have hnb : ¬ bef y x := fun h => by rw [ahead_bef.2 h] at hn; cases hn
    rw [hd] at hdrop
    have hys : ∀ z ∈ ys, bef y z := (List.pairwise_cons.1 hdrop).1
    have hxz : ∀ z ∈ ys, bef x z := fun z hz => by
      have := hys z hz
      unfold bef at this hnb ⊢
      omega
    have hh : here x false y = true := by
      unfold here
      unfold bef at hnb
      by_cases e1 : x.s < y.s
      · simp [e1]
      · have e2 : x.s = y.s := by omega
        have e3 : x.t ≤ y.t := by omega
        simp [e2, e3]
    have hrest : layRest l x = if sameKey y x then ys else y :: ys := by unfold layRest; rw [hd]
    rw [List.foldl_cons]
    by_cases e : x.s = y.s ∧ x.t = y.t
    · have e' : sameKey y x = true := by simp [sameKey, e.1, e.2]
      have : layStep x (l.take (place l x), false) y = (l.take (place l x) ++ [x], true) := by simp [layStep, hh, e]
      rw [this, layR_behind x ys _ hxz, hrest, e']
      simp
    · have e' : sameKey y x = false := by simp [sameKey]; omega
      have : layStep x (l.take (place l x), false) y = (l.take (place l x) ++ [x] ++ [y], true) := by simp [layStep, hh, e]
      rw [this, layR_behind x ys _ hxz, hrest, e']
      simp

theorem step_none {x y : Smp} {out : List Smp} (hs : x.s = y.s) (ht : x.t = y.t) : layStep x (out, true) y = (out, true) := by simp [layStep, here, hs, ht]
theorem step_yp {x y : Smp} {out : List Smp} (h : ¬ (x.s = y.s ∧ x.t = y.t)) : layStep x (out, true) y = (out ++ [y], true) := by simp [layStep, here, h]
theorem step_x {x y : Smp} {out : List Smp} (hs : x.s = y.s) (ht : x.t = y.t) : layStep x (out, false) y = (out ++ [x], true) := by simp [layStep, here, hs, ht]
theorem step_xy {x y : Smp} {out : List Smp} (h : ¬ (x.s = y.s ∧ x.t = y.t)) (hh : x.s < y.s ∨ x.s = y.s ∧ x.t ≤ y.t) : layStep x (out, false) y = (out ++ [x] ++ [y], true) := by
  have : here x false y = true := by unfold here; simpa using hh
  simp [layStep, this, h]
theorem step_y {x y : Smp} {out : List Smp} (h : ¬ (x.s = y.s ∧ x.t = y.t)) (hh : ¬ (x.s < y.s ∨ x.s = y.s ∧ x.t ≤ y.t)) : layStep x (out, false) y = (out ++ [y], false) := by
  have : here x false y = false := by unfold here; simpa using hh
  simp [layStep, this, h]

end Silo
