/- sets.layered: two lists in order, gone through as if they were one. -/
import Derived.Test.YtojjkjfcbfoinaaAppSeq
import Derived.Test.YtojjkjfcbfoinaaPureE
import Derived.Sort.QuietIn
import Derived.Sort.CutIn
namespace Go.Proofs.Ytojjkjfcbfoinaa
open Go.RowKit Go.Shelf

attribute [local go_sem] Oper.semAt_some

/-- What layered reads. -/
structure LayRd (bu bl baseU baseL gu cu gl cl : Nat) (us lo : List Silo.Pt) (w : World) : Prop where
  ub : w.heap[bu]? = some (.cells #[.slice (some ⟨gu, 0, none⟩) us.length cu] 58 (0, 0))
  lb : w.heap[bl]? = some (.cells #[.slice (some ⟨gl, 0, none⟩) lo.length cl] 58 (0, 0))
  ur : World.ptsAt w baseU (.slice (some ⟨gu, 0, none⟩) us.length cu) us
  lr : World.ptsAt w baseL (.slice (some ⟨gl, 0, none⟩) lo.length cl) lo

theorem LayRd.fp {bu bl baseU baseL gu cu gl cl : Nat} {us lo : List Silo.Pt} {w w' : World} {S : Nat → Prop} (h : LayRd bu bl baseU baseL gu cu gl cl us lo w) (hf : Fp S w w') (hS : ∀ k, S k → ¬ (k = bu ∨ k = bl ∨ k = gu ∨ k = gl)) : LayRd bu bl baseU baseL gu cu gl cl us lo w' where
  ub := (hf.block _ (heap_lt h.ub) (fun e => hS _ e (.inl rfl))).trans h.ub
  lb := (hf.block _ (heap_lt h.lb) (fun e => hS _ e (.inr (.inl rfl)))).trans h.lb
  ur := Fp.ownsRow hf h.ur (fun k hk e => hS _ e (.inr (.inr (.inl (by simpa [Value.ownBlock, eq_comm] using hk)))))
  lr := Fp.ownsRow hf h.lr (fun k hk e => hS _ e (.inr (.inr (.inr (by simpa [Value.ownBlock, eq_comm] using hk)))))

/-- In the midst: pre has been handed on. -/
structure LSt (J : (Nat → Prop) → List Silo.Pt → World → Prop) (B : Nat → Prop) (W : World) (lo us : List Silo.Pt) (B' : Nat → Prop) (i j : Nat) (pre : List Silo.Pt) (wr : World) : Prop where
  inv : J B' pre wr
  foot : Fp B W wr
  old : ∀ k, B' k → (B k ∨ W.heap.size ≤ k) ∧ k < wr.heap.size
  rest : Silo.mergeL lo us = pre ++ Silo.mergeL (lo.drop i) (us.drop j)

theorem LSt.alloc {J : (Nat → Prop) → List Silo.Pt → World → Prop} {B : Nat → Prop} {W : World} {lo us : List Silo.Pt} {B' : Nat → Prop} {i j : Nat} {pre : List Silo.Pt} {wr : World} (h : LSt J B W lo us B' i j pre wr) (hJ : Stable J) (o : Obj) : LSt J B W lo us B' i j pre (wr.alloc o) := by
  have hf : Fp (fun _ => False) wr (wr.alloc o) := Fp.alloc _ _ _
  exact ⟨hJ B' _ _ _ h.inv (fun k hk => (h.old k hk).2) (hf.mono (fun _ _ h => h.elim)), h.foot.trans hf (fun _ h => h) (fun _ _ h => h.elim), fun k hk => ⟨(h.old k hk).1, Nat.lt_of_lt_of_le (h.old k hk).2 hf.size⟩, h.rest⟩

theorem LSt.quiet {J : (Nat → Prop) → List Silo.Pt → World → Prop} {B : Nat → Prop} {W : World} {lo us : List Silo.Pt} {B' : Nat → Prop} {i j : Nat} {pre : List Silo.Pt} {wr wr' : World} (h : LSt J B W lo us B' i j pre wr) (hJ : Stable J) (hf : Fp (fun _ => False) wr wr') : LSt J B W lo us B' i j pre wr' :=
  ⟨hJ B' _ _ _ h.inv (fun k hk => (h.old k hk).2) (hf.mono (fun _ _ h => h.elim)), h.foot.trans hf (fun _ h => h) (fun _ _ h => h.elim), fun k hk => ⟨(h.old k hk).1, Nat.lt_of_lt_of_le (h.old k hk).2 hf.size⟩, h.rest⟩

theorem LSt.yielded {J : (Nat → Prop) → List Silo.Pt → World → Prop} {B : Nat → Prop} {W : World} {lo us : List Silo.Pt} {B' B2 : Nat → Prop} {i j i' j' : Nat} {pre : List Silo.Pt} {x : Silo.Pt} {wr W3 : World} (h : LSt J B W lo us B' i j pre wr)
    (hx : Silo.mergeL (lo.drop i) (us.drop j) = x :: Silo.mergeL (lo.drop i') (us.drop j')) (h1 : J B2 (pre ++ [x]) W3) (h2 : Fp B' wr W3) (h3 : ∀ k, B2 k → (B' k ∨ wr.heap.size ≤ k) ∧ k < W3.heap.size) : LSt J B W lo us B2 i' j' (pre ++ [x]) W3 where
  inv := h1
  foot := h.foot.trans h2 (fun _ h => h) (fun k hk e => (h.old k e).1.elim id (fun h => by omega))
  old := fun k hk => ⟨by
    have := h.foot.size
    rcases (h3 k hk).1 with h' | h'
    · exact (h.old k h').1
    · right; omega, (h3 k hk).2⟩
  rest := by rw [h.rest, hx]; simp

theorem LSt.pre {J : (Nat → Prop) → List Silo.Pt → World → Prop} {B : Nat → Prop} {W : World} {lo us : List Silo.Pt} {B' : Nat → Prop} {i j i' j' : Nat} {pre : List Silo.Pt} {x : Silo.Pt} {wr : World} (h : LSt J B W lo us B' i j pre wr)
    (hx : Silo.mergeL (lo.drop i) (us.drop j) = x :: Silo.mergeL (lo.drop i') (us.drop j')) : (pre ++ [x]) <+: Silo.mergeL lo us := ⟨Silo.mergeL (lo.drop i') (us.drop j'), by rw [h.rest, hx]; simp⟩

theorem LSt.skip {J : (Nat → Prop) → List Silo.Pt → World → Prop} {B : Nat → Prop} {W : World} {lo us : List Silo.Pt} {B' : Nat → Prop} {i j : Nat} {pre : List Silo.Pt} {wr : World} (h : LSt J B W lo us B' i j pre wr) {i' j' : Nat}
    (hx : Silo.mergeL (lo.drop i) (us.drop j) = Silo.mergeL (lo.drop i') (us.drop j')) : LSt J B W lo us B' i' j' pre wr := ⟨h.inv, h.foot, h.old, by rw [h.rest, hx]⟩

end Go.Proofs.Ytojjkjfcbfoinaa
