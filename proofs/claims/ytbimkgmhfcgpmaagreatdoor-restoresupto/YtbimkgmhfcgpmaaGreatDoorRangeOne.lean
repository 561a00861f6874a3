/- RangeFp, RangeFpS, in one text. -/
import Derived.Test.YtbimkgmhfcgpmaaGreatDoorFoot
import Derived.RangeFuncNested
import Derived.RangeFuncBound
import Derived.RangeFuncCalls
import Derived.RangeFuncLeaves
import Derived.Shelf.Abstract
import Derived.OwnWalkIn
import Derived.TacticsInMore
import Derived.LoopNIn
import Derived.LoopIn

/- A range over a function whose iterator writes into blocks of its own: a law by footprints. Over any program. -/
namespace Go.Proofs.YtbimkgmhfcgpmaaGreatDoor
open Go.RowKit Go.Shelf

/-- J speaks of the blocks in B alone. -/
def Stable {α : Type} (J : (Nat → Prop) → List α → World → Prop) : Prop :=
  ∀ B pre A A', J B pre A → (∀ k, B k → k < A.heap.size) → Fp (fun k => ¬ B k) A A' → J B pre A'

/-- The iterator hands on just xs, whatever the body does in blocks of its own (B); it leans on R; it writes into T and into what it makes itself. -/
def SeqFp {α : Type} (F : Fence) (n : Nat) (P : Program) (g : Nat) (lb : Array Value) (encs : α → Array Value) (xs : List α) (R T : Nat → Prop) (w : World) (E : World → Prop) : Prop :=
  ∀ (l : Nat) (J : (Nat → Prop) → List α → World → Prop) (B : Nat → Prop) (W : World), Fp (fun _ => False) w W → (∀ k, B k → k < W.heap.size ∧ ¬ R k) → Stable J →
    (∀ B pre x W1, J B pre W1 → (∀ k, B k → k < W1.heap.size) → (pre ++ [x]) <+: xs → YieldAt F (n - 1) P l (encs x) W1 fun e W' =>
      e = .returned (.bool true) ∧ ∃ B', J B' (pre ++ [x]) W' ∧ Fp B W1 W' ∧ ∀ k, B' k → (B k ∨ W1.heap.size ≤ k) ∧ k < W'.heap.size) →
    J B [] W →
    CallsIn F n P g (#[.func (.yield l) #[] #[]] ++ lb) W fun e W' => (∃ v, e = .returned v) ∧
      ∃ B', J B' xs W' ∧ Fp (fun k => B k ∨ T k) W W' ∧ (∀ k, B' k → (B k ∨ W.heap.size ≤ k) ∧ k < W'.heap.size) ∧ E W'

theorem SeqFp.inRound {α : Type} {F : Fence} {n : Nat} {P : Program} {g : Nat} {lb : Array Value} {encs : α → Array Value} {xs : List α} {R T : Nat → Prop} {w : World} {E : World → Prop} (l : Nat)
    (h : SeqFp F n P g lb encs xs R T w E) : SeqFp (F.inRound l) n P g lb encs xs R T w E := h

theorem Fp.putObj {S : Nat → Prop} (w : World) (l : Nat) (o : Obj) (hl : S l) : Fp S w (w.putObj l o) :=
  ⟨rfl, rfl, rfl, by simp [World.putObj], fun k _ hk => World.putObj_heap_other (fun e => hk (e ▸ hl))⟩

/-- How a round's body is left: where it goes on. -/
def fpPost {α : Type} (I : (Nat → Prop) → List α → World → Prop) (B : Nat → Prop) (xs : List α) (sz : Nat) (W : World) : Exit → Act → World → Prop
  | .normal, _, W' => ∃ B', I B' xs W' ∧ Fp (fun k => B k ∨ sz ≤ k) W W' ∧ ∀ k, B' k → (B k ∨ sz ≤ k) ∧ k < W'.heap.size
  | _, _, _ => False

section

variable {F : Fence} {n : Nat} {P : Program}

/-- One round, whatever the loop's record is. -/
theorem round_fp {α : Type} {ps : Array Tmp} {assign body : Code} {encs : α → Array Value} {xs : List α} {fn : FuncId} {tmps : Array Value} {D : Nat} {l : Nat} {sz0 : Nat}
    (hfn : F.fn fn) (hps : ∀ x, (encs x).size = ps.size) (I : (Nat → Prop) → List α → World → Prop) (hI : Stable I)
    (hround : ∀ (l : Nat) (B : Nat → Prop) (pre : List α) (x : α) (W : World) (K : Act → World → Prop), sz0 ≤ l → l < W.heap.size → (∃ r, W.heap[l]? = some (.loop r)) → ¬ B l → I B pre W → (∀ k, B k → k < W.heap.size) → (pre ++ [x]) <+: xs →
      (∀ a' W', Fp (fun _ => False) W W' → (∀ Wc, Fp (fun k => k = l) W' Wc → (∃ r, Wc.heap[l]? = some (.loop r)) → I B pre Wc → body.wpIn (F.inRound l) (n - 1 - 1) P (fpPost I B (pre ++ [x]) W.heap.size Wc) a' Wc) → K a' W') →
      assign.wpIn (F.inRound l) (n - 1 - 1) P (Exit.then K (fun _ _ _ => False)) { tmps := (ps.zip (encs x)).foldl (fun t (p, v) => t.setIfInBounds p v) tmps, defers := [] } W)
    (rec : LoopState → Option Code → Loop) (hrec : rec = fun st pe => { state := st, pending := pe, fn, tmps := tmps, params := ps, assign, body, defers := D })
    (hl0 : sz0 ≤ l) (B : Nat → Prop) (pre : List α) (x : α) (W : World) (hl : W.heap[l]? = some (.loop (rec .ready none))) (hBl : ¬ B l) (hi : I B pre W) (hB : ∀ k, B k → k < W.heap.size) (hx : (pre ++ [x]) <+: xs) :
    YieldAt F (n - 1 - 1) P l (encs x) W fun e W' => e = .returned (.bool true) ∧ ∃ B', I B' (pre ++ [x]) W' ∧ W'.heap[l]? = some (.loop (rec .ready none)) ∧ ¬ B' l ∧ Fp (fun k => B k ∨ k = l) W W' ∧
      (∀ k, B' k → (B k ∨ W.heap.size ≤ k) ∧ k < W'.heap.size) := by
  have hlt : l < W.heap.size := (Array.getElem?_eq_some_iff.1 hl).1
  have hy := run_yield (P := P) (args := encs x) hl (by rw [hrec]; exact hps x)
  rw [hrec] at hy
  refine ⟨fn, _, assign, body, hy, roundIn_of_wpIn hfn (hround l B pre x W _ hl0 hlt ⟨_, hl⟩ hBl hi hB hx ?_)⟩
  clear hy
  intro a' Wa hfa hbody
  have hla : Wa.heap[l]? = some (.loop (rec .ready none)) := by rw [hfa.block l hlt (fun h => h)]; exact hl
  have hlta : l < Wa.heap.size := Nat.lt_of_lt_of_le hlt hfa.size
  refine ⟨_, run_beginRound hla (by rw [hrec]), ?_⟩
  have hl2 : (Wa.putObj l (.loop { rec .ready none with state := .busy })).heap[l]? = some (.loop { rec .ready none with state := .busy }) := World.putObj_heap_same hlta
  have hf2 : Fp (fun k => k = l) Wa (Wa.putObj l (.loop { rec .ready none with state := .busy })) := Fp.putObj _ _ _ rfl
  have hia : I B pre Wa := hI B pre W Wa hi hB (hfa.mono (fun _ _ h => h.elim))
  have hBa : ∀ k, B k → k < Wa.heap.size := fun k hk => Nat.lt_of_lt_of_le (hB k hk) hfa.size
  have hi2 : I B pre (Wa.putObj l (.loop { rec .ready none with state := .busy })) := hI B pre Wa _ hia hBa (hf2.mono (fun k _ e hk => hBl (e ▸ hk)))
  refine wpIn_mono (hbody _ hf2 ⟨_, hl2⟩ hi2) ?_
  generalize hWc : Wa.putObj l (.loop { rec .ready none with state := .busy }) = Wc at *
  rintro e a3 W3 hp
  cases e with
  | normal =>
    obtain ⟨B', hi3, hf3, hB3⟩ := hp
    have hltc : l < Wc.heap.size := (Array.getElem?_eq_some_iff.1 hl2).1
    have hl3 : W3.heap[l]? = some (.loop { rec .ready none with state := .busy }) := by
      rw [hf3.block l hltc (fun h => h.elim hBl (fun h => by omega))]; exact hl2
    have hr := run_endRound (P := P) none hl3
    have hlt3 : l < W3.heap.size := (Array.getElem?_eq_some_iff.1 hl3).1
    have hBl' : ¬ B' l := fun h => (hB3 l h).1.elim hBl (fun h => by omega)
    have hf4 : Fp (fun k => k = l) W3 (W3.putObj l (.loop (rec .ready none))) := Fp.putObj _ _ _ rfl
    have hrr : ({ ({ rec .ready none with state := .busy } : Loop) with state := if (none : Option Code).isNone then .ready else .done, pending := none } : Loop) = rec .ready none := by rw [hrec]; rfl
    rw [hrr] at hr
    refine ⟨_, _, hr, rfl, B', hI B' _ W3 _ hi3 (fun k hk => (hB3 k hk).2) (hf4.mono (fun k _ e hk => hBl' (e ▸ hk))), World.putObj_heap_same hlt3, hBl', ?_, ?_⟩
    · have t1 : Fp (fun k => B k ∨ k = l) W Wc := (hfa.trans hf2 (U := fun k => B k ∨ k = l) (fun _ h => h.elim) (fun _ _ e => .inr e))
      have t2 : Fp (fun k => B k ∨ k = l) W W3 := t1.trans hf3 (fun _ h => h) (fun k hk h => h.elim .inl (fun h => by omega))
      exact t2.trans hf4 (fun _ h => h) (fun _ _ e => .inr e)
    · intro k hk
      have hs4 : (W3.putObj l (.loop (rec .ready none))).heap.size = W3.heap.size := by simp [World.putObj]
      rw [hs4]
      exact hB3 k hk
  | ret => exact hp.elim
  | exit id => exact hp.elim
  | goto t => exact hp.elim
  | panic ch => exact hp.elim
  | outgrown => exact hp.elim

/-- **The law, outside every round.** -/
theorem wpIn_rangeFp {α : Type} {g : Operand} {ps : Array Tmp} {assign body : Code} {Q : Exit → Act → World → Prop} {a : Act} {w : World}
    (hro : F.round = none) (h1 : 1 ≤ n) {gf : Nat} {lb : Array Value} (hg : a.eval g = .func (.func gf) #[] lb) (hFg : F.fn gf) (eg : ∀ args w, (callFunc gf args).run P w = .ok (.enter gf args) w)
    {encs : α → Array Value} {xs : List α} {R T : Nat → Prop} {E : World → Prop} (hseq : SeqFp F (n - 1) P gf lb encs xs R T w E) (hps : ∀ x, (encs x).size = ps.size)
    (hE : ∀ A A', E A → Fp (fun k => ¬ R k) A A' → E A') (hR : ∀ k, R k → k < w.heap.size)
    (I : (Nat → Prop) → List α → World → Prop) (hI : Stable I) (B0 : Nat → Prop) (hB0 : ∀ k, B0 k → k < w.heap.size ∧ ¬ R k) (h0 : I B0 [] w)
    (hround : ∀ (l : Nat) (B : Nat → Prop) (pre : List α) (x : α) (W : World) (K : Act → World → Prop), w.heap.size ≤ l → l < W.heap.size → (∃ r, W.heap[l]? = some (.loop r)) → ¬ B l → I B pre W → (∀ k, B k → k < W.heap.size) → (pre ++ [x]) <+: xs →
      (∀ a' W', Fp (fun _ => False) W W' → (∀ Wc, Fp (fun k => k = l) W' Wc → (∃ r, Wc.heap[l]? = some (.loop r)) → I B pre Wc → body.wpIn (F.inRound l) (n - 1 - 1) P (fpPost I B (pre ++ [x]) W.heap.size Wc) a' Wc) → K a' W') →
      assign.wpIn (F.inRound l) (n - 1 - 1) P (Exit.then K (fun _ _ _ => False)) { tmps := (ps.zip (encs x)).foldl (fun t (p, v) => t.setIfInBounds p v) a.tmps, defers := [] } W)
    (hdone : ∀ (D : Nat) (B : Nat → Prop) (W : World), w.heap.size ≤ D → I B xs W → Fp (fun k => B0 k ∨ T k) w W → (∀ k, B k → (B0 k ∨ w.heap.size ≤ k) ∧ k < W.heap.size) → ¬ B D → E W → W.heap[D]? = some (.deferred (some [])) →
      Q .normal { a with defers := { target := .collected D, args := #[] } :: a.defers } W) :
    (Code.rangeFunc g ps assign body).wpIn F n P Q a w := by
  refine wpIn_rangeFunc ?_
  intro fn hfn
  rw [hro]
  obtain ⟨rec, hrec⟩ : ∃ rec : LoopState → Option Code → Loop, rec = fun st pe => { state := st, pending := pe, fn, tmps := a.tmps, params := ps, assign, body, defers := w.heap.size } := ⟨_, rfl⟩
  obtain ⟨W1, hW1⟩ : ∃ W1, (w.alloc (.deferred (some []))).alloc (.loop (rec .ready none)) = W1 := ⟨_, rfl⟩
  have hf1 : Fp (fun _ => False) w W1 := by rw [← hW1]; exact (Fp.alloc _ _ _).trans' (Fp.alloc _ _ _)
  have hL1 : W1.heap[w.heap.size + 1]? = some (.loop (rec .ready none)) := by
    rw [← hW1]; have := World.alloc_heap_new (w.alloc (.deferred (some []))) (.loop (rec .ready none)); rwa [World.size_alloc] at this
  have hK1 : W1.heap[w.heap.size]? = some (.deferred (some [])) := by
    rw [← hW1]; exact (Below.heap_alloc _ _ _ (by simp)).trans (World.alloc_heap_new w _)
  have hsz1 : W1.heap.size = w.heap.size + 2 := by rw [← hW1]; simp
  have hI1 : I B0 [] W1 := hI B0 [] w W1 h0 (fun k hk => (hB0 k hk).1) (hf1.mono (fun _ _ h => h.elim))
  refine ⟨w.heap.size + 1, [{ target := .collected w.heap.size, args := #[] }], W1, { target := .fn (.func gf) lb, args := #[.func (.yield (w.heap.size + 1)) #[] #[]] }, W1, gf,
    #[.func (.yield (w.heap.size + 1)) #[] #[]] ++ lb, W1, ?_, ?_, ?_, ?_, fun _ => h1, ?_⟩
  · rw [← hW1, hrec]; exact run_enterLoop_outer _ _ _ _ _
  · simp only [resolve, hg]
    simp [go_sem]
  · intro f' hf'; simp [Target.leads] at hf'; subst hf'; exact hFg
  · simp [invoke, go_sem, eg]
  · refine (hseq (w.heap.size + 1)
      (fun B pre W => ∃ Bi : Nat → Prop, I Bi pre W ∧ (∀ k, B k ↔ Bi k ∨ k = w.heap.size + 1 ∨ k = w.heap.size) ∧ ¬ Bi (w.heap.size + 1) ∧ ¬ Bi w.heap.size ∧
        W.heap[w.heap.size + 1]? = some (.loop (rec .ready none)) ∧ W.heap[w.heap.size]? = some (.deferred (some [])) ∧ ∀ k, Bi k → B0 k ∨ w.heap.size ≤ k)
      (fun k => B0 k ∨ k = w.heap.size + 1 ∨ k = w.heap.size) W1 hf1 ?_ ?_ ?_ ?_).mono ?_
    · rintro k (hk | rfl | rfl)
      · have := hB0 k hk; exact ⟨by omega, this.2⟩
      · exact ⟨by omega, fun h => by have := hR _ h; omega⟩
      · exact ⟨by omega, fun h => by have := hR _ h; omega⟩
    · rintro B pre A A' ⟨Bi, hi, hB, hn1, hn2, hl, hd, hold⟩ hlt hf
      have e1 : A'.heap[w.heap.size + 1]? = A.heap[w.heap.size + 1]? := hf.block _ (Array.getElem?_eq_some_iff.1 hl).1 (fun h => h ((hB _).2 (.inr (.inl rfl))))
      have e2 : A'.heap[w.heap.size]? = A.heap[w.heap.size]? := hf.block _ (Array.getElem?_eq_some_iff.1 hd).1 (fun h => h ((hB _).2 (.inr (.inr rfl))))
      exact ⟨Bi, hI Bi pre A A' hi (fun k hk => hlt k ((hB k).2 (.inl hk))) (hf.mono (fun k _ h hk => h ((hB k).2 (.inl hk)))), hB, hn1, hn2, e1.trans hl, e2.trans hd, hold⟩
    · rintro B pre x W ⟨Bi, hi, hB, hn1, hn2, hl, hd, hold⟩ hlt hx
      refine (round_fp (l := w.heap.size + 1) hfn hps I hI hround rec hrec (by omega) Bi pre x W hl hn1 hi (fun k hk => hlt k ((hB k).2 (.inl hk))) hx).mono ?_
      rintro e W' ⟨rfl, B', hi', hl', hn', hf', hB'⟩
      refine ⟨rfl, fun k => B' k ∨ k = w.heap.size + 1 ∨ k = w.heap.size, ⟨B', hi', fun _ => Iff.rfl, hn', ?_, hl', ?_, ?_⟩, ?_, ?_⟩
      · intro h
        have := (Array.getElem?_eq_some_iff.1 hd).1
        exact (hB' _ h).1.elim hn2 (fun h => by omega)
      · exact (hf'.block _ (Array.getElem?_eq_some_iff.1 hd).1 (fun h => h.elim hn2 (fun h => by omega))).trans hd
      · intro k hk
        have := (Array.getElem?_eq_some_iff.1 hd).1
        exact (hB' k hk).1.elim (hold k) (fun h => .inr (by omega))
      · exact hf'.mono (fun k _ h => h.elim (fun h => (hB k).2 (.inl h)) (fun h => (hB k).2 (.inr (.inl h))))
      · have h1 := (Array.getElem?_eq_some_iff.1 hd).1
        have h2 := (Array.getElem?_eq_some_iff.1 hl).1
        have h3 := hf'.size
        rintro k (hk | rfl | rfl)
        · exact ⟨(hB' k hk).1.imp (fun h => (hB k).2 (.inl h)) id, (hB' k hk).2⟩
        · exact ⟨.inl ((hB _).2 (.inr (.inl rfl))), by omega⟩
        · exact ⟨.inl ((hB _).2 (.inr (.inr rfl))), by omega⟩
    · exact ⟨B0, hI1, fun _ => Iff.rfl, fun h => by have := (hB0 _ h).1; omega, fun h => by have := (hB0 _ h).1; omega, hL1, hK1, fun _ h => .inl h⟩
    · rintro e W2 ⟨⟨v, rfl⟩, B', ⟨Bi, hi, hB, hn1, hn2, hl, hd, hold⟩, hf, hB', hE2⟩
      have hl2 := (Array.getElem?_eq_some_iff.1 hl).1
      have hf3 : Fp (fun k => k = w.heap.size + 1) W2 (W2.putObj (w.heap.size + 1) (.loop { rec .ready none with state := .exhausted })) := Fp.putObj _ _ _ rfl
      refine ⟨none, _, by have := run_endLoop (P := P) hl (by rw [hrec]; simp); rw [hrec] at this; exact this, ?_⟩
      have e9 : ({ state := .exhausted, pending := none, fn := fn, tmps := a.tmps, params := ps, assign := assign, body := body, defers := w.heap.size } : Loop) = { rec .ready none with state := .exhausted } := by rw [hrec]
      have hsz3 : (W2.putObj (w.heap.size + 1) (.loop { rec .ready none with state := .exhausted })).heap.size = W2.heap.size := by simp [World.putObj]
      show Q .normal _ (W2.putObj (w.heap.size + 1) (.loop _))
      rw [e9]
      refine hdone w.heap.size Bi _ (Nat.le_refl _) (hI Bi xs W2 _ hi (fun k hk => (hB' k ((hB k).2 (.inl hk))).2) (hf3.mono (fun k _ e hk => hn1 (e ▸ hk)))) ?_ ?_ hn2 (hE _ _ hE2 (hf3.mono (fun k _ e h => by have := hR k h; omega))) ?_
      · have t1 : Fp (fun k => B0 k ∨ T k) w W2 := hf1.trans hf (fun _ h => h.elim) (fun k hk h => by
          rcases h with (h | rfl | rfl) | h
          · exact .inl h
          · omega
          · omega
          · exact .inr h)
        exact t1.trans hf3 (fun _ h => h) (fun k hk e => by omega)
      · intro k hk
        rw [hsz3]
        exact ⟨hold k hk, (hB' k ((hB k).2 (.inl hk))).2⟩
      · exact (World.putObj_heap_other (by omega)).trans hd

end

end Go.Proofs.YtbimkgmhfcgpmaaGreatDoor

/- A range over a function whose body may return: a law by footprints. Over any program. -/
namespace Go.Proofs.YtbimkgmhfcgpmaaGreatDoor
open Go.RowKit Go.Shelf

/-- J speaks of the blocks in B alone; 'none': a round has said that it is enough. -/
def StableS {α : Type} (J : (Nat → Prop) → Option (List α) → World → Prop) : Prop :=
  ∀ B pre A A', J B pre A → (∀ k, B k → k < A.heap.size) → Fp (fun k => ¬ B k) A A' → J B pre A'

/-- The iterator hands on just xs, or the first of them till a round says that it is enough. -/
def SeqFpS {α : Type} (F : Fence) (n : Nat) (P : Program) (g : Nat) (lb : Array Value) (encs : α → Array Value) (xs : List α) (R T : Nat → Prop) (w : World) : Prop :=
  ∀ (l : Nat) (J : (Nat → Prop) → Option (List α) → World → Prop) (B : Nat → Prop) (W : World), Fp (fun _ => False) w W → (∀ k, B k → k < W.heap.size ∧ ¬ R k) → StableS J →
    (∀ B pre x W1, J B (some pre) W1 → (∀ k, B k → k < W1.heap.size) → (pre ++ [x]) <+: xs → YieldAt F (n - 1) P l (encs x) W1 fun e W' =>
      (e = .returned (.bool true) ∧ ∃ B', J B' (some (pre ++ [x])) W' ∧ Fp B W1 W' ∧ ∀ k, B' k → (B k ∨ W1.heap.size ≤ k) ∧ k < W'.heap.size) ∨
      (e = .returned (.bool false) ∧ ∃ B', J B' none W' ∧ Fp B W1 W' ∧ ∀ k, B' k → (B k ∨ W1.heap.size ≤ k) ∧ k < W'.heap.size)) →
    J B (some []) W →
    CallsIn F n P g (#[.func (.yield l) #[] #[]] ++ lb) W fun e W' => (∃ v, e = .returned v) ∧
      ∃ B', (J B' (some xs) W' ∨ J B' none W') ∧ Fp (fun k => B k ∨ T k) W W' ∧ (∀ k, B' k → (B k ∨ W.heap.size ≤ k) ∧ k < W'.heap.size)

/-- How a round's body is left: where it goes on, where it returns. -/
def fpPostS {α : Type} (I : (Nat → Prop) → Option (List α) → World → Prop) (B : Nat → Prop) (xs : List α) (sz : Nat) (W : World) : Exit → Act → World → Prop
  | .normal, _, W' => ∃ B', I B' (some xs) W' ∧ Fp (fun k => B k ∨ sz ≤ k) W W' ∧ ∀ k, B' k → (B k ∨ sz ≤ k) ∧ k < W'.heap.size
  | .ret, _, W' => ∃ B', I B' none W' ∧ Fp (fun k => B k ∨ sz ≤ k) W W' ∧ ∀ k, B' k → (B k ∨ sz ≤ k) ∧ k < W'.heap.size
  | _, _, _ => False

section
variable {F : Fence} {n : Nat} {P : Program}

/-- One round, whatever the loop's record is. -/
theorem round_fpS {α : Type} {ps : Array Tmp} {assign body : Code} {encs : α → Array Value} {xs : List α} {fn : FuncId} {tmps : Array Value} {D : Nat} {l : Nat} {sz0 : Nat}
    (hfn : F.fn fn) (hps : ∀ x, (encs x).size = ps.size) (I : (Nat → Prop) → Option (List α) → World → Prop) (hI : StableS I)
    (hround : ∀ (l : Nat) (B : Nat → Prop) (pre : List α) (x : α) (W : World) (K : Act → World → Prop), sz0 ≤ l → l < W.heap.size → (∃ r, W.heap[l]? = some (.loop r)) → ¬ B l → I B (some pre) W → (∀ k, B k → k < W.heap.size) → (pre ++ [x]) <+: xs →
      (∀ a' W', Fp (fun _ => False) W W' → (∀ Wc, Fp (fun k => k = l) W' Wc → (∃ r, Wc.heap[l]? = some (.loop r)) → I B (some pre) Wc → body.wpIn (F.inRound l) (n - 1 - 1) P (fpPostS I B (pre ++ [x]) W.heap.size Wc) a' Wc) → K a' W') →
      assign.wpIn (F.inRound l) (n - 1 - 1) P (Exit.then K (fun _ _ _ => False)) { tmps := (ps.zip (encs x)).foldl (fun t (p, v) => t.setIfInBounds p v) tmps, defers := [] } W)
    (rec : LoopState → Option Code → Loop) (hrec : rec = fun st pe => { state := st, pending := pe, fn, tmps := tmps, params := ps, assign, body, defers := D })
    (hl0 : sz0 ≤ l) (B : Nat → Prop) (pre : List α) (x : α) (W : World) (hl : W.heap[l]? = some (.loop (rec .ready none))) (hBl : ¬ B l) (hi : I B (some pre) W) (hB : ∀ k, B k → k < W.heap.size) (hx : (pre ++ [x]) <+: xs) :
    YieldAt F (n - 1 - 1) P l (encs x) W fun e W' => (e = .returned (.bool true) ∧ ∃ B', I B' (some (pre ++ [x])) W' ∧ W'.heap[l]? = some (.loop (rec .ready none)) ∧ ¬ B' l ∧ Fp (fun k => B k ∨ k = l) W W' ∧
      (∀ k, B' k → (B k ∨ W.heap.size ≤ k) ∧ k < W'.heap.size)) ∨ (e = .returned (.bool false) ∧ ∃ B', I B' none W' ∧ W'.heap[l]? = some (.loop (rec .done (some .ret))) ∧ ¬ B' l ∧ Fp (fun k => B k ∨ k = l) W W' ∧
      (∀ k, B' k → (B k ∨ W.heap.size ≤ k) ∧ k < W'.heap.size)) := by
  have hlt : l < W.heap.size := (Array.getElem?_eq_some_iff.1 hl).1
  have hy := run_yield (P := P) (args := encs x) hl (by rw [hrec]; exact hps x)
  rw [hrec] at hy
  refine ⟨fn, _, assign, body, hy, roundIn_of_wpIn hfn (hround l B pre x W _ hl0 hlt ⟨_, hl⟩ hBl hi hB hx ?_)⟩
  clear hy
  intro a' Wa hfa hbody
  have hla : Wa.heap[l]? = some (.loop (rec .ready none)) := by rw [hfa.block l hlt (fun h => h)]; exact hl
  have hlta : l < Wa.heap.size := Nat.lt_of_lt_of_le hlt hfa.size
  refine ⟨_, run_beginRound hla (by rw [hrec]), ?_⟩
  have hl2 : (Wa.putObj l (.loop { rec .ready none with state := .busy })).heap[l]? = some (.loop { rec .ready none with state := .busy }) := World.putObj_heap_same hlta
  have hf2 : Fp (fun k => k = l) Wa (Wa.putObj l (.loop { rec .ready none with state := .busy })) := Fp.putObj _ _ _ rfl
  have hia : I B (some pre) Wa := hI B (some pre) W Wa hi hB (hfa.mono (fun _ _ h => h.elim))
  have hBa : ∀ k, B k → k < Wa.heap.size := fun k hk => Nat.lt_of_lt_of_le (hB k hk) hfa.size
  have hi2 : I B (some pre) (Wa.putObj l (.loop { rec .ready none with state := .busy })) := hI B (some pre) Wa _ hia hBa (hf2.mono (fun k _ e hk => hBl (e ▸ hk)))
  refine wpIn_mono (hbody _ hf2 ⟨_, hl2⟩ hi2) ?_
  generalize hWc : Wa.putObj l (.loop { rec .ready none with state := .busy }) = Wc at *
  rintro e a3 W3 hp
  cases e with
  | normal =>
    obtain ⟨B', hi3, hf3, hB3⟩ := hp
    have hltc : l < Wc.heap.size := (Array.getElem?_eq_some_iff.1 hl2).1
    have hl3 : W3.heap[l]? = some (.loop { rec .ready none with state := .busy }) := by
      rw [hf3.block l hltc (fun h => h.elim hBl (fun h => by omega))]; exact hl2
    have hr := run_endRound (P := P) none hl3
    have hlt3 : l < W3.heap.size := (Array.getElem?_eq_some_iff.1 hl3).1
    have hBl' : ¬ B' l := fun h => (hB3 l h).1.elim hBl (fun h => by omega)
    have hf4 : Fp (fun k => k = l) W3 (W3.putObj l (.loop (rec .ready none))) := Fp.putObj _ _ _ rfl
    have hrr : ({ ({ rec .ready none with state := .busy } : Loop) with state := if (none : Option Code).isNone then .ready else .done, pending := none } : Loop) = rec .ready none := by rw [hrec]; rfl
    rw [hrr] at hr
    refine ⟨_, _, hr, .inl ⟨rfl, B', hI B' _ W3 _ hi3 (fun k hk => (hB3 k hk).2) (hf4.mono (fun k _ e hk => hBl' (e ▸ hk))), World.putObj_heap_same hlt3, hBl', ?_, ?_⟩⟩
    · have t1 : Fp (fun k => B k ∨ k = l) W Wc := (hfa.trans hf2 (U := fun k => B k ∨ k = l) (fun _ h => h.elim) (fun _ _ e => .inr e))
      have t2 : Fp (fun k => B k ∨ k = l) W W3 := t1.trans hf3 (fun _ h => h) (fun k hk h => h.elim .inl (fun h => by omega))
      exact t2.trans hf4 (fun _ h => h) (fun _ _ e => .inr e)
    · intro k hk
      have hs4 : (W3.putObj l (.loop (rec .ready none))).heap.size = W3.heap.size := by simp [World.putObj]
      rw [hs4]
      exact hB3 k hk
  | ret =>
    obtain ⟨B', hi3, hf3, hB3⟩ := hp
    have hltc : l < Wc.heap.size := (Array.getElem?_eq_some_iff.1 hl2).1
    have hl3 : W3.heap[l]? = some (.loop { rec .ready none with state := .busy }) := by
      rw [hf3.block l hltc (fun h => h.elim hBl (fun h => by omega))]; exact hl2
    have hr := run_endRound (P := P) (some .ret) hl3
    have hlt3 : l < W3.heap.size := (Array.getElem?_eq_some_iff.1 hl3).1
    have hBl' : ¬ B' l := fun h => (hB3 l h).1.elim hBl (fun h => by omega)
    have hf4 : Fp (fun k => k = l) W3 (W3.putObj l (.loop (rec .done (some .ret)))) := Fp.putObj _ _ _ rfl
    have hrr : ({ ({ rec .ready none with state := .busy } : Loop) with state := if (some Code.ret : Option Code).isNone then .ready else .done, pending := some .ret } : Loop) = rec .done (some .ret) := by rw [hrec]; rfl
    rw [hrr] at hr
    refine ⟨_, _, hr, .inr ⟨rfl, B', hI B' _ W3 _ hi3 (fun k hk => (hB3 k hk).2) (hf4.mono (fun k _ e hk => hBl' (e ▸ hk))), World.putObj_heap_same hlt3, hBl', ?_, ?_⟩⟩
    · have t1 : Fp (fun k => B k ∨ k = l) W Wc := (hfa.trans hf2 (U := fun k => B k ∨ k = l) (fun _ h => h.elim) (fun _ _ e => .inr e))
      have t2 : Fp (fun k => B k ∨ k = l) W W3 := t1.trans hf3 (fun _ h => h) (fun k hk h => h.elim .inl (fun h => by omega))
      exact t2.trans hf4 (fun _ h => h) (fun _ _ e => .inr e)
    · intro k hk
      have hs4 : (W3.putObj l (.loop (rec .done (some .ret)))).heap.size = W3.heap.size := by simp [World.putObj]
      rw [hs4]
      exact hB3 k hk
  | exit id => exact hp.elim
  | goto t => exact hp.elim
  | panic ch => exact hp.elim
  | outgrown => exact hp.elim

/-- **The law, outside every round, where the body may return.** -/
theorem wpIn_rangeFpS {α : Type} {g : Operand} {ps : Array Tmp} {assign body : Code} {Q : Exit → Act → World → Prop} {a : Act} {w : World}
    (hro : F.round = none) (h1 : 1 ≤ n) {gf : Nat} {lb : Array Value} (hg : a.eval g = .func (.func gf) #[] lb) (hFg : F.fn gf) (eg : ∀ args w, (callFunc gf args).run P w = .ok (.enter gf args) w)
    {encs : α → Array Value} {xs : List α} {R T : Nat → Prop} (hseq : SeqFpS F (n - 1) P gf lb encs xs R T w) (hps : ∀ x, (encs x).size = ps.size)
    (hR : ∀ k, R k → k < w.heap.size)
    (I : (Nat → Prop) → Option (List α) → World → Prop) (hI : StableS I) (B0 : Nat → Prop) (hB0 : ∀ k, B0 k → k < w.heap.size ∧ ¬ R k) (h0 : I B0 (some []) w)
    (hround : ∀ (l : Nat) (B : Nat → Prop) (pre : List α) (x : α) (W : World) (K : Act → World → Prop), w.heap.size ≤ l → l < W.heap.size → (∃ r, W.heap[l]? = some (.loop r)) → ¬ B l → I B (some pre) W → (∀ k, B k → k < W.heap.size) → (pre ++ [x]) <+: xs →
      (∀ a' W', Fp (fun _ => False) W W' → (∀ Wc, Fp (fun k => k = l) W' Wc → (∃ r, Wc.heap[l]? = some (.loop r)) → I B (some pre) Wc → body.wpIn (F.inRound l) (n - 1 - 1) P (fpPostS I B (pre ++ [x]) W.heap.size Wc) a' Wc) → K a' W') →
      assign.wpIn (F.inRound l) (n - 1 - 1) P (Exit.then K (fun _ _ _ => False)) { tmps := (ps.zip (encs x)).foldl (fun t (p, v) => t.setIfInBounds p v) a.tmps, defers := [] } W)
    (hdone : ∀ (D : Nat) (B : Nat → Prop) (W : World), w.heap.size ≤ D → I B (some xs) W → Fp (fun k => B0 k ∨ T k) w W → (∀ k, B k → (B0 k ∨ w.heap.size ≤ k) ∧ k < W.heap.size) → ¬ B D → W.heap[D]? = some (.deferred (some [])) →
      Q .normal { a with defers := { target := .collected D, args := #[] } :: a.defers } W)
    (hstop : ∀ (D : Nat) (B : Nat → Prop) (W : World), w.heap.size ≤ D → I B none W → Fp (fun k => B0 k ∨ T k) w W → (∀ k, B k → (B0 k ∨ w.heap.size ≤ k) ∧ k < W.heap.size) → ¬ B D → W.heap[D]? = some (.deferred (some [])) →
      Code.ret.wpIn F n P Q { a with defers := { target := .collected D, args := #[] } :: a.defers } W) :
    (Code.rangeFunc g ps assign body).wpIn F n P Q a w := by
  refine wpIn_rangeFunc ?_
  intro fn hfn
  rw [hro]
  obtain ⟨rec, hrec⟩ : ∃ rec : LoopState → Option Code → Loop, rec = fun st pe => { state := st, pending := pe, fn, tmps := a.tmps, params := ps, assign, body, defers := w.heap.size } := ⟨_, rfl⟩
  obtain ⟨W1, hW1⟩ : ∃ W1, (w.alloc (.deferred (some []))).alloc (.loop (rec .ready none)) = W1 := ⟨_, rfl⟩
  have hf1 : Fp (fun _ => False) w W1 := by rw [← hW1]; exact (Fp.alloc _ _ _).trans' (Fp.alloc _ _ _)
  have hL1 : W1.heap[w.heap.size + 1]? = some (.loop (rec .ready none)) := by
    rw [← hW1]; have := World.alloc_heap_new (w.alloc (.deferred (some []))) (.loop (rec .ready none)); rwa [World.size_alloc] at this
  have hK1 : W1.heap[w.heap.size]? = some (.deferred (some [])) := by
    rw [← hW1]; exact (Below.heap_alloc _ _ _ (by simp)).trans (World.alloc_heap_new w _)
  have hsz1 : W1.heap.size = w.heap.size + 2 := by rw [← hW1]; simp
  have hI1 : I B0 (some []) W1 := hI B0 (some []) w W1 h0 (fun k hk => (hB0 k hk).1) (hf1.mono (fun _ _ h => h.elim))
  refine ⟨w.heap.size + 1, [{ target := .collected w.heap.size, args := #[] }], W1, { target := .fn (.func gf) lb, args := #[.func (.yield (w.heap.size + 1)) #[] #[]] }, W1, gf,
    #[.func (.yield (w.heap.size + 1)) #[] #[]] ++ lb, W1, ?_, ?_, ?_, ?_, fun _ => h1, ?_⟩
  · rw [← hW1, hrec]; exact run_enterLoop_outer _ _ _ _ _
  · simp only [resolve, hg]
    simp [go_sem]
  · intro f' hf'; simp [Target.leads] at hf'; subst hf'; exact hFg
  · simp [invoke, go_sem, eg]
  · refine (hseq (w.heap.size + 1)
      (fun B pre W => ∃ Bi : Nat → Prop, I Bi pre W ∧ (∀ k, B k ↔ Bi k ∨ k = w.heap.size + 1 ∨ k = w.heap.size) ∧ ¬ Bi (w.heap.size + 1) ∧ ¬ Bi w.heap.size ∧
        W.heap[w.heap.size + 1]? = some (.loop (match pre with | some _ => rec .ready none | none => rec .done (some .ret))) ∧ W.heap[w.heap.size]? = some (.deferred (some [])) ∧ ∀ k, Bi k → B0 k ∨ w.heap.size ≤ k)
      (fun k => B0 k ∨ k = w.heap.size + 1 ∨ k = w.heap.size) W1 hf1 ?_ ?_ ?_ ?_).mono ?_
    · rintro k (hk | rfl | rfl)
      · have := hB0 k hk; exact ⟨by omega, this.2⟩
      · exact ⟨by omega, fun h => by have := hR _ h; omega⟩
      · exact ⟨by omega, fun h => by have := hR _ h; omega⟩
    · rintro B pre A A' ⟨Bi, hi, hB, hn1, hn2, hl, hd, hold⟩ hlt hf
      have e1 : A'.heap[w.heap.size + 1]? = A.heap[w.heap.size + 1]? := hf.block _ (Array.getElem?_eq_some_iff.1 hl).1 (fun h => h ((hB _).2 (.inr (.inl rfl))))
      have e2 : A'.heap[w.heap.size]? = A.heap[w.heap.size]? := hf.block _ (Array.getElem?_eq_some_iff.1 hd).1 (fun h => h ((hB _).2 (.inr (.inr rfl))))
      exact ⟨Bi, hI Bi pre A A' hi (fun k hk => hlt k ((hB k).2 (.inl hk))) (hf.mono (fun k _ h hk => h ((hB k).2 (.inl hk)))), hB, hn1, hn2, e1.trans hl, e2.trans hd, hold⟩
    · rintro B pre x W ⟨Bi, hi, hB, hn1, hn2, hl, hd, hold⟩ hlt hx
      refine (round_fpS (l := w.heap.size + 1) hfn hps I hI hround rec hrec (by omega) Bi pre x W hl hn1 hi (fun k hk => hlt k ((hB k).2 (.inl hk))) hx).mono ?_
      rintro e W' (⟨rfl, B', hi', hl', hn', hf', hB'⟩ | ⟨rfl, B', hi', hl', hn', hf', hB'⟩)
      · refine .inl ⟨rfl, fun k => B' k ∨ k = w.heap.size + 1 ∨ k = w.heap.size, ⟨B', hi', fun _ => Iff.rfl, hn', ?_, hl', ?_, ?_⟩, ?_, ?_⟩
        · intro h
          have := (Array.getElem?_eq_some_iff.1 hd).1
          exact (hB' _ h).1.elim hn2 (fun h => by omega)
        · exact (hf'.block _ (Array.getElem?_eq_some_iff.1 hd).1 (fun h => h.elim hn2 (fun h => by omega))).trans hd
        · intro k hk
          have := (Array.getElem?_eq_some_iff.1 hd).1
          exact (hB' k hk).1.elim (hold k) (fun h => .inr (by omega))
        · exact hf'.mono (fun k _ h => h.elim (fun h => (hB k).2 (.inl h)) (fun h => (hB k).2 (.inr (.inl h))))
        · have h1 := (Array.getElem?_eq_some_iff.1 hd).1
          have h2 := (Array.getElem?_eq_some_iff.1 hl).1
          have h3 := hf'.size
          rintro k (hk | rfl | rfl)
          · exact ⟨(hB' k hk).1.imp (fun h => (hB k).2 (.inl h)) id, (hB' k hk).2⟩
          · exact ⟨.inl ((hB _).2 (.inr (.inl rfl))), by omega⟩
          · exact ⟨.inl ((hB _).2 (.inr (.inr rfl))), by omega⟩
      · refine .inr ⟨rfl, fun k => B' k ∨ k = w.heap.size + 1 ∨ k = w.heap.size, ⟨B', hi', fun _ => Iff.rfl, hn', ?_, hl', ?_, ?_⟩, ?_, ?_⟩
        · intro h
          have := (Array.getElem?_eq_some_iff.1 hd).1
          exact (hB' _ h).1.elim hn2 (fun h => by omega)
        · exact (hf'.block _ (Array.getElem?_eq_some_iff.1 hd).1 (fun h => h.elim hn2 (fun h => by omega))).trans hd
        · intro k hk
          have := (Array.getElem?_eq_some_iff.1 hd).1
          exact (hB' k hk).1.elim (hold k) (fun h => .inr (by omega))
        · exact hf'.mono (fun k _ h => h.elim (fun h => (hB k).2 (.inl h)) (fun h => (hB k).2 (.inr (.inl h))))
        · have h1 := (Array.getElem?_eq_some_iff.1 hd).1
          have h2 := (Array.getElem?_eq_some_iff.1 hl).1
          have h3 := hf'.size
          rintro k (hk | rfl | rfl)
          · exact ⟨(hB' k hk).1.imp (fun h => (hB k).2 (.inl h)) id, (hB' k hk).2⟩
          · exact ⟨.inl ((hB _).2 (.inr (.inl rfl))), by omega⟩
          · exact ⟨.inl ((hB _).2 (.inr (.inr rfl))), by omega⟩
    · exact ⟨B0, hI1, fun _ => Iff.rfl, fun h => by have := (hB0 _ h).1; omega, fun h => by have := (hB0 _ h).1; omega, hL1, hK1, fun _ h => .inl h⟩
    · rintro e W2 ⟨⟨v, rfl⟩, B', (⟨Bi, hi, hB, hn1, hn2, hl, hd, hold⟩ | ⟨Bi, hi, hB, hn1, hn2, hl, hd, hold⟩), hf, hB'⟩
      · have hl2 := (Array.getElem?_eq_some_iff.1 hl).1
        have hf3 : Fp (fun k => k = w.heap.size + 1) W2 (W2.putObj (w.heap.size + 1) (.loop { rec .ready none with state := .exhausted })) := Fp.putObj _ _ _ rfl
        refine ⟨none, _, by have := run_endLoop (P := P) hl (by rw [hrec]; simp); rw [hrec] at this; exact this, ?_⟩
        have e9 : ({ state := .exhausted, pending := none, fn := fn, tmps := a.tmps, params := ps, assign := assign, body := body, defers := w.heap.size } : Loop) = { rec .ready none with state := .exhausted } := by rw [hrec]
        have hsz3 : (W2.putObj (w.heap.size + 1) (.loop { rec .ready none with state := .exhausted })).heap.size = W2.heap.size := by simp [World.putObj]
        show Q .normal _ (W2.putObj (w.heap.size + 1) (.loop _))
        rw [e9]
        refine hdone w.heap.size Bi _ (Nat.le_refl _) (hI Bi (some xs) W2 _ hi (fun k hk => (hB' k ((hB k).2 (.inl hk))).2) (hf3.mono (fun k _ e hk => hn1 (e ▸ hk)))) ?_ ?_ hn2 ?_
        · have t1 : Fp (fun k => B0 k ∨ T k) w W2 := hf1.trans hf (fun _ h => h.elim) (fun k hk h => by
            rcases h with (h | rfl | rfl) | h
            · exact .inl h
            · omega
            · omega
            · exact .inr h)
          exact t1.trans hf3 (fun _ h => h) (fun k hk e => by omega)
        · intro k hk
          rw [hsz3]
          exact ⟨hold k hk, (hB' k ((hB k).2 (.inl hk))).2⟩
        · exact (World.putObj_heap_other (by omega)).trans hd
      · have hl2 := (Array.getElem?_eq_some_iff.1 hl).1
        have hf3 : Fp (fun k => k = w.heap.size + 1) W2 (W2.putObj (w.heap.size + 1) (.loop { rec .done (some .ret) with state := .exhausted })) := Fp.putObj _ _ _ rfl
        refine ⟨some .ret, _, by have := run_endLoop (P := P) hl (by rw [hrec]; simp); rw [hrec] at this; exact this, ?_⟩
        have e9 : ({ state := .exhausted, pending := some .ret, fn := fn, tmps := a.tmps, params := ps, assign := assign, body := body, defers := w.heap.size } : Loop) = { rec .done (some .ret) with state := .exhausted } := by rw [hrec]
        have hsz3 : (W2.putObj (w.heap.size + 1) (.loop { rec .done (some .ret) with state := .exhausted })).heap.size = W2.heap.size := by simp [World.putObj]
        show Code.ret.wpIn F n P Q _ (W2.putObj (w.heap.size + 1) (.loop _))
        rw [e9]
        refine hstop w.heap.size Bi _ (Nat.le_refl _) (hI Bi none W2 _ hi (fun k hk => (hB' k ((hB k).2 (.inl hk))).2) (hf3.mono (fun k _ e hk => hn1 (e ▸ hk)))) ?_ ?_ hn2 ?_
        · have t1 : Fp (fun k => B0 k ∨ T k) w W2 := hf1.trans hf (fun _ h => h.elim) (fun k hk h => by
            rcases h with (h | rfl | rfl) | h
            · exact .inl h
            · omega
            · omega
            · exact .inr h)
          exact t1.trans hf3 (fun _ h => h) (fun k hk e => by omega)
        · intro k hk
          rw [hsz3]
          exact ⟨hold k hk, (hB' k ((hB k).2 (.inl hk))).2⟩
        · exact (World.putObj_heap_other (by omega)).trans hd

end

end Go.Proofs.YtbimkgmhfcgpmaaGreatDoor
