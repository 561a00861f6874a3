/- PLines, PLines2, in one text. -/
import Derived.Test.YtbimkgmhfcgpmaaGreatDoorLinesSeq
import Derived.Test.YtbimkgmhfcgpmaaGreatDoorReadLine
import Derived.Test.YtbimkgmhfcgpmaaGreatDoorDecOne

/- snapshots.Lines. -/
namespace Silo

/-- The lines, one behind the other. -/
def goL : List (List UInt8) → Nat → Option (List Ln)
  | [], _ => some []
  | t :: ts, least => match rlP t with
    | some l => if l.lo < least then none else (goL ts (l.hi + 1)).map (l :: ·)
    | none => none

theorem rlP_row (a : List UInt8) : rlP (a ++ [10]) = lineOf a := by
  have h : Go.Lib.hasSuffix (a ++ [10]) [10] = true := by
    unfold Go.Lib.hasSuffix
    rw [List.isSuffixOf_iff_suffix]
    exact List.suffix_append _ _
  unfold rlP Go.Lib.trimSuffix
  rw [if_pos h, if_pos h]
  simp

theorem rlP_last {s : List UInt8} (h : (10 : UInt8) ∉ s) : rlP s = none := by
  unfold rlP
  rw [if_neg]
  unfold Go.Lib.hasSuffix
  rw [List.isSuffixOf_iff_suffix]
  rintro ⟨t, rfl⟩
  simp at h

theorem goL_lines : ∀ (n : Nat) (s : List UInt8) (least : Nat), s.length ≤ n → goL (linesOf s) least = manRest s least := by
  intro n
  induction n with
  | zero =>
    intro s least hs
    have : s = [] := List.length_eq_zero_iff.1 (by omega)
    subst this
    rw [linesOf_nil, manRest_nil]
    rfl
  | succ n ih =>
    intro s least hs
    by_cases hm : (10 : UInt8) ∈ s
    · obtain ⟨a, r, rfl, ha⟩ := cut_at 10 s hm
      rw [linesOf_row a r ha, manRest_row a r least ha, goL, rlP_row]
      cases lineOf a with
      | none => rfl
      | some l =>
        simp only
        rw [ih r (l.hi + 1) (by simp at hs; omega)]
    · by_cases h0 : s = []
      · subst h0
        rw [linesOf_nil, manRest_nil]
        rfl
      · rw [linesOf_last hm h0, manRest_last least hm h0, goL, rlP_last hm]

/-- What has come of the first lines. -/
def GoInv (pre : List (List UInt8)) (ls : List Ln) (least : Nat) : Prop := ∀ suf, goL (pre ++ suf) 0 = (goL suf least).map (ls ++ ·)

theorem GoInv.start : GoInv [] [] 0 := fun suf => by simp
theorem GoInv.done {pre : List (List UInt8)} {ls : List Ln} {least : Nat} (h : GoInv pre ls least) : goL pre 0 = some ls := by
  have := h []
  simpa [goL] using this
theorem GoInv.step {pre : List (List UInt8)} {ls : List Ln} {least : Nat} {x : List UInt8} {l : Ln} (h : GoInv pre ls least) (hx : rlP x = some l) (hlo : ¬ l.lo < least) : GoInv (pre ++ [x]) (ls ++ [l]) (l.hi + 1) := fun suf => by
  rw [List.append_assoc, h, List.singleton_append, goL, hx]
  simp only
  rw [if_neg hlo]
  cases goL suf (l.hi + 1) <;> simp
theorem GoInv.bad {pre xs : List (List UInt8)} {ls : List Ln} {least : Nat} {x : List UInt8} (h : GoInv pre ls least) (hp : (pre ++ [x]) <+: xs) (hx : rlP x = none ∨ ∃ l, rlP x = some l ∧ l.lo < least) : goL xs 0 = none := by
  obtain ⟨suf, rfl⟩ := hp
  rw [List.append_assoc, h, List.singleton_append, goL]
  rcases hx with hx | ⟨l, hx, hlo⟩
  · rw [hx]; rfl
  · rw [hx]
    simp only
    rw [if_pos hlo]
    rfl

theorem linesOf_len : ∀ (n : Nat) (s : List UInt8), s.length ≤ n → (linesOf s).length ≤ s.length := by
  intro n
  induction n with
  | zero =>
    intro s hs
    have : s = [] := List.length_eq_zero_iff.1 (by omega)
    subst this
    rw [linesOf_nil]
    simp
  | succ n ih =>
    intro s hs
    by_cases hm : (10 : UInt8) ∈ s
    · obtain ⟨a, r, rfl, ha⟩ := cut_at 10 s hm
      rw [linesOf_row a r ha]
      have := ih r (by simp at hs; omega)
      simp
      omega
    · by_cases h0 : s = []
      · subst h0
        rw [linesOf_nil]
        simp
      · rw [linesOf_last hm h0]
        exact List.length_pos_iff.2 h0

theorem linesOf_each : ∀ (n : Nat) (s : List UInt8), s.length ≤ n → ∀ x ∈ linesOf s, x.length ≤ s.length := by
  intro n
  induction n with
  | zero =>
    intro s hs
    have : s = [] := List.length_eq_zero_iff.1 (by omega)
    subst this
    rw [linesOf_nil]
    simp
  | succ n ih =>
    intro s hs x hx
    by_cases hm : (10 : UInt8) ∈ s
    · obtain ⟨a, r, rfl, ha⟩ := cut_at 10 s hm
      rw [linesOf_row a r ha] at hx
      rcases List.mem_cons.1 hx with rfl | hx
      · simp
      · have := ih r (by simp at hs; omega) x hx
        simp
        omega
    · by_cases h0 : s = []
      · subst h0
        rw [linesOf_nil] at hx
        cases hx
      · rw [linesOf_last hm h0] at hx
        simp at hx
        rw [hx]
        exact Nat.le_refl _

end Silo

namespace Go.Proofs.YtbimkgmhfcgpmaaGreatDoor
open Go.RowKit Go.Shelf

attribute [local go_sem] Oper.semAt_some

/-- The cells of a line as the program has it. -/
def plC (l : Silo.Ln) : List Value := [.int .i64 (l.lo : Nat), .int .i64 (l.hi : Nat), .int .i64 (l.size : Nat), .int .u64 (l.hash : Nat)]
def plCells (ls : List Silo.Ln) : List Value := ls.flatMap plC

theorem plCells_append (a b : List Silo.Ln) : plCells (a ++ b) = plCells a ++ plCells b := by simp [plCells]

theorem elemPl : ElemOk 63 86 4 32 := ElemOk.mk' (z := .agg #[.int .i64 0, .int .i64 0, .int .i64 0, .int .u64 0]) Tryz.underlying63 (by kernel_rfl) rfl (by decide) (by decide)

/-- A slice of lines of the call's own. -/
def World.plsAt (w : World) (base : Nat) (v : Value) (ls : List Silo.Ln) : Prop := w.ownsRow base 86 4 v ls.length (plCells ls)

/-- What Lines leaves. -/
def PLRes (m : List UInt8) (base : Nat) (e : Ending) (w' : World) : Prop := match Silo.manOf m with
  | some ls => ∃ v, e = .returned (.tuple #[v, .bool true]) ∧ World.plsAt w' base v ls
  | none => e = .returned (.tuple #[.slice none 0 0, .bool false])

theorem wpListIn_append_row {F : Fence} {nF : Nat} {sl el : TypeId} {size bytes : Nat} (hE : ElemOk sl el size bytes) {ops : Array Oper} {rest : List Oper} {o : Oper} {a : Act} {Q : Exit → Act → World → Prop} {W : World} (hgd : o.guard = none) (s x : Operand)
    (ho : o.op = .call { callee := .builtin .append, args := #[s, x], argTypes := #[sl, sl] })
    (base : Nat) (v : Value) (n : Nat) (xs cx : List Value) (hs : a.eval s = v) (hown : W.ownsRow base el size v n xs) (ad : Addr) (hx : a.eval x = .slice (some ad) 1 1) (hcx : cx.length = size)
    (hone : ∀ u ∈ cx, u.oneCell' = true) (hcell : ∀ j u, cx[j]? = some u → W.cell? (ad.add j) = some u) (hl : n ≤ 1099511627775) (hbase : base ≤ W.heap.size)
    (h : ∀ g cap w', Hid (RowAppended el size W w' base v n xs cx g cap) → wpListIn F nF Tryz.prog ops Q rest (a.put o.dst (.slice (some ⟨g, 0, none⟩) (n + 1) cap)) w') :
    wpListIn F nF Tryz.prog ops Q (o :: rest) a W := by
  refine wpListIn_plain hgd fun K hK => ?_
  obtain ⟨g, cap, w', hr, h1⟩ := run_append_row hE (W := W) o.type base v n xs cx hown ad hcx hone hcell hl hbase
  unfold Oper.wpIn
  refine ⟨by simp [Oper.about, ho, resolve, Target.leads, Sem.run_pure], ?_⟩
  rw [Oper.semAt_plain F _ _ (by rw [ho]; intro c hc'; cases hc')]
  simp [execOp, ho, resolve, invoke, builtin, hs, hx, hr, Result.andThen]
  exact hK _ _ (h g cap w' h1)

theorem Gl.old {w W : World} (h : Gl w) (ho : ∀ k, k < w.heap.size → W.heap[k]? = w.heap[k]?) (hs : w.heap.size ≤ W.heap.size) : Gl W := by
  have hc : ∀ (b o : Nat), b < 8 → W.cell? ⟨b, o, none⟩ = w.cell? ⟨b, o, none⟩ := fun b o hb => by
    unfold World.cell?
    rw [ho b (Nat.lt_of_lt_of_le hb h.size)]
  refine ⟨?_, ?_, ?_, ?_, ?_, Nat.le_trans h.size hs⟩
  · rw [hc _ _ (by decide)]; exact h.max
  · rw [ho _ (Nat.lt_of_lt_of_le (by decide) h.size)]; exact h.tab
  · rw [hc _ _ (by decide)]; exact h.syn
  · rw [hc _ _ (by decide)]; exact h.rng
  · rw [hc _ _ (by decide)]; exact h.deb

/-- What stands between two rounds. -/
structure LI (w : World) (body : List UInt8) (base : Nat) (B : Nat → Prop) (pre : List (List UInt8)) (W : World) (v : Value) (ls : List Silo.Ln) (least : Nat) : Prop where
  old : ∀ k, k < w.heap.size → W.heap[k]? = w.heap[k]?
  r2 : W.heap[w.heap.size]? = some (.cells #[.slice none 0 0] 63 (0, 0))
  r3 : W.heap[w.heap.size + 1]? = some (.cells #[.bool false] 4 (0, 0))
  l6 : W.heap[w.heap.size + 2]? = some (.cells #[v] 63 (0, 0))
  l7 : W.heap[w.heap.size + 3]? = some (.cells #[.int .i64 (least : Nat)] 3 (0, 0))
  row : W.ownsRow base 86 4 v ls.length (plCells ls)
  inv : Silo.GoInv pre ls least
  len : ls.length = pre.length
  lea : least ≤ 1000000
  own : ∀ k, B k ↔ k < w.heap.size + 4 ∨ v.ownBlock = some k
  oks : ∀ l ∈ ls, l.Ok

def PI (w : World) (body : List UInt8) (base : Nat) (B : Nat → Prop) (st : Option (List (List UInt8))) (W : World) : Prop := match st with
  | some pre => ∃ v ls least, LI w body base B pre W v ls least
  | none => (∀ k, k < w.heap.size → W.heap[k]? = w.heap[k]?) ∧ W.heap[w.heap.size]? = some (.cells #[.slice none 0 0] 63 (0, 0)) ∧ W.heap[w.heap.size + 1]? = some (.cells #[.bool false] 4 (0, 0)) ∧
      Silo.goL (Silo.linesOf body) 0 = none ∧ ∀ k, B k ↔ k < w.heap.size + 2

theorem PI_stable (w : World) (body : List UInt8) (base : Nat) : StableS (PI w body base) := by
  intro B st A A' h hlt hf
  cases st with
  | some pre =>
    obtain ⟨v, ls, least, h⟩ := h
    have hb : ∀ k, k < w.heap.size + 4 → A'.heap[k]? = A.heap[k]? := fun k hk => hf.block k (hlt k ((h.own k).2 (.inl hk))) (fun hn => hn ((h.own k).2 (.inl hk)))
    exact ⟨v, ls, least, fun k hk => (hb k (by omega)).trans (h.old k hk), (hb _ (by omega)).trans h.r2, (hb _ (by omega)).trans h.r3, (hb _ (by omega)).trans h.l6, (hb _ (by omega)).trans h.l7,
      Fp.ownsRow hf h.row (fun k hk hn => hn ((h.own k).2 (.inr hk))), h.inv, h.len, h.lea, h.own, h.oks⟩
  | none =>
    obtain ⟨h1, h2, h3, h4, h5⟩ := h
    have hb : ∀ k, k < w.heap.size + 2 → A'.heap[k]? = A.heap[k]? := fun k hk => hf.block k (hlt k ((h5 k).2 hk)) (fun hn => hn ((h5 k).2 hk))
    exact ⟨fun k hk => (hb k (by omega)).trans (h1 k hk), (hb _ (by omega)).trans h2, (hb _ (by omega)).trans h3, h4, h5⟩

end Go.Proofs.YtbimkgmhfcgpmaaGreatDoor

/- snapshots.Lines: the walk. -/
namespace Go.Proofs.YtbimkgmhfcgpmaaGreatDoor
open Go.RowKit Go.Shelf

attribute [local go_sem] Oper.semAt_some

def silo5 : List UInt8 := [115, 105, 108, 111, 10]

theorem man_head {m : List UInt8} (h : Lib.hasPrefix m silo5 = true) : Silo.manOf m = Silo.goL (Silo.linesOf (Lib.trimPrefix m silo5)) 0 := by
  unfold Lib.trimPrefix
  rw [if_pos h]
  unfold Lib.hasPrefix at h
  rw [List.isPrefixOf_iff_prefix] at h
  obtain ⟨b, rfl⟩ := h
  rw [List.drop_left, Silo.goL_lines b.length b 0 (Nat.le_refl _)]
  exact Silo.manOf_rest b

theorem man_nohead {m : List UInt8} (h : Lib.hasPrefix m silo5 = false) : Silo.manOf m = none := by
  refine Silo.manOf_noPrefix ?_
  rw [← List.isPrefixOf_iff_prefix]
  unfold Lib.hasPrefix at h
  unfold silo5 at h
  rw [h]
  decide

theorem LI.fp {w : World} {body : List UInt8} {base : Nat} {B : Nat → Prop} {pre : List (List UInt8)} {W W' : World} {v : Value} {ls : List Silo.Ln} {least : Nat} (h : LI w body base B pre W v ls least) (hf : Fp (fun _ => False) W W') : LI w body base B pre W' v ls least := by
  have hs : w.heap.size + 3 < W.heap.size := heap_lt h.l7
  have hb : ∀ k, k < w.heap.size + 4 → W'.heap[k]? = W.heap[k]? := fun k hk => hf.block k (by omega) (fun h => h)
  exact ⟨fun k hk => (hb k (by omega)).trans (h.old k hk), (hb _ (by omega)).trans h.r2, (hb _ (by omega)).trans h.r3, (hb _ (by omega)).trans h.l6, (hb _ (by omega)).trans h.l7,
      Fp.ownsRow hf h.row (fun _ _ h => h), h.inv, h.len, h.lea, h.own, h.oks⟩

theorem resEnd {W : World} {b c : Nat} {u v : Value} {t t' : TypeId} (x y : Value) (hne : b ≠ c) (h2 : W.heap[b]? = some (.cells #[u] t (0, 0))) (h3 : W.heap[c]? = some (.cells #[v] t' (0, 0))) :
    ∃ wz, (W.setCell ⟨b, 0, none⟩ x).setCell ⟨c, 0, none⟩ y = wz ∧ wz.heap[b]? = some (.cells #[x] t (0, 0)) ∧ wz.heap[c]? = some (.cells #[y] t' (0, 0)) ∧ Fp (fun k => k = b ∨ k = c) W wz := by
  have e1 : (W.setCell ⟨b, 0, none⟩ x).heap[b]? = some (.cells #[x] t (0, 0)) := heap_set h2 _
  have f1 : Fp (fun k => k = b) W (W.setCell ⟨b, 0, none⟩ x) := Fp.setCell _ _ _ rfl
  have e2 : (W.setCell ⟨b, 0, none⟩ x).heap[c]? = some (.cells #[v] t' (0, 0)) := by rw [f1.block c (heap_lt h3) (fun e => hne e.symm)]; exact h3
  have f2 : Fp (fun k => k = c) (W.setCell ⟨b, 0, none⟩ x) ((W.setCell ⟨b, 0, none⟩ x).setCell ⟨c, 0, none⟩ y) := Fp.setCell _ _ _ rfl
  refine ⟨_, rfl, ?_, heap_set e2 _, f1.trans f2 (fun _ h => .inl h) (fun _ _ h => .inr h)⟩
  rw [f2.block b (heap_lt e1) (fun e => hne e)]
  exact e1

theorem rl_ok {x : List UInt8} {l : Silo.Ln} (h : Silo.rlP x = some l) : l.Ok := by
  unfold Silo.rlP at h
  split at h
  · exact ((Silo.lineOf_iff _ _).1 h).2
  · cases h

theorem pl_stop {w Wc W1 : World} {sz : Nat} {body : List UInt8} {B : Nat → Prop} {pre : List (List UInt8)} {v : Value} {ls : List Silo.Ln} {least : Nat} (o : Obj) (hL : LI w body (w.heap.size + 5) B pre W1 v ls least) (hf : Fp (fun _ => False) Wc W1) (hN : Silo.goL (Silo.linesOf body) 0 = none) :
    ∃ B', PI w body (w.heap.size + 5) B' none (((W1.setCell ⟨w.heap.size, 0, none⟩ (.slice none 0 0)).setCell ⟨w.heap.size + 1, 0, none⟩ (.bool false)).alloc o) ∧ Fp (fun k => B k ∨ sz ≤ k) Wc (((W1.setCell ⟨w.heap.size, 0, none⟩ (.slice none 0 0)).setCell ⟨w.heap.size + 1, 0, none⟩ (.bool false)).alloc o) ∧
      ∀ k, B' k → (B k ∨ sz ≤ k) ∧ k < (((W1.setCell ⟨w.heap.size, 0, none⟩ (.slice none 0 0)).setCell ⟨w.heap.size + 1, 0, none⟩ (.bool false)).alloc o).heap.size := by
  obtain ⟨wz, hz, z2, z3, hfz⟩ := resEnd (.slice none 0 0) (.bool false) (by omega) hL.r2 hL.r3
  rw [hz]
  have h1 := heap_lt z3
  have hs := hfz.size
  refine ⟨fun k => k < w.heap.size + 2, ⟨fun k hk => ?_, heap_old _ _ z2, heap_old _ _ z3, hN, fun _ => Iff.rfl⟩, ?_, fun k hk => ⟨.inl ((hL.own k).2 (.inl (by omega))), by simp; omega⟩⟩
  · have hk1 : k < W1.heap.size := by have := heap_lt hL.r2; omega
    rw [(Fp.alloc (fun _ => False) wz o).block k (by omega) (fun h => h), hfz.block k hk1 (by omega)]
    exact hL.old k hk
  · exact (hf.trans hfz (fun _ h => h.elim) (fun k _ e => .inl ((hL.own k).2 (.inl (by omega))))).trans (Fp.alloc (fun _ => False) wz o) (fun _ h => h) (fun _ _ h => h.elim)

/-- The boxes behind what was appended. -/
theorem pl_kept {w W1 w' : World} {body : List UInt8} {B : Nat → Prop} {pre : List (List UInt8)} {v : Value} {ls : List Silo.Ln} {least g cap : Nat} {l : Silo.Ln} {o o' : Obj} {z : Value} (hL : LI w body (w.heap.size + 5) B pre W1 v ls least)
    (hA : RowAppended 86 4 (((W1.setCell ⟨w.heap.size + 3, 0, none⟩ z).alloc o).alloc o') w' (w.heap.size + 5) v ls.length (plCells ls) (plC l) g cap) :
    (∀ k, k < w.heap.size + 3 → w'.heap[k]? = W1.heap[k]?) ∧ w'.heap[w.heap.size + 3]? = some (.cells #[z] 3 (0, 0)) := by
  have hv : ∀ k, v.ownBlock = some k → w.heap.size + 5 ≤ k := fun k hk => (World.ownsRow.lt hL.row k hk).1
  have hlt : w.heap.size + 3 < W1.heap.size := heap_lt hL.l7
  have f1 : Fp (fun k => k = w.heap.size + 3) W1 (W1.setCell ⟨w.heap.size + 3, 0, none⟩ z) := Fp.setCell _ _ _ rfl
  have f2 : Fp (fun _ => False) (W1.setCell ⟨w.heap.size + 3, 0, none⟩ z) (((W1.setCell ⟨w.heap.size + 3, 0, none⟩ z).alloc o).alloc o') := (Fp.alloc _ _ _).trans' (Fp.alloc _ _ _)
  have s1 := f1.size
  have s2 := f2.size
  refine ⟨fun k hk => ?_, ?_⟩
  · rw [hA.foot.block k (by omega) (fun h => by have := hv k h; omega), f2.block k (by omega) (fun h => h), f1.block k (by omega) (by omega)]
  · rw [hA.foot.block _ (by omega) (fun h => by have := hv _ h; omega), f2.block _ (by omega) (fun h => h)]
    exact heap_set hL.l7 _

theorem pl_step {w Wc W1 w' : World} {sz : Nat} {body : List UInt8} {B : Nat → Prop} {pre : List (List UInt8)} {v : Value} {ls : List Silo.Ln} {least g cap : Nat} {x : List UInt8} {l : Silo.Ln} {o o' : Obj} (hL : LI w body (w.heap.size + 5) B pre W1 v ls least) (hf : Fp (fun _ => False) Wc W1) (hsz : sz ≤ Wc.heap.size)
    (hA : RowAppended 86 4 (((W1.setCell ⟨w.heap.size + 3, 0, none⟩ (.int .i64 ((l.hi + 1 : Nat) : Int))).alloc o).alloc o') w' (w.heap.size + 5) v ls.length (plCells ls) (plC l) g cap) (hx : Silo.rlP x = some l) (hok : l.Ok) (hlo : ¬ l.lo < least) :
    ∃ B', PI w body (w.heap.size + 5) B' (some (pre ++ [x])) (w'.setCell ⟨w.heap.size + 2, 0, none⟩ (.slice (some ⟨g, 0, none⟩) (ls.length + 1) cap)) ∧ Fp (fun k => B k ∨ sz ≤ k) Wc (w'.setCell ⟨w.heap.size + 2, 0, none⟩ (.slice (some ⟨g, 0, none⟩) (ls.length + 1) cap)) ∧
      ∀ k, B' k → (B k ∨ sz ≤ k) ∧ k < (w'.setCell ⟨w.heap.size + 2, 0, none⟩ (.slice (some ⟨g, 0, none⟩) (ls.length + 1) cap)).heap.size := by
  obtain ⟨hk, h3⟩ := pl_kept hL hA
  have hv : ∀ k, v.ownBlock = some k → w.heap.size + 5 ≤ k := fun k hk => (World.ownsRow.lt hL.row k hk).1
  have hg5 : w.heap.size + 5 ≤ g := (World.ownsRow.lt hA.row g rfl).1
  have hlt : w.heap.size + 3 < W1.heap.size := heap_lt hL.l7
  have f1 : Fp (fun k => k = w.heap.size + 3) W1 (W1.setCell ⟨w.heap.size + 3, 0, none⟩ (.int .i64 ((l.hi + 1 : Nat) : Int))) := Fp.setCell _ _ _ rfl
  have f2 : Fp (fun _ => False) (W1.setCell ⟨w.heap.size + 3, 0, none⟩ (.int .i64 ((l.hi + 1 : Nat) : Int))) (((W1.setCell ⟨w.heap.size + 3, 0, none⟩ (.int .i64 ((l.hi + 1 : Nat) : Int))).alloc o).alloc o') := (Fp.alloc _ _ _).trans' (Fp.alloc _ _ _)
  have f4 : Fp (fun k => k = w.heap.size + 2) w' (w'.setCell ⟨w.heap.size + 2, 0, none⟩ (.slice (some ⟨g, 0, none⟩) (ls.length + 1) cap)) := Fp.setCell _ _ _ rfl
  have s1 := f1.size
  have s2 := f2.size
  have s3 := hA.foot.size
  have s4 := f4.size
  have sf := hf.size
  have hb : ∀ k, k < w.heap.size + 2 → (w'.setCell ⟨w.heap.size + 2, 0, none⟩ (.slice (some ⟨g, 0, none⟩) (ls.length + 1) cap)).heap[k]? = W1.heap[k]? := fun k hk' => by
    rw [f4.block k (by omega) (by omega)]; exact hk k (by omega)
  have h6 : w'.heap[w.heap.size + 2]? = some (.cells #[v] 63 (0, 0)) := by rw [hk _ (by omega)]; exact hL.l6
  refine ⟨fun k => k < w.heap.size + 4 ∨ k = g, ⟨.slice (some ⟨g, 0, none⟩) (ls.length + 1) cap, ls ++ [l], l.hi + 1, fun k hk' => (hb k (by omega)).trans (hL.old k hk'), (hb _ (by omega)).trans hL.r2, (hb _ (by omega)).trans hL.r3, heap_set h6 _, ?_, ?_, hL.inv.step hx hlo, by simp [hL.len], by have := hok.hi; omega, fun k => by simp [Value.ownBlock, eq_comm], ?_⟩, ?_, ?_⟩
  · rw [f4.block _ (by omega) (by omega)]; exact h3
  · have := hA.row
    rw [List.length_append, plCells_append]
    exact Fp.ownsRow f4 (by simpa [plCells] using this) (fun k hk' e => by simp [Value.ownBlock] at hk'; omega)
  · intro y hy
    rcases List.mem_append.1 hy with h | h
    · exact hL.oks y h
    · simp at h; rw [h]; exact hok
  · have t1 : Fp (fun k => B k ∨ sz ≤ k) Wc (((W1.setCell ⟨w.heap.size + 3, 0, none⟩ (.int .i64 ((l.hi + 1 : Nat) : Int))).alloc o).alloc o') := (hf.trans f1 (fun _ h => h.elim) (fun k _ e => .inl ((hL.own k).2 (.inl (by omega))))).trans f2 (fun _ h => h) (fun _ _ h => h.elim)
    exact (t1.trans hA.foot (fun _ h => h) (fun k _ h => .inl ((hL.own k).2 (.inr h)))).trans f4 (fun _ h => h) (fun k _ e => .inl ((hL.own k).2 (.inl (by omega))))
  · rintro k (hk' | rfl)
    · exact ⟨.inl ((hL.own k).2 (.inl hk')), by omega⟩
    · refine ⟨?_, Nat.lt_of_lt_of_le hA.lt s4⟩
      rcases hA.lies with h | h
      · exact .inl ((hL.own _).2 (.inr h))
      · right; omega

set_option maxHeartbeats 4000000 in
set_option maxRecDepth 100000 in
theorem pLines_in (n : Nat) (hn : 20 ≤ n) (m : List UInt8) (w : World) (hl : m.length ≤ 16777216) (hg : Gl w) :
    CallsIn Fence.wide n Tryz.prog 30 #[.string (S m)] w fun e w' => PLRes m w.heap.size e w' ∧ Fp (fun _ => False) w w' := by
  have hbl : (Lib.trimPrefix m silo5).length ≤ 16777216 := by
    unfold Lib.trimPrefix
    split
    · simp; omega
    · exact hl
  obtain ⟨P, hP⟩ : ∃ P, Lib.hasPrefix m silo5 = P := ⟨_, rfl⟩
  obtain ⟨body, hbody⟩ : ∃ body, Lib.trimPrefix m silo5 = body := ⟨_, rfl⟩
  rw [hbody] at hbl
  have HB : Hid _ := And.intro hP hbody
  have HG : Hid _ := hg
  clear hg
  refine callsIn_of_wp_marks Tryz.func30 rfl trivial ?_ rfl
  simp only [Tryz.ntmps30, List.size_toArray, List.length_cons, List.length_nil, Nat.reduceAdd, Nat.reduceSub, Array.replicate_succ, Array.replicate_zero, List.push_toArray, List.append_toArray, List.nil_append, List.cons_append]
  gi_wp2_with fail
  refine ⟨trivial, fun _ => by omega, (callsIn_wide.2 (CutPre_any m silo5 _)).mono ?_⟩
  rintro e w2 ⟨rfl, hw2⟩
  rw [hP, hbody]
  have hr2 : w2.heap[w.heap.size]? = some (.cells #[.slice none 0 0] 63 (0, 0)) := by rw [hw2]; exact heap_old _ _ (heap_new _ _)
  have hr3 : w2.heap[w.heap.size + 1]? = some (.cells #[.bool false] 4 (0, 0)) := by
    rw [hw2]
    have := heap_new (w.alloc (.cells #[.slice none 0 0] 63)) (.cells #[.bool false] 4)
    simpa using this
  have hs2 : w2.heap.size = w.heap.size + 2 := by rw [hw2]; simp
  have hf2 : Fp (fun _ => False) w w2 := by rw [hw2]; exact (Fp.alloc _ _ _).trans' (Fp.alloc _ _ _)
  have H2 : Hid _ := And.intro hr2 (And.intro hr3 hf2)
  clear hw2
  cases P
  · have k0 : w2.cell? ⟨w.heap.size, 0, none⟩ = some (.slice none 0 0) := by simp [World.cell?, hr2]
    have k1 : w2.cell? ⟨w.heap.size + 1, 0, none⟩ = some (.bool false) := by simp [World.cell?, hr3]
    have f0 : w2.frozen? ⟨w.heap.size, 0, none⟩ = false := by simp [World.frozen?, hr2]
    have f1 : w2.frozen? ⟨w.heap.size + 1, 0, none⟩ = false := by simp [World.frozen?, hr3]
    clear hr2 hr3 hf2 hbody hP
    gi_wp2
    obtain ⟨wz, hz, z2, z3, hfz⟩ := resEnd (.slice none 0 0) (.bool false) (by omega) H2.out.1 H2.out.2.1
    rw [hz]
    have d0 : wz.cell? ⟨w.heap.size, 0, none⟩ = some (.slice none 0 0) := by simp [World.cell?, z2]
    have d1 : wz.cell? ⟨w.heap.size + 1, 0, none⟩ = some (.bool false) := by simp [World.cell?, z3]
    exact ⟨.tuple #[.slice none 0 0, .bool false], by simp [results, Tryz.results30, go_sem, d0, d1], by unfold PLRes; rw [man_nohead HB.out.1], H2.out.2.2.trans hfz (fun _ h => h) (fun k hk e => by omega)⟩
  · have HM : Hid (Silo.manOf m = Silo.goL (Silo.linesOf body) 0) := by show _ = _; rw [man_head hP, hbody]
    clear hr2 hr3 hf2 hbody hP HB
    gi_wp2_with fail
    refine ⟨trivial, fun _ => by omega, (callsIn_wide.2 (strLines_any body _)).mono ?_⟩
    rintro e w5 ⟨rfl, hw5⟩
    obtain ⟨w4, hw4⟩ : ∃ w4, (w2.alloc (.cells #[.slice none 0 0] 63)).alloc (.cells #[.int .i64 0] 3) = w4 := ⟨_, rfl⟩
    rw [hw4] at hw5
    have hs4 : w4.heap.size = w.heap.size + 4 := by rw [← hw4]; simp; omega
    rw [hw4]
    have hf4 : Fp (fun _ => False) w2 w4 := by rw [← hw4]; exact (Fp.alloc _ _ _).trans' (Fp.alloc _ _ _)
    have h6 : w4.heap[w.heap.size + 2]? = some (.cells #[.slice none 0 0] 63 (0, 0)) := by
      rw [← hw4, ← hs2]; exact heap_old _ _ (heap_new _ _)
    have h7 : w4.heap[w.heap.size + 3]? = some (.cells #[.int .i64 0] 3 (0, 0)) := by
      have := heap_new (w2.alloc (.cells #[.slice none 0 0] 63)) (.cells #[.int .i64 0] 3)
      rw [hw4] at this
      rw [show w.heap.size + 3 = (w2.alloc (.cells #[.slice none 0 0] 63)).heap.size by simp; omega]
      exact this
    have hbx : w5.heap[w.heap.size + 4]? = some (.cells #[.string (S body)] 9 (0, 0)) := by rw [hw5, ← hs4]; exact heap_new _ _
    have hf5 : Fp (fun _ => False) w4 w5 := by rw [hw5]; exact Fp.alloc _ _ _
    have hs5 : w5.heap.size = w.heap.size + 5 := by rw [hw5]; simp; omega
    have H5 : Hid (w5.heap[w.heap.size + 4]? = some (.cells #[.string (S body)] 9 (0, 0)) ∧ Fp (fun _ => False) w w5 ∧ LI w body (w.heap.size + 5) (fun k => k < w.heap.size + 4) [] w5 (.slice none 0 0) [] 0) := by
      have hf25 := hf4.trans' hf5
      refine ⟨hbx, H2.out.2.2.trans' hf25, ⟨fun k hk => (H2.out.2.2.trans' hf25).block k hk (fun h => h), ?_, ?_, ?_, ?_, ⟨rfl, .inl ⟨rfl, rfl⟩⟩, Silo.GoInv.start, rfl, by omega, fun k => by simp [Value.ownBlock], by simp⟩⟩
      · rw [hf25.block _ (heap_lt H2.out.1) (fun h => h)]; exact H2.out.1
      · rw [hf25.block _ (heap_lt H2.out.2.1) (fun h => h)]; exact H2.out.2.1
      · rw [hf5.block _ (heap_lt h6) (fun h => h)]; exact h6
      · rw [hf5.block _ (heap_lt h7) (fun h => h)]; exact h7
    clear hbx hf5 hf4 h6 h7 hw4 hw5
    rw [hs4]
    gi_wp2_with fail
    rw [show w.heap.size + 2 + 1 = w.heap.size + 3 from rfl]
    refine wpIn_rangeFpS rfl (by omega) (gf := 62) (lb := #[.pointer (some ⟨w.heap.size + 4, 0, none⟩)]) rfl trivial (enters_of Tryz.func62 (by kernel_rfl) rfl)
      (strLines_seq (n - 1) (by omega) (w.heap.size + 4) body w5 H5.out.1 hbl) (fun _ => rfl) ?hR (PI w body (w.heap.size + 5)) (PI_stable _ _ _) (fun k => k < w.heap.size + 4) ?hB0 ?h0 ?hround ?hdone ?hstop
    case hR => rintro k rfl; omega
    case hB0 => intro k hk; exact ⟨by omega, by omega⟩
    case h0 => exact ⟨_, _, _, H5.out.2.2⟩
    case hround =>
      rintro l' Bi pre x Wq K' hl' hlt' hrec hnl hIq hBq hpre hK'
      have HK' : Hid _ := hK'
      have HPre : Hid _ := hpre
      have hxl : x.length ≤ 16777216 := Nat.le_trans (Silo.linesOf_each body.length body (Nat.le_refl _) x (hpre.subset (by simp))) hbl
      have hplen : pre.length + 1 ≤ 16777216 := by
        have h1 := hpre.length_le
        have h2 := Silo.linesOf_len body.length body (Nat.le_refl _)
        simp at h1
        omega
      clear hK' hIq hBq hpre hnl hrec
      gi_wp2
      refine HK'.out _ _ (Fp.refl _ _) ?_
      rintro Wc hfc hrecc ⟨v, ls, least, hL⟩
      have hgl : Gl Wc := HG.out.old hL.old (by have := heap_lt hL.l7; omega)
      have hlsl : ls.length + 1 ≤ 16777216 := by have := hL.len; omega
      have hlea := hL.lea
      obtain ⟨av, cv, rfl⟩ := ownsRow_form hL.row
      have HLI : Hid _ := And.intro hL (And.intro hfc hgl)
      have hszc : w.heap.size + 3 < Wc.heap.size := heap_lt hL.l7
      have hszq : Wq.heap.size ≤ Wc.heap.size := hfc.size
      clear hL hfc hrecc hgl HK'
      gi_wp2_with fail
      refine ⟨trivial, fun _ => by omega, (CallsIn.inRound l' (callsIn_wide.2 (readLine_any x Wc hxl HLI.out.2.2))).mono ?_⟩
      rintro e W1 ⟨h1, h2⟩
      have hL1 := HLI.out.1.fp h2
      have k2 : W1.cell? ⟨w.heap.size, 0, none⟩ = some (.slice none 0 0) := by simp [World.cell?, hL1.r2]
      have k3 : W1.cell? ⟨w.heap.size + 1, 0, none⟩ = some (.bool false) := by simp [World.cell?, hL1.r3]
      have k6 : W1.cell? ⟨w.heap.size + 2, 0, none⟩ = some (.slice av ls.length cv) := by simp [World.cell?, hL1.l6]
      have k7 : W1.cell? ⟨w.heap.size + 3, 0, none⟩ = some (.int .i64 (least : Nat)) := by simp [World.cell?, hL1.l7]
      have f2 : W1.frozen? ⟨w.heap.size, 0, none⟩ = false := by simp [World.frozen?, hL1.r2]
      have f3 : W1.frozen? ⟨w.heap.size + 1, 0, none⟩ = false := by simp [World.frozen?, hL1.r3]
      have f6 : W1.frozen? ⟨w.heap.size + 2, 0, none⟩ = false := by simp [World.frozen?, hL1.l6]
      have f7 : W1.frozen? ⟨w.heap.size + 3, 0, none⟩ = false := by simp [World.frozen?, hL1.l7]
      have hlt1 : w.heap.size + 3 < W1.heap.size := heap_lt hL1.l7
      have hlt10 : w.heap.size < W1.heap.size := by omega
      have hlt11 : w.heap.size + 1 < W1.heap.size := by omega
      have hlt12 : w.heap.size + 2 < W1.heap.size := by omega
      have HL1 : Hid _ := And.intro hL1 h2
      clear hL1 h2
      unfold RL at h1
      cases hr : Silo.rlP x with
      | none =>
        rw [hr] at h1
        obtain ⟨a, b, c, d, rfl⟩ := h1
        have HN : Hid _ := HLI.out.1.inv.bad HPre.out (.inl hr)
        clear hr
        gi_wp2
        exact pl_stop _ HL1.out.1 HL1.out.2 HN.out
      | some l =>
        rw [hr] at h1
        subst h1
        unfold plV
        have hok := rl_ok hr
        have hhi := hok.hi
        by_cases hlo : l.lo < least
        · have ql : decide (((l.lo : Nat) : Int) < ((least : Nat) : Int)) = true := decide_eq_true (by omega)
          have HN : Hid _ := HLI.out.1.inv.bad HPre.out (.inr ⟨l, hr, hlo⟩)
          clear hr hok
          gi_wp2
          exact pl_stop _ HL1.out.1 HL1.out.2 HN.out
        · have ql : decide (((l.lo : Nat) : Int) < ((least : Nat) : Int)) = false := decide_eq_false (by omega)
          have HX : Hid _ := And.intro hr (And.intro hok hlo)
          clear hr hok
          gi_wp2_with (gi_at_builtin; refine wpListIn_append_row elemPl rfl _ _ rfl (w.heap.size + 5) (.slice av ls.length cv) ls.length (plCells ls) (plC l) rfl ?c1 ⟨W1.heap.size + 1, 0, none⟩ rfl rfl ?c5 ?c2 ?c3 ?c4 ?_; rotate_left 5; intro g cap w' HA; have kp6 : w'.cell? ⟨w.heap.size + 2, 0, none⟩ = some (.slice av ls.length cv) := (by have h9 := (pl_kept HL1.out.1 HA.out).1 (w.heap.size + 2) (by omega); simp [World.cell?, h9, HL1.out.1.l6]); have kf6 : w'.frozen? ⟨w.heap.size + 2, 0, none⟩ = false := (by have h9 := (pl_kept HL1.out.1 HA.out).1 (w.heap.size + 2) (by omega); simp [World.frozen?, h9, HL1.out.1.l6]))
          case c1 => exact World.ownsRow.alloc (World.ownsRow.alloc (Fp.ownsRow (Fp.setCell (S := fun k => k = w.heap.size + 3) _ _ _ rfl) HL1.out.1.row (fun k hk e => by have := (World.ownsRow.lt HL1.out.1.row k hk).1; omega)) _) _
          case c5 => intro u hu; simp [plC] at hu; rcases hu with rfl | rfl | rfl | rfl <;> rfl
          case c2 =>
            have h9 := row_new ((W1.setCell ⟨w.heap.size + 3, 0, none⟩ (.int .i64 ((l.hi : Int) + 1))).alloc (.cells #[.int .i64 (l.lo : Nat), .int .i64 (l.hi : Nat), .int .i64 (l.size : Nat), .int .u64 (l.hash : Nat)] 86)) (plC l) 86 (0, 0)
            simpa [plC] using h9
          case c3 => omega
          case c4 => simp; omega
          exact pl_step HL1.out.1 HL1.out.2 hszq (by simpa using HA.out) HX.out.1 HX.out.2.1 HX.out.2.2
    case hdone =>
      rintro D Bf Wf hD ⟨v, ls, least, hL⟩ hff hBf hnD hdef
      obtain ⟨av, cv, rfl⟩ := ownsRow_form hL.row
      have k2 : Wf.cell? ⟨w.heap.size, 0, none⟩ = some (.slice none 0 0) := by simp [World.cell?, hL.r2]
      have k3 : Wf.cell? ⟨w.heap.size + 1, 0, none⟩ = some (.bool false) := by simp [World.cell?, hL.r3]
      have k6 : Wf.cell? ⟨w.heap.size + 2, 0, none⟩ = some (.slice av ls.length cv) := by simp [World.cell?, hL.l6]
      have f2 : Wf.frozen? ⟨w.heap.size, 0, none⟩ = false := by simp [World.frozen?, hL.r2]
      have f3 : Wf.frozen? ⟨w.heap.size + 1, 0, none⟩ = false := by simp [World.frozen?, hL.r3]
      have HZ : Hid _ := And.intro hL (And.intro hff (And.intro hBf (And.intro hnD (And.intro hdef hD))))
      clear hL hff hBf hnD hdef hD
      gi_wp2
      obtain ⟨hL, hff, hBf, hnD, hdef, hD⟩ := HZ.out
      obtain ⟨wz, hz, z2, z3, hfz⟩ := resEnd (.slice av ls.length cv) (.bool true) (by omega) hL.r2 hL.r3
      rw [hz]
      have hDz : wz.heap[D]? = some (.deferred (some [])) := by rw [hfz.block D (heap_lt hdef) (by omega)]; exact hdef
      refine ⟨by simp, .inl ⟨D, _, rfl, run_takeDeferred hDz, ?_⟩⟩
      have hfD : Fp (fun k => k = D) wz (wz.putObj D (.deferred none)) := Fp.putObj _ _ _ rfl
      have d0 : (wz.putObj D (.deferred none)).cell? ⟨w.heap.size, 0, none⟩ = some (.slice av ls.length cv) := by rw [hfD.cell (heap_lt z2) (by simp; omega)]; simp [World.cell?, z2]
      have d1 : (wz.putObj D (.deferred none)).cell? ⟨w.heap.size + 1, 0, none⟩ = some (.bool true) := by rw [hfD.cell (heap_lt z3) (by simp; omega)]; simp [World.cell?, z3]
      refine ⟨.tuple #[.slice av ls.length cv, .bool true], by simp [results, Tryz.results30, go_sem, d0, d1], ?_, ?_⟩
      · unfold PLRes
        rw [HM.out, hL.inv.done]
        refine ⟨_, rfl, ownsRow_base (b := w.heap.size + 5) ?_ (by omega)⟩
        have hv : ∀ k, (Value.slice av ls.length cv).ownBlock = some k → w.heap.size + 5 ≤ k := fun k hk => (World.ownsRow.lt hL.row k hk).1
        exact Fp.ownsRow hfD (Fp.ownsRow hfz hL.row (fun k hk e => by have := hv k hk; omega)) (fun k hk e => hnD (e ▸ (hL.own k).2 (.inr hk)))
      · have hf5 := H5.out.2.1
        have hww : Fp (fun _ => False) w Wf := ⟨hff.os.trans hf5.os, hff.tape.trans hf5.tape, hff.output.trans hf5.output, Nat.le_trans hf5.size hff.size, fun k hk _ => hL.old k hk⟩
        exact (hww.trans hfz (fun _ h => h) (fun k hk e => by omega)).trans hfD (fun _ h => h) (fun k hk e => by omega)
    case hstop =>
      rintro D Bf Wf hD ⟨hold, hr2, hr3, hN, hown⟩ hff hBf hnD hdef
      have HZ : Hid _ := And.intro hold (And.intro hr2 (And.intro hr3 (And.intro hN (And.intro hff (And.intro hdef hD)))))
      clear hold hr2 hr3 hN hown hff hBf hnD hdef hD
      gi_wp2
      obtain ⟨hold, hr2, hr3, hN, hff, hdef, hD⟩ := HZ.out
      refine ⟨by simp, .inl ⟨D, _, rfl, run_takeDeferred hdef, ?_⟩⟩
      have hfD : Fp (fun k => k = D) Wf (Wf.putObj D (.deferred none)) := Fp.putObj _ _ _ rfl
      have d0 : (Wf.putObj D (.deferred none)).cell? ⟨w.heap.size, 0, none⟩ = some (.slice none 0 0) := by rw [hfD.cell (heap_lt hr2) (by simp; omega)]; simp [World.cell?, hr2]
      have d1 : (Wf.putObj D (.deferred none)).cell? ⟨w.heap.size + 1, 0, none⟩ = some (.bool false) := by rw [hfD.cell (heap_lt hr3) (by simp; omega)]; simp [World.cell?, hr3]
      refine ⟨.tuple #[.slice none 0 0, .bool false], by simp [results, Tryz.results30, go_sem, d0, d1], ?_, ?_⟩
      · unfold PLRes
        rw [HM.out, hN]
      · have hf5 := H5.out.2.1
        have hww : Fp (fun _ => False) w Wf := ⟨hff.os.trans hf5.os, hff.tape.trans hf5.tape, hff.output.trans hf5.output, Nat.le_trans hf5.size hff.size, fun k hk _ => hold k hk⟩
        exact hww.trans hfD (fun _ h => h) (fun k hk e => by omega)

theorem pLines_any (m : List UInt8) (w : World) (hl : m.length ≤ 16777216) (hg : Gl w) :
    Calls Tryz.prog 30 #[.string (S m)] w fun e w' => PLRes m w.heap.size e w' ∧ Fp (fun _ => False) w w' :=
  (callsIn_wide (n := 20)).1 (pLines_in 20 (Nat.le_refl _) m w hl hg)

end Go.Proofs.YtbimkgmhfcgpmaaGreatDoor
