/- A step's footprint: which old blocks it may have turned. And small facts on bytes that the walks share. -/
import Derived.Test.YtojjkjfcbfoinaaRows
import Derived.WalkKit
import Derived.WalkSpells
import Derived.WalkLawsBesides
import Derived.Deep.AppendLies
import Derived.Deep.Light
import Derived.Laws.Bits64
import Derived.Laws.Bits64b
import Derived.ArgAppend
namespace Go.Proofs.Ytojjkjfcbfoinaa
open Go.RowKit

/-- Of the old blocks none but those in S has turned; streams and tape are as they were; no block has gone. -/
structure Fp (S : Nat → Prop) (w w' : World) : Prop where
  os : w'.os = w.os
  tape : w'.tape = w.tape
  output : w'.output = w.output
  size : w.heap.size ≤ w'.heap.size
  block : ∀ k, k < w.heap.size → ¬ S k → w'.heap[k]? = w.heap[k]?

theorem Fp.refl (S : Nat → Prop) (w : World) : Fp S w w := ⟨rfl, rfl, rfl, Nat.le_refl _, fun _ _ _ => rfl⟩

theorem Fp.trans {S T U : Nat → Prop} {a b c : World} (h : Fp S a b) (k : Fp T b c) (hS : ∀ i, S i → U i) (hT : ∀ i, i < a.heap.size → T i → U i) : Fp U a c :=
  ⟨k.os.trans h.os, k.tape.trans h.tape, k.output.trans h.output, Nat.le_trans h.size k.size,
   fun i hi hu => (k.block i (Nat.lt_of_lt_of_le hi h.size) (fun ht => hu (hT i hi ht))).trans (h.block i hi (fun hs => hu (hS i hs)))⟩

theorem Fp.trans' {S : Nat → Prop} {a b c : World} (h : Fp S a b) (k : Fp S b c) : Fp S a c := h.trans k (fun _ x => x) (fun _ _ x => x)

theorem Fp.mono {S T : Nat → Prop} {a b : World} (h : Fp S a b) (hS : ∀ i, i < a.heap.size → S i → T i) : Fp T a b :=
  ⟨h.os, h.tape, h.output, h.size, fun i hi ht => h.block i hi (fun hs => ht (hS i hi hs))⟩

theorem Fp.of_grownBy {w w' : World} {row : Option Nat} (h : w.grownBy w' row) : Fp (fun k => some k = row) w w' :=
  ⟨h.os, h.tape, h.output, h.size, fun k hk hs => h.block k hk hs⟩

theorem Fp.alloc (S : Nat → Prop) (w : World) (o : Obj) : Fp S w (w.alloc o) :=
  ⟨rfl, rfl, rfl, by simp, fun k hk _ => Below.heap_alloc _ _ _ hk⟩

theorem Fp.drew (S : Nat → Prop) (w : World) : Fp S w w.drew := ⟨rfl, rfl, rfl, Nat.le_refl _, fun _ _ _ => rfl⟩

theorem Fp.drewN (S : Nat → Prop) (w : World) (n : Nat) : Fp S w (w.drewN n) := ⟨rfl, rfl, rfl, Nat.le_refl _, fun _ _ _ => rfl⟩

theorem Fp.setCell {S : Nat → Prop} (w : World) (p : Addr) (u : Value) (hp : S p.block) : Fp S w (w.setCell p u) :=
  ⟨rfl, rfl, rfl, by simp [World.setCell], fun k _ hk => Below.heap_setCell _ _ _ _ (fun e => hk (e ▸ hp))⟩

theorem Fp.cell {S : Nat → Prop} {w w' : World} (h : Fp S w w') {p : Addr} (hp : p.block < w.heap.size) (hs : ¬ S p.block) : w'.cell? p = w.cell? p :=
  World.cell?_of_block (w := w) (h.block p.block hp hs)

theorem Fp.frozen {S : Nat → Prop} {w w' : World} (h : Fp S w w') {p : Addr} (hp : p.block < w.heap.size) (hs : ¬ S p.block) : w'.frozen? p = w.frozen? p :=
  World.frozen?_of_block (w := w) (h.block p.block hp hs)

theorem Fp.below {B : Nat} {w w' : World} {S : Nat → Prop} (h : Fp S w w') (hB : B ≤ w.heap.size) (hS : ∀ k, k < B → ¬ S k) : Below B w w' :=
  ⟨h.os, h.tape, h.output, h.size, fun k hk => h.block k (Nat.lt_of_lt_of_le hk hB) (hS k hk)⟩

theorem Fp.of_below {B : Nat} {w w' : World} (h : Below B w w') : Fp (fun k => B ≤ k) w w' :=
  ⟨h.os, h.tape, h.output, h.size, fun k _ hk => h.block k (by omega)⟩

theorem Fp.ownsRow {S : Nat → Prop} {w w' : World} (h : Fp S w w') {base : Nat} {e : TypeId} {size : Nat} {v : Value} {n : Nat} {xs : List Value}
    (hr : w.ownsRow base e size v n xs) (hv : ∀ k, v.ownBlock = some k → ¬ S k) : w'.ownsRow base e size v n xs := by
  obtain ⟨h1, h2⟩ := hr
  refine ⟨h1, ?_⟩
  rcases h2 with h2 | ⟨g, cap, cur, rfl, hg, hh, r⟩
  · exact Or.inl h2
  · refine Or.inr ⟨g, cap, cur, rfl, hg, ?_, r⟩
    have hlt : g < w.heap.size := by
      rcases Nat.lt_or_ge g w.heap.size with h | h
      · exact h
      · rw [Array.getElem?_eq_none h] at hh; cases hh
    rw [h.block g hlt (hv g rfl)]; exact hh

/-- A store into a block of cells. -/
theorem heap_set {w : World} {b off : Nat} {c : Array Value} {e : TypeId} {f : Nat × Nat} (h : w.heap[b]? = some (.cells c e f)) (v : Value) :
    (w.setCell ⟨b, off, none⟩ v).heap[b]? = some (.cells (c.setIfInBounds off v) e f) := by
  simp only [World.setCell, Array.getElem?_modify, h]
  simp

theorem heap_new (w : World) (o : Obj) : (w.alloc o).heap[w.heap.size]? = some o := by
  show (w.heap.push o)[w.heap.size]? = some o
  simp

theorem heap_old (w : World) (o : Obj) {k : Nat} {x : Obj} (h : w.heap[k]? = some x) : (w.alloc o).heap[k]? = some x := by
  rw [Below.heap_alloc _ _ _ (Array.getElem?_eq_some_iff.1 h).1]; exact h

theorem heap_lt {w : World} {k : Nat} {x : Obj} (h : w.heap[k]? = some x) : k < w.heap.size := (Array.getElem?_eq_some_iff.1 h).1

/-- A slice of bytes: its cells. -/
def Bs (l : List UInt8) : List Value := l.map fun b => .int .u8 (b.toNat : Nat)

theorem Bs_append (a b : List UInt8) : Bs (a ++ b) = Bs a ++ Bs b := by simp [Bs]
theorem Bs_length (a : List UInt8) : (Bs a).length = a.length := by simp [Bs]
theorem Bs_nil : Bs [] = [] := rfl

/-- 'v' is a row of bytes of the call's own, from 'base' on. -/
def World.bytesAt (w : World) (base : Nat) (v : Value) (l : List UInt8) : Prop := w.ownsRow base 5 1 v l.length (Bs l)

/-- A returned value, by an equation. -/
theorem ret_val {a b : Value} (h : a = b) : Ending.returned a = .returned b := by rw [h]

theorem ret_int {k : IntKind} {a b : Int} (h : a = b) : Ending.returned (.int k a) = .returned (.int k b) := by rw [h]

theorem take_snoc (s : ByteArray) (k : Nat) (h : k < s.size) : s.data.toList.take (k + 1) = s.data.toList.take k ++ [s[k]] := by
  rw [List.take_succ_eq_append_getElem (by simpa using h)]; rfl

theorem Try.infoU8 : (Try.prog.info? 5).map (fun i => (i.zero, i.size, i.bytes)) = some (some (.int .u8 0), 1, 1) := by kernel_rfl

/-- A row of bytes of the call's own, or a full slice of whatever bytes. -/
def World.bytesOr (w : World) (base : Nat) (v : Value) (l : List UInt8) : Prop :=
  World.bytesAt w base v l ∨ ∃ g, v = .slice (some ⟨g, 0, none⟩) l.length l.length ∧ g < w.heap.size ∧ ∀ j u, (Bs l)[j]? = some u → w.cell? ((⟨g, 0, none⟩ : Addr).add j) = some u

theorem bytesOr_fp {S : Nat → Prop} {w w' : World} (h : Fp S w w') {base : Nat} {v : Value} {l : List UInt8} (hr : World.bytesOr w base v l) (hv : ∀ k, v.ownBlock = some k → ¬ S k) : World.bytesOr w' base v l := by
  rcases hr with hr | ⟨g, rfl, hg, hc⟩
  · exact .inl (h.ownsRow hr hv)
  · refine .inr ⟨g, rfl, Nat.lt_of_lt_of_le hg h.size, fun j u hj => ?_⟩
    have hb : ((⟨g, 0, none⟩ : Addr).add j).block = g := by unfold Addr.add; split <;> rfl
    rw [h.cell (by rw [hb]; exact hg) (by rw [hb]; exact hv g rfl)]
    exact hc j u hj

theorem run_append_byte {W : World} (ty : TypeId) (base : Nat) (v : Value) (l : List UInt8) (b : UInt8) (hown : World.bytesOr W base v l) (ad : Addr)
    (hcell : W.cell? (ad.add 0) = some (.int .u8 (b.toNat : Nat))) (hl : l.length ≤ 2199023255552) (hbase : base ≤ W.heap.size) :
    ∃ g cap w', (Builtin.append_ #[84, 84] ty #[v, .slice (some ad) 1 1]).run Try.prog W = .ok (.slice (some ⟨g, 0, none⟩) (l.length + 1) cap) w' ∧
      World.bytesAt w' base (.slice (some ⟨g, 0, none⟩) (l.length + 1) cap) (l ++ [b]) ∧ Fp (fun k => v.ownBlock = some k) W w' ∧ (v.ownBlock = some g ∨ W.heap.size ≤ g) ∧ g < w'.heap.size := by
  obtain ⟨i0, hi, hz0, hz1, hz2⟩ := info_parts Try.infoU8
  have hnews : ∀ j u, ([Value.int .u8 (b.toNat : Nat)] : List Value)[j]? = some u → W.cell? (ad.add j) = some u := by
    intro j u hj
    match j, hj with
    | 0, hj => simp at hj; subst hj; exact hcell
  have h1 : ∀ u ∈ ([Value.int .u8 (b.toNat : Nat)] : List Value), u.oneCell' = true := by intro u hu; simp at hu; subst hu; rfl
  rcases hown with hown | ⟨g0, rfl, hg0, hc0⟩
  · obtain ⟨g, cap, w', hr, h2, h3, h4, h5⟩ := run_append_lies (P := Try.prog) W 84 ty base 5 i0 (.int .u8 0) 1 1 Try.underlying84 hi hz0 hz1 hz2 rfl (by decide) v l.length (Bs l) hown ad 1 1 [.int .u8 (b.toNat : Nat)] rfl hnews h1 (by decide) (by unfold maxLen; omega) (by omega) hbase _ rfl
    refine ⟨g, cap, w', hr, ?_, Fp.mono (Fp.of_grownBy h3) (fun _ _ e => e.symm), h4.imp id (fun e => Nat.le_of_eq e.symm), h5⟩
    unfold World.bytesAt
    rw [List.length_append, Bs_append]
    exact h2
  · obtain ⟨v', w', hr, h2, h3⟩ := run_append_arg_grows (P := Try.prog) W 84 ty 5 i0 (.int .u8 0) 1 1 Try.underlying84 hi hz0 hz1 hz2 rfl (by decide) ⟨g0, 0, none⟩ l.length l.length (Bs l) (by rw [Bs_length, Nat.mul_one]) hc0 ad 1 1 [.int .u8 (b.toNat : Nat)] rfl hnews (by omega) (by unfold maxLen; omega) (by omega)
    obtain ⟨g, cap, rfl, hbg, hlt⟩ := h2.form (by omega)
    refine ⟨g, cap, w', hr, ?_, Fp.mono (Fp.of_grownBy h3) (fun _ _ e => by cases e), .inr hbg, hlt⟩
    unfold World.bytesAt
    rw [List.length_append, Bs_append]
    obtain ⟨q1, q2⟩ := h2
    refine ⟨q1, q2.imp id ?_⟩
    rintro ⟨g', cap', cur, q3, q4, q5⟩
    exact ⟨g', cap', cur, q3, Nat.le_trans hbase q4, q5⟩

/-- One byte appended. -/
theorem wpList_append_byte {ops : Array Oper} {rest : List Oper} {o : Oper} {a : Act} {Q : Exit → Act → World → Prop} {W : World} (hgd : o.guard = none) (s x : Operand)
    (ho : o.op = .call { callee := .builtin .append, args := #[s, x], argTypes := #[84, 84] })
    (base : Nat) (v : Value) (l : List UInt8) (b : UInt8) (hs : a.eval s = v) (hown : World.bytesOr W base v l) (ad : Addr) (hx : a.eval x = .slice (some ad) 1 1)
    (hcell : W.cell? (ad.add 0) = some (.int .u8 (b.toNat : Nat))) (hl : l.length ≤ 2199023255552) (hbase : base ≤ W.heap.size)
    (h : ∀ g cap w', Hid (World.bytesAt w' base (.slice (some ⟨g, 0, none⟩) (l.length + 1) cap) (l ++ [b]) ∧ Fp (fun k => v.ownBlock = some k) W w' ∧ (v.ownBlock = some g ∨ W.heap.size ≤ g) ∧ g < w'.heap.size) →
      wpList Try.prog ops Q rest (a.put o.dst (.slice (some ⟨g, 0, none⟩) (l.length + 1) cap)) w') :
    wpList Try.prog ops Q (o :: rest) a W := by
  refine wpList_plain hgd fun K hK => ?_
  obtain ⟨g, cap, w', hr, h1⟩ := run_append_byte (W := W) o.type base v l b hown ad hcell hl hbase
  unfold Oper.wp execOp
  simp only [ho, resolve, invoke, builtin, Sem.run_bind, Sem.run_pure, Result.andThen_ok, List.map_toArray, List.map_cons, List.map_nil, hs, hx, hr]
  exact hK _ _ (h g cap w' h1)

end Go.Proofs.Ytojjkjfcbfoinaa
