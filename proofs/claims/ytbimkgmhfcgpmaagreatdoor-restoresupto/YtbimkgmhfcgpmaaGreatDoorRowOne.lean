/- RowK, StrRows, SmpRows, in one text. -/
import Derived.Test.YtbimkgmhfcgpmaaGreatDoorRdSamples
import Derived.Test.YtbimkgmhfcgpmaaGreatDoorSealed

/- Rows of the call's own, whatever their elements: one element appended. -/
namespace Go.Proofs.YtbimkgmhfcgpmaaGreatDoor
open Go.RowKit Go.Shelf

/-- What append asks of an element's type. -/
structure ElemOk (sl el : TypeId) (size bytes : Nat) : Prop where
  under : Tryz.prog.underlying sl = some (.slice el)
  info : ∃ i z, Tryz.prog.info? el = some i ∧ i.zero = some z ∧ i.size = size ∧ i.bytes = bytes ∧ z.cells.size = size
  pos : 0 < size
  small : bytes ≤ 128

theorem ElemOk.mk' {sl el : TypeId} {size bytes : Nat} {z : Value} (h1 : Tryz.prog.underlying sl = some (.slice el)) (h2 : (Tryz.prog.info? el).map (fun i => (i.zero, i.size, i.bytes)) = some (some z, size, bytes)) (h3 : z.cells.size = size) (h4 : 0 < size) (h5 : bytes ≤ 128) : ElemOk sl el size bytes := by
  obtain ⟨i, hi, a, b, c⟩ := info_parts h2
  exact ⟨h1, ⟨i, z, hi, a, b, c, h3⟩, h4, h5⟩

/-- What one element appended leaves. -/
structure RowAppended (el : TypeId) (size : Nat) (W w' : World) (base : Nat) (v : Value) (n : Nat) (xs cx : List Value) (g cap : Nat) : Prop where
  row : w'.ownsRow base el size (.slice (some ⟨g, 0, none⟩) (n + 1) cap) (n + 1) (xs ++ cx)
  foot : Fp (fun k => v.ownBlock = some k) W w'
  lies : v.ownBlock = some g ∨ W.heap.size ≤ g
  lt : g < w'.heap.size

theorem run_append_row {sl el : TypeId} {size bytes : Nat} (hE : ElemOk sl el size bytes) {W : World} (ty : TypeId) (base : Nat) (v : Value) (n : Nat) (xs cx : List Value) (hown : W.ownsRow base el size v n xs) (ad : Addr) (hcx : cx.length = size)
    (hone : ∀ u ∈ cx, u.oneCell' = true) (hcell : ∀ j u, cx[j]? = some u → W.cell? (ad.add j) = some u) (hl : n ≤ 1099511627775) (hbase : base ≤ W.heap.size) :
    ∃ g cap w', (Builtin.append_ #[sl, sl] ty #[v, .slice (some ad) 1 1]).run Tryz.prog W = .ok (.slice (some ⟨g, 0, none⟩) (n + 1) cap) w' ∧ RowAppended el size W w' base v n xs cx g cap := by
  obtain ⟨i0, z, hi, hz0, hz1, hz2, hz3⟩ := hE.info
  obtain ⟨g, cap, w', hr, h1, h2, h3, h4⟩ := run_append_lies (P := Tryz.prog) W sl ty base el i0 z size bytes hE.under hi hz0 hz1 hz2 hz3 hE.pos v n xs hown ad 1 1 cx (by rw [hcx]; omega) hcell hone (by decide) (by unfold maxLen; omega)
    (Nat.le_trans (Nat.mul_le_mul (show n + 1 ≤ 1099511627776 by omega) hE.small) (by decide)) hbase _ rfl
  exact ⟨g, cap, w', hr, h1, Fp.mono (Fp.of_grownBy h2) (fun _ _ e => e.symm), h3.imp id (fun e => Nat.le_of_eq e.symm), h4⟩

theorem wpList_append_row {sl el : TypeId} {size bytes : Nat} (hE : ElemOk sl el size bytes) {ops : Array Oper} {rest : List Oper} {o : Oper} {a : Act} {Q : Exit → Act → World → Prop} {W : World} (hgd : o.guard = none) (s x : Operand)
    (ho : o.op = .call { callee := .builtin .append, args := #[s, x], argTypes := #[sl, sl] })
    (base : Nat) (v : Value) (n : Nat) (xs cx : List Value) (hs : a.eval s = v) (hown : W.ownsRow base el size v n xs) (ad : Addr) (hx : a.eval x = .slice (some ad) 1 1) (hcx : cx.length = size)
    (hone : ∀ u ∈ cx, u.oneCell' = true) (hcell : ∀ j u, cx[j]? = some u → W.cell? (ad.add j) = some u) (hl : n ≤ 1099511627775) (hbase : base ≤ W.heap.size)
    (h : ∀ g cap w', Hid (RowAppended el size W w' base v n xs cx g cap) → wpList Tryz.prog ops Q rest (a.put o.dst (.slice (some ⟨g, 0, none⟩) (n + 1) cap)) w') :
    wpList Tryz.prog ops Q (o :: rest) a W := by
  refine wpList_plain hgd fun K hK => ?_
  obtain ⟨g, cap, w', hr, h1⟩ := run_append_row hE (W := W) o.type base v n xs cx hown ad hcx hone hcell hl hbase
  unfold Oper.wp execOp
  simp only [ho, resolve, invoke, builtin, Sem.run_bind, Sem.run_pure, Result.andThen_ok, List.map_toArray, List.map_cons, List.map_nil, hs, hx, hr]
  exact hK _ _ (h g cap w' h1)

/-- The cells of a new block that holds one element. -/
theorem row_new (w : World) (cx : List Value) (t : TypeId) (f : Nat × Nat) : ∀ j u, cx[j]? = some u → (w.alloc (.cells cx.toArray t f)).cell? ((⟨w.heap.size, 0, none⟩ : Addr).add j) = some u := by
  intro j u hj
  have e : (⟨w.heap.size, 0, none⟩ : Addr).add j = ⟨w.heap.size, j, none⟩ := by
    simp only [Addr.add]
    by_cases h0 : j = 0
    · rw [if_pos h0, h0]
    · rw [if_neg h0]; simp
  unfold World.cell?
  rw [e]
  simp only
  rw [heap_new]
  simp [hj]

/-- Rows of elements of two types lie apart. -/
theorem rows_apart {w : World} {B B' : Nat} {el el' : TypeId} {size size' n n' : Nat} {v v' : Value} {xs xs' : List Value} (h : w.ownsRow B el size v n xs) (h' : w.ownsRow B' el' size' v' n' xs') (hne : el ≠ el') : ∀ k, v.ownBlock = some k → v'.ownBlock = some k → False := by
  intro k hk hk'
  rcases h.2 with ⟨h1, _⟩ | ⟨g, cap, cur, h3, _, h5, _⟩
  · rw [h1] at hk; cases hk
  · rcases h'.2 with ⟨h1', _⟩ | ⟨g', cap', cur', h3', _, h5', _⟩
    · rw [h1'] at hk'; cases hk'
    · rw [h3] at hk
      rw [h3'] at hk'
      simp only [Value.ownBlock, Option.some.injEq] at hk hk'
      subst hk
      subst hk'
      rw [h5] at h5'
      simp only [Option.some.injEq, Obj.cells.injEq] at h5'
      exact hne h5'.2.1

end Go.Proofs.YtbimkgmhfcgpmaaGreatDoor

/- Slices of texts of the call's own; one appended. -/
namespace Go.Proofs.YtbimkgmhfcgpmaaGreatDoor
open Go.RowKit Go.Shelf

def strCells (xs : List (List UInt8)) : List Value := xs.map fun x => .string (S x)

theorem strCells_append (a b : List (List UInt8)) : strCells (a ++ b) = strCells a ++ strCells b := by simp [strCells]

/-- A slice of texts of the call's own. -/
def World.strsAt (w : World) (base : Nat) (v : Value) (xs : List (List UInt8)) : Prop := w.ownsRow base 9 1 v xs.length (strCells xs)

theorem strsAt_form {w : World} {base : Nat} {v : Value} {xs : List (List UInt8)} (h : World.strsAt w base v xs) : ∃ a c, v = .slice a xs.length c := by
  rcases h.2 with ⟨h1, h2⟩ | ⟨g, cap, cur, h3, _⟩
  · exact ⟨none, 0, by rw [h1, h2]⟩
  · exact ⟨_, _, h3⟩

theorem Tryz.infoStr : (Tryz.prog.info? 9).map (fun i => (i.zero, i.size, i.bytes)) = some (some (.string ByteArray.empty), 1, 16) := by kernel_rfl

/-- What one text appended leaves. -/
structure StrAppended (W w' : World) (base : Nat) (v : Value) (xs : List (List UInt8)) (x : List UInt8) (g cap : Nat) : Prop where
  row : World.strsAt w' base (.slice (some ⟨g, 0, none⟩) (xs.length + 1) cap) (xs ++ [x])
  foot : Fp (fun k => v.ownBlock = some k) W w'
  lies : v.ownBlock = some g ∨ W.heap.size ≤ g
  lt : g < w'.heap.size

theorem run_append_str {W : World} (ty : TypeId) (base : Nat) (v : Value) (xs : List (List UInt8)) (x : List UInt8) (hown : World.strsAt W base v xs) (ad : Addr)
    (hcell : W.cell? (ad.add 0) = some (.string (S x))) (hl : xs.length ≤ 1099511627776) (hbase : base ≤ W.heap.size) :
    ∃ g cap w', (Builtin.append_ #[22, 22] ty #[v, .slice (some ad) 1 1]).run Tryz.prog W = .ok (.slice (some ⟨g, 0, none⟩) (xs.length + 1) cap) w' ∧ StrAppended W w' base v xs x g cap := by
  obtain ⟨i0, hi, hz0, hz1, hz2⟩ := info_parts Tryz.infoStr
  obtain ⟨g, cap, w', hr, h1, h2, h3, h4⟩ := run_append_lies (P := Tryz.prog) W 22 ty base 9 i0 _ 1 16 Tryz.underlying22 hi hz0 hz1 hz2 rfl (by decide) v xs.length (strCells xs) hown ad 1 1 (strCells [x]) (by rfl)
    (by
      intro j u hj
      match j, hj with
      | 0, hj =>
        simp [strCells] at hj
        subst hj
        exact hcell)
    (by intro u hu; simp [strCells] at hu; rcases hu with rfl; rfl) (by decide) (by unfold maxLen; omega) (by omega) hbase _ rfl
  refine ⟨g, cap, w', hr, ?_, Fp.mono (Fp.of_grownBy h2) (fun _ _ e => e.symm), h3.imp id (fun e => Nat.le_of_eq e.symm), h4⟩
  unfold World.strsAt
  rw [List.length_append, strCells_append]
  exact h1

theorem wpList_append_str {ops : Array Oper} {rest : List Oper} {o : Oper} {a : Act} {Q : Exit → Act → World → Prop} {W : World} (hgd : o.guard = none) (s x : Operand)
    (ho : o.op = .call { callee := .builtin .append, args := #[s, x], argTypes := #[22, 22] })
    (base : Nat) (v : Value) (xs : List (List UInt8)) (y : List UInt8) (hs : a.eval s = v) (hown : World.strsAt W base v xs) (ad : Addr) (hx : a.eval x = .slice (some ad) 1 1)
    (hcell : W.cell? (ad.add 0) = some (.string (S y))) (hl : xs.length ≤ 1099511627776) (hbase : base ≤ W.heap.size)
    (h : ∀ g cap w', Hid (StrAppended W w' base v xs y g cap) → wpList Tryz.prog ops Q rest (a.put o.dst (.slice (some ⟨g, 0, none⟩) (xs.length + 1) cap)) w') :
    wpList Tryz.prog ops Q (o :: rest) a W := by
  refine wpList_plain hgd fun K hK => ?_
  obtain ⟨g, cap, w', hr, h1⟩ := run_append_str (W := W) o.type base v xs y hown ad hcell hl hbase
  unfold Oper.wp execOp
  simp only [ho, resolve, invoke, builtin, Sem.run_bind, Sem.run_pure, Result.andThen_ok, List.map_toArray, List.map_cons, List.map_nil, hs, hx, hr]
  exact hK _ _ (h g cap w' h1)

/-- The cell of a row of texts. -/
theorem strsAt_cell {w : World} {base g cap : Nat} {xs : List (List UInt8)} (h : World.strsAt w base (.slice (some ⟨g, 0, none⟩) xs.length cap) xs) (k : Nat) (hk : k < xs.length) : w.cell? ⟨g, k, none⟩ = some (.string (S xs[k])) := by
  have h1 := World.ownsRow.cells h (g := g) rfl k (.string (S xs[k])) (by simp [strCells, hk])
  simp only [Addr.add] at h1
  by_cases hz : k = 0
  · subst hz; exact h1
  · rw [if_neg hz] at h1; simpa using h1

end Go.Proofs.YtbimkgmhfcgpmaaGreatDoor

/- Slices of samples: rows of three cells; one appended. -/
namespace Go.Proofs.YtbimkgmhfcgpmaaGreatDoor
open Go.RowKit Go.Shelf

def smpCells (xs : List Silo.Smp) : List Value := xs.flatMap fun x => [.int .i64 x.s, .int .i64 x.t, .int .u64 (x.v : Nat)]

theorem smpCells_append (a b : List Silo.Smp) : smpCells (a ++ b) = smpCells a ++ smpCells b := by simp [smpCells]

theorem smpCells_at : ∀ (xs : List Silo.Smp) (k : Nat) (h : k < xs.length), (smpCells xs)[k * 3]? = some (.int .i64 xs[k].s) ∧ (smpCells xs)[k * 3 + 1]? = some (.int .i64 xs[k].t) ∧ (smpCells xs)[k * 3 + 2]? = some (.int .u64 (xs[k].v : Nat)) := by
  intro xs
  induction xs with
  | nil => intro k h; simp at h
  | cons x xs ih =>
    intro k h
    have e : smpCells (x :: xs) = Value.int .i64 x.s :: Value.int .i64 x.t :: Value.int .u64 (x.v : Nat) :: smpCells xs := rfl
    cases k with
    | zero => simp [e]
    | succ k =>
      have := ih k (by simpa using h)
      rw [e]
      have e1 : (k + 1) * 3 = k * 3 + 1 + 1 + 1 := by omega
      have e2 : k * 3 + 1 + 1 + 1 + 1 = (k * 3 + 1) + 1 + 1 + 1 := by omega
      have e3 : k * 3 + 1 + 1 + 1 + 2 = (k * 3 + 2) + 1 + 1 + 1 := by omega
      rw [e1, e3]
      simpa using this

/-- A slice of samples of the call's own. -/
def World.smpsAt (w : World) (base : Nat) (v : Value) (xs : List Silo.Smp) : Prop := w.ownsRow base 118 3 v xs.length (smpCells xs)

theorem smpsAt_cell {w : World} {base g cap : Nat} {xs : List Silo.Smp} (h : World.smpsAt w base (.slice (some ⟨g, 0, none⟩) xs.length cap) xs) (k : Nat) (hk : k < xs.length) :
    w.cell? ⟨g, k * 3, none⟩ = some (.int .i64 xs[k].s) ∧ w.cell? ⟨g, k * 3 + 1, none⟩ = some (.int .i64 xs[k].t) ∧ w.cell? ⟨g, k * 3 + 2, none⟩ = some (.int .u64 (xs[k].v : Nat)) := by
  have h1 := World.ownsRow.cells h (g := g) rfl (k * 3) _ (smpCells_at xs k hk).1
  have h2 := World.ownsRow.cells h (g := g) rfl (k * 3 + 1) _ (smpCells_at xs k hk).2.1
  have h3 := World.ownsRow.cells h (g := g) rfl (k * 3 + 2) _ (smpCells_at xs k hk).2.2
  simp only [Addr.add] at h1 h2 h3
  refine ⟨?_, ?_, ?_⟩
  · by_cases hz : k * 3 = 0
    · rw [if_pos hz] at h1; rw [hz]; exact h1
    · rw [if_neg hz] at h1; simpa using h1
  · rw [if_neg (by omega)] at h2; simpa using h2
  · rw [if_neg (by omega)] at h3; simpa using h3

theorem Tryz.infoSample : (Tryz.prog.info? 118).map (fun i => (i.zero, i.size, i.bytes)) = some (some (.agg #[.int .i64 0, .int .i64 0, .int .u64 0]), 3, 24) := by kernel_rfl

/-- What one sample appended leaves. -/
structure Appended (W w' : World) (base : Nat) (v : Value) (xs : List Silo.Smp) (x : Silo.Smp) (g cap : Nat) : Prop where
  row : World.smpsAt w' base (.slice (some ⟨g, 0, none⟩) (xs.length + 1) cap) (xs ++ [x])
  foot : Fp (fun k => v.ownBlock = some k) W w'
  lies : v.ownBlock = some g ∨ W.heap.size ≤ g
  lt : g < w'.heap.size

theorem run_append_smp {W : World} (ty : TypeId) (base : Nat) (v : Value) (xs : List Silo.Smp) (x : Silo.Smp) (hown : World.smpsAt W base v xs) (ad : Addr)
    (hcell : ∀ j u, (smpCells [x])[j]? = some u → W.cell? (ad.add j) = some u) (hl : xs.length ≤ 1099511627776) (hbase : base ≤ W.heap.size) :
    ∃ g cap w', (Builtin.append_ #[92, 92] ty #[v, .slice (some ad) 1 1]).run Tryz.prog W = .ok (.slice (some ⟨g, 0, none⟩) (xs.length + 1) cap) w' ∧ Appended W w' base v xs x g cap := by
  obtain ⟨i0, hi, hz0, hz1, hz2⟩ := info_parts Tryz.infoSample
  obtain ⟨g, cap, w', hr, h1, h2, h3, h4⟩ := run_append_lies (P := Tryz.prog) W 92 ty base 118 i0 _ 3 24 Tryz.underlying92 hi hz0 hz1 hz2 rfl (by decide) v xs.length (smpCells xs) hown ad 1 1 (smpCells [x]) (by rfl) hcell
    (by intro u hu; simp [smpCells] at hu; rcases hu with rfl | rfl | rfl <;> rfl) (by decide) (by unfold maxLen; omega) (by omega) hbase _ rfl
  refine ⟨g, cap, w', hr, ?_, Fp.mono (Fp.of_grownBy h2) (fun _ _ e => e.symm), h3.imp id (fun e => Nat.le_of_eq e.symm), h4⟩
  unfold World.smpsAt
  rw [List.length_append, smpCells_append]
  exact h1

theorem wpListIn_append_smp {F : Fence} {nF : Nat} {ops : Array Oper} {rest : List Oper} {o : Oper} {a : Act} {Q : Exit → Act → World → Prop} {W : World} (hgd : o.guard = none) (s x : Operand)
    (ho : o.op = .call { callee := .builtin .append, args := #[s, x], argTypes := #[92, 92] })
    (base : Nat) (v : Value) (xs : List Silo.Smp) (y : Silo.Smp) (hs : a.eval s = v) (hown : World.smpsAt W base v xs) (ad : Addr) (hx : a.eval x = .slice (some ad) 1 1)
    (hcell : ∀ j u, (smpCells [y])[j]? = some u → W.cell? (ad.add j) = some u) (hl : xs.length ≤ 1099511627776) (hbase : base ≤ W.heap.size)
    (h : ∀ g cap w', Hid (Appended W w' base v xs y g cap) → wpListIn F nF Tryz.prog ops Q rest (a.put o.dst (.slice (some ⟨g, 0, none⟩) (xs.length + 1) cap)) w') :
    wpListIn F nF Tryz.prog ops Q (o :: rest) a W := by
  refine wpListIn_plain hgd fun K hK => ?_
  obtain ⟨g, cap, w', hr, h1⟩ := run_append_smp (W := W) o.type base v xs y hown ad hcell hl hbase
  unfold Oper.wpIn
  refine ⟨by simp [Oper.about, ho, resolve, Target.leads, Sem.run_pure], ?_⟩
  rw [Oper.semAt_plain F _ _ (by rw [ho]; intro c hc'; cases hc')]
  simp [execOp, ho, resolve, invoke, builtin, hs, hx, hr, Result.andThen]
  exact hK _ _ (h g cap w' h1)

theorem wpList_append_smp {ops : Array Oper} {rest : List Oper} {o : Oper} {a : Act} {Q : Exit → Act → World → Prop} {W : World} (hgd : o.guard = none) (s x : Operand)
    (ho : o.op = .call { callee := .builtin .append, args := #[s, x], argTypes := #[92, 92] })
    (base : Nat) (v : Value) (xs : List Silo.Smp) (y : Silo.Smp) (hs : a.eval s = v) (hown : World.smpsAt W base v xs) (ad : Addr) (hx : a.eval x = .slice (some ad) 1 1)
    (hcell : ∀ j u, (smpCells [y])[j]? = some u → W.cell? (ad.add j) = some u) (hl : xs.length ≤ 1099511627776) (hbase : base ≤ W.heap.size)
    (h : ∀ g cap w', Hid (Appended W w' base v xs y g cap) → wpList Tryz.prog ops Q rest (a.put o.dst (.slice (some ⟨g, 0, none⟩) (xs.length + 1) cap)) w') :
    wpList Tryz.prog ops Q (o :: rest) a W := by
  refine wpList_plain hgd fun K hK => ?_
  obtain ⟨g, cap, w', hr, h1⟩ := run_append_smp (W := W) o.type base v xs y hown ad hcell hl hbase
  unfold Oper.wp execOp
  simp only [ho, resolve, invoke, builtin, Sem.run_bind, Sem.run_pure, Result.andThen_ok, List.map_toArray, List.map_cons, List.map_nil, hs, hx, hr]
  exact hK _ _ (h g cap w' h1)

/-- The cells of a new block that holds one sample. -/
theorem smp_new (w : World) (x : Silo.Smp) (t : TypeId) : ∀ j u, (smpCells [x])[j]? = some u → (w.alloc (.cells #[.int .i64 x.s, .int .i64 x.t, .int .u64 (x.v : Nat)] t)).cell? ((⟨w.heap.size, 0, none⟩ : Addr).add j) = some u := by
  intro j u hj
  have e : smpCells [x] = [Value.int .i64 x.s, Value.int .i64 x.t, Value.int .u64 (x.v : Nat)] := rfl
  rw [e] at hj
  match j, hj with
  | 0, hj => simp at hj; subst hj; simp [Addr.add]
  | 1, hj => simp at hj; subst hj; simp [Addr.add]
  | 2, hj => simp at hj; subst hj; simp [Addr.add]

/-! ### How many samples a text holds -/
theorem rdR_len {st : Silo.St} {l : List UInt8} (h : Silo.rdR st = some l) : l.length + 1 ≤ Silo.left st := by
  obtain ⟨e, _⟩ := Silo.rdR_some h
  rw [e]
  have := Silo.leb_pos (Silo.rdN st)
  simp [Silo.left]
  omega

theorem rdPts_count : ∀ (n : Nat) (st : Silo.St) (t : Int) (v : Nat) (f : Bool), (Silo.rdPts n st t v f).1.length + Silo.left (Silo.rdPts n st t v f).2 ≤ Silo.left st := by
  intro n
  induction n with
  | zero => intros; simp [Silo.rdPts]
  | succ n ih =>
    intro st t v f
    rw [Silo.rdPts]
    simp only
    have h1 := left_rdTime st t f
    cases hr : Silo.rdR (Silo.rdTime st t f).2 with
    | none => simp [Silo.left]
    | some l =>
      have h2 := rdR_len hr
      have h3 := ih (some l) (Silo.rdTime st t f).1 (v ^^^ Silo.rdN (Silo.rdTime st t f).2) false
      have h4 : Silo.left (some l) = l.length := rfl
      simp only [List.length_cons]
      omega

theorem rdPoints_count (st : Silo.St) : (Silo.rdPoints st).1.length + Silo.left (Silo.rdPoints st).2 ≤ Silo.left st := by
  unfold Silo.rdPoints
  split
  · simp [Silo.left]
  · exact Nat.le_trans (rdPts_count _ _ _ _ _) (left_rdR st)

theorem rdSmp_count : ∀ (m : Nat) (st : Silo.St) (a : Nat), (Silo.rdSmp m st a).1.length ≤ Silo.left st := by
  intro m
  induction m with
  | zero => intros; simp [Silo.rdSmp]
  | succ m ih =>
    intro st a
    rw [Silo.rdSmp]
    split
    · simp
    · split
      · simp
      · have h1 := rdPoints_count (Silo.rdR st)
        have h2 := ih (Silo.rdPoints (Silo.rdR st)).2 (Silo.rdN st)
        have h3 := left_rdR st
        simp only [List.length_append, List.length_map]
        omega

end Go.Proofs.YtbimkgmhfcgpmaaGreatDoor
