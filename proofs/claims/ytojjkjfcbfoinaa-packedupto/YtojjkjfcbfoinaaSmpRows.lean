/- Slices of samples: rows of three cells; one appended. -/
import Derived.Test.YtojjkjfcbfoinaaRdSamples
namespace Go.Proofs.Ytojjkjfcbfoinaa
open Go.RowKit Go.Shelf

def smpCells (xs : List Silo.Smp) : List Value := xs.flatMap fun x => [.int .i64 x.s, .int .i64 x.t, .int .u64 (x.v : Nat)]

theorem smpCells_length (xs : List Silo.Smp) : (smpCells xs).length = xs.length * 3 := by
  induction xs with
  | nil => rfl
  | cons x xs ih => simp [smpCells] at ih ⊢; omega

theorem smpCells_append (a b : List Silo.Smp) : smpCells (a ++ b) = smpCells a ++ smpCells b := by simp [smpCells]

theorem smpCells_at : ∀ (xs : List Silo.Smp) (k : Nat) (h : k < xs.length), (smpCells xs)[k * 3]? = some (.int .i64 xs[k].s) ∧ (smpCells xs)[k * 3 + 1]? = some (.int .i64 xs[k].t) ∧ (smpCells xs)[k * 3 + 2]? = some (.int .u64 (xs[k].v : Nat)) := by
  intro xs
  induction xs with
  | nil => intro k h; simp at h
  | cons x xs ih =>
    intro k h
    have e : smpCells (x :: xs) = Value.int .i64 x.s :: Value.int .i64 x.t :: Value.int .u64 (x.v : Nat) :: smpCells xs := rfl
    cases k with
    | zero => simp [e]
    | succ k =>
      have := ih k (by simpa using h)
      rw [e]
      have e1 : (k + 1) * 3 = k * 3 + 1 + 1 + 1 := by omega
      have e2 : k * 3 + 1 + 1 + 1 + 1 = (k * 3 + 1) + 1 + 1 + 1 := by omega
      have e3 : k * 3 + 1 + 1 + 1 + 2 = (k * 3 + 2) + 1 + 1 + 1 := by omega
      rw [e1, e3]
      simpa using this

/-- A slice of samples of the call's own. -/
def World.smpsAt (w : World) (base : Nat) (v : Value) (xs : List Silo.Smp) : Prop := w.ownsRow base 42 3 v xs.length (smpCells xs)

theorem smpsAt_cell {w : World} {base g cap : Nat} {xs : List Silo.Smp} (h : World.smpsAt w base (.slice (some ⟨g, 0, none⟩) xs.length cap) xs) (k : Nat) (hk : k < xs.length) :
    w.cell? ⟨g, k * 3, none⟩ = some (.int .i64 xs[k].s) ∧ w.cell? ⟨g, k * 3 + 1, none⟩ = some (.int .i64 xs[k].t) ∧ w.cell? ⟨g, k * 3 + 2, none⟩ = some (.int .u64 (xs[k].v : Nat)) := by
  have h1 := World.ownsRow.cells h (g := g) rfl (k * 3) _ (smpCells_at xs k hk).1
  have h2 := World.ownsRow.cells h (g := g) rfl (k * 3 + 1) _ (smpCells_at xs k hk).2.1
  have h3 := World.ownsRow.cells h (g := g) rfl (k * 3 + 2) _ (smpCells_at xs k hk).2.2
  simp only [Addr.add] at h1 h2 h3
  refine ⟨?_, ?_, ?_⟩
  · by_cases hz : k * 3 = 0
    · rw [if_pos hz] at h1; rw [hz]; exact h1
    · rw [if_neg hz] at h1; simpa using h1
  · rw [if_neg (by omega)] at h2; simpa using h2
  · rw [if_neg (by omega)] at h3; simpa using h3

theorem Try.infoSample : (Try.prog.info? 42).map (fun i => (i.zero, i.size, i.bytes)) = some (some (.agg #[.int .i64 0, .int .i64 0, .int .u64 0]), 3, 24) := by kernel_rfl

/-- What one sample appended leaves. -/
structure Appended (W w' : World) (base : Nat) (v : Value) (xs : List Silo.Smp) (x : Silo.Smp) (g cap : Nat) : Prop where
  row : World.smpsAt w' base (.slice (some ⟨g, 0, none⟩) (xs.length + 1) cap) (xs ++ [x])
  foot : Fp (fun k => v.ownBlock = some k) W w'
  lies : v.ownBlock = some g ∨ W.heap.size ≤ g
  lt : g < w'.heap.size

theorem run_append_smp {W : World} (ty : TypeId) (base : Nat) (v : Value) (xs : List Silo.Smp) (x : Silo.Smp) (hown : World.smpsAt W base v xs) (ad : Addr)
    (hcell : ∀ j u, (smpCells [x])[j]? = some u → W.cell? (ad.add j) = some u) (hl : xs.length ≤ 1099511627776) (hbase : base ≤ W.heap.size) :
    ∃ g cap w', (Builtin.append_ #[22, 22] ty #[v, .slice (some ad) 1 1]).run Try.prog W = .ok (.slice (some ⟨g, 0, none⟩) (xs.length + 1) cap) w' ∧ Appended W w' base v xs x g cap := by
  obtain ⟨i0, hi, hz0, hz1, hz2⟩ := info_parts Try.infoSample
  obtain ⟨g, cap, w', hr, h1, h2, h3, h4⟩ := run_append_lies (P := Try.prog) W 22 ty base 42 i0 _ 3 24 Try.underlying22 hi hz0 hz1 hz2 rfl (by decide) v xs.length (smpCells xs) hown ad 1 1 (smpCells [x]) (by rfl) hcell
    (by intro u hu; simp [smpCells] at hu; rcases hu with rfl | rfl | rfl <;> rfl) (by decide) (by unfold maxLen; omega) (by omega) hbase _ rfl
  refine ⟨g, cap, w', hr, ?_, Fp.mono (Fp.of_grownBy h2) (fun _ _ e => e.symm), h3.imp id (fun e => Nat.le_of_eq e.symm), h4⟩
  unfold World.smpsAt
  rw [List.length_append, smpCells_append]
  exact h1

theorem wpListIn_append_smp {F : Fence} {nF : Nat} {ops : Array Oper} {rest : List Oper} {o : Oper} {a : Act} {Q : Exit → Act → World → Prop} {W : World} (hgd : o.guard = none) (s x : Operand)
    (ho : o.op = .call { callee := .builtin .append, args := #[s, x], argTypes := #[22, 22] })
    (base : Nat) (v : Value) (xs : List Silo.Smp) (y : Silo.Smp) (hs : a.eval s = v) (hown : World.smpsAt W base v xs) (ad : Addr) (hx : a.eval x = .slice (some ad) 1 1)
    (hcell : ∀ j u, (smpCells [y])[j]? = some u → W.cell? (ad.add j) = some u) (hl : xs.length ≤ 1099511627776) (hbase : base ≤ W.heap.size)
    (h : ∀ g cap w', Hid (Appended W w' base v xs y g cap) → wpListIn F nF Try.prog ops Q rest (a.put o.dst (.slice (some ⟨g, 0, none⟩) (xs.length + 1) cap)) w') :
    wpListIn F nF Try.prog ops Q (o :: rest) a W := by
  refine wpListIn_plain hgd fun K hK => ?_
  obtain ⟨g, cap, w', hr, h1⟩ := run_append_smp (W := W) o.type base v xs y hown ad hcell hl hbase
  unfold Oper.wpIn
  refine ⟨by simp [Oper.about, ho, resolve, Target.leads, Sem.run_pure], ?_⟩
  rw [Oper.semAt_plain F _ _ (by rw [ho]; intro c hc'; cases hc')]
  simp [execOp, ho, resolve, invoke, builtin, hs, hx, hr, Result.andThen]
  exact hK _ _ (h g cap w' h1)

theorem wpList_append_smp {ops : Array Oper} {rest : List Oper} {o : Oper} {a : Act} {Q : Exit → Act → World → Prop} {W : World} (hgd : o.guard = none) (s x : Operand)
    (ho : o.op = .call { callee := .builtin .append, args := #[s, x], argTypes := #[22, 22] })
    (base : Nat) (v : Value) (xs : List Silo.Smp) (y : Silo.Smp) (hs : a.eval s = v) (hown : World.smpsAt W base v xs) (ad : Addr) (hx : a.eval x = .slice (some ad) 1 1)
    (hcell : ∀ j u, (smpCells [y])[j]? = some u → W.cell? (ad.add j) = some u) (hl : xs.length ≤ 1099511627776) (hbase : base ≤ W.heap.size)
    (h : ∀ g cap w', Hid (Appended W w' base v xs y g cap) → wpList Try.prog ops Q rest (a.put o.dst (.slice (some ⟨g, 0, none⟩) (xs.length + 1) cap)) w') :
    wpList Try.prog ops Q (o :: rest) a W := by
  refine wpList_plain hgd fun K hK => ?_
  obtain ⟨g, cap, w', hr, h1⟩ := run_append_smp (W := W) o.type base v xs y hown ad hcell hl hbase
  unfold Oper.wp execOp
  simp only [ho, resolve, invoke, builtin, Sem.run_bind, Sem.run_pure, Result.andThen_ok, List.map_toArray, List.map_cons, List.map_nil, hs, hx, hr]
  exact hK _ _ (h g cap w' h1)

/-- The cells of a new block that holds one sample. -/
theorem smp_new (w : World) (x : Silo.Smp) (t : TypeId) : ∀ j u, (smpCells [x])[j]? = some u → (w.alloc (.cells #[.int .i64 x.s, .int .i64 x.t, .int .u64 (x.v : Nat)] t)).cell? ((⟨w.heap.size, 0, none⟩ : Addr).add j) = some u := by
  intro j u hj
  have e : smpCells [x] = [Value.int .i64 x.s, Value.int .i64 x.t, Value.int .u64 (x.v : Nat)] := rfl
  rw [e] at hj
  match j, hj with
  | 0, hj => simp at hj; subst hj; simp [Addr.add]
  | 1, hj => simp at hj; subst hj; simp [Addr.add]
  | 2, hj => simp at hj; subst hj; simp [Addr.add]

/-! ### How many samples a text holds -/
theorem rdR_len {st : Silo.St} {l : List UInt8} (h : Silo.rdR st = some l) : l.length + 1 ≤ Silo.left st := by
  obtain ⟨e, _⟩ := Silo.rdR_some h
  rw [e]
  have := Silo.leb_pos (Silo.rdN st)
  simp [Silo.left]
  omega

theorem rdPts_count : ∀ (n : Nat) (st : Silo.St) (t : Int) (v : Nat) (f : Bool), (Silo.rdPts n st t v f).1.length + Silo.left (Silo.rdPts n st t v f).2 ≤ Silo.left st := by
  intro n
  induction n with
  | zero => intros; simp [Silo.rdPts]
  | succ n ih =>
    intro st t v f
    rw [Silo.rdPts]
    simp only
    have h1 := left_rdTime st t f
    cases hr : Silo.rdR (Silo.rdTime st t f).2 with
    | none => simp [Silo.left]
    | some l =>
      have h2 := rdR_len hr
      have h3 := ih (some l) (Silo.rdTime st t f).1 (v ^^^ Silo.rdN (Silo.rdTime st t f).2) false
      have h4 : Silo.left (some l) = l.length := rfl
      simp only [List.length_cons]
      omega

theorem rdPoints_count (st : Silo.St) : (Silo.rdPoints st).1.length + Silo.left (Silo.rdPoints st).2 ≤ Silo.left st := by
  unfold Silo.rdPoints
  split
  · simp [Silo.left]
  · exact Nat.le_trans (rdPts_count _ _ _ _ _) (left_rdR st)

theorem rdSmp_count : ∀ (m : Nat) (st : Silo.St) (a : Nat), (Silo.rdSmp m st a).1.length ≤ Silo.left st := by
  intro m
  induction m with
  | zero => intros; simp [Silo.rdSmp]
  | succ m ih =>
    intro st a
    rw [Silo.rdSmp]
    split
    · simp
    · split
      · simp
      · have h1 := rdPoints_count (Silo.rdR st)
        have h2 := ih (Silo.rdPoints (Silo.rdR st)).2 (Silo.rdN st)
        have h3 := left_rdR st
        simp only [List.length_append, List.length_map]
        omega

end Go.Proofs.Ytojjkjfcbfoinaa
