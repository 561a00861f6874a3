/- slices.Clone over points. -/
import Derived.Test.YtojjkjfcbfoinaaLayAid
import Derived.Maps.AppendAt
import Derived.Lib.SliceRun
namespace Go.Proofs.Ytojjkjfcbfoinaa
open Go.RowKit Go.Shelf

/-- Points that can be read at an address. -/
def PtsIn (w : World) (a : Option Addr) (qs : List Silo.Pt) : Prop :=
  qs = [] ∨ ∃ b off, a = some ⟨b, off, none⟩ ∧ b < w.heap.size ∧ ∀ k (hk : k < qs.length), w.cell? ⟨b, off + k * 2, none⟩ = some (.int .i64 qs[k].t) ∧ w.cell? ⟨b, off + k * 2 + 1, none⟩ = some (.int .u64 (qs[k].v : Nat))

theorem PtsIn.fp {w w' : World} {a : Option Addr} {qs : List Silo.Pt} (h : PtsIn w a qs) (hf : Fp (fun _ => False) w w') : PtsIn w' a qs := by
  rcases h with h | ⟨b, off, ha, hb, hc⟩
  · exact .inl h
  · refine .inr ⟨b, off, ha, Nat.lt_of_lt_of_le hb hf.size, fun k hk => ?_⟩
    obtain ⟨c0, c1⟩ := hc k hk
    exact ⟨(hf.cell (p := ⟨b, off + k * 2, none⟩) hb (fun h => h)).trans c0, (hf.cell (p := ⟨b, off + k * 2 + 1, none⟩) hb (fun h => h)).trans c1⟩

theorem ptCells_in : ∀ (qs : List Silo.Pt) (j : Nat) (u : Value), (ptCells qs)[j]? = some u → ∃ k, ∃ hk : k < qs.length, (j = k * 2 ∧ u = .int .i64 qs[k].t) ∨ (j = k * 2 + 1 ∧ u = .int .u64 (qs[k].v : Nat)) := by
  intro qs
  induction qs with
  | nil => intro j u h; simp [ptCells] at h
  | cons p qs ih =>
    intro j u h
    have e : ptCells (p :: qs) = Value.int .i64 p.t :: Value.int .u64 (p.v : Nat) :: ptCells qs := rfl
    rw [e] at h
    match j, h with
    | 0, h => exact ⟨0, by simp, .inl ⟨rfl, by simpa using h.symm⟩⟩
    | 1, h => exact ⟨0, by simp, .inr ⟨rfl, by simpa using h.symm⟩⟩
    | j + 2, h =>
      obtain ⟨k, hk, hh⟩ := ih j u (by simpa using h)
      refine ⟨k + 1, by simpa using hk, ?_⟩
      rcases hh with ⟨h1, h2⟩ | ⟨h1, h2⟩
      · exact .inl ⟨by omega, by simpa using h2⟩
      · exact .inr ⟨by omega, by simpa using h2⟩

theorem PtsIn.cells {w : World} {b off : Nat} {qs : List Silo.Pt} (hc : ∀ k (hk : k < qs.length), w.cell? ⟨b, off + k * 2, none⟩ = some (.int .i64 qs[k].t) ∧ w.cell? ⟨b, off + k * 2 + 1, none⟩ = some (.int .u64 (qs[k].v : Nat))) :
    ∀ j u, (ptCells qs)[j]? = some u → w.cell? ((⟨b, off, none⟩ : Addr).add j) = some u := by
  intro j u h
  obtain ⟨k, hk, hh⟩ := ptCells_in qs j u h
  have e : (⟨b, off, none⟩ : Addr).add j = ⟨b, off + j, none⟩ := by
    unfold Addr.add
    split
    · next h => rw [h]; rfl
    · rfl
  rw [e]
  rcases hh with ⟨rfl, rfl⟩ | ⟨rfl, rfl⟩
  · exact (hc k hk).1
  · exact (hc k hk).2

theorem ptCells_one (qs : List Silo.Pt) : ∀ u ∈ ptCells qs, u.oneCell' = true := by
  intro u hu
  obtain ⟨j, hj⟩ := List.getElem?_of_mem hu
  obtain ⟨k, hk, hh⟩ := ptCells_in qs j u hj
  rcases hh with ⟨_, rfl⟩ | ⟨_, rfl⟩ <;> rfl

/-- Points appended to a row of the call's own. -/
theorem wpList_append_pts {ops : Array Oper} {rest : List Oper} {o : Oper} {a : Act} {Q : Exit → Act → World → Prop} {W : World} (hgd : o.guard = none) (s x : Operand)
    (ho : o.op = .call { callee := .builtin .append, args := #[s, x], argTypes := #[58, 58] })
    (base : Nat) (v : Value) (ps qs : List Silo.Pt) (hs : a.eval s = v) (hown : World.ptsAt W base v ps) (ad : Addr) (c : Nat) (hx : a.eval x = .slice (some ad) qs.length c)
    (hcell : ∀ j u, (ptCells qs)[j]? = some u → W.cell? (ad.add j) = some u) (hl : ps.length + qs.length ≤ 2199023255552) (hbase : base ≤ W.heap.size)
    (h : ∀ v' w', Hid (World.ptsAt w' base v' (ps ++ qs) ∧ Fp (fun k => v.ownBlock = some k) W w' ∧ (v'.ownBlock = v.ownBlock ∨ v'.ownBlock = some W.heap.size)) →
      wpList Try.prog ops Q rest (a.put o.dst v') w') :
    wpList Try.prog ops Q (o :: rest) a W := by
  refine wpList_plain hgd fun K hK => ?_
  obtain ⟨i0, hi, hz0, hz1, hz2⟩ := info_parts Try.infoPoint
  obtain ⟨v', w', hr, h1, h2, _, h4⟩ := run_append_own_at (P := Try.prog) W base 58 o.type 80 i0 _ 2 16 Try.underlying58 hi hz0 hz1 hz2 rfl (by decide) v ps.length (ptCells ps) hown ad qs.length c (ptCells qs) (ptCells_length qs) hcell
    (ptCells_one qs) (by unfold maxLen; omega) (by omega) hbase
  unfold Oper.wp execOp
  simp only [ho, resolve, invoke, builtin, Sem.run_bind, Sem.run_pure, Result.andThen_ok, List.map_toArray, List.map_cons, List.map_nil, hs, hx, hr]
  refine hK _ _ (h v' w' ⟨?_, Fp.mono (Fp.of_grownBy h2) (fun _ _ e => e.symm), h4⟩)
  unfold World.ptsAt
  rw [List.length_append, ptCells_append]
  exact h1

set_option maxHeartbeats 400000 in
set_option maxRecDepth 100000 in
theorem Clone_any (a : Option Addr) (c : Nat) (qs : List Silo.Pt) (w : World) (h : PtsIn w a qs) (hl : qs.length ≤ 1099511627776) :
    Calls Try.prog 52 #[.slice a qs.length c] w fun e w' => ∃ v', e = .returned v' ∧ Hid (World.ptsAt w' w.heap.size v' qs ∧ Fp (fun _ => False) w w') := by
  have H : Hid _ := h
  clear h
  cases a with
  | none =>
    have : qs = [] := by
      rcases H.out with h | ⟨b, off, ha, _⟩
      · exact h
      · cases ha
    subst this
    clear H
    have heq : ∀ u : World, (binOp .eql 58 (.slice none 0 c) (.slice none 0 0)).run Try.prog u = .ok (.bool true) u := fun u => Lib.run_eql_slice_nil u 58 80 none 0 c 0 0 Try.underlying58
    go_enter Try.func52, Try.ntmps52
    go_wp2
    go_ret
    exact ⟨_, rfl, ⟨rfl, .inl ⟨rfl, rfl⟩⟩, Fp.refl _ _⟩
  | some ad =>
    have heq : ∀ u : World, (binOp .eql 58 (.slice (some ad) qs.length c) (.slice none 0 0)).run Try.prog u = .ok (.bool false) u := fun u => Lib.run_eql_slice_nil u 58 80 (some ad) qs.length c 0 0 Try.underlying58
    go_enter Try.func52, Try.ntmps52
    go_wp2_with (at_builtin; refine wpList_append_pts rfl _ _ rfl w.heap.size (.slice (some ⟨w.heap.size, 0, none⟩) 0 0) [] qs rfl ?c1 ad c rfl ?c2 ?c3 ?c4 ?_; rotate_left 4; intro v4 w4 H4)
    case c1 => exact ⟨rfl, .inr ⟨w.heap.size, 0, #[], rfl, Nat.le_refl _, heap_new _ _, Nat.le_refl _, Nat.zero_le _, rfl, rfl⟩⟩
    case c2 =>
      have H' := PtsIn.fp H.out (Fp.alloc (fun _ => False) w (.cells #[] 80))
      rcases H' with h | ⟨b, off, ha, hb, hc⟩
      · subst h; intro j u h; simp [ptCells] at h
      · cases ha
        exact PtsIn.cells hc
    case c3 => simp; omega
    case c4 => simp
    go_ret
    refine ⟨v4, rfl, H4.out.1, ((Fp.alloc (fun _ => False) w (.cells #[] 80)).trans H4.out.2.1 (fun _ h => h) (fun k hk e => ?_))⟩
    simp [Value.ownBlock] at e
    omega

end Go.Proofs.Ytojjkjfcbfoinaa
