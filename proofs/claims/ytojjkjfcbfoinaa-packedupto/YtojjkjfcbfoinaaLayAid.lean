/- Samples that came in, and a set that is laid upon: what the walks of Fits, Lay and Block share. -/
import Derived.Test.YtojjkjfcbfoinaaSettle
import Derived.Test.YtojjkjfcbfoinaaSetRead
import Derived.Test.YtojjkjfcbfoinaaSmpRows
namespace Silo

/-- The points of a series, in the order of the samples. -/
def ser (s : Nat) (xs : List Smp) : List Pt := xs.filterMap fun x => if x.s = (s : Int) then some ⟨x.t, x.v⟩ else none

theorem ser_nil (s : Nat) : ser s [] = [] := rfl
theorem ser_append (s : Nat) (a b : List Smp) : ser s (a ++ b) = ser s a ++ ser s b := by simp [ser]
theorem ser_same (s : Nat) (x : Smp) (h : x.s = (s : Int)) : ser s [x] = [⟨x.t, x.v⟩] := by simp [ser, h]
theorem ser_other (s : Nat) (x : Smp) (h : x.s ≠ (s : Int)) : ser s [x] = [] := by simp [ser, h]
theorem ser_length (s : Nat) (xs : List Smp) : (ser s xs).length ≤ xs.length := List.length_filterMap_le _ _

/-- What a sample's numbers are. -/
def goodSmp (x : Smp) : Prop := 0 ≤ x.s ∧ x.s < 16 ∧ isInt x.t ∧ x.v < M64

theorem ser_good {s : Nat} {xs : List Smp} (h : ∀ x ∈ xs, goodSmp x) : ∀ p ∈ ser s xs, isInt p.t ∧ p.v < M64 := by
  intro p hp
  obtain ⟨x, hx, he⟩ := List.mem_filterMap.1 hp
  have := h x hx
  by_cases c : x.s = (s : Int)
  · rw [if_pos c] at he
    cases he
    exact this.2.2
  · rw [if_neg c] at he; cases he

end Silo

namespace Go.Proofs.Ytojjkjfcbfoinaa
open Go.RowKit Go.Shelf
open Silo (ptAt)

/-- Samples that lie below block B, however they came. -/
def SmpIn (w : World) (B : Nat) (v : Value) (xs : List Silo.Smp) : Prop :=
  ∃ a c, v = .slice a xs.length c ∧ (xs = [] ∨ ∃ b off, a = some ⟨b, off, none⟩ ∧ b < B ∧ ∀ k (hk : k < xs.length),
    w.cell? ⟨b, off + k * 3, none⟩ = some (.int .i64 xs[k].s) ∧ w.cell? ⟨b, off + k * 3 + 1, none⟩ = some (.int .i64 xs[k].t) ∧ w.cell? ⟨b, off + k * 3 + 2, none⟩ = some (.int .u64 (xs[k].v : Nat)))

theorem SmpIn.fp {w w' : World} {B : Nat} {v : Value} {xs : List Silo.Smp} {S : Nat → Prop} (h : SmpIn w B v xs) (hf : Fp S w w') (hB : B ≤ w.heap.size) (hS : ∀ k, k < B → ¬ S k) : SmpIn w' B v xs := by
  obtain ⟨a, c, e, h⟩ := h
  refine ⟨a, c, e, h.imp id ?_⟩
  rintro ⟨b, off, ha, hb, hc⟩
  refine ⟨b, off, ha, hb, fun k hk => ?_⟩
  have hlt : b < w.heap.size := Nat.lt_of_lt_of_le hb hB
  obtain ⟨c0, c1, c2⟩ := hc k hk
  refine ⟨?_, ?_, ?_⟩
  · rw [hf.cell (p := ⟨b, off + k * 3, none⟩) hlt (hS b hb)]; exact c0
  · rw [hf.cell (p := ⟨b, off + k * 3 + 1, none⟩) hlt (hS b hb)]; exact c1
  · rw [hf.cell (p := ⟨b, off + k * 3 + 2, none⟩) hlt (hS b hb)]; exact c2

theorem SmpIn.up {w : World} {B B' : Nat} {v : Value} {xs : List Silo.Smp} (h : SmpIn w B v xs) (hB : B ≤ B') : SmpIn w B' v xs := by
  obtain ⟨a, c, e, h⟩ := h
  refine ⟨a, c, e, h.imp id ?_⟩
  rintro ⟨b, off, ha, hb, hc⟩
  exact ⟨b, off, ha, Nat.lt_of_lt_of_le hb hB, hc⟩

theorem SmpIn.nil (w : World) (B : Nat) : SmpIn w B (.slice none 0 0) [] := ⟨none, 0, rfl, .inl rfl⟩

theorem SmpIn.of_row {w : World} {base B : Nat} {v : Value} {xs : List Silo.Smp} (h : World.smpsAt w base v xs) (hB : w.heap.size ≤ B) : SmpIn w B v xs := by
  have h' := h
  rcases h.2 with ⟨h1, h2⟩ | ⟨g, cap, cur, h3, _, hg, _⟩
  · have : xs = [] := List.length_eq_zero_iff.1 h2
    subst this
    exact ⟨none, 0, h1, .inl rfl⟩
  · subst h3
    refine ⟨_, _, rfl, .inr ⟨g, 0, rfl, Nat.lt_of_lt_of_le (heap_lt hg) hB, fun k hk => ?_⟩⟩
    rw [Nat.zero_add]
    exact smpsAt_cell h' k hk

/-- One point appended to a row of the call's own. -/
structure PtAppended (W w' : World) (base : Nat) (v : Value) (ps : List Silo.Pt) (p : Silo.Pt) (g cap : Nat) : Prop where
  row : World.ptsAt w' base (.slice (some ⟨g, 0, none⟩) (ps.length + 1) cap) (ps ++ [p])
  foot : Fp (fun k => v.ownBlock = some k) W w'
  lies : v.ownBlock = some g ∨ W.heap.size ≤ g
  lt : g < w'.heap.size

theorem run_append_pt {W : World} (ty : TypeId) (base : Nat) (v : Value) (ps : List Silo.Pt) (p : Silo.Pt) (hown : World.ptsAt W base v ps) (ad : Addr)
    (hcell : ∀ j u, (ptCells [p])[j]? = some u → W.cell? (ad.add j) = some u) (hl : ps.length ≤ 1099511627776) (hbase : base ≤ W.heap.size) :
    ∃ g cap w', (Builtin.append_ #[58, 58] ty #[v, .slice (some ad) 1 1]).run Try.prog W = .ok (.slice (some ⟨g, 0, none⟩) (ps.length + 1) cap) w' ∧ PtAppended W w' base v ps p g cap := by
  obtain ⟨i0, hi, hz0, hz1, hz2⟩ := info_parts Try.infoPoint
  obtain ⟨g, cap, w', hr, h1, h2, h3, h4⟩ := run_append_lies (P := Try.prog) W 58 ty base 80 i0 _ 2 16 Try.underlying58 hi hz0 hz1 hz2 rfl (by decide) v ps.length (ptCells ps) hown ad 1 1 (ptCells [p]) (by rfl) hcell
    (by intro u hu; simp [ptCells] at hu; rcases hu with rfl | rfl <;> rfl) (by decide) (by unfold maxLen; omega) (by omega) hbase _ rfl
  refine ⟨g, cap, w', hr, ?_, Fp.mono (Fp.of_grownBy h2) (fun _ _ e => e.symm), h3.imp id (fun e => Nat.le_of_eq e.symm), h4⟩
  unfold World.ptsAt
  rw [List.length_append, ptCells_append]
  exact h1

/-- An append, as one operation of a region that draws its order. -/
theorem opIn_append {F : Fence} {n : Nat} {ops : Array Oper} {o : Oper} {a : Act} {W : World} {K : Act → World → Prop} {Q : Exit → Act → World → Prop} {R : Prop} (hgd : o.guard = none) (s x : Operand) (t : TypeId)
    (ho : o.op = .call { callee := .builtin .append, args := #[s, x], argTypes := #[t, t] }) (v1 v2 v : Value) (w' : World) (hs : a.eval s = v1) (hx : a.eval x = v2)
    (hr : (Builtin.append_ #[t, t] o.type #[v1, v2]).run Try.prog W = .ok v w') (h : K (a.put o.dst v) w') :
    if Region.wanted o (yielded ops a.tmps) = true then Oper.wpIn F n Try.prog o a W K Q else R := by
  rw [if_pos (by simp [Region.wanted, hgd])]
  unfold Oper.wpIn
  refine ⟨by simp [Oper.about, ho, resolve, Target.leads, Sem.run_pure], ?_⟩
  rw [Oper.semAt_plain F _ _ (by rw [ho]; intro c hc'; cases hc')]
  simp [execOp, ho, resolve, invoke, builtin, hs, hx, hr, Result.andThen]
  exact h

/-- One slice of the set is another one now. -/
theorem SetAt.put {w w' : World} {base tb off s : Nat} {ty : TypeId} {cs : Array Value} {m : Nat → List Silo.Pt} (h : SetAt w base tb off ty cs m) (hs : s < 16) (v v' : Value) (ps : List Silo.Pt) (hv : cs[off + s]? = some v)
    (hf : Fp (fun k => v.ownBlock = some k ∨ k = tb) w w') (hb : w'.heap[tb]? = some (.cells (cs.setIfInBounds (off + s) v') ty (0, 0))) (hr : World.ptsAt w' base v' ps) (hl : ∀ k, v'.ownBlock = some k → v.ownBlock = some k ∨ w.heap.size ≤ k) :
    SetAt w' base tb off ty (cs.setIfInBounds (off + s) v') (fun j => if j = s then ps else m j) where
  block := hb
  kind := h.kind
  size := by simp [h.size]
  below := h.below
  row := fun j hj => by
    by_cases c : j = s
    · subst c
      refine ⟨v', Array.getElem?_setIfInBounds_self_of_lt (by have := h.size; omega), ?_⟩
      rw [if_pos rfl]; exact hr
    · obtain ⟨u, hu, hru⟩ := h.row j hj
      refine ⟨u, by rw [Array.getElem?_setIfInBounds_ne (by omega)]; exact hu, ?_⟩
      rw [if_neg c]
      refine Fp.ownsRow hf hru (fun k hk hx => ?_)
      rcases hx with hx | hx
      · exact h.apart s j v u k hs hj (fun e => c e.symm) hv hu hx hk
      · have := (World.ownsRow.lt hru k hk).1
        have := h.below
        omega
  apart := fun j j' u u' k hj hj' hne hu hu' hk => by
    have hold : ∀ (i : Nat) (x : Value), i < 16 → i ≠ s → cs[off + i]? = some x → ∀ k, x.ownBlock = some k → k < w.heap.size := by
      intro i x hi _ hx k hk
      obtain ⟨y, hy, hry⟩ := h.row i hi
      rw [hx] at hy
      cases hy
      exact (World.ownsRow.lt hry k hk).2
    by_cases c : j = s
    · subst c
      rw [Array.getElem?_setIfInBounds_self_of_lt (by have := h.size; omega)] at hu
      cases hu
      rw [Array.getElem?_setIfInBounds_ne (by omega)] at hu'
      intro hk'
      rcases hl k hk with hx | hx
      · exact h.apart j j' v u' k hj hj' hne hv hu' hx hk'
      · have := hold j' u' hj' (fun e => hne e.symm) hu' k hk'; omega
    · rw [Array.getElem?_setIfInBounds_ne (by omega)] at hu
      by_cases c' : j' = s
      · subst c'
        rw [Array.getElem?_setIfInBounds_self_of_lt (by have := h.size; omega)] at hu'
        cases hu'
        intro hk'
        rcases hl k hk' with hx | hx
        · exact h.apart j j' u v k hj hj' hne hu hv hk hx
        · have := hold j u hj c hu k hk; omega
      · rw [Array.getElem?_setIfInBounds_ne (by omega)] at hu'
        exact h.apart j j' u u' k hj hj' hne hu hu' hk

theorem SetAt.congr {w : World} {base tb off : Nat} {ty : TypeId} {cs : Array Value} {m m' : Nat → List Silo.Pt} (h : SetAt w base tb off ty cs m) (he : ∀ j, m j = m' j) : SetAt w base tb off ty cs m' := by
  have : m = m' := funext he
  rw [← this]; exact h

/-- A row of points of the call's own: its block. -/
theorem ptsAt_PB {w : World} {base : Nat} {v : Value} {ps : List Silo.Pt} (h : World.ptsAt w base v ps) : (v = .slice none 0 0 ∧ ps = []) ∨
    ∃ g cap tail, v = .slice (some ⟨g, 0, none⟩) ps.length cap ∧ base ≤ g ∧ PB w g ps tail ∧ ps.length ≤ cap ∧ cap ≤ maxLen ∧ (ptCells ps ++ tail).length = cap * 2 := by
  rcases h.2 with ⟨h1, h2⟩ | ⟨g, cap, cur, h3, hb, hg, hc, hm, hsz, ht⟩
  · exact .inl ⟨h1, List.length_eq_zero_iff.1 h2⟩
  · refine .inr ⟨g, cap, cur.toList.drop (ps.length * 2), h3, hb, ?_, hc, hm, ?_⟩
    · unfold PB
      rw [hg, ← ht, List.take_append_drop]
    · rw [← ht, List.take_append_drop]; simp [hsz]

theorem PB_ptsAt {w : World} {base g cap : Nat} {cs rs : List Silo.Pt} {tail : List Value} (h : PB w g cs tail) (hb : base ≤ g) (hm : cap ≤ maxLen) (hsz : (ptCells cs ++ tail).length = cap * 2) (hr : cs.take rs.length = rs) (hl : rs.length ≤ cs.length) :
    World.ptsAt w base (.slice (some ⟨g, 0, none⟩) rs.length cap) rs := by
  have hcl := ptCells_length cs
  refine ⟨ptCells_length rs, .inr ⟨g, cap, _, rfl, hb, h, ?_, hm, by simpa using hsz, ?_⟩⟩
  · rw [List.length_append] at hsz; omega
  · have e : cs = rs ++ cs.drop rs.length := by conv => lhs; rw [← List.take_append_drop rs.length cs, hr]
    conv => lhs; rw [e]
    simp only [ptCells_append, List.append_assoc]
    rw [← ptCells_length rs]
    simp

/-- What settling leaves of points. -/
def Settled (ps rs : List Silo.Pt) : Prop := ∃ qs, Silo.Within ps qs 0 ps.length ∧ Silo.Sorted qs 0 ps.length ∧ rs = Silo.ddTo qs ps.length

theorem settled_nil (w : World) : Calls Try.prog 33 #[.slice none 0 0] w fun e w' => e = .returned (.slice none 0 0) ∧ w' = w := by
  go_enter Try.func33, Try.ntmps33
  go_wp2_with fail
  refine (SortStable_nil w).mono ?_
  rintro e w1 ⟨rfl, rfl⟩
  go_wp2_with fail
  go_loopw [3, 12] (fun kv iv wr => kv = .slice none 0 0 ∧ iv = .int .i64 0 ∧ wr = w1) (fun _ _ _ => 0)
  case atStart => exact ⟨rfl, rfl, rfl⟩
  case round =>
    obtain ⟨rfl, rfl, rfl⟩ := hrel
    go_wp2
    go_ret
    exact ⟨ret_val (by simp), rfl⟩

theorem settled_row (base : Nat) (v : Value) (ps : List Silo.Pt) (w : World) (h : World.ptsAt w base v ps) (hl : ps.length ≤ 1099511627776) :
    Calls Try.prog 33 #[v] w fun e w' => ∃ v' rs, e = .returned v' ∧ Settled ps rs ∧ World.ptsAt w' base v' rs ∧ v'.ownBlock = v.ownBlock ∧ Fp (fun k => v.ownBlock = some k) w w' := by
  rcases ptsAt_PB h with ⟨rfl, rfl⟩ | ⟨g, cap, tail, rfl, hb, hpb, hc, hm, hsz⟩
  · refine (settled_nil w).mono ?_
    rintro e w' ⟨rfl, rfl⟩
    exact ⟨_, [], rfl, ⟨[], Silo.Within.refl _ _ _, fun i j _ _ h => by simp at h, rfl⟩, ⟨rfl, .inl ⟨rfl, rfl⟩⟩, rfl, Fp.refl _ _⟩
  · refine (settled_any g cap ps tail w ps.length rfl hpb hc hl).mono ?_
    rintro e w' ⟨qs, cs, h1, h2, h3, rfl, h5, h6⟩
    have hql := h1.len
    have hcl := h3.len
    have hdl := Silo.ddTo_le qs ps.length
    refine ⟨_, Silo.ddTo qs ps.length, rfl, ⟨qs, h1, h2, rfl⟩, PB_ptsAt h5 hb hm ?_ h3.kept (by omega), rfl, h6.mono (fun k _ e => by rw [e]; rfl)⟩
    rw [List.length_append, ptCells_length] at hsz ⊢
    omega

end Go.Proofs.Ytojjkjfcbfoinaa
