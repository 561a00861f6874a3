/- slices.Values over points: its contract by footprints. -/
import Derived.Test.YtojjkjfcbfoinaaRangeFp
import Derived.Test.YtojjkjfcbfoinaaPure3
namespace Go.Proofs.Ytojjkjfcbfoinaa
open Go.RowKit Go.Shelf

attribute [local go_sem] Oper.semAt_some

/-- A point as a value. -/
def ptV (p : Silo.Pt) : Value := .agg #[.int .i64 p.t, .int .u64 (p.v : Nat)]

/-- Points as cells. -/
def ptCells (ps : List Silo.Pt) : List Value := ps.flatMap fun p => [.int .i64 p.t, .int .u64 (p.v : Nat)]

theorem ptCells_length (ps : List Silo.Pt) : (ptCells ps).length = ps.length * 2 := by
  induction ps with
  | nil => rfl
  | cons p ps ih => simp [ptCells] at ih ⊢; omega

theorem ptCells_append (a b : List Silo.Pt) : ptCells (a ++ b) = ptCells a ++ ptCells b := by simp [ptCells]

theorem ptCells_at : ∀ (ps : List Silo.Pt) (k : Nat) (h : k < ps.length), (ptCells ps)[k * 2]? = some (.int .i64 ps[k].t) ∧ (ptCells ps)[k * 2 + 1]? = some (.int .u64 (ps[k].v : Nat)) := by
  intro ps
  induction ps with
  | nil => intro k h; simp at h
  | cons p ps ih =>
    intro k h
    have e : ptCells (p :: ps) = Value.int .i64 p.t :: Value.int .u64 (p.v : Nat) :: ptCells ps := rfl
    cases k with
    | zero => simp [e]
    | succ k =>
      have := ih k (by simpa using h)
      rw [e]
      have e1 : (k + 1) * 2 = k * 2 + 1 + 1 := by omega
      rw [e1]
      simpa using this

/-- A slice of points of the call's own. -/
def World.ptsAt (w : World) (base : Nat) (v : Value) (ps : List Silo.Pt) : Prop := w.ownsRow base 80 2 v ps.length (ptCells ps)

theorem ptsAt_cell {w : World} {base g cap : Nat} {ps : List Silo.Pt} (h : World.ptsAt w base (.slice (some ⟨g, 0, none⟩) ps.length cap) ps) (k : Nat) (hk : k < ps.length) :
    w.cell? ⟨g, k * 2, none⟩ = some (.int .i64 ps[k].t) ∧ w.cell? ⟨g, k * 2 + 1, none⟩ = some (.int .u64 (ps[k].v : Nat)) := by
  have h1 := World.ownsRow.cells h (g := g) rfl (k * 2) _ (ptCells_at ps k hk).1
  have h2 := World.ownsRow.cells h (g := g) rfl (k * 2 + 1) _ (ptCells_at ps k hk).2
  simp only [Addr.add] at h1 h2
  refine ⟨?_, ?_⟩
  · by_cases hz : k * 2 = 0
    · rw [if_pos hz] at h1; rw [hz]; exact h1
    · rw [if_neg hz] at h1; simpa using h1
  · rw [if_neg (by omega)] at h2; simpa using h2

set_option maxHeartbeats 400000 in
theorem Values_any (a : Option Addr) (n c : Nat) (w : World) :
    Calls Try.prog 75 #[.slice a n c] w fun e w' => e = .returned (.func (.func 85) #[] #[.pointer (some ⟨w.heap.size, 0, none⟩)]) ∧ w' = w.alloc (.cells #[.slice a n c] 58) := by
  have hmf : ∀ (fn : Fn) (first cap : Array Value) (w : World), (Instr.makeFunc fn first cap).run Try.prog w = .ok (.func fn first cap) w := fun _ _ _ _ => rfl
  go_enter Try.func75, Try.ntmps75
  go_wp2
  go_ret
  exact ⟨ret_val (by simp), rfl⟩

set_option maxHeartbeats 1000000 in
set_option maxRecDepth 100000 in
theorem ValuesCl_seq (n : Nat) (hn : 3 ≤ n) (bx base g cap : Nat) (ps : List Silo.Pt) (w : World) (hbx : w.heap[bx]? = some (.cells #[.slice (some ⟨g, 0, none⟩) ps.length cap] 58 (0, 0)))
    (hps : World.ptsAt w base (.slice (some ⟨g, 0, none⟩) ps.length cap) ps) (hlen : ps.length ≤ 1099511627776) :
    SeqFp Fence.wide n Try.prog 85 #[.pointer (some ⟨bx, 0, none⟩)] (fun p => #[ptV p]) ps (fun k => k = bx ∨ k = g) (fun _ => False) w (fun _ => True) := by
  intro l J B W hW hB hJ hY h0
  refine callsIn_of_wp Try.func85 rfl trivial ?_ rfl
  simp only [Try.ntmps85, List.size_toArray, List.length_cons, List.length_nil, Nat.reduceAdd, Nat.reduceSub, Array.replicate_succ, Array.replicate_zero, List.push_toArray, List.append_toArray, List.nil_append, List.cons_append]
  have hbxW : W.cell? ⟨bx, 0, none⟩ = some (.slice (some ⟨g, 0, none⟩) ps.length cap) := by
    rw [hW.cell (p := ⟨bx, 0, none⟩) (heap_lt hbx) (fun h => h)]; simp [World.cell?, hbx]
  have HX : Hid (World.ptsAt W base (.slice (some ⟨g, 0, none⟩) ps.length cap) ps) := Fp.ownsRow hW hps (fun _ _ h => h)
  have HY : Hid _ := hY
  have HJ : Hid _ := hJ
  have H0 : Hid _ := h0
  have HB : Hid _ := hB
  clear hY hJ h0 hB hps hbx
  gi_wp2
  gi_loopw [7] (fun i wr => ∃ k : Nat, k ≤ ps.length ∧ i = .int .i64 k ∧ Hid (∃ B', J B' (ps.take k) wr ∧ Fp B W wr ∧ ∀ j, B' j → (B j ∨ W.heap.size ≤ j) ∧ j < wr.heap.size))
    (fun i _ => ps.length - (intOf i).toNat)
  case atStart => exact ⟨0, Nat.zero_le _, rfl, B, H0.out, Fp.refl _ _, fun j hj => ⟨.inl hj, (HB.out j hj).1⟩⟩
  case round =>
    obtain ⟨k, hk, rfl, HR⟩ := hrel
    obtain ⟨B', hj, hf, hb⟩ := HR.out
    by_cases hlt : k < ps.length
    · have HW : Hid (World.ptsAt wr base (.slice (some ⟨g, 0, none⟩) ps.length cap) ps) := Fp.ownsRow hf HX.out (fun q e hq => by
        simp [Value.ownBlock] at e; subst e; exact (HB.out _ hq).2 (.inr rfl))
      have hc := ptsAt_cell HW.out k hlt
      have hc1 := hc.1
      have hc2 := hc.2
      have hgl : g < wr.heap.size := by
        rcases HW.out.lt g rfl with ⟨_, h⟩; exact h
      have hf2 : Fp (fun _ => False) wr (wr.alloc (.cells #[.int .i64 ps[k].t, .int .u64 (ps[k].v : Nat)] 80)) := Fp.alloc _ _ _
      have hj2 := HJ.out B' _ _ _ hj (fun j h => (hb j h).2) (hf2.mono (fun _ _ h => h.elim))
      have hpre : ps.take k ++ [ps[k]] = ps.take (k + 1) := by simp
      obtain ⟨fn, tmps, assign, body, hy, hR⟩ := HY.out B' (ps.take k) ps[k] _ hj2 (fun j h => Nat.lt_of_lt_of_le (hb j h).2 hf2.size) (by rw [hpre]; exact List.take_prefix _ _)
      dsimp only [ptV] at hy
      have HH : Hid _ := And.intro hb (And.intro hf hf2)
      clear hc hj hj2 hb hf hf2 hpre
      gi_wp2
      refine ⟨fun _ => by omega, hR.mono ?_⟩
      rintro e W3 ⟨rfl, B2, h3⟩
      have H3 : Hid _ := h3
      clear h3 hR hy
      gi_wp2
      go_roundw
      case rel =>
        obtain ⟨hj3, hf3, hb3⟩ := H3.out
        obtain ⟨hb, hf, hf2⟩ := HH.out
        refine ⟨k + 1, by omega, by go_num, B2, ?_, ?_, ?_⟩
        · have hpre : ps.take k ++ [ps[k]] = ps.take (k + 1) := by simp
          rw [← hpre]; exact hj3
        · exact (hf.trans hf2 (fun _ h => h) (fun _ _ h => h.elim)).trans hf3 (fun _ h => h) (fun j hj h => (hb j h).1.elim id (fun h => by omega))
        · intro j hj
          have h1 := hb3 j hj
          have h2 := hf.size
          refine ⟨?_, h1.2⟩
          rcases h1.1 with h | h
          · exact (hb j h).1
          · right; simp at h; omega
      case measure => simp [intOf]; omega
    · obtain rfl : k = ps.length := by omega
      have HH : Hid _ := And.intro hj (And.intro hf hb)
      clear hj hf hb
      gi_wp2
      go_end0
      obtain ⟨hj, hf, hb⟩ := HH.out
      rw [List.take_of_length_le (Nat.le_refl _)] at hj
      exact ⟨⟨_, rfl⟩, B', hj, hf.mono (fun _ _ h => .inl h), hb, trivial⟩

end Go.Proofs.Ytojjkjfcbfoinaa
