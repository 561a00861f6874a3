/- slices.AppendSeq over points: what an iterator hands on is appended to a row of the call's own. -/
import Derived.Test.YtojjkjfcbfoinaaClone
import Derived.Test.YtojjkjfcbfoinaaSeriesAid
namespace Go.Proofs.Ytojjkjfcbfoinaa
open Go.RowKit Go.Shelf

attribute [local go_sem] Oper.semAt_some

theorem SeqFp.up {α : Type} {F : Fence} {n : Nat} {P : Program} {g : Nat} {lb : Array Value} {encs : α → Array Value} {xs : List α} {R T : Nat → Prop} {w w1 : World} {E : World → Prop}
    (h : SeqFp F n P g lb encs xs R T w E) (hf : Fp (fun _ => False) w w1) : SeqFp F n P g lb encs xs R T w1 E :=
  fun l J B W hW => h l J B W (hf.trans' hW)

theorem wpListIn_append_pt {F : Fence} {nF : Nat} {ops : Array Oper} {rest : List Oper} {o : Oper} {a : Act} {Q : Exit → Act → World → Prop} {W : World} (hgd : o.guard = none) (s x : Operand)
    (ho : o.op = .call { callee := .builtin .append, args := #[s, x], argTypes := #[58, 58] })
    (base : Nat) (v : Value) (xs : List Silo.Pt) (y : Silo.Pt) (hs : a.eval s = v) (hown : World.ptsAt W base v xs) (ad : Addr) (hx : a.eval x = .slice (some ad) 1 1)
    (hcell : ∀ j u, (ptCells [y])[j]? = some u → W.cell? (ad.add j) = some u) (hl : xs.length ≤ 1099511627776) (hbase : base ≤ W.heap.size)
    (h : ∀ g cap w', Hid (PtAppended W w' base v xs y g cap) → wpListIn F nF Try.prog ops Q rest (a.put o.dst (.slice (some ⟨g, 0, none⟩) (xs.length + 1) cap)) w') :
    wpListIn F nF Try.prog ops Q (o :: rest) a W := by
  refine wpListIn_plain hgd fun K hK => ?_
  obtain ⟨g, cap, w', hr, h1⟩ := run_append_pt (W := W) o.type base v xs y hown ad hcell hl hbase
  unfold Oper.wpIn
  refine ⟨by simp [Oper.about, ho, resolve, Target.leads, Sem.run_pure], ?_⟩
  rw [Oper.semAt_plain F _ _ (by rw [ho]; intro c hc'; cases hc')]
  simp [execOp, ho, resolve, invoke, builtin, hs, hx, hr, Result.andThen]
  exact hK _ _ (h g cap w' h1)

/-- What the loop keeps: the row so far. -/
def QInv (base bx : Nat) (ps : List Silo.Pt) (B : Nat → Prop) (pre : List Silo.Pt) (W : World) : Prop :=
  ∃ v, W.heap[bx]? = some (.cells #[v] 58 (0, 0)) ∧ World.ptsAt W base v (ps ++ pre) ∧ ∀ k, B k ↔ k = bx ∨ v.ownBlock = some k

theorem QInv_stable (base bx : Nat) (ps : List Silo.Pt) : Stable (QInv base bx ps) := by
  rintro B pre A A' ⟨v, h1, h2, hB⟩ hlt hf
  exact ⟨v, (hf.block _ (heap_lt h1) (fun h => h ((hB _).2 (.inl rfl)))).trans h1, Fp.ownsRow hf h2 (fun k hk h => h ((hB k).2 (.inr hk))), hB⟩

theorem skeep {Wc w' : World} {o : Obj} {base sb : Nat} {v : Value} {L : List Silo.Pt} {x : Silo.Pt} {g cap : Nat} (hsb : Wc.heap[sb]? = some (.cells #[v] 58 (0, 0))) (hrow : World.ptsAt Wc base v L)
    (hA : PtAppended (Wc.alloc o) w' base v L x g cap) : w'.heap[sb]? = some (.cells #[v] 58 (0, 0)) :=
  (hA.foot.block sb (by simp; have := heap_lt hsb; omega) (fun h => pts_box_ne hrow h hsb (by decide) rfl)).trans (heap_old _ _ hsb)

theorem sround {Wq Wc w' : World} {base bx l' g cap : Nat} {Bi : Nat → Prop} {ps pre : List Silo.Pt} {x : Silo.Pt} {o o' : Obj} {v : Value}
    (hQ : Wc.heap[bx]? = some (.cells #[v] 58 (0, 0)) ∧ World.ptsAt Wc base v (ps ++ pre) ∧ (∀ k, Bi k ↔ k = bx ∨ v.ownBlock = some k) ∧ Fp (fun k => k = l') (Wq.alloc o') Wc)
    (hA : PtAppended (Wc.alloc o) w' base v (ps ++ pre) x g cap) (hsb : w'.heap[bx]? = some (.cells #[v] 58 (0, 0))) :
    ∃ B', QInv base bx ps B' (pre ++ [x]) (w'.setCell ⟨bx, 0, none⟩ (.slice (some ⟨g, 0, none⟩) ((ps ++ pre).length + 1) cap)) ∧
      Fp (fun k => Bi k ∨ Wq.heap.size ≤ k) Wc (w'.setCell ⟨bx, 0, none⟩ (.slice (some ⟨g, 0, none⟩) ((ps ++ pre).length + 1) cap)) ∧
      ∀ k, B' k → (Bi k ∨ Wq.heap.size ≤ k) ∧ k < (w'.setCell ⟨bx, 0, none⟩ (.slice (some ⟨g, 0, none⟩) ((ps ++ pre).length + 1) cap)).heap.size := by
  obtain ⟨hsbc, hrow, hBv, hfc⟩ := hQ
  have hs1 := hfc.size
  simp at hs1
  have hgb : g ≠ bx := pts_box_ne (ps := ps ++ pre ++ [x]) (by have := hA.row; exact this) rfl hsb (by decide)
  refine ⟨fun k => k = bx ∨ k = g, ⟨.slice (some ⟨g, 0, none⟩) ((ps ++ pre).length + 1) cap, heap_set hsb _, ?_, fun k => ?_⟩, ?_, ?_⟩
  · rw [← List.append_assoc]
    exact Fp.ownsRow (Fp.setCell (S := fun k => k = bx) w' _ _ rfl) hA.row (fun k hk e => by simp [Value.ownBlock] at hk; omega)
  · simp [Value.ownBlock, eq_comm]
  · have t1 : Fp (fun k => Bi k ∨ Wq.heap.size ≤ k) Wc w' := (Fp.alloc (fun _ => False) Wc o).trans hA.foot (fun _ h => h.elim) (fun k _ h => .inl ((hBv k).2 (.inr h)))
    exact t1.trans (Fp.setCell (S := fun k => k = bx) w' _ _ rfl) (fun _ h => h) (fun k _ e => .inl ((hBv k).2 (.inl e)))
  · have hsz : (w'.setCell ⟨bx, 0, none⟩ (.slice (some ⟨g, 0, none⟩) ((ps ++ pre).length + 1) cap)).heap.size = w'.heap.size := by simp [World.setCell]
    rw [hsz]
    rintro k (rfl | rfl)
    · exact ⟨.inl ((hBv _).2 (.inl rfl)), heap_lt hsb⟩
    · refine ⟨?_, hA.lt⟩
      rcases hA.lies with h | h
      · exact .inl ((hBv _).2 (.inr h))
      · right; simp at h; omega

set_option maxHeartbeats 1000000 in
set_option maxRecDepth 100000 in
theorem AppendSeq_in (n : Nat) (hn : 10 ≤ n) (base : Nat) (v : Value) (ps xs : List Silo.Pt) (gf : Nat) (lb : Array Value) (R T : Nat → Prop) (w : World)
    (hown : World.ptsAt w base v ps) (hb : base ≤ w.heap.size) (hen : ∀ args w, (callFunc gf args).run Try.prog w = .ok (.enter gf args) w)
    (hseq : SeqFp Fence.wide (n - 1) Try.prog gf lb (fun p => #[ptV p]) xs R T w (fun _ => True)) (hR : ∀ k, R k → k < w.heap.size) (hvR : ∀ k, v.ownBlock = some k → ¬ R k) (hl : ps.length + xs.length ≤ 1099511627776) :
    CallsIn Fence.wide n Try.prog 53 #[v, .func (.func gf) #[] lb] w fun e w' => ∃ v', e = .returned v' ∧
      Hid (World.ptsAt w' base v' (ps ++ xs) ∧ Fp (fun k => v.ownBlock = some k ∨ T k) w w' ∧ (∀ k, v'.ownBlock = some k → v.ownBlock = some k ∨ w.heap.size ≤ k)) := by
  refine callsIn_of_wp_marks Try.func53 rfl trivial ?_ rfl
  simp only [Try.ntmps53, List.size_toArray, List.length_cons, List.length_nil, Nat.reduceAdd, Nat.reduceSub, Array.replicate_succ, Array.replicate_zero, List.push_toArray, List.append_toArray, List.nil_append, List.cons_append]
  obtain ⟨av0, cv0, hv0⟩ := ptsAt_form hown
  obtain ⟨N0, hN0⟩ : ∃ N0, ps.length = N0 := ⟨_, rfl⟩
  rw [hN0] at hv0
  have HN0 : Hid _ := hN0
  rw [hN0] at hl
  subst hv0
  clear hN0
  obtain ⟨w1, hw1⟩ : ∃ w1, w.alloc (.cells #[.slice av0 N0 cv0] 58) = w1 := ⟨_, rfl⟩
  have hf1 : Fp (fun _ => False) w w1 := by rw [← hw1]; exact Fp.alloc _ _ _
  have hbx1 : w1.heap[w.heap.size]? = some (.cells #[.slice av0 N0 cv0] 58 (0, 0)) := by rw [← hw1]; exact heap_new _ _
  have hsz1 : w1.heap.size = w.heap.size + 1 := by rw [← hw1]; simp
  have hrow1 : World.ptsAt w1 base (.slice av0 N0 cv0) ps := Fp.ownsRow hf1 hown (fun _ _ h => h)
  have hlt : ∀ k, (Value.slice av0 N0 cv0).ownBlock = some k → k < w.heap.size := fun k hk => (World.ownsRow.lt hown k hk).2
  have HS : Hid _ := And.intro (hseq.up hf1) (And.intro hR (And.intro hvR (And.intro hbx1 (And.intro hrow1 (And.intro hf1 hlt)))))
  have HE : Hid _ := hen
  have HZ1 : Hid _ := hsz1
  clear hseq hR hvR hbx1 hrow1 hf1 hlt hown hen hsz1
  gi_wp2_with fail
  have HW1 : Hid _ := hw1
  clear hw1
  refine wpIn_rangeFp rfl (by omega) (gf := gf) (lb := lb) rfl trivial HE.out HS.out.1 (fun _ => rfl)
    (fun _ _ _ _ => trivial) ?hR (QInv base w.heap.size ps) (QInv_stable _ _ _) (fun k => k = w.heap.size ∨ (Value.slice av0 N0 cv0).ownBlock = some k) ?hB0 ?h0 ?hround ?hdone
  case hR => intro k hk; have := HS.out.2.1 k hk; have := HZ1.out; omega
  case hB0 =>
    rintro k (rfl | hk)
    · exact ⟨by have := HZ1.out; omega, fun h => by have := HS.out.2.1 _ h; omega⟩
    · exact ⟨by have := HZ1.out; have := HS.out.2.2.2.2.2.2 k hk; omega, HS.out.2.2.1 k hk⟩
  case h0 => exact ⟨_, HS.out.2.2.2.1, by rw [List.append_nil]; exact HS.out.2.2.2.2.1, fun k => Iff.rfl⟩
  case hround =>
    rintro l' Bi pre x Wq K' hl' hlt' hrec hnl hIq hBq hpre hK'
    have hpt : ptV x = .agg #[.int .i64 x.t, .int .u64 (x.v : Nat)] := rfl
    have HK' : Hid _ := hK'
    have HI : Hid _ := hpre
    clear hK' hIq hBq hpre hnl hrec
    gi_wp2
    refine HK'.out _ _ (Fp.alloc _ _ _) ?_
    rintro Wc hfc hrecc ⟨vc, hsbc, hrow, hBv⟩
    have hxb : Wc.heap[Wq.heap.size]? = some (.cells #[.int .i64 x.t, .int .u64 (x.v : Nat)] 80 (0, 0)) := (hfc.block _ (by simp) (by omega)).trans (heap_new _ _)
    have k0 : Wc.cell? ⟨Wq.heap.size, 0, none⟩ = some (.int .i64 x.t) := by simp [World.cell?, hxb]
    have k1 : Wc.cell? ⟨Wq.heap.size, 1, none⟩ = some (.int .u64 (x.v : Nat)) := by simp [World.cell?, hxb]
    have k3 : Wc.cell? ⟨w.heap.size, 0, none⟩ = some vc := by simp [World.cell?, hsbc]
    have hlen : (ps ++ pre).length ≤ 1099511627776 := by
      have h1 := List.IsPrefix.length_le HI.out
      have h2 := HN0.out
      simp at h1 ⊢
      omega
    have hszc : w.heap.size < Wc.heap.size := heap_lt hsbc
    have hob : vc.oneCell' = true := by
      obtain ⟨a, c, rfl⟩ := ptsAt_form hrow
      rfl
    have HQ : Hid _ := And.intro hsbc (And.intro hrow (And.intro hBv hfc))
    obtain ⟨av, cv, rfl⟩ := ptsAt_form hrow
    obtain ⟨L, hL⟩ : ∃ L, ps ++ pre = L := ⟨_, rfl⟩
    rw [hL] at HQ hlen k3
    have HL : Hid _ := hL
    clear hL hsbc hBv hfc hxb hpt HK' hrecc hrow hob
    gi_wp2_with (gi_at_builtin; refine wpListIn_append_pt rfl _ _ rfl base (.slice av L.length cv) L x rfl ?c1 ⟨Wc.heap.size, 0, none⟩ rfl ?c2 ?c3 ?c4 ?_; rotate_left 4; intro g cap w' HA; have hsb' : Hid (w'.heap[w.heap.size]? = some (.cells #[.slice av L.length cv] 58 (0, 0))) := skeep HQ.out.1 HQ.out.2.1 HA.out; have kc' : w'.cell? ⟨w.heap.size, 0, none⟩ = some (.slice av L.length cv) := (by simp [World.cell?, hsb'.out]); have kf' : w'.frozen? ⟨w.heap.size, 0, none⟩ = false := (by simp [World.frozen?, hsb'.out]))
    case c1 => exact World.ownsRow.alloc HQ.out.2.1 _
    case c2 => exact pt_new Wc x _
    case c3 => exact hlen
    case c4 => simp; omega
    have e1 := HL.out
    subst e1
    exact sround HQ.out HA.out hsb'.out
  case hdone =>
    rintro D Bf Wf hD ⟨vf, hbf, hrowf, hBf'⟩ hff hBf hnD _ hdef
    obtain ⟨af, cf, rfl⟩ := ptsAt_form hrowf
    have k6 : Wf.cell? ⟨w.heap.size, 0, none⟩ = some (.slice af (ps ++ xs).length cf) := by simp [World.cell?, hbf]
    have HZ : Hid _ := And.intro hrowf (And.intro hff (And.intro hBf (And.intro hnD (And.intro hdef hBf'))))
    clear hbf hrowf hff hBf hnD hdef hBf'
    gi_wp2
    obtain ⟨hrowf, hff, hBf, hnD, hdef, hBf'⟩ := HZ.out
    refine ⟨by simp, .inl ⟨D, _, rfl, run_takeDeferred hdef, ?_⟩⟩
    have hfD : Fp (fun k => k = D) Wf (Wf.putObj D (.deferred none)) := Fp.putObj _ _ _ rfl
    have hs1 := HZ1.out
    refine ⟨_, results_tmp rfl _ _ _, .slice af (ps ++ xs).length cf, ret_val (by simp), ?_, ?_, ?_⟩
    · exact Fp.ownsRow hfD hrowf (fun k hk e => hnD (e ▸ (hBf' k).2 (.inr hk)))
    · have t2 : Fp (fun k => (Value.slice av0 N0 cv0).ownBlock = some k ∨ T k) w Wf := HS.out.2.2.2.2.2.1.trans hff (fun _ h => h.elim) (fun k hk h => by
        rcases h with (h | h) | h
        · omega
        · exact .inl h
        · exact .inr h)
      exact t2.trans hfD (fun _ h => h) (fun k hk e => by omega)
    · intro k hk
      rcases (hBf k ((hBf' k).2 (.inr hk))).1 with (h | h) | h
      · right; omega
      · exact .inl h
      · right; omega

end Go.Proofs.Ytojjkjfcbfoinaa
