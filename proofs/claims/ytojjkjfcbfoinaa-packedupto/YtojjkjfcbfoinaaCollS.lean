/- slices.AppendSeq and slices.Collect over samples: what an iterator hands on is appended to a row of the call's own. -/
import Derived.Test.YtojjkjfcbfoinaaSmpRows
import Derived.RegionIn
namespace Go.Proofs.Ytojjkjfcbfoinaa
open Go.RowKit Go.Shelf

attribute [local go_sem] Oper.semAt_some

theorem SeqFp.upE {α : Type} {F : Fence} {n : Nat} {P : Program} {g : Nat} {lb : Array Value} {encs : α → Array Value} {xs : List α} {R T : Nat → Prop} {w w1 : World} {E : World → Prop}
    (h : SeqFp F n P g lb encs xs R T w E) (hf : Fp (fun _ => False) w w1) : SeqFp F n P g lb encs xs R T w1 E :=
  fun l J B W hW => h l J B W (hf.trans' hW)

theorem smpsAt_form {w : World} {base : Nat} {v : Value} {ps : List Silo.Smp} (h : World.smpsAt w base v ps) : ∃ a c, v = .slice a ps.length c := by
  rcases h.2 with ⟨h1, h2⟩ | ⟨g, cap, cur, h3, _⟩
  · exact ⟨none, 0, by rw [h1, h2]⟩
  · exact ⟨_, _, h3⟩

theorem smps_box_ne {W : World} {base k j : Nat} {v : Value} {ps : List Silo.Smp} {c : Array Value} {t : TypeId} {f : Nat × Nat} (hp : World.smpsAt W base v ps) (hv : v.ownBlock = some j) (hk : W.heap[k]? = some (.cells c t f)) (ht : t ≠ 42) : j ≠ k := by
  rcases hp.2 with ⟨h1, _⟩ | ⟨g', cap', cur, h3, _, h5, _⟩
  · rw [h1] at hv; cases hv
  · rw [h3] at hv
    simp only [Value.ownBlock, Option.some.injEq] at hv
    subst hv
    rintro rfl
    rw [hk] at h5
    simp only [Option.some.injEq, Obj.cells.injEq] at h5
    exact ht h5.2.1

/-- What the loop keeps: the row so far. -/
def TInv (base bx : Nat) (ps : List Silo.Smp) (B : Nat → Prop) (pre : List Silo.Smp) (W : World) : Prop :=
  ∃ v, W.heap[bx]? = some (.cells #[v] 22 (0, 0)) ∧ World.smpsAt W base v (ps ++ pre) ∧ ∀ k, B k ↔ k = bx ∨ v.ownBlock = some k

theorem TInv_stable (base bx : Nat) (ps : List Silo.Smp) : Stable (TInv base bx ps) := by
  rintro B pre A A' ⟨v, h1, h2, hB⟩ hlt hf
  exact ⟨v, (hf.block _ (heap_lt h1) (fun h => h ((hB _).2 (.inl rfl)))).trans h1, Fp.ownsRow hf h2 (fun k hk h => h ((hB k).2 (.inr hk))), hB⟩

theorem tkeep {Wc w' : World} {o : Obj} {base sb : Nat} {v : Value} {L : List Silo.Smp} {x : Silo.Smp} {g cap : Nat} (hsb : Wc.heap[sb]? = some (.cells #[v] 22 (0, 0))) (hrow : World.smpsAt Wc base v L)
    (hA : Appended (Wc.alloc o) w' base v L x g cap) : w'.heap[sb]? = some (.cells #[v] 22 (0, 0)) :=
  (hA.foot.block sb (by simp; have := heap_lt hsb; omega) (fun h => smps_box_ne hrow h hsb (by decide) rfl)).trans (heap_old _ _ hsb)

theorem tround {Wq Wc w' : World} {base bx l' g cap : Nat} {Bi : Nat → Prop} {ps pre : List Silo.Smp} {x : Silo.Smp} {o o' : Obj} {v : Value}
    (hQ : Wc.heap[bx]? = some (.cells #[v] 22 (0, 0)) ∧ World.smpsAt Wc base v (ps ++ pre) ∧ (∀ k, Bi k ↔ k = bx ∨ v.ownBlock = some k) ∧ Fp (fun k => k = l') (Wq.alloc o') Wc)
    (hA : Appended (Wc.alloc o) w' base v (ps ++ pre) x g cap) (hsb : w'.heap[bx]? = some (.cells #[v] 22 (0, 0))) :
    ∃ B', TInv base bx ps B' (pre ++ [x]) (w'.setCell ⟨bx, 0, none⟩ (.slice (some ⟨g, 0, none⟩) ((ps ++ pre).length + 1) cap)) ∧
      Fp (fun k => Bi k ∨ Wq.heap.size ≤ k) Wc (w'.setCell ⟨bx, 0, none⟩ (.slice (some ⟨g, 0, none⟩) ((ps ++ pre).length + 1) cap)) ∧
      ∀ k, B' k → (Bi k ∨ Wq.heap.size ≤ k) ∧ k < (w'.setCell ⟨bx, 0, none⟩ (.slice (some ⟨g, 0, none⟩) ((ps ++ pre).length + 1) cap)).heap.size := by
  obtain ⟨hsbc, hrow, hBv, hfc⟩ := hQ
  have hs1 := hfc.size
  simp at hs1
  have hgb : g ≠ bx := smps_box_ne (ps := ps ++ pre ++ [x]) (by have := hA.row; exact this) rfl hsb (by decide)
  refine ⟨fun k => k = bx ∨ k = g, ⟨.slice (some ⟨g, 0, none⟩) ((ps ++ pre).length + 1) cap, heap_set hsb _, ?_, fun k => ?_⟩, ?_, ?_⟩
  · rw [← List.append_assoc]
    exact Fp.ownsRow (Fp.setCell (S := fun k => k = bx) w' _ _ rfl) hA.row (fun k hk e => by simp [Value.ownBlock] at hk; omega)
  · simp [Value.ownBlock, eq_comm]
  · have t1 : Fp (fun k => Bi k ∨ Wq.heap.size ≤ k) Wc w' := (Fp.alloc (fun _ => False) Wc o).trans hA.foot (fun _ h => h.elim) (fun k _ h => .inl ((hBv k).2 (.inr h)))
    exact t1.trans (Fp.setCell (S := fun k => k = bx) w' _ _ rfl) (fun _ h => h) (fun k _ e => .inl ((hBv k).2 (.inl e)))
  · have hsz : (w'.setCell ⟨bx, 0, none⟩ (.slice (some ⟨g, 0, none⟩) ((ps ++ pre).length + 1) cap)).heap.size = w'.heap.size := by simp [World.setCell]
    rw [hsz]
    rintro k (rfl | rfl)
    · exact ⟨.inl ((hBv _).2 (.inl rfl)), heap_lt hsb⟩
    · refine ⟨?_, hA.lt⟩
      rcases hA.lies with h | h
      · exact .inl ((hBv _).2 (.inr h))
      · right; simp at h; omega

set_option maxHeartbeats 1000000 in
set_option maxRecDepth 100000 in
theorem AppendSeqS_in (n : Nat) (hn : 10 ≤ n) (base : Nat) (v : Value) (ps xs : List Silo.Smp) (gf : Nat) (lb : Array Value) (R T : Nat → Prop) (E : World → Prop) (w : World)
    (hown : World.smpsAt w base v ps) (hb : base ≤ w.heap.size) (hen : ∀ args w, (callFunc gf args).run Try.prog w = .ok (.enter gf args) w)
    (hseq : SeqFp Fence.wide (n - 1) Try.prog gf lb (fun p => #[smpV p]) xs R T w E) (hE : ∀ A A', E A → Fp (fun k => ¬ R k) A A' → E A') (hR : ∀ k, R k → k < w.heap.size) (hvR : ∀ k, v.ownBlock = some k → ¬ R k) (hl : ps.length + xs.length ≤ 1099511627776) :
    CallsIn Fence.wide n Try.prog 63 #[v, .func (.func gf) #[] lb] w fun e w' => ∃ v', e = .returned v' ∧
      Hid (World.smpsAt w' base v' (ps ++ xs) ∧ Fp (fun k => v.ownBlock = some k ∨ T k) w w' ∧ (∀ k, v'.ownBlock = some k → v.ownBlock = some k ∨ w.heap.size ≤ k) ∧ E w') := by
  refine callsIn_of_wp_marks Try.func63 rfl trivial ?_ rfl
  simp only [Try.ntmps63, List.size_toArray, List.length_cons, List.length_nil, Nat.reduceAdd, Nat.reduceSub, Array.replicate_succ, Array.replicate_zero, List.push_toArray, List.append_toArray, List.nil_append, List.cons_append]
  obtain ⟨av0, cv0, hv0⟩ := smpsAt_form hown
  obtain ⟨N0, hN0⟩ : ∃ N0, ps.length = N0 := ⟨_, rfl⟩
  rw [hN0] at hv0
  have HN0 : Hid _ := hN0
  rw [hN0] at hl
  subst hv0
  clear hN0
  obtain ⟨w1, hw1⟩ : ∃ w1, w.alloc (.cells #[.slice av0 N0 cv0] 22) = w1 := ⟨_, rfl⟩
  have hf1 : Fp (fun _ => False) w w1 := by rw [← hw1]; exact Fp.alloc _ _ _
  have hbx1 : w1.heap[w.heap.size]? = some (.cells #[.slice av0 N0 cv0] 22 (0, 0)) := by rw [← hw1]; exact heap_new _ _
  have hsz1 : w1.heap.size = w.heap.size + 1 := by rw [← hw1]; simp
  have hrow1 : World.smpsAt w1 base (.slice av0 N0 cv0) ps := Fp.ownsRow hf1 hown (fun _ _ h => h)
  have hlt : ∀ k, (Value.slice av0 N0 cv0).ownBlock = some k → k < w.heap.size := fun k hk => (World.ownsRow.lt hown k hk).2
  have HS : Hid _ := And.intro (hseq.upE hf1) (And.intro hR (And.intro hvR (And.intro hbx1 (And.intro hrow1 (And.intro hf1 hlt)))))
  have HE : Hid _ := And.intro hen hE
  have HZ1 : Hid _ := hsz1
  clear hseq hR hvR hbx1 hrow1 hf1 hlt hown hen hE hsz1
  gi_wp2_with fail
  have HW1 : Hid _ := hw1
  clear hw1
  refine wpIn_rangeFp rfl (by omega) (gf := gf) (lb := lb) rfl trivial HE.out.1 HS.out.1 (fun _ => rfl)
    HE.out.2 ?hR (TInv base w.heap.size ps) (TInv_stable _ _ _) (fun k => k = w.heap.size ∨ (Value.slice av0 N0 cv0).ownBlock = some k) ?hB0 ?h0 ?hround ?hdone
  case hR => intro k hk; have := HS.out.2.1 k hk; have := HZ1.out; omega
  case hB0 =>
    rintro k (rfl | hk)
    · exact ⟨by have := HZ1.out; omega, fun h => by have := HS.out.2.1 _ h; omega⟩
    · exact ⟨by have := HZ1.out; have := HS.out.2.2.2.2.2.2 k hk; omega, HS.out.2.2.1 k hk⟩
  case h0 => exact ⟨_, HS.out.2.2.2.1, by rw [List.append_nil]; exact HS.out.2.2.2.2.1, fun k => Iff.rfl⟩
  case hround =>
    rintro l' Bi pre x Wq K' hl' hlt' hrec hnl hIq hBq hpre hK'
    have hpt : smpV x = .agg #[.int .i64 x.s, .int .i64 x.t, .int .u64 (x.v : Nat)] := rfl
    have HK' : Hid _ := hK'
    have HI : Hid _ := hpre
    clear hK' hIq hBq hpre hnl hrec
    gi_wp2
    refine HK'.out _ _ (Fp.alloc _ _ _) ?_
    rintro Wc hfc hrecc ⟨vc, hsbc, hrow, hBv⟩
    have hxb : Wc.heap[Wq.heap.size]? = some (.cells #[.int .i64 x.s, .int .i64 x.t, .int .u64 (x.v : Nat)] 42 (0, 0)) := (hfc.block _ (by simp) (by omega)).trans (heap_new _ _)
    have k0 : Wc.cell? ⟨Wq.heap.size, 0, none⟩ = some (.int .i64 x.s) := by simp [World.cell?, hxb]
    have k1 : Wc.cell? ⟨Wq.heap.size, 1, none⟩ = some (.int .i64 x.t) := by simp [World.cell?, hxb]
    have k2 : Wc.cell? ⟨Wq.heap.size, 2, none⟩ = some (.int .u64 (x.v : Nat)) := by simp [World.cell?, hxb]
    have k3 : Wc.cell? ⟨w.heap.size, 0, none⟩ = some vc := by simp [World.cell?, hsbc]
    have hlen : (ps ++ pre).length ≤ 1099511627776 := by
      have h1 := List.IsPrefix.length_le HI.out
      have h2 := HN0.out
      simp at h1 ⊢
      omega
    have hszc : w.heap.size < Wc.heap.size := heap_lt hsbc
    have hob : vc.oneCell' = true := by
      obtain ⟨a, c, rfl⟩ := smpsAt_form hrow
      rfl
    have HQ : Hid _ := And.intro hsbc (And.intro hrow (And.intro hBv hfc))
    obtain ⟨av, cv, rfl⟩ := smpsAt_form hrow
    obtain ⟨L, hL⟩ : ∃ L, ps ++ pre = L := ⟨_, rfl⟩
    rw [hL] at HQ hlen k3
    have HL : Hid _ := hL
    clear hL hsbc hBv hfc hxb hpt HK' hrecc hrow hob
    gi_wp2_with (gi_at_builtin; refine wpListIn_append_smp rfl _ _ rfl base (.slice av L.length cv) L x rfl ?c1 ⟨Wc.heap.size, 0, none⟩ rfl ?c2 ?c3 ?c4 ?_; rotate_left 4; intro g cap w' HA; have hsb' : Hid (w'.heap[w.heap.size]? = some (.cells #[.slice av L.length cv] 22 (0, 0))) := tkeep HQ.out.1 HQ.out.2.1 HA.out; have kc' : w'.cell? ⟨w.heap.size, 0, none⟩ = some (.slice av L.length cv) := (by simp [World.cell?, hsb'.out]); have kf' : w'.frozen? ⟨w.heap.size, 0, none⟩ = false := (by simp [World.frozen?, hsb'.out]))
    case c1 => exact World.ownsRow.alloc HQ.out.2.1 _
    case c2 => exact smp_new Wc x _
    case c3 => exact hlen
    case c4 => simp; omega
    have e1 := HL.out
    subst e1
    exact tround HQ.out HA.out hsb'.out
  case hdone =>
    rintro D Bf Wf hD ⟨vf, hbf, hrowf, hBf'⟩ hff hBf hnD hEf hdef
    obtain ⟨af, cf, rfl⟩ := smpsAt_form hrowf
    have k6 : Wf.cell? ⟨w.heap.size, 0, none⟩ = some (.slice af (ps ++ xs).length cf) := by simp [World.cell?, hbf]
    have HZ : Hid _ := And.intro hrowf (And.intro hff (And.intro hBf (And.intro hnD (And.intro hdef (And.intro hBf' hEf)))))
    clear hbf hrowf hff hBf hnD hdef hBf' hEf
    gi_wp2
    obtain ⟨hrowf, hff, hBf, hnD, hdef, hBf', hEf⟩ := HZ.out
    refine ⟨by simp, .inl ⟨D, _, rfl, run_takeDeferred hdef, ?_⟩⟩
    have hfD : Fp (fun k => k = D) Wf (Wf.putObj D (.deferred none)) := Fp.putObj _ _ _ rfl
    have hs1 := HZ1.out
    refine ⟨_, results_tmp rfl _ _ _, .slice af (ps ++ xs).length cf, ret_val (by simp), ?_, ?_, ?_, ?_⟩
    · exact Fp.ownsRow hfD hrowf (fun k hk e => hnD (e ▸ (hBf' k).2 (.inr hk)))
    · have t2 : Fp (fun k => (Value.slice av0 N0 cv0).ownBlock = some k ∨ T k) w Wf := HS.out.2.2.2.2.2.1.trans hff (fun _ h => h.elim) (fun k hk h => by
        rcases h with (h | h) | h
        · omega
        · exact .inl h
        · exact .inr h)
      exact t2.trans hfD (fun _ h => h) (fun k hk e => by omega)
    · intro k hk
      rcases (hBf k ((hBf' k).2 (.inr hk))).1 with (h | h) | h
      · right; omega
      · exact .inl h
      · right; omega
    · exact HE.out.2 _ _ hEf (hfD.mono (fun k _ e h => by have := HS.out.2.1 k h; omega))

set_option maxHeartbeats 1000000 in
theorem CollectS_in (n : Nat) (hn : 11 ≤ n) (xs : List Silo.Smp) (gf : Nat) (lb : Array Value) (R T : Nat → Prop) (E : World → Prop) (w : World)
    (hen : ∀ args w, (callFunc gf args).run Try.prog w = .ok (.enter gf args) w)
    (hseq : SeqFp Fence.wide (n - 2) Try.prog gf lb (fun p => #[smpV p]) xs R T w E) (hE : ∀ A A', E A → Fp (fun k => ¬ R k) A A' → E A') (hR : ∀ k, R k → k < w.heap.size) (hl : xs.length ≤ 1099511627776) :
    CallsIn Fence.wide n Try.prog 44 #[.func (.func gf) #[] lb] w fun e w' => ∃ v', e = .returned v' ∧ Hid (World.smpsAt w' w.heap.size v' xs ∧ Fp T w w' ∧ E w') := by
  refine callsIn_of_wp_marks Try.func44 rfl trivial ?_ rfl
  simp only [Try.ntmps44, List.size_toArray, List.length_cons, List.length_nil, Nat.reduceAdd, Nat.reduceSub, Array.replicate_succ, Array.replicate_zero, List.push_toArray, List.append_toArray, List.nil_append, List.cons_append]
  gi_wp2_with fail
  refine ⟨trivial, fun _ => by omega, (AppendSeqS_in (n - 1) (by omega) w.heap.size (.slice none 0 0) [] xs gf lb R T E w ?h1 (Nat.le_refl _) hen hseq hE hR (fun k h => by cases h) (by simpa using hl)).mono ?_⟩
  case h1 => exact ⟨rfl, .inl ⟨rfl, rfl⟩⟩
  rintro e w1 ⟨v', rfl, H⟩
  obtain ⟨a, c, rfl⟩ := smpsAt_form H.out.1
  gi_wp2
  exact ⟨_, results_tmp rfl _ _ _, _, ret_val (by simp), H.out.1, H.out.2.1.mono (fun k _ h => h.elim (fun h => by cases h) id), H.out.2.2.2⟩

end Go.Proofs.Ytojjkjfcbfoinaa
