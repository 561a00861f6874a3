/- CollS, Decode, in one text. -/
import Derived.Test.YtbimkgmhfcgpmaaGreatDoorRowOne
import Derived.RegionIn
import Derived.Test.YtbimkgmhfcgpmaaGreatDoorSealed

/- slices.AppendSeq and slices.Collect over samples: what an iterator hands on is appended to a row of the call's own. -/
namespace Go.Proofs.YtbimkgmhfcgpmaaGreatDoor
open Go.RowKit Go.Shelf
attribute [local go_sem] Oper.semAt_some

theorem SeqFp.upE {α : Type} {F : Fence} {n : Nat} {P : Program} {g : Nat} {lb : Array Value} {encs : α → Array Value} {xs : List α} {R T : Nat → Prop} {w w1 : World} {E : World → Prop}
    (h : SeqFp F n P g lb encs xs R T w E) (hf : Fp (fun _ => False) w w1) : SeqFp F n P g lb encs xs R T w1 E :=
  fun l J B W hW => h l J B W (hf.trans' hW)

theorem smpsAt_form {w : World} {base : Nat} {v : Value} {ps : List Silo.Smp} (h : World.smpsAt w base v ps) : ∃ a c, v = .slice a ps.length c := by
  rcases h.2 with ⟨h1, h2⟩ | ⟨g, cap, cur, h3, _⟩
  · exact ⟨none, 0, by rw [h1, h2]⟩
  · exact ⟨_, _, h3⟩

theorem smps_box_ne {W : World} {base k j : Nat} {v : Value} {ps : List Silo.Smp} {c : Array Value} {t : TypeId} {f : Nat × Nat} (hp : World.smpsAt W base v ps) (hv : v.ownBlock = some j) (hk : W.heap[k]? = some (.cells c t f)) (ht : t ≠ 118) : j ≠ k := by
  rcases hp.2 with ⟨h1, _⟩ | ⟨g', cap', cur, h3, _, h5, _⟩
  · rw [h1] at hv; cases hv
  · rw [h3] at hv
    simp only [Value.ownBlock, Option.some.injEq] at hv
    subst hv
    rintro rfl
    rw [hk] at h5
    simp only [Option.some.injEq, Obj.cells.injEq] at h5
    exact ht h5.2.1

/-- What the loop keeps: the row so far. -/
def TInv (base bx : Nat) (ps : List Silo.Smp) (B : Nat → Prop) (pre : List Silo.Smp) (W : World) : Prop :=
  ∃ v, W.heap[bx]? = some (.cells #[v] 92 (0, 0)) ∧ World.smpsAt W base v (ps ++ pre) ∧ ∀ k, B k ↔ k = bx ∨ v.ownBlock = some k

theorem TInv_stable (base bx : Nat) (ps : List Silo.Smp) : Stable (TInv base bx ps) := by
  rintro B pre A A' ⟨v, h1, h2, hB⟩ hlt hf
  exact ⟨v, (hf.block _ (heap_lt h1) (fun h => h ((hB _).2 (.inl rfl)))).trans h1, Fp.ownsRow hf h2 (fun k hk h => h ((hB k).2 (.inr hk))), hB⟩

theorem tkeep {Wc w' : World} {o : Obj} {base sb : Nat} {v : Value} {L : List Silo.Smp} {x : Silo.Smp} {g cap : Nat} (hsb : Wc.heap[sb]? = some (.cells #[v] 92 (0, 0))) (hrow : World.smpsAt Wc base v L)
    (hA : Appended (Wc.alloc o) w' base v L x g cap) : w'.heap[sb]? = some (.cells #[v] 92 (0, 0)) :=
  (hA.foot.block sb (by simp; have := heap_lt hsb; omega) (fun h => smps_box_ne hrow h hsb (by decide) rfl)).trans (heap_old _ _ hsb)

theorem tround {Wq Wc w' : World} {base bx l' g cap : Nat} {Bi : Nat → Prop} {ps pre : List Silo.Smp} {x : Silo.Smp} {o o' : Obj} {v : Value}
    (hQ : Wc.heap[bx]? = some (.cells #[v] 92 (0, 0)) ∧ World.smpsAt Wc base v (ps ++ pre) ∧ (∀ k, Bi k ↔ k = bx ∨ v.ownBlock = some k) ∧ Fp (fun k => k = l') (Wq.alloc o') Wc)
    (hA : Appended (Wc.alloc o) w' base v (ps ++ pre) x g cap) (hsb : w'.heap[bx]? = some (.cells #[v] 92 (0, 0))) :
    ∃ B', TInv base bx ps B' (pre ++ [x]) (w'.setCell ⟨bx, 0, none⟩ (.slice (some ⟨g, 0, none⟩) ((ps ++ pre).length + 1) cap)) ∧
      Fp (fun k => Bi k ∨ Wq.heap.size ≤ k) Wc (w'.setCell ⟨bx, 0, none⟩ (.slice (some ⟨g, 0, none⟩) ((ps ++ pre).length + 1) cap)) ∧
      ∀ k, B' k → (Bi k ∨ Wq.heap.size ≤ k) ∧ k < (w'.setCell ⟨bx, 0, none⟩ (.slice (some ⟨g, 0, none⟩) ((ps ++ pre).length + 1) cap)).heap.size := by
  obtain ⟨hsbc, hrow, hBv, hfc⟩ := hQ
  have hs1 := hfc.size
  simp at hs1
  have hgb : g ≠ bx := smps_box_ne (ps := ps ++ pre ++ [x]) (by have := hA.row; exact this) rfl hsb (by decide)
  refine ⟨fun k => k = bx ∨ k = g, ⟨.slice (some ⟨g, 0, none⟩) ((ps ++ pre).length + 1) cap, heap_set hsb _, ?_, fun k => ?_⟩, ?_, ?_⟩
  · rw [← List.append_assoc]
    exact Fp.ownsRow (Fp.setCell (S := fun k => k = bx) w' _ _ rfl) hA.row (fun k hk e => by simp [Value.ownBlock] at hk; omega)
  · simp [Value.ownBlock, eq_comm]
  · have t1 : Fp (fun k => Bi k ∨ Wq.heap.size ≤ k) Wc w' := (Fp.alloc (fun _ => False) Wc o).trans hA.foot (fun _ h => h.elim) (fun k _ h => .inl ((hBv k).2 (.inr h)))
    exact t1.trans (Fp.setCell (S := fun k => k = bx) w' _ _ rfl) (fun _ h => h) (fun k _ e => .inl ((hBv k).2 (.inl e)))
  · have hsz : (w'.setCell ⟨bx, 0, none⟩ (.slice (some ⟨g, 0, none⟩) ((ps ++ pre).length + 1) cap)).heap.size = w'.heap.size := by simp [World.setCell]
    rw [hsz]
    rintro k (rfl | rfl)
    · exact ⟨.inl ((hBv _).2 (.inl rfl)), heap_lt hsb⟩
    · refine ⟨?_, hA.lt⟩
      rcases hA.lies with h | h
      · exact .inl ((hBv _).2 (.inr h))
      · right; simp at h; omega

set_option maxHeartbeats 1000000 in
set_option maxRecDepth 100000 in
theorem AppendSeqS_in (n : Nat) (hn : 10 ≤ n) (base : Nat) (v : Value) (ps xs : List Silo.Smp) (gf : Nat) (lb : Array Value) (R T : Nat → Prop) (E : World → Prop) (w : World)
    (hown : World.smpsAt w base v ps) (hb : base ≤ w.heap.size) (hen : ∀ args w, (callFunc gf args).run Tryz.prog w = .ok (.enter gf args) w)
    (hseq : SeqFp Fence.wide (n - 1) Tryz.prog gf lb (fun p => #[smpV p]) xs R T w E) (hE : ∀ A A', E A → Fp (fun k => ¬ R k) A A' → E A') (hR : ∀ k, R k → k < w.heap.size) (hvR : ∀ k, v.ownBlock = some k → ¬ R k) (hl : ps.length + xs.length ≤ 1099511627776) :
    CallsIn Fence.wide n Tryz.prog 84 #[v, .func (.func gf) #[] lb] w fun e w' => ∃ v', e = .returned v' ∧
      Hid (World.smpsAt w' base v' (ps ++ xs) ∧ Fp (fun k => v.ownBlock = some k ∨ T k) w w' ∧ (∀ k, v'.ownBlock = some k → v.ownBlock = some k ∨ w.heap.size ≤ k) ∧ E w') := by
  refine callsIn_of_wp_marks Tryz.func84 rfl trivial ?_ rfl
  simp only [Tryz.ntmps84, List.size_toArray, List.length_cons, List.length_nil, Nat.reduceAdd, Nat.reduceSub, Array.replicate_succ, Array.replicate_zero, List.push_toArray, List.append_toArray, List.nil_append, List.cons_append]
  obtain ⟨av0, cv0, hv0⟩ := smpsAt_form hown
  obtain ⟨N0, hN0⟩ : ∃ N0, ps.length = N0 := ⟨_, rfl⟩
  rw [hN0] at hv0
  have HN0 : Hid _ := hN0
  rw [hN0] at hl
  subst hv0
  clear hN0
  obtain ⟨w1, hw1⟩ : ∃ w1, w.alloc (.cells #[.slice av0 N0 cv0] 92) = w1 := ⟨_, rfl⟩
  have hf1 : Fp (fun _ => False) w w1 := by rw [← hw1]; exact Fp.alloc _ _ _
  have hbx1 : w1.heap[w.heap.size]? = some (.cells #[.slice av0 N0 cv0] 92 (0, 0)) := by rw [← hw1]; exact heap_new _ _
  have hsz1 : w1.heap.size = w.heap.size + 1 := by rw [← hw1]; simp
  have hrow1 : World.smpsAt w1 base (.slice av0 N0 cv0) ps := Fp.ownsRow hf1 hown (fun _ _ h => h)
  have hlt : ∀ k, (Value.slice av0 N0 cv0).ownBlock = some k → k < w.heap.size := fun k hk => (World.ownsRow.lt hown k hk).2
  have HS : Hid _ := And.intro (hseq.upE hf1) (And.intro hR (And.intro hvR (And.intro hbx1 (And.intro hrow1 (And.intro hf1 hlt)))))
  have HE : Hid _ := And.intro hen hE
  have HZ1 : Hid _ := hsz1
  clear hseq hR hvR hbx1 hrow1 hf1 hlt hown hen hE hsz1
  gi_wp2_with fail
  have HW1 : Hid _ := hw1
  clear hw1
  refine wpIn_rangeFp rfl (by omega) (gf := gf) (lb := lb) rfl trivial HE.out.1 HS.out.1 (fun _ => rfl)
    HE.out.2 ?hR (TInv base w.heap.size ps) (TInv_stable _ _ _) (fun k => k = w.heap.size ∨ (Value.slice av0 N0 cv0).ownBlock = some k) ?hB0 ?h0 ?hround ?hdone
  case hR => intro k hk; have := HS.out.2.1 k hk; have := HZ1.out; omega
  case hB0 =>
    rintro k (rfl | hk)
    · exact ⟨by have := HZ1.out; omega, fun h => by have := HS.out.2.1 _ h; omega⟩
    · exact ⟨by have := HZ1.out; have := HS.out.2.2.2.2.2.2 k hk; omega, HS.out.2.2.1 k hk⟩
  case h0 => exact ⟨_, HS.out.2.2.2.1, by rw [List.append_nil]; exact HS.out.2.2.2.2.1, fun k => Iff.rfl⟩
  case hround =>
    rintro l' Bi pre x Wq K' hl' hlt' hrec hnl hIq hBq hpre hK'
    have hpt : smpV x = .agg #[.int .i64 x.s, .int .i64 x.t, .int .u64 (x.v : Nat)] := rfl
    have HK' : Hid _ := hK'
    have HI : Hid _ := hpre
    clear hK' hIq hBq hpre hnl hrec
    gi_wp2
    refine HK'.out _ _ (Fp.alloc _ _ _) ?_
    rintro Wc hfc hrecc ⟨vc, hsbc, hrow, hBv⟩
    have hxb : Wc.heap[Wq.heap.size]? = some (.cells #[.int .i64 x.s, .int .i64 x.t, .int .u64 (x.v : Nat)] 118 (0, 0)) := (hfc.block _ (by simp) (by omega)).trans (heap_new _ _)
    have k0 : Wc.cell? ⟨Wq.heap.size, 0, none⟩ = some (.int .i64 x.s) := by simp [World.cell?, hxb]
    have k1 : Wc.cell? ⟨Wq.heap.size, 1, none⟩ = some (.int .i64 x.t) := by simp [World.cell?, hxb]
    have k2 : Wc.cell? ⟨Wq.heap.size, 2, none⟩ = some (.int .u64 (x.v : Nat)) := by simp [World.cell?, hxb]
    have k3 : Wc.cell? ⟨w.heap.size, 0, none⟩ = some vc := by simp [World.cell?, hsbc]
    have hlen : (ps ++ pre).length ≤ 1099511627776 := by
      have h1 := List.IsPrefix.length_le HI.out
      have h2 := HN0.out
      simp at h1 ⊢
      omega
    have hszc : w.heap.size < Wc.heap.size := heap_lt hsbc
    have hob : vc.oneCell' = true := by
      obtain ⟨a, c, rfl⟩ := smpsAt_form hrow
      rfl
    have HQ : Hid _ := And.intro hsbc (And.intro hrow (And.intro hBv hfc))
    obtain ⟨av, cv, rfl⟩ := smpsAt_form hrow
    obtain ⟨L, hL⟩ : ∃ L, ps ++ pre = L := ⟨_, rfl⟩
    rw [hL] at HQ hlen k3
    have HL : Hid _ := hL
    clear hL hsbc hBv hfc hxb hpt HK' hrecc hrow hob
    gi_wp2_with (gi_at_builtin; refine wpListIn_append_smp rfl _ _ rfl base (.slice av L.length cv) L x rfl ?c1 ⟨Wc.heap.size, 0, none⟩ rfl ?c2 ?c3 ?c4 ?_; rotate_left 4; intro g cap w' HA; have hsb' : Hid (w'.heap[w.heap.size]? = some (.cells #[.slice av L.length cv] 92 (0, 0))) := tkeep HQ.out.1 HQ.out.2.1 HA.out; have kc' : w'.cell? ⟨w.heap.size, 0, none⟩ = some (.slice av L.length cv) := (by simp [World.cell?, hsb'.out]); have kf' : w'.frozen? ⟨w.heap.size, 0, none⟩ = false := (by simp [World.frozen?, hsb'.out]))
    case c1 => exact World.ownsRow.alloc HQ.out.2.1 _
    case c2 => exact smp_new Wc x _
    case c3 => exact hlen
    case c4 => simp; omega
    have e1 := HL.out
    subst e1
    exact tround HQ.out HA.out hsb'.out
  case hdone =>
    rintro D Bf Wf hD ⟨vf, hbf, hrowf, hBf'⟩ hff hBf hnD hEf hdef
    obtain ⟨af, cf, rfl⟩ := smpsAt_form hrowf
    have k6 : Wf.cell? ⟨w.heap.size, 0, none⟩ = some (.slice af (ps ++ xs).length cf) := by simp [World.cell?, hbf]
    have HZ : Hid _ := And.intro hrowf (And.intro hff (And.intro hBf (And.intro hnD (And.intro hdef (And.intro hBf' hEf)))))
    clear hbf hrowf hff hBf hnD hdef hBf' hEf
    gi_wp2
    obtain ⟨hrowf, hff, hBf, hnD, hdef, hBf', hEf⟩ := HZ.out
    refine ⟨by simp, .inl ⟨D, _, rfl, run_takeDeferred hdef, ?_⟩⟩
    have hfD : Fp (fun k => k = D) Wf (Wf.putObj D (.deferred none)) := Fp.putObj _ _ _ rfl
    have hs1 := HZ1.out
    refine ⟨_, results_tmp rfl _ _ _, .slice af (ps ++ xs).length cf, ret_val (by simp), ?_, ?_, ?_, ?_⟩
    · exact Fp.ownsRow hfD hrowf (fun k hk e => hnD (e ▸ (hBf' k).2 (.inr hk)))
    · have t2 : Fp (fun k => (Value.slice av0 N0 cv0).ownBlock = some k ∨ T k) w Wf := HS.out.2.2.2.2.2.1.trans hff (fun _ h => h.elim) (fun k hk h => by
        rcases h with (h | h) | h
        · omega
        · exact .inl h
        · exact .inr h)
      exact t2.trans hfD (fun _ h => h) (fun k hk e => by omega)
    · intro k hk
      rcases (hBf k ((hBf' k).2 (.inr hk))).1 with (h | h) | h
      · right; omega
      · exact .inl h
      · right; omega
    · exact HE.out.2 _ _ hEf (hfD.mono (fun k _ e h => by have := HS.out.2.1 k h; omega))

set_option maxHeartbeats 1000000 in
theorem CollectS_in (n : Nat) (hn : 11 ≤ n) (xs : List Silo.Smp) (gf : Nat) (lb : Array Value) (R T : Nat → Prop) (E : World → Prop) (w : World)
    (hen : ∀ args w, (callFunc gf args).run Tryz.prog w = .ok (.enter gf args) w)
    (hseq : SeqFp Fence.wide (n - 2) Tryz.prog gf lb (fun p => #[smpV p]) xs R T w E) (hE : ∀ A A', E A → Fp (fun k => ¬ R k) A A' → E A') (hR : ∀ k, R k → k < w.heap.size) (hl : xs.length ≤ 1099511627776) :
    CallsIn Fence.wide n Tryz.prog 71 #[.func (.func gf) #[] lb] w fun e w' => ∃ v', e = .returned v' ∧ Hid (World.smpsAt w' w.heap.size v' xs ∧ Fp T w w' ∧ E w') := by
  refine callsIn_of_wp_marks Tryz.func71 rfl trivial ?_ rfl
  simp only [Tryz.ntmps71, List.size_toArray, List.length_cons, List.length_nil, Nat.reduceAdd, Nat.reduceSub, Array.replicate_succ, Array.replicate_zero, List.push_toArray, List.append_toArray, List.nil_append, List.cons_append]
  gi_wp2_with fail
  refine ⟨trivial, fun _ => by omega, (AppendSeqS_in (n - 1) (by omega) w.heap.size (.slice none 0 0) [] xs gf lb R T E w ?h1 (Nat.le_refl _) hen hseq hE hR (fun k h => by cases h) (by simpa using hl)).mono ?_⟩
  case h1 => exact ⟨rfl, .inl ⟨rfl, rfl⟩⟩
  rintro e w1 ⟨v', rfl, H⟩
  obtain ⟨a, c, rfl⟩ := smpsAt_form H.out.1
  gi_wp2
  exact ⟨_, results_tmp rfl _ _ _, _, ret_val (by simp), H.out.1, H.out.2.1.mono (fun k _ h => h.elim (fun h => by cases h) id), H.out.2.2.2⟩

end Go.Proofs.YtbimkgmhfcgpmaaGreatDoor

/- Decode: a block's file, read. -/
namespace Go.Proofs.YtbimkgmhfcgpmaaGreatDoor
open Go.RowKit Go.Shelf
attribute [local go_sem] Oper.semAt_some

theorem decode_eq (l : List UInt8) : Silo.decode l = if isSealed l = true ∧ isB (sealedData l) = true then Silo.decBody (cutB (sealedData l)) else none := by
  unfold Silo.decode sealedData
  by_cases h8 : l.length < 8
  · have : isSealed l = false := by unfold isSealed; simp; omega
    simp [h8, this]
  · rw [if_neg h8]
    by_cases hq : Silo.be8 (Silo.fnv (l.take (l.length - 8))) = l.drop (l.length - 8)
    · have hs : isSealed l = true := by unfold isSealed; simp [hq]; omega
      rw [if_neg (by simpa using hq)]
      simp only [hs, if_true, true_and]
      cases hd : l.take (l.length - 8) with
      | nil => simp [isB]
      | cons b r =>
        by_cases hb : b = 66
        · simp [isB, cutB, hb]
        · simp [isB, hb]
    · have hs : isSealed l = false := by unfold isSealed; simp; intro; exact hq
      rw [if_pos hq]
      simp [hs]

theorem RdDone_st (w : World) (rb : Nat) (st : Silo.St) (h : RdS w rb st) :
    Calls Tryz.prog 47 #[.pointer (some ⟨rb, 0, none⟩)] w fun e w' => e = .returned (.bool (decide (st = some []))) ∧ w' = w := by
  cases st with
  | none =>
    refine (RdDone_any w rb _ true h).mono ?_
    rintro e w' ⟨rfl, rfl⟩
    exact ⟨by simp, rfl⟩
  | some l =>
    refine (RdDone_any w rb _ false h).mono ?_
    rintro e w' ⟨rfl, rfl⟩
    exact ⟨by cases l <;> simp [bytes_toList, S_toList], rfl⟩

theorem cutB_len (l : List UInt8) : (cutB l).length ≤ l.length := by
  unfold cutB
  split
  · rw [List.length_tail]; omega
  · exact Nat.le_refl _

theorem left_rdNum (st : Silo.St) : Silo.left (Silo.rdNum st).2 ≤ Silo.left st := by
  unfold Silo.rdNum
  split
  · exact Nat.zero_le _
  · exact left_rdR st

theorem ownsRow_base {w : World} {b b' : Nat} {e : TypeId} {size : Nat} {v : Value} {n : Nat} {xs : List Value} (h : w.ownsRow b e size v n xs) (hb : b' ≤ b) : w.ownsRow b' e size v n xs := by
  obtain ⟨h1, h2⟩ := h
  refine ⟨h1, h2.imp id ?_⟩
  rintro ⟨g, cap, cur, h3, h4, h5⟩
  exact ⟨g, cap, cur, h3, Nat.le_trans hb h4, h5⟩

theorem ownsRow_form {w : World} {b : Nat} {e : TypeId} {size : Nat} {v : Value} {n : Nat} {xs : List Value} (h : w.ownsRow b e size v n xs) : ∃ a c, v = .slice a n c := by
  rcases h.2 with ⟨h1, rfl⟩ | ⟨g, cap, cur, h3, _⟩
  · exact ⟨_, _, h1⟩
  · exact ⟨_, _, h3⟩

/-- The result's zero. -/
def zero3 : Value := .tuple #[.agg #[.int .i64 0, .int .i64 0], .slice none 0 0, .bool false]

theorem setRange {w : World} {b : Nat} {u0 u1 x y : Value} {t : TypeId} (h : w.heap[b]? = some (.cells #[u0, u1] t (0, 0))) :
    ((w.setCell ⟨b, 0, none⟩ x).setCell ⟨b, 1, none⟩ y).heap[b]? = some (.cells #[x, y] t (0, 0)) ∧ Fp (fun k => k = b) w ((w.setCell ⟨b, 0, none⟩ x).setCell ⟨b, 1, none⟩ y) :=
  ⟨heap_set (heap_set h x) y, (Fp.setCell (S := fun k => k = b) _ _ _ rfl).trans' (Fp.setCell (S := fun k => k = b) _ _ _ rfl)⟩

set_option maxHeartbeats 400000 in
theorem readRange_any (w : World) (rb : Nat) (st : Silo.St) (h : RdS w rb st) (hl : Silo.left st ≤ 1099511627776) :
    Calls Tryz.prog 69 #[.pointer (some ⟨rb, 0, none⟩)] w fun e w' => e = .returned (.agg #[.int .i64 ((Silo.rdNum st).1 : Nat), .int .i64 ((Silo.rdNum (Silo.rdNum st).2).1 : Nat)]) ∧
      RdS w' rb (Silo.rdNum (Silo.rdNum st).2).2 ∧ Fp (fun k => k = rb) w w' := by
  have H : Hid (RdS w rb st) := h
  clear h
  go_enter Tryz.func69, Tryz.ntmps69
  go_wp2_with fail
  obtain ⟨w1, hw1⟩ : ∃ w1, w.alloc (.cells #[.int .i64 0, .int .i64 0] 84) = w1 := ⟨_, rfl⟩
  have hb1 : w1.heap[w.heap.size]? = some (.cells #[.int .i64 0, .int .i64 0] 84 (0, 0)) := by rw [← hw1]; exact heap_new _ _
  have hf1 : Fp (fun _ => False) w w1 := by rw [← hw1]; exact Fp.alloc _ _ _
  rw [hw1]
  have hlt : rb < w.heap.size := H.out.lt
  have H1 : Hid _ := And.intro hb1 (And.intro hf1 (H.out.fp hf1 (fun h => h)))
  clear hb1 hf1 hw1
  refine (readNumber_any w1 rb st H1.out.2.2 (Nat.le_trans hl (by decide))).mono ?_
  rintro e w2 ⟨rfl, h2⟩
  have H2 : Hid _ := h2
  clear h2
  have hl2 : Silo.left (Silo.rdNum st).2 ≤ 1099511627776 := Nat.le_trans (left_rdNum _) hl
  go_wp2_with fail
  refine (readNumber_any w2 rb (Silo.rdNum st).2 H2.out.1 (Nat.le_trans hl2 (by decide))).mono ?_
  rintro e w3 ⟨rfl, h3⟩
  have hb3 : w3.heap[w.heap.size]? = some (.cells #[.int .i64 0, .int .i64 0] 84 (0, 0)) := by
    have h1 := heap_lt H1.out.1
    have h2 := H2.out.2.size
    exact (h3.2.block _ (by omega) (by omega)).trans ((H2.out.2.block _ h1 (by omega)).trans H1.out.1)
  have k0 : w3.frozen? ⟨w.heap.size, 0, none⟩ = false := by simp [World.frozen?, hb3]
  have k1 : w3.frozen? ⟨w.heap.size, 1, none⟩ = false := by simp [World.frozen?, hb3]
  have c0 : w3.cell? ⟨w.heap.size, 0, none⟩ = some (.int .i64 0) := by simp [World.cell?, hb3]
  have c1 : w3.cell? ⟨w.heap.size, 1, none⟩ = some (.int .i64 0) := by simp [World.cell?, hb3]
  have H3 : Hid _ := And.intro h3 hb3
  clear h3 hb3
  go_wp2
  obtain ⟨hs, hsf⟩ := setRange (x := .int .i64 ((Silo.rdNum st).1 : Nat)) (y := .int .i64 ((Silo.rdNum (Silo.rdNum st).2).1 : Nat)) H3.out.2
  generalize ((w3.setCell _ _).setCell _ _) = w4 at hs hsf ⊢
  have d0 : w4.cell? ⟨w.heap.size, 0, none⟩ = some (.int .i64 ((Silo.rdNum st).1 : Nat)) := by simp [World.cell?, hs]
  have d1 : w4.cell? ⟨w.heap.size, 1, none⟩ = some (.int .i64 ((Silo.rdNum (Silo.rdNum st).2).1 : Nat)) := by simp [World.cell?, hs]
  refine bodyPost_ret (v := .agg #[.int .i64 ((Silo.rdNum st).1 : Nat), .int .i64 ((Silo.rdNum (Silo.rdNum st).2).1 : Nat)]) (by simp [results, Tryz.results69, go_sem, d0, d1]) rfl ⟨rfl, H3.out.1.1.fp hsf (by omega), ?_⟩
  have t1 : Fp (fun k => k = rb) w w3 := ((H1.out.2.1.mono (fun _ _ h => h.elim)).trans' H2.out.2).trans' H3.out.1.2
  exact t1.trans hsf (fun _ h => h) (fun k hk e => by omega)

theorem zend {w w1 : World} {u0 u1 : Value} (x y : Value) (h : w1.heap[w.heap.size]? = some (.cells #[u0, u1] 84 (0, 0))) (hf : Fp (fun _ => False) w w1) :
    ∃ wz, (w1.setCell ⟨w.heap.size, 0, none⟩ x).setCell ⟨w.heap.size, 1, none⟩ y = wz ∧ wz.cell? ⟨w.heap.size, 0, none⟩ = some x ∧ wz.cell? ⟨w.heap.size, 1, none⟩ = some y ∧ Fp (fun _ => False) w wz ∧ Fp (fun k => k = w.heap.size) w1 wz := by
  obtain ⟨h1, h2⟩ := setRange (x := x) (y := y) h
  exact ⟨_, rfl, by simp [World.cell?, h1], by simp [World.cell?, h1], hf.trans h2 (fun _ h => h) (fun k hk e => by omega), h2⟩

theorem boxed {w1 : World} {b : Nat} {u0 u1 : Value} {t : TypeId} (h : w1.heap[b]? = some (.cells #[u0, u1] t (0, 0))) :
    w1.frozen? ⟨b, 0, none⟩ = false ∧ w1.frozen? ⟨b, 1, none⟩ = false ∧ w1.cell? ⟨b, 0, none⟩ = some u0 ∧ w1.cell? ⟨b, 1, none⟩ = some u1 :=
  ⟨by simp [World.frozen?, h], by simp [World.frozen?, h], by simp [World.cell?, h], by simp [World.cell?, h]⟩

set_option maxHeartbeats 1000000 in
set_option maxRecDepth 100000 in
theorem Decode_any (l : List UInt8) (w : World) (hl : l.length ≤ 1099511627776) :
    Calls Tryz.prog 53 #[.string (S l)] w fun e w' => Fp (fun _ => False) w w' ∧
      (Silo.decode l = none → e = .returned zero3) ∧
      ∀ d, Silo.decode l = some d → ∃ v, e = .returned (.tuple #[.agg #[.int .i64 (d.lo : Nat), .int .i64 (d.hi : Nat)], v, .bool true]) ∧ World.smpsAt w' w.heap.size v d.l := by
  have hsl : (sealedData l).length ≤ 1099511627776 := by
    unfold sealedData
    split
    · exact Nat.le_trans (List.length_take_le' _ _) hl
    · simp
  have HD : Hid _ := decode_eq l
  go_enter Tryz.func53, Tryz.ntmps53
  go_wp2_with fail
  obtain ⟨w0, hw0⟩ : ∃ w0, w.alloc (.cells #[.int .i64 0, .int .i64 0] 84) = w0 := ⟨_, rfl⟩
  have hb0 : w0.heap[w.heap.size]? = some (.cells #[.int .i64 0, .int .i64 0] 84 (0, 0)) := by rw [← hw0]; exact heap_new _ _
  have hf0 : Fp (fun _ => False) w w0 := by rw [← hw0]; exact Fp.alloc _ _ _
  rw [hw0]
  clear hw0
  refine (Unsealed_any l w0 hl).mono ?_
  rintro e w1 ⟨rfl, h1⟩
  have hb1 : w1.heap[w.heap.size]? = some (.cells #[.int .i64 0, .int .i64 0] 84 (0, 0)) := (h1.block _ (heap_lt hb0) (fun h => h)).trans hb0
  have hf1 : Fp (fun _ => False) w w1 := hf0.trans' h1
  clear h1 hb0 hf0
  go_wp2_with fail
  refine (CutPrefix_any (sealedData l) w1 hsl).mono ?_
  rintro e w1' ⟨rfl, rfl⟩
  obtain ⟨z0, z1, z2, z3⟩ := boxed hb1
  have H1 : Hid _ := And.intro hb1 hf1
  clear hb1 hf1
  cases hs : isSealed l with
  | false =>
    go_wp2
    have hd : Silo.decode l = none := by rw [HD.out, if_neg (by simp [hs])]
    obtain ⟨wz, hz, d0, d1, hzf, _⟩ := zend (.int .i64 0) (.int .i64 0) H1.out.1 H1.out.2
    rw [hz]
    exact bodyPost_ret (v := zero3) (by simp [results, Tryz.results53, go_sem, d0, d1, zero3]) rfl ⟨hzf, fun _ => rfl, fun d h => by rw [hd] at h; cases h⟩
  | true =>
    cases hm : isB (sealedData l) with
    | false =>
      go_wp2
      have hd : Silo.decode l = none := by rw [HD.out, if_neg (by simp [hm])]
      obtain ⟨wz, hz, d0, d1, hzf, _⟩ := zend (.int .i64 0) (.int .i64 0) H1.out.1 H1.out.2
      rw [hz]
      exact bodyPost_ret (v := zero3) (by simp [results, Tryz.results53, go_sem, d0, d1, zero3]) rfl ⟨hzf, fun _ => rfl, fun d h => by rw [hd] at h; cases h⟩
    | true =>
      have HD' : Hid (Silo.decode l = Silo.decBody (cutB (sealedData l))) := by show _ = _; rw [HD.out, if_pos ⟨hs, hm⟩]
      have hcl : (cutB (sealedData l)).length ≤ 1099511627776 := Nat.le_trans (cutB_len _) hsl
      generalize cutB (sealedData l) = body at *
      clear HD z0 z1 z2 z3
      go_wp2_with fail
      refine (NewReader_any w1' (S body)).mono ?_
      rintro e w2 ⟨rfl, hr2, hf2⟩
      have hrl : w.heap.size < w1'.heap.size := heap_lt H1.out.1
      have hst2 : RdS w2 w1'.heap.size (some body) := hr2
      have H2 : Hid _ := And.intro hst2 hf2
      clear hst2 hr2 hf2
      go_wp2_with fail
      refine (readRange_any w2 w1'.heap.size (some body) H2.out.1 hcl).mono ?_
      rintro e w3 ⟨rfl, h3⟩
      obtain ⟨a, ha⟩ : ∃ a, a = Silo.rdNum (some body) := ⟨_, rfl⟩
      obtain ⟨b, hb⟩ : ∃ b, b = Silo.rdNum a.2 := ⟨_, rfl⟩
      rw [← ha, ← hb] at h3 ⊢
      have hla : Silo.left a.2 ≤ 1099511627776 := by
        rw [ha]; exact Nat.le_trans (left_rdNum _) hcl
      have hlb : Silo.left b.2 ≤ 1099511627776 := by
        rw [hb]; exact Nat.le_trans (left_rdNum _) hla
      have H3 : Hid _ := h3
      have HAB : Hid _ := And.intro ha hb
      clear ha hb h3
      go_wp2_with fail
      obtain ⟨w4, hw4⟩ : ∃ w4, w3.alloc (.cells #[.int .i64 (a.1 : Nat), .int .i64 (b.1 : Nat)] 84) = w4 := ⟨_, rfl⟩
      have hp4 : w4.heap[w3.heap.size]? = some (.cells #[.int .i64 (a.1 : Nat), .int .i64 (b.1 : Nat)] 84 (0, 0)) := by rw [← hw4]; exact heap_new _ _
      have hf4 : Fp (fun _ => False) w3 w4 := by rw [← hw4]; exact Fp.alloc _ _ _
      rw [hw4]
      clear hw4
      refine (RangeFits_any (a.1 : Nat) (b.1 : Nat) w4).mono ?_
      rintro e w5 ⟨rfl, h5⟩
      have hlt3 : w1'.heap.size < w3.heap.size := H3.out.1.lt
      have hf5 : Fp (fun _ => False) w3 w5 := hf4.trans' h5
      have hfw5 : Fp (fun _ => False) w w5 := (((H1.out.2.trans' H2.out.2).trans H3.out.2 (fun _ h => h) (fun k hk e => by omega))).trans' hf5
      have hp5 : w5.heap[w3.heap.size]? = some (.cells #[.int .i64 (a.1 : Nat), .int .i64 (b.1 : Nat)] 84 (0, 0)) := (h5.block _ (heap_lt hp4) (fun h => h)).trans hp4
      have hb5 : w5.heap[w.heap.size]? = some (.cells #[.int .i64 0, .int .i64 0] 84 (0, 0)) := by
        have h2 := H2.out.2.size
        exact (hf5.block _ (by omega) (fun h => h)).trans ((H3.out.2.block _ (by omega) (by omega)).trans ((H2.out.2.block _ hrl (fun h => h)).trans H1.out.1))
      have hr5 : RdS w5 w1'.heap.size b.2 := H3.out.1.fp hf5 (fun h => h)
      have hlt5 : w3.heap.size < w5.heap.size := heap_lt hp5
      have H5 : Hid _ := And.intro hb5 (And.intro hfw5 (And.intro hp5 hr5))
      obtain ⟨z0, z1, z2, z3⟩ := boxed hb5
      clear h5 hp4 hf4 hf5 hfw5 hp5 hb5 hr5
      by_cases hrng : a.1 ≤ b.1 ∧ b.1 ≤ 999999
      · have hbool : decide ((0 : Int) ≤ ((a.1 : Nat) : Int) ∧ ((a.1 : Nat) : Int) ≤ ((b.1 : Nat) : Int) ∧ ((b.1 : Nat) : Int) ≤ 999999) = true := by simp; omega
        rw [hbool]
        have HD2 : Hid (Silo.decode l = if (Silo.rdSmp 17 b.2 0).2 = some [] then some ⟨a.1, b.1, (Silo.rdSmp 17 b.2 0).1⟩ else none) := by
          show _ = _
          rw [HD'.out, Silo.decBody]
          simp only [← HAB.out.1, ← HAB.out.2]
          rw [if_neg (by simpa using hrng)]
        clear hbool hrng z0 z1 z2 z3
        go_wp2_with fail
        refine (readSamples_any w1'.heap.size w5).mono ?_
        rintro e w6' ⟨rfl, rfl⟩
        obtain ⟨w6, hw6⟩ : ∃ w6, w5.alloc (.cells #[.pointer (some ⟨w1'.heap.size, 0, none⟩)] 99) = w6 := ⟨_, rfl⟩
        have hf6 : Fp (fun _ => False) w5 w6 := by rw [← hw6]; exact Fp.alloc _ _ _
        have hbx6 : w6.heap[w5.heap.size]? = some (.cells #[.pointer (some ⟨w1'.heap.size, 0, none⟩)] 99 (0, 0)) := by rw [← hw6]; exact heap_new _ _
        have hsz6 : w6.heap.size = w5.heap.size + 1 := by rw [← hw6]; simp
        have hcount := rdSmp_count 17 b.2 0
        rw [hw6]
        clear hw6
        have HSQ := readSamplesCl_seq 18 (by decide) w5.heap.size w1'.heap.size b.2 w6 hbx6 (by omega) (H5.out.2.2.2.fp hf6 (fun h => h)) hlb
        have H6 : Hid _ := And.intro HSQ (And.intro hf6 hsz6)
        clear HSQ hf6 hbx6 hsz6
        go_wp2_with fail
        refine (callsIn_wide.1 (CollectS_in 20 (by decide) _ 85 _ _ _ _ w6 (enters_of Tryz.func85 (by kernel_rfl) rfl) H6.out.1 ?hE ?hR (by omega))).mono ?_
        case hE => exact fun A A' h hf => h.fp hf (fun h => h (.inr rfl))
        case hR => rintro k (rfl | rfl) <;> (have := H6.out.2.2; omega)
        rintro e w7 ⟨v, rfl, H7⟩
        obtain ⟨av, cv, rfl⟩ := smpsAt_form H7.out.1
        have hf57 : Fp (fun k => k = w5.heap.size ∨ k = w1'.heap.size) w5 w7 := (H6.out.2.1.mono (fun _ _ h => h.elim)).trans' H7.out.2.1
        have hb7 : w7.heap[w.heap.size]? = some (.cells #[.int .i64 0, .int .i64 0] 84 (0, 0)) := (hf57.block _ (by omega) (by omega)).trans H5.out.1
        have hp7 : w7.heap[w3.heap.size]? = some (.cells #[.int .i64 (a.1 : Nat), .int .i64 (b.1 : Nat)] 84 (0, 0)) := (hf57.block _ (by omega) (by omega)).trans H5.out.2.2.1
        have hfw7 : Fp (fun _ => False) w w7 := H5.out.2.1.trans hf57 (fun _ h => h) (fun k hk h => by omega)
        obtain ⟨y0, y1, y2, y3⟩ := boxed hb7
        obtain ⟨x0, x1, x2, x3⟩ := boxed hp7
        have HZ : Hid _ := And.intro hb7 hfw7
        clear hf57 hb7 hp7 hfw7
        go_wp2_with fail
        refine (RdDone_st w7 w1'.heap.size _ H7.out.2.2).mono ?_
        rintro e w7' ⟨rfl, rfl⟩
        by_cases hdone : (Silo.rdSmp 17 b.2 0).2 = some []
        · have HD3 : Hid (Silo.decode l = some ⟨a.1, b.1, (Silo.rdSmp 17 b.2 0).1⟩) := HD2.out.trans (if_pos hdone)
          simp only [hdone, decide_true]
          clear hdone
          go_wp2
          obtain ⟨wz, hz, d0, d1, hzf, hzg⟩ := zend (.int .i64 (a.1 : Nat)) (.int .i64 (b.1 : Nat)) HZ.out.1 HZ.out.2
          rw [hz]
          refine bodyPost_ret (v := .tuple #[.agg #[.int .i64 (a.1 : Nat), .int .i64 (b.1 : Nat)], .slice av (Silo.rdSmp 17 b.2 0).1.length cv, .bool true]) (by simp [results, Tryz.results53, go_sem, d0, d1]) rfl ⟨hzf, fun h => (by rw [HD3.out] at h; cases h), fun d h => ?_⟩
          rw [HD3.out] at h
          cases h
          have h6 := H6.out.2.2
          exact ⟨_, rfl, ownsRow_base (Fp.ownsRow hzg H7.out.1 (fun k hk e => by have := (World.ownsRow.lt H7.out.1 k hk).1; omega)) (by omega)⟩
        · have HD3 : Hid (Silo.decode l = none) := HD2.out.trans (if_neg hdone)
          simp only [hdone, decide_false]
          clear hdone
          go_wp2
          obtain ⟨wz, hz, d0, d1, hzf, hzg⟩ := zend (.int .i64 0) (.int .i64 0) HZ.out.1 HZ.out.2
          rw [hz]
          exact bodyPost_ret (v := zero3) (by simp [results, Tryz.results53, go_sem, d0, d1, zero3]) rfl ⟨hzf, fun _ => rfl, fun d h => by rw [HD3.out] at h; cases h⟩
      · have hbool : decide ((0 : Int) ≤ ((a.1 : Nat) : Int) ∧ ((a.1 : Nat) : Int) ≤ ((b.1 : Nat) : Int) ∧ ((b.1 : Nat) : Int) ≤ 999999) = false := by simp; omega
        rw [hbool]
        have hd : Hid (Silo.decode l = none) := by
          show _ = _
          rw [HD'.out, Silo.decBody]
          simp only [← HAB.out.1, ← HAB.out.2]
          rw [if_pos (by simpa using hrng)]
        clear hbool hrng
        go_wp2
        obtain ⟨wz, hz, d0, d1, hzf, hzg⟩ := zend (.int .i64 0) (.int .i64 0) H5.out.1 H5.out.2.1
        rw [hz]
        exact bodyPost_ret (v := zero3) (by simp [results, Tryz.results53, go_sem, d0, d1, zero3]) rfl ⟨hzf, fun _ => rfl, fun d h => by rw [hd.out] at h; cases h⟩

end Go.Proofs.YtbimkgmhfcgpmaaGreatDoor
