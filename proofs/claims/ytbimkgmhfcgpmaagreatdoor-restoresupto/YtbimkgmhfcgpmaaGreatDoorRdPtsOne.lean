/- Values, RdPoints, in one text. -/
import Derived.Test.YtbimkgmhfcgpmaaGreatDoorRangeOne
import Derived.Test.YtbimkgmhfcgpmaaGreatDoorPureOne
import Derived.Test.YtbimkgmhfcgpmaaGreatDoorRdOne
import Derived.Stop.RegionWithIn

/- slices.Values over points: its contract by footprints. -/
namespace Go.Proofs.YtbimkgmhfcgpmaaGreatDoor
open Go.RowKit Go.Shelf
attribute [local go_sem] Oper.semAt_some

/-- A point as a value. -/
def ptV (p : Silo.Pt) : Value := .agg #[.int .i64 p.t, .int .u64 (p.v : Nat)]

end Go.Proofs.YtbimkgmhfcgpmaaGreatDoor

/- readPoints: its contract by footprints. -/
namespace Go.Proofs.YtbimkgmhfcgpmaaGreatDoor
open Go.RowKit Go.Shelf
attribute [local go_sem] Oper.semAt_some

theorem left_rdR (st : Silo.St) : Silo.left (Silo.rdR st) ≤ Silo.left st := by
  cases hr : Silo.rdR st with
  | none => exact Nat.zero_le _
  | some r =>
    obtain ⟨e, _⟩ := Silo.rdR_some hr
    rw [e]
    simp [Silo.left]

theorem left_rdTime (st : Silo.St) (a : Int) (f : Bool) : Silo.left (Silo.rdTime st a f).2 ≤ Silo.left st := by
  unfold Silo.rdTime
  split
  · exact left_rdR st
  · split
    · exact Nat.zero_le _
    · exact left_rdR st

theorem isInt_rdTime (st : Silo.St) (a : Int) (f : Bool) (ha : Silo.isInt a) : Silo.isInt (Silo.rdTime st a f).1 := by
  have hn := Silo.rdN_lt st
  unfold Silo.rdTime
  split
  · exact Silo.zag_rng _ hn
  · split
    · unfold Silo.isInt; simp
    · unfold Silo.isInt at ha ⊢; simp only; omega

set_option maxHeartbeats 400000 in
theorem readPoints_any (rb : Nat) (w : World) :
    Calls Tryz.prog 86 #[.pointer (some ⟨rb, 0, none⟩)] w fun e w' => e = .returned (.func (.func 99) #[] #[.pointer (some ⟨w.heap.size, 0, none⟩)]) ∧ w' = w.alloc (.cells #[.pointer (some ⟨rb, 0, none⟩)] 99) := by
  have hmf : ∀ (fn : Fn) (first cap : Array Value) (w : World), (Instr.makeFunc fn first cap).run Tryz.prog w = .ok (.func fn first cap) w := fun _ _ _ _ => rfl
  go_enter Tryz.func86, Tryz.ntmps86
  go_wp2
  go_ret
  exact ⟨ret_val (by simp), rfl⟩

/-- Between two rounds: k points have come. -/
def PInv (J : (Nat → Prop) → List Silo.Pt → World → Prop) (B : Nat → Prop) (W : World) (bx rb pb : Nat) (st : Silo.St) (k : Nat) (wr : World) : Prop :=
  ∃ (B' : Nat → Prop) (pre : List Silo.Pt) (stc : Silo.St) (t : Int) (v : Nat), J B' pre wr ∧ RdS wr rb stc ∧ wr.heap[pb]? = some (.cells #[.int .i64 t, .int .u64 (v : Nat)] 158 (0, 0)) ∧ Silo.isInt t ∧ v < Silo.M64 ∧ Silo.left stc ≤ 1099511627776 ∧
    (pre ++ (Silo.rdPts (Silo.rdN st - k) stc t v ((k : Int) == 0)).1, (Silo.rdPts (Silo.rdN st - k) stc t v ((k : Int) == 0)).2) = Silo.rdPoints st ∧
    Fp (fun j => B j ∨ j = bx ∨ j = rb) W wr ∧ W.heap.size ≤ pb ∧ (∀ j, B' j → (B j ∨ W.heap.size ≤ j) ∧ j < wr.heap.size ∧ j ≠ pb) ∧ wr.cell? ⟨bx, 0, none⟩ = some (.pointer (some ⟨rb, 0, none⟩))

abbrev PBody (J : (Nat → Prop) → List Silo.Pt → World → Prop) (B : Nat → Prop) (W : World) (bx rb pb : Nat) (st : Silo.St) (k : Nat) (wr : World) (B' : Nat → Prop) (pre : List Silo.Pt) (stc : Silo.St) (t : Int) (v : Nat) : Prop :=
  J B' pre wr ∧ RdS wr rb stc ∧ wr.heap[pb]? = some (.cells #[.int .i64 t, .int .u64 (v : Nat)] 158 (0, 0)) ∧ Silo.isInt t ∧ v < Silo.M64 ∧ Silo.left stc ≤ 1099511627776 ∧
    (pre ++ (Silo.rdPts (Silo.rdN st - k) stc t v ((k : Int) == 0)).1, (Silo.rdPts (Silo.rdN st - k) stc t v ((k : Int) == 0)).2) = Silo.rdPoints st ∧
    Fp (fun j => B j ∨ j = bx ∨ j = rb) W wr ∧ W.heap.size ≤ pb ∧ (∀ j, B' j → (B j ∨ W.heap.size ≤ j) ∧ j < wr.heap.size ∧ j ≠ pb)

section

variable {J : (Nat → Prop) → List Silo.Pt → World → Prop} {B B' : Nat → Prop} {W wr w6 : World} {bx rb pb : Nat} {st stc st1 : Silo.St} {k : Nat} {pre : List Silo.Pt} {t t' : Int} {v : Nat}

/-- A round that ends with something wrong. -/
theorem rdPts_bad (hlt : k < Silo.rdN st) (hst : st1 = (Silo.rdTime stc t ((k : Int) == 0)).2) (hres : Silo.rdR st1 = none) : Silo.rdPts (Silo.rdN st - k) stc t v ((k : Int) == 0) = ([], none) := by
  obtain ⟨m, hm⟩ : ∃ m, Silo.rdN st - k = m + 1 := ⟨Silo.rdN st - k - 1, by omega⟩
  rw [hm, Silo.rdPts]
  simp only [← hst, hres]

theorem rdPts_good {rest : List UInt8} (hlt : k < Silo.rdN st) (ht : t' = (Silo.rdTime stc t ((k : Int) == 0)).1) (hst : st1 = (Silo.rdTime stc t ((k : Int) == 0)).2) (hres : Silo.rdR st1 = some rest) :
    Silo.rdPts (Silo.rdN st - k) stc t v ((k : Int) == 0) = (⟨t', v ^^^ Silo.rdN st1⟩ :: (Silo.rdPts (Silo.rdN st - (k + 1)) (some rest) t' (v ^^^ Silo.rdN st1) (((k + 1 : Nat) : Int) == 0)).1,
      (Silo.rdPts (Silo.rdN st - (k + 1)) (some rest) t' (v ^^^ Silo.rdN st1) (((k + 1 : Nat) : Int) == 0)).2) := by
  have e : (((k + 1 : Nat) : Int) == 0) = false := by simp; omega
  have hm : Silo.rdN st - k = (Silo.rdN st - (k + 1)) + 1 := by omega
  rw [e, hm, Silo.rdPts]
  simp only [← hst, ← ht, hres]

theorem stay (hB : ∀ k, B k → k < W.heap.size ∧ ¬ (k = bx ∨ k = rb)) (hrl : rb < W.heap.size) {j : Nat} (h : (B j ∨ W.heap.size ≤ j) ∧ j < wr.heap.size ∧ j ≠ pb) : ¬ (j = rb ∨ j = pb) := by
  rintro (rfl | rfl)
  · rcases h.1 with h | h
    · exact (hB _ h).2 (.inr rfl)
    · omega
  · exact h.2.2 rfl

theorem fin1 (_hx : bx < W.heap.size ∧ bx ≠ rb) (hB : ∀ k, B k → k < W.heap.size ∧ ¬ (k = bx ∨ k = rb)) (hJ : Stable J) (hrl : rb < W.heap.size) (hlt : k < Silo.rdN st) (hst : st1 = (Silo.rdTime stc t ((k : Int) == 0)).2) (hres : Silo.rdR st1 = none)
    (hP : PBody J B W bx rb pb st k wr B' pre stc t v) {x : Value} {lim : Prop} (h6 : RdS w6 rb none ∧ Fp (fun k => k = rb ∨ k = pb) wr w6 ∧ w6.heap[pb]? = some (.cells #[.int .i64 t', x] 158 (0, 0)) ∧ lim) :
    (∃ v, Ending.returned (Value.tuple #[]) = .returned v) ∧ ∃ B', J B' (Silo.rdPoints st).1 w6 ∧ Fp (fun k => B k ∨ k = bx ∨ k = rb) W w6 ∧ (∀ k, B' k → (B k ∨ W.heap.size ≤ k) ∧ k < w6.heap.size) ∧ RdS w6 rb (Silo.rdPoints st).2 := by
  obtain ⟨hj, _, _, _, _, _, heq, hf, hsz, hb⟩ := hP
  rw [rdPts_bad hlt hst hres] at heq
  rw [← heq]
  simp only [List.append_nil]
  refine ⟨⟨_, rfl⟩, B', hJ _ _ _ _ hj (fun j h => (hb j h).2.1) (h6.2.1.mono (fun j _ e h => stay hB hrl (hb j h) e)), hf.trans h6.2.1 (fun _ h => h) (fun j hj h => ?_), fun j h => ⟨(hb j h).1, Nat.lt_of_lt_of_le (hb j h).2.1 h6.2.1.size⟩, h6.1⟩
  rcases h with rfl | rfl
  · exact .inr (.inr rfl)
  · omega

theorem fin2 (hP : PBody J B W bx rb pb st (Silo.rdN st) wr B' pre stc t v) :
    (∃ v, Ending.returned (Value.tuple #[]) = .returned v) ∧ ∃ B', J B' (Silo.rdPoints st).1 wr ∧ Fp (fun k => B k ∨ k = bx ∨ k = rb) W wr ∧ (∀ k, B' k → (B k ∨ W.heap.size ≤ k) ∧ k < wr.heap.size) ∧ RdS wr rb (Silo.rdPoints st).2 := by
  obtain ⟨hj, hr, _, _, _, _, heq, hf, hsz, hb⟩ := hP
  rw [Nat.sub_self] at heq
  simp only [Silo.rdPts, List.append_nil] at heq
  rw [← heq]
  exact ⟨⟨_, rfl⟩, B', hj, hf, fun j h => ⟨(hb j h).1, (hb j h).2.1⟩, hr⟩

theorem pre_step {rest : List UInt8} (hlt : k < Silo.rdN st) (ht : t' = (Silo.rdTime stc t ((k : Int) == 0)).1) (hst : st1 = (Silo.rdTime stc t ((k : Int) == 0)).2) (hres : Silo.rdR st1 = some rest)
    (heq : (pre ++ (Silo.rdPts (Silo.rdN st - k) stc t v ((k : Int) == 0)).1, (Silo.rdPts (Silo.rdN st - k) stc t v ((k : Int) == 0)).2) = Silo.rdPoints st) :
    (pre ++ [⟨t', v ^^^ Silo.rdN st1⟩]) <+: (Silo.rdPoints st).1 ∧
    ((pre ++ [⟨t', v ^^^ Silo.rdN st1⟩]) ++ (Silo.rdPts (Silo.rdN st - (k + 1)) (some rest) t' (v ^^^ Silo.rdN st1) (((k + 1 : Nat) : Int) == 0)).1, (Silo.rdPts (Silo.rdN st - (k + 1)) (some rest) t' (v ^^^ Silo.rdN st1) (((k + 1 : Nat) : Int) == 0)).2) = Silo.rdPoints st := by
  rw [rdPts_good hlt ht hst hres] at heq
  have e : (pre ++ [⟨t', v ^^^ Silo.rdN st1⟩]) ++ (Silo.rdPts (Silo.rdN st - (k + 1)) (some rest) t' (v ^^^ Silo.rdN st1) (((k + 1 : Nat) : Int) == 0)).1 = (Silo.rdPoints st).1 := by
    rw [← heq]; simp
  exact ⟨⟨_, e⟩, by rw [e, ← heq]⟩

theorem step1 {rest : List UInt8} {B2 : Nat → Prop} {W3 : World} (hx : RdS W rb st ∧ Silo.left st ≤ maxLen ∧ bx < W.heap.size ∧ bx ≠ rb) (hB : ∀ k, B k → k < W.heap.size ∧ ¬ (k = bx ∨ k = rb)) (hrl : rb < W.heap.size) (hlt : k < Silo.rdN st)
    (ht : t' = (Silo.rdTime stc t ((k : Int) == 0)).1) (hst : st1 = (Silo.rdTime stc t ((k : Int) == 0)).2) (hres : Silo.rdR st1 = some rest)
    (hP : PBody J B W bx rb pb st k wr B' pre stc t v) (h6 : RdS w6 rb (some rest) ∧ Fp (fun k => k = rb ∨ k = pb) wr w6 ∧ w6.heap[pb]? = some (.cells #[.int .i64 t', .int .u64 ((v ^^^ Silo.rdN st1 : Nat) : Int)] 158 (0, 0)) ∧ Silo.left st1 ≤ 1099511627776)
    (h8 : J B2 (pre ++ [⟨t', v ^^^ Silo.rdN st1⟩]) W3 ∧ Fp B' w6 W3 ∧ ∀ k, B2 k → (B' k ∨ w6.heap.size ≤ k) ∧ k < W3.heap.size) (hbx : wr.cell? ⟨bx, 0, none⟩ = some (.pointer (some ⟨rb, 0, none⟩))) :
    Hid (PInv J B W bx rb pb st (k + 1) W3) := by
  obtain ⟨hj, hr, hpb, hti, hvi, hlc, heq, hf, hsz, hb⟩ := hP
  obtain ⟨hr6, hf6, hp6, hl1⟩ := h6
  obtain ⟨hj8, hf8, hb8⟩ := h8
  have hpl6 := heap_lt hp6
  have hpl : pb < wr.heap.size := heap_lt hpb
  have h1 := hf.size
  have h2 := hf6.size
  have nrb : ¬ B' rb := fun h => stay hB hrl (hb rb h) (.inl rfl)
  have npb : ¬ B' pb := fun h => stay hB hrl (hb pb h) (.inr rfl)
  have nbx : ¬ B' bx := fun h => by
    rcases (hb bx h).1 with h' | h'
    · exact (hB _ h').2 (.inl rfl)
    · have := hx.2.2.1; omega
  have hle : Silo.left (some rest) ≤ Silo.left st1 := by rw [← hres]; exact left_rdR st1
  refine ⟨B2, _, some rest, t', v ^^^ Silo.rdN st1, hj8, hr6.fp hf8 nrb, ?_, by rw [ht]; exact isInt_rdTime _ _ _ hti, Silo.xor_lt _ _ hvi (Silo.rdN_lt _), Nat.le_trans hle hl1, (pre_step hlt ht hst hres heq).2, ?_, hsz, ?_, ?_⟩
  · exact (hf8.block _ hpl6 npb).trans hp6
  · have t1 : Fp (fun j => B j ∨ j = bx ∨ j = rb) W w6 := hf.trans hf6 (fun _ h => h) (fun j hj h => by
      rcases h with rfl | rfl
      · exact .inr (.inr rfl)
      · omega)
    exact t1.trans hf8 (fun _ h => h) (fun j hj h => (hb j h).1.elim .inl (fun h => by omega))
  · intro j h
    have := hb8 j h
    refine ⟨?_, this.2, ?_⟩
    · rcases this.1 with h' | h'
      · exact (hb j h').1
      · right; omega
    · rintro rfl
      rcases this.1 with h' | h'
      · exact npb h'
      · omega
  · rw [hf8.cell (p := ⟨bx, 0, none⟩) (by have := hx.2.2.1; simp; omega) nbx, hf6.cell (p := ⟨bx, 0, none⟩) (by have := hx.2.2.1; simp; omega) (by have := hx.2.2; simp; omega)]
    exact hbx

end

theorem xor64 (a b : Nat) (ha : a < Silo.M64) (hb : b < Silo.M64) : bits BinOp.xor IntKind.u64 (a : Int) (b : Int) = ((a ^^^ b : Nat) : Int) := bits_xor_u64_nat a b ha hb

theorem fin0 {W W' : World} {J : (Nat → Prop) → List Silo.Pt → World → Prop} {B : Nat → Prop} {bx rb : Nat} (_hx : bx < W.heap.size ∧ bx ≠ rb) (h0 : J B [] W) (hB : ∀ k, B k → k < W.heap.size ∧ ¬ (k = bx ∨ k = rb)) (hJ : Stable J)
    (hf : Fp (fun k => k = rb) W W') (hr : RdS W' rb none) :
    (∃ v, Ending.returned (Value.tuple #[]) = .returned v) ∧ ∃ B', J B' ([], (none : Silo.St)).1 W' ∧ Fp (fun k => B k ∨ k = bx ∨ k = rb) W W' ∧ (∀ k, B' k → (B k ∨ W.heap.size ≤ k) ∧ k < W'.heap.size) ∧ RdS W' rb (([] : List Silo.Pt), (none : Silo.St)).2 :=
  ⟨⟨_, rfl⟩, B, hJ B [] W W' h0 (fun k hk => (hB k hk).1) (hf.mono (fun k _ e hk => (hB k hk).2 (.inr e))), hf.mono (fun _ _ e => .inr (.inr e)), fun k hk => ⟨.inl hk, Nat.lt_of_lt_of_le (hB k hk).1 hf.size⟩, hr⟩

set_option maxHeartbeats 1000000 in
set_option maxRecDepth 100000 in
theorem readPointsCl_seq (n : Nat) (hn : 5 ≤ n) (bx rb : Nat) (st : Silo.St) (w : World) (hbx : w.heap[bx]? = some (.cells #[.pointer (some ⟨rb, 0, none⟩)] 99 (0, 0)))
    (hne : bx ≠ rb) (hst : RdS w rb st) (hs : Silo.left st ≤ 1099511627776) :
    SeqFp Fence.wide n Tryz.prog 99 #[.pointer (some ⟨bx, 0, none⟩)] (fun p => #[ptV p]) (Silo.rdPoints st).1 (fun k => k = bx ∨ k = rb) (fun k => k = bx ∨ k = rb) w (fun W => RdS W rb (Silo.rdPoints st).2) := by
  intro l J B W hW hB hJ hY h0
  refine callsIn_of_wp Tryz.func99 rfl trivial ?_ rfl
  simp only [Tryz.ntmps99, List.size_toArray, List.length_cons, List.length_nil, Nat.reduceAdd, Nat.reduceSub, Array.replicate_succ, Array.replicate_zero, List.push_toArray, List.append_toArray, List.nil_append, List.cons_append]
  have hbxW : W.cell? ⟨bx, 0, none⟩ = some (.pointer (some ⟨rb, 0, none⟩)) := by
    rw [hW.cell (p := ⟨bx, 0, none⟩) (heap_lt hbx) (fun h => h)]; simp [World.cell?, hbx]
  have HX : Hid (RdS W rb st ∧ Silo.left st ≤ maxLen ∧ bx < W.heap.size ∧ bx ≠ rb) := ⟨hst.fp hW (fun h => h), Nat.le_trans hs (by decide), Nat.lt_of_lt_of_le (heap_lt hbx) hW.size, hne⟩
  have HY : Hid _ := hY
  have HJ : Hid _ := hJ
  have H0 : Hid _ := h0
  have HB : Hid _ := hB
  have HL : Hid (Silo.rdN st < Silo.M64) := Silo.rdN_lt st
  have hleft : Silo.left (Silo.rdR st) ≤ 1099511627776 := Nat.le_trans (left_rdR st) hs
  clear hY hJ h0 hB hst hbx hs hne
  gi_wp2_with fail
  refine ⟨trivial, fun _ => by omega, (callsIn_wide.2 (RdCode_any W rb st HX.out.1 HX.out.2.1)).mono ?_⟩
  rintro e w1 ⟨rfl, h1⟩
  have H1 : Hid _ := h1
  clear h1
  have hbx1 : w1.cell? ⟨bx, 0, none⟩ = some (.pointer (some ⟨rb, 0, none⟩)) := by
    rw [H1.out.2.cell (p := ⟨bx, 0, none⟩) HX.out.2.2.1 HX.out.2.2.2]; exact hbxW
  clear hbxW
  have HC : Hid (Silo.rdPoints st = if Silo.rdN st = 0 ∨ Silo.left (Silo.rdR st) / 2 < Silo.rdN st then ([], none) else Silo.rdPts (Silo.rdN st) (Silo.rdR st) 0 0 true) := rfl
  by_cases c0 : Silo.rdN st = 0
  · have d0 : (((Silo.rdN st : Nat) : Int) == 0) = true := by simp [c0]
    have HC' : Hid (Silo.rdPoints st = ([], none)) := HC.out.trans (if_pos (.inl c0))
    clear c0
    gi_wp2_with fail
    refine ⟨trivial, ?_⟩
    gi_wp2_with fail
    refine ⟨trivial, fun _ => by omega, (callsIn_wide.2 (RdFail_st w1 rb _ H1.out.1)).mono ?_⟩
    rintro e w2 ⟨rfl, h2⟩
    have H2 : Hid _ := h2
    clear h2
    gi_wp2
    refine bodyPost_ret (results_none rfl _ _ _) rfl ?_
    rw [HC'.out]
    exact fin0 HX.out.2.2 H0.out HB.out HJ.out (H1.out.2.trans' H2.out.2) H2.out.1
  · have d0 : (((Silo.rdN st : Nat) : Int) == 0) = false := by simpa using c0
    by_cases c1 : Silo.left (Silo.rdR st) / 2 < Silo.rdN st
    · have HC' : Hid (Silo.rdPoints st = ([], none)) := HC.out.trans (if_pos (.inr c1))
      clear c0
      gi_wp2_with fail
      refine ⟨trivial, fun _ => by omega, (callsIn_wide.2 (RdLeft_st w1 rb _ H1.out.1)).mono ?_⟩
      rintro e w2 ⟨rfl, rfl⟩
      gi_wp2_with fail
      refine ⟨trivial, fun _ => by omega, (callsIn_wide.2 (RdFail_st w2 rb _ H1.out.1)).mono ?_⟩
      rintro e w3 ⟨rfl, h2⟩
      have H2 : Hid _ := h2
      clear h2
      gi_wp2
      refine bodyPost_ret (results_none rfl _ _ _) rfl ?_
      rw [HC'.out]
      exact fin0 HX.out.2.2 H0.out HB.out HJ.out (H1.out.2.trans' H2.out.2) H2.out.1
    · have HC' : Hid (Silo.rdPoints st = Silo.rdPts (Silo.rdN st) (Silo.rdR st) 0 0 true) := HC.out.trans (if_neg (by omega))
      clear c0 HC
      gi_wp2_with fail
      refine ⟨trivial, fun _ => by omega, (callsIn_wide.2 (RdLeft_st w1 rb _ H1.out.1)).mono ?_⟩
      rintro e w2 ⟨rfl, rfl⟩
      gi_wp2_with fail
      gi_loopw [21] (fun i wr => ∃ k : Nat, k ≤ Silo.rdN st ∧ i = .int .u64 k ∧ Hid (PInv J B W bx rb w2.heap.size st k wr)) (fun i _ => Silo.rdN st - (intOf i).toNat)
      case atStart =>
        refine ⟨0, Nat.zero_le _, rfl, B, [], Silo.rdR st, 0, 0, ?_⟩
        have hf : Fp (fun k => k = rb) W (w2.alloc (.cells #[.int .i64 0, .int .u64 0] 158)) := H1.out.2.trans (Fp.alloc (fun _ => False) _ _) (fun _ h => h) (fun _ _ h => h.elim)
        have hsz := H1.out.2.size
        refine ⟨HJ.out B [] W _ H0.out (fun k hk => (HB.out k hk).1) (hf.mono (fun k _ e hk => (HB.out k hk).2 (.inr e))), H1.out.1.fp (Fp.alloc (fun _ => False) _ _) (fun h => h), heap_new _ _, by unfold Silo.isInt; omega, Silo.M64_pos, hleft, ?_, hf.mono (fun _ _ e => .inr (.inr e)), hsz, ?_, ?_⟩
        · rw [HC'.out]; simp
        · intro j hj
          have := (HB.out j hj).1
          exact ⟨.inl hj, by simp; omega, by omega⟩
        · rw [World.cell?_alloc_past _ _ _ (by have := HX.out.2.2.1; omega)]; exact hbx1
      case round =>
        obtain ⟨k, hk, rfl, HR⟩ := hrel
        obtain ⟨B', pre, stc, t, v, hj, hrd, hpb, hti, hvi, hlc, hres, hfp, hsz, hbp, hbxr⟩ := HR.out
        have hp0 : wr.cell? ⟨w2.heap.size, 0, none⟩ = some (.int .i64 t) := by simp [World.cell?, hpb]
        have HP : Hid _ := And.intro hj (And.intro hrd (And.intro hpb (And.intro hti (And.intro hvi (And.intro hlc (And.intro hres (And.intro hfp (And.intro hsz hbp))))))))
        clear hj hrd hpb hti hvi hlc hres hfp hsz hbp hbx1 c1 HR
        by_cases hlt : k < Silo.rdN st
        · gi_wp2_with fail
          refine ⟨trivial, fun _ => by omega, (callsIn_wide.2 (readTime_any wr rb stc t _ HP.out.2.2.2.1 HP.out.2.1 (Nat.le_trans HP.out.2.2.2.2.2.1 (by decide)))).mono ?_⟩
          rintro e w3 ⟨rfl, h3⟩
          have H3 : Hid _ := h3
          clear h3
          have hrl : rb < W.heap.size := HX.out.1.lt
          have hpbl : w2.heap.size < wr.heap.size := heap_lt HP.out.2.2.1
          have hsz := HP.out.2.2.2.2.2.2.2.2.1
          have hpb3 : Hid (w3.heap[w2.heap.size]? = some (.cells #[.int .i64 t, .int .u64 (v : Nat)] 158 (0, 0))) := (H3.out.2.block _ hpbl (by omega)).trans HP.out.2.2.1
          have hq0 : w3.cell? ⟨w2.heap.size, 0, none⟩ = some (.int .i64 t) := by simp [World.cell?, hpb3.out]
          have hz0 : w3.frozen? ⟨w2.heap.size, 0, none⟩ = false := by simp [World.frozen?, hpb3.out]
          clear hp0
          gi_wp2_with fail
          obtain ⟨t', ht'⟩ : ∃ t', t' = (Silo.rdTime stc t ((k : Int) == 0)).1 := ⟨_, rfl⟩
          obtain ⟨st1, hst1⟩ : ∃ st1, st1 = (Silo.rdTime stc t ((k : Int) == 0)).2 := ⟨_, rfl⟩
          have H3' : Hid (RdS w3 rb st1 ∧ Fp (fun k => k = rb) wr w3) := by rw [hst1]; exact H3.out
          rw [← ht']
          have HT : Hid _ := And.intro ht' hst1
          clear ht' hst1 H3
          obtain ⟨w4, hw4⟩ : ∃ w4, w3.setCell ⟨w2.heap.size, 0, none⟩ (.int .i64 t') = w4 := ⟨_, rfl⟩
          have hf4 : Fp (fun k => k = w2.heap.size) w3 w4 := by rw [← hw4]; exact Fp.setCell _ _ _ rfl
          have hpb4 : Hid (w4.heap[w2.heap.size]? = some (.cells #[.int .i64 t', .int .u64 (v : Nat)] 158 (0, 0))) := by rw [← hw4]; exact heap_set hpb3.out _
          have hbl : bx < w3.heap.size := by have := H3'.out.2.size; have := HX.out.2.2.1; omega
          have hbx4 : w4.cell? ⟨bx, 0, none⟩ = some (.pointer (some ⟨rb, 0, none⟩)) := by
            rw [hf4.cell (p := ⟨bx, 0, none⟩) hbl (by have := HX.out.2.2.1; simp; omega), H3'.out.2.cell (p := ⟨bx, 0, none⟩) (by have := HX.out.2.2.1; simp; omega) HX.out.2.2.2]; exact hbxr
          have H4 : Hid (RdS w4 rb st1 ∧ Fp (fun k => k = rb ∨ k = w2.heap.size) wr w4 ∧ Silo.left st1 ≤ 1099511627776) := ⟨H3'.out.1.fp hf4 (by omega), H3'.out.2.trans hf4 (fun _ h => .inl h) (fun _ _ h => .inr h), by rw [HT.out.2]; exact Nat.le_trans (left_rdTime _ _ _) HP.out.2.2.2.2.2.1⟩
          have hv4 : w4.cell? ⟨w2.heap.size, 1, none⟩ = some (.int .u64 (v : Nat)) := by simp [World.cell?, hpb4.out]
          have hz4 : w4.frozen? ⟨w2.heap.size, 1, none⟩ = false := by simp [World.frozen?, hpb4.out]
          rw [hw4]
          have HBX : Hid (wr.cell? ⟨bx, 0, none⟩ = some (.pointer (some ⟨rb, 0, none⟩))) := hbxr
          clear hw4 hf4 hpb3 hq0 hz0 H3' hbxr
          have hpl4 : w2.heap.size < w4.heap.size := heap_lt hpb4.out
          gi_region_with (refine ⟨trivial, fun _ => by omega, (callsIn_wide.2 (RdCode_any w4.drew rb st1 (by exact H4.out.1) (Nat.le_trans H4.out.2.2 (by decide)))).mono ?_⟩; rintro e w5 ⟨rfl, h5⟩; have H5 : Hid _ := h5; clear h5; have hv5 : w5.cell? ⟨w2.heap.size, 1, none⟩ = some (.int .u64 (v : Nat)) := (H5.out.2.cell (p := ⟨w2.heap.size, 1, none⟩) hpl4 (by simp; omega)).trans hv4; have hz5 : w5.frozen? ⟨w2.heap.size, 1, none⟩ = false := (H5.out.2.frozen (p := ⟨w2.heap.size, 1, none⟩) hpl4 (by simp; omega)).trans hz4)
          all_goals
            have ex : bits BinOp.xor IntKind.u64 (v : Int) (Silo.rdN st1 : Int) = ((v ^^^ Silo.rdN st1 : Nat) : Int) := xor64 v _ HP.out.2.2.2.2.1 (Silo.rdN_lt _)
            rw [ex]
            clear ex
            obtain ⟨w6, hw6⟩ : ∃ w6, w5.setCell ⟨w2.heap.size, 1, none⟩ (.int .u64 ((v ^^^ Silo.rdN st1 : Nat) : Int)) = w6 := ⟨_, rfl⟩
            have hf5 : Fp (fun k => k = rb ∨ k = w2.heap.size) wr w5 := (H4.out.2.1.trans (Fp.drew (fun _ => False) w4) (fun _ h => h) (fun _ _ h => h.elim)).trans H5.out.2 (fun _ h => h) (fun _ _ h => .inl h)
            have hf6 : Fp (fun k => k = w2.heap.size) w5 w6 := by rw [← hw6]; exact Fp.setCell _ _ _ rfl
            have hpb5 : w5.heap[w2.heap.size]? = some (.cells #[.int .i64 t', .int .u64 (v : Nat)] 158 (0, 0)) := (H5.out.2.block _ hpl4 (by omega)).trans hpb4.out
            have hpb6 : w6.heap[w2.heap.size]? = some (.cells #[.int .i64 t', .int .u64 ((v ^^^ Silo.rdN st1 : Nat) : Int)] 158 (0, 0)) := by rw [← hw6]; exact heap_set hpb5 _
            have hfr6 : Fp (fun k => k = rb ∨ k = w2.heap.size) wr w6 := hf5.trans hf6 (fun _ h => h) (fun _ _ h => .inr h)
            have hbx6 : w6.cell? ⟨bx, 0, none⟩ = some (.pointer (some ⟨rb, 0, none⟩)) := by
              rw [hfr6.cell (p := ⟨bx, 0, none⟩) (by have := HX.out.2.2.1; simp; omega) (by have := HX.out.2.2; simp; omega)]; exact HBX.out
            have hrd6 : RdS w6 rb (Silo.rdR st1) := H5.out.1.fp hf6 (by omega)
            have hc60 : w6.cell? ⟨w2.heap.size, 0, none⟩ = some (.int .i64 t') := by simp [World.cell?, hpb6]
            have hc61 : w6.cell? ⟨w2.heap.size, 1, none⟩ = some (.int .u64 ((v ^^^ Silo.rdN st1 : Nat) : Int)) := by simp [World.cell?, hpb6]
            rw [hw6]
            have H6 : Hid _ := And.intro hrd6 (And.intro hfr6 (And.intro hpb6 H4.out.2.2))
            have hsz6 : wr.heap.size ≤ w6.heap.size := hfr6.size
            clear hw6 hf5 hf6 hpb5 hpb6 hfr6 hrd6 H5 H4 hv5 hz5 hbx4 hv4 hz4 hpb4 hbl hpl4
            gi_wp2_with fail
            refine ⟨trivial, fun _ => by omega, (callsIn_wide.2 (RdFailed_st w6 rb _ H6.out.1)).mono ?_⟩
            rintro e w7 ⟨rfl, rfl⟩
            cases hres : Silo.rdR st1 with
            | none =>
              rw [hres] at H6
              gi_wp2_with fail
              refine ⟨fun _ h => (by cases h), ?_⟩
              gi_wp2
              refine bodyPost_ret (results_none rfl _ _ _) rfl ?_
              exact fin1 HX.out.2.2 HB.out HJ.out hrl hlt HT.out.2 hres HP.out H6.out
            | some rest =>
              rw [hres] at H6
              obtain ⟨fn, tmps, assign, body, hy, hR⟩ := HY.out B' pre ⟨t', v ^^^ Silo.rdN st1⟩ w7 (HJ.out _ _ _ _ HP.out.1 (fun j hj => (HP.out.2.2.2.2.2.2.2.2.2 j hj).2.1) (H6.out.2.1.mono (fun j _ e hj => stay HB.out hrl (HP.out.2.2.2.2.2.2.2.2.2 j hj) e)))
                (fun j hj => Nat.lt_of_lt_of_le (HP.out.2.2.2.2.2.2.2.2.2 j hj).2.1 hsz6) (pre_step hlt HT.out.1 HT.out.2 hres HP.out.2.2.2.2.2.2.1).1
              dsimp only [ptV] at hy
              gi_wp2
              refine ⟨fun _ => by omega, hR.mono ?_⟩
              rintro e W3 ⟨rfl, B2, h3⟩
              have H8 : Hid _ := h3
              clear h3 hR hy
              gi_wp2
              go_roundw
              case rel => exact ⟨k + 1, by omega, by go_num, step1 HX.out HB.out hrl hlt HT.out.1 HT.out.2 hres HP.out H6.out H8.out HBX.out⟩
              case measure => simp [intOf]; omega
        · obtain rfl : k = Silo.rdN st := by omega
          gi_wp2
          go_end0
          exact fin2 HP.out

end Go.Proofs.YtbimkgmhfcgpmaaGreatDoor
