/- readSamples: its contract by footprints. -/
import Derived.Test.YtbimkgmhfcgpmaaGreatDoorRdPtsOne
import Derived.Sort.LoopGhostIn
namespace Go.Proofs.YtbimkgmhfcgpmaaGreatDoor
open Go.RowKit Go.Shelf
attribute [local go_sem] Oper.semAt_some

/-- A sample as a value. -/
def smpV (x : Silo.Smp) : Value := .agg #[.int .i64 x.s, .int .i64 x.t, .int .u64 (x.v : Nat)]

theorem yieldAt_wide {m m' : Nat} {P : Program} {l l' : Nat} {args : Array Value} {W : World} {R : Ending → World → Prop} (h : YieldAt Fence.wide m P l args W R) : YieldAt (Fence.wide.inRound l') m' P l args W R := by
  obtain ⟨fn, tmps, assign, body, hy, hF, hR⟩ := h
  exact ⟨fn, tmps, assign, body, hy, hF, fun c cs _ => hR c cs (room_wide _)⟩

/-- The marks of the loops over functions that are through: their blocks lie there, shut, each but once. -/
def Marks (W : World) : List Deferred → Prop
  | [] => True
  | d :: ds => (∃ D, d = { target := .collected D, args := #[] } ∧ W.heap[D]? = some (.deferred (some [])) ∧ ∀ e ∈ ds, e ≠ d) ∧ Marks W ds

def markB (ds : List Deferred) (k : Nat) : Prop := ({ target := .collected k, args := #[] } : Deferred) ∈ ds

theorem Marks.fp {W W' : World} {T : Nat → Prop} (hf : Fp T W W') : ∀ {ds : List Deferred}, Marks W ds → (∀ k, markB ds k → ¬ T k) → Marks W' ds
  | [], _, _ => trivial
  | d :: ds, ⟨⟨D, hd, hD, hne⟩, hr⟩, hT =>
    ⟨⟨D, hd, (hf.block D (heap_lt hD) (hT D (by rw [markB, ← hd]; exact List.mem_cons_self))).trans hD, hne⟩, Marks.fp hf hr (fun k hk => hT k (List.mem_cons_of_mem _ hk))⟩

theorem Marks.lt {W : World} : ∀ {ds : List Deferred}, Marks W ds → ∀ k, markB ds k → k < W.heap.size
  | d :: ds, ⟨⟨D, hd, hD, _⟩, hr⟩, k, hk => by
    rcases List.mem_cons.1 hk with h | h
    · rw [hd] at h; cases h; exact heap_lt hD
    · exact Marks.lt hr k h

theorem leaves_marks {n : Nat} {P : Program} {fn : Func} {tmps : Array Value} {R : Ending → World → Prop} (hn : fn.results = #[]) : ∀ (ds : List Deferred) (W : World), Marks W ds →
    (∀ W', Fp (markB ds) W W' → R (.returned (.tuple #[])) W') → LeavesInM Fence.wide n P fn tmps R ds .returning W := by
  intro ds
  induction ds with
  | nil =>
    intro W _ h
    exact ⟨_, results_none hn _ _ _, h W (Fp.refl _ _)⟩
  | cons d ds ih =>
    rintro W ⟨⟨D, hd, hD, hne⟩, hr⟩ h
    refine ⟨by simp, .inl ⟨D, _, by rw [hd], run_takeDeferred hD, ?_⟩⟩
    have hf : Fp (fun k => k = D) W (W.putObj D (.deferred none)) := Fp.putObj _ _ _ rfl
    refine ih _ (hr.fp hf (fun k hk e => ?_)) (fun W' hW' => h W' ?_)
    · subst e; exact hne _ hk hd.symm
    · exact hf.trans hW' (fun k e => by subst e; rw [markB, ← hd]; exact List.mem_cons_self) (fun k _ hk => List.mem_cons_of_mem _ hk)

/-- A loop: an invariant that bears a number, which every round lowers. -/
theorem wpIn_loop_num {F : Fence} {rm : Nat} {P : Program} {Q : Exit → Act → World → Prop} {a : Act} {w : World} {c : Code} (I : Nat → Act → World → Prop) (n₀ : Nat) (h₀ : I n₀ a w)
    (round : ∀ n a w, I n a w → ∀ K : Act → World → Prop, (∀ a' w' n', n' < n → I n' a' w' → K a' w') → c.wpIn F rm P (Exit.then K Q) a w) : (Code.loop c).wpIn F rm P Q a w :=
  wpIn_loop_ghost I n₀ h₀ fun n a w h => round n a w h _ (fun _ _ n' h1 h2 => ⟨n', h1, h2⟩)

set_option maxHeartbeats 400000 in
theorem readSamples_any (rb : Nat) (w : World) :
    Calls Tryz.prog 72 #[.pointer (some ⟨rb, 0, none⟩)] w fun e w' => e = .returned (.func (.func 85) #[] #[.pointer (some ⟨w.heap.size, 0, none⟩)]) ∧ w' = w.alloc (.cells #[.pointer (some ⟨rb, 0, none⟩)] 99) := by
  have hmf : ∀ (fn : Fn) (first cap : Array Value) (w : World), (Instr.makeFunc fn first cap).run Tryz.prog w = .ok (.func fn first cap) w := fun _ _ _ _ => rfl
  go_enter Tryz.func72, Tryz.ntmps72
  go_wp2
  go_ret
  exact ⟨ret_val (by simp), rfl⟩

/-- Between two series: what has come, what is left; yb: the box of yield; ds: the marks. -/
def SInv (J : (Nat → Prop) → List Silo.Smp → World → Prop) (B : Nat → Prop) (W : World) (l bx rb yb : Nat) (st : Silo.St) (m : Nat) (ahead : Nat) (ds : List Deferred) (wr : World) : Prop :=
  ∃ (B' : Nat → Prop) (pre : List Silo.Smp) (stc : Silo.St), J B' pre wr ∧ RdS wr rb stc ∧ Silo.left stc ≤ 1099511627776 ∧ 17 ≤ m + ahead ∧ ahead ≤ 16 ∧
    (pre ++ (Silo.rdSmp m stc ahead).1, (Silo.rdSmp m stc ahead).2) = Silo.rdSmp 17 st 0 ∧
    Fp (fun j => B j ∨ j = bx ∨ j = rb) W wr ∧ wr.heap[yb]? = some (.cells #[.func (.yield l) #[] #[]] 153 (0, 0)) ∧ Marks wr ds ∧ W.heap.size ≤ yb ∧ (∀ k, markB ds k → W.heap.size ≤ k ∧ k ≠ yb) ∧
    (∀ j, B' j → (B j ∨ W.heap.size ≤ j) ∧ j < wr.heap.size ∧ j ≠ yb ∧ ¬ markB ds j) ∧ wr.cell? ⟨bx, 0, none⟩ = some (.pointer (some ⟨rb, 0, none⟩))

def SAct (l bx yb : Nat) (ahead : Nat) (ds : List Deferred) (a : Act) : Prop :=
  ∃ u4 u5 u6 u7 u8 u9 u10 u11 u12 u13 u14 u15 u16 u17 u18 u19 u20 u21 u22 u23 u24 u25 u26 u27 u28 u29 u30 u31 u32 u33 : Value, a = { tmps := #[.func (.yield l) #[] #[], .pointer (some ⟨bx, 0, none⟩), .pointer (some ⟨yb, 0, none⟩), .int .u64 (ahead : Nat), u4, u5, u6, u7, u8, u9, u10, u11, u12, u13, u14, u15, u16, u17, u18, u19, u20, u21, u22, u23, u24, u25, u26, u27, u28, u29, u30, u31, u32, u33], defers := ds }

section

variable {J : (Nat → Prop) → List Silo.Smp → World → Prop} {B B' : Nat → Prop} {W wr w2 : World} {l bx rb yb : Nat} {st stc stf : Silo.St} {m ahead : Nat} {pre : List Silo.Smp} {ds : List Deferred}

abbrev SBody (J : (Nat → Prop) → List Silo.Smp → World → Prop) (B : Nat → Prop) (W : World) (l bx rb yb : Nat) (st : Silo.St) (m : Nat) (ahead : Nat) (ds : List Deferred) (wr : World) (B' : Nat → Prop) (pre : List Silo.Smp) (stc : Silo.St) (X : Prop) : Prop :=
  J B' pre wr ∧ RdS wr rb stc ∧ Silo.left stc ≤ 1099511627776 ∧ 17 ≤ m + ahead ∧
    (pre ++ (Silo.rdSmp m stc ahead).1, (Silo.rdSmp m stc ahead).2) = Silo.rdSmp 17 st 0 ∧
    Fp (fun j => B j ∨ j = bx ∨ j = rb) W wr ∧ wr.heap[yb]? = some (.cells #[.func (.yield l) #[] #[]] 153 (0, 0)) ∧ Marks wr ds ∧ (∀ k, markB ds k → W.heap.size ≤ k ∧ k ≠ yb) ∧
    (∀ j, B' j → (B j ∨ W.heap.size ≤ j) ∧ j < wr.heap.size ∧ j ≠ yb ∧ ¬ markB ds j) ∧ X

theorem sfin {X : Prop} (hrl : rb < W.heap.size) (hB : ∀ k, B k → k < W.heap.size ∧ ¬ (k = bx ∨ k = rb)) (hJ : Stable J) (hP : SBody J B W l bx rb yb st m ahead ds wr B' pre stc X)
    (hr : Silo.rdSmp m stc ahead = ([], stf)) (hf : Fp (fun k => k = rb) wr w2) (hrd : RdS w2 rb stf) :
    Marks w2 ds ∧ ∀ W', Fp (markB ds) w2 W' → (∃ v, Ending.returned (Value.tuple #[]) = .returned v) ∧
      ∃ B', J B' (Silo.rdSmp 17 st 0).1 W' ∧ Fp (fun k => B k ∨ k = bx ∨ k = rb) W W' ∧ (∀ k, B' k → (B k ∨ W.heap.size ≤ k) ∧ k < W'.heap.size) ∧ RdS W' rb (Silo.rdSmp 17 st 0).2 := by
  obtain ⟨hj, _, _, _, heq, hfp, _, hmk, hml, hbb, _⟩ := hP
  rw [hr] at heq
  simp only [List.append_nil] at heq
  have nrb : ¬ B' rb := fun h => by
    rcases (hbb rb h).1 with h' | h'
    · exact (hB _ h').2 (.inr rfl)
    · omega
  refine ⟨hmk.fp hf (fun k hk e => by have := (hml k hk).1; omega), fun W' hW' => ?_⟩
  rw [← heq]
  have hj2 := hJ _ _ _ _ hj (fun j h => (hbb j h).2.1) (hf.mono (fun j _ e h => nrb (e ▸ h)))
  have hs2 := hf.size
  refine ⟨⟨_, rfl⟩, B', hJ _ _ _ _ hj2 (fun j h => Nat.lt_of_lt_of_le (hbb j h).2.1 hs2) (hW'.mono (fun j _ e h => (hbb j h).2.2.2 e)), ?_, fun j h => ⟨(hbb j h).1, Nat.lt_of_lt_of_le (hbb j h).2.1 (Nat.le_trans hs2 hW'.size)⟩, hrd.fp hW' (fun h => by have := (hml _ h).1; omega)⟩
  have t1 : Fp (fun k => B k ∨ k = bx ∨ k = rb) W w2 := hfp.trans hf (fun _ h => h) (fun _ _ e => .inr (.inr e))
  exact t1.trans hW' (fun _ h => h) (fun j hj h => by have := (hml j h).1; omega)

theorem spre {m' c : Nat} {stn : Silo.St} {pts ps : List Silo.Pt} {x : Silo.Pt} {sv : Int} {full : List Silo.Smp × Silo.St} (he : Silo.rdSmp m stc ahead = (pts.map (fun p => ⟨sv, p.t, p.v⟩) ++ (Silo.rdSmp m' stn c).1, (Silo.rdSmp m' stn c).2))
    (heq : (pre ++ (Silo.rdSmp m stc ahead).1, (Silo.rdSmp m stc ahead).2) = full) (hp : (ps ++ [x]) <+: pts) :
    (pre ++ ps.map (fun p => ⟨sv, p.t, p.v⟩) ++ [⟨sv, x.t, x.v⟩]) <+: full.1 := by
  obtain ⟨r, hr⟩ := hp
  rw [he] at heq
  rw [← heq, ← hr]
  exact ⟨r.map (fun p => ⟨sv, p.t, p.v⟩) ++ (Silo.rdSmp m' stn c).1, by simp⟩

theorem rdSmp_end (hm : 17 ≤ m + ahead) (ha : ahead ≤ 16) (h : Silo.rdN stc = 0) : Silo.rdSmp m stc ahead = ([], Silo.rdR stc) := by
  obtain ⟨m', rfl⟩ : ∃ m', m = m' + 1 := ⟨m - 1, by omega⟩
  rw [Silo.rdSmp, if_pos h]

theorem rdSmp_bad (hm : 17 ≤ m + ahead) (ha : ahead ≤ 16) (h : ¬ Silo.rdN stc = 0) (h' : Silo.rdN stc ≤ ahead ∨ 16 < Silo.rdN stc) : Silo.rdSmp m stc ahead = ([], none) := by
  obtain ⟨m', rfl⟩ : ∃ m', m = m' + 1 := ⟨m - 1, by omega⟩
  rw [Silo.rdSmp, if_neg h, if_pos h']

theorem rdSmp_go (hm : 17 ≤ m + ahead) (ha : ahead ≤ 16) (h : ¬ Silo.rdN stc = 0) (h' : ¬ (Silo.rdN stc ≤ ahead ∨ 16 < Silo.rdN stc)) :
    Silo.rdSmp m stc ahead = ((Silo.rdPoints (Silo.rdR stc)).1.map (fun p => ⟨(Silo.rdN stc : Int) - 1, p.t, p.v⟩) ++ (Silo.rdSmp (m - 1) (Silo.rdPoints (Silo.rdR stc)).2 (Silo.rdN stc)).1, (Silo.rdSmp (m - 1) (Silo.rdPoints (Silo.rdR stc)).2 (Silo.rdN stc)).2) := by
  obtain ⟨m', rfl⟩ : ∃ m', m = m' + 1 := ⟨m - 1, by omega⟩
  rw [Silo.rdSmp, if_neg h, if_neg h']
  simp

end

theorem left_rdPts : ∀ (n : Nat) (st : Silo.St) (t : Int) (v : Nat) (f : Bool), Silo.left (Silo.rdPts n st t v f).2 ≤ Silo.left st := by
  intro n
  induction n with
  | zero => intros; exact Nat.le_refl _
  | succ n ih =>
    intro st t v f
    rw [Silo.rdPts]
    simp only
    have h1 := left_rdTime st t f
    have h2 := left_rdR (Silo.rdTime st t f).2
    cases hr : Silo.rdR (Silo.rdTime st t f).2 with
    | none => exact Nat.zero_le _
    | some l =>
      rw [hr] at h2
      have h3 := ih (some l) (Silo.rdTime st t f).1 (v ^^^ Silo.rdN (Silo.rdTime st t f).2) false
      simp only
      omega

theorem left_rdPoints (st : Silo.St) : Silo.left (Silo.rdPoints st).2 ≤ Silo.left st := by
  unfold Silo.rdPoints
  split
  · exact Nat.zero_le _
  · exact Nat.le_trans (left_rdPts _ _ _ _ _) (left_rdR st)

theorem sdone {J : (Nat → Prop) → List Silo.Smp → World → Prop} {B B' Bf Bj : Nat → Prop} {W wr w1 w3 Wf : World} {l bx rb D : Nat} {st stc : Silo.St} {m ahead : Nat} {pre : List Silo.Smp} {ds : List Deferred} {X : Prop}
    (hx : bx < W.heap.size ∧ bx ≠ rb ∧ rb < W.heap.size) (hB : ∀ k, B k → k < W.heap.size ∧ ¬ (k = bx ∨ k = rb)) (ha : ahead ≤ 16) (c1 : ahead < Silo.rdN stc) (c2 : Silo.rdN stc ≤ 16)
    (hP : SBody J B W l bx rb W.heap.size st m ahead ds wr B' pre stc X)
    (hE : Silo.rdSmp m stc ahead = ((Silo.rdPoints (Silo.rdR stc)).1.map (fun p => ⟨(Silo.rdN stc : Int) - 1, p.t, p.v⟩) ++ (Silo.rdSmp (m - 1) (Silo.rdPoints (Silo.rdR stc)).2 (Silo.rdN stc)).1, (Silo.rdSmp (m - 1) (Silo.rdPoints (Silo.rdR stc)).2 (Silo.rdN stc)).2))
    (hF : Fp (fun k => k = rb) wr w3 ∧ w3.heap.size = w1.heap.size + 2 ∧ wr.heap.size ≤ w1.heap.size ∧ W.heap.size ≤ wr.heap.size ∧ W.heap.size < wr.heap.size ∧ ∀ j, B' j → j ≠ rb ∧ j ≠ W.heap.size ∧ j < w1.heap.size)
    (hZ : J Bj (pre ++ (Silo.rdPoints (Silo.rdR stc)).1.map (fun p => ⟨(Silo.rdN stc : Int) - 1, p.t, p.v⟩)) Wf ∧ (∀ k, Bf k ↔ Bj k ∨ k = W.heap.size ∨ k = w1.heap.size) ∧ ¬ Bj W.heap.size ∧ ¬ Bj w1.heap.size ∧
      Wf.heap[W.heap.size]? = some (.cells #[.func (.yield l) #[] #[]] 153 (0, 0)) ∧ Wf.heap[w1.heap.size]? = some (.cells #[.int .u64 (Silo.rdN stc : Nat)] 39 (0, 0)) ∧ (∀ k, Bj k → B' k ∨ w3.heap.size ≤ k) ∧
      Fp (fun k => (B' k ∨ k = W.heap.size ∨ k = w1.heap.size) ∨ k = w1.heap.size + 1 ∨ k = rb) w3 Wf ∧ (∀ k, Bf k → ((B' k ∨ k = W.heap.size ∨ k = w1.heap.size) ∨ w3.heap.size ≤ k) ∧ k < Wf.heap.size) ∧ ¬ Bf D ∧
      RdS Wf rb (Silo.rdPoints (Silo.rdR stc)).2 ∧ Wf.heap[D]? = some (.deferred (some [])))
    (hD : w3.heap.size ≤ D) (hbx : wr.cell? ⟨bx, 0, none⟩ = some (.pointer (some ⟨rb, 0, none⟩))) :
    SInv J B W l bx rb W.heap.size st (m - 1) (Silo.rdN stc) ({ target := .collected D, args := #[] } :: ds) Wf := by
  obtain ⟨hj, hrd, hlc, hma, heq, hfp, hyb, hmk, hml, hbb, _⟩ := hP
  obtain ⟨hfr, hsz3, hlw, hfw, hylt, nb⟩ := hF
  obtain ⟨hjf, hBB, n1, n2, y1, y2, hold, hff, hBf, hnD, hEf, hdef⟩ := hZ
  have nbx : ¬ B' bx := fun h => by
    rcases (hbb bx h).1 with h' | h'
    · exact (hB _ h').2 (.inl rfl)
    · omega
  have hmlt := hmk.lt
  refine ⟨Bj, _, _, hjf, hEf, Nat.le_trans (left_rdPoints _) (Nat.le_trans (left_rdR _) hlc), by omega, c2, ?_, ?_, y1, ⟨⟨D, rfl, hdef, ?_⟩, ?_⟩, Nat.le_refl _, ?_, ?_, ?_⟩
  · rw [hE] at heq; rw [← heq]; simp
  · have t1 : Fp (fun j => B j ∨ j = bx ∨ j = rb) W w3 := hfp.trans hfr (fun _ h => h) (fun _ _ e => .inr (.inr e))
    refine t1.trans hff (fun _ h => h) (fun j hj h => ?_)
    rcases h with (h | rfl | rfl) | rfl | rfl
    · exact (hbb j h).1.elim .inl (fun h => by omega)
    · omega
    · omega
    · omega
    · exact .inr (.inr rfl)
  · intro e he h
    subst h
    have := hmlt D he
    omega
  · refine (hmk.fp hfr (fun k hk e => by have := (hml k hk).1; omega)).fp hff (fun k hk h => ?_)
    have h1 := hml k hk
    have h2 := hmlt k hk
    rcases h with (h | rfl | rfl) | rfl | rfl
    · exact (hbb k h).2.2.2 hk
    · omega
    · omega
    · omega
    · omega
  · intro k hk
    rcases List.mem_cons.1 hk with h | h
    · cases h; exact ⟨by omega, by omega⟩
    · exact hml k h
  · intro j h
    refine ⟨?_, (hBf j ((hBB j).2 (.inl h))).2, fun e => n1 (e ▸ h), fun hk => ?_⟩
    · rcases hold j h with h' | h'
      · exact (hbb j h').1
      · right; omega
    · rcases List.mem_cons.1 hk with h' | h'
      · cases h'; exact hnD ((hBB _).2 (.inl h))
      · rcases hold j h with h'' | h''
        · exact (hbb j h'').2.2.2 h'
        · have := hmlt j h'; omega
  · rw [hff.cell (p := ⟨bx, 0, none⟩) (by have := hfr.size; simp; omega) (by
      rintro ((h | h | h) | h | h)
      · exact nbx h
      · simp at h; omega
      · simp at h; omega
      · simp at h; omega
      · exact hx.2.1 h), hfr.cell (p := ⟨bx, 0, none⟩) (by simp; omega) hx.2.1]
    exact hbx

set_option maxHeartbeats 1000000 in
set_option maxRecDepth 100000 in
theorem readSamplesCl_seq (n : Nat) (hn : 9 ≤ n) (bx rb : Nat) (st : Silo.St) (w : World) (hbx : w.heap[bx]? = some (.cells #[.pointer (some ⟨rb, 0, none⟩)] 99 (0, 0)))
    (hne : bx ≠ rb) (hst : RdS w rb st) (hs : Silo.left st ≤ 1099511627776) :
    SeqFp Fence.wide n Tryz.prog 85 #[.pointer (some ⟨bx, 0, none⟩)] (fun p => #[smpV p]) (Silo.rdSmp 17 st 0).1 (fun k => k = bx ∨ k = rb) (fun k => k = bx ∨ k = rb) w (fun W => RdS W rb (Silo.rdSmp 17 st 0).2) := by
  intro l J B W hW hB hJ hY h0
  refine callsIn_of_wp_marks Tryz.func85 rfl trivial ?_ rfl
  simp only [Tryz.ntmps85, List.size_toArray, List.length_cons, List.length_nil, Nat.reduceAdd, Nat.reduceSub, Array.replicate_succ, Array.replicate_zero, List.push_toArray, List.append_toArray, List.nil_append, List.cons_append]
  have hbxW : W.cell? ⟨bx, 0, none⟩ = some (.pointer (some ⟨rb, 0, none⟩)) := by
    rw [hW.cell (p := ⟨bx, 0, none⟩) (heap_lt hbx) (fun h => h)]; simp [World.cell?, hbx]
  have HX : Hid (RdS W rb st ∧ bx < W.heap.size ∧ bx ≠ rb ∧ rb < W.heap.size) := ⟨hst.fp hW (fun h => h), Nat.lt_of_lt_of_le (heap_lt hbx) hW.size, hne, (hst.fp hW (fun h => h)).lt⟩
  have HY : Hid _ := hY
  have HJ : Hid _ := hJ
  have H0 : Hid _ := h0
  have HB : Hid _ := hB
  clear hY hJ h0 hB hst hbx hne
  gi_wp2_with fail
  refine wpIn_loop_num (fun m a wr => ∃ ahead ds, SAct l bx W.heap.size ahead ds a ∧ SInv J B W l bx rb W.heap.size st m ahead ds wr) 17 ?_ ?_
  · refine ⟨0, [], ⟨_, _, _, _, _, _, _, _, _, _, _, _, _, _, _, _, _, _, _, _, _, _, _, _, _, _, _, _, _, _, rfl⟩, B, [], st, ?_⟩
    have hf : Fp (fun _ => False) W (W.alloc (.cells #[.func (.yield l) #[] #[]] 153)) := Fp.alloc _ _ _
    refine ⟨HJ.out B [] W _ H0.out (fun k hk => (HB.out k hk).1) (hf.mono (fun _ _ h => h.elim)), HX.out.1.fp hf (fun h => h), hs, by omega, by omega, rfl, hf.mono (fun _ _ h => h.elim), heap_new _ _, trivial, Nat.le_refl _, fun k hk => (by cases hk), ?_, ?_⟩
    · intro j hj
      have := (HB.out j hj).1
      exact ⟨.inl hj, by simp; omega, by omega, fun h => (by cases h)⟩
    · rw [World.cell?_alloc_past _ _ _ (by have := HX.out.2.1; omega)]; exact hbxW
  · rintro m a wr ⟨ahead, ds, ⟨u4, u5, u6, u7, u8, u9, u10, u11, u12, u13, u14, u15, u16, u17, u18, u19, u20, u21, u22, u23, u24, u25, u26, u27, u28, u29, u30, u31, u32, u33, rfl⟩, B', pre, stc, hj, hrd, hlc, hma, ha, hres, hfp, hyb, hmk, hyl, hml, hbb, hbxr⟩ K hK
    have hcy : wr.cell? ⟨W.heap.size, 0, none⟩ = some (.func (.yield l) #[] #[]) := by simp [World.cell?, hyb]
    have HP : Hid _ := And.intro hj (And.intro hrd (And.intro hlc (And.intro hma (And.intro hres (And.intro hfp (And.intro hyb (And.intro hmk (And.intro hml (And.intro hbb hK)))))))))
    clear hj hrd hlc hma hres hfp hyb hmk hml hbb hbxW hs hyl
    gi_wp2_with fail
    refine ⟨trivial, fun _ => by omega, (callsIn_wide.2 (RdCode_any wr rb stc HP.out.2.1 (Nat.le_trans HP.out.2.2.1 (by decide)))).mono ?_⟩
    rintro e w1 ⟨rfl, h1⟩
    have H1 : Hid _ := h1
    clear h1
    by_cases c0 : Silo.rdN stc = 0
    · have d0 : (((Silo.rdN stc : Nat) : Int) == 0) = true := by simp [c0]
      have HE : Hid _ := rdSmp_end HP.out.2.2.2.1 ha c0
      clear c0
      gi_wp2_with fail
      have hf2 : Fp (fun k => k = rb) wr (w1.alloc (.cells #[.int .u64 (Silo.rdN stc : Nat)] 39)) := H1.out.2.trans (Fp.alloc (fun _ => False) _ _) (fun _ h => h) (fun _ _ h => h.elim)
      have hfin := sfin HX.out.2.2.2 HB.out HJ.out HP.out HE.out hf2 (H1.out.1.fp (Fp.alloc (fun _ => False) _ _) (fun h => h))
      exact leaves_marks rfl ds _ hfin.1 hfin.2
    · have d0 : (((Silo.rdN stc : Nat) : Int) == 0) = false := by simpa using c0
      have hbx1 : w1.cell? ⟨bx, 0, none⟩ = some (.pointer (some ⟨rb, 0, none⟩)) := by
        rw [H1.out.2.cell (p := ⟨bx, 0, none⟩) (by have := HX.out.2.1; have := HP.out.2.2.2.2.2.1.size; simp; omega) HX.out.2.2.1]; exact hbxr
      have hbl : bx < w1.heap.size := by have := HX.out.2.1; have := HP.out.2.2.2.2.2.1.size; have := H1.out.2.size; omega
      by_cases c1 : Silo.rdN stc ≤ ahead
      · have HE : Hid _ := rdSmp_bad HP.out.2.2.2.1 ha c0 (.inl c1)
        clear c0
        gi_wp2_with fail
        refine ⟨trivial, fun _ => by omega, (callsIn_wide.2 (RdFail_st (w1.alloc (.cells #[.int .u64 (Silo.rdN stc : Nat)] 39)) rb _ (H1.out.1.fp (Fp.alloc (fun _ => False) _ _) (fun h => h)))).mono ?_⟩
        rintro e w2 ⟨rfl, h2⟩
        have H2 : Hid _ := h2
        clear h2
        gi_wp2
        have hf2 : Fp (fun k => k = rb) wr w2 := (H1.out.2.trans (Fp.alloc (fun _ => False) _ _) (fun _ h => h) (fun _ _ h => h.elim)).trans' H2.out.2
        have hfin := sfin HX.out.2.2.2 HB.out HJ.out HP.out HE.out hf2 H2.out.1
        exact leaves_marks rfl ds _ hfin.1 hfin.2
      · by_cases c2 : 16 < Silo.rdN stc
        · have HE : Hid _ := rdSmp_bad HP.out.2.2.2.1 ha c0 (.inr c2)
          clear c0
          gi_wp2_with fail
          refine ⟨trivial, fun _ => by omega, (callsIn_wide.2 (RdFail_st (w1.alloc (.cells #[.int .u64 (Silo.rdN stc : Nat)] 39)) rb _ (H1.out.1.fp (Fp.alloc (fun _ => False) _ _) (fun h => h)))).mono ?_⟩
          rintro e w2 ⟨rfl, h2⟩
          have H2 : Hid _ := h2
          clear h2
          gi_wp2
          have hf2 : Fp (fun k => k = rb) wr w2 := (H1.out.2.trans (Fp.alloc (fun _ => False) _ _) (fun _ h => h) (fun _ _ h => h.elim)).trans' H2.out.2
          have hfin := sfin HX.out.2.2.2 HB.out HJ.out HP.out HE.out hf2 H2.out.1
          exact leaves_marks rfl ds _ hfin.1 hfin.2
        · have HE : Hid _ := rdSmp_go HP.out.2.2.2.1 ha c0 (by omega)
          clear c0
          gi_wp2_with fail
          refine ⟨trivial, fun _ => by omega, (callsIn_wide.2 (readPoints_any rb (w1.alloc (.cells #[.int .u64 (Silo.rdN stc : Nat)] 39)))).mono ?_⟩
          rintro e w2 ⟨rfl, rfl⟩
          gi_wp2_with fail
          have hlw : wr.heap.size ≤ w1.heap.size := H1.out.2.size
          have hfw : W.heap.size ≤ wr.heap.size := HP.out.2.2.2.2.2.1.size
          have hylt : W.heap.size < wr.heap.size := heap_lt HP.out.2.2.2.2.2.2.1
          have hrl := HX.out.2.2.2
          obtain ⟨w3, hw3⟩ : ∃ w3, (w1.alloc (.cells #[.int .u64 (Silo.rdN stc : Nat)] 39)).alloc (.cells #[.pointer (some ⟨rb, 0, none⟩)] 99) = w3 := ⟨_, rfl⟩
          have hf3 : Fp (fun _ => False) w1 w3 := by rw [← hw3]; exact (Fp.alloc _ _ _).trans' (Fp.alloc _ _ _)
          have hcb3 : w3.heap[w1.heap.size]? = some (.cells #[.int .u64 (Silo.rdN stc : Nat)] 39 (0, 0)) := by rw [← hw3]; exact heap_old _ _ (heap_new _ _)
          have hpx3 : w3.heap[w1.heap.size + 1]? = some (.cells #[.pointer (some ⟨rb, 0, none⟩)] 99 (0, 0)) := by
            rw [← hw3]; have := heap_new (w1.alloc (.cells #[.int .u64 (Silo.rdN stc : Nat)] 39)) (.cells #[.pointer (some ⟨rb, 0, none⟩)] 99); rwa [World.size_alloc] at this
          have hsz3 : w3.heap.size = w1.heap.size + 2 := by rw [← hw3]; simp
          have hfr3 : Fp (fun k => k = rb) wr w3 := H1.out.2.trans hf3 (fun _ h => h) (fun _ _ h => h.elim)
          have hyb3 : w3.heap[W.heap.size]? = some (.cells #[.func (.yield l) #[] #[]] 153 (0, 0)) := (hfr3.block _ hylt (by omega)).trans HP.out.2.2.2.2.2.2.1
          have nb : ∀ j, B' j → j ≠ rb ∧ j ≠ W.heap.size ∧ j < w1.heap.size := fun j h => by
            have h1 := HP.out.2.2.2.2.2.2.2.2.2.1 j h
            refine ⟨?_, h1.2.2.1, by omega⟩
            rintro rfl
            rcases h1.1 with h' | h'
            · exact (HB.out _ h').2 (.inr rfl)
            · omega
          have hj3 : J B' pre w3 := HJ.out _ _ _ _ HP.out.1 (fun j h => (HP.out.2.2.2.2.2.2.2.2.2.1 j h).2.1) (hfr3.mono (fun j _ e h => (nb j h).1 e))
          have HF : Hid _ := And.intro hfr3 (And.intro hsz3 (And.intro hlw (And.intro hfw (And.intro hylt nb))))
          rw [hw3]
          have HBXR : Hid (wr.cell? ⟨bx, 0, none⟩ = some (.pointer (some ⟨rb, 0, none⟩))) := hbxr
          clear hw3 hbx1 hbxr hcy
          refine wpIn_rangeFp rfl (by omega) (gf := 99) (lb := #[.pointer (some ⟨w1.heap.size + 1, 0, none⟩)]) rfl trivial (enters_of Tryz.func99 (by kernel_rfl) rfl)
            (readPointsCl_seq (n - 1) (by omega) (w1.heap.size + 1) rb (Silo.rdR stc) w3 hpx3 (by omega) (H1.out.1.fp hf3 (fun h => h)) (Nat.le_trans (left_rdR _) HP.out.2.2.1)) (fun _ => rfl)
            (fun A A' h hf => h.fp hf (fun h => h (.inr rfl))) (by rintro k (rfl | rfl) <;> omega)
            (fun Bi ps W' => ∃ Bj : Nat → Prop, J Bj (pre ++ ps.map (fun p => ⟨(Silo.rdN stc : Int) - 1, p.t, p.v⟩)) W' ∧ (∀ k, Bi k ↔ Bj k ∨ k = W.heap.size ∨ k = w1.heap.size) ∧ ¬ Bj W.heap.size ∧ ¬ Bj w1.heap.size ∧
              W'.heap[W.heap.size]? = some (.cells #[.func (.yield l) #[] #[]] 153 (0, 0)) ∧ W'.heap[w1.heap.size]? = some (.cells #[.int .u64 (Silo.rdN stc : Nat)] 39 (0, 0)) ∧
              ∀ k, Bj k → B' k ∨ w3.heap.size ≤ k)
            ?hI (fun k => B' k ∨ k = W.heap.size ∨ k = w1.heap.size) ?hB0 ?h0 ?hround ?hdone
          case hI =>
            rintro Bi ps A A' ⟨Bj, hj, hB, n1, n2, y1, y2, hold⟩ hlt hf
            exact ⟨Bj, HJ.out Bj _ A A' hj (fun k hk => hlt k ((hB k).2 (.inl hk))) (hf.mono (fun k _ h hk => h ((hB k).2 (.inl hk)))), hB, n1, n2,
              (hf.block _ (heap_lt y1) (fun h => h ((hB _).2 (.inr (.inl rfl))))).trans y1, (hf.block _ (heap_lt y2) (fun h => h ((hB _).2 (.inr (.inr rfl))))).trans y2, hold⟩
          case hB0 =>
            rintro k (h | rfl | rfl)
            · have := nb k h; exact ⟨by omega, by omega⟩
            · exact ⟨by omega, by omega⟩
            · exact ⟨by omega, by omega⟩
          case h0 => exact ⟨B', by simpa using hj3, fun _ => Iff.rfl, fun h => (nb _ h).2.1 rfl, fun h => by have := (nb _ h).2.2; omega, hyb3, hcb3, fun _ h => .inl h⟩
          case hround =>
            rintro l' Bi ps x Wq K' hl' hlt' hrec hnl hIq hBq hpre hK'
            clear hcb3 hpx3 hyb3 hj3 nb hf3 hfr3
            have hpt : ptV x = .agg #[.int .i64 x.t, .int .u64 (x.v : Nat)] := rfl
            have HK' : Hid _ := hK'
            have HI : Hid _ := And.intro hIq (And.intro hBq (And.intro hpre (And.intro hnl hrec)))
            clear hK' hIq hBq hpre hnl hrec
            gi_wp2
            refine HK'.out _ _ (Fp.alloc _ _ _) ?_
            intro Wc hfc hrecc hIc
            obtain ⟨Bj, hjc, hBB, n1, n2, y1, y2, hold⟩ := hIc
            have hxb : Wc.heap[Wq.heap.size]? = some (.cells #[.int .i64 x.t, .int .u64 (x.v : Nat)] 158 (0, 0)) := (hfc.block _ (by simp) (by omega)).trans (heap_new _ _)
            have k0 : Wc.cell? ⟨Wq.heap.size, 0, none⟩ = some (.int .i64 x.t) := by simp [World.cell?, hxb]
            have k1 : Wc.cell? ⟨Wq.heap.size, 1, none⟩ = some (.int .u64 (x.v : Nat)) := by simp [World.cell?, hxb]
            have k2 : Wc.cell? ⟨W.heap.size, 0, none⟩ = some (.func (.yield l) #[] #[]) := by simp [World.cell?, y1]
            have k3 : Wc.cell? ⟨w1.heap.size, 0, none⟩ = some (.int .u64 (Silo.rdN stc : Nat)) := by simp [World.cell?, y2]
            have hszc : Wq.heap.size ≤ Wc.heap.size := by have := hfc.size; simp at this; omega
            obtain ⟨fn, tmps, assign, body, hy, hR⟩ := yieldAt_wide (l' := l') (m' := n - 1 - 1 - 1) (HY.out Bj _ ⟨(Silo.rdN stc : Int) - 1, x.t, x.v⟩ Wc hjc (fun k hk => Nat.lt_of_lt_of_le (HI.out.2.1 k ((hBB k).2 (.inl hk))) hszc) (spre HE.out HP.out.2.2.2.2.1 HI.out.2.2.1))
            dsimp only [smpV] at hy
            have HQ : Hid _ := And.intro hjc (And.intro hBB (And.intro n1 (And.intro n2 (And.intro y1 (And.intro y2 (And.intro hold hfc))))))
            clear hjc hBB n1 n2 y1 y2 hold hfc hxb hpt HK' hrecc
            gi_wp2
            refine ⟨fun _ => by omega, hR.mono ?_⟩
            rintro e W3 ⟨rfl, B2, h3⟩
            have H3 : Hid _ := h3
            clear h3 hR hy k0 k1 k2 k3
            gi_wp2
            obtain ⟨hj3, hf3, hb3⟩ := H3.out
            obtain ⟨hjc, hBB, n1, n2, y1, y2, hold, hfc⟩ := HQ.out
            have hyl := heap_lt y1
            have hcl := heap_lt y2
            refine ⟨fun k => B2 k ∨ k = W.heap.size ∨ k = w1.heap.size, ⟨B2, by simpa using hj3, fun _ => Iff.rfl, fun h => (hb3 _ h).1.elim n1 (fun h => by omega), fun h => (hb3 _ h).1.elim n2 (fun h => by omega),
              (hf3.block _ hyl n1).trans y1, (hf3.block _ hcl n2).trans y2, fun k hk => (hb3 k hk).1.elim (hold k) (fun h => .inr (by omega))⟩, hf3.mono (fun k _ h => .inl ((hBB k).2 (.inl h))), ?_⟩
            have hs3 := hf3.size
            rintro k (hk | rfl | rfl)
            · exact ⟨(hb3 k hk).1.elim (fun h => .inl ((hBB k).2 (.inl h))) (fun h => .inr (by omega)), (hb3 k hk).2⟩
            · exact ⟨.inl ((hBB _).2 (.inr (.inl rfl))), by omega⟩
            · exact ⟨.inl ((hBB _).2 (.inr (.inr rfl))), by omega⟩
          case hdone =>
            rintro D Bf Wf hD ⟨Bj, hjf, hBB, n1, n2, y1, y2, hold⟩ hff hBf hnD hEf hdef
            have HZ : Hid _ := And.intro hjf (And.intro hBB (And.intro n1 (And.intro n2 (And.intro y1 (And.intro y2 (And.intro hold (And.intro hff (And.intro hBf (And.intro hnD (And.intro hEf hdef))))))))))
            clear hjf hBB n1 n2 y1 y2 hold hff hBf hnD hEf hdef hcb3 hpx3 hyb3 hj3 nb hf3 hfr3
            gi_wp2
            refine HP.out.2.2.2.2.2.2.2.2.2.2 _ _ (m - 1) (by have := HP.out.2.2.2.1; omega) ⟨Silo.rdN stc, _ :: ds, ⟨_, _, _, _, _, _, _, _, _, _, _, _, _, _, _, _, _, _, _, _, _, _, _, _, _, _, _, _, _, _, rfl⟩, ?_⟩
            exact sdone HX.out.2 HB.out ha (by omega) (by omega) HP.out HE.out HF.out HZ.out hD HBXR.out

end Go.Proofs.YtbimkgmhfcgpmaaGreatDoor
