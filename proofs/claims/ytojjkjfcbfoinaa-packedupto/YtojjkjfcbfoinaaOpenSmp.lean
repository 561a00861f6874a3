/- An argument that is a slice of samples, opened; what a call that only grows the heap leaves. -/
import Derived.Test.YtojjkjfcbfoinaaLayAid
import Derived.ProofKit
import Derived.OpenShut
import Derived.JoinedCond
import Derived.Carry
import Derived.Deep.Slices
namespace Go.Proofs.Ytojjkjfcbfoinaa
open Go.ChangeShapes Go.WideShapes Go.ChangeAt Go.RowKit
open Go.ChangeMaps (open_string shut_string)
open Go.Deep

theorem i64_of_wf {n : Int} (h : (Lit.int .i64 n).wf = true) : -9223372036854775808 ≤ n ∧ n ≤ 9223372036854775807 := by
  have e1 : IntKind.i64.min = -9223372036854775808 := by decide
  have e2 : IntKind.i64.max = 9223372036854775807 := by decide
  simp only [Lit.wf, Bool.and_eq_true, decide_eq_true_eq, e1, e2] at h
  exact h

theorem u64_of_wf {n : Int} (h : (Lit.int .u64 n).wf = true) : 0 ≤ n ∧ n ≤ 18446744073709551615 := by
  have e1 : IntKind.u64.min = 0 := by decide
  have e2 : IntKind.u64.max = 18446744073709551615 := by decide
  simp only [Lit.wf, Bool.and_eq_true, decide_eq_true_eq, e1, e2] at h
  exact h

theorem bulkAll_le {H : Type} {ds : List (DataW H)} (h : ∀ d ∈ ds, 1 ≤ Rows.uptoBulk d) : ds.length ≤ Rows.uptoBulkAll ds := by
  induction ds with
  | nil => simp
  | cons d ds ih =>
    have h1 := h d (by simp)
    have h2 := ih (fun x hx => h x (by simp [hx]))
    simp only [Rows.uptoBulkAll, List.length_cons]
    omega

theorem bulk_pos {H : Type} (d : DataW H) : 1 ≤ Rows.uptoBulk d := by
  cases d with
  | lit l => cases l <;> simp [Rows.uptoBulk]
  | _ => simp [Rows.uptoBulk]

set_option maxRecDepth 100000 in
theorem open_smps {H : Type} {enc : TypeId × Value → H} {W : World} {base b0 : Nat} {sp : Nat → Bool} {held : Bool} {v : Value} {d : DataW H} {ps : List MemPlace} {r : Reach}
    (hval : Value.okWide Try.prog W r b0 22 v) (hd : DataW.Trod enc Try.prog W base sp held 22 v d ps) :
    ∃ raw : List Silo.Smp, SmpIn W W.heap.size v raw ∧ (∀ x ∈ raw, Silo.isInt x.s ∧ Silo.isInt x.t ∧ x.v < Silo.M64) ∧ raw.length ≤ Rows.uptoBulk d := by
  obtain ⟨a, len, cap, rfl⟩ := okWide_slice Try.underlying22 hval
  obtain ⟨fuel, h⟩ := hd
  have hc : (Value.slice a len cap).cells.toList = [Value.slice a len cap] := rfl
  rw [hc] at h
  rcases open_slice Try.underlying22 h with ⟨h1, h2⟩ | ⟨a, len', cap', m, n, D, Pl, h1, hb, hl, hm, hmm, hx, hall⟩
  · simp only [List.cons.injEq, and_true, Value.slice.injEq] at h1
    obtain ⟨rfl, rfl, rfl⟩ := h1
    exact ⟨[], SmpIn.nil _ _, by simp, by simp⟩
  · simp only [List.cons.injEq, and_true, Value.slice.injEq] at h1
    obtain ⟨rfl, rfl, rfl⟩ := h1
    simp only [Prod.mk.injEq] at hx
    have hlm : len ≤ m := by rw [hmm]; split <;> omega
    have hce : Try.prog.cellsOf 42 = 3 := by kernel_rfl
    have c3 : Try.prog.cellsOf 3 = 1 := by kernel_rfl
    have c4 : Try.prog.cellsOf 40 = 1 := by kernel_rfl
    have each : ∀ i, i < len → ∃ x : Silo.Smp, (Silo.isInt x.s ∧ Silo.isInt x.t ∧ x.v < Silo.M64) ∧ W.cell? (a.add (i * 3)) = some (.int .i64 x.s) ∧ W.cell? (a.add (i * 3 + 1)) = some (.int .i64 x.t) ∧ W.cell? (a.add (i * 3 + 2)) = some (.int .u64 (x.v : Nat)) := by
      intro i hi
      obtain ⟨cs', g1, g2⟩ := hall i (by omega)
      rw [hce] at g1
      obtain ⟨_, hlen, hcell⟩ := World.cells?_some g1
      obtain ⟨xs, k, hk, hxy, _, hxl, hf⟩ := DataW.trod_struct Try.underlying42 g2
      match xs, hxl, cs', hlen with
      | [y0, y1, y2], _, [v0, v1, v2], _ =>
        have f0 := hf 0 _ rfl
        have f1 := hf 1 _ rfl
        have f2 := hf 2 _ rfl
        simp [c3, c4] at f0 f1 f2
        obtain ⟨n0, e0, _, w0⟩ := DataW.trod_int Try.underlying3 f0
        obtain ⟨n1, e1, _, w1⟩ := DataW.trod_int Try.underlying3 f1
        obtain ⟨n2, e2, _, w2⟩ := DataW.trod_int Try.underlying40 f2
        simp only [List.cons.injEq, and_true] at e0 e1 e2
        subst e0 e1 e2
        have k0 := hcell 0 (by omega)
        have k1 := hcell 1 (by omega)
        have k2 := hcell 2 (by omega)
        rw [add_add] at k0 k1 k2
        have p2 := u64_of_wf w2
        refine ⟨⟨n0, n1, n2.toNat⟩, ⟨?_, ?_, ?_⟩, by simpa using k0, by simpa using k1, ?_⟩
        · exact i64_of_wf w0
        · exact i64_of_wf w1
        · show n2.toNat < Silo.M64
          unfold Silo.M64; omega
        · show W.cell? (a.add (i * 3 + 2)) = some (.int .u64 (n2.toNat : Nat))
          have : ((n2.toNat : Nat) : Int) = n2 := by omega
          rw [this]
          simpa using k2
    by_cases h0 : len = 0
    · subst h0
      exact ⟨[], ⟨some a, cap, rfl, .inl rfl⟩, by simp, by simp⟩
    · have hsp : a.spot = none := by
        obtain ⟨x, _, k, _⟩ := each 0 (by omega)
        have e : a.add (0 * 3) = a := by simp [Addr.add]
        rw [e] at k
        unfold World.cell? at k
        split at k
        · split at k
          · cases k
          · rename_i hh
            cases hs : a.spot with
            | none => rfl
            | some y => simp [hs] at hh
        · cases k
      obtain ⟨b, off, spot⟩ := a
      simp only at hsp
      subst hsp
      have hlt : b < W.heap.size := by
        obtain ⟨x, _, k, _⟩ := each 0 (by omega)
        have e : (⟨b, off, none⟩ : Addr).add (0 * 3) = ⟨b, off, none⟩ := by simp [Addr.add]
        rw [e] at k
        unfold World.cell? at k
        split at k
        · rename_i hh
          exact heap_lt hh
        · cases k
      haveI : Inhabited Silo.Smp := ⟨⟨0, 0, 0⟩⟩
      obtain ⟨q, hq⟩ := choose_lt each
      have hg : ∀ (k : Nat) (hk : k < ((List.range len).map q).length), ((List.range len).map q)[k] = q k := fun k hk => by simp
      refine ⟨(List.range len).map q, ⟨some ⟨b, off, none⟩, cap, by simp, .inr ⟨b, off, rfl, hlt, fun k hk => ?_⟩⟩, ?_, ?_⟩
      · have hk' : k < len := by simpa using hk
        rw [hg k hk]
        obtain ⟨_, k0, k1, k2⟩ := hq k hk'
        rw [add_plain] at k0 k1 k2
        exact ⟨k0, k1, k2⟩
      · intro x hx
        obtain ⟨i, hi, rfl⟩ := List.mem_map.1 hx
        exact (hq i (List.mem_range.1 hi)).1
      · rw [hx.1]
        have := bulkAll_le (ds := (List.range len).map D) (fun d _ => bulk_pos d)
        simp only [Rows.uptoBulk, List.length_map, List.length_range] at this ⊢
        omega

/-- What a call that leaves all old blocks as they are owes the row. -/
theorem kept_of_fp {W W' : World} (h : Fp (fun _ => False) W W') (may : MemPlace → Prop) : W.keptBut W' may := by
  refine ⟨h.os, h.output, fun i hi => ?_⟩
  rw [h.block i hi (fun x => x)]
  cases W.heap[i]? with
  | none => rfl
  | some o =>
    cases o with
    | cells c t fr => exact ⟨rfl, rfl, rfl, fun _ _ => rfl⟩
    | map es c => exact .inr ⟨rfl, rfl⟩
    | _ => rfl

theorem post_of_fp {H : Type} {enc : TypeId × Value → H} {P : Program} {f : Func} {s : ChangeSpec} {apart fresh handsOn again : Bool} {W W' : World} {args : Array Value} {v : Value} {ds gs : List (DataW H)} {before pa pv : List MemPlace}
    (hW : DataW.Whole enc P f.params.toList s.vars apart W args.toList ds gs before) (hf : Fp (fun _ => False) W W')
    (hres : ∀ (b : Nat) (sp : Nat → Bool) (hd : Bool), DataW.TrodAll enc P W' b sp hd f.resultTypes.toList (v.resultList f.resultTypes.size) (s.fn H (ds ++ gs)).results [])
    (hargs : ∀ sp : Nat → Bool, (∀ p ∈ before, sp p.block = true) → DataW.TrodAll enc P W' 0 sp true f.params.toList args.toList (s.fn H (ds ++ gs)).args pa)
    (hvars : ∀ sp : Nat → Bool, (∀ p ∈ before, sp p.block = true) → DataW.TrodVars enc P W' sp s.vars (s.fn H (ds ++ gs)).vars pv)
    (hps : before = pa ++ pv)
    (hok : ∀ (j : Nat) (t : TypeId) (r : Value), f.resultTypes[j]? = some t → (v.resultList f.resultTypes.size)[j]? = some r → Value.okWide P W' .any 0 t r) :
    s.post enc P f apart fresh handsOn again W args v W' := by
  have hlt : ∀ p ∈ before, p.block < W.heap.size := fun p hp => hW.lt p hp
  have hold : ∀ p ∈ before, (fun b => decide (b < W.heap.size)) p.block = true := fun p hp => by simpa using hlt p hp
  have hin : ∀ p, p ∈ before ↔ p ∈ pa ∨ p ∈ pv := fun p => by rw [hps, List.mem_append]
  refine ⟨ds, gs, before, [], pa, pv, hW, hres _ _ _, hargs _ hold, hvars _ hold, World.keptBut_mono (fun p hp => ⟨hp, .inr ((hin p).1 hp)⟩) (kept_of_fp hf (· ∈ before)), fun _ => ?_⟩
  obtain ⟨_, _, _, _, _, hz, hn⟩ := hW
  refine ⟨hok, _, _, ([] ++ pa) ++ pv, ⟨[] ++ pa, pv, trodAll_append (hargs _ (fun _ _ => rfl)) (hres _ _ _), hvars _ (fun _ _ => rfl), rfl, ?_, ?_⟩, ?_⟩
  · intro b off hp
    have hp' : MemPlace.cell b off ∈ before := by rw [hps]; simpa using hp
    rw [hf.frozen (p := ⟨b, off, none⟩) (hlt _ hp') (fun x => x)]
    exact hz b off hp'
  · intro ha
    have := hn ha
    rw [hps] at this
    simpa using this
  · intro p hp _
    rw [hps]
    simpa using hp

end Go.Proofs.Ytojjkjfcbfoinaa
