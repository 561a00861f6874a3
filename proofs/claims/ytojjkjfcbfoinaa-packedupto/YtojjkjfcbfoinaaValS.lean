/- slices.Values over samples; sets.Line.lay, whatever the line and the points are. -/
import Derived.Test.YtojjkjfcbfoinaaLineLay
namespace Go.Proofs.Ytojjkjfcbfoinaa
open Go.RowKit Go.Shelf

attribute [local go_sem] Oper.semAt_some

theorem set_same {cs : Array Value} {k : Nat} {v : Value} (h : cs[k]? = some v) : cs.setIfInBounds k v = cs := by
  apply Array.ext_getElem?
  intro i
  by_cases e : k = i
  · subst e
    have hk : k < cs.size := (Array.getElem?_eq_some_iff.1 h).1
    rw [Array.getElem?_setIfInBounds_self_of_lt hk, h]
  · rw [Array.getElem?_setIfInBounds_ne e]

set_option maxHeartbeats 400000 in
theorem LineLay_empty (tb k c : Nat) (a : Option Addr) (w : World) :
    Calls Try.prog 32 #[.pointer (some ⟨tb, k, none⟩), .slice a 0 c] w fun e w' => e = .returned (.tuple #[]) ∧ w' = w := by
  go_enter Try.func32, Try.ntmps32
  go_wp2
  refine bodyPost_ret (results_none rfl _ _ _) rfl ?_
  exact ⟨rfl, rfl⟩

theorem LineLay_any (base baseU tb k : Nat) (cs : Array Value) (ty : TypeId) (v u : Value) (ps us : List Silo.Pt) (w : World)
    (hb : w.heap[tb]? = some (.cells cs ty (0, 0))) (hk : Kind ty) (hv : cs[k]? = some v) (hr : World.ptsAt w base v ps) (htb : tb < base) (hbase : base ≤ w.heap.size)
    (hu : World.ptsAt w baseU u us) (hap : ∀ j, v.ownBlock = some j → u.ownBlock ≠ some j) (hris : Silo.Rising ps) (hl : ps.length + us.length ≤ 1099511627776) :
    Calls Try.prog 32 #[.pointer (some ⟨tb, k, none⟩), u] w fun e w' => e = .returned (.tuple #[]) ∧ ∃ v', w'.heap[tb]? = some (.cells (cs.setIfInBounds k v') ty (0, 0)) ∧ World.ptsAt w' base v' (Silo.mergeL ps us) ∧
      Fp (fun j => v.ownBlock = some j ∨ j = tb) w w' ∧ (∀ j, v'.ownBlock = some j → v.ownBlock = some j ∨ w.heap.size ≤ j) := by
  cases hus : us with
  | nil =>
    subst hus
    obtain ⟨a, c, rfl⟩ := ptsAt_form hu
    refine (LineLay_empty tb k c a w).mono ?_
    rintro e w' ⟨rfl, rfl⟩
    exact ⟨rfl, v, by rw [set_same hv]; exact hb, by rw [Silo.mergeL_end]; exact hr, Fp.refl _ _, fun j hj => .inl hj⟩
  | cons x0 us' =>
    rw [← hus]
    obtain ⟨gu, cu, hu'⟩ : ∃ gu cu, u = .slice (some ⟨gu, 0, none⟩) us.length cu := by
      rcases hu.2 with ⟨_, h2⟩ | ⟨g', cap', cur, h3, _⟩
      · rw [hus] at h2; simp at h2
      · exact ⟨g', cap', h3⟩
    subst hu'
    rcases hr.2 with ⟨h1, h2⟩ | ⟨g, c, cur, h3, _⟩
    · have : ps = [] := List.length_eq_zero_iff.1 h2
      subst this
      rw [h1] at hv ⊢
      refine (LineLay_none base baseU tb k gu cu us.length cs ty us x0 us' w hb hk hv rfl htb hbase hu hus (by simpa using hl)).mono ?_
      rintro e w' ⟨rfl, v', q1, q2, q3, q4⟩
      exact ⟨rfl, v', q1, by rw [Silo.mergeL_none]; exact q2, q3.mono (fun _ _ h => .inr h), fun j hj => .inr (q4 j hj)⟩
    · subst h3
      refine (LineLay_some base baseU tb k g c ps.length gu cu us.length cs ty ps us x0 us' w hb hk hv rfl rfl hr htb hbase hu hus (fun e => hap g rfl (by rw [e]; rfl)) hris hl).mono ?_
      rintro e w' ⟨rfl, v', q1, q2, q3, q4⟩
      exact ⟨rfl, v', q1, q2, q3.mono (fun j _ h => h.imp (fun h => by rw [h]; rfl) id), fun j hj => (q4 j hj).imp (fun h => by rw [h]; rfl) id⟩

set_option maxHeartbeats 400000 in
theorem ValuesS_any (a : Option Addr) (n c : Nat) (w : World) :
    Calls Try.prog 22 #[.slice a n c] w fun e w' => e = .returned (.func (.func 34) #[] #[.pointer (some ⟨w.heap.size, 0, none⟩)]) ∧ w' = w.alloc (.cells #[.slice a n c] 22) := by
  have hmf : ∀ (fn : Fn) (first cap : Array Value) (w : World), (Instr.makeFunc fn first cap).run Try.prog w = .ok (.func fn first cap) w := fun _ _ _ _ => rfl
  go_enter Try.func22, Try.ntmps22
  go_wp2
  go_ret
  exact ⟨ret_val (by simp), rfl⟩

set_option maxHeartbeats 1000000 in
set_option maxRecDepth 100000 in
theorem ValuesSCl_seq (n : Nat) (hn : 3 ≤ n) (bx B0 : Nat) (v : Value) (xs : List Silo.Smp) (w : World) (hbx : w.heap[bx]? = some (.cells #[v] 22 (0, 0)))
    (hin : SmpIn w B0 v xs) (hB0 : B0 ≤ w.heap.size) (hlen : xs.length ≤ 1099511627776) :
    SeqFp Fence.wide n Try.prog 34 #[.pointer (some ⟨bx, 0, none⟩)] (fun p => #[smpV p]) xs (fun k => k = bx ∨ k < B0) (fun _ => False) w (fun _ => True) := by
  intro l J B W hW hB hJ hY h0
  refine callsIn_of_wp Try.func34 rfl trivial ?_ rfl
  simp only [Try.ntmps34, List.size_toArray, List.length_cons, List.length_nil, Nat.reduceAdd, Nat.reduceSub, Array.replicate_succ, Array.replicate_zero, List.push_toArray, List.append_toArray, List.nil_append, List.cons_append]
  obtain ⟨ad, c, rfl, hin'⟩ := hin
  have hbxW : W.cell? ⟨bx, 0, none⟩ = some (.slice ad xs.length c) := by
    rw [hW.cell (p := ⟨bx, 0, none⟩) (heap_lt hbx) (fun h => h)]; simp [World.cell?, hbx]
  have HX : Hid _ := And.intro hin' hW
  have HY : Hid _ := hY
  have HJ : Hid _ := hJ
  have H0 : Hid _ := h0
  have HB : Hid _ := hB
  clear hY hJ h0 hB hin' hbx
  gi_wp2
  gi_loopw [7] (fun i wr => ∃ k : Nat, k ≤ xs.length ∧ i = .int .i64 k ∧ Hid (∃ B', J B' (xs.take k) wr ∧ Fp B W wr ∧ ∀ j, B' j → (B j ∨ W.heap.size ≤ j) ∧ j < wr.heap.size))
    (fun i _ => xs.length - (intOf i).toNat)
  case atStart => exact ⟨0, Nat.zero_le _, rfl, B, H0.out, Fp.refl _ _, fun j hj => ⟨.inl hj, (HB.out j hj).1⟩⟩
  case round =>
    obtain ⟨k, hk, rfl, HR⟩ := hrel
    obtain ⟨B', hj, hf, hb⟩ := HR.out
    by_cases hlt : k < xs.length
    · obtain ⟨b, off, hbo⟩ : ∃ b off, ad = some ⟨b, off, none⟩ ∧ b < B0 ∧ ∀ k (hk : k < xs.length),
          w.cell? ⟨b, off + k * 3, none⟩ = some (.int .i64 xs[k].s) ∧ w.cell? ⟨b, off + k * 3 + 1, none⟩ = some (.int .i64 xs[k].t) ∧ w.cell? ⟨b, off + k * 3 + 2, none⟩ = some (.int .u64 (xs[k].v : Nat)) := by
        rcases HX.out.1 with h | h
        · rw [h] at hlt; simp at hlt
        · exact h
      obtain ⟨rfl, hbt, hcell⟩ := hbo
      obtain ⟨c0, c1, c2⟩ := hcell k hlt
      have hbw : b < w.heap.size := by omega
      have hbW : b < W.heap.size := Nat.lt_of_lt_of_le hbw HX.out.2.size
      have hnB : ¬ B b := fun h => (HB.out b h).2 (.inr hbt)
      rw [← HX.out.2.cell (p := ⟨b, off + k * 3, none⟩) hbw (fun h => h), ← hf.cell (p := ⟨b, off + k * 3, none⟩) hbW hnB] at c0
      rw [← HX.out.2.cell (p := ⟨b, off + k * 3 + 1, none⟩) hbw (fun h => h), ← hf.cell (p := ⟨b, off + k * 3 + 1, none⟩) hbW hnB] at c1
      rw [← HX.out.2.cell (p := ⟨b, off + k * 3 + 2, none⟩) hbw (fun h => h), ← hf.cell (p := ⟨b, off + k * 3 + 2, none⟩) hbW hnB] at c2
      have hbr : b < wr.heap.size := Nat.lt_of_lt_of_le hbW hf.size
      have hf2 : Fp (fun _ => False) wr (wr.alloc (.cells #[.int .i64 xs[k].s, .int .i64 xs[k].t, .int .u64 (xs[k].v : Nat)] 42)) := Fp.alloc _ _ _
      have hj2 := HJ.out B' _ _ _ hj (fun j h => (hb j h).2) (hf2.mono (fun _ _ h => h.elim))
      have hpre : xs.take k ++ [xs[k]] = xs.take (k + 1) := by simp
      obtain ⟨fn, tmps, assign, body, hy, hR⟩ := HY.out B' (xs.take k) xs[k] _ hj2 (fun j h => Nat.lt_of_lt_of_le (hb j h).2 hf2.size) (by rw [hpre]; exact List.take_prefix _ _)
      dsimp only [smpV] at hy
      have HH : Hid _ := And.intro hb (And.intro hf hf2)
      clear hcell hj hj2 hb hf hf2 hpre
      gi_wp2
      refine ⟨fun _ => by omega, hR.mono ?_⟩
      rintro e W3 ⟨rfl, B2, h3⟩
      have H3 : Hid _ := h3
      clear h3 hR hy
      gi_wp2
      go_roundw
      case rel =>
        obtain ⟨hj3, hf3, hb3⟩ := H3.out
        obtain ⟨hb, hf, hf2⟩ := HH.out
        refine ⟨k + 1, by omega, by go_num, B2, ?_, ?_, ?_⟩
        · have hpre : xs.take k ++ [xs[k]] = xs.take (k + 1) := by simp
          rw [← hpre]; exact hj3
        · exact (hf.trans hf2 (fun _ h => h) (fun _ _ h => h.elim)).trans hf3 (fun _ h => h) (fun j hj h => (hb j h).1.elim id (fun h => by omega))
        · intro j hj
          have h1 := hb3 j hj
          have h2 := hf.size
          refine ⟨?_, h1.2⟩
          rcases h1.1 with h | h
          · exact (hb j h).1
          · right; simp at h; omega
      case measure => simp [intOf]; omega
    · obtain rfl : k = xs.length := by omega
      have HH : Hid _ := And.intro hj (And.intro hf hb)
      clear hj hf hb
      gi_wp2
      go_end0
      obtain ⟨hj, hf, hb⟩ := HH.out
      rw [List.take_of_length_le (Nat.le_refl _)] at hj
      exact ⟨⟨_, rfl⟩, B', hj, hf.mono (fun _ _ h => .inl h), hb, trivial⟩

end Go.Proofs.Ytojjkjfcbfoinaa
