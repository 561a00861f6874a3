/- Decode: a block's file, read. -/
import Derived.Test.YtbmpjihdjojgcaaSmpRows
import Derived.Test.YtbmpjihdjojgcaaSealed
import Derived.RegionIn
namespace Go.Proofs.Ytbmpjihdjojgcaa
open Go.RowKit Go.Shelf

attribute [local go_sem] Oper.semAt_some

theorem decode_eq (l : List UInt8) : Silo.decode l = if isSealed l = true ∧ isB (sealedData l) = true then Silo.decBody (cutB (sealedData l)) else none := by
  unfold Silo.decode sealedData
  by_cases h8 : l.length < 8
  · have : isSealed l = false := by unfold isSealed; simp; omega
    simp [h8, this]
  · rw [if_neg h8]
    by_cases hq : Silo.be8 (Silo.fnv (l.take (l.length - 8))) = l.drop (l.length - 8)
    · have hs : isSealed l = true := by unfold isSealed; simp [hq]; omega
      rw [if_neg (by simpa using hq)]
      simp only [hs, if_true, true_and]
      cases hd : l.take (l.length - 8) with
      | nil => simp [isB]
      | cons b r =>
        by_cases hb : b = 66
        · simp [isB, cutB, hb]
        · simp [isB, hb]
    · have hs : isSealed l = false := by unfold isSealed; simp; intro; exact hq
      rw [if_pos hq]
      simp [hs]

theorem RdDone_st (w : World) (rb : Nat) (st : Silo.St) (h : RdS w rb st) :
    Calls Try.prog 45 #[.pointer (some ⟨rb, 0, none⟩)] w fun e w' => e = .returned (.bool (decide (st = some []))) ∧ w' = w := by
  cases st with
  | none =>
    refine (RdDone_any w rb _ true h).mono ?_
    rintro e w' ⟨rfl, rfl⟩
    exact ⟨by simp, rfl⟩
  | some l =>
    refine (RdDone_any w rb _ false h).mono ?_
    rintro e w' ⟨rfl, rfl⟩
    exact ⟨by cases l <;> simp [bytes_toList, S_toList], rfl⟩

/-- The result's zero. -/
def zero4 : Value := .tuple #[.int .i64 0, .int .i64 0, .slice none 0 0, .bool false]

theorem cutB_len (l : List UInt8) : (cutB l).length ≤ l.length := by
  unfold cutB
  split
  · rw [List.length_tail]; omega
  · exact Nat.le_refl _

theorem left_rdNum (st : Silo.St) : Silo.left (Silo.rdNum st).2 ≤ Silo.left st := by
  unfold Silo.rdNum
  split
  · exact Nat.zero_le _
  · exact left_rdR st

theorem ownsRow_base {w : World} {b b' : Nat} {e : TypeId} {size : Nat} {v : Value} {n : Nat} {xs : List Value} (h : w.ownsRow b e size v n xs) (hb : b' ≤ b) : w.ownsRow b' e size v n xs := by
  obtain ⟨h1, h2⟩ := h
  refine ⟨h1, h2.imp id ?_⟩
  rintro ⟨g, cap, cur, h3, h4, h5⟩
  exact ⟨g, cap, cur, h3, Nat.le_trans hb h4, h5⟩

theorem ownsRow_form {w : World} {b : Nat} {e : TypeId} {size : Nat} {v : Value} {n : Nat} {xs : List Value} (h : w.ownsRow b e size v n xs) : ∃ a c, v = .slice a n c := by
  rcases h.2 with ⟨h1, rfl⟩ | ⟨g, cap, cur, h3, _⟩
  · exact ⟨_, _, h1⟩
  · exact ⟨_, _, h3⟩

/-- What Decode's loop keeps: the samples that have come, in a box. -/
def DInv (sb : Nat) (B : Nat → Prop) (pre : List Silo.Smp) (W : World) : Prop :=
  ∃ a c, W.heap[sb]? = some (.cells #[.slice a pre.length c] 22 (0, 0)) ∧ World.smpsAt W (sb + 1) (.slice a pre.length c) pre ∧ ∀ k, B k ↔ k = sb ∨ (Value.slice a pre.length c).ownBlock = some k

theorem DInv_stable (sb : Nat) : Stable (DInv sb) := by
  rintro B pre A A' ⟨a, c, h1, h2, hB⟩ hlt hf
  exact ⟨a, c, (hf.block _ (heap_lt h1) (fun h => h ((hB _).2 (.inl rfl)))).trans h1, Fp.ownsRow hf h2 (fun k hk h => h ((hB k).2 (.inr hk))), hB⟩

theorem zstep {w w1 : World} {v : Value} (h : w1.heap[w.heap.size]? = some (.cells #[v] 22 (0, 0)) ∧ Fp (fun _ => False) w w1) :
    ∃ wz, w1.setCell ⟨w.heap.size, 0, none⟩ (.slice none 0 0) = wz ∧ wz.cell? ⟨w.heap.size, 0, none⟩ = some (.slice none 0 0) ∧ Fp (fun _ => False) w wz := by
  refine ⟨_, rfl, ?_, ?_⟩
  · simp [World.cell?, heap_set h.1]
  · exact h.2.trans (Fp.setCell (S := fun k => k = w.heap.size) _ _ _ rfl) (fun _ h => h) (fun k hk e => by omega)

theorem dkeep {Wc w' : World} {o : Obj} {sb : Nat} {v : Value} {pre : List Silo.Smp} {x : Silo.Smp} {g cap : Nat} (hsb : Wc.heap[sb]? = some (.cells #[v] 22 (0, 0))) (hrow : World.smpsAt Wc (sb + 1) v pre)
    (hA : Appended (Wc.alloc o) w' (sb + 1) v pre x g cap) : w'.heap[sb]? = some (.cells #[v] 22 (0, 0)) :=
  (hA.foot.block sb (by simp; have := heap_lt hsb; omega) (fun h => by have := (World.ownsRow.lt hrow sb h).1; omega)).trans (heap_old _ _ hsb)

theorem dround {w Wq Wc w' : World} {l' g cap : Nat} {Bi : Nat → Prop} {pre : List Silo.Smp} {x : Silo.Smp} {xs : List Silo.Smp} {o o' : Obj} {av : Option Addr} {cv : Nat} {w5 : World} (_hl : w5.heap.size ≤ l') (_hlt : l' < Wq.heap.size)
    (_hI : DInv w.heap.size Bi pre Wq ∧ (∀ k, Bi k → k < Wq.heap.size) ∧ (pre ++ [x]) <+: xs ∧ ¬ Bi l')
    (hQ : Wc.heap[w.heap.size]? = some (.cells #[.slice av pre.length cv] 22 (0, 0)) ∧ World.smpsAt Wc (w.heap.size + 1) (.slice av pre.length cv) pre ∧ (∀ k, Bi k ↔ k = w.heap.size ∨ (Value.slice av pre.length cv).ownBlock = some k) ∧ Fp (fun k => k = l') (Wq.alloc o') Wc)
    (hA : Appended (Wc.alloc o) w' (w.heap.size + 1) (.slice av pre.length cv) pre x g cap) (hsb : w'.heap[w.heap.size]? = some (.cells #[.slice av pre.length cv] 22 (0, 0))) :
    ∃ B', DInv w.heap.size B' (pre ++ [x]) (w'.setCell ⟨w.heap.size, 0, none⟩ (.slice (some ⟨g, 0, none⟩) (pre.length + 1) cap)) ∧
      Fp (fun k => Bi k ∨ Wq.heap.size ≤ k) Wc (w'.setCell ⟨w.heap.size, 0, none⟩ (.slice (some ⟨g, 0, none⟩) (pre.length + 1) cap)) ∧
      ∀ k, B' k → (Bi k ∨ Wq.heap.size ≤ k) ∧ k < (w'.setCell ⟨w.heap.size, 0, none⟩ (.slice (some ⟨g, 0, none⟩) (pre.length + 1) cap)).heap.size := by
  obtain ⟨hsbc, hrow, hBv, hfc⟩ := hQ
  have hgb : w.heap.size + 1 ≤ g := (World.ownsRow.lt hA.row g rfl).1
  have hs1 := hfc.size
  simp at hs1
  have hlen : (pre ++ [x]).length = pre.length + 1 := by simp
  refine ⟨fun k => k = w.heap.size ∨ k = g, ⟨some ⟨g, 0, none⟩, cap, ?_, ?_, fun k => ?_⟩, ?_, ?_⟩
  · rw [hlen]; exact heap_set hsb _
  · rw [hlen]
    exact Fp.ownsRow (Fp.setCell (S := fun k => k = w.heap.size) w' _ _ rfl) hA.row (fun k hk e => by simp [Value.ownBlock] at hk; omega)
  · simp [Value.ownBlock, eq_comm]
  · have t1 : Fp (fun k => Bi k ∨ Wq.heap.size ≤ k) Wc w' := (Fp.alloc (fun _ => False) Wc o).trans hA.foot (fun _ h => h.elim) (fun k _ h => .inl ((hBv k).2 (.inr h)))
    exact t1.trans (Fp.setCell (S := fun k => k = w.heap.size) w' _ _ rfl) (fun _ h => h) (fun k _ e => .inl ((hBv k).2 (.inl e)))
  · have hsz : (w'.setCell ⟨w.heap.size, 0, none⟩ (.slice (some ⟨g, 0, none⟩) (pre.length + 1) cap)).heap.size = w'.heap.size := by simp [World.setCell]
    rw [hsz]
    rintro k (rfl | rfl)
    · exact ⟨.inl ((hBv _).2 (.inl rfl)), heap_lt hsb⟩
    · refine ⟨?_, hA.lt⟩
      rcases hA.lies with h | h
      · exact .inl ((hBv _).2 (.inr h))
      · right; simp at h; omega

theorem dfoot {w w4 w5 Wf : World} {bx rb : Nat} (h1 : Fp (fun _ => False) w w4) (h2 : Fp (fun _ => False) w4 w5) (h3 : Fp (fun k => k = w.heap.size ∨ k = bx ∨ k = rb) w5 Wf) (hb : w.heap.size ≤ bx) (hr : w.heap.size ≤ rb) : Fp (fun _ => False) w Wf :=
  (h1.trans' h2).trans h3 (fun _ h => h) (fun k hk h => by rcases h with rfl | rfl | rfl <;> omega)

theorem dlast {w Wf : World} {v : Value} {xs : List Silo.Smp} {D : Nat} (h1 : Wf.heap[w.heap.size]? = some (.cells #[v] 22 (0, 0))) (h2 : World.smpsAt Wf (w.heap.size + 1) v xs) (hd : Wf.heap[D]? = some (.deferred (some []))) (hne : D ≠ w.heap.size)
    (hf : Fp (fun _ => False) w Wf) : ∃ wz, (Wf.setCell ⟨w.heap.size, 0, none⟩ v).drew = wz ∧ wz.heap[w.heap.size]? = some (.cells #[v] 22 (0, 0)) ∧ Fp (fun _ => False) w wz ∧ World.smpsAt wz (w.heap.size + 1) v xs ∧ wz.heap[D]? = some (.deferred (some [])) := by
  have hf2 : Fp (fun k => k = w.heap.size) Wf ((Wf.setCell ⟨w.heap.size, 0, none⟩ v).drew) := Fp.trans' (Fp.setCell (S := fun k => k = w.heap.size) _ _ _ rfl) (Fp.drew _ _)
  refine ⟨_, rfl, ?_, hf.trans hf2 (fun _ h => h) (fun k hk e => by omega), Fp.ownsRow hf2 h2 (fun k hk e => by have := (World.ownsRow.lt h2 k hk).1; omega), (hf2.block D (heap_lt hd) hne).trans hd⟩
  exact heap_set h1 v

theorem dlast0 {w Wf : World} {v : Value} {D : Nat} (h1 : Wf.heap[w.heap.size]? = some (.cells #[v] 22 (0, 0))) (hd : Wf.heap[D]? = some (.deferred (some []))) (hne : D ≠ w.heap.size)
    (hf : Fp (fun _ => False) w Wf) : ∃ wz, Wf.setCell ⟨w.heap.size, 0, none⟩ (.slice none 0 0) = wz ∧ wz.heap[w.heap.size]? = some (.cells #[.slice none 0 0] 22 (0, 0)) ∧ Fp (fun _ => False) w wz ∧ wz.heap[D]? = some (.deferred (some [])) := by
  have hf2 : Fp (fun k => k = w.heap.size) Wf (Wf.setCell ⟨w.heap.size, 0, none⟩ (.slice none 0 0)) := Fp.setCell (S := fun k => k = w.heap.size) _ _ _ rfl
  exact ⟨_, rfl, heap_set h1 _, hf.trans hf2 (fun _ h => h) (fun k hk e => by omega), (hf2.block D (heap_lt hd) hne).trans hd⟩

set_option maxHeartbeats 1000000 in
set_option maxRecDepth 100000 in
theorem Decode_in (n : Nat) (hn : 20 ≤ n) (l : List UInt8) (w : World) (hl : l.length ≤ 1099511627776) :
    CallsIn Fence.wide n Try.prog 24 #[.string (S l)] w fun e w' => Fp (fun _ => False) w w' ∧
      (Silo.decode l = none → e = .returned zero4) ∧
      ∀ d, Silo.decode l = some d → ∃ v, e = .returned (.tuple #[.int .i64 (d.lo : Nat), .int .i64 (d.hi : Nat), v, .bool true]) ∧ World.smpsAt w' w.heap.size v d.l := by
  refine callsIn_of_wp_marks Try.func24 rfl trivial ?_ rfl
  simp only [Try.ntmps24, List.size_toArray, List.length_cons, List.length_nil, Nat.reduceAdd, Nat.reduceSub, Array.replicate_succ, Array.replicate_zero, List.push_toArray, List.append_toArray, List.nil_append, List.cons_append]
  gi_wp2_with fail
  refine ⟨trivial, fun _ => by omega, (callsIn_wide.2 (Unsealed_any l (w.alloc (.cells #[.slice none 0 0] 22)) hl)).mono ?_⟩
  rintro e w1 ⟨rfl, h1⟩
  have hsl : (sealedData l).length ≤ 1099511627776 := by
    unfold sealedData
    split
    · exact Nat.le_trans (List.length_take_le' _ _) hl
    · simp
  have hsb1 : w1.heap[w.heap.size]? = some (.cells #[.slice none 0 0] 22 (0, 0)) := (h1.block _ (by simp) (fun h => h)).trans (heap_new _ _)
  have hfw1 : Fp (fun _ => False) w w1 := (Fp.alloc _ _ _).trans' h1
  clear h1
  gi_wp2_with fail
  refine ⟨trivial, fun _ => by omega, (callsIn_wide.2 (CutPrefix_any (sealedData l) w1 hsl)).mono ?_⟩
  rintro e w1' ⟨rfl, rfl⟩
  have hsc : w1'.cell? ⟨w.heap.size, 0, none⟩ = some (.slice none 0 0) := by simp [World.cell?, hsb1]
  have hsf : w1'.frozen? ⟨w.heap.size, 0, none⟩ = false := by simp [World.frozen?, hsb1]
  have HD : Hid _ := decode_eq l
  have H1 : Hid _ := And.intro hsb1 hfw1
  clear hsb1 hfw1
  cases hs : isSealed l with
  | false =>
    gi_wp2_with fail
    have hd : Silo.decode l = none := by rw [HD.out, if_neg (by simp [hs])]
    obtain ⟨wz, hz, hzc, hzf⟩ := zstep H1.out
    rw [hz]
    refine ⟨zero4, by simp [results, Try.results24, go_sem, hzc, zero4], hzf, fun _ => rfl, fun d h => by rw [hd] at h; cases h⟩
  | true =>
    cases hm : isB (sealedData l) with
    | false =>
      gi_wp2_with fail
      have hd : Silo.decode l = none := by rw [HD.out, if_neg (by simp [hm])]
      obtain ⟨wz, hz, hzc, hzf⟩ := zstep H1.out
      rw [hz]
      refine ⟨zero4, by simp [results, Try.results24, go_sem, hzc, zero4], hzf, fun _ => rfl, fun d h => by rw [hd] at h; cases h⟩
    | true =>
      have HD' : Hid (Silo.decode l = Silo.decBody (cutB (sealedData l))) := by show _ = _; rw [HD.out, if_pos ⟨hs, hm⟩]
      have hcl : (cutB (sealedData l)).length ≤ 1099511627776 := Nat.le_trans (cutB_len _) hsl
      generalize cutB (sealedData l) = body at *
      clear HD
      gi_wp2_with fail
      refine ⟨trivial, fun _ => by omega, (callsIn_wide.2 (NewReader_any w1' (S body))).mono ?_⟩
      rintro e w2 ⟨rfl, hr2, hf2⟩
      have hrl : w.heap.size < w1'.heap.size := heap_lt H1.out.1
      have hst2 : RdS w2 w1'.heap.size (some body) := hr2
      have H2 : Hid _ := And.intro hst2 hf2
      clear hst2 hr2 hf2
      gi_wp2_with fail
      refine ⟨trivial, fun _ => by omega, (callsIn_wide.2 (readNumber_any w2 w1'.heap.size (some body) H2.out.1 (Nat.le_trans hcl (by decide)))).mono ?_⟩
      rintro e w3 ⟨rfl, h3⟩
      have H3 : Hid _ := h3
      clear h3
      obtain ⟨a, ha⟩ : ∃ a, a = Silo.rdNum (some body) := ⟨_, rfl⟩
      rw [← ha] at H3 ⊢
      have hla : Silo.left a.2 ≤ 1099511627776 := by
        rw [ha]; exact Nat.le_trans (left_rdNum _) hcl
      have HA : Hid _ := ha
      clear ha
      gi_wp2_with fail
      refine ⟨trivial, fun _ => by omega, (callsIn_wide.2 (readNumber_any w3 w1'.heap.size a.2 H3.out.1 (Nat.le_trans hla (by decide)))).mono ?_⟩
      rintro e w4 ⟨rfl, h4⟩
      have H4 : Hid _ := h4
      clear h4
      obtain ⟨b, hb⟩ : ∃ b, b = Silo.rdNum a.2 := ⟨_, rfl⟩
      rw [← hb] at H4 ⊢
      have hlb : Silo.left b.2 ≤ 1099511627776 := by
        rw [hb]; exact Nat.le_trans (left_rdNum _) hla
      have HB : Hid _ := hb
      clear hb
      gi_wp2_with fail
      refine ⟨trivial, fun _ => by omega, (callsIn_wide.2 (IsRange_any (a.1 : Nat) (b.1 : Nat) w4)).mono ?_⟩
      rintro e w4' ⟨rfl, rfl⟩
      have hfw4 : Fp (fun _ => False) w w4' := by
        have t2 : Fp (fun _ => False) w w2 := H1.out.2.trans' H2.out.2
        exact (t2.trans H3.out.2 (fun _ h => h) (fun k hk e => by omega)).trans H4.out.2 (fun _ h => h) (fun k hk e => by omega)
      have hsb4 : w4'.heap[w.heap.size]? = some (.cells #[.slice none 0 0] 22 (0, 0)) := by
        have h2 := H2.out.2.size
        have h3 := H3.out.2.size
        exact (H4.out.2.block _ (by omega) (by omega)).trans ((H3.out.2.block _ (by omega) (by omega)).trans ((H2.out.2.block _ hrl (fun h => h)).trans H1.out.1))
      have hlt4 : w1'.heap.size < w4'.heap.size := H4.out.1.lt
      have H5 : Hid _ := And.intro hsb4 hfw4
      by_cases hrng : a.1 ≤ b.1 ∧ b.1 ≤ 999999
      · have hbool : decide ((0 : Int) ≤ (a.1 : Int) ∧ (a.1 : Int) ≤ (b.1 : Int) ∧ (b.1 : Int) ≤ 999999) = true := by simp; omega
        rw [hbool]
        have HD2 : Hid (Silo.decode l = if (Silo.rdSmp 17 b.2 0).2 = some [] then some ⟨a.1, b.1, (Silo.rdSmp 17 b.2 0).1⟩ else none) := by
          show _ = _
          rw [HD'.out, Silo.decBody]
          simp only [← HA.out, ← HB.out]
          rw [if_neg (by simpa using hrng)]
        clear hbool hrng hsc hsf hsb4 hfw4
        gi_wp2_with fail
        refine ⟨trivial, fun _ => by omega, (callsIn_wide.2 (readSamples_any w1'.heap.size w4')).mono ?_⟩
        rintro e w5' ⟨rfl, rfl⟩
        obtain ⟨w5, hw5⟩ : ∃ w5, w4'.alloc (.cells #[.pointer (some ⟨w1'.heap.size, 0, none⟩)] 93) = w5 := ⟨_, rfl⟩
        have hf5 : Fp (fun _ => False) w4' w5 := by rw [← hw5]; exact Fp.alloc _ _ _
        have hbx5 : w5.heap[w4'.heap.size]? = some (.cells #[.pointer (some ⟨w1'.heap.size, 0, none⟩)] 93 (0, 0)) := by rw [← hw5]; exact heap_new _ _
        have hsz5 : w5.heap.size = w4'.heap.size + 1 := by rw [← hw5]; simp
        have hsb5 : w5.heap[w.heap.size]? = some (.cells #[.slice none 0 0] 22 (0, 0)) := (hf5.block _ (by omega) (fun h => h)).trans H5.out.1
        have hcount := rdSmp_count 17 b.2 0
        rw [hw5]
        gi_wp2_with fail
        refine wpIn_rangeFp rfl (by omega) (gf := 63) (lb := #[.pointer (some ⟨w4'.heap.size, 0, none⟩)]) rfl trivial (enters_of Try.func63 (by kernel_rfl) rfl)
          (readSamplesCl_seq (n - 1) (by omega) w4'.heap.size w1'.heap.size b.2 w5 hbx5 (by omega) (H4.out.1.fp hf5 (fun h => h)) hlb) (fun _ => rfl)
          (fun A A' h hf => h.fp hf (fun h => h (.inr rfl))) (by rintro k (rfl | rfl) <;> omega)
          (DInv w.heap.size) (DInv_stable _) (fun k => k = w.heap.size) ?hB0 ?h0 ?hround ?hdone
        case hB0 => rintro k rfl; exact ⟨by omega, by omega⟩
        case h0 => exact ⟨none, 0, hsb5, World.ownsRow_nil _ _ _ _, fun k => by simp [Value.ownBlock]⟩
        case hround =>
          rintro l' Bi pre x Wq K' hl' hlt' hrec hnl hIq hBq hpre hK'
          have hpt : smpV x = .agg #[.int .i64 x.s, .int .i64 x.t, .int .u64 (x.v : Nat)] := rfl
          have HK' : Hid _ := hK'
          have HI : Hid _ := And.intro hIq (And.intro hBq (And.intro hpre hnl))
          clear hK' hIq hBq hpre hnl hrec
          gi_wp2
          refine HK'.out _ _ (Fp.alloc _ _ _) ?_
          rintro Wc hfc hrecc ⟨av, cv, hsbc, hrow, hBv⟩
          have hxb : Wc.heap[Wq.heap.size]? = some (.cells #[.int .i64 x.s, .int .i64 x.t, .int .u64 (x.v : Nat)] 42 (0, 0)) := (hfc.block _ (by simp) (by omega)).trans (heap_new _ _)
          have k0 : Wc.cell? ⟨Wq.heap.size, 0, none⟩ = some (.int .i64 x.s) := by simp [World.cell?, hxb]
          have k1 : Wc.cell? ⟨Wq.heap.size, 1, none⟩ = some (.int .i64 x.t) := by simp [World.cell?, hxb]
          have k2 : Wc.cell? ⟨Wq.heap.size, 2, none⟩ = some (.int .u64 (x.v : Nat)) := by simp [World.cell?, hxb]
          have k3 : Wc.cell? ⟨w.heap.size, 0, none⟩ = some (.slice av pre.length cv) := by simp [World.cell?, hsbc]
          have hlen : pre.length ≤ 1099511627776 := by
            have h1 := HI.out.2.2.1.length_le
            simp at h1
            omega
          have hszc : w.heap.size < Wc.heap.size := heap_lt hsbc
          have HQ : Hid _ := And.intro hsbc (And.intro hrow (And.intro hBv hfc))
          clear hsbc hBv hfc hxb hpt HK' hrecc
          gi_wp2_with (gi_at_builtin; refine wpListIn_append_smp rfl _ _ rfl (w.heap.size + 1) (.slice av pre.length cv) pre x rfl ?c1 ⟨Wc.heap.size, 0, none⟩ rfl ?c2 ?c3 ?c4 ?_; rotate_left 4; intro g cap w' HA; have hsb' : Hid (w'.heap[w.heap.size]? = some (.cells #[.slice av pre.length cv] 22 (0, 0))) := dkeep HQ.out.1 HQ.out.2.1 HA.out; have kc' : w'.cell? ⟨w.heap.size, 0, none⟩ = some (.slice av pre.length cv) := (by simp [World.cell?, hsb'.out]); have kf' : w'.frozen? ⟨w.heap.size, 0, none⟩ = false := (by simp [World.frozen?, hsb'.out]))
          case c1 => exact World.ownsRow.alloc HQ.out.2.1 _
          case c2 => exact smp_new Wc x _
          case c3 => exact hlen
          case c4 => simp; omega
          exact dround hl' hlt' HI.out HQ.out HA.out hsb'.out
        case hdone =>
          rintro D Bf Wf hD hIf hff hBf hnD hEf hdef
          obtain ⟨av, cv, hsbf, hrow, hBv⟩ := hIf
          have k3 : Wf.cell? ⟨w.heap.size, 0, none⟩ = some (.slice av (Silo.rdSmp 17 b.2 0).1.length cv) := by simp [World.cell?, hsbf]
          have k4 : Wf.frozen? ⟨w.heap.size, 0, none⟩ = false := by simp [World.frozen?, hsbf]
          have HZ : Hid _ := And.intro hsbf (And.intro hrow (And.intro hBv (And.intro hff (And.intro hBf (And.intro hnD (And.intro hEf hdef))))))
          clear hsbf hrow hBv hff hBf hnD hEf hdef hbx5 hsb5
          gi_wp2_with fail
          refine ⟨trivial, fun _ => by omega, (callsIn_wide.2 (RdDone_st Wf w1'.heap.size _ HZ.out.2.2.2.2.2.2.1)).mono ?_⟩
          rintro e Wf' ⟨rfl, rfl⟩
          by_cases hdone : (Silo.rdSmp 17 b.2 0).2 = some []
          · have HD3 : Hid (Silo.decode l = some ⟨a.1, b.1, (Silo.rdSmp 17 b.2 0).1⟩) := HD2.out.trans (if_pos hdone)
            simp only [hdone, decide_true]
            clear hdone
            gi_wp2_with fail
            gi_region
            all_goals
              gi_wp2
              obtain ⟨wz, hz, hzb, hzf, hzr, hzd⟩ := dlast (v := .slice av (Silo.rdSmp 17 b.2 0).1.length cv) HZ.out.1 HZ.out.2.1 HZ.out.2.2.2.2.2.2.2 (show D ≠ w.heap.size by omega) (dfoot H5.out.2 hf5 HZ.out.2.2.2.1 (by omega) (by omega))
              rw [hz]
              refine ⟨by simp, .inl ⟨D, _, rfl, run_takeDeferred hzd, ?_⟩⟩
              have hzc2 : (wz.putObj D (.deferred none)).cell? ⟨w.heap.size, 0, none⟩ = some (.slice av (Silo.rdSmp 17 b.2 0).1.length cv) := by
                rw [World.cell?, World.putObj_heap_other (by simp; omega)]; simp [hzb]
              refine ⟨.tuple #[.int .i64 (a.1 : Nat), .int .i64 (b.1 : Nat), .slice av (Silo.rdSmp 17 b.2 0).1.length cv, .bool true], by simp [results, Try.results24, go_sem, hzc2], ?_, fun h => (by rw [HD3.out] at h; cases h), fun d h => ?_⟩
              · exact hzf.trans (Fp.putObj (S := fun k => k = D) _ _ _ rfl) (fun _ h => h) (fun k hk e => by omega)
              · rw [HD3.out] at h
                cases h
                exact ⟨_, rfl, ownsRow_base (Fp.ownsRow (Fp.putObj (S := fun k => k = D) _ _ _ rfl) hzr (fun k hk e => by
                  subst e
                  exact HZ.out.2.2.2.2.2.1 ((HZ.out.2.2.1 k).2 (.inr hk)))) (by omega)⟩
          · have HD3 : Hid (Silo.decode l = none) := HD2.out.trans (if_neg hdone)
            simp only [hdone, decide_false]
            clear hdone
            gi_wp2_with fail
            obtain ⟨wz, hz, hzb, hzf, hzd⟩ := dlast0 HZ.out.1 HZ.out.2.2.2.2.2.2.2 (show D ≠ w.heap.size by omega) (dfoot H5.out.2 hf5 HZ.out.2.2.2.1 (by omega) (by omega))
            rw [hz]
            refine ⟨by simp, .inl ⟨D, _, rfl, run_takeDeferred hzd, ?_⟩⟩
            have hzc2 : (wz.putObj D (.deferred none)).cell? ⟨w.heap.size, 0, none⟩ = some (.slice none 0 0) := by
              rw [World.cell?, World.putObj_heap_other (by simp; omega)]; simp [hzb]
            refine ⟨zero4, by simp [results, Try.results24, go_sem, hzc2, zero4], ?_, fun _ => rfl, fun d h => (by rw [HD3.out] at h; cases h)⟩
            exact hzf.trans (Fp.putObj (S := fun k => k = D) _ _ _ rfl) (fun _ h => h) (fun k hk e => by omega)
      · have hbool : decide ((0 : Int) ≤ (a.1 : Int) ∧ (a.1 : Int) ≤ (b.1 : Int) ∧ (b.1 : Int) ≤ 999999) = false := by simp; omega
        rw [hbool]
        have hsc4 : w4'.cell? ⟨w.heap.size, 0, none⟩ = some (.slice none 0 0) := by simp [World.cell?, hsb4]
        have hsf4 : w4'.frozen? ⟨w.heap.size, 0, none⟩ = false := by simp [World.frozen?, hsb4]
        have hd : Hid (Silo.decode l = none) := by
          show _ = _
          rw [HD'.out, Silo.decBody]
          simp only [← HA.out, ← HB.out]
          rw [if_pos (by simpa using hrng)]
        clear hbool hrng hsc hsf hsb4 hfw4
        gi_wp2_with fail
        obtain ⟨wz, hz, hzc, hzf⟩ := zstep H5.out
        rw [hz]
        refine ⟨zero4, by simp [results, Try.results24, go_sem, hzc, zero4], hzf, fun _ => rfl, fun d h => by rw [hd.out] at h; cases h⟩

end Go.Proofs.Ytbmpjihdjojgcaa
