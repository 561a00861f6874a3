/- chains.Decode. -/
import Derived.Test.YtbimkgmhfcgpmaaGreatDoorPureKOne
import Derived.Test.YtbimkgmhfcgpmaaGreatDoorRefRest
import Derived.Test.YtbimkgmhfcgpmaaGreatDoorLinesSeq
import Derived.Deep.RegionLaw
namespace Silo

/-- The parts that have come, and where the reading stands. -/
def RInv (t : Option (List UInt8 × List UInt8 × List (List UInt8))) (b m : List UInt8) (fs : List (List UInt8)) : St → Prop
  | some r => t = (partsAll r.length r).map fun ps => (b, m, fs ++ ps)
  | none => t = none

theorem RInv.step {t : Option (List UInt8 × List UInt8 × List (List UInt8))} {b m r : List UInt8} {fs : List (List UInt8)} (h : RInv t b m fs (some r)) (hr : r ≠ []) : RInv t b m (fs ++ [(rdPart (some r)).1]) (rdPart (some r)).2 := by
  rw [rdPart_some]
  have h : t = (partsAll r.length r).map fun ps => (b, m, fs ++ ps) := h
  cases hp : partR r with
  | none =>
    simp only
    rw [partsAll_none hp hr] at h
    exact h
  | some q =>
    obtain ⟨p, r1⟩ := q
    simp only
    rw [partsAll_step hp] at h
    show t = (partsAll r1.length r1).map fun ps => (b, m, fs ++ [p] ++ ps)
    rw [h]
    cases partsAll r1.length r1 <;> simp

theorem RInv.done {t : Option (List UInt8 × List UInt8 × List (List UInt8))} {b m : List UInt8} {fs : List (List UInt8)} (h : RInv t b m fs (some [])) : t = some (b, m, fs) := by
  have h : t = (partsAll [].length []).map fun ps => (b, m, fs ++ ps) := h
  rw [h]
  simp [partsAll]

theorem RInv.start (b : List UInt8) : RInv (arcP b) (rdB 8 (some b)).1 (rdPart (rdB 8 (some b)).2).1 [] (rdPart (rdB 8 (some b)).2).2 := by
  unfold arcP
  cases h1 : (rdB 8 (some b)).2 with
  | none => rfl
  | some r0 =>
    rw [rdPart_some]
    simp only
    cases h2 : partR r0 with
    | none => rfl
    | some q =>
      obtain ⟨m, r⟩ := q
      simp only
      show _ = _
      simp

theorem rdPart_left (st : St) : left (rdPart st).2 ≤ left st := by
  unfold rdPart
  refine Nat.le_trans (rdB_left _ _) ?_
  cases st with
  | none => exact Nat.le_refl _
  | some l =>
    cases h : rdCode l with
    | none => simp [rdR, h, left]
    | some q =>
      obtain ⟨n, r⟩ := q
      obtain ⟨e, _⟩ := rdCode_some h
      simp [rdR, h, left]
      rw [e]
      simp

theorem rdPart_less {r : List UInt8} (hr : r ≠ []) : left (rdPart (some r)).2 < left (some r) := by
  rw [rdPart_some]
  have hpos : 0 < r.length := List.length_pos_iff.2 hr
  cases h : partR r with
  | none => exact hpos
  | some q =>
    obtain ⟨p, r1⟩ := q
    exact partR_lt h

end Silo

namespace Go.Proofs.YtbimkgmhfcgpmaaGreatDoor
open Go.RowKit Go.Shelf

/-- What Decode leaves. -/
def ARes (s : List UInt8) (base : Nat) (e : Ending) (w' : World) : Prop := match Silo.arcOf s with
  | some (b, m, ps) => ∃ a c, e = .returned (.tuple #[.agg #[.string (S b), .string (S m), .slice a ps.length c], .bool true]) ∧ World.strsAt w' base (.slice a ps.length c) ps
  | none => e = .returned (.tuple #[.agg #[.string (S []), .string (S []), .slice none 0 0], .bool false])

theorem setArc {w : World} {b : Nat} {u0 u1 u2 x y z : Value} {t : TypeId} (h : w.heap[b]? = some (.cells #[u0, u1, u2] t (0, 0))) :
    (((w.setCell ⟨b, 0, none⟩ x).setCell ⟨b, 1, none⟩ y).setCell ⟨b, 2, none⟩ z).heap[b]? = some (.cells #[x, y, z] t (0, 0)) ∧ Fp (fun k => k = b) w (((w.setCell ⟨b, 0, none⟩ x).setCell ⟨b, 1, none⟩ y).setCell ⟨b, 2, none⟩ z) :=
  ⟨heap_set (heap_set (heap_set h x) y) z, ((Fp.setCell (S := fun k => k = b) _ _ _ rfl).trans' (Fp.setCell (S := fun k => k = b) _ _ _ rfl)).trans' (Fp.setCell (S := fun k => k = b) _ _ _ rfl)⟩

theorem arcEnd {w w1 : World} {u0 u1 u2 : Value} (x y z : Value) (h : w1.heap[w.heap.size]? = some (.cells #[u0, u1, u2] 77 (0, 0))) (hf : Fp (fun _ => False) w w1) :
    ∃ wz, ((w1.setCell ⟨w.heap.size, 0, none⟩ x).setCell ⟨w.heap.size, 1, none⟩ y).setCell ⟨w.heap.size, 2, none⟩ z = wz ∧ wz.cell? ⟨w.heap.size, 0, none⟩ = some x ∧ wz.cell? ⟨w.heap.size, 1, none⟩ = some y ∧ wz.cell? ⟨w.heap.size, 2, none⟩ = some z ∧ Fp (fun _ => False) w wz ∧ Fp (fun k => k = w.heap.size) w1 wz := by
  obtain ⟨h1, h2⟩ := setArc (x := x) (y := y) (z := z) h
  exact ⟨_, rfl, by simp [World.cell?, h1], by simp [World.cell?, h1], by simp [World.cell?, h1], hf.trans h2 (fun _ h => h) (fun k hk e => by omega), h2⟩

theorem boxed3 {w1 : World} {b : Nat} {u0 u1 u2 : Value} {t : TypeId} (h : w1.heap[b]? = some (.cells #[u0, u1, u2] t (0, 0))) :
    (w1.frozen? ⟨b, 0, none⟩ = false ∧ w1.frozen? ⟨b, 1, none⟩ = false ∧ w1.frozen? ⟨b, 2, none⟩ = false) ∧ w1.cell? ⟨b, 0, none⟩ = some u0 ∧ w1.cell? ⟨b, 1, none⟩ = some u1 ∧ w1.cell? ⟨b, 2, none⟩ = some u2 :=
  ⟨⟨by simp [World.frozen?, h], by simp [World.frozen?, h], by simp [World.frozen?, h]⟩, by simp [World.cell?, h], by simp [World.cell?, h], by simp [World.cell?, h]⟩

theorem RdS_len {w : World} {rb : Nat} {st : Silo.St} (h : RdS w rb st) : boxLen rb w = Silo.left st := by
  cases st with
  | none =>
    have h0 := Rdr.cell0 h
    unfold boxLen
    rw [h0]
    rfl
  | some l =>
    have h0 := Rdr.cell0 h
    unfold boxLen
    rw [h0]
    rfl

/-- A call of a function at a step of a region that draws. -/
theorem step_call {P : Program} {ops : Array Oper} {o : Oper} {a : Act} {K : Act → World → Prop} {Q : Exit → Act → World → Prop} {E : Prop} {w : World} (hgd : o.guard = none) (f : FuncId) (x : Operand) (ts : Array TypeId)
    (ho : o.op = .call { callee := .value (.func f), args := #[x], argTypes := ts }) (hen : ∀ args w, (callFunc f args).run P w = .ok (.enter f args) w) (v : Value) (hv : a.eval x = v) {R : Ending → World → Prop} (hc : Calls P f #[v] w R)
    (h : ∀ e w', R e w' → ∃ u, e = .returned u ∧ K (a.put o.dst u) w') : if Region.wanted o (yielded ops a.tmps) = true then Oper.wp P o a w K Q else E := by
  have hw : Region.wanted o (yielded ops a.tmps) = true := by simp [Region.wanted, hgd]
  rw [if_pos hw]
  have hr : (execOp a.eval o).run P w = .ok (.enter f #[v]) w := by
    subst hv
    simp [execOp, ho, resolve, invoke, go_sem, hen]
  unfold Oper.wp
  rw [hr, Oper.upon_enter]
  refine hc.mono ?_
  intro e w' hR
  obtain ⟨u, rfl, hK⟩ := h e w' hR
  exact hK

theorem str_one (f : List UInt8) : ∀ u ∈ [Value.string (S f)], u.oneCell' = true := by
  intro u hu
  simp at hu
  subst hu
  rfl

theorem arc_own {wr w6 : World} {rb A n c : Nat} {a : Option Addr} {fs : List (List UInt8)} {o : Obj} (hk : fs.length = n) (h : World.strsAt wr (A + 1) (.slice a n c) fs) (h6 : Fp (fun k => k = rb) wr w6) (hrb : rb < A) : (w6.alloc o).ownsRow (A + 1) 9 1 (.slice a n c) n (strCells fs) := by
  refine World.ownsRow.alloc ?_ _
  unfold World.strsAt at h
  rw [hk] at h
  exact Fp.ownsRow h6 h (fun k hk e => by have := (World.ownsRow.lt h k hk).1; omega)

theorem arc_base {wr w6 : World} {rb A : Nat} {o : Obj} (h : A < wr.heap.size) (h6 : Fp (fun k => k = rb) wr w6) : A + 1 ≤ (w6.alloc o).heap.size := by
  have := h6.size
  simp
  omega

theorem arc_after {wr w6 w7 : World} {rb A n c g cap : Nat} {a : Option Addr} {fs : List (List UInt8)} {p : List UInt8} {o x : Obj} (hA : wr.heap[A]? = some x) (h : World.strsAt wr (A + 1) (.slice a n c) fs) (h6 : Fp (fun k => k = rb) wr w6) (hrb : rb < A)
    (h7 : RowAppended 9 1 (w6.alloc o) w7 (A + 1) (.slice a n c) n (strCells fs) [.string (S p)] g cap) : w7.heap[A]? = some x := by
  have hlt := heap_lt hA
  have s6 := h6.size
  rw [h7.foot.block A (by simp; omega) (fun e => by have := (World.ownsRow.lt h A e).1; omega), (Fp.alloc (fun _ => False) w6 o).block A (by omega) (fun h => h), h6.block A hlt (by omega)]
  exact hA

theorem arc_round {w wr w6 w7 : World} {rb A n c g cap : Nat} {a : Option Addr} {fs : List (List UInt8)} {p : List UInt8} {u0 u1 u2 : Value} {o x : Obj} {st' : Silo.St} (hA : wr.heap[A]? = some (.cells #[u0, u1, u2] 77 (0, 0))) (hk : fs.length = n) (h : World.strsAt wr (A + 1) (.slice a n c) fs) (hR : wr.heap[w.heap.size]? = some x) (hF : Fp (fun _ => False) w wr) (h6 : Fp (fun k => k = rb) wr w6) (hrd : RdS w6 rb st') (hrb : rb < A ∧ w.heap.size ≤ rb) (hRA : w.heap.size < A ∧ w.heap.size ≠ rb)
    (h7 : RowAppended 9 1 (w6.alloc o) w7 (A + 1) (.slice a n c) n (strCells fs) [.string (S p)] g cap) :
    RdS (w7.setCell ⟨A, 2, none⟩ (.slice (some ⟨g, 0, none⟩) (n + 1) cap)) rb st' ∧ (w7.setCell ⟨A, 2, none⟩ (.slice (some ⟨g, 0, none⟩) (n + 1) cap)).heap[A]? = some (.cells #[u0, u1, .slice (some ⟨g, 0, none⟩) (n + 1) cap] 77 (0, 0)) ∧
      World.strsAt (w7.setCell ⟨A, 2, none⟩ (.slice (some ⟨g, 0, none⟩) (n + 1) cap)) (A + 1) (.slice (some ⟨g, 0, none⟩) (n + 1) cap) (fs ++ [p]) ∧ (w7.setCell ⟨A, 2, none⟩ (.slice (some ⟨g, 0, none⟩) (n + 1) cap)).heap[w.heap.size]? = some x ∧ Fp (fun _ => False) w (w7.setCell ⟨A, 2, none⟩ (.slice (some ⟨g, 0, none⟩) (n + 1) cap)) := by
  have hA7 := arc_after hA h h6 hrb.1 h7
  have hv : ∀ k, (Value.slice a n c).ownBlock = some k → A + 1 ≤ k := fun k hk => (World.ownsRow.lt h k hk).1
  have hg : A + 1 ≤ g := (World.ownsRow.lt h7.row g rfl).1
  have f2 : Fp (fun k => k = A) w7 (w7.setCell ⟨A, 2, none⟩ (.slice (some ⟨g, 0, none⟩) (n + 1) cap)) := Fp.setCell _ _ _ rfl
  have fa : Fp (fun _ => False) w6 (w6.alloc o) := Fp.alloc _ _ _
  have s6 := h6.size
  have sa := fa.size
  have s7 := h7.foot.size
  have hlt := heap_lt hA
  have hrl := hrd.lt
  refine ⟨((hrd.fp fa (fun h => h)).fp h7.foot (fun e => by have := hv _ e; omega)).fp f2 (by omega), heap_set hA7 _, ?_, ?_, ?_⟩
  · have h1 := h7.row
    unfold World.strsAt
    rw [strCells_append, List.length_append, hk]
    exact Fp.ownsRow f2 h1 (fun k hk e => by simp [Value.ownBlock] at hk; omega)
  · have hlR := heap_lt hR
    rw [f2.block _ (by omega) (by omega), h7.foot.block _ (by omega) (fun e => by have := hv _ e; omega), fa.block _ (by omega) (fun h => h), h6.block _ hlR hRA.2]
    exact hR
  · have t1 : Fp (fun _ => False) w (w6.alloc o) := (hF.trans h6 (fun _ h => h) (fun k hk e => by omega)).trans' fa
    exact (t1.trans h7.foot (fun _ h => h) (fun k hk e => by have := hv k e; omega)).trans f2 (fun _ h => h) (fun k hk e => by omega)

set_option maxHeartbeats 4000000 in
set_option maxRecDepth 100000 in
theorem arcDecode_any (s : List UInt8) (w : World) (hl : s.length ≤ 16777216) :
    Calls Tryz.prog 29 #[.string (S s)] w fun e w' => ARes s w.heap.size e w' ∧ Fp (fun _ => False) w w' := by
  have hdl : (sealedData s).length ≤ 16777216 := by
    unfold sealedData
    split
    · exact Nat.le_trans (List.length_take_le' _ _) hl
    · simp
  have hbl : (Lib.trimPrefix (sealedData s) [65]).length ≤ 16777216 := by
    unfold Lib.trimPrefix
    split
    · simp; omega
    · exact hdl
  obtain ⟨b1, hb1⟩ : ∃ b, isSealed s = b := ⟨_, rfl⟩
  obtain ⟨b2, hb2⟩ : ∃ b, Lib.hasPrefix (sealedData s) [65] = b := ⟨_, rfl⟩
  obtain ⟨body, hbody⟩ : ∃ b, Lib.trimPrefix (sealedData s) [65] = b := ⟨_, rfl⟩
  have HA : Hid (¬ (b1 = true ∧ b2 = true) → Silo.arcOf s = none) := fun h => arcOf_bad (by rw [hb1, hb2]; exact h)
  have HAg : Hid (b1 = true → b2 = true → Silo.arcOf s = Silo.arcP body) := fun h1 h2 => by rw [← hbody]; exact arcOf_good (hb1.trans h1) (hb2.trans h2)
  rw [hbody] at hbl
  go_enter Tryz.func29, Tryz.ntmps29
  go_wp2_with fail
  obtain ⟨w0, hw0⟩ : ∃ w0, w.alloc (.cells #[.string ⟨#[]⟩, .string ⟨#[]⟩, .slice none 0 0] 77) = w0 := ⟨_, rfl⟩
  have hb0 : w0.heap[w.heap.size]? = some (.cells #[.string ⟨#[]⟩, .string ⟨#[]⟩, .slice none 0 0] 77 (0, 0)) := by rw [← hw0]; exact heap_new _ _
  have hf0 : Fp (fun _ => False) w w0 := by rw [← hw0]; exact Fp.alloc _ _ _
  rw [hw0]
  clear hw0
  refine (Unsealed_any s w0 (by omega)).mono ?_
  rintro e w1 ⟨rfl, h1⟩
  rw [hb1]
  have hr1 : w1.heap[w.heap.size]? = some (.cells #[.string ⟨#[]⟩, .string ⟨#[]⟩, .slice none 0 0] 77 (0, 0)) := (h1.block _ (heap_lt hb0) (fun h => h)).trans hb0
  have H1 : Hid _ := And.intro hr1 (hf0.trans' h1)
  clear h1 hb0 hf0
  go_wp2_with fail
  refine (CutPre_any (sealedData s) [65] w1).mono ?_
  rintro e w1' ⟨rfl, rfl⟩
  rw [hb2, hbody]
  clear hb1 hb2 hbody
  obtain ⟨⟨f0, f1, f2⟩, c0, c1, c2⟩ := boxed3 hr1
  have hlt1 := heap_lt hr1
  clear hr1
  cases b1
  · have HN : Hid _ := HA.out (by simp)
    go_wp2
    obtain ⟨wz, hz, d0, d1, d2, hfz, _⟩ := arcEnd (.string ⟨#[]⟩) (.string ⟨#[]⟩) (.slice none 0 0) H1.out.1 H1.out.2
    rw [hz]
    exact bodyPost_ret (v := .tuple #[.agg #[.string ⟨#[]⟩, .string ⟨#[]⟩, .slice none 0 0], .bool false]) (by simp [results, Tryz.results29, go_sem, d0, d1, d2]) rfl ⟨by unfold ARes; rw [HN.out]; rfl, hfz⟩
  · cases b2
    · have HN : Hid _ := HA.out (by simp)
      go_wp2
      obtain ⟨wz, hz, d0, d1, d2, hfz, _⟩ := arcEnd (.string ⟨#[]⟩) (.string ⟨#[]⟩) (.slice none 0 0) H1.out.1 H1.out.2
      rw [hz]
      exact bodyPost_ret (v := .tuple #[.agg #[.string ⟨#[]⟩, .string ⟨#[]⟩, .slice none 0 0], .bool false]) (by simp [results, Tryz.results29, go_sem, d0, d1, d2]) rfl ⟨by unfold ARes; rw [HN.out]; rfl, hfz⟩
    · have HArc : Hid _ := HAg.out rfl rfl
      clear HA HAg
      go_wp2_with fail
      refine (NewReader_any w1' (S body)).mono ?_
      rintro e w2 ⟨rfl, hrd, h2⟩
      have hrd0 : RdS w2 w1'.heap.size (some body) := hrd
      have hr2 : w2.heap[w.heap.size]? = some (.cells #[.string ⟨#[]⟩, .string ⟨#[]⟩, .slice none 0 0] 77 (0, 0)) := (h2.block _ hlt1 (fun h => h)).trans H1.out.1
      obtain ⟨rb, hrb⟩ : ∃ rb, w1'.heap.size = rb := ⟨_, rfl⟩
      rw [hrb] at hrd0 hlt1 ⊢
      have H2 : Hid _ := And.intro hr2 (And.intro (H1.out.2.trans' h2) (And.intro hrd0 hrb))
      clear h2 hrd hrd0 hr2 f0 f1 f2 c0 c1 c2
      go_wp2_with fail
      refine (RdBytes_st w2 rb (some body) 8 H2.out.2.2.1 (by show body.length ≤ _; omega) (by decide)).mono ?_
      rintro e w3 ⟨rfl, hr3, hf3⟩
      obtain ⟨b8, hb8⟩ : ∃ b, (Silo.rdB 8 (some body)).1 = b := ⟨_, rfl⟩
      have hst := Silo.RInv.start body
      have hl3 := Silo.rdB_left 8 (some body)
      obtain ⟨st1, hst1⟩ : ∃ t, (Silo.rdB 8 (some body)).2 = t := ⟨_, rfl⟩
      rw [hst1] at hr3 hst hl3
      rw [hb8] at hst ⊢
      rw [← HArc.out] at hst
      have hR3 : w3.heap[w.heap.size]? = some (.cells #[.string ⟨#[]⟩, .string ⟨#[]⟩, .slice none 0 0] 77 (0, 0)) := (hf3.block _ (heap_lt H2.out.1) (by omega)).trans H2.out.1
      have hrb3 : rb < w3.heap.size := hr3.lt
      have hF3 : Fp (fun _ => False) w w3 := H2.out.2.1.trans hf3 (fun _ h => h) (fun k hk e => by omega)
      have H3 : Hid _ := And.intro hR3 (And.intro hF3 (And.intro hr3 hst))
      clear hr3 hf3 hst hR3 hF3 hb8 hst1
      go_wp2_with fail
      obtain ⟨w4, hw4⟩ : ∃ w4, w3.alloc (.cells #[.string (S b8), .string ⟨#[]⟩, .slice none 0 0] 77) = w4 := ⟨_, rfl⟩
      have hA4 : w4.heap[w3.heap.size]? = some (.cells #[.string (S b8), .string ⟨#[]⟩, .slice none 0 0] 77 (0, 0)) := by rw [← hw4]; exact heap_new _ _
      have hf4 : Fp (fun _ => False) w3 w4 := by rw [← hw4]; exact Fp.alloc _ _ _
      rw [hw4]
      have hll : Silo.left st1 ≤ 1099511627776 := Nat.le_trans hl3 (by show body.length ≤ _; omega)
      have hl16 : Silo.left st1 ≤ 16777216 := Nat.le_trans hl3 hbl
      refine (readPart_any w4 rb st1 (H3.out.2.2.1.fp hf4 (fun h => h)) hll).mono ?_
      rintro e w5 ⟨rfl, hr5, hf5⟩
      obtain ⟨A, hA⟩ : ∃ A, w3.heap.size = A := ⟨_, rfl⟩
      rw [hA] at hA4 hrb3 ⊢
      have hA5 : w5.heap[A]? = some (.cells #[.string (S b8), .string ⟨#[]⟩, .slice none 0 0] 77 (0, 0)) := (hf5.block _ (heap_lt hA4) (by omega)).trans hA4
      have hR5 : w5.heap[w.heap.size]? = some (.cells #[.string ⟨#[]⟩, .string ⟨#[]⟩, .slice none 0 0] 77 (0, 0)) := by
        have hlt3 := heap_lt H3.out.1
        rw [hf5.block _ (Nat.lt_of_lt_of_le hlt3 hf4.size) (by omega), hf4.block _ hlt3 (fun h => h)]
        exact H3.out.1
      have hF5 : Fp (fun _ => False) w w5 := (H3.out.2.1.trans' hf4).trans hf5 (fun _ h => h) (fun k hk e => by omega)
      have hl5 : Silo.left (Silo.rdPart st1).2 ≤ 16777216 := Nat.le_trans (Silo.rdPart_left st1) hl16
      have hst := H3.out.2.2.2
      obtain ⟨m, hm⟩ : ∃ m, (Silo.rdPart st1).1 = m := ⟨_, rfl⟩
      obtain ⟨st2, hst2⟩ : ∃ t, (Silo.rdPart st1).2 = t := ⟨_, rfl⟩
      rw [hst2] at hr5 hl5 hst
      rw [hm] at hst ⊢
      have hltA : w.heap.size < A := by rw [← hA]; exact heap_lt H3.out.1
      obtain ⟨⟨f0, f1, f2⟩, c0, c1, c2⟩ := boxed3 hA5
      have H5 : Hid (RdS w5 rb st2 ∧ Silo.RInv (Silo.arcOf s) b8 m [] st2 ∧ w5.heap[A]? = some (.cells #[.string (S b8), .string ⟨#[]⟩, .slice none 0 0] 77 (0, 0)) ∧ w5.heap[w.heap.size]? = some (.cells #[.string ⟨#[]⟩, .string ⟨#[]⟩, .slice none 0 0] 77 (0, 0)) ∧ Fp (fun _ => False) w w5) := ⟨hr5, hst, hA5, hR5, hF5⟩
      clear hw4 hA4 hf4 hr5 hf5 hA5 hR5 hF5 hst hm hst2 hA hll
      go_wp2_with fail
      go_loopw [36] (fun _ wr => ∃ (st : Silo.St) (fs : List (List UInt8)) (a : Option Addr) (n c : Nat), n + Silo.left st ≤ 16777216 ∧ Hid (RdS wr rb st ∧ Silo.RInv (Silo.arcOf s) b8 m fs st ∧ wr.heap[A]? = some (.cells #[.string (S b8), .string (S m), .slice a n c] 77 (0, 0)) ∧ fs.length = n ∧ World.strsAt wr (A + 1) (.slice a n c) fs ∧
        wr.heap[w.heap.size]? = some (.cells #[.string ⟨#[]⟩, .string ⟨#[]⟩, .slice none 0 0] 77 (0, 0)) ∧ Fp (fun _ => False) w wr)) (fun _ wr => boxLen rb wr)
      case atStart =>
        have f5 : Fp (fun k => k = A) w5 (w5.setCell ⟨A, 1, none⟩ (.string (S m))) := Fp.setCell _ _ _ rfl
        refine ⟨st2, [], none, 0, 0, by omega, H5.out.1.fp f5 (by omega), H5.out.2.1, heap_set H5.out.2.2.1 _, rfl, ⟨rfl, .inl ⟨rfl, rfl⟩⟩, ?_, H5.out.2.2.2.2.trans f5 (fun _ h => h) (fun k hk e => by omega)⟩
        rw [f5.block _ (heap_lt H5.out.2.2.2.1) (by omega)]
        exact H5.out.2.2.2.1
      case round =>
        obtain ⟨st, fs, a, n, c, hnl, HI⟩ := hrel
        go_wp2_with fail
        refine (RdLeft_st wr rb st HI.out.1).mono ?_
        rintro e wx ⟨rfl, rfl⟩
        obtain ⟨⟨fa0, fa1, fa2⟩, ca0, ca1, ca2⟩ := boxed3 HI.out.2.2.1
        have hAlt : A < wx.heap.size := heap_lt HI.out.2.2.1
        by_cases hpos : 0 < Silo.left st
        · have qp : decide (0 < ((Silo.left st : Nat) : Int)) = true := decide_eq_true (by omega)
          obtain ⟨r, rfl, hr0⟩ : ∃ r, st = some r ∧ r ≠ [] := by
            cases st with
            | none => exact absurd hpos (by decide)
            | some r => exact ⟨r, rfl, by rintro rfl; exact absurd hpos (by decide)⟩
          have HSt : Hid _ := And.intro (HI.out.2.1.step hr0) (Silo.rdPart_less hr0)
          have HRP : Hid (∀ W, Fp (fun _ => False) wx W → Calls Tryz.prog 45 #[.pointer (some ⟨rb, 0, none⟩)] W fun e w' => e = .returned (.string (S (Silo.rdPart (some r)).1)) ∧ RdS w' rb (Silo.rdPart (some r)).2 ∧ Fp (fun k => k = rb) wx w') := fun W hW => by
            refine (readPart_any W rb (some r) (HI.out.1.fp hW (fun h => h)) (by omega)).mono ?_
            rintro e w' ⟨h1, h2, h3⟩
            exact ⟨h1, h2, hW.trans h3 (fun _ h => h.elim) (fun _ _ h => h)⟩
          obtain ⟨pt, hpt⟩ : ∃ p, (Silo.rdPart (some r)).1 = p := ⟨_, rfl⟩
          obtain ⟨st', hst'⟩ : ∃ t, (Silo.rdPart (some r)).2 = t := ⟨_, rfl⟩
          rw [hpt, hst'] at HSt HRP
          clear hpt hst' hr0
          go_wp2_with fail
          have hen := fun args w => enters_of Tryz.func45 (by kernel_rfl) rfl args w
          have hAr : A ≠ rb := by omega
          go_region_law (first | (refine step_call (by rfl) 45 _ _ (by rfl) hen _ (by rfl) (HRP.out _ (Fp.drew _ _)) ?_; rintro e w6 ⟨rfl, hx⟩; refine ⟨_, rfl, ?_⟩; have HX : Hid _ := hx; have k6 : w6.cell? ⟨A, 2, none⟩ = some (.slice a n c) := (hx.2.cell (p := ⟨A, 2, none⟩) hAlt hAr).trans ca2; have hA6 : A < w6.heap.size := Nat.lt_of_lt_of_le hAlt hx.2.size; clear hx) | (refine step_append_row elemStr (by rfl) _ _ (by rfl) (A + 1) (.slice a n c) n (strCells fs) [.string (S pt)] (by rfl) (arc_own HI.out.2.2.2.1 HI.out.2.2.2.2.1 HX.out.2 (by omega)) ⟨w6.heap.size, 0, none⟩ (by rfl) rfl (str_one _) (row_new w6 [.string (S pt)] _ _) (by omega) (arc_base hAlt HX.out.2) ?_; intro g7 cap7 w7 H7; have k7 : w7.cell? ⟨A, 2, none⟩ = some (.slice a n c) := (by have h9 := arc_after HI.out.2.2.1 HI.out.2.2.2.2.1 HX.out.2 (by omega) H7.out; simp [World.cell?, h9]); have f7 : w7.frozen? ⟨A, 2, none⟩ = false := (by have h9 := arc_after HI.out.2.2.1 HI.out.2.2.2.2.1 HX.out.2 (by omega) H7.out; simp [World.frozen?, h9])))
          all_goals
            go_wp2
            go_roundw
            case rel =>
              have h9 := arc_round HI.out.2.2.1 HI.out.2.2.2.1 HI.out.2.2.2.2.1 HI.out.2.2.2.2.2.1 HI.out.2.2.2.2.2.2 HX.out.2 HX.out.1 (by omega) (by omega) H7.out
              refine ⟨st', fs ++ [pt], some ⟨g7, 0, none⟩, n + 1, cap7, ?_, h9.1, HSt.out.1, h9.2.1, by simp [HI.out.2.2.2.1], h9.2.2.1, h9.2.2.2.1, h9.2.2.2.2⟩
              have := HSt.out.2
              omega
            case measure =>
              have h9 := arc_round HI.out.2.2.1 HI.out.2.2.2.1 HI.out.2.2.2.2.1 HI.out.2.2.2.2.2.1 HI.out.2.2.2.2.2.2 HX.out.2 HX.out.1 (by omega) (by omega) H7.out
              rw [RdS_len h9.1, RdS_len HI.out.1]
              exact HSt.out.2
        · have qp : decide (0 < ((Silo.left st : Nat) : Int)) = false := decide_eq_false (by omega)
          have hRlt := heap_lt HI.out.2.2.2.2.2.1
          obtain ⟨⟨fr0, fr1, fr2⟩, cr0, cr1, cr2⟩ := boxed3 HI.out.2.2.2.2.2.1
          go_wp2_with fail
          refine (RdDone_st wx rb st HI.out.1).mono ?_
          rintro e wy ⟨rfl, rfl⟩
          cases st with
          | none =>
            have HN : Hid (Silo.arcOf s = none) := HI.out.2.1
            have qd : decide ((none : Silo.St) = some []) = false := rfl
            rw [qd]
            clear qd
            go_wp2
            obtain ⟨wz, hz, d0, d1, d2, hfz, _⟩ := arcEnd (.string ⟨#[]⟩) (.string ⟨#[]⟩) (.slice none 0 0) HI.out.2.2.2.2.2.1 HI.out.2.2.2.2.2.2
            rw [hz]
            exact bodyPost_ret (v := .tuple #[.agg #[.string ⟨#[]⟩, .string ⟨#[]⟩, .slice none 0 0], .bool false]) (by simp [results, Tryz.results29, go_sem, d0, d1, d2]) rfl ⟨by unfold ARes; rw [HN.out]; rfl, hfz⟩
          | some r =>
            have hr0 : r = [] := List.length_eq_zero_iff.1 (by simpa [Silo.left] using hpos)
            subst hr0
            have HN : Hid _ := HI.out.2.1.done
            have qd : decide ((some [] : Silo.St) = some []) = true := rfl
            rw [qd]
            clear qd
            go_wp2
            obtain ⟨wz, hz, d0, d1, d2, hfz, hfz2⟩ := arcEnd (.string (S b8)) (.string (S m)) (.slice a n c) HI.out.2.2.2.2.2.1 HI.out.2.2.2.2.2.2
            rw [hz]
            refine bodyPost_ret (v := .tuple #[.agg #[.string (S b8), .string (S m), .slice a n c], .bool true]) (by simp [results, Tryz.results29, go_sem, d0, d1, d2]) rfl ⟨?_, hfz⟩
            unfold ARes
            rw [HN.out]
            have e1 := HI.out.2.2.2.1
            subst e1
            exact ⟨a, c, rfl, ownsRow_base (Fp.ownsRow hfz2 HI.out.2.2.2.2.1 (fun k hk e => by have := (World.ownsRow.lt HI.out.2.2.2.2.1 k hk).1; omega)) (by omega)⟩

end Go.Proofs.YtbimkgmhfcgpmaaGreatDoor
