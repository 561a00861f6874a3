/- snapshots.readLine. -/
import Derived.Test.YtbimkgmhfcgpmaaGreatDoorTxtOne
import Derived.Test.YtbimkgmhfcgpmaaGreatDoorFromName
import Derived.Test.YtbimkgmhfcgpmaaGreatDoorPureHOne
import Derived.Test.YtbimkgmhfcgpmaaGreatDoorChnOne
namespace Silo

/-- A line of a manifest's text, with its end. -/
def rlP (t : List UInt8) : Option Ln := if Go.Lib.hasSuffix t [10] = true then lineOf (Go.Lib.trimSuffix t [10]) else none

end Silo

namespace Go.Proofs.YtbimkgmhfcgpmaaGreatDoor
open Go.RowKit Go.Shelf

/-- What readLine gives. -/
def RL (t : List UInt8) (e : Ending) : Prop := match Silo.rlP t with
  | some l => e = .returned (.tuple #[plV l, .bool true])
  | none => ∃ a b c d : Int, e = .returned (.tuple #[.agg #[.int .i64 a, .int .i64 b, .int .i64 c, .int .u64 d], .bool false])

theorem setLine {w : World} {b : Nat} {u0 u1 u2 u3 x y z u : Value} {t : TypeId} (h : w.heap[b]? = some (.cells #[u0, u1, u2, u3] t (0, 0))) :
    ((((w.setCell ⟨b, 0, none⟩ x).setCell ⟨b, 1, none⟩ y).setCell ⟨b, 2, none⟩ z).setCell ⟨b, 3, none⟩ u).heap[b]? = some (.cells #[x, y, z, u] t (0, 0)) ∧ Fp (fun k => k = b) w ((((w.setCell ⟨b, 0, none⟩ x).setCell ⟨b, 1, none⟩ y).setCell ⟨b, 2, none⟩ z).setCell ⟨b, 3, none⟩ u) :=
  ⟨heap_set (heap_set (heap_set (heap_set h x) y) z) u, (((Fp.setCell (S := fun k => k = b) _ _ _ rfl).trans' (Fp.setCell (S := fun k => k = b) _ _ _ rfl)).trans' (Fp.setCell (S := fun k => k = b) _ _ _ rfl)).trans' (Fp.setCell (S := fun k => k = b) _ _ _ rfl)⟩

theorem lnEnd {w w1 : World} {u0 u1 u2 u3 : Value} (x y z u : Value) (h : w1.heap[w.heap.size]? = some (.cells #[u0, u1, u2, u3] 86 (0, 0))) (hf : Fp (fun _ => False) w w1) :
    ∃ wz, (((w1.setCell ⟨w.heap.size, 0, none⟩ x).setCell ⟨w.heap.size, 1, none⟩ y).setCell ⟨w.heap.size, 2, none⟩ z).setCell ⟨w.heap.size, 3, none⟩ u = wz ∧ wz.cell? ⟨w.heap.size, 0, none⟩ = some x ∧ wz.cell? ⟨w.heap.size, 1, none⟩ = some y ∧ wz.cell? ⟨w.heap.size, 2, none⟩ = some z ∧ wz.cell? ⟨w.heap.size, 3, none⟩ = some u ∧ Fp (fun _ => False) w wz := by
  obtain ⟨h1, h2⟩ := setLine (x := x) (y := y) (z := z) (u := u) h
  exact ⟨_, rfl, by simp [World.cell?, h1], by simp [World.cell?, h1], by simp [World.cell?, h1], by simp [World.cell?, h1], hf.trans h2 (fun _ h => h) (fun k hk e => by omega)⟩

theorem boxed4 {w1 : World} {b : Nat} {u0 u1 u2 u3 : Value} {t : TypeId} (h : w1.heap[b]? = some (.cells #[u0, u1, u2, u3] t (0, 0))) :
    (w1.frozen? ⟨b, 0, none⟩ = false ∧ w1.frozen? ⟨b, 1, none⟩ = false ∧ w1.frozen? ⟨b, 2, none⟩ = false ∧ w1.frozen? ⟨b, 3, none⟩ = false) ∧ w1.cell? ⟨b, 0, none⟩ = some u0 ∧ w1.cell? ⟨b, 1, none⟩ = some u1 ∧ w1.cell? ⟨b, 2, none⟩ = some u2 ∧ w1.cell? ⟨b, 3, none⟩ = some u3 :=
  ⟨⟨by simp [World.frozen?, h], by simp [World.frozen?, h], by simp [World.frozen?, h], by simp [World.frozen?, h]⟩, by simp [World.cell?, h], by simp [World.cell?, h], by simp [World.cell?, h], by simp [World.cell?, h]⟩

set_option maxHeartbeats 4000000 in
set_option maxRecDepth 100000 in
theorem readLine_any (t : List UInt8) (w : World) (hl : t.length ≤ 16777216) (hg : Gl w) :
    Calls Tryz.prog 49 #[.string (S t)] w fun e w' => RL t e ∧ Fp (fun _ => False) w w' := by
  have hTl : (Lib.trimSuffix t [10]).length ≤ 16777216 := by
    unfold Lib.trimSuffix
    split
    · simp; omega
    · exact hl
  have hrl : Silo.rlP t = if Lib.hasSuffix t [10] = true then Silo.lineOf (Lib.trimSuffix t [10]) else none := rfl
  obtain ⟨E, hE⟩ : ∃ E, Lib.hasSuffix t [10] = E := ⟨_, rfl⟩
  obtain ⟨T, hT⟩ : ∃ T, Lib.trimSuffix t [10] = T := ⟨_, rfl⟩
  rw [hE, hT] at hrl
  rw [hT] at hTl
  have HRL : Hid _ := hrl
  have HG : Hid _ := hg
  clear hrl hg
  go_enter Tryz.func49, Tryz.ntmps49
  go_wp2_with fail
  obtain ⟨w1, hw1⟩ : ∃ w1, w.alloc (.cells #[.int .i64 0, .int .i64 0, .int .i64 0, .int .u64 0] 86) = w1 := ⟨_, rfl⟩
  have hb1 : w1.heap[w.heap.size]? = some (.cells #[.int .i64 0, .int .i64 0, .int .i64 0, .int .u64 0] 86 (0, 0)) := by rw [← hw1]; exact heap_new _ _
  have hf1 : Fp (fun _ => False) w w1 := by rw [← hw1]; exact Fp.alloc _ _ _
  rw [hw1]
  have H1 : Hid _ := And.intro hb1 hf1
  clear hb1 hf1 hw1
  refine (CutSuf_any t [10] w1 (by omega)).mono ?_
  rintro e w2 ⟨rfl, rfl⟩
  rw [hE, hT]
  clear hE hT
  go_wp2_with fail
  refine (Split_any T 32 _ (by omega) (HG.out.fp H1.out.2)).mono ?_
  rintro e w3 ⟨rfl, hw3⟩
  have hf3 : Fp (fun _ => False) w2 w3 := by rw [hw3]; exact Fp.alloc _ _ _
  have hp3 : w3.heap[w2.heap.size]? = some (.cells (strCells (Silo.pcs 32 T)).toArray 9) := by rw [hw3]; exact heap_new _ _
  have hb3 : w3.heap[w.heap.size]? = some (.cells #[.int .i64 0, .int .i64 0, .int .i64 0, .int .u64 0] 86 (0, 0)) := by rw [hf3.block _ (heap_lt H1.out.1) (fun h => h)]; exact H1.out.1
  have H3 : Hid (w3.heap[w.heap.size]? = some (.cells #[.int .i64 0, .int .i64 0, .int .i64 0, .int .u64 0] 86 (0, 0)) ∧ Fp (fun _ => False) w w3 ∧ w3.heap[w2.heap.size]? = some (.cells (strCells (Silo.pcs 32 T)).toArray 9)) := ⟨hb3, H1.out.2.trans' hf3, hp3⟩
  have hpl := Silo.pcs_len 32 T
  clear hf3 hp3 hw3
  cases E
  · obtain ⟨⟨f0, f1, f2, f3⟩, c0, c1, c2, c3⟩ := boxed4 hb3
    have HN : Hid (Silo.rlP t = none) := by show _ = _; rw [HRL.out]; rfl
    clear hb3
    go_wp2
    obtain ⟨wz, hz, d0, d1, d2, d3, hfz⟩ := lnEnd (.int .i64 0) (.int .i64 0) (.int .i64 0) (.int .u64 0) H3.out.1 H3.out.2.1
    rw [hz]
    exact bodyPost_ret (v := .tuple #[.agg #[.int .i64 0, .int .i64 0, .int .i64 0, .int .u64 0], .bool false]) (by simp [results, Tryz.results49, go_sem, d0, d1, d2, d3]) rfl ⟨by unfold RL; rw [HN.out]; exact ⟨0, 0, 0, 0, rfl⟩, hfz⟩
  · rw [if_pos rfl] at HRL
    by_cases h3 : (Silo.pcs 32 T).length = 3
    · obtain ⟨A, B, C, hABC⟩ : ∃ A B C, Silo.pcs 32 T = [A, B, C] := by
        match hx : Silo.pcs 32 T, h3 with
        | [a, b, c], _ => exact ⟨a, b, c, rfl⟩
      have hAl : A.length ≤ 16777216 := Nat.le_trans (pcs_piece_len 32 T A (by rw [hABC]; simp)) hTl
      have hBl : B.length ≤ 16777216 := Nat.le_trans (pcs_piece_len 32 T B (by rw [hABC]; simp)) hTl
      have hCl : C.length ≤ 16777216 := Nat.le_trans (pcs_piece_len 32 T C (by rw [hABC]; simp)) hTl
      have hline := lineOf_abc hABC
      rw [← HRL.out] at hline
      have HLine : Hid _ := hline
      rw [hABC] at H3 ⊢
      have HK : Hid (∀ W, Fp (fun _ => False) w3 W → W.cell? ⟨w2.heap.size, 0, none⟩ = some (.string (S A)) ∧ W.cell? ⟨w2.heap.size, 1, none⟩ = some (.string (S B)) ∧ W.cell? ⟨w2.heap.size, 2, none⟩ = some (.string (S C))) := fun W hW => by
        have hlt := heap_lt H3.out.2.2
        rw [hW.cell hlt (fun h => h), hW.cell hlt (fun h => h), hW.cell hlt (fun h => h)]
        simp only [World.cell?, H3.out.2.2]
        exact ⟨rfl, rfl, rfl⟩
      have hR3 := heap_lt hb3
      clear hline hABC h3 hb3 HRL hpl
      simp only [List.length_cons, List.length_nil]
      have k0 := (HK.out w3 (Fp.refl _ _)).1
      go_wp2_with fail
      refine (FromName_any A w3 hAl (HG.out.fp H3.out.2.1)).mono ?_
      rintro e w4 ⟨rfl, h4⟩
      obtain ⟨o1, ho1⟩ : ∃ o, Silo.rangeOf A = o := ⟨_, rfl⟩
      rw [ho1] at HLine ⊢
      obtain ⟨x1, y1, b1, hx1, hxb1⟩ : ∃ (x1 y1 : Nat) (b1 : Bool), rngV o1 = .tuple #[.agg #[.int .i64 (x1 : Nat), .int .i64 (y1 : Nat)], .bool b1] ∧ ((b1 = true ∧ o1 = some (x1, y1)) ∨ (b1 = false ∧ o1 = none)) := by
        cases o1 with
        | none => exact ⟨0, 0, false, rfl, .inr ⟨rfl, rfl⟩⟩
        | some v => exact ⟨v.1, v.2, true, rfl, .inl ⟨rfl, rfl⟩⟩
      rw [hx1]
      have H4 : Hid _ := h4
      have k1 := (HK.out w4 h4).2.1
      have hlt4 : w2.heap.size < w4.heap.size := Nat.lt_of_lt_of_le (heap_lt H3.out.2.2) h4.size
      clear ho1 hx1 h4 k0
      go_wp2_with fail
      obtain ⟨w5, hw5⟩ : ∃ w5, w4.alloc (.cells #[.int .i64 (x1 : Nat), .int .i64 (y1 : Nat)] 84) = w5 := ⟨_, rfl⟩
      have hr5 : w5.heap[w4.heap.size]? = some (.cells #[.int .i64 (x1 : Nat), .int .i64 (y1 : Nat)] 84 (0, 0)) := by rw [← hw5]; exact heap_new _ _
      have hf5 : Fp (fun _ => False) w4 w5 := by rw [← hw5]; exact Fp.alloc _ _ _
      rw [hw5]
      have H5 : Hid _ := And.intro hr5 (H4.out.trans' hf5)
      clear hr5 hf5 hw5 k1
      refine (Decimal_any B 999999999 w5 (by decide) (by omega) (HG.out.fp (H3.out.2.1.trans' H5.out.2))).mono ?_
      rintro e w6 ⟨rfl, h6⟩
      obtain ⟨o2, ho2⟩ : ∃ o, Silo.numOf B 999999999 = o := ⟨_, rfl⟩
      rw [ho2] at HLine ⊢
      obtain ⟨x2, b2, hx2, hxb2⟩ : ∃ (x2 : Nat) (b2 : Bool), decV o2 = .tuple #[.int .i64 (x2 : Nat), .bool b2] ∧ ((b2 = true ∧ o2 = some x2) ∨ (b2 = false ∧ o2 = none)) := by
        cases o2 with
        | none => exact ⟨0, false, rfl, .inr ⟨rfl, rfl⟩⟩
        | some v => exact ⟨v, true, rfl, .inl ⟨rfl, rfl⟩⟩
      rw [hx2]
      have H6 : Hid _ := h6
      have k2 := (HK.out w6 (H5.out.2.trans' h6)).2.2
      clear ho2 hx2 h6
      go_wp2_with fail
      refine (FromHash_any C w6 hCl (HG.out.fp (H3.out.2.1.trans' (H5.out.2.trans' H6.out)))).mono ?_
      rintro e w7 ⟨rfl, h7⟩
      obtain ⟨o3, ho3⟩ : ∃ o, Silo.hexOf C = o := ⟨_, rfl⟩
      rw [ho3] at HLine ⊢
      obtain ⟨x3, b3, hx3, hxb3⟩ : ∃ (x3 : Nat) (b3 : Bool), hexVal o3 = .tuple #[.int .u64 (x3 : Nat), .bool b3] ∧ ((b3 = true ∧ o3 = some x3) ∨ (b3 = false ∧ o3 = none)) := by
        cases o3 with
        | none => exact ⟨0, false, rfl, .inr ⟨rfl, rfl⟩⟩
        | some v => exact ⟨v, true, rfl, .inl ⟨rfl, rfl⟩⟩
      rw [hx3]
      have hf7 : Fp (fun _ => False) w5 w7 := H6.out.trans' h7
      have hr7 : w7.heap[w4.heap.size]? = some (.cells #[.int .i64 (x1 : Nat), .int .i64 (y1 : Nat)] 84 (0, 0)) := by rw [hf7.block _ (heap_lt H5.out.1) (fun h => h)]; exact H5.out.1
      have hb7 : w7.heap[w.heap.size]? = some (.cells #[.int .i64 0, .int .i64 0, .int .i64 0, .int .u64 0] 86 (0, 0)) := by rw [(H5.out.2.trans' hf7).block _ hR3 (fun h => h)]; exact H3.out.1
      obtain ⟨⟨f0, f1, f2, f3⟩, c0, c1, c2, c3⟩ := boxed4 hb7
      obtain ⟨_, _, r0, r1⟩ := boxed hr7
      have H7 : Hid (w7.heap[w.heap.size]? = some (.cells #[.int .i64 0, .int .i64 0, .int .i64 0, .int .u64 0] 86 (0, 0)) ∧ Fp (fun _ => False) w w7) := ⟨hb7, H3.out.2.1.trans' (H5.out.2.trans' hf7)⟩
      have HX : Hid _ := And.intro hxb1 (And.intro hxb2 (And.intro hxb3 HLine.out))
      clear ho3 hx3 h7 hf7 hr7 hb7 k2 hxb1 hxb2 hxb3 HLine
      have HQ : Hid (RL t (.returned (.tuple #[.agg #[.int .i64 (x1 : Nat), .int .i64 (y1 : Nat), .int .i64 (x2 : Nat), .int .u64 (x3 : Nat)], .bool (b1 && b2 && b3)]))) := by
        obtain ⟨q1, q2, q3, q4⟩ := HX.out
        show RL _ _
        unfold RL
        rw [q4]
        rcases q1 with ⟨rfl, rfl⟩ | ⟨rfl, rfl⟩
        · rcases q2 with ⟨rfl, rfl⟩ | ⟨rfl, rfl⟩
          · rcases q3 with ⟨rfl, rfl⟩ | ⟨rfl, rfl⟩
            · rfl
            · exact ⟨_, _, _, _, rfl⟩
          · rcases q3 with ⟨rfl, rfl⟩ | ⟨rfl, rfl⟩
            · exact ⟨_, _, _, _, rfl⟩
            · exact ⟨_, _, _, _, rfl⟩
        · rcases q2 with ⟨rfl, rfl⟩ | ⟨rfl, rfl⟩
          · rcases q3 with ⟨rfl, rfl⟩ | ⟨rfl, rfl⟩
            · exact ⟨_, _, _, _, rfl⟩
            · exact ⟨_, _, _, _, rfl⟩
          · rcases q3 with ⟨rfl, rfl⟩ | ⟨rfl, rfl⟩
            · exact ⟨_, _, _, _, rfl⟩
            · exact ⟨_, _, _, _, rfl⟩
      clear HX
      cases b1 <;> cases b2 <;> cases b3
      all_goals
        go_wp2
        obtain ⟨wz, hz, d0, d1, d2, d3, hfz⟩ := lnEnd (.int .i64 (x1 : Nat)) (.int .i64 (y1 : Nat)) (.int .i64 (x2 : Nat)) (.int .u64 (x3 : Nat)) H7.out.1 H7.out.2
        rw [hz]
        exact bodyPost_ret (by simp [results, Tryz.results49, go_sem, d0, d1, d2, d3]) rfl ⟨HQ.out, hfz⟩
    · have q3 : (((Silo.pcs 32 T).length : Int) != 3) = true := bne_iff_ne.2 (by omega)
      obtain ⟨⟨f0, f1, f2, f3⟩, c0, c1, c2, c3⟩ := boxed4 hb3
      have HN : Hid (Silo.rlP t = none) := by show _ = _; rw [HRL.out]; exact lineOf_count h3
      clear hb3
      go_wp2
      obtain ⟨wz, hz, d0, d1, d2, d3, hfz⟩ := lnEnd (.int .i64 0) (.int .i64 0) (.int .i64 0) (.int .u64 0) H3.out.1 H3.out.2.1
      rw [hz]
      exact bodyPost_ret (v := .tuple #[.agg #[.int .i64 0, .int .i64 0, .int .i64 0, .int .u64 0], .bool false]) (by simp [results, Tryz.results49, go_sem, d0, d1, d2, d3]) rfl ⟨by unfold RL; rw [HN.out]; exact ⟨0, 0, 0, 0, rfl⟩, hfz⟩

end Go.Proofs.YtbimkgmhfcgpmaaGreatDoor
