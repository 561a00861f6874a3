/- strings.Lines: what it hands on. -/
import Derived.Test.YtbimkgmhfcgpmaaGreatDoorRangeOne
import Derived.Test.YtbimkgmhfcgpmaaGreatDoorGlob
import Derived.RegionIn
namespace Silo

/-- A text's lines, each with its end, if it has one. -/
def linesOf (s : List UInt8) : List (List UInt8) := (pcs 10 s).dropLast.map (· ++ [10]) ++ (match (pcs 10 s).getLast? with
  | some [] => []
  | some l => [l]
  | none => [])

theorem linesOf_nil : linesOf [] = [] := by
  unfold linesOf
  rw [pcs_none 10 [] (by simp)]
  rfl

theorem linesOf_last {s : List UInt8} (h : (10 : UInt8) ∉ s) (h0 : s ≠ []) : linesOf s = [s] := by
  unfold linesOf
  rw [pcs_none 10 s h]
  cases s with
  | nil => exact absurd rfl h0
  | cons b r => rfl

theorem linesOf_row (a r : List UInt8) (h : (10 : UInt8) ∉ a) : linesOf (a ++ 10 :: r) = (a ++ [10]) :: linesOf r := by
  unfold linesOf
  rw [pcs_cut 10 a r h]
  obtain ⟨p, ps, hp⟩ : ∃ p ps, pcs 10 r = p :: ps := List.exists_cons_of_ne_nil (pcs_ne 10 r)
  rw [hp, List.getLast?_cons_cons, List.dropLast_cons_cons]
  rfl

end Silo

namespace Go.Proofs.YtbimkgmhfcgpmaaGreatDoor
open Go.RowKit Go.Shelf

attribute [local go_sem] Oper.semAt_some

set_option maxHeartbeats 400000 in
theorem strLines_any (s : List UInt8) (w : World) :
    Calls Tryz.prog 48 #[.string (S s)] w fun e w' => e = .returned (.func (.func 62) #[] #[.pointer (some ⟨w.heap.size, 0, none⟩)]) ∧ w' = w.alloc (.cells #[.string (S s)] 9) := by
  have hmf : ∀ (fn : Fn) (first cap : Array Value) (w : World), (Instr.makeFunc fn first cap).run Tryz.prog w = .ok (.func fn first cap) w := fun _ _ _ _ => rfl
  go_enter Tryz.func48, Tryz.ntmps48
  go_wp2
  go_ret
  exact ⟨ret_val (by simp), rfl⟩

/-- How much of the text is left. -/
def boxLen (bx : Nat) (w : World) : Nat := match w.cell? ⟨bx, 0, none⟩ with
  | some (.string b) => b.size
  | _ => 0

theorem boxLen_eq {bx : Nat} {w : World} {s : List UInt8} (h : w.cell? ⟨bx, 0, none⟩ = some (.string (S s))) : boxLen bx w = s.length := by
  unfold boxLen
  rw [h]
  rfl

/-- What a round that goes on leaves. -/
theorem lines_next {J : (Nat → Prop) → Option (List (List UInt8)) → World → Prop} {B B' B2 : Nat → Prop} {W wr W4 W3 : World} {bx : Nat} {s r : List UInt8} {pre' : List (List UInt8)}
    (hB : ∀ k, B k → k < W.heap.size ∧ ¬ k = bx) (hlt : bx < W.heap.size) (hb : ∀ j, B' j → (B j ∨ W.heap.size ≤ j) ∧ j < wr.heap.size) (hf : Fp (fun j => B j ∨ j = bx) W wr) (hf2 : Fp (fun k => k = bx) wr W4)
    (h4 : W4.heap[bx]? = some (.cells #[.string (S r)] 9 (0, 0))) (hls : Silo.linesOf s = pre' ++ Silo.linesOf r) (hrl : r.length ≤ 16777216)
    (hj : J B2 (some pre') W3) (hf3 : Fp B' W4 W3) (hb3 : ∀ k, B2 k → (B' k ∨ W4.heap.size ≤ k) ∧ k < W3.heap.size) :
    W3.cell? ⟨bx, 0, none⟩ = some (.string (S r)) ∧ ∃ (pre : List (List UInt8)) (rest : List UInt8), Hid (W3.heap[bx]? = some (.cells #[.string (S rest)] 9 (0, 0)) ∧ Silo.linesOf s = pre ++ Silo.linesOf rest ∧ rest.length ≤ 16777216 ∧
      ∃ B', J B' (some pre) W3 ∧ Fp (fun j => B j ∨ j = bx) W W3 ∧ ∀ j, B' j → (B j ∨ W.heap.size ≤ j) ∧ j < W3.heap.size) := by
  have hnb : ¬ B' bx := fun h => (hb bx h).1.elim (fun h => (hB bx h).2 rfl) (fun h => by omega)
  have hbx3 : W3.heap[bx]? = some (.cells #[.string (S r)] 9 (0, 0)) := by rw [hf3.block bx (heap_lt h4) hnb]; exact h4
  have h1 := hf.size
  have h2 := hf2.size
  refine ⟨by simp [World.cell?, hbx3], pre', r, hbx3, hls, hrl, B2, hj, ?_, ?_⟩
  · exact (hf.trans hf2 (fun _ h => h) (fun _ _ e => .inr e)).trans hf3 (fun _ h => h) (fun j hj h => (hb j h).1.elim .inl (fun h => by omega))
  · intro j hj
    have h3 := hb3 j hj
    exact ⟨h3.1.elim (fun h => (hb j h).1) (fun h => .inr (by omega)), h3.2⟩

theorem lines_stop {B B' B2 : Nat → Prop} {W wr W4 W3 : World} {bx : Nat}
    (hb : ∀ j, B' j → (B j ∨ W.heap.size ≤ j) ∧ j < wr.heap.size) (hf : Fp (fun j => B j ∨ j = bx) W wr) (hf2 : Fp (fun k => k = bx) wr W4)
    (hf3 : Fp B' W4 W3) (hb3 : ∀ k, B2 k → (B' k ∨ W4.heap.size ≤ k) ∧ k < W3.heap.size) :
    Fp (fun j => B j ∨ j = bx) W W3 ∧ ∀ j, B2 j → (B j ∨ W.heap.size ≤ j) ∧ j < W3.heap.size := by
  have h1 := hf.size
  have h2 := hf2.size
  refine ⟨?_, ?_⟩
  · exact (hf.trans hf2 (fun _ h => h) (fun _ _ e => .inr e)).trans hf3 (fun _ h => h) (fun j hj h => (hb j h).1.elim .inl (fun h => by omega))
  · intro j hj
    have h3 := hb3 j hj
    exact ⟨h3.1.elim (fun h => (hb j h).1) (fun h => .inr (by omega)), h3.2⟩

set_option maxHeartbeats 1000000 in
set_option maxRecDepth 100000 in
theorem strLines_seq (n : Nat) (hn : 3 ≤ n) (bx : Nat) (s : List UInt8) (w : World) (hbx : w.heap[bx]? = some (.cells #[.string (S s)] 9 (0, 0))) (hlen : s.length ≤ 16777216) :
    SeqFpS Fence.wide n Tryz.prog 62 #[.pointer (some ⟨bx, 0, none⟩)] (fun x => #[.string (S x)]) (Silo.linesOf s) (fun k => k = bx) (fun k => k = bx) w := by
  intro l J B W hW hB hJ hY h0
  refine callsIn_of_wp Tryz.func62 rfl trivial ?_ rfl
  simp only [Tryz.ntmps62, List.size_toArray, List.length_cons, List.length_nil, Nat.reduceAdd, Nat.reduceSub, Array.replicate_succ, Array.replicate_zero, List.push_toArray, List.append_toArray, List.nil_append, List.cons_append]
  have hbW : W.heap[bx]? = some (.cells #[.string (S s)] 9 (0, 0)) := by rw [hW.block bx (heap_lt hbx) (fun h => h)]; exact hbx
  have hltW := heap_lt hbW
  have HX : Hid _ := hbW
  have HY : Hid _ := hY
  have HJ : Hid _ := hJ
  have H0 : Hid _ := h0
  have HB : Hid _ := hB
  clear hY hJ h0 hB hbx hbW hW
  gi_wp2
  gi_loopw [3] (fun _ wr => ∃ (pre : List (List UInt8)) (rest : List UInt8), Hid (wr.heap[bx]? = some (.cells #[.string (S rest)] 9 (0, 0)) ∧ Silo.linesOf s = pre ++ Silo.linesOf rest ∧ rest.length ≤ 16777216 ∧
      ∃ B', J B' (some pre) wr ∧ Fp (fun j => B j ∨ j = bx) W wr ∧ ∀ j, B' j → (B j ∨ W.heap.size ≤ j) ∧ j < wr.heap.size)) (fun _ wr => boxLen bx wr)
  case atStart => exact ⟨[], s, HX.out, rfl, hlen, B, H0.out, Fp.refl _ _, fun j hj => ⟨.inl hj, (HB.out j hj).1⟩⟩
  case round =>
    obtain ⟨pre, rest, HR⟩ := hrel
    obtain ⟨hbr, hls, hrl, B', hj, hf, hb⟩ := HR.out
    have c0 : wr.cell? ⟨bx, 0, none⟩ = some (.string (S rest)) := by simp [World.cell?, hbr]
    have f0 : wr.frozen? ⟨bx, 0, none⟩ = false := by simp [World.frozen?, hbr]
    have hsz : (S rest).size = rest.length := rfl
    have hnb : ¬ B' bx := fun h => (hb bx h).1.elim (fun h => (HB.out bx h).2 rfl) (fun h => by omega)
    by_cases hr0 : rest = []
    · have hrz : rest.length = 0 := by rw [hr0]; rfl
      have HE : Hid (∃ B', J B' (some (Silo.linesOf s)) wr ∧ Fp (fun j => B j ∨ j = bx) W wr ∧ ∀ j, B' j → (B j ∨ W.heap.size ≤ j) ∧ j < wr.heap.size) := ⟨B', by rw [hls, hr0, Silo.linesOf_nil, List.append_nil]; exact hj, hf, hb⟩
      clear hbr hls hj hf hb hnb hr0
      gi_wp2
      go_end0
      obtain ⟨B2, h1, h2, h3⟩ := HE.out
      exact ⟨⟨_, rfl⟩, B2, .inl h1, h2, h3⟩
    · have hpos : 0 < rest.length := List.length_pos_iff.2 hr0
      by_cases hm : (10 : UInt8) ∈ rest
      · obtain ⟨a, r, har, ha⟩ := Silo.cut_at 10 rest hm
        have hidx : Lib.indexByte rest 10 = (a.length : Nat) := by rw [har, indexByte_hit r ha]
        have hal : rest.length = a.length + 1 + r.length := by rw [har]; simp; omega
        have e1 : (S rest).extract 0 (a.length + 1) = S (a ++ [10]) := by
          rw [S_take, S_toList, har, ← List.singleton_append, ← List.append_assoc]
          congr 1
          rw [List.take_left' (by simp)]
        have e2 : (S rest).extract (a.length + 1) rest.length = S r := by
          rw [S_extract, S_toList, har, ← List.singleton_append, ← List.append_assoc, List.drop_left' (by simp)]
          congr 1
          exact List.take_of_length_le (by simp; omega)
        have hf2 : Fp (fun k => k = bx) wr (wr.setCell ⟨bx, 0, none⟩ (.string (S r))).drew := (Fp.setCell (S := fun k => k = bx) _ _ _ rfl).trans' (Fp.drew _ _)
        have hj2 := HJ.out B' _ _ _ hj (fun j h => (hb j h).2) (hf2.mono (fun k _ e h => hnb (e ▸ h)))
        obtain ⟨fn, tmps, assign, body, hy, hR⟩ := HY.out B' pre (a ++ [10]) _ hj2 (fun j h => Nat.lt_of_lt_of_le (hb j h).2 hf2.size) (by rw [hls, har, Silo.linesOf_row a r ha]; exact ⟨Silo.linesOf r, by simp⟩)
        have h4 : (wr.setCell ⟨bx, 0, none⟩ (.string (S r))).drew.heap[bx]? = some (.cells #[.string (S r)] 9 (0, 0)) := heap_set hbr _
        have hls2 : Silo.linesOf s = (pre ++ [a ++ [10]]) ++ Silo.linesOf r := by rw [hls, har, Silo.linesOf_row a r ha]; simp
        have HH : Hid _ := And.intro hb (And.intro hf (And.intro hf2 (And.intro h4 hls2)))
        rw [hal] at e2
        clear hbr hls hj hj2 hf hb hf2 hm har ha h4 hls2
        gi_wp2_with (refine ⟨trivial, fun _ => by omega, ?_⟩; gi_at_call 63; refine (callsIn_wide.2 (IndexByte_any rest 10 wr)).mono ?_; rintro e w1 ⟨rfl, rfl⟩)
        gi_region
        all_goals gi_wp2
        refine ⟨fun _ => by omega, hR.mono ?_⟩
        rintro e W3 (⟨rfl, B2, h3⟩ | ⟨rfl, B2, h3⟩)
        · have H3 : Hid _ := lines_next HB.out hltW HH.out.1 HH.out.2.1 HH.out.2.2.1 HH.out.2.2.2.1 HH.out.2.2.2.2 (by omega) h3.1 h3.2.1 h3.2.2
          clear h3 hR hy
          gi_wp2
          go_roundw
          case rel => exact H3.out.2
          case measure => rw [boxLen_eq H3.out.1, boxLen_eq c0]; omega
        · have H3 : Hid _ := And.intro h3.1 (lines_stop HH.out.1 HH.out.2.1 HH.out.2.2.1 h3.2.1 h3.2.2)
          clear h3 hR hy
          gi_wp2
          refine bodyPost_ret (results_none rfl _ _ _) rfl ?_
          exact ⟨⟨_, rfl⟩, B2, .inr H3.out.1, H3.out.2⟩
      · have hidx : Lib.indexByte rest 10 = -1 := indexByte_none hm
        have hf2 : Fp (fun k => k = bx) wr (wr.setCell ⟨bx, 0, none⟩ (.string (S []))) := Fp.setCell (S := fun k => k = bx) _ _ _ rfl
        have hj2 := HJ.out B' _ _ _ hj (fun j h => (hb j h).2) (hf2.mono (fun k _ e h => hnb (e ▸ h)))
        obtain ⟨fn, tmps, assign, body, hy, hR⟩ := HY.out B' pre rest _ hj2 (fun j h => Nat.lt_of_lt_of_le (hb j h).2 hf2.size) (by rw [hls, Silo.linesOf_last hm hr0]; exact List.prefix_refl _)
        have h4 : (wr.setCell ⟨bx, 0, none⟩ (.string (S []))).heap[bx]? = some (.cells #[.string (S [])] 9 (0, 0)) := heap_set hbr _
        have hls2 : Silo.linesOf s = (pre ++ [rest]) ++ Silo.linesOf [] := by rw [hls, Silo.linesOf_last hm hr0, Silo.linesOf_nil]; simp
        have HH : Hid _ := And.intro hb (And.intro hf (And.intro hf2 (And.intro h4 hls2)))
        have hz : (S ([] : List UInt8)) = ⟨#[]⟩ := rfl
        rw [hz] at hy
        clear hbr hls hj hj2 hf hb hf2 hm h4 hls2 hr0 hz
        gi_wp2_with (refine ⟨trivial, fun _ => by omega, ?_⟩; gi_at_call 63; refine (callsIn_wide.2 (IndexByte_any rest 10 wr)).mono ?_; rintro e w1 ⟨rfl, rfl⟩)
        refine ⟨fun _ => by omega, hR.mono ?_⟩
        rintro e W3 (⟨rfl, B2, h3⟩ | ⟨rfl, B2, h3⟩)
        · have H3 : Hid _ := lines_next HB.out hltW HH.out.1 HH.out.2.1 HH.out.2.2.1 HH.out.2.2.2.1 HH.out.2.2.2.2 (by simp) h3.1 h3.2.1 h3.2.2
          clear h3 hR hy
          gi_wp2
          go_roundw
          case rel => exact H3.out.2
          case measure => rw [boxLen_eq H3.out.1, boxLen_eq c0]; simp; omega
        · have H3 : Hid _ := And.intro h3.1 (lines_stop HH.out.1 HH.out.2.1 HH.out.2.2.1 h3.2.1 h3.2.2)
          clear h3 hR hy
          gi_wp2
          refine bodyPost_ret (results_none rfl _ _ _) rfl ?_
          exact ⟨⟨_, rfl⟩, B2, .inr H3.out.1, H3.out.2⟩

end Go.Proofs.YtbimkgmhfcgpmaaGreatDoor
