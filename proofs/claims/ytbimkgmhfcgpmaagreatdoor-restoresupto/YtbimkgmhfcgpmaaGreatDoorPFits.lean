/- (snapshots.Line).Fits. -/
import Derived.Test.YtbimkgmhfcgpmaaGreatDoorPLinesOne
import Derived.Deep.RegionHeld3
namespace Go.Proofs.YtbimkgmhfcgpmaaGreatDoor
open Go.RowKit Go.Shelf

theorem nat_beq (a b : Nat) : (((a : Nat) : Int) == ((b : Nat) : Int)) = decide (a = b) := by
  by_cases h : a = b
  · rw [h]; simp
  · rw [decide_eq_false h, beq_eq_false_iff_ne]; omega

set_option maxHeartbeats 1000000 in
set_option maxRecDepth 100000 in
theorem pFits_any (l : Silo.Ln) (f : List UInt8) (w : World) (hl : f.length ≤ 1099511627776) :
    Calls Tryz.prog 33 #[plV l, .string (S f)] w fun e w' => e = .returned (.bool (l.fits f)) ∧ Fp (fun _ => False) w w' := by
  have HK : Hid (∀ W, Fp (fun _ => False) (w.alloc (.cells #[.int .i64 (l.lo : Nat), .int .i64 (l.hi : Nat), .int .i64 (l.size : Nat), .int .u64 (l.hash : Nat)] 86)) W → W.cell? ⟨w.heap.size, 0, none⟩ = some (.int .i64 (l.lo : Nat)) ∧ W.cell? ⟨w.heap.size, 1, none⟩ = some (.int .i64 (l.hi : Nat)) ∧ W.cell? ⟨w.heap.size, 2, none⟩ = some (.int .i64 (l.size : Nat)) ∧ W.cell? ⟨w.heap.size, 3, none⟩ = some (.int .u64 (l.hash : Nat))) := fun W hW => by
    rw [hW.cell (by simp) (fun h => h), hW.cell (by simp) (fun h => h), hW.cell (by simp) (fun h => h), hW.cell (by simp) (fun h => h)]
    exact ⟨cell_lit w _ _ 0, cell_lit w _ _ 1, cell_lit w _ _ 2, cell_lit w _ _ 3⟩
  have HFit : Hid (l.fits f = (decide (l.size = f.length) && decide (l.hash = Silo.fnv f))) := by
    show _ = _
    unfold Silo.Ln.fits
    congr 1 <;> exact decide_eq_decide.2 ⟨fun h => h.symm, fun h => h.symm⟩
  obtain ⟨b1, hb1⟩ : ∃ b, decide (l.size = f.length) = b := ⟨_, rfl⟩
  obtain ⟨b2, hb2⟩ : ∃ b, decide (l.hash = Silo.fnv f) = b := ⟨_, rfl⟩
  rw [hb1, hb2] at HFit
  have q1 : (((l.size : Nat) : Int) == ((f.length : Nat) : Int)) = b1 := by rw [nat_beq, hb1]
  have q2 : (((l.hash : Nat) : Int) == ((Silo.fnv f : Nat) : Int)) = b2 := by rw [nat_beq, hb2]
  clear hb1 hb2
  unfold plV
  cases b1 <;> cases b2
  all_goals
    go_enter Tryz.func33, Tryz.ntmps33
    go_wp2_with fail
    go_region_held3 (fun W => W.cell? ⟨w.heap.size, 0, none⟩ = some (.int .i64 (l.lo : Nat)) ∧ W.cell? ⟨w.heap.size, 1, none⟩ = some (.int .i64 (l.hi : Nat)) ∧ W.cell? ⟨w.heap.size, 2, none⟩ = some (.int .i64 (l.size : Nat)) ∧ W.cell? ⟨w.heap.size, 3, none⟩ = some (.int .u64 (l.hash : Nat)))
      (first | go_keep | exact HK.out _ ((Fp.drew _ _).trans' HX.out))
      ((go_at_call 52; refine (LineOf_any l.lo l.hi f _ hl).mono ?_; rintro e w1 ⟨rfl, hx⟩; have HX : Hid _ := hx; clear hx; unfold plV; simp only))
    go_wp2
    go_ret
    exact ⟨ret_val (by rw [HFit.out]; simp), ((Fp.alloc _ _ _).trans' (Fp.drew _ _)).trans' HX.out⟩

end Go.Proofs.YtbimkgmhfcgpmaaGreatDoor
