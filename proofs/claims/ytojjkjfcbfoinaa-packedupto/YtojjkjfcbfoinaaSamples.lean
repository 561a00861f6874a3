/- silo.Samples. -/
import Derived.Test.YtojjkjfcbfoinaaDecode
import Derived.BigQuiet
namespace Go.Proofs.Ytojjkjfcbfoinaa
open Go.RowKit Go.Shelf

set_option maxHeartbeats 400000 in
theorem Samples_none (l : List UInt8) (w : World) (hl : l.length ≤ 1099511627776) (hd : Silo.decode l = none) :
    Calls Try.prog 10 #[.string (S l)] w fun e w' => e = .returned (.tuple #[.int .i64 0, .int .i64 0, .slice none 0 0, .int .i64 3]) ∧ Fp (fun _ => False) w w' := by
  go_enter Try.func10, Try.ntmps10
  go_wp2_with fail
  refine (Decode_any l w hl).mono ?_
  rintro e w1 ⟨hf, h0, _⟩
  have e0 := h0 hd
  subst e0
  unfold zero3
  have HF : Hid _ := hf
  clear hf h0 hd
  go_wp2
  refine bodyPost_ret (v := .tuple #[.int .i64 0, .int .i64 0, .slice none 0 0, .int .i64 3]) (by simp [results, Try.results10, go_sem]) rfl ⟨rfl, HF.out.trans' (Fp.alloc _ _ _)⟩

set_option maxHeartbeats 400000 in
theorem Samples_some (l : List UInt8) (w : World) (hl : l.length ≤ 1099511627776) (d : Silo.Dec) (hd : Silo.decode l = some d) :
    Calls Try.prog 10 #[.string (S l)] w fun e w' => ∃ a c, e = .returned (.tuple #[.int .i64 (d.lo : Nat), .int .i64 (d.hi : Nat), .slice a d.l.length c, .int .i64 0]) ∧ World.smpsAt w' w.heap.size (.slice a d.l.length c) d.l ∧ Fp (fun _ => False) w w' := by
  go_enter Try.func10, Try.ntmps10
  go_wp2_with fail
  refine (Decode_any l w hl).mono ?_
  rintro e w1 ⟨hf, _, h0⟩
  obtain ⟨v, e0, hrow⟩ := h0 d hd
  obtain ⟨a, c, rfl⟩ := ownsRow_form hrow
  subst e0
  have HF : Hid _ := And.intro hrow hf
  clear hf h0 hd hrow
  go_wp2_with fail
  obtain ⟨w2, hw2⟩ : ∃ w2, w1.alloc (.cells #[.int .i64 (d.lo : Nat), .int .i64 (d.hi : Nat)] 56) = w2 := ⟨_, rfl⟩
  obtain ⟨z0, z1, z2, z3⟩ := boxed (w1 := w2) (b := w1.heap.size) (by rw [← hw2]; exact heap_new _ _)
  have HW : Hid _ := hw2
  rw [hw2]
  clear hw2
  go_quiet (fail)
  go_wp2
  have e2 := HW.out
  subst e2
  refine bodyPost_ret (v := .tuple #[.int .i64 (d.lo : Nat), .int .i64 (d.hi : Nat), .slice a d.l.length c, .int .i64 0]) (by simp [results, Try.results10, go_sem]) rfl ⟨a, c, rfl, ?_, ?_⟩
  · exact Fp.ownsRow (Fp.drewN (fun _ => False) _ _) (World.ownsRow.alloc HF.out.1 _) (fun _ _ h => h)
  · exact (HF.out.2.trans' (Fp.alloc _ _ _)).trans' (Fp.drewN _ _ _)

end Go.Proofs.Ytojjkjfcbfoinaa
