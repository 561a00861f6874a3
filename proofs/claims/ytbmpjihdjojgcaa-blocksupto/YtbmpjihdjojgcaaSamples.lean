/- silo.Samples. -/
import Derived.Test.YtbmpjihdjojgcaaDecode
namespace Go.Proofs.Ytbmpjihdjojgcaa
open Go.RowKit Go.Shelf

theorem Decode_any (l : List UInt8) (w : World) (hl : l.length ≤ 1099511627776) :
    Calls Try.prog 24 #[.string (S l)] w fun e w' => Fp (fun _ => False) w w' ∧
      (Silo.decode l = none → e = .returned zero4) ∧
      ∀ d, Silo.decode l = some d → ∃ v, e = .returned (.tuple #[.int .i64 (d.lo : Nat), .int .i64 (d.hi : Nat), v, .bool true]) ∧ World.smpsAt w' w.heap.size v d.l :=
  callsIn_wide.1 (Decode_in 20 (by decide) l w hl)

set_option maxHeartbeats 400000 in
theorem Samples_none (l : List UInt8) (w : World) (hl : l.length ≤ 1099511627776) (hd : Silo.decode l = none) :
    Calls Try.prog 10 #[.string (S l)] w fun e w' => e = .returned (.tuple #[.int .i64 0, .int .i64 0, .slice none 0 0, .int .i64 3]) ∧ Fp (fun _ => False) w w' := by
  go_enter Try.func10, Try.ntmps10
  go_wp2_with fail
  refine (Decode_any l w hl).mono ?_
  rintro e w1 ⟨hf, h0, _⟩
  have e0 := h0 hd
  subst e0
  unfold zero4
  have HF : Hid _ := hf
  clear hf h0 hd
  go_wp2
  refine bodyPost_ret (v := .tuple #[.int .i64 0, .int .i64 0, .slice none 0 0, .int .i64 3]) (by simp [results, Try.results10, go_sem]) rfl ⟨rfl, HF.out⟩

set_option maxHeartbeats 400000 in
theorem Samples_some (l : List UInt8) (w : World) (hl : l.length ≤ 1099511627776) (d : Silo.Dec) (hd : Silo.decode l = some d) :
    Calls Try.prog 10 #[.string (S l)] w fun e w' => ∃ a c, e = .returned (.tuple #[.int .i64 (d.lo : Nat), .int .i64 (d.hi : Nat), .slice a d.l.length c, .int .i64 0]) ∧ World.smpsAt w' w.heap.size (.slice a d.l.length c) d.l ∧ Fp (fun _ => False) w w' := by
  go_enter Try.func10, Try.ntmps10
  go_wp2_with fail
  refine (Decode_any l w hl).mono ?_
  rintro e w1 ⟨hf, _, h0⟩
  obtain ⟨v, e0, hrow⟩ := h0 d hd
  obtain ⟨a, c, rfl⟩ := ownsRow_form hrow
  subst e0
  have HF : Hid _ := And.intro hrow hf
  clear hf h0 hd hrow
  go_wp2
  refine bodyPost_ret (v := .tuple #[.int .i64 (d.lo : Nat), .int .i64 (d.hi : Nat), .slice a d.l.length c, .int .i64 0]) (by simp [results, Try.results10, go_sem]) rfl ⟨a, c, rfl, HF.out⟩

end Go.Proofs.Ytbmpjihdjojgcaa
