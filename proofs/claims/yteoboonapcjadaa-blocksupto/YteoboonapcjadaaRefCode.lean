/- siloref's code of a number. -/
import Derived.Test.YteoboonapcjadaaRefWide
import Derived.Test.YteoboonapcjadaaAppend
import Derived.Deep.RegionHeld
namespace Go.Proofs.Yteoboonapcjadaa
open Go.RowKit

theorem conv_cell (u : World) (g : Nat) (x : Int) (b : UInt8) (hc : u.cell? ⟨g, 0, none⟩ = some (.int .u8 x)) (hx : x = (b.toNat : Nat)) :
    (convert 73 9 (.slice (some ⟨g, 0, none⟩) 1 1)).run Try.prog u = .ok (.string (S [b])) u := by
  refine conv_bytes u g 1 [b] ?_
  intro i hi
  have hi1 : i < 1 := hi
  match i, hi1 with
  | 0, _ => rw [hc, hx]; rfl

theorem conv_after {w w2 : World} {x : Int} {b : UInt8} {t : TypeId} (h : Fp (fun _ => False) (w.alloc (.cells #[.int .u8 x] t)).drew w2) (hx : x = (b.toNat : Nat)) :
    (convert 73 9 (.slice (some ⟨w.heap.size, 0, none⟩) 1 1)).run Try.prog w2 = .ok (.string (S [b])) w2 := by
  refine conv_cell _ _ x b ?_ hx
  have hlt : w.heap.size < (w.alloc (.cells #[.int .u8 x] t)).drew.heap.size := by show w.heap.size < (w.alloc (.cells #[.int .u8 x] t)).heap.size; simp
  rw [h.cell (p := ⟨w.heap.size, 0, none⟩) hlt (fun z => z)]
  exact cell_lit w _ _ 0

theorem hi_byte (n : Nat) : 128 + (n : Int) % 128 = ((UInt8.ofNat (n % 128 + 128)).toNat : Nat) := by
  rw [UInt8.toNat_ofNat']; omega

theorem leb_size (n : Nat) (h : n < Silo.M64) : (S (Silo.leb n)).size ≤ 10 := Silo.leb_len n h

set_option maxHeartbeats 2000000 in
set_option maxRecDepth 100000 in
theorem RefCode_any (n : Nat) : ∀ (w : World), n < Silo.M64 →
    Calls Try.prog 41 #[.int .u64 n] w fun e w' => e = .returned (.string (S (Silo.leb n))) ∧ Fp (fun _ => False) w w' := by
  induction n using Nat.strongRecOn with
  | _ n ih =>
    intro w hn
    have hs1 := S_one
    by_cases h : n < 128
    · have hcv : ∀ (u : World) (t : TypeId), (convert 73 9 (.slice (some ⟨u.heap.size, 0, none⟩) 1 1)).run Try.prog (u.alloc (.cells #[.int .u8 (n : Int)] t)) = .ok (.string (S [UInt8.ofNat n])) (u.alloc (.cells #[.int .u8 (n : Int)] t)) := fun u t =>
        conv_cell _ _ _ _ (cell_lit _ _ _ 0) (lo128 n h)
      go_enter Try.func41, Try.ntmps41
      go_wp2
      go_ret
      exact ⟨ret_val (by rw [Silo.leb_lo n h]; simp), Fp.alloc _ _ _⟩
    · obtain ⟨bb, hbb⟩ : ∃ bb, bb = UInt8.ofNat (n % 128 + 128) := ⟨_, rfl⟩
      have hb : 128 + (n : Int) % 128 = (bb.toNat : Nat) := by rw [hbb]; exact hi_byte n
      have HB : Hid _ := And.intro hbb hb
      clear hbb
      have hcv : ∀ (u : World) (t : TypeId), (convert 73 9 (.slice (some ⟨u.heap.size, 0, none⟩) 1 1)).run Try.prog (u.alloc (.cells #[.int .u8 (128 + (n : Int) % 128)] t)) = .ok (.string (S [bb])) (u.alloc (.cells #[.int .u8 (128 + (n : Int) % 128)] t)) := fun u t =>
        conv_cell _ _ _ _ (cell_lit _ _ _ 0) hb
      have hd : n / 128 < Silo.M64 := Nat.lt_of_le_of_lt (Nat.div_le_self _ _) hn
      have hIH : ∀ u : World, Calls Try.prog 41 #[.int .u64 ((n : Int) / 128)] u fun e w' => e = .returned (.string (S (Silo.leb (n / 128)))) ∧ Fp (fun _ => False) u w' := fun u => by
        have := ih (n / 128) (by omega) u hd
        rwa [Int.natCast_ediv] at this
      have HI : Hid _ := hIH
      have hsz := leb_size (n / 128) hd
      clear ih hd hIH
      unfold Silo.M64 at hn
      have hcw : ∀ t : TypeId, (convert 73 9 (.slice (some ⟨w.heap.size, 0, none⟩) 1 1)).run Try.prog (w.alloc (.cells #[.int .u8 (128 + (n : Int) % 128)] t)).drew = .ok (.string (S [bb])) (w.alloc (.cells #[.int .u8 (128 + (n : Int) % 128)] t)).drew := fun t =>
        conv_cell _ _ _ _ (cell_lit w _ _ 0) hb
      clear hb
      have f1 : (n : Int).tmod 128 = (n : Int) % 128 := Int.tmod_eq_emod_of_nonneg (by omega)
      have f2 : IntKind.u64.wrap (128 + (n : Int) % 128) = 128 + (n : Int) % 128 := by rw [IntKind.wrap_u64]; omega
      have f3 : IntKind.u8.wrap (128 + (n : Int) % 128) = 128 + (n : Int) % 128 := by rw [IntKind.wrap_u8]; omega
      have f4 : IntKind.u64.wrap ((n : Int) / 128) = (n : Int) / 128 := by rw [IntKind.wrap_u64]; omega
      go_enter Try.func41, Try.ntmps41
      go_wp2_with fail
      go_region_with (go_at_call 41; refine (HI.out _).mono ?_; rintro e w2 ⟨rfl, h2⟩; first | (have hx := conv_after h2 HB.out.2; have H2 : Hid _ := h2; clear h2) | (have H2 : Hid _ := h2; clear h2))
      all_goals go_wp2
      all_goals go_ret
      all_goals have hsum : S (Silo.leb n) = S [bb] ++ S (Silo.leb (n / 128)) := by rw [Silo.leb_hi n h, HB.out.1, S_append]; rfl
      all_goals refine ⟨ret_val ?_, ?_⟩
      all_goals first
        | (rw [hsum]; simp [Act.put]; done)
        | exact ((Fp.alloc _ _ _).trans' (Fp.drew _ _)).trans' H2.out
        | exact (Fp.drew _ _).trans' (H2.out.trans' (Fp.alloc _ _ _))

end Go.Proofs.Yteoboonapcjadaa
