/- The hash as bytes; what is sealed. -/
import Derived.Test.YtojjkjfcbfoinaaHash
import Derived.Test.YtojjkjfcbfoinaaRdCode
namespace Go.Proofs.Ytojjkjfcbfoinaa
open Go.RowKit

theorem cell_lit (w : World) (c : Array Value) (t : TypeId) (i : Nat) : (w.alloc (.cells c t)).cell? ⟨w.heap.size, i, none⟩ = c[i]? := by
  rw [World.cell?, heap_new]; rfl

/-- A row of bytes as a text. -/
theorem conv_bytes (w : World) (g cap : Nat) (l : List UInt8) (hc : ∀ i (h : i < l.length), w.cell? ⟨g, i, none⟩ = some (.int .u8 (l[i].toNat : Nat))) :
    (convert 84 9 (.slice (some ⟨g, 0, none⟩) l.length cap)).run Try.prog w = .ok (.string (S l)) w := by
  refine run_convert_bytes_back w 84 9 5 ⟨g, 0, none⟩ cap l Try.underlying84 Try.underlying5 Try.underlying9 ?_
  intro j hj
  have := hc j hj
  unfold Addr.add
  by_cases hz : j = 0
  · rw [if_pos hz]; subst hz; exact this
  · rw [if_neg hz]; simpa using this

theorem byte_of (x : Nat) : (((UInt8.ofNat x).toNat : Nat) : Int) = (x : Int) % 256 := by
  rw [UInt8.toNat_ofNat']; omega

theorem hash_conv (h : Nat) (w : World) (hh : h < Silo.M64) :
    (convert 84 9 (.slice (some ⟨w.heap.size, 0, none⟩) 8 8)).run Try.prog (w.alloc (.cells #[.int .u8 ((h : Int) / 256 / 256 / 256 / 256 / 256 / 256 / 256), .int .u8 ((h : Int) / 256 / 256 / 256 / 256 / 256 / 256 % 256), .int .u8 ((h : Int) / 256 / 256 / 256 / 256 / 256 % 256), .int .u8 ((h : Int) / 256 / 256 / 256 / 256 % 256), .int .u8 ((h : Int) / 256 / 256 / 256 % 256), .int .u8 ((h : Int) / 256 / 256 % 256), .int .u8 ((h : Int) / 256 % 256), .int .u8 ((h : Int) % 256)] 124)) =
      .ok (.string (S (Silo.be8 h))) (w.alloc (.cells #[.int .u8 ((h : Int) / 256 / 256 / 256 / 256 / 256 / 256 / 256), .int .u8 ((h : Int) / 256 / 256 / 256 / 256 / 256 / 256 % 256), .int .u8 ((h : Int) / 256 / 256 / 256 / 256 / 256 % 256), .int .u8 ((h : Int) / 256 / 256 / 256 / 256 % 256), .int .u8 ((h : Int) / 256 / 256 / 256 % 256), .int .u8 ((h : Int) / 256 / 256 % 256), .int .u8 ((h : Int) / 256 % 256), .int .u8 ((h : Int) % 256)] 124)) := by
  unfold Silo.M64 at hh
  refine conv_bytes _ _ 8 (Silo.be8 h) ?_
  intro i hi
  rw [cell_lit]
  have hi8 : i < 8 := hi
  match i, hi8 with
  | 0, _ => simp only [Silo.be8, List.getElem_cons_zero, byte_of]; simp; omega
  | 1, _ => simp only [Silo.be8, List.getElem_cons_zero, List.getElem_cons_succ, byte_of]; simp; omega
  | 2, _ => simp only [Silo.be8, List.getElem_cons_zero, List.getElem_cons_succ, byte_of]; simp; omega
  | 3, _ => simp only [Silo.be8, List.getElem_cons_zero, List.getElem_cons_succ, byte_of]; simp; omega
  | 4, _ => simp only [Silo.be8, List.getElem_cons_zero, List.getElem_cons_succ, byte_of]; simp; omega
  | 5, _ => simp only [Silo.be8, List.getElem_cons_zero, List.getElem_cons_succ, byte_of]; simp; omega
  | 6, _ => simp only [Silo.be8, List.getElem_cons_zero, List.getElem_cons_succ, byte_of]; simp
  | 7, _ => simp only [Silo.be8, List.getElem_cons_zero, List.getElem_cons_succ, byte_of]; simp

set_option maxHeartbeats 1000000 in
set_option maxRecDepth 100000 in
theorem HashBytes_any (h : Nat) (w : World) (hh : h < Silo.M64) :
    Calls Try.prog 59 #[.int .u64 h] w fun e w' => e = .returned (.string (S (Silo.be8 h))) ∧ Fp (fun _ => False) w w' := by
  have hc := hash_conv h w hh
  unfold Silo.M64 at hh
  go_enter Try.func59, Try.ntmps59
  go_wp2
  refine wp_loop_rounds 9 ?_
  iterate 9 (rw [rounds_succ]; go_wp2)
  go_ret
  exact ⟨ret_val (by simp), Fp.alloc _ _ _⟩

end Go.Proofs.Ytojjkjfcbfoinaa
