/- siloref's LayAll. -/
import Derived.Test.YteoboonapcjadaaRefLay
import Derived.Test.YteoboonapcjadaaPureB
namespace Go.Proofs.Yteoboonapcjadaa
open Go.RowKit Go.Shelf

set_option maxHeartbeats 1000000 in
theorem RefLayAll_any (xs : List Silo.Smp) (v : Value) (w : World) (hin : SmpIn w w.heap.size v xs) (hl : xs.length ≤ 536870912) :
    Calls Try.prog 27 #[.slice none 0 0, v] w fun e w' => ∃ v', e = .returned v' ∧ World.smpsAt w' w.heap.size v' (layAll [] xs) ∧ Fp (fun _ => False) w w' := by
  obtain ⟨ad, c, rfl, hin'⟩ := hin
  have H : Hid _ := hin'
  clear hin'
  go_enter Try.func27, Try.ntmps27
  go_wp2_with fail
  go_loopw [0, 5] (fun lv iv wr => ∃ k : Nat, k ≤ xs.length ∧ iv = .int .i64 k ∧ Hid (World.smpsAt wr w.heap.size lv (layAll [] (xs.take k)) ∧ Fp (fun _ => False) w wr)) (fun _ iv _ => xs.length - (intOf iv).toNat)
  case atStart => exact ⟨0, by omega, rfl, nil_row _ _, Fp.refl _ _⟩
  case round =>
    obtain ⟨k, hk, rfl, HR⟩ := hrel
    by_cases hlt : k < xs.length
    · obtain ⟨b, off, hb⟩ : ∃ b off, ad = some ⟨b, off, none⟩ ∧ b < w.heap.size ∧ ∀ k (hk : k < xs.length),
          w.cell? ⟨b, off + k * 3, none⟩ = some (.int .i64 xs[k].s) ∧ w.cell? ⟨b, off + k * 3 + 1, none⟩ = some (.int .i64 xs[k].t) ∧ w.cell? ⟨b, off + k * 3 + 2, none⟩ = some (.int .u64 (xs[k].v : Nat)) := by
        rcases H.out with h | h
        · rw [h] at hlt; simp at hlt
        · exact h
      obtain ⟨rfl, hbt, hcell⟩ := hb
      obtain ⟨c0, c1, c2⟩ := hcell k hlt
      rw [← HR.out.2.cell (p := ⟨b, off + k * 3, none⟩) hbt (fun h => h)] at c0
      rw [← HR.out.2.cell (p := ⟨b, off + k * 3 + 1, none⟩) hbt (fun h => h)] at c1
      rw [← HR.out.2.cell (p := ⟨b, off + k * 3 + 2, none⟩) hbt (fun h => h)] at c2
      obtain ⟨x, hx⟩ : ∃ x, xs[k] = x := ⟨_, rfl⟩
      rw [hx] at c0 c1 c2
      have HX : Hid _ := hx
      clear hcell hx
      have kN : (k : Int) < (xs.length : Int) := by omega
      have hll : (layAll [] (xs.take k)).length ≤ 1073741824 := by
        have := layAll_length [] (xs.take k)
        simp only [List.length_take, List.length_nil] at this
        omega
      go_wp2_with fail
      refine (RefLay_any _ x _ wr (SmpIn.of_row HR.out.1 (Nat.le_refl _)) hll).mono ?_
      rintro e w2 ⟨v2, rfl, h2⟩
      rw [Silo.layR_eq (Silo.layAll_ok _).1] at h2
      have H2 : Hid _ := h2
      clear h2
      go_wp2
      go_roundw
      case rel =>
        refine ⟨k + 1, by omega, by go_num, ?_, HR.out.2.trans' H2.out.2⟩
        rw [List.take_succ_eq_append_getElem hlt, layAll_snoc, HX.out]
        exact ownsRow_base H2.out.1 HR.out.2.size
      case measure => simp [intOf]; omega
    · obtain rfl : k = xs.length := by omega
      go_wp2
      go_ret
      have h9 := HR.out
      rw [List.take_length] at h9
      exact ⟨_, ret_val (by simp), h9.1, h9.2⟩

end Go.Proofs.Yteoboonapcjadaa
