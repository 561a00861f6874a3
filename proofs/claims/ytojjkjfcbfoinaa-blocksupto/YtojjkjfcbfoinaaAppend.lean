/- codes.Append's contract: the code of n behind what is in the row. -/
import Derived.Test.YtojjkjfcbfoinaaFoot
import Derived.Test.YtojjkjfcbfoinaaPure1
import Derived.RangeFuncBox
namespace Go.Proofs.Ytojjkjfcbfoinaa
open Go.RowKit

theorem or128 (n : Nat) : bits BinOp.or IntKind.u8 ((n : Int) % 256) 128 = ((UInt8.ofNat (n % 128 + 128)).toNat : Int) := by
  have e : (n : Int) % 256 = ((n % 256 : Nat) : Int) := by omega
  rw [e]
  have key : ∀ m : Fin 256, bits BinOp.or IntKind.u8 ((m.val : Nat) : Int) 128 = ((UInt8.ofNat (m.val % 128 + 128)).toNat : Int) := by decide +kernel
  have := key ⟨n % 256, Nat.mod_lt _ (by decide)⟩
  rw [this]
  have : n % 256 % 128 = n % 128 := by omega
  simp only [this]

theorem lo128 (n : Nat) (h : n < 128) : (n : Int) = ((UInt8.ofNat n).toNat : Int) := by
  rw [UInt8.toNat_ofNat', Nat.mod_eq_of_lt (by omega)]

theorem cell_new' (w : World) (x : Value) (t : TypeId) : (w.alloc (.cells #[x] t)).cell? ((⟨w.heap.size, 0, none⟩ : Addr).add 0) = some x := by
  simp [Addr.add]

theorem foot_step {v u : Value} {w wr w' : World} {o : Obj} (hf : Fp (fun k => v.ownBlock = some k) w wr) (hat : ∀ k, u.ownBlock = some k → v.ownBlock = some k ∨ w.heap.size ≤ k)
    (hs : Fp (fun k => u.ownBlock = some k) (wr.alloc o) w') : Fp (fun k => v.ownBlock = some k) w w' :=
  (hf.trans (Fp.alloc (fun _ => False) wr o) (fun _ h => h) (fun _ _ h => h.elim)).trans hs (fun _ h => h) (fun k hk h => (hat k h).elim id (fun h => by omega))

theorem at_step {v u : Value} {w wr : World} {o : Obj} {g n c : Nat} (hsz : w.heap.size ≤ wr.heap.size) (hat : ∀ k, u.ownBlock = some k → v.ownBlock = some k ∨ w.heap.size ≤ k)
    (h : u.ownBlock = some g ∨ (wr.alloc o).heap.size ≤ g) : ∀ k, (Value.slice (some ⟨g, 0, none⟩) n c).ownBlock = some k → v.ownBlock = some k ∨ w.heap.size ≤ k := by
  intro k hk
  simp [Value.ownBlock] at hk
  subst hk
  rcases h with h | h
  · exact hat _ h
  · simp at h; right; omega

set_option maxHeartbeats 400000 in
set_option maxRecDepth 100000 in
theorem Append_any (base : Nat) (v : Value) (l : List UInt8) (n : Nat) (w : World) (hn : n < Silo.M64) (hown : World.bytesOr w base v l) (hl : l.length ≤ 1099511627776) (hb : base ≤ w.heap.size) :
    Calls Try.prog 35 #[v, .int .u64 n] w fun e w' => ∃ g cap, e = .returned (.slice (some ⟨g, 0, none⟩) (l ++ Silo.leb n).length cap) ∧ World.bytesAt w' base (.slice (some ⟨g, 0, none⟩) (l ++ Silo.leb n).length cap) (l ++ Silo.leb n) ∧ Fp (fun k => v.ownBlock = some k) w w' ∧ (v.ownBlock = some g ∨ w.heap.size ≤ g) ∧ g < w'.heap.size := by
  obtain ⟨i0, hi, hz0, hz1, hz2⟩ := info_parts Try.infoU8
  go_enter Try.func35, Try.ntmps35
  go_wp2_with fail
  go_loopw [0, 1] (fun to nn wr => ∃ (m : Nat) (pre : List UInt8), nn = .int .u64 m ∧ m < Silo.M64 ∧ Silo.leb n = pre ++ Silo.leb m ∧ World.bytesOr wr base to (l ++ pre) ∧ Fp (fun k => v.ownBlock = some k) w wr ∧
      (∀ k, to.ownBlock = some k → v.ownBlock = some k ∨ w.heap.size ≤ k)) (fun _ nn _ => (intOf nn).toNat)
  case atStart => exact ⟨n, [], rfl, hn, rfl, by simpa using hown, Fp.refl _ _, fun k h => .inl h⟩
  case round =>
    obtain ⟨m, pre, rfl, hm, hlb, ho, hf, hat⟩ := hrel
    have hlen := Silo.leb_len n hn
    have hmp := Silo.leb_pos m
    rw [hlb, List.length_append] at hlen
    have HP : Hid (pre.length + (Silo.leb m).length ≤ 10 ∧ 0 < (Silo.leb m).length ∧ w.heap.size ≤ wr.heap.size) := ⟨hlen, hmp, hf.size⟩
    have HM : Hid (m < Silo.M64 ∧ Silo.leb n = pre ++ Silo.leb m) := ⟨hm, hlb⟩
    have HO : Hid (World.bytesOr wr base u0 (l ++ pre)) := ho
    have HF : Hid (Fp (fun k => v.ownBlock = some k) w wr ∧ (∀ k, u0.ownBlock = some k → v.ownBlock = some k ∨ w.heap.size ≤ k)) := ⟨hf, hat⟩
    clear hlen hmp hm hlb ho hf hat hn hown
    by_cases h128 : m < 128
    · go_wp2_with (at_builtin; refine wpList_append_byte rfl _ _ rfl base u0 (l ++ pre) (UInt8.ofNat m) rfl ?c1 ⟨wr.heap.size, 0, none⟩ rfl ?c2 ?c3 ?c4 ?_; rotate_left 4; intro g cap w' HR)
      case c1 => exact bytesOr_fp (Fp.alloc (fun _ => False) _ _) HO.out (fun _ _ h => h)
      case c2 => rw [cell_new', ← lo128 m h128]
      case c3 => have := HP.out.1; simp; omega
      case c4 => have := HP.out.2.2; simp; omega
      · go_ret
        have hle : l ++ Silo.leb n = l ++ pre ++ [UInt8.ofNat m] := by rw [HM.out.2, Silo.leb_lo m h128, ← List.append_assoc]
        have hll : (l ++ Silo.leb n).length = (l ++ pre).length + 1 := by rw [hle, List.length_append]; rfl
        rw [hll, hle]
        exact ⟨g, cap, ret_val (by simp), HR.out.1, foot_step HF.out.1 HF.out.2 HR.out.2.1, at_step (n := 0) (c := 0) HF.out.1.size HF.out.2 HR.out.2.2.1 g rfl, HR.out.2.2.2⟩
    · go_wp2_with (at_builtin; refine wpList_append_byte rfl _ _ rfl base u0 (l ++ pre) (UInt8.ofNat (m % 128 + 128)) rfl ?c1 ⟨wr.heap.size, 0, none⟩ rfl ?c2 ?c3 ?c4 ?_; rotate_left 4; intro g cap w' HR)
      case c1 => exact bytesOr_fp (Fp.alloc (fun _ => False) _ _) HO.out (fun _ _ h => h)
      case c2 => rw [cell_new', or128 m]
      case c3 => have := HP.out.1; simp; omega
      case c4 => have := HP.out.2.2; simp; omega
      · go_roundw
        case rel =>
          have hlen : (l ++ pre).length + 1 = l.length + pre.length + 1 := by simp
          rw [← hlen]
          refine ⟨m / 128, pre ++ [UInt8.ofNat (m % 128 + 128)], by go_num, ?_, ?_, ?_, ?_, ?_⟩
          · have := HM.out.1; omega
          · rw [HM.out.2, Silo.leb_hi m h128]; simp
          · rw [← List.append_assoc]; exact .inl HR.out.1
          · exact foot_step HF.out.1 HF.out.2 HR.out.2.1
          · exact at_step HF.out.1.size HF.out.2 HR.out.2.2.1
        case measure => simp [intOf]; omega

end Go.Proofs.Ytojjkjfcbfoinaa
