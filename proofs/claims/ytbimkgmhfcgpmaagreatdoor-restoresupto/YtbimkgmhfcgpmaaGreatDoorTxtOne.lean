/- TxtLeaf, FmtHex, ParseHex, HexText, TxtName, in one text. -/
import Derived.Test.YtbimkgmhfcgpmaaGreatDoorGlob
import Derived.Deep.RegionHeld3

/- codes.Decimal, (Range).Name. -/
namespace Go.Proofs.YtbimkgmhfcgpmaaGreatDoor
open Go.RowKit Go.Shelf

theorem itoa_nat (n : Nat) : Lib.itoa (n : Int) = Lib.decDigits n := by
  unfold Lib.itoa
  rw [if_neg (by omega)]
  rfl

theorem atoi_range {s : List UInt8} {v : Int} (h : Lib.atoiAll s = .ok v) : -9223372036854775808 ≤ v ∧ v ≤ 9223372036854775807 := by
  unfold Lib.atoiAll at h
  cases s with
  | nil => cases h
  | cons c r =>
    simp only at h
    cases hp : Lib.parseMag (if c.toNat = 43 ∨ c.toNat = 45 then r else c :: r) with
    | «syntax» => rw [hp] at h; cases h
    | range => rw [hp] at h; cases h
    | ok u =>
      rw [hp] at h
      simp only at h
      by_cases hn : c.toNat = 45
      · rw [if_neg (fun x => x.1 hn)] at h
        by_cases hu : 9223372036854775808 < u
        · rw [if_pos ⟨hn, hu⟩] at h; cases h
        · rw [if_neg (fun x => hu x.2), if_pos hn] at h
          cases h
          omega
      · by_cases hu : 9223372036854775808 ≤ u
        · rw [if_pos ⟨hn, hu⟩] at h; cases h
        · rw [if_neg (fun x => hu x.2), if_neg (fun x => hn x.1), if_neg hn] at h
          cases h
          omega

/-- What Decimal gives. -/
def decV : Option Nat → Value
  | some n => .tuple #[.int .i64 (n : Nat), .bool true]
  | none => .tuple #[.int .i64 0, .bool false]

set_option maxHeartbeats 1000000 in
theorem Decimal_any (s : List UInt8) (most : Nat) (w : World) (hm : most ≤ 999999999) (hl : s.length ≤ 1099511627776) (hg : Gl w) :
    Calls Tryz.prog 67 #[.string (S s), .int .i64 most] w fun e w' => e = .returned (decV (Silo.numOf s most)) ∧ Fp (fun _ => False) w w' := by
  have HD : Hid _ := (Silo.decimalP_eq s most hm).symm
  have HG : Hid _ := hg
  clear hg
  go_enter Tryz.func67, Tryz.ntmps67
  go_wp2_with fail
  refine (Atoi_any s w (by omega) HG.out).mono ?_
  rintro e w1 ⟨h1, h2⟩
  have HF1 : Hid _ := h2
  unfold AtoiRes at h1
  cases ha : Lib.atoiAll s with
  | ok v =>
    rw [ha] at h1
    subst h1
    obtain ⟨hv0, hv1⟩ := atoi_range ha
    have HP : Hid (Silo.numOf s most = if Lib.itoa v = s ∧ 0 ≤ v ∧ v ≤ most then some v.toNat else none) := by
      show _ = _
      rw [HD.out, Silo.decimalP, ha]
    clear h2 ha HD
    go_wp2_with fail
    refine (Itoa_any v hv0 hv1 w1 (HG.out.fp HF1.out)).mono ?_
    rintro e w2 ⟨rfl, h3⟩
    have HF2 : Hid (Fp (fun _ => False) w w2) := HF1.out.trans' h3
    clear h3
    by_cases hs : Lib.itoa v = s
    · have qs : ((S (Lib.itoa v)).toList == (S s).toList) = true := by rw [bytes_toList, bytes_toList, S_toList, S_toList, beq_iff_eq]; exact hs
      by_cases h0 : v < 0
      · have q0 : decide (v < 0) = true := decide_eq_true h0
        rw [if_neg (by rintro ⟨_, h, _⟩; omega)] at HP
        clear hs
        go_wp2
        exact bodyPost_ret (v := decV none) (by simp [decV, results, Tryz.results67, go_sem]) rfl ⟨by rw [HP.out], HF2.out⟩
      · have q0 : decide (v < 0) = false := decide_eq_false h0
        by_cases h9 : (most : Int) < v
        · have q9 : decide ((most : Int) < v) = true := decide_eq_true h9
          rw [if_neg (by rintro ⟨_, _, h⟩; omega)] at HP
          clear hs
          go_wp2
          exact bodyPost_ret (v := decV none) (by simp [decV, results, Tryz.results67, go_sem]) rfl ⟨by rw [HP.out], HF2.out⟩
        · have q9 : decide ((most : Int) < v) = false := decide_eq_false h9
          rw [if_pos ⟨hs, by omega, by omega⟩] at HP
          have HV : Hid (v = (v.toNat : Nat)) := by show _ = _; omega
          clear hs
          go_wp2
          exact bodyPost_ret (v := decV (some v.toNat)) (by simp [decV, results, Tryz.results67, go_sem]; omega) rfl ⟨by rw [HP.out], HF2.out⟩
    · have qs : ((S (Lib.itoa v)).toList == (S s).toList) = false := by rw [bytes_toList, bytes_toList, S_toList, S_toList, beq_eq_false_iff_ne]; exact hs
      rw [if_neg (fun h => hs h.1)] at HP
      clear hs
      go_wp2
      exact bodyPost_ret (v := decV none) (by simp [decV, results, Tryz.results67, go_sem]) rfl ⟨by rw [HP.out], HF2.out⟩
  | «syntax» =>
    rw [ha] at h1
    obtain ⟨x, t, p, rfl⟩ := h1
    have HP : Hid (Silo.numOf s most = none) := by show _ = _; rw [HD.out, Silo.decimalP, ha]
    clear h2 ha HD
    go_wp2
    exact bodyPost_ret (v := decV none) (by simp [decV, results, Tryz.results67, go_sem]) rfl ⟨by rw [HP.out], HF1.out⟩
  | range =>
    rw [ha] at h1
    obtain ⟨x, t, p, rfl⟩ := h1
    have HP : Hid (Silo.numOf s most = none) := by show _ = _; rw [HD.out, Silo.decimalP, ha]
    clear h2 ha HD
    go_wp2
    exact bodyPost_ret (v := decV none) (by simp [decV, results, Tryz.results67, go_sem]) rfl ⟨by rw [HP.out], HF1.out⟩

end Go.Proofs.YtbimkgmhfcgpmaaGreatDoor

/- strconv.FormatUint(h, 16). -/
namespace Silo

theorem hexN_cons : ∀ (k h : Nat), hexN (k + 1) h = hexD (h / 16 ^ k % 16) :: hexN k h
  | 0, h => by simp [hexN]
  | k + 1, h => by
    rw [hexN, hexN_cons k (h / 16), hexN]
    rw [List.cons_append, Nat.div_div_eq_div_mul, Nat.pow_succ, Nat.mul_comm 16]

theorem hexN_pad : ∀ (j k h : Nat), h < 16 ^ k → hexN (j + k) h = List.replicate j 48 ++ hexN k h
  | 0, k, h, _ => by simp
  | j + 1, k, h, hk => by
    have hlt : h < 16 ^ (j + k) := Nat.lt_of_lt_of_le hk (Nat.pow_le_pow_right (by decide) (by omega))
    rw [show j + 1 + k = (j + k) + 1 by omega, hexN_cons, hexN_pad j k h hk, Nat.div_eq_of_lt hlt]
    rfl

end Silo

namespace Go.Proofs.YtbimkgmhfcgpmaaGreatDoor
open Go.RowKit Go.Shelf

set_option maxHeartbeats 400000 in
theorem isPow2_16 (w : World) : Calls Tryz.prog 128 #[.int .i64 16] w fun e w' => e = .returned (.bool true) ∧ w' = w := by
  go_enter Tryz.func128, Tryz.ntmps128
  go_wp2
  go_ret
  exact ⟨ret_val (by rfl), rfl⟩

set_option maxHeartbeats 400000 in
theorem TZ64_16 (w : World) (hg : Gl w) : Calls Tryz.prog 140 #[.int .u64 16] w fun e w' => e = .returned (.int .i64 4) ∧ w' = w := by
  have hd := hg.deb
  have hw : IntKind.u64.wrap (-16) = 18446744073709551600 := by decide
  have hb : bits .and .u64 16 18446744073709551600 = 16 := by decide
  have hm : IntKind.u64.wrap 4573923408821661840 = 4573923408821661840 := by decide
  have hm' : IntKind.u64.wrap (16 * 285870213051353865) = 4573923408821661840 := by decide
  go_enter Tryz.func140, Tryz.ntmps140
  go_wp2
  go_ret
  exact ⟨ret_val (by rfl), rfl⟩

set_option maxHeartbeats 400000 in
theorem TZ_16 (w : World) (hg : Gl w) : Calls Tryz.prog 129 #[.int .u64 16] w fun e w' => e = .returned (.int .i64 4) ∧ w' = w := by
  go_enter Tryz.func129, Tryz.ntmps129
  go_wp2_with fail
  refine (TZ64_16 w hg).mono ?_
  rintro e w1 ⟨rfl, rfl⟩
  go_wp2
  go_ret
  exact ⟨ret_val (by rfl), rfl⟩

/-- The last k digits of h lie at the end of the array b. -/
def HexAt (w : World) (b k h : Nat) : Prop := ∃ cur : Array Value, w.heap[b]? = some (.cells cur 191 (0, 0)) ∧ cur.size = 65 ∧ ∀ j x, (Silo.hexN k h)[j]? = some x → cur[65 - k + j]? = some (.int .u8 (x.toNat : Nat))

theorem HexAt.start {w : World} {b h : Nat} {cur : Array Value} (hb : w.heap[b]? = some (.cells cur 191 (0, 0))) (hs : cur.size = 65) : HexAt w b 0 h := ⟨cur, hb, hs, fun j x hj => by simp [Silo.hexN] at hj⟩

theorem HexAt.put {w : World} {b k h : Nat} (hk : k < 65) (hx : HexAt w b k h) : HexAt (w.setCell ⟨b, 64 - k, none⟩ (.int .u8 ((Silo.hexD (h / 16 ^ k % 16)).toNat : Nat))) b (k + 1) h := by
  obtain ⟨cur, hb, hs, hc⟩ := hx
  refine ⟨cur.setIfInBounds (64 - k) (.int .u8 ((Silo.hexD (h / 16 ^ k % 16)).toNat : Nat)), heap_set hb _, by simp [hs], ?_⟩
  intro j x hj
  rw [Silo.hexN_cons] at hj
  cases j with
  | zero =>
    simp at hj
    subst hj
    rw [show 65 - (k + 1) + 0 = 64 - k by omega, Array.getElem?_setIfInBounds_self, if_pos (by omega)]
  | succ j =>
    rw [List.getElem?_cons_succ] at hj
    have := hc j x hj
    rw [Array.getElem?_setIfInBounds_ne (by omega), show 65 - (k + 1) + (j + 1) = 65 - k + j by omega]
    exact this

theorem HexAt.cell {w : World} {b k h i : Nat} (hx : HexAt w b k h) (hi : i < 65) : ∃ u, w.cell? ⟨b, i, none⟩ = some u := by
  obtain ⟨cur, hb, hs, _⟩ := hx
  refine ⟨cur[i], ?_⟩
  simp only [World.cell?, hb]
  exact Array.getElem?_eq_getElem (by omega)

theorem HexAt.frozen {w : World} {b k h i : Nat} (hx : HexAt w b k h) : w.frozen? ⟨b, i, none⟩ = false := by
  obtain ⟨cur, hb, _, _⟩ := hx
  simp [World.frozen?, hb]

theorem HexAt.conv {w : World} {b k h cap : Nat} (hx : HexAt w b k h) : (convert 57 9 (.slice (some ⟨b, 65 - k, none⟩) k cap)).run Tryz.prog w = .ok (.string (S (Silo.hexN k h))) w := by
  obtain ⟨cur, hb, hs, hc⟩ := hx
  have hl := Silo.hexN_length k h
  have := run_convert_bytes_back w 57 9 5 ⟨b, 65 - k, none⟩ cap (Silo.hexN k h) Tryz.underlying57 Tryz.underlying5 Tryz.underlying9 (by
    intro j hj
    have h2 := hc j _ (List.getElem?_eq_getElem hj)
    unfold Addr.add
    by_cases hz : j = 0
    · rw [if_pos hz]
      subst hz
      simp only [World.cell?, hb]
      exact h2
    · rw [if_neg hz]
      simp only [World.cell?, hb]
      exact h2)
  rw [hl] at this
  exact this

theorem and15 (u : Nat) (h : u < 18446744073709551616) : bits .and .u64 (u : Int) 15 = ((u % 16 : Nat) : Int) := by
  have h1 : (BitVec.ofInt 64 (u : Int)).toNat = u := by
    rw [BitVec.ofInt_natCast, BitVec.toNat_ofNat]; exact Nat.mod_eq_of_lt (by omega)
  have h2 : (BitVec.ofInt 64 (15 : Int)).toNat = 15 := by decide
  show IntKind.u64.wrap ((BitVec.ofInt 64 (u : Int) &&& BitVec.ofInt 64 (15 : Int)).toNat : Int) = _
  rw [BitVec.toNat_and, h1, h2, IntKind.wrap_u64]
  have h3 : u &&& 15 = u % 16 := Nat.and_two_pow_sub_one_eq_mod u 4
  rw [h3]
  omega

theorem slice65 (W : World) (b n m : Nat) (hn : n + m = 65) (hm : 1 ≤ m) : (Instr.sliceAt 191 (.pointer (some ⟨b, 0, none⟩)) (some (.int .i64 (n : Nat))) none none).run Tryz.prog W = .ok (.slice (some ⟨b, n, none⟩) m m) W := by
  have hu : Tryz.prog.underlying 191 = some (.array (Tryz.prog.arrayLen 191) (Tryz.prog.elem 191)) := by kernel_rfl
  have hl : Tryz.prog.arrayLen 191 = 65 := by kernel_rfl
  have hs : (sizeOf (Tryz.prog.elem 191)).run Tryz.prog W = .ok 1 W := by kernel_rfl
  rw [run_sliceAt_array_l W 191 ⟨b, 0, none⟩ hu .i64 (n : Nat) (by omega) (by rw [hl]; omega), hs, hl]
  simp only [Result.andThen_ok, slicedAt, Int.toNat_natCast, Nat.mul_one]
  rw [if_neg (by omega), show 65 - n = m by omega]
  unfold Addr.add
  by_cases h0 : n = 0
  · rw [if_pos h0, h0]
  · rw [if_neg h0]
    simp

def digs : ByteArray := ⟨#[48, 49, 50, 51, 52, 53, 54, 55, 56, 57, 97, 98, 99, 100, 101, 102, 103, 104, 105, 106, 107, 108, 109, 110, 111, 112, 113, 114, 115, 116, 117, 118, 119, 120, 121, 122]⟩

theorem digs_at : ∀ d : Fin 16, digs[d.val]'(Nat.lt_of_lt_of_le d.isLt (by decide)) = Silo.hexD d.val := by decide

set_option maxHeartbeats 2000000 in
set_option maxRecDepth 100000 in
theorem formatBits_16 (h : Nat) (w : World) (hh : h < 18446744073709551616) (hg : Gl w) :
    Calls Tryz.prog 105 #[.slice none 0 0, .int .u64 h, .int .i64 16, .bool false, .bool false] w fun e w' => (∃ k, 1 ≤ k ∧ k ≤ 16 ∧ h < 16 ^ k ∧ e = .returned (.tuple #[.slice none 0 0, .string (S (Silo.hexN k h))])) ∧ Fp (fun _ => False) w w' := by
  have HG : Hid _ := hg
  clear hg
  go_enter Tryz.func105, Tryz.ntmps105
  go_wp2_with fail
  refine (isPow2_16 _).mono ?_
  rintro e w1 ⟨rfl, rfl⟩
  go_wp2_with fail
  refine (TZ_16 _ (HG.out.fp (Fp.alloc _ _ _))).mono ?_
  rintro e w1 ⟨rfl, rfl⟩
  go_wp2_with fail
  go_loopw [1, 13] (fun uv iv wr => ∃ (k u n : Nat), n + k = 64 ∧ k ≤ 15 ∧ u < 18446744073709551616 ∧ uv = .int .u64 (u : Nat) ∧ iv = .int .i64 ((n + 1 : Nat) : Int) ∧ Hid (u = h / 16 ^ k ∧ HexAt wr w.heap.size k h ∧ Fp (fun _ => False) w wr)) (fun uv _ _ => (intOf uv).toNat)
  case atStart => exact ⟨0, h, 64, rfl, by omega, hh, rfl, rfl, by simp, HexAt.start (heap_new _ _) (by simp), Fp.alloc _ _ _⟩
  case round =>
    obtain ⟨k, u, n, hn, hk, hu, rfl, rfl, HI⟩ := hrel
    obtain ⟨u0, c0⟩ := HI.out.2.1.cell (i := n) (by omega)
    have f0 := HI.out.2.1.frozen (i := n)
    by_cases hge : 16 ≤ u
    · have hk15 : k + 1 ≤ 15 := by
        have h1 := HI.out.1
        rcases Nat.lt_or_ge k 15 with h' | h'
        · exact h'
        · exfalso
          have hk2 : k = 15 := by omega
          rw [hk2] at h1
          omega
      have q : decide ((16 : Int) ≤ (u : Int)) = true := decide_eq_true (by omega)
      have hand : bits .and .u64 (u : Int) 15 = ((u % 16 : Nat) : Int) := and15 u hu
      have hd16 : u % 16 < 16 := Nat.mod_lt _ (by decide)
      obtain ⟨d, hd⟩ : ∃ d, u % 16 = d := ⟨_, rfl⟩
      rw [hd] at hand hd16
      have hfd : d < digs.size := Nat.lt_of_lt_of_le hd16 (by decide)
      obtain ⟨fb, hfb⟩ : ∃ fb, digs[d]'hfd = fb := ⟨_, rfl⟩
      have HFB : Hid (fb = Silo.hexD (h / 16 ^ k % 16)) := by show _ = _; rw [← hfb, ← HI.out.1, hd]; exact digs_at ⟨d, hd16⟩
      unfold digs at hfb hfd
      clear hd
      go_wp2
      go_roundw
      case rel =>
        have hp := HexAt.put (k := k) (by omega) HI.out.2.1
        rw [show 64 - k = n by omega, ← HFB.out] at hp
        refine ⟨k + 1, u / 16, n - 1, by omega, hk15, by omega, by simp, by rw [show n - 1 + 1 = n by omega], ?_, hp, ?_⟩
        · rw [HI.out.1, Nat.div_div_eq_div_mul, ← Nat.pow_succ]
        · exact HI.out.2.2.trans (Fp.setCell (S := fun j => j = w.heap.size) _ _ _ rfl) (fun _ h => h) (fun j hj e => by omega)
      case measure => simp [intOf]; omega
    · have q : decide ((16 : Int) ≤ (u : Int)) = false := decide_eq_false (by omega)
      have hd16 : u < 16 := by omega
      have hfd : u < digs.size := Nat.lt_of_lt_of_le hd16 (by decide)
      obtain ⟨fb, hfb⟩ : ∃ fb, digs[u]'hfd = fb := ⟨_, rfl⟩
      have hum : h / 16 ^ k % 16 = u := by rw [← HI.out.1]; omega
      have HFB : Hid (fb = Silo.hexD (h / 16 ^ k % 16)) := by show _ = _; rw [← hfb, hum]; exact digs_at ⟨u, hd16⟩
      have hp := HexAt.put (k := k) (by omega) HI.out.2.1
      rw [show 64 - k = n by omega, ← HFB.out] at hp
      have hcv := HexAt.conv (cap := k + 1) hp
      rw [show 65 - (k + 1) = n by omega] at hcv
      have hsl := fun W => slice65 W w.heap.size n (k + 1) (by omega) (by omega)
      have HE : Hid (h < 16 ^ (k + 1)) := by
        show _ < _
        have h1 := HI.out.1
        rw [Nat.pow_succ]
        have h2 : h / 16 ^ k < 16 := by omega
        rw [Nat.mul_comm]
        exact Nat.lt_mul_of_div_lt h2 (Nat.pow_pos (by decide))
      have HFp : Hid (Fp (fun _ => False) w (wr.setCell ⟨w.heap.size, n, none⟩ (.int .u8 (fb.toNat : Nat)))) := HI.out.2.2.trans (Fp.setCell (S := fun j => j = w.heap.size) _ _ _ rfl) (fun _ h => h) (fun j hj e => by omega)
      unfold digs at hfb hfd
      clear hum hp
      go_wp2
      exact bodyPost_ret (v := .tuple #[.slice none 0 0, .string (S (Silo.hexN (k + 1) h))]) (by simp [results, Tryz.results105, go_sem]) rfl ⟨⟨k + 1, by omega, by omega, HE.out, rfl⟩, HFp.out⟩

set_option maxHeartbeats 400000 in
theorem FormatUint_16 (h : Nat) (w : World) (hh : h < 18446744073709551616) (hg : Gl w) :
    Calls Tryz.prog 97 #[.int .u64 h, .int .i64 16] w fun e w' => (∃ k, 1 ≤ k ∧ k ≤ 16 ∧ h < 16 ^ k ∧ e = .returned (.string (S (Silo.hexN k h)))) ∧ Fp (fun _ => False) w w' := by
  have HG : Hid _ := hg
  clear hg
  go_enter Tryz.func97, Tryz.ntmps97
  go_wp2_with (go_at_call 117; go_in)
  refine (formatBits_16 h w hh HG.out).mono ?_
  rintro e w1 ⟨⟨k, h1, h2, h3, rfl⟩, hf⟩
  have HF : Hid _ := And.intro h1 (And.intro h2 (And.intro h3 hf))
  clear h1 h2 h3 hf
  go_wp2
  go_ret
  exact ⟨⟨k, HF.out.1, HF.out.2.1, HF.out.2.2.1, ret_val (by simp)⟩, HF.out.2.2.2⟩

set_option maxHeartbeats 400000 in
theorem HashText_any (h : Nat) (w : World) (hh : h < 18446744073709551616) (hg : Gl w) :
    Calls Tryz.prog 82 #[.int .u64 h] w fun e w' => e = .returned (.string (S (Silo.hexN 16 h))) ∧ Fp (fun _ => False) w w' := by
  have HG : Hid _ := hg
  clear hg
  go_enter Tryz.func82, Tryz.ntmps82
  go_wp2_with fail
  refine (FormatUint_16 h w hh HG.out).mono ?_
  rintro e w1 ⟨⟨k, h1, h2, h3, rfl⟩, hf⟩
  have HF : Hid _ := And.intro h3 hf
  clear h3 hf
  have hz : (S (Silo.hexN k h)).size = k := Silo.hexN_length k h
  go_wp2_with fail
  rw [show (16 : Int) - (k : Int) = ((16 - k : Nat) : Int) by omega]
  refine (Repeat0_any (16 - k) w1 (by omega)).mono ?_
  rintro e w2 ⟨rfl, h4⟩
  have HF2 : Hid _ := HF.out.2.trans' h4
  clear h4
  have hz2 : (S (List.replicate (16 - k) 48)).size = 16 - k := List.length_replicate
  have hcat : S (List.replicate (16 - k) 48) ++ S (Silo.hexN k h) = S (Silo.hexN 16 h) := by
    rw [S_append, ← Silo.hexN_pad (16 - k) k h HF.out.1, show 16 - k + k = 16 by omega]
  go_wp2
  go_ret
  exact ⟨ret_val (by simp), HF2.out⟩

end Go.Proofs.YtbimkgmhfcgpmaaGreatDoor

/- strconv.ParseUint(s, 16, 64); codes.FromHashText. -/
namespace Silo

/-- A digit's value as the library reckons it: small letters and great ones. -/
theorem hexV_dig {b : UInt8} (h0 : 48 ≤ b.toNat) (h1 : b.toNat ≤ 57) : hexV b = some (b.toNat - 48) := by
  unfold hexV
  rw [if_pos ⟨h0, h1⟩]

theorem hex_take {s : List UInt8} {h k : Nat} (hs : hexOf s = some h) (hk : k ≤ 16) : ∃ y, hexFrom 0 (s.take k) = some y ∧ y < 16 ^ k := by
  unfold hexOf at hs
  split at hs
  · rename_i hl
    have e := List.take_append_drop k s
    rw [← e, hexFrom_append] at hs
    cases hy : hexFrom 0 (s.take k) with
    | none => rw [hy] at hs; cases hs
    | some y => exact ⟨y, rfl, (hexN_of k _ y (by simp; omega) hy).2⟩
  · cases hs

theorem hex_all {s : List UInt8} {h : Nat} (hs : hexOf s = some h) : hexFrom 0 s = some h ∧ s.length = 16 := by
  unfold hexOf at hs
  split at hs
  · rename_i hl
    exact ⟨hs, hl⟩
  · cases hs

end Silo

namespace Go.Proofs.YtbimkgmhfcgpmaaGreatDoor
open Go.RowKit Go.Shelf

theorem hexNext {c : List UInt8} {k : Nat} {b : UInt8} (hc : c[k]? = some b) : Silo.hexFrom 0 (c.take (k + 1)) = match Silo.hexFrom 0 (c.take k) with
    | some y => match Silo.hexV b with
      | some d => some (y * 16 + d)
      | none => none
    | none => none := by
  rw [List.take_add_one, hc, Option.toList_some, Silo.hexFrom_append]
  cases Silo.hexFrom 0 (c.take k) with
  | none => rfl
  | some y =>
    simp only [Silo.hexFrom]
    cases Silo.hexV b <;> rfl

/-- No hash: a byte that is no digit. -/
theorem hexOf_bad {s : List UInt8} {k : Nat} {b : UInt8} (hc : s[k]? = some b) (hb : Silo.hexV b = none) : Silo.hexOf s = none := by
  cases hs : Silo.hexOf s with
  | none => rfl
  | some h =>
    obtain ⟨h1, h2⟩ := Silo.hex_all hs
    have hk : k < 16 := by
      rw [← h2]
      rcases Nat.lt_or_ge k s.length with h' | h'
      · exact h'
      · rw [List.getElem?_eq_none h'] at hc; cases hc
    obtain ⟨y, hy, _⟩ := Silo.hex_take hs (k := k + 1) (by omega)
    rw [hexNext hc, hb] at hy
    cases hh : Silo.hexFrom 0 (s.take k) <;> rw [hh] at hy <;> cases hy

theorem hex_cut {s : List UInt8} {k acc : Nat} (hk : k < s.length) (hf : ∀ y, Silo.hexFrom 0 (s.take k) = some y → acc = y) (hc : 1152921504606846976 ≤ acc) : Silo.hexOf s = none := by
  cases hs : Silo.hexOf s with
  | none => rfl
  | some h =>
    have h2 := (Silo.hex_all hs).2
    obtain ⟨y, hy, hlt⟩ := Silo.hex_take hs (k := k) (by omega)
    have := hf y hy
    have hp : (16 : Nat) ^ k ≤ 16 ^ 15 := Nat.pow_le_pow_right (by decide) (by omega)
    omega

theorem hex_step {s : List UInt8} {k acc d : Nat} {b : UInt8} (hc : s[k]? = some b) (hf : ∀ y, Silo.hexFrom 0 (s.take k) = some y → acc = y) (hv : Silo.hexV b = some d) {y : Nat} (hy : Silo.hexFrom 0 (s.take (k + 1)) = some y) : acc * 16 + d = y := by
  rw [hexNext hc, hv] at hy
  cases hh : Silo.hexFrom 0 (s.take k) with
  | none => rw [hh] at hy; cases hy
  | some z =>
    rw [hh] at hy
    rw [hf z hh]
    exact Option.some.inj hy

/-- What ParseUint gives. -/
def PU (s : List UInt8) (e : Ending) : Prop := (∃ n : Nat, n < 18446744073709551616 ∧ e = .returned (.tuple #[.int .u64 (n : Nat), .nilIface]) ∧ ∀ h, Silo.hexOf s = some h → n = h) ∨
  (∃ (x c : Int), (c = 1 ∨ c = 2) ∧ e = .returned (.tuple #[.int .u64 x, .iface 174 (.int .i64 c)]) ∧ Silo.hexOf s = none)

/-- The small letter of a byte. -/
def lowB (b : UInt8) : Nat := (bits .or .u8 (b.toNat : Int) 32).toNat

theorem lowB_all : ∀ m : Fin 256, 0 ≤ bits .or .u8 ((m.val : Nat) : Int) 32 ∧ bits .or .u8 ((m.val : Nat) : Int) 32 ≤ 255 ∧ (97 ≤ m.val → m.val ≤ 102 → bits .or .u8 ((m.val : Nat) : Int) 32 = ((m.val : Nat) : Int)) := by decide +kernel

theorem lowB_eq (b : UInt8) : bits .or .u8 (b.toNat : Int) 32 = ((lowB b : Nat) : Int) := by
  have := (lowB_all ⟨b.toNat, b.toNat_lt⟩).1
  unfold lowB
  simp only at this
  omega
theorem lowB_lt (b : UInt8) : lowB b ≤ 255 := by
  have h1 := (lowB_all ⟨b.toNat, b.toNat_lt⟩).2.1
  have h2 := lowB_eq b
  simp only at h1
  omega
theorem lowB_hex {b : UInt8} (h0 : 97 ≤ b.toNat) (h1 : b.toNat ≤ 102) : lowB b = b.toNat := by
  have h2 := (lowB_all ⟨b.toNat, b.toNat_lt⟩).2.2 h0 h1
  have h3 := lowB_eq b
  simp only at h2
  omega

/-- No digit as the library reads them: none of ours. -/
theorem hexV_none {b : UInt8} (hd : ¬ (48 ≤ b.toNat ∧ b.toNat ≤ 57)) (hl : ¬ (97 ≤ lowB b ∧ lowB b ≤ 102)) : Silo.hexV b = none := by
  unfold Silo.hexV
  rw [if_neg hd, if_neg]
  rintro ⟨h0, h1⟩
  rw [lowB_hex h0 h1] at hl
  exact hl ⟨h0, h1⟩

theorem hexV_low {b : UInt8} {d : Nat} (hd : ¬ (48 ≤ b.toNat ∧ b.toNat ≤ 57)) (h : Silo.hexV b = some d) : d = lowB b - 87 := by
  unfold Silo.hexV at h
  rw [if_neg hd] at h
  split at h
  · rename_i hh
    rw [lowB_hex hh.1 hh.2]
    cases h
    rfl
  · cases h

set_option maxHeartbeats 16000000 in
set_option maxRecDepth 100000 in
theorem iParseUint_16 (s : List UInt8) (w : World) (hl : s.length ≤ 16777216) :
    Calls Tryz.prog 96 #[.string (S s), .int .i64 16, .int .i64 64] w fun e w' => PU s e ∧ Fp (fun _ => False) w w' := by
  have hsz : (S s).size = s.length := rfl
  have hcv := Lib.run_convert_string_bytes (P := Tryz.prog) w 9 57 5 (S s) (u := .string) Tryz.underlying9 Tryz.underlying57 Tryz.underlying5
  by_cases he : s = []
  · have hemp : (S s).toList.isEmpty = true := by rw [he, bytes_toList, S_toList]; rfl
    have hemp' : ((S s).toList == []) = true := by rw [he, bytes_toList, S_toList]; rfl
    have HN : Hid (Silo.hexOf s = none) := by rw [he]; rfl
    clear hcv he
    go_enter Tryz.func96, Tryz.ntmps96
    go_wp2
    exact bodyPost_ret (v := .tuple #[.int .u64 0, .iface 174 (.int .i64 2)]) (by simp [results, Tryz.results96, go_sem]) rfl ⟨.inr ⟨0, 2, .inr rfl, rfl, HN.out⟩, Fp.refl _ _⟩
  · have hemp : (S s).toList.isEmpty = false := by
      rw [bytes_toList, S_toList]
      cases s with
      | nil => exact absurd rfl he
      | cons b r => rfl
    have hemp' : ((S s).toList == []) = false := by
      rw [beq_eq_false_iff_ne]
      intro e
      exact he (by simpa [bytes_toList, S_toList] using e)
    have hB : ∀ j b, s[j]? = some b → (Lib.bytesWorld w 5 (S s)).cell? ⟨w.heap.size, j, none⟩ = some (.int .u8 (b.toNat : Nat)) := fun j b hj => by
      have hjl : j < s.length := by
        rcases Nat.lt_or_ge j s.length with h' | h'
        · exact h'
        · rw [List.getElem?_eq_none h'] at hj; cases hj
      rw [Lib.bytesWorld_cell w 5 (S s) j hjl]
      rw [S_toList]
      simp [List.getD, hj]
    have hF : Fp (fun _ => False) w (Lib.bytesWorld w 5 (S s)) := Fp.below0 (Lib.bytesWorld_below _ _ _)
    obtain ⟨W1, hW1⟩ : ∃ W1, W1 = Lib.bytesWorld w 5 (S s) := ⟨_, rfl⟩
    rw [← hW1] at hcv hB hF
    have HB : Hid _ := And.intro hB hF
    clear hW1 hB hF he
    have hmv : IntKind.u64.wrap (IntKind.u64.wrap 18446744073709551616 - 1) = 18446744073709551615 := by
      rw [IntKind.wrap_u64, IntKind.wrap_u64]
      decide
    go_enter Tryz.func96, Tryz.ntmps96
    go_wp2
    go_loop [12, 13, 101] (fun vu vn vi => ∃ (k acc : Nat) (a : Int), vu = .bool false ∧ vn = .int .u64 a ∧ vi = .int .i64 (k : Nat) ∧ k ≤ s.length ∧ Hid (a = (acc : Int) ∧ acc < 18446744073709551616 ∧ ∀ y, Silo.hexFrom 0 (s.take k) = some y → acc = y))
      (fun _ _ vi => s.length - (intOf vi).toNat)
    case atStart => exact ⟨0, 0, 0, rfl, rfl, rfl, by omega, rfl, by omega, fun y hy => by simpa [Silo.hexFrom] using hy⟩
    case round =>
      obtain ⟨k, acc, a, rfl, rfl, rfl, hk, hh⟩ := hrel
      obtain ⟨ha, hacc, hfr⟩ := hh.out
      clear hh
      have a0 : 0 ≤ a := by omega
      have a1 : a < 18446744073709551616 := by omega
      by_cases hkn : k < s.length
      · obtain ⟨c, hck⟩ : ∃ c, s[k]? = some c := ⟨s[k]'hkn, List.getElem?_eq_getElem hkn⟩
        have hc := HB.out.1 k c hck
        have hc256 : c.toNat < 256 := c.toNat_lt
        have HFr : Hid _ := hfr
        have HCk : Hid _ := hck
        have HCut : Hid (1152921504606846976 ≤ acc → Silo.hexOf s = none) := fun hcut => hex_cut hkn hfr hcut
        clear hfr hck
        by_cases h48 : 48 ≤ c.toNat
        · by_cases h57 : c.toNat ≤ 57
          · by_cases hcut : 1152921504606846976 ≤ acc
            · have icut : 1152921504606846976 ≤ a := by omega
              have HN : Hid _ := HCut.out hcut
              clear hcut hacc ha
              go_wp2
              exact bodyPost_ret (v := .tuple #[.int .u64 18446744073709551615, .iface 174 (.int .i64 1)]) (by simp [results, Tryz.results96, go_sem]) rfl ⟨.inr ⟨_, 1, .inl rfl, rfl, HN.out⟩, HB.out.2⟩
            · have icut : a < 1152921504606846976 := by omega
              have HN : Hid (a * 16 + ((c.toNat : Int) - 48) = ((acc * 16 + (c.toNat - 48) : Nat) : Int) ∧ acc * 16 + (c.toNat - 48) < 18446744073709551616 ∧ ∀ y, Silo.hexFrom 0 (s.take (k + 1)) = some y → acc * 16 + (c.toNat - 48) = y) := ⟨by omega, by omega, fun y hy => hex_step HCk.out HFr.out (Silo.hexV_dig h48 h57) hy⟩
              have iov : a * 16 + ((c.toNat : Int) - 48) < 18446744073709551616 := by omega
              clear hcut hacc ha
              go_wp2
              refine ⟨⟨k + 1, acc * 16 + (c.toNat - 48), a * 16 + ((c.toNat : Int) - 48), rfl, (by first | rfl | (congr 1; omega)), (by first | rfl | (congr 1; omega)), by omega, HN⟩, by simp [intOf]; omega⟩
          · by_cases h95 : c.toNat = 95
            · have hu : bits .or .u8 95 32 = 127 := by decide
              have i95 : ((c.toNat : Nat) : Int) = 95 := by omega
              have HN : Hid (Silo.hexOf s = none) := hexOf_bad HCk.out (hexV_none (by omega) (by unfold lowB; rw [i95, hu]; decide))
              clear hacc ha
              go_wp2_with (go_at_call 115; refine (Tryz.internal_strconv_lower _ _).mono ?_; rintro e w' ⟨rfl, rfl⟩)
              exact bodyPost_ret (v := .tuple #[.int .u64 0, .iface 174 (.int .i64 2)]) (by simp [results, Tryz.results96, go_sem]) rfl ⟨.inr ⟨_, 2, .inr rfl, rfl, HN.out⟩, HB.out.2⟩
            · have q95 : (((c.toNat : Nat) : Int) == 95) = false := by rw [beq_eq_false_iff_ne]; omega
              have hlow := lowB_eq c
              have hlt := lowB_lt c
              have HNo : Hid (¬ (97 ≤ lowB c ∧ lowB c ≤ 102) → Silo.hexOf s = none) := fun hn => hexOf_bad HCk.out (hexV_none (by omega) hn)
              have HSt : Hid (∀ y, Silo.hexFrom 0 (s.take (k + 1)) = some y → acc * 16 + (lowB c - 87) = y) := fun y hy => by
                cases hv : Silo.hexV c with
                | some d => rw [← hexV_low (by omega) hv]; exact hex_step HCk.out HFr.out hv hy
                | none =>
                  rw [hexNext HCk.out, hv] at hy
                  cases hh : Silo.hexFrom 0 (s.take k) <;> rw [hh] at hy <;> cases hy
              obtain ⟨L, hL⟩ : ∃ L, lowB c = L := ⟨_, rfl⟩
              rw [hL] at hlow hlt HNo HSt
              clear hL
              by_cases hl0 : 97 ≤ L
              · by_cases hl1 : L ≤ 102
                · by_cases hcut : 1152921504606846976 ≤ acc
                  · have icut : 1152921504606846976 ≤ a := by omega
                    have HN : Hid _ := HCut.out hcut
                    clear hcut hacc ha
                    go_wp2_with (go_at_call 115; refine (Tryz.internal_strconv_lower _ _).mono ?_; rintro e w' ⟨rfl, rfl⟩)
                    exact bodyPost_ret (v := .tuple #[.int .u64 18446744073709551615, .iface 174 (.int .i64 1)]) (by simp [results, Tryz.results96, go_sem]) rfl ⟨.inr ⟨_, 1, .inl rfl, rfl, HN.out⟩, HB.out.2⟩
                  · have icut : a < 1152921504606846976 := by omega
                    have HN : Hid (a * 16 + ((L : Int) - 97 + 10) = ((acc * 16 + (L - 87) : Nat) : Int) ∧ acc * 16 + (L - 87) < 18446744073709551616 ∧ ∀ y, Silo.hexFrom 0 (s.take (k + 1)) = some y → acc * 16 + (L - 87) = y) := ⟨by omega, by omega, HSt.out⟩
                    have iov : a * 16 + ((L : Int) - 97 + 10) < 18446744073709551616 := by omega
                    clear hcut hacc ha
                    go_wp2_with (go_at_call 115; refine (Tryz.internal_strconv_lower _ _).mono ?_; rintro e w' ⟨rfl, rfl⟩)
                    refine ⟨⟨k + 1, acc * 16 + (L - 87), a * 16 + ((L : Int) - 97 + 10), rfl, (by first | rfl | (congr 1; omega)), (by first | rfl | (congr 1; omega)), by omega, HN⟩, by simp [intOf]; omega⟩
                · have HN : Hid _ := HNo.out (by omega)
                  clear hacc ha
                  by_cases hl2 : L ≤ 122
                  · go_wp2_with (go_at_call 115; refine (Tryz.internal_strconv_lower _ _).mono ?_; rintro e w' ⟨rfl, rfl⟩)
                    exact bodyPost_ret (v := .tuple #[.int .u64 0, .iface 174 (.int .i64 2)]) (by simp [results, Tryz.results96, go_sem]) rfl ⟨.inr ⟨_, 2, .inr rfl, rfl, HN.out⟩, HB.out.2⟩
                  · go_wp2_with (go_at_call 115; refine (Tryz.internal_strconv_lower _ _).mono ?_; rintro e w' ⟨rfl, rfl⟩)
                    exact bodyPost_ret (v := .tuple #[.int .u64 0, .iface 174 (.int .i64 2)]) (by simp [results, Tryz.results96, go_sem]) rfl ⟨.inr ⟨_, 2, .inr rfl, rfl, HN.out⟩, HB.out.2⟩
              · have HN : Hid _ := HNo.out (by omega)
                clear hacc ha
                go_wp2_with (go_at_call 115; refine (Tryz.internal_strconv_lower _ _).mono ?_; rintro e w' ⟨rfl, rfl⟩)
                exact bodyPost_ret (v := .tuple #[.int .u64 0, .iface 174 (.int .i64 2)]) (by simp [results, Tryz.results96, go_sem]) rfl ⟨.inr ⟨_, 2, .inr rfl, rfl, HN.out⟩, HB.out.2⟩
        · have q95 : (((c.toNat : Nat) : Int) == 95) = false := by rw [beq_eq_false_iff_ne]; omega
          have hlow := lowB_eq c
          have hlt := lowB_lt c
          have HNo : Hid (¬ (97 ≤ lowB c ∧ lowB c ≤ 102) → Silo.hexOf s = none) := fun hn => hexOf_bad HCk.out (hexV_none (by omega) hn)
          have HSt : Hid (∀ y, Silo.hexFrom 0 (s.take (k + 1)) = some y → acc * 16 + (lowB c - 87) = y) := fun y hy => by
            cases hv : Silo.hexV c with
            | some d => rw [← hexV_low (by omega) hv]; exact hex_step HCk.out HFr.out hv hy
            | none =>
              rw [hexNext HCk.out, hv] at hy
              cases hh : Silo.hexFrom 0 (s.take k) <;> rw [hh] at hy <;> cases hy
          obtain ⟨L, hL⟩ : ∃ L, lowB c = L := ⟨_, rfl⟩
          rw [hL] at hlow hlt HNo HSt
          clear hL
          by_cases hl0 : 97 ≤ L
          · by_cases hl1 : L ≤ 102
            · by_cases hcut : 1152921504606846976 ≤ acc
              · have icut : 1152921504606846976 ≤ a := by omega
                have HN : Hid _ := HCut.out hcut
                clear hcut hacc ha
                go_wp2_with (go_at_call 115; refine (Tryz.internal_strconv_lower _ _).mono ?_; rintro e w' ⟨rfl, rfl⟩)
                exact bodyPost_ret (v := .tuple #[.int .u64 18446744073709551615, .iface 174 (.int .i64 1)]) (by simp [results, Tryz.results96, go_sem]) rfl ⟨.inr ⟨_, 1, .inl rfl, rfl, HN.out⟩, HB.out.2⟩
              · have icut : a < 1152921504606846976 := by omega
                have HN : Hid (a * 16 + ((L : Int) - 97 + 10) = ((acc * 16 + (L - 87) : Nat) : Int) ∧ acc * 16 + (L - 87) < 18446744073709551616 ∧ ∀ y, Silo.hexFrom 0 (s.take (k + 1)) = some y → acc * 16 + (L - 87) = y) := ⟨by omega, by omega, HSt.out⟩
                have iov : a * 16 + ((L : Int) - 97 + 10) < 18446744073709551616 := by omega
                clear hcut hacc ha
                go_wp2_with (go_at_call 115; refine (Tryz.internal_strconv_lower _ _).mono ?_; rintro e w' ⟨rfl, rfl⟩)
                refine ⟨⟨k + 1, acc * 16 + (L - 87), a * 16 + ((L : Int) - 97 + 10), rfl, (by first | rfl | (congr 1; omega)), (by first | rfl | (congr 1; omega)), by omega, HN⟩, by simp [intOf]; omega⟩
            · have HN : Hid _ := HNo.out (by omega)
              clear hacc ha
              by_cases hl2 : L ≤ 122
              · go_wp2_with (go_at_call 115; refine (Tryz.internal_strconv_lower _ _).mono ?_; rintro e w' ⟨rfl, rfl⟩)
                exact bodyPost_ret (v := .tuple #[.int .u64 0, .iface 174 (.int .i64 2)]) (by simp [results, Tryz.results96, go_sem]) rfl ⟨.inr ⟨_, 2, .inr rfl, rfl, HN.out⟩, HB.out.2⟩
              · go_wp2_with (go_at_call 115; refine (Tryz.internal_strconv_lower _ _).mono ?_; rintro e w' ⟨rfl, rfl⟩)
                exact bodyPost_ret (v := .tuple #[.int .u64 0, .iface 174 (.int .i64 2)]) (by simp [results, Tryz.results96, go_sem]) rfl ⟨.inr ⟨_, 2, .inr rfl, rfl, HN.out⟩, HB.out.2⟩
          · have HN : Hid _ := HNo.out (by omega)
            clear hacc ha
            go_wp2_with (go_at_call 115; refine (Tryz.internal_strconv_lower _ _).mono ?_; rintro e w' ⟨rfl, rfl⟩)
            exact bodyPost_ret (v := .tuple #[.int .u64 0, .iface 174 (.int .i64 2)]) (by simp [results, Tryz.results96, go_sem]) rfl ⟨.inr ⟨_, 2, .inr rfl, rfl, HN.out⟩, HB.out.2⟩
      · have HN : Hid (acc < 18446744073709551616 ∧ a = (acc : Nat) ∧ ∀ h, Silo.hexOf s = some h → acc = h) := ⟨hacc, ha, fun h hh => by
          obtain ⟨h1, h2⟩ := Silo.hex_all hh
          exact hfr h (by rw [List.take_of_length_le (by omega)]; exact h1)⟩
        have qk : ¬ (k : Int) < (s.length : Int) := by omega
        clear hacc ha hfr
        go_wp2
        exact bodyPost_ret (v := .tuple #[.int .u64 a, .nilIface]) (by simp [results, Tryz.results96, go_sem]) rfl ⟨.inl ⟨acc, HN.out.1, by rw [HN.out.2.1], HN.out.2.2⟩, HB.out.2⟩

end Go.Proofs.YtbimkgmhfcgpmaaGreatDoor

/- strconv.ParseUint(s, 16, 64), codes.FromHashText. -/
namespace Go.Proofs.YtbimkgmhfcgpmaaGreatDoor
open Go.RowKit Go.Shelf

/-- What the public one gives. -/
def PU2 (s : List UInt8) (e : Ending) : Prop := (∃ n : Nat, n < 18446744073709551616 ∧ e = .returned (.tuple #[.int .u64 (n : Nat), .nilIface]) ∧ ∀ h, Silo.hexOf s = some h → n = h) ∨
  (∃ (x : Int) (t : TypeId) (p : Value), e = .returned (.tuple #[.int .u64 x, .iface t p]) ∧ Silo.hexOf s = none)

set_option maxHeartbeats 1000000 in
theorem ParseUint_16 (s : List UInt8) (w : World) (hl : s.length ≤ 16777216) (hg : Gl w) :
    Calls Tryz.prog 81 #[.string (S s), .int .i64 16, .int .i64 64] w fun e w' => PU2 s e ∧ Fp (fun _ => False) w w' := by
  have HG : Hid _ := hg
  clear hg
  have hs48 : (S s).size ≤ 281474976710656 := by show s.length ≤ _; omega
  go_enter Tryz.func81, Tryz.ntmps81
  go_wp2_with fail
  refine (iParseUint_16 s w hl).mono ?_
  rintro e w1 ⟨h1, h2⟩
  have HF : Hid _ := h2
  clear h2
  rcases h1 with ⟨n, hn, rfl, hh⟩ | ⟨x, c, hc, rfl, hno⟩
  · have HN : Hid _ := And.intro hn hh
    clear hn hh
    go_wp2
    exact bodyPost_ret (v := .tuple #[.int .u64 (n : Nat), .nilIface]) (by simp [results, Tryz.results81, go_sem]) rfl ⟨.inl ⟨n, HN.out.1, rfl, HN.out.2⟩, HF.out⟩
  · have HN : Hid _ := hno
    clear hno
    rcases hc with rfl | rfl
    · obtain ⟨ev, hv, hev⟩ := (HG.out.fp HF.out).rng
      have HV : Hid _ := And.intro hv hev
      clear hv hev
      go_wp2_with fail
      refine (Tryz.strconv_toError_range _ _ _ _ ev w1 hs48 HV.out.1 HV.out.2).mono ?_
      rintro e w2 ⟨N, rfl, _, _, hb⟩
      have HF2 : Hid _ := HF.out.trans' (Fp.below0 hb)
      clear hb
      go_wp2
      exact bodyPost_ret (v := .tuple #[.int .u64 x, .iface _ (.pointer (some ⟨N, 0, none⟩))]) (by simp [results, Tryz.results81, go_sem]; rfl) rfl ⟨.inr ⟨_, _, _, rfl, HN.out⟩, HF2.out⟩
    · obtain ⟨ev, hv, hev⟩ := (HG.out.fp HF.out).syn
      have HV : Hid _ := And.intro hv hev
      clear hv hev
      go_wp2_with fail
      refine (Tryz.strconv_toError_syntax _ _ _ _ ev w1 hs48 HV.out.1 HV.out.2).mono ?_
      rintro e w2 ⟨N, rfl, _, _, hb⟩
      have HF2 : Hid _ := HF.out.trans' (Fp.below0 hb)
      clear hb
      go_wp2
      exact bodyPost_ret (v := .tuple #[.int .u64 x, .iface _ (.pointer (some ⟨N, 0, none⟩))]) (by simp [results, Tryz.results81, go_sem]; rfl) rfl ⟨.inr ⟨_, _, _, rfl, HN.out⟩, HF2.out⟩

/-- What FromHashText gives. -/
def hexVal : Option Nat → Value
  | some h => .tuple #[.int .u64 (h : Nat), .bool true]
  | none => .tuple #[.int .u64 0, .bool false]

set_option maxHeartbeats 1000000 in
theorem FromHash_any (s : List UInt8) (w : World) (hl : s.length ≤ 16777216) (hg : Gl w) :
    Calls Tryz.prog 68 #[.string (S s)] w fun e w' => e = .returned (hexVal (Silo.hexOf s)) ∧ Fp (fun _ => False) w w' := by
  have HG : Hid _ := hg
  clear hg
  go_enter Tryz.func68, Tryz.ntmps68
  go_wp2_with fail
  refine (ParseUint_16 s w hl HG.out).mono ?_
  rintro e w1 ⟨h1, h2⟩
  have HF : Hid _ := h2
  clear h2
  rcases h1 with ⟨n, hn, rfl, hh⟩ | ⟨x, t, p, rfl, hno⟩
  · have HN : Hid _ := And.intro hn hh
    clear hh
    go_wp2_with fail
    refine (HashText_any n w1 hn (HG.out.fp HF.out)).mono ?_
    rintro e w2 ⟨rfl, h3⟩
    have HF2 : Hid _ := HF.out.trans' h3
    clear h3
    obtain ⟨T, hT⟩ : ∃ T, Silo.hexN 16 n = T := ⟨_, rfl⟩
    rw [hT]
    by_cases hs : T = s
    · have qs : ((S T).toList == (S s).toList) = true := by rw [hs]; simp
      have HE : Hid (Silo.hexOf s = some n) := (Silo.hexOf_iff s n).2 ⟨by rw [hT, hs], hn⟩
      clear hs hT
      go_wp2
      exact bodyPost_ret (v := hexVal (some n)) (by simp [hexVal, results, Tryz.results68, go_sem]) rfl ⟨by rw [HE.out], HF2.out⟩
    · have qs : ((S T).toList == (S s).toList) = false := by rw [bytes_toList, bytes_toList, S_toList, S_toList, beq_eq_false_iff_ne]; exact hs
      have HE : Hid (Silo.hexOf s = none) := by
        show _ = _
        cases hx : Silo.hexOf s with
        | none => rfl
        | some h =>
          have e1 := HN.out.2 h hx
          have e2 := ((Silo.hexOf_iff s h).1 hx).1
          exact absurd (by rw [← hT, e1, ← e2]) hs
      clear hs hT
      go_wp2
      exact bodyPost_ret (v := hexVal none) (by simp [hexVal, results, Tryz.results68, go_sem]) rfl ⟨by rw [HE.out], HF2.out⟩
  · have HN : Hid _ := hno
    clear hno
    go_wp2
    exact bodyPost_ret (v := hexVal none) (by simp [hexVal, results, Tryz.results68, go_sem]) rfl ⟨by rw [HN.out], HF.out⟩

end Go.Proofs.YtbimkgmhfcgpmaaGreatDoor

/- (Range).Name. -/
namespace Go.Proofs.YtbimkgmhfcgpmaaGreatDoor
open Go.RowKit Go.Shelf

set_option maxHeartbeats 1000000 in
set_option maxRecDepth 100000 in
theorem RangeName_any (lo hi : Nat) (w : World) (h1 : lo ≤ 999999) (h2 : hi ≤ 999999) (hg : Gl w) :
    Calls Tryz.prog 35 #[.agg #[.int .i64 lo, .int .i64 hi]] w fun e w' => e = .returned (.string (S (Silo.nameOf lo hi))) ∧ Fp (fun _ => False) w w' := by
  have s1 := decS_size lo (by omega)
  have s2 := decS_size hi (by omega)
  have HN : Hid (S (Silo.nameOf lo hi) = ⟨#[98]⟩ ++ S (Lib.decDigits lo) ++ ⟨#[46]⟩ ++ S (Lib.decDigits hi)) := by
    show _ = S [98] ++ S (Lib.decDigits lo) ++ S [46] ++ S (Lib.decDigits hi)
    rw [S_append, S_append, S_append]
    simp [Silo.nameOf]
  obtain ⟨D, hD⟩ : ∃ D : Nat → ByteArray, D = fun n => S (Lib.decDigits n) := ⟨_, rfl⟩
  have e1 : S (Lib.decDigits lo) = D lo := by rw [hD]
  have e2 : S (Lib.decDigits hi) = D hi := by rw [hD]
  rw [e1] at s1 HN
  rw [e2] at s2 HN
  have HIt : Hid (∀ (n : Nat) (W : World), n ≤ 999999 → Fp (fun _ => False) (w.alloc (.cells #[.int .i64 lo, .int .i64 hi] 84)) W → Calls Tryz.prog 54 #[.int .i64 n] W fun e w' => e = .returned (.string (D n)) ∧ Fp (fun _ => False) (w.alloc (.cells #[.int .i64 lo, .int .i64 hi] 84)) w') := fun n W hn hW => by
    refine (Itoa_any (n : Int) (by omega) (by omega) W (hg.fp ((Fp.alloc _ _ _).trans' hW))).mono ?_
    rintro e w' ⟨rfl, hw'⟩
    rw [itoa_nat, hD]
    exact ⟨rfl, hW.trans' hw'⟩
  have HK : Hid (∀ W, Fp (fun _ => False) (w.alloc (.cells #[.int .i64 lo, .int .i64 hi] 84)) W → W.cell? ⟨w.heap.size, 0, none⟩ = some (.int .i64 lo) ∧ W.cell? ⟨w.heap.size, 1, none⟩ = some (.int .i64 hi)) := fun W hW => by
    rw [hW.cell (by simp) (fun h => h), hW.cell (by simp) (fun h => h)]
    exact ⟨cell_lit w _ _ 0, cell_lit w _ _ 1⟩
  clear hg hD e1 e2
  have f1 : ¬ 9223372036854775807 < 1 + (D lo).size := by omega
  have f2 : ¬ 9223372036854775807 < 1 + (D lo).size + 1 := by omega
  have f3 : ¬ 9223372036854775807 < 1 + (D lo).size + 1 + (D hi).size := by omega
  go_enter Tryz.func35, Tryz.ntmps35
  go_wp2_with fail
  go_region_held3 (fun w' => w'.cell? ⟨w.heap.size, 0, none⟩ = some (.int .i64 lo) ∧ w'.cell? ⟨w.heap.size, 1, none⟩ = some (.int .i64 hi))
    (first | go_keep | exact HK.out _ HX.out)
    ((go_at_call 54; refine (HIt.out _ _ (by assumption) (by first | exact HX.out | exact Fp.drew _ _)).mono ?_; rintro e w1 ⟨rfl, hx⟩; have HX : Hid _ := hx; clear hx))
  go_wp2
  go_ret
  exact ⟨ret_val (by rw [HN.out]; simp), (Fp.alloc _ _ _).trans' HX.out⟩

end Go.Proofs.YtbimkgmhfcgpmaaGreatDoor
