/- RefDec, RefNum, RefPcs, RefRng, PureG, in one text. -/
import Derived.Test.YtbimkgmhfcgpmaaGreatDoorRefCOne
import Derived.Test.YtbimkgmhfcgpmaaGreatDoorPureFOne
import Derived.Lib.ItoaLen
import Derived.BigQuiet
import Derived.Test.YtbimkgmhfcgpmaaGreatDoorRowOne

/- siloref's decimal, Number: numerals. -/
namespace Go.Proofs.YtbimkgmhfcgpmaaGreatDoor
open Go.RowKit

theorem dec_len20 (n : Nat) (h : n < 18446744073709551616) : (Lib.decDigits n).length ≤ 20 := by
  rw [Lib.decDigits_length]; exact Lib.nDigits_le20 n h

set_option maxHeartbeats 1000000 in
set_option maxRecDepth 100000 in
theorem Refdecimal_any (n : Nat) (w : World) (hn : n ≤ 9223372036854775807) :
    Calls Tryz.prog 40 #[.int .i64 n] w fun e w' => e = .returned (.string (S (Lib.decDigits n))) ∧ Fp (fun _ => False) w w' := by
  have hlen := dec_len20 n (by omega)
  have HL : Hid _ := hlen
  clear hlen
  go_enter Tryz.func40, Tryz.ntmps40
  go_wp2_with fail
  go_loopw [0, 3] (fun nv sv wr => ∃ (k : Nat) (t : List UInt8), nv = .int .i64 k ∧ sv = .string (S t) ∧ k ≤ n ∧ Hid (Lib.decDigits k ++ t = Lib.decDigits n ∧ Fp (fun _ => False) w wr)) (fun nv _ _ => (intOf nv).toNat)
  case atStart => exact ⟨n, [], rfl, rfl, Nat.le_refl _, by simp, Fp.refl _ _⟩
  case round =>
    obtain ⟨k, t, rfl, rfl, hk, HR⟩ := hrel
    have hsz : (S t).size ≤ 20 := by
      have h1 := congrArg List.length HR.out.1
      have h2 := HL.out
      rw [List.length_append] at h1
      show t.length ≤ 20
      omega
    have hs1 := S_one
    by_cases hgt : 9 < k
    · have hb : 48 + (k : Int) % 10 = ((UInt8.ofNat (48 + k % 10)).toNat : Nat) := by rw [UInt8.toNat_ofNat']; omega
      obtain ⟨bb, hbb⟩ : ∃ bb, bb = UInt8.ofNat (48 + k % 10) := ⟨_, rfl⟩
      rw [← hbb] at hb
      have HB : Hid _ := hbb
      clear hbb
      have hcv : ∀ (u : World) (ty : TypeId), (convert 57 9 (.slice (some ⟨u.heap.size, 0, none⟩) 1 1)).run Tryz.prog (u.alloc (.cells #[.int .u8 (48 + (k : Int) % 10)] ty)) = .ok (.string (S [bb])) (u.alloc (.cells #[.int .u8 (48 + (k : Int) % 10)] ty)) := fun u ty =>
        conv_cell _ _ _ _ (cell_lit _ _ _ 0) hb
      clear hb
      have f1 : (k : Int).tmod 10 = (k : Int) % 10 := Int.tmod_eq_emod_of_nonneg (by omega)
      have f5 : (k : Int).tdiv 10 = (k : Int) / 10 := Int.tdiv_eq_ediv_of_nonneg (by omega)
      have f2 : IntKind.i64.wrap (48 + (k : Int) % 10) = 48 + (k : Int) % 10 := by rw [IntKind.wrap_i64]; omega
      have f3 : IntKind.u8.wrap (48 + (k : Int) % 10) = 48 + (k : Int) % 10 := by rw [IntKind.wrap_u8]; omega
      go_wp2
      go_roundw
      case rel =>
        refine ⟨k / 10, bb :: t, ?_, ?_, by omega, ?_, ?_⟩
        · go_num
        · simp [S_append]
        · rw [← HR.out.1]
          conv => rhs; rw [Lib.decDigits, dif_neg (show ¬ k < 10 by omega)]
          rw [HB.out]
          simp
        · exact HR.out.2.trans' (Fp.alloc _ _ _)
      case measure => simp [intOf]; omega
    · have hb : 48 + (k : Int) = ((UInt8.ofNat (48 + k)).toNat : Nat) := by rw [UInt8.toNat_ofNat']; omega
      obtain ⟨bb, hbb⟩ : ∃ bb, bb = UInt8.ofNat (48 + k) := ⟨_, rfl⟩
      rw [← hbb] at hb
      have HB : Hid _ := hbb
      clear hbb
      have hcv : ∀ (u : World) (ty : TypeId), (convert 57 9 (.slice (some ⟨u.heap.size, 0, none⟩) 1 1)).run Tryz.prog (u.alloc (.cells #[.int .u8 (48 + (k : Int))] ty)) = .ok (.string (S [bb])) (u.alloc (.cells #[.int .u8 (48 + (k : Int))] ty)) := fun u ty =>
        conv_cell _ _ _ _ (cell_lit _ _ _ 0) hb
      clear hb
      go_wp2
      go_ret
      refine ⟨ret_val ?_, HR.out.2.trans' (Fp.alloc _ _ _)⟩
      rw [← HR.out.1, Lib.decDigits, dif_pos (by omega), ← HB.out]
      simp [S_append]

end Go.Proofs.YtbimkgmhfcgpmaaGreatDoor

/- siloref's Number: the value of a numeral. -/
namespace Go.Proofs.YtbimkgmhfcgpmaaGreatDoor
open Go.RowKit

/-- What Number answers. -/
def numV : Option Nat → Value
  | some v => .int .i64 (v : Nat)
  | none => .int .i64 (-1)

theorem numOf_bad {s : List UInt8} {most : Nat} (h : s = [] ∨ 9 < s.length ∨ (1 < s.length ∧ s.head? = some 48)) : Silo.numOf s most = none := by
  unfold Silo.numOf; rw [if_pos h]

theorem numOf_end {s : List UInt8} {most v : Nat} (h : ¬ (s = [] ∨ 9 < s.length ∨ (1 < s.length ∧ s.head? = some 48))) (hv : Lib.decFrom 0 s = some v) : Silo.numOf s most = if most < v then none else some v := by
  unfold Silo.numOf; rw [if_neg h, hv]

theorem decFrom_stop {s : List UInt8} {k : Nat} {c : UInt8} (hc : s[k]? = some c) (h : ¬ (48 ≤ c.toNat ∧ c.toNat ≤ 57)) : Lib.decFrom 0 s = none := by
  cases hd : Lib.decFrom 0 s with
  | none => rfl
  | some n =>
    obtain ⟨d, hx⟩ := Lib.digit_of_decFrom s 0 n hd k c hc
    obtain ⟨h1, h2, _⟩ := Lib.digitVal_eq hx
    exact absurd ⟨h1, h2⟩ h

theorem numOf_stop {s : List UInt8} {most k : Nat} {c : UInt8} (hc : s[k]? = some c) (h : ¬ (48 ≤ c.toNat ∧ c.toNat ≤ 57)) : Silo.numOf s most = none := by
  unfold Silo.numOf
  rw [decFrom_stop hc h]
  split <;> rfl

theorem decFrom_step {s : List UInt8} {k v : Nat} {c : UInt8} (hc : s[k]? = some c) (h : 48 ≤ c.toNat ∧ c.toNat ≤ 57) (hv : Lib.decFrom 0 (s.take k) = some v) : Lib.decFrom 0 (s.take (k + 1)) = some (v * 10 + (c.toNat - 48)) :=
  Lib.decFrom_take s k 0 v c (c.toNat - 48) hv hc (by unfold Lib.digitVal; rw [if_pos h])

theorem decFrom_bound {s : List UInt8} {k v : Nat} (hk : k ≤ 9) (hv : Lib.decFrom 0 (s.take k) = some v) : v < 1000000000 := by
  have h1 := Lib.decFrom_lt _ 0 v hv
  have h2 : (s.take k).length ≤ 9 := Nat.le_trans (List.length_take_le _ _) hk
  have h3 : 10 ^ (s.take k).length ≤ 10 ^ 9 := Nat.pow_le_pow_right (by decide) h2
  omega

set_option maxHeartbeats 2000000 in
set_option maxRecDepth 100000 in
theorem RefNumber_any (s : List UInt8) (most : Nat) (w : World) (_hm : most ≤ 999999999) (hs9 : s.length ≤ 9223372036854775807) :
    Calls Tryz.prog 22 #[.string (S s), .int .i64 most] w fun e w' => e = .returned (numV (Silo.numOf s most)) ∧ w' = w := by
  have hs : (S s).size = s.length := rfl
  by_cases hc : s = [] ∨ 9 < s.length ∨ (1 < s.length ∧ s.head? = some 48)
  · have HN : Hid _ := numOf_bad (most := most) hc
    by_cases h0 : s.length = 0
    · go_enter Tryz.func22, Tryz.ntmps22
      go_wp2
      go_ret
      exact ⟨ret_val (by rw [HN.out]; rfl), rfl⟩
    · by_cases h9 : 9 < s.length
      · go_enter Tryz.func22, Tryz.ntmps22
        go_wp2
        go_ret
        exact ⟨ret_val (by rw [HN.out]; rfl), rfl⟩
      · have h1 : 1 < s.length := by
          rcases hc with h | h | h
          · rw [h] at h0; exact absurd rfl h0
          · exact absurd h h9
          · exact h.1
        have hb : (S s)[0]'(by rw [hs]; omega) = 48 := by
          rcases hc with h | h | h
          · rw [h] at h0; exact absurd rfl h0
          · exact absurd h h9
          · have := h.2
            rw [List.head?_eq_getElem?, List.getElem?_eq_getElem (by omega)] at this
            exact Option.some.inj this
        clear hc
        go_enter Tryz.func22, Tryz.ntmps22
        go_wp2
        go_ret
        exact ⟨ret_val (by rw [HN.out]; rfl), rfl⟩
  · have h0 : ¬ s.length = 0 := fun h => hc (.inl (List.length_eq_zero_iff.1 h))
    have h9 : ¬ 9 < s.length := fun h => hc (.inr (.inl h))
    have hp : 0 < (S s).size := by rw [hs]; omega
    obtain ⟨b0, hb⟩ : ∃ b0, (S s)[0]'hp = b0 := ⟨_, rfl⟩
    have hb0 : (decide (1 < (s.length : Int)) && ((b0.toNat : Int) == 48)) = false := by
      rw [Bool.and_eq_false_iff]
      by_cases h1 : 1 < s.length
      · right
        simp only [beq_eq_false_iff_ne, ne_eq]
        intro h
        refine hc (.inr (.inr ⟨h1, ?_⟩))
        rw [List.head?_eq_getElem?, List.getElem?_eq_getElem (by omega)]
        congr 1
        refine (show s[0] = b0 from hb).trans (UInt8.toNat.inj (by simpa using Int.ofNat.inj h))
      · left
        simp; omega
    have HC : Hid _ := hc
    clear hc
    have hA : ((s.length : Int) == 0) = false := beq_eq_false_iff_ne.2 (by omega)
    have hB : decide (9 < (s.length : Int)) = false := by simp; omega
    have hle : s.length ≤ 9 := by omega
    clear h0 h9
    cases h1 : decide (1 < (s.length : Int))
    all_goals
      rw [h1] at hb0
      simp only [Bool.false_and, Bool.true_and] at hb0
      go_enter Tryz.func22, Tryz.ntmps22
      go_wp2_with fail
      go_loop [5, 6] (fun v i => ∃ k x : Nat, k ≤ s.length ∧ i = .int .i64 k ∧ v = .int .i64 x ∧ x < 1000000000 ∧ Hid (Lib.decFrom 0 (s.take k) = some x)) (fun _ i => 10 - (intOf i).toNat)
      case atStart => exact ⟨0, 0, by omega, rfl, rfl, by omega, (show Lib.decFrom 0 (s.take 0) = some 0 from rfl)⟩
      case round =>
        obtain ⟨k, x, hk, rfl, rfl, hx, HR⟩ := hrel
        clear hb hb0 h1 hA hB
        by_cases hlt : k < s.length
        · have hpk : k < (S s).size := by rw [hs]; exact hlt
          obtain ⟨c, hcc⟩ : ∃ c, s[k]? = some c := ⟨s[k], List.getElem?_eq_getElem hlt⟩
          have hbk : (S s)[k]'hpk = c := by
            have := List.getElem?_eq_getElem hlt
            rw [hcc] at this
            exact (Option.some.inj this).symm
          have HST : Hid (48 ≤ c.toNat ∧ c.toNat ≤ 57 → _) := fun h => decFrom_step hcc h HR.out
          have HNS : Hid (¬ (48 ≤ c.toNat ∧ c.toNat ≤ 57) → _) := fun h => numOf_stop (most := most) hcc h
          clear hcc
          cases q1 : decide ((c.toNat : Int) < 48)
          · cases q2 : decide (57 < (c.toNat : Int))
            · have hd : 48 ≤ c.toNat ∧ c.toNat ≤ 57 := by simp at q1 q2; omega
              have hst := HST.out hd
              have hbd := decFrom_bound (by omega) hst
              have f1 : IntKind.u8.wrap ((c.toNat : Int) - 48) = (c.toNat : Int) - 48 := by rw [IntKind.wrap_u8]; omega
              have f2 : IntKind.i64.wrap ((c.toNat : Int) - 48) = (c.toNat : Int) - 48 := by rw [IntKind.wrap_i64]; omega
              have HS2 : Hid _ := hst
              clear hst
              go_wp2
              go_round
              case rel => exact ⟨k + 1, x * 10 + (c.toNat - 48), by omega, by go_num, by go_num, hbd, HS2.out⟩
              case measure => simp [intOf]; omega
            · have hd : ¬ (48 ≤ c.toNat ∧ c.toNat ≤ 57) := by simp at q2; omega
              have HNN : Hid _ := HNS.out hd
              go_wp2
              go_ret
              exact ⟨ret_val (by rw [HNN.out]; rfl), rfl⟩
          · have hd : ¬ (48 ≤ c.toNat ∧ c.toNat ≤ 57) := by simp at q1; omega
            have HNN : Hid _ := HNS.out hd
            go_wp2
            go_ret
            exact ⟨ret_val (by rw [HNN.out]; rfl), rfl⟩
        · obtain rfl : k = s.length := by omega
          have hv := HR.out
          rw [List.take_length] at hv
          have HE : Hid _ := numOf_end (most := most) HC.out hv
          clear hv
          by_cases hgt : most < x
          · go_wp2
            go_ret
            exact ⟨ret_val (by rw [HE.out, if_pos hgt]; rfl), rfl⟩
          · go_wp2
            go_ret
            exact ⟨ret_val (by rw [HE.out, if_neg hgt]; rfl), rfl⟩

end Go.Proofs.YtbimkgmhfcgpmaaGreatDoor

/- siloref.pieces: a text cut at each byte c. -/
namespace Go.Proofs.YtbimkgmhfcgpmaaGreatDoor
open Go.RowKit

/-- Between two rounds: what is cut off, what is left. -/
def PcInv (s : List UInt8) (c : UInt8) (from' i : Nat) (ps : List (List UInt8)) : Prop :=
  (i ≤ s.length ∧ from' ≤ i ∧ ps ++ Silo.pcs c (s.drop from') = Silo.pcs c s ∧ ∀ b ∈ (s.drop from').take (i - from'), b ≠ c) ∨ (i = s.length + 1 ∧ ps = Silo.pcs c s)

theorem pcs_length_le (c : UInt8) (s : List UInt8) : (Silo.pcs c s).length ≤ s.length + 1 := by
  induction s with
  | nil => simp [Silo.pcs]
  | cons b r ih =>
    rw [Silo.pcs]
    split
    · simp; omega
    · split
      · rename_i h; rw [h] at ih; simp at ih ⊢; omega
      · simp

theorem PcInv.len {s : List UInt8} {c : UInt8} {f i : Nat} {ps : List (List UInt8)} (h : PcInv s c f i ps) : ps.length ≤ s.length + 1 := by
  have := pcs_length_le c s
  rcases h with ⟨_, _, h3, _⟩ | ⟨_, h2⟩
  · have := congrArg List.length h3
    rw [List.length_append] at this
    omega
  · rw [h2]; exact this

theorem PcInv.last {s : List UInt8} {c : UInt8} {f : Nat} {ps : List (List UInt8)} (h : PcInv s c f s.length ps) : f ≤ s.length ∧ PcInv s c (s.length + 1) (s.length + 1) (ps ++ [(s.drop f).take (s.length - f)]) := by
  rcases h with ⟨h1, h2, h3, h4⟩ | ⟨h1, _⟩
  · refine ⟨h2, .inr ⟨rfl, ?_⟩⟩
    have e : (s.drop f).take (s.length - f) = s.drop f := List.take_of_length_le (by simp)
    rw [e] at h4 ⊢
    rw [← h3, Silo.pcs_none c (s.drop f) (fun hm => h4 c hm rfl)]
  · omega

theorem PcInv.hit {s : List UInt8} {c : UInt8} {f i : Nat} {ps : List (List UInt8)} (h : PcInv s c f i ps) (hi : i < s.length) (hc : s[i]? = some c) : f ≤ i ∧ PcInv s c (i + 1) (i + 1) (ps ++ [(s.drop f).take (i - f)]) := by
  rcases h with ⟨h1, h2, h3, h4⟩ | ⟨h1, _⟩
  · refine ⟨h2, .inl ⟨by omega, Nat.le_refl _, ?_, by simp⟩⟩
    have e : s.drop f = (s.drop f).take (i - f) ++ c :: s.drop (i + 1) := by
      conv => lhs; rw [← List.take_append_drop (i - f) (s.drop f)]
      rw [List.drop_drop, show f + (i - f) = i by omega]
      congr 1
      rw [List.drop_eq_getElem_cons hi]
      congr 1
      rw [List.getElem?_eq_getElem hi] at hc
      exact Option.some.inj hc
    rw [e, Silo.pcs_cut c _ _ (fun hm => h4 c hm rfl)] at h3
    rw [List.append_assoc]
    exact h3
  · omega

theorem PcInv.miss {s : List UInt8} {c b : UInt8} {f i : Nat} {ps : List (List UInt8)} (h : PcInv s c f i ps) (hi : i < s.length) (hb : s[i]? = some b) (hne : b ≠ c) : PcInv s c f (i + 1) ps := by
  rcases h with ⟨h1, h2, h3, h4⟩ | ⟨h1, _⟩
  · refine .inl ⟨by omega, by omega, h3, ?_⟩
    intro x hx
    rw [show i + 1 - f = (i - f) + 1 by omega, List.take_add_one] at hx
    rcases List.mem_append.1 hx with hx | hx
    · exact h4 x hx
    · rw [List.getElem?_drop, show f + (i - f) = i by omega, hb] at hx
      simp at hx
      rw [hx]; exact hne
  · omega

set_option maxHeartbeats 2000000 in
set_option maxRecDepth 100000 in
theorem Refpieces_any (s : List UInt8) (c : UInt8) (w : World) (hl : s.length ≤ 1099511627775) :
    Calls Tryz.prog 20 #[.string (S s), .int .u8 (c.toNat : Nat)] w fun e w' => ∃ v, e = .returned v ∧ Hid (World.strsAt w' w.heap.size v (Silo.pcs c s) ∧ Fp (fun _ => False) w w') := by
  have hs : (S s).size = s.length := rfl
  go_enter Tryz.func20, Tryz.ntmps20
  go_wp2_with fail
  go_loopw [5, 6, 7] (fun ov fv iv wr => ∃ (f i : Nat) (ps : List (List UInt8)) (a : Option Addr) (cp : Nat), fv = .int .i64 f ∧ iv = .int .i64 i ∧ i ≤ s.length + 1 ∧ ov = .slice a ps.length cp ∧ Hid (PcInv s c f i ps ∧ World.strsAt wr w.heap.size (.slice a ps.length cp) ps ∧ Fp (fun _ => False) w wr)) (fun _ _ iv _ => s.length + 1 - (intOf iv).toNat)
  case atStart => exact ⟨0, 0, [], none, 0, rfl, rfl, by omega, rfl, .inl ⟨by omega, by omega, by simp, by simp⟩, ⟨rfl, .inl ⟨rfl, rfl⟩⟩, Fp.refl _ _⟩
  case round =>
    obtain ⟨f, i, ps, a, cp, rfl, rfl, hi, rfl, HR⟩ := hrel
    have hpl := HR.out.1.len
    by_cases hlast : i = s.length + 1
    · subst hlast
      have hle : decide ((s.length : Int) + 1 ≤ (s.length : Int)) = false := decide_eq_false (by omega)
      have HE : Hid (ps = Silo.pcs c s) := by
        rcases HR.out.1 with ⟨h1, _⟩ | ⟨_, h2⟩
        · omega
        · exact h2
      go_wp2
      go_ret
      exact ⟨.slice a ps.length cp, ret_val (by simp), by rw [← HE.out]; exact HR.out.2⟩
    · by_cases hend : i = s.length
      · subst hend
        have hf : f ≤ s.length := HR.out.1.last.1
        have hex : (S s).extract f s.length = S ((s.drop f).take (s.length - f)) := S_extract _ _ _
        go_wp2_with (at_builtin; refine wpList_append_str rfl _ _ rfl w.heap.size (.slice a ps.length cp) ps ((s.drop f).take (s.length - f)) rfl ?c1 ⟨wr.heap.size, 0, none⟩ rfl ?c2 ?c3 ?c4 ?_; rotate_left 4; intro g4 cap4 w4 H4)
        case c1 => exact World.ownsRow.alloc HR.out.2.1 _
        case c2 => exact cell_new' ..
        case c3 => omega
        case c4 => have := HR.out.2.2.size; simp; omega
        go_roundw
        case rel =>
          refine ⟨s.length + 1, s.length + 1, ps ++ [(s.drop f).take (s.length - f)], some ⟨g4, 0, none⟩, cap4, by go_num, by go_num, by omega, by simp, HR.out.1.last.2, ?_, ?_⟩
          · have := H4.out.row
            rw [List.length_append]
            exact this
          · exact (HR.out.2.2.trans' (Fp.alloc _ _ _)).trans H4.out.foot (fun _ h => h) (fun k hk e => by
              have := (World.ownsRow.lt HR.out.2.1 k e).1
              omega)
        case measure => (first | (simp [intOf]; done) | (simp [intOf]; omega))
      · have hlt : i < s.length := by omega
        have hpi : i < (S s).size := by rw [hs]; exact hlt
        obtain ⟨b, hb⟩ : ∃ b, s[i]? = some b := ⟨s[i], List.getElem?_eq_getElem hlt⟩
        have hbk : (S s)[i]'hpi = b := by
          have := List.getElem?_eq_getElem hlt
          rw [hb] at this
          exact (Option.some.inj this).symm
        have HB : Hid _ := hb
        clear hb
        by_cases hbc : b = c
        · subst hbc
          have hf : f ≤ i := (HR.out.1.hit hlt HB.out).1
          have hex : (S s).extract f i = S ((s.drop f).take (i - f)) := S_extract _ _ _
          go_wp2_with (at_builtin; refine wpList_append_str rfl _ _ rfl w.heap.size (.slice a ps.length cp) ps ((s.drop f).take (i - f)) rfl ?c1 ⟨wr.heap.size, 0, none⟩ rfl ?c2 ?c3 ?c4 ?_; rotate_left 4; intro g4 cap4 w4 H4)
          case c1 => exact World.ownsRow.alloc HR.out.2.1 _
          case c2 => exact cell_new' ..
          case c3 => omega
          case c4 => have := HR.out.2.2.size; simp; omega
          go_roundw
          case rel =>
            refine ⟨i + 1, i + 1, ps ++ [(s.drop f).take (i - f)], some ⟨g4, 0, none⟩, cap4, by go_num, by go_num, by omega, by simp, (HR.out.1.hit hlt HB.out).2, ?_, ?_⟩
            · have := H4.out.row
              rw [List.length_append]
              exact this
            · exact (HR.out.2.2.trans' (Fp.alloc _ _ _)).trans H4.out.foot (fun _ h => h) (fun k hk e => by
                have := (World.ownsRow.lt HR.out.2.1 k e).1
                omega)
          case measure => (first | (simp [intOf]; done) | (simp [intOf]; omega))
        · have hne : ((b.toNat : Int) == (c.toNat : Int)) = false := beq_eq_false_iff_ne.2 (fun h => hbc (UInt8.toNat.inj (by omega)))
          go_wp2
          go_roundw
          case rel => exact ⟨f, i + 1, ps, a, cp, rfl, by go_num, by omega, rfl, HR.out.1.miss hlt HB.out hbc, HR.out.2⟩
          case measure => (first | (simp [intOf]; done) | (simp [intOf]; omega))

end Go.Proofs.YtbimkgmhfcgpmaaGreatDoor

/- siloref.Range, Name: a block's name. -/
namespace Silo
open Go.Lib

theorem dec_pos (n : Nat) : 1 ≤ (decDigits n).length := List.length_pos_iff.2 (dec_ne n)

theorem digit_ne (n : Nat) (c : UInt8) (h : ¬ (48 ≤ c.toNat ∧ c.toNat ≤ 57)) : c ∉ decDigits n := by
  intro hm
  obtain ⟨k, hk, he⟩ := List.getElem_of_mem hm
  obtain ⟨d, hd⟩ := digit_of_decFrom (decDigits n) 0 n (decFrom_dec n) k c (by rw [List.getElem?_eq_getElem hk, he])
  obtain ⟨h1, h2, _⟩ := digitVal_eq hd
  exact h ⟨h1, h2⟩

theorem pcs_two {c : UInt8} {r a b : List UInt8} (h : pcs c r = [a, b]) : r = a ++ c :: b ∧ c ∉ a ∧ c ∉ b := by
  by_cases hm : c ∈ r
  · obtain ⟨x, y, h1, h2⟩ := cut_at c r hm
    rw [h1, pcs_cut c x y h2, List.cons.injEq] at h
    obtain ⟨rfl, hy⟩ := h
    by_cases hm2 : c ∈ y
    · obtain ⟨x2, y2, h3, h4⟩ := cut_at c y hm2
      rw [h3, pcs_cut c x2 y2 h4] at hy
      cases hp : pcs c y2 with
      | nil => exact absurd hp (pcs_ne c y2)
      | cons p ps => rw [hp] at hy; cases hy
    · rw [pcs_none c y hm2] at hy
      simp only [List.cons.injEq, and_true] at hy
      subst hy
      exact ⟨h1, h2, hm2⟩
  · rw [pcs_none c r hm] at h
    cases h

theorem rangeOf_iff (s : List UInt8) (lo hi : Nat) : rangeOf s = some (lo, hi) ↔ s = nameOf lo hi ∧ lo ≤ hi ∧ hi ≤ 999999 := by
  constructor
  · intro h
    unfold rangeOf at h
    split at h
    · split at h
      · rename_i r a b hp
        split at h
        · rename_i lo' hi' h1 h2
          split at h
          · rename_i hle
            cases h
            obtain ⟨e1, _⟩ := numOf_some h1
            obtain ⟨e2, e3⟩ := numOf_some h2
            obtain ⟨e4, _, _⟩ := pcs_two hp
            exact ⟨by rw [nameOf, e4, e1, e2], hle, e3⟩
          · cases h
        · cases h
      · cases h
    · cases h
  · rintro ⟨rfl, h1, h2⟩
    unfold rangeOf nameOf
    simp only
    rw [pcs_cut 46 _ _ (digit_ne lo 46 (by decide)), pcs_none 46 _ (digit_ne hi 46 (by decide))]
    simp only
    rw [numOf_dec lo 999999 (by omega) (by omega), numOf_dec hi 999999 (by omega) (by omega)]
    simp only
    rw [if_pos h1]

theorem nameOf_len (lo hi : Nat) : 4 ≤ (nameOf lo hi).length := by
  have h1 := dec_pos lo
  have h2 := dec_pos hi
  simp [nameOf]
  omega

theorem rangeOf_short {s : List UInt8} (h : s.length < 4) : rangeOf s = none := by
  cases hr : rangeOf s with
  | none => rfl
  | some p =>
    obtain ⟨lo, hi⟩ := p
    have := ((rangeOf_iff s lo hi).1 hr).1
    have h4 := nameOf_len lo hi
    rw [this] at h
    omega

theorem rangeOf_other {b : UInt8} {r : List UInt8} (h : b ≠ 98) : rangeOf (b :: r) = none := by
  unfold rangeOf
  split
  · rename_i h'
    cases h'
    exact absurd rfl h
  · rfl

theorem rangeOf_b (r : List UInt8) : rangeOf (98 :: r) = match pcs 46 r with
    | [a, b] => match numOf a 999999, numOf b 999999 with
      | some lo, some hi => if lo ≤ hi then some (lo, hi) else none
      | _, _ => none
    | _ => none := rfl

theorem rangeOf_count {r : List UInt8} (h : (pcs 46 r).length ≠ 2) : rangeOf (98 :: r) = none := by
  rw [rangeOf_b]
  split
  · rename_i hp; rw [hp] at h; exact absurd rfl h
  · rfl

theorem rangeOf_ab {r a b : List UInt8} (h : pcs 46 r = [a, b]) : rangeOf (98 :: r) = match numOf a 999999, numOf b 999999 with
      | some lo, some hi => if lo ≤ hi then some (lo, hi) else none
      | _, _ => none := by
  rw [rangeOf_b, h]

end Silo
namespace Go.Proofs.YtbimkgmhfcgpmaaGreatDoor
open Go.RowKit

/-- What Range answers of a name. -/
def RngRes (s : List UInt8) (e : Ending) : Prop := ∃ a b : Int, e = .returned (.tuple #[.int .i64 a, .int .i64 b, .bool (Silo.rangeOf s).isSome]) ∧ ∀ lo hi, Silo.rangeOf s = some (lo, hi) → a = (lo : Nat) ∧ b = (hi : Nat)

theorem RngRes.bad {s : List UInt8} (a b : Int) (h : Silo.rangeOf s = none) : RngRes s (.returned (.tuple #[.int .i64 a, .int .i64 b, .bool false])) :=
  ⟨a, b, by rw [h]; rfl, fun lo hi h' => by rw [h] at h'; cases h'⟩

/-- The number that stands for what Number answers. -/
def numI : Option Nat → Int
  | some v => (v : Nat)
  | none => -1

theorem numV_eq (o : Option Nat) : numV o = .int .i64 (numI o) := by cases o <;> rfl

theorem rng_ok {s r x y : List UInt8} (hs : s = 98 :: r) (hp : Silo.pcs 46 r = [x, y]) (b1 b2 : Bool) (h1 : decide (0 ≤ numI (Silo.numOf x 999999)) = b1) (h2 : decide (numI (Silo.numOf x 999999) ≤ numI (Silo.numOf y 999999)) = b2) :
    RngRes s (.returned (.tuple #[.int .i64 (numI (Silo.numOf x 999999)), .int .i64 (numI (Silo.numOf y 999999)), .bool (b1 && b2)])) := by
  subst hs
  refine ⟨numI (Silo.numOf x 999999), numI (Silo.numOf y 999999), ?_, ?_⟩
  · rw [Silo.rangeOf_ab hp, ← h1, ← h2]
    cases hx : Silo.numOf x 999999 with
    | none => simp [numI]
    | some u =>
      cases hy : Silo.numOf y 999999 with
      | none =>
        simp [numI]
        exact decide_eq_false (by omega)
      | some v =>
        by_cases h : u ≤ v
        · have : decide (((u : Nat) : Int) ≤ (v : Nat)) = true := decide_eq_true (by omega)
          simp [numI, h]
        · simp [numI, h]
  · intro lo hi h
    rw [Silo.rangeOf_ab hp] at h
    cases hx : Silo.numOf x 999999 with
    | none => rw [hx] at h; cases h
    | some u =>
      cases hy : Silo.numOf y 999999 with
      | none => rw [hx, hy] at h; cases h
      | some v =>
        rw [hx, hy] at h
        simp only at h
        split at h
        · cases h; exact ⟨rfl, rfl⟩
        · cases h

set_option maxHeartbeats 2000000 in
set_option maxRecDepth 100000 in
theorem RefRange_any (s : List UInt8) (w : World) (hl : s.length ≤ 1099511627775) :
    Calls Tryz.prog 21 #[.string (S s)] w fun e w' => RngRes s e ∧ Fp (fun _ => False) w w' := by
  have hs : (S s).size = s.length := rfl
  by_cases h4 : s.length < 4
  · have HN : Hid _ := Silo.rangeOf_short h4
    go_enter Tryz.func21, Tryz.ntmps21
    go_wp2
    refine bodyPost_ret (v := .tuple #[.int .i64 0, .int .i64 0, .bool false]) (by simp [results, Tryz.results21, go_sem]) rfl ⟨RngRes.bad 0 0 HN.out, Fp.refl _ _⟩
  · have hp : 0 < (S s).size := by rw [hs]; omega
    obtain ⟨b, r, hsr⟩ := List.exists_cons_of_ne_nil (show s ≠ [] from fun h => h4 (by rw [h]; decide))
    have hb : (S s)[0]'hp = b := by
      have : s[0]? = some b := by rw [hsr]; rfl
      rw [List.getElem?_eq_getElem (by omega)] at this
      exact Option.some.inj this
    have hex : (S s).extract 1 s.length = S r := by
      rw [S_extract]
      congr 1
      show (s.drop 1).take (s.length - 1) = r
      rw [hsr]
      simp
    have hrl : r.length ≤ 1099511627775 := by rw [hsr] at hl; simp at hl; omega
    have HSR : Hid _ := hsr
    clear hsr
    by_cases hbb : b = 98
    · subst hbb
      go_enter Tryz.func21, Tryz.ntmps21
      go_wp2_with fail
      refine (Refpieces_any r 46 w hrl).mono ?_
      rintro e w1 ⟨v, rfl, H1⟩
      obtain ⟨av, cv, rfl⟩ := strsAt_form H1.out.1
      by_cases h2 : (Silo.pcs 46 r).length = 2
      · obtain ⟨x, y, hxy⟩ : ∃ x y, Silo.pcs 46 r = [x, y] := by
          match hq : Silo.pcs 46 r, h2 with
          | [x, y], _ => exact ⟨x, y, rfl⟩
        have hrow := H1.out.1
        have HF1 : Hid _ := H1.out.2
        have hlr : r.length = r.length := rfl
        have hx9 : x.length ≤ 9223372036854775807 ∧ y.length ≤ 9223372036854775807 := by
          have := (Silo.pcs_two hxy).1
          have := congrArg List.length this
          simp at this
          omega
        have HXY : Hid _ := hxy
        rw [hxy] at hrow ⊢
        clear hxy H1 h2 hlr
        obtain ⟨g, hg⟩ : ∃ g, av = some ⟨g, 0, none⟩ := by
          rcases hrow.2 with ⟨h1, h2⟩ | ⟨g, cap, cur, h3, _⟩
          · cases h2
          · cases h3; exact ⟨g, rfl⟩
        subst hg
        have k0 : w1.cell? ⟨g, 0, none⟩ = some (.string (S x)) := strsAt_cell hrow 0 (by simp)
        have k1 : w1.cell? ⟨g, 1, none⟩ = some (.string (S y)) := strsAt_cell hrow 1 (by simp)
        clear hrow
        go_wp2_with fail
        refine (RefNumber_any x 999999 w1 (by decide) hx9.1).mono ?_
        rintro e w2 ⟨rfl, rfl⟩
        rw [numV_eq]
        go_wp2_with fail
        refine (RefNumber_any y 999999 w2 (by decide) hx9.2).mono ?_
        rintro e w3 ⟨rfl, rfl⟩
        rw [numV_eq]
        have HR : Hid _ := fun b1 b2 h1 h2 => rng_ok HSR.out HXY.out b1 b2 h1 h2
        obtain ⟨p, hp'⟩ : ∃ p, numI (Silo.numOf x 999999) = p := ⟨_, rfl⟩
        obtain ⟨q, hq'⟩ : ∃ q, numI (Silo.numOf y 999999) = q := ⟨_, rfl⟩
        rw [hp', hq'] at HR ⊢
        clear hp' hq'
        cases e1 : decide (0 ≤ p)
        · go_wp2
          refine bodyPost_ret (v := .tuple #[.int .i64 p, .int .i64 q, .bool false]) (by simp [results, Tryz.results21, go_sem]) rfl ⟨?_, HF1.out⟩
          exact HR.out false _ e1 rfl
        · cases e2 : decide (p ≤ q)
          · go_wp2
            refine bodyPost_ret (v := .tuple #[.int .i64 p, .int .i64 q, .bool false]) (by simp [results, Tryz.results21, go_sem]) rfl ⟨?_, HF1.out⟩
            exact HR.out true false e1 e2
          · go_wp2
            refine bodyPost_ret (v := .tuple #[.int .i64 p, .int .i64 q, .bool true]) (by simp [results, Tryz.results21, go_sem]) rfl ⟨?_, HF1.out⟩
            exact HR.out true true e1 e2
      · have HN : Hid (Silo.rangeOf s = none) := by show _ = _; rw [HSR.out]; exact Silo.rangeOf_count h2
        have hne : (((Silo.pcs 46 r).length : Int) != 2) = true := bne_iff_ne.2 (by omega)
        go_wp2
        refine bodyPost_ret (v := .tuple #[.int .i64 0, .int .i64 0, .bool false]) (by simp [results, Tryz.results21, go_sem]) rfl ⟨RngRes.bad 0 0 HN.out, H1.out.2⟩
    · have HN : Hid (Silo.rangeOf s = none) := by show _ = _; rw [HSR.out]; exact Silo.rangeOf_other hbb
      have hne : ((b.toNat : Int) != 98) = true := bne_iff_ne.2 (fun h => hbb (UInt8.toNat.inj (by show b.toNat = 98; omega)))
      go_enter Tryz.func21, Tryz.ntmps21
      go_wp2
      refine bodyPost_ret (v := .tuple #[.int .i64 0, .int .i64 0, .bool false]) (by simp [results, Tryz.results21, go_sem]) rfl ⟨RngRes.bad 0 0 HN.out, Fp.refl _ _⟩

end Go.Proofs.YtbimkgmhfcgpmaaGreatDoor

/- Plain facts: a hash as text; a manifest's lines. -/
namespace Silo
open Go.Lib

/-! ### A hash as text -/
def hexV (b : UInt8) : Option Nat :=
  if 48 ≤ b.toNat ∧ b.toNat ≤ 57 then some (b.toNat - 48) else if 97 ≤ b.toNat ∧ b.toNat ≤ 102 then some (b.toNat - 87) else none

def hexD (n : Nat) : UInt8 := if n < 10 then UInt8.ofNat (48 + n) else UInt8.ofNat (87 + n)

theorem hexV_lt {b : UInt8} {d : Nat} (h : hexV b = some d) : d < 16 := by
  unfold hexV at h
  split at h
  · cases h; omega
  · split at h
    · cases h; omega
    · cases h

theorem hexD_toNat {n : Nat} (h : n < 16) : (hexD n).toNat = if n < 10 then 48 + n else 87 + n := by
  unfold hexD
  split
  · rw [UInt8.toNat_ofNat']; omega
  · rw [UInt8.toNat_ofNat']; omega

theorem hexV_D {n : Nat} (h : n < 16) : hexV (hexD n) = some n := by
  unfold hexV
  rw [hexD_toNat h]
  split
  · rw [if_pos (by omega)]; congr 1; omega
  · rw [if_neg (by omega), if_pos (by omega)]; congr 1; omega

theorem hexD_V {b : UInt8} {d : Nat} (h : hexV b = some d) : hexD d = b := by
  apply UInt8.toNat.inj
  rw [hexD_toNat (hexV_lt h)]
  unfold hexV at h
  split at h
  · cases h
    rw [if_pos (by omega)]; omega
  · split at h
    · cases h
      rw [if_neg (by omega)]; omega
    · cases h

def hexFrom (acc : Nat) : List UInt8 → Option Nat
  | [] => some acc
  | b :: r => match hexV b with
    | some d => hexFrom (acc * 16 + d) r
    | none => none

/-- The last k digits of h. -/
def hexN : Nat → Nat → List UInt8
  | 0, _ => []
  | k + 1, h => hexN k (h / 16) ++ [hexD (h % 16)]

theorem hexN_length : ∀ (k h : Nat), (hexN k h).length = k
  | 0, _ => rfl
  | k + 1, h => by rw [hexN, List.length_append, hexN_length k]; rfl

theorem hexFrom_append : ∀ (l r : List UInt8) (acc : Nat), hexFrom acc (l ++ r) = match hexFrom acc l with
    | some v => hexFrom v r
    | none => none
  | [], r, acc => rfl
  | b :: l, r, acc => by
    simp only [List.cons_append, hexFrom]
    cases hexV b with
    | none => rfl
    | some d => exact hexFrom_append l r _

theorem hexFrom_N : ∀ (k h : Nat), h < 16 ^ k → hexFrom 0 (hexN k h) = some h
  | 0, h, hk => by simp at hk; rw [hk]; rfl
  | k + 1, h, hk => by
    rw [hexN, hexFrom_append, hexFrom_N k (h / 16) (by rw [Nat.pow_succ] at hk; omega)]
    simp only [hexFrom, hexV_D (Nat.mod_lt h (by decide))]
    congr 1
    omega

theorem hexN_of : ∀ (k : Nat) (s : List UInt8) (h : Nat), s.length = k → hexFrom 0 s = some h → s = hexN k h ∧ h < 16 ^ k := by
  intro k
  induction k with
  | zero =>
    intro s h hl hs
    obtain rfl := List.length_eq_zero_iff.1 hl
    cases hs
    exact ⟨rfl, by decide⟩
  | succ k ih =>
    intro s h hl hs
    have hne : s ≠ [] := by rintro rfl; cases hl
    obtain ⟨t, b, rfl⟩ : ∃ t b, s = t ++ [b] := ⟨s.dropLast, s.getLast hne, (List.dropLast_concat_getLast hne).symm⟩
    rw [hexFrom_append] at hs
    cases ht : hexFrom 0 t with
    | none => rw [ht] at hs; cases hs
    | some u =>
      rw [ht] at hs
      simp only [hexFrom] at hs
      cases hd : hexV b with
      | none => rw [hd] at hs; cases hs
      | some d =>
        rw [hd] at hs
        simp only [Option.some.injEq] at hs
        have hlt := hexV_lt hd
        obtain ⟨e1, e2⟩ := ih t u (by simpa using hl) ht
        have h1 : h / 16 = u := by omega
        have h2 : h % 16 = d := by omega
        refine ⟨?_, ?_⟩
        · rw [hexN, h1, h2, hexD_V hd, ← e1]
        · rw [Nat.pow_succ]; omega

def hexOf (s : List UInt8) : Option Nat := if s.length = 16 then hexFrom 0 s else none

theorem hexOf_iff (s : List UInt8) (h : Nat) : hexOf s = some h ↔ s = hexN 16 h ∧ h < 18446744073709551616 := by
  unfold hexOf
  constructor
  · intro e
    split at e
    · rename_i hl
      obtain ⟨h1, h2⟩ := hexN_of 16 s h hl e
      exact ⟨h1, h2⟩
    · cases e
  · rintro ⟨rfl, h2⟩
    rw [if_pos (hexN_length 16 h)]
    exact hexFrom_N 16 h h2

theorem hexN_no (c : UInt8) (hc : hexV c = none) : ∀ (k h : Nat), c ∉ hexN k h
  | 0, _ => by simp [hexN]
  | k + 1, h => by
    rw [hexN]
    intro hm
    rcases List.mem_append.1 hm with hm | hm
    · exact hexN_no c hc k _ hm
    · simp only [List.mem_singleton] at hm
      rw [hm, hexV_D (Nat.mod_lt h (by decide))] at hc
      cases hc

/-! ### A manifest's lines -/
structure Ln where
  lo : Nat
  hi : Nat
  size : Nat
  hash : Nat
  deriving DecidableEq

structure Ln.Ok (l : Ln) : Prop where
  le : l.lo ≤ l.hi
  hi : l.hi ≤ 999999
  size : l.size ≤ 999999999
  hash : l.hash < 18446744073709551616

/-- A line's text, without its end. -/
def Ln.text (l : Ln) : List UInt8 := nameOf l.lo l.hi ++ 32 :: (decDigits l.size ++ 32 :: hexN 16 l.hash)

def lineOf (row : List UInt8) : Option Ln :=
  match pcs 32 row with
  | [a, b, c] => match rangeOf a, numOf b 999999999, hexOf c with
    | some (lo, hi), some z, some h => some ⟨lo, hi, z, h⟩
    | _, _, _ => none
  | _ => none

theorem pcs_cons {c : UInt8} {r a : List UInt8} {t : List (List UInt8)} (h : pcs c r = a :: t) (ht : t ≠ []) : ∃ r', r = a ++ c :: r' ∧ c ∉ a ∧ pcs c r' = t := by
  by_cases hm : c ∈ r
  · obtain ⟨x, y, h1, h2⟩ := cut_at c r hm
    rw [h1, pcs_cut c x y h2, List.cons.injEq] at h
    obtain ⟨rfl, hy⟩ := h
    exact ⟨y, h1, h2, hy⟩
  · rw [pcs_none c r hm, List.cons.injEq] at h
    exact absurd h.2.symm ht

theorem nameOf_no (c : UInt8) (lo hi : Nat) (h1 : c ≠ 98) (h2 : c ≠ 46) (h3 : ¬ (48 ≤ c.toNat ∧ c.toNat ≤ 57)) : c ∉ nameOf lo hi := by
  unfold nameOf
  intro hm
  rcases List.mem_cons.1 hm with h | hm
  · exact h1 h
  · rcases List.mem_append.1 hm with h | hm
    · exact digit_ne lo c h3 h
    · rcases List.mem_cons.1 hm with h | h
      · exact h2 h
      · exact digit_ne hi c h3 h

theorem lineOf_iff (row : List UInt8) (l : Ln) : lineOf row = some l ↔ row = l.text ∧ l.Ok := by
  constructor
  · intro h
    unfold lineOf at h
    split at h
    · rename_i a b c hp
      split at h
      · rename_i lo hi z hh h1 h2 h3
        cases h
        obtain ⟨r1, e1, _, hp2⟩ := pcs_cons hp (by simp)
        obtain ⟨e2, _, _⟩ := pcs_two hp2
        obtain ⟨x1, x2, x3⟩ := (rangeOf_iff _ _ _).1 h1
        obtain ⟨y1, y2⟩ := numOf_some h2
        obtain ⟨z1, z2⟩ := (hexOf_iff _ _).1 h3
        exact ⟨by rw [e1, e2, Ln.text, x1, y1, z1], ⟨x2, x3, y2, z2⟩⟩
      · cases h
    · cases h
  · rintro ⟨rfl, ⟨h1, h2, h3, h4⟩⟩
    unfold lineOf Ln.text
    rw [pcs_cut 32 _ _ (nameOf_no 32 _ _ (by decide) (by decide) (by decide)), pcs_cut 32 _ _ (digit_ne _ 32 (by decide)), pcs_none 32 _ (hexN_no 32 (by decide) 16 _)]
    simp only
    rw [(rangeOf_iff _ l.lo l.hi).2 ⟨rfl, h1, h2⟩, numOf_dec l.size 999999999 h3 (by decide), (hexOf_iff _ l.hash).2 ⟨rfl, h4⟩]

def manRows : List (List UInt8) → Nat → Option (List Ln)
  | [], _ => some []
  | r :: rs, least => match lineOf r with
    | some l => if l.lo < least then none else match manRows rs (l.hi + 1) with
      | some ls => some (l :: ls)
      | none => none
    | none => none

/-- The lines of a manifest, if it is right. -/
def manOf (m : List UInt8) : Option (List Ln) :=
  match pcs 10 m with
  | [115, 105, 108, 111] :: rs => if rs ≠ [] ∧ rs.getLast? = some [] then manRows rs.dropLast 0 else none
  | _ => none

theorem manRows_ok : ∀ (rows : List (List UInt8)) (least : Nat) (ls : List Ln), manRows rows least = some ls → ∀ l ∈ ls, l.Ok
  | [], _, ls, h => by cases h; simp
  | r :: rs, least, ls, h => by
    rw [manRows] at h
    cases hl : lineOf r with
    | none => rw [hl] at h; cases h
    | some l =>
      rw [hl] at h
      simp only at h
      split at h
      · cases h
      · cases hm : manRows rs (l.hi + 1) with
        | none => rw [hm] at h; cases h
        | some ls' =>
          rw [hm] at h
          cases h
          intro x hx
          rcases List.mem_cons.1 hx with rfl | hx
          · exact ((lineOf_iff _ _).1 hl).2
          · exact manRows_ok rs _ ls' hm x hx

theorem manRows_none {r : List UInt8} (rs : List (List UInt8)) (least : Nat) (h : lineOf r = none) : manRows (r :: rs) least = none := by rw [manRows, h]

theorem manRows_low {r : List UInt8} {l : Ln} (rs : List (List UInt8)) {least : Nat} (h : lineOf r = some l) (hl : l.lo < least) : manRows (r :: rs) least = none := by
  rw [manRows, h]; simp only; rw [if_pos hl]

theorem manRows_step {r : List UInt8} {l : Ln} (rs : List (List UInt8)) {least : Nat} (h : lineOf r = some l) (hl : ¬ l.lo < least) : manRows (r :: rs) least = (manRows rs (l.hi + 1)).map (l :: ·) := by
  rw [manRows, h]; simp only; rw [if_neg hl]
  cases manRows rs (l.hi + 1) <;> rfl

end Silo
