/- siloref.Lines: the lines of a manifest. -/
import Derived.Test.YtbimkgmhfcgpmaaGreatDoorRowOne
import Derived.Test.YtbimkgmhfcgpmaaGreatDoorRefDOne
import Derived.BigQuiet
import Derived.Deep.CutRange
namespace Go.Proofs.YtbimkgmhfcgpmaaGreatDoor
open Go.RowKit

def lnC (l : Silo.Ln) : List Value := [.int .i64 (l.lo : Nat), .int .i64 (l.hi : Nat), .int .i64 (l.size : Nat), .int .u64 (l.hash : Nat), .string (S (l.text ++ [10]))]

def lnCells (ls : List Silo.Ln) : List Value := ls.flatMap lnC

theorem elemLn : ElemOk 41 46 5 48 := ElemOk.mk' (z := .agg #[.int .i64 0, .int .i64 0, .int .i64 0, .int .u64 0, .string ByteArray.empty]) Tryz.underlying41 (by kernel_rfl) rfl (by decide) (by decide)

/-- A slice of lines of the call's own. -/
def World.lnsAt (w : World) (base : Nat) (v : Value) (ls : List Silo.Ln) : Prop := w.ownsRow base 46 5 v ls.length (lnCells ls)

/-- What Lines answers. -/
def LinesRes (m : List UInt8) (base : Nat) (e : Ending) (w' : World) : Prop :=
  match Silo.manOf m with
  | some ls => ∃ v, e = .returned (.tuple #[v, .bool true]) ∧ World.lnsAt w' base v ls
  | none => e = .returned (.tuple #[.slice none 0 0, .bool false])

theorem LinesRes.bad {m : List UInt8} {base : Nat} {w' : World} (h : Silo.manOf m = none) : LinesRes m base (.returned (.tuple #[.slice none 0 0, .bool false])) w' := by
  unfold LinesRes; rw [h]

theorem LinesRes.ok {m : List UInt8} {base : Nat} {w' : World} {ls : List Silo.Ln} {v : Value} (h : Silo.manOf m = some ls) (hr : World.lnsAt w' base v ls) : LinesRes m base (.returned (.tuple #[v, .bool true])) w' := by
  unfold LinesRes; rw [h]; exact ⟨v, rfl, hr⟩

def silo4 : List UInt8 := [115, 105, 108, 111]

theorem manOf_head {m r0 : List UInt8} {rs : List (List UInt8)} (h : Silo.pcs 10 m = r0 :: rs) (h0 : r0 ≠ silo4) : Silo.manOf m = none := by
  unfold Silo.manOf
  rw [h]
  split
  · rename_i e
    rw [List.cons.injEq] at e
    exact absurd e.1 h0
  · rfl

theorem manOf_end {m : List UInt8} {rs : List (List UInt8)} (h : Silo.pcs 10 m = silo4 :: rs) : Silo.manOf m = if rs ≠ [] ∧ rs.getLast? = some [] then Silo.manRows rs.dropLast 0 else none := by
  unfold Silo.manOf
  rw [h]
  rfl

/-- Above which the next line must lie. -/
def leastOf (ls : List Silo.Ln) : Nat := match ls.getLast? with
  | some l => l.hi + 1
  | none => 0

theorem leastOf_snoc (ls : List Silo.Ln) (l : Silo.Ln) : leastOf (ls ++ [l]) = l.hi + 1 := by unfold leastOf; rw [List.getLast?_concat]

/-- Between two lines: what is read, what is left. -/
def LnInv (mid : List (List UInt8)) (i : Nat) (ls : List Silo.Ln) : Prop := Silo.manRows mid 0 = (Silo.manRows (mid.drop i) (leastOf ls)).map (ls ++ ·)

theorem LnInv.start (mid : List (List UInt8)) : LnInv mid 0 [] := by
  unfold LnInv
  show Silo.manRows mid 0 = _
  simp [leastOf]

theorem LnInv.done {mid : List (List UInt8)} {ls : List Silo.Ln} (h : LnInv mid mid.length ls) : Silo.manRows mid 0 = some ls := by
  unfold LnInv at h
  rw [List.drop_length] at h
  simpa [Silo.manRows] using h

theorem drop_row {mid : List (List UInt8)} {i : Nat} {r : List UInt8} (h : mid[i]? = some r) : mid.drop i = r :: mid.drop (i + 1) := by
  have hi : i < mid.length := by
    rcases Nat.lt_or_ge i mid.length with h' | h'
    · exact h'
    · rw [List.getElem?_eq_none h'] at h; cases h
  rw [List.drop_eq_getElem_cons hi]
  congr 1
  rw [List.getElem?_eq_getElem hi] at h
  exact Option.some.inj h

theorem LnInv.bad {mid : List (List UInt8)} {i : Nat} {ls : List Silo.Ln} {r : List UInt8} (h : LnInv mid i ls) (hr : mid[i]? = some r) (hl : Silo.lineOf r = none) : Silo.manRows mid 0 = none := by
  unfold LnInv at h
  rw [h, drop_row hr, Silo.manRows_none _ _ hl]
  rfl

theorem LnInv.low {mid : List (List UInt8)} {i : Nat} {ls : List Silo.Ln} {r : List UInt8} {l : Silo.Ln} (h : LnInv mid i ls) (hr : mid[i]? = some r) (hl : Silo.lineOf r = some l) (hlo : l.lo < leastOf ls) : Silo.manRows mid 0 = none := by
  unfold LnInv at h
  rw [h, drop_row hr, Silo.manRows_low _ hl hlo]
  rfl

theorem LnInv.step {mid : List (List UInt8)} {i : Nat} {ls : List Silo.Ln} {r : List UInt8} {l : Silo.Ln} (h : LnInv mid i ls) (hr : mid[i]? = some r) (hl : Silo.lineOf r = some l) (hlo : ¬ l.lo < leastOf ls) : LnInv mid (i + 1) (ls ++ [l]) := by
  unfold LnInv at h ⊢
  rw [h, drop_row hr, Silo.manRows_step _ hl hlo, leastOf_snoc]
  cases Silo.manRows (mid.drop (i + 1)) (l.hi + 1) <;> simp

theorem lineOf_count {r : List UInt8} (h : (Silo.pcs 32 r).length ≠ 3) : Silo.lineOf r = none := by
  unfold Silo.lineOf
  split
  · rename_i hp; rw [hp] at h; exact absurd rfl h
  · rfl

theorem lineOf_abc {r a b c : List UInt8} (h : Silo.pcs 32 r = [a, b, c]) : Silo.lineOf r = match Silo.rangeOf a, Silo.numOf b 999999999, Silo.hexOf c with
    | some (lo, hi), some z, some h => some ⟨lo, hi, z, h⟩
    | _, _, _ => none := by
  unfold Silo.lineOf; rw [h]; rfl

theorem lineOf_short {r a b c : List UInt8} (h : Silo.pcs 32 r = [a, b, c]) (hc : c.length ≠ 16) : Silo.lineOf r = none := by
  rw [lineOf_abc h]
  have : Silo.hexOf c = none := by unfold Silo.hexOf; rw [if_neg hc]
  rw [this]
  split
  · rename_i h3; cases h3
  · rfl

theorem lnCells_append (a b : List Silo.Ln) : lnCells (a ++ b) = lnCells a ++ lnCells b := by simp [lnCells]

theorem lnCells_length (ls : List Silo.Ln) : (lnCells ls).length = ls.length * 5 := by
  induction ls with
  | nil => rfl
  | cons x xs ih => simp [lnCells, lnC] at ih ⊢; omega

theorem lnsAt_last {w : World} {base g cap L : Nat} {ls : List Silo.Ln} {l : Silo.Ln} (h : w.ownsRow base 46 5 (.slice (some ⟨g, 0, none⟩) (L + 1) cap) (L + 1) (lnCells (ls ++ [l]))) (hL : ls.length = L) : w.cell? ⟨g, L * 5 + 1, none⟩ = some (.int .i64 (l.hi : Nat)) := by
  have hx : (lnCells (ls ++ [l]))[L * 5 + 1]? = some (.int .i64 (l.hi : Nat)) := by
    rw [lnCells_append, List.getElem?_append_right (by rw [lnCells_length, hL]; omega), lnCells_length, hL]
    have : L * 5 + 1 - L * 5 = 1 := by omega
    rw [this]
    rfl
  have h1 := World.ownsRow.cells h (g := g) rfl (L * 5 + 1) _ hx
  simp only [Addr.add] at h1
  rw [if_neg (by omega)] at h1
  simpa using h1

/-- What a line's parts say. -/
theorem line_parts {r pa pb pc : List UInt8} {lo hi z : Int} {x : Nat} (habc : Silo.pcs 32 r = [pa, pb, pc]) (hoc : ((Silo.rangeOf pa).isSome && (Silo.hexOf pc).isSome) = true) (hlh : ∀ l h, Silo.rangeOf pa = some (l, h) → lo = (l : Nat) ∧ hi = (h : Nat))
    (hz : numI (Silo.numOf pb 999999999) = z) (hx : ∀ y, Silo.hexOf pc = some y → x = y) :
    (z < 0 ∧ Silo.lineOf r = none) ∨ ∃ l : Silo.Ln, Silo.lineOf r = some l ∧ lo = (l.lo : Nat) ∧ hi = (l.hi : Nat) ∧ z = (l.size : Nat) ∧ x = l.hash := by
  rw [lineOf_abc habc]
  rw [Bool.and_eq_true] at hoc
  obtain ⟨⟨l, h⟩, hr⟩ := Option.isSome_iff_exists.1 hoc.1
  obtain ⟨y, hh⟩ := Option.isSome_iff_exists.1 hoc.2
  obtain ⟨e1, e2⟩ := hlh l h hr
  have e3 := hx y hh
  rw [hr, hh]
  cases hn : Silo.numOf pb 999999999 with
  | none =>
    rw [hn] at hz
    exact .inl ⟨by rw [← hz]; decide, rfl⟩
  | some v =>
    rw [hn] at hz
    exact .inr ⟨⟨l, h, v, y⟩, rfl, e1, e2, hz.symm, e3⟩

theorem hex_next {c : List UInt8} {k : Nat} {b : UInt8} (hc : c[k]? = some b) : Silo.hexFrom 0 (c.take (k + 1)) = match Silo.hexFrom 0 (c.take k) with
    | some y => match Silo.hexV b with
      | some d => some (y * 16 + d)
      | none => none
    | none => none := by
  rw [List.take_add_one, hc, Option.toList_some, Silo.hexFrom_append]
  cases Silo.hexFrom 0 (c.take k) with
  | none => rfl
  | some y =>
    simp only [Silo.hexFrom]
    cases Silo.hexV b <;> rfl

/-- What the search for a digit has found. -/
theorem hex_found {b : UInt8} {d : Nat} (h : (d < 16 ∧ Silo.hexD d = b) ∨ (d = 16 ∧ ∀ j, j < 16 → Silo.hexD j ≠ b)) : (d < 16 ∧ Silo.hexV b = some d) ∨ (d = 16 ∧ Silo.hexV b = none) := by
  rcases h with ⟨h1, h2⟩ | ⟨h1, h2⟩
  · exact .inl ⟨h1, by rw [← h2]; exact Silo.hexV_D h1⟩
  · refine .inr ⟨h1, ?_⟩
    cases hv : Silo.hexV b with
    | none => rfl
    | some e => exact absurd (Silo.hexD_V hv) (h2 e (Silo.hexV_lt hv))

/-- A round of the sum. -/
theorem hex_round {c : List UInt8} {k x d : Nat} {b : UInt8} (hk : k < 16) (hc : c[k]? = some b) (hd : (d < 16 ∧ Silo.hexD d = b) ∨ (d = 16 ∧ ∀ j, j < 16 → Silo.hexD j ≠ b)) (hx : ∀ y, Silo.hexFrom 0 (c.take k) = some y → x = y) (ok : Bool) :
    (ok && (Silo.hexFrom 0 (c.take k)).isSome && decide (d < 16)) = (ok && (Silo.hexFrom 0 (c.take (k + 1))).isSome) ∧ (∀ y, Silo.hexFrom 0 (c.take (k + 1)) = some y → (16 * x % 18446744073709551616 + d) % 18446744073709551616 = y) := by
  rw [hex_next hc]
  rcases hex_found hd with ⟨h1, h2⟩ | ⟨h1, h2⟩
  · cases hy : Silo.hexFrom 0 (c.take k) with
    | none => simp
    | some y =>
      have e := hx y hy
      have hlen : (c.take k).length = k := by
        have : k < c.length := by
          rcases Nat.lt_or_ge k c.length with h | h
          · exact h
          · rw [List.getElem?_eq_none h] at hc; cases hc
        simp; omega
      have hlt := (Silo.hexN_of k _ y hlen hy).2
      have hp : (16 : Nat) ^ k ≤ 16 ^ 15 := Nat.pow_le_pow_right (by decide) (by omega)
      refine ⟨by simp [h1, h2], ?_⟩
      intro y' hy'
      rw [h2] at hy'
      simp only [Option.some.injEq] at hy'
      subst e
      omega
  · refine ⟨by cases Silo.hexFrom 0 (c.take k) <;> simp [h1, h2], ?_⟩
    intro y' hy'
    rw [h2] at hy'
    cases hh : Silo.hexFrom 0 (c.take k) <;> rw [hh] at hy' <;> cases hy'

theorem hexD_at : ∀ d : Fin 16, (⟨#[48, 49, 50, 51, 52, 53, 54, 55, 56, 57, 97, 98, 99, 100, 101, 102]⟩ : ByteArray)[d.val]'(by exact d.isLt) = Silo.hexD d.val := by decide

theorem pcs_piece_len (c : UInt8) : ∀ (s p : List UInt8), p ∈ Silo.pcs c s → p.length ≤ s.length := by
  intro s
  induction s with
  | nil => intro p h; simp [Silo.pcs] at h; rw [h]; exact Nat.le_refl _
  | cons b r ih =>
    intro p h
    rw [Silo.pcs] at h
    split at h
    · rcases List.mem_cons.1 h with rfl | h
      · exact Nat.zero_le _
      · exact Nat.le_trans (ih p h) (by simp)
    · split at h
      · rename_i q qs hq
        rw [hq] at ih
        rcases List.mem_cons.1 h with rfl | h
        · have := ih q List.mem_cons_self
          simp; omega
        · exact Nat.le_trans (ih p (List.mem_cons_of_mem _ h)) (by simp)
      · simp at h; rw [h]; simp

set_option maxHeartbeats 2000000 in
set_option maxRecDepth 100000 in
theorem RefLines_any (m : List UInt8) (w : World) (hl : m.length ≤ 1099511627775) :
    Calls Tryz.prog 10 #[.string (S m)] w fun e w' => LinesRes m w.heap.size e w' ∧ Fp (fun _ => False) w w' := by
  go_enter Tryz.func10, Tryz.ntmps10
  go_wp2_with fail
  refine (Refpieces_any m 10 w hl).mono ?_
  rintro e w1 ⟨v, rfl, H1⟩
  obtain ⟨av, cv, rfl⟩ := strsAt_form H1.out.1
  obtain ⟨r0, rs, hR⟩ := List.exists_cons_of_ne_nil (Silo.pcs_ne 10 m)
  have hrow := H1.out.1
  have HF1 : Hid _ := H1.out.2
  clear H1
  have hlen : (Silo.pcs 10 m).length = rs.length + 1 := by rw [hR]; rfl
  have hrl : rs.length ≤ 1099511627775 := by have := pcs_length_le 10 m; omega
  rw [hlen] at hrow ⊢
  have HR : Hid _ := hR
  rw [hR] at hrow
  clear hR hlen
  obtain ⟨g, hg⟩ : ∃ g, av = some ⟨g, 0, none⟩ := by
    rcases hrow.2 with ⟨h1, h2⟩ | ⟨g, cap, cur, h3, _⟩
    · cases h2
    · cases h3; exact ⟨g, rfl⟩
  subst hg
  have k0 : w1.cell? ⟨g, 0, none⟩ = some (.string (S r0)) := strsAt_cell hrow 0 (by simp)
  have HRow : Hid _ := hrow
  clear hrow
  obtain ⟨N, hN⟩ : ∃ N, rs.length = N := ⟨_, rfl⟩
  rw [hN] at HRow hrl ⊢
  have HNn : Hid _ := hN
  clear hN
  have fN : wrap64 (N : Int) = N := by unfold wrap64; omega
  by_cases hN0 : N = 0
  · have HN : Hid (Silo.manOf m = none) := by
      show _ = _
      have hnil : rs = [] := List.length_eq_zero_iff.1 (HNn.out.trans hN0)
      by_cases h0 : r0 = silo4
      · rw [manOf_end (by rw [HR.out, h0]), if_neg (by simp [hnil])]
      · exact manOf_head HR.out h0
    have q : decide ((N : Int) < 1) = true := decide_eq_true (by omega)
    go_wp2
    refine bodyPost_ret (v := .tuple #[.slice none 0 0, .bool false]) (by simp [results, Tryz.results10, go_sem]) rfl ⟨LinesRes.bad HN.out, HF1.out⟩
  · have q : decide ((N : Int) < 1) = false := decide_eq_false (by omega)
    by_cases h0 : r0 = silo4
    · have q0 : ((S r0).toList == [115, 105, 108, 111]) = true := by rw [h0, bytes_toList, S_toList]; rfl
      have H0 : Hid _ := h0
      clear h0
      have hne : rs ≠ [] := fun e => hN0 (by rw [← HNn.out, e]; rfl)
      obtain ⟨rl, hrl'⟩ : ∃ rl, rs.getLast hne = rl := ⟨_, rfl⟩
      have kN : w1.cell? ⟨g, N, none⟩ = some (.string (S rl)) := by
        have h1 := HNn.out
        have h2 := strsAt_cell (xs := r0 :: rs) (by rw [List.length_cons, h1]; exact HRow.out) N (by simp; omega)
        rw [h2]
        congr 3
        rw [← hrl', List.getLast_eq_getElem]
        rw [List.getElem_cons]
        rw [dif_neg hN0]
        congr 1
        omega
      have HRL : Hid (rs.getLast? = some rl) := by show _ = _; rw [List.getLast?_eq_some_getLast hne, hrl']
      clear hrl'
      by_cases hl0 : rl = []
      · have q1 : ((S rl).toList == []) = true := by rw [hl0, bytes_toList, S_toList]; rfl
        have q1' : (S rl).toList.isEmpty = true := by rw [hl0, bytes_toList, S_toList]; rfl
        have HL0 : Hid _ := hl0
        clear hl0
        have HMO : Hid (Silo.manOf m = Silo.manRows rs.dropLast 0) := by
          show _ = _
          rw [manOf_end (by rw [HR.out, H0.out]), if_pos ⟨hne, by rw [HRL.out, HL0.out]⟩]
        have HML : Hid (rs.dropLast.length + 1 = N) := by
          have := HNn.out
          show _ = _
          rw [List.length_dropLast]
          omega
        have HMid : Hid (∀ j r, rs.dropLast[j]? = some r → (r0 :: rs)[j + 1]? = some r) := fun j r hj => by
          rw [List.getElem?_cons_succ]
          rw [List.getElem?_dropLast] at hj
          split at hj
          · exact hj
          · cases hj
        obtain ⟨mid, hmid⟩ : ∃ mid, rs.dropLast = mid := ⟨_, rfl⟩
        rw [hmid] at HMO HML HMid
        clear hmid HL0 HRL hne
        go_wp2_with fail
        clear q1 q1' q0 k0 kN
        go_loopw [6, 7] (fun ov iv wr => ∃ (j : Nat) (ls : List Silo.Ln) (a : Option Addr) (cp : Nat), j + 1 ≤ N ∧ iv = .int .i64 ((j + 1 : Nat) : Int) ∧ ov = .slice a ls.length cp ∧ ls.length ≤ j ∧ Hid (LnInv mid j ls ∧ World.lnsAt wr w.heap.size (.slice a ls.length cp) ls ∧ World.strsAt wr w.heap.size (.slice (some ⟨g, 0, none⟩) (N + 1) cv) (r0 :: rs) ∧ Fp (fun _ => False) w wr)) (fun _ iv _ => N - (intOf iv).toNat)
        case atStart => exact ⟨0, [], none, 0, by omega, by simp, rfl, by simp, LnInv.start mid, ⟨rfl, .inl ⟨rfl, rfl⟩⟩, HRow.out, HF1.out⟩
        case round =>
          obtain ⟨j, ls, a, cp, hj, rfl, rfl, hlj, HI⟩ := hrel
          by_cases hlast : j + 1 = N
          · have qi : decide ((((j + 1 : Nat) : Int)) < (N : Int)) = false := decide_eq_false (by omega)
            have HE : Hid (Silo.manOf m = some ls) := by
              show _ = _
              rw [HMO.out]
              have h1 := HML.out
              have h2 : j = mid.length := by omega
              exact LnInv.done (by rw [← h2]; exact HI.out.1)
            go_wp2
            exact bodyPost_ret (v := .tuple #[.slice a ls.length cp, .bool true]) (by simp [results, Tryz.results10, go_sem]) rfl ⟨LinesRes.ok HE.out HI.out.2.1, HI.out.2.2.2⟩
          · have qi : decide ((((j + 1 : Nat) : Int)) < (N : Int)) = true := decide_eq_true (by omega)
            obtain ⟨r, hr⟩ : ∃ r, mid[j]? = some r := by
              have h1 := HML.out
              exact ⟨mid[j]'(by omega), List.getElem?_eq_getElem (by omega)⟩
            have hr2 := HMid.out j r hr
            have kI : wr.cell? ⟨g, j + 1, none⟩ = some (.string (S r)) := by
              have h1 := HNn.out
              have hlt : j + 1 < (r0 :: rs).length := by simp; omega
              have h2 := strsAt_cell (xs := r0 :: rs) (by rw [List.length_cons, h1]; exact HI.out.2.2.1) (j + 1) hlt
              rw [h2]
              rw [List.getElem?_eq_getElem hlt] at hr2
              rw [Option.some.inj hr2]
            have hrlen : r.length ≤ 1099511627775 := by
              have h1 : r ∈ Silo.pcs 10 m := by rw [HR.out]; exact List.mem_of_getElem? hr2
              exact Nat.le_trans (pcs_piece_len 10 m r h1) hl
            have HRr : Hid _ := hr
            clear hr hr2
            go_wp2_with fail
            refine (Refpieces_any r 32 wr hrlen).mono ?_
            rintro e w2 ⟨pv, rfl, H2⟩
            obtain ⟨ap, cpp, rfl⟩ := strsAt_form H2.out.1
            clear kI
            by_cases h3 : (Silo.pcs 32 r).length = 3
            · obtain ⟨pa, pb, pc, habc⟩ : ∃ x y z, Silo.pcs 32 r = [x, y, z] := by
                match hq : Silo.pcs 32 r, h3 with
                | [x, y, z], _ => exact ⟨x, y, z, rfl⟩
              have hpl : pa.length ≤ r.length ∧ pb.length ≤ r.length ∧ pc.length ≤ r.length :=
                ⟨pcs_piece_len 32 r pa (by rw [habc]; simp), pcs_piece_len 32 r pb (by rw [habc]; simp), pcs_piece_len 32 r pc (by rw [habc]; simp)⟩
              have hrowp := H2.out.1
              have HF2 : Hid _ := H2.out.2
              rw [habc] at hrowp ⊢
              have HABC : Hid _ := habc
              clear H2 habc h3
              obtain ⟨gp, hgp⟩ : ∃ gp, ap = some ⟨gp, 0, none⟩ := by
                rcases hrowp.2 with ⟨h1, h2⟩ | ⟨g', cap, cur, h3, _⟩
                · cases h2
                · cases h3; exact ⟨g', rfl⟩
              subst hgp
              have p0 : w2.cell? ⟨gp, 0, none⟩ = some (.string (S pa)) := strsAt_cell hrowp 0 (by simp)
              have p1 : w2.cell? ⟨gp, 1, none⟩ = some (.string (S pb)) := strsAt_cell hrowp 1 (by simp)
              have p2 : w2.cell? ⟨gp, 2, none⟩ = some (.string (S pc)) := strsAt_cell hrowp 2 (by simp)
              have hgplt : gp < w2.heap.size := (World.ownsRow.lt hrowp gp rfl).2
              have hsc : (S pc).size = pc.length := rfl
              clear hrowp
              by_cases h16 : pc.length = 16
              · have q16 : ((pc.length : Int) != 16) = false := by rw [h16]; rfl
                go_wp2_with fail
                refine (RefRange_any pa w2 (by omega)).mono ?_
                rintro e w3 ⟨⟨lo, hi, rfl, hlohi⟩, h3⟩
                have p1' : w3.cell? ⟨gp, 1, none⟩ = some (.string (S pb)) := (h3.cell (p := ⟨gp, 1, none⟩) hgplt (fun h => h)).trans p1
                have p2' : w3.cell? ⟨gp, 2, none⟩ = some (.string (S pc)) := (h3.cell (p := ⟨gp, 2, none⟩) hgplt (fun h => h)).trans p2
                have HLH : Hid _ := hlohi
                have HF3 : Hid _ := h3
                obtain ⟨okr, hokr⟩ : ∃ b, (Silo.rangeOf pa).isSome = b := ⟨_, rfl⟩
                rw [hokr]
                have HOK : Hid _ := hokr
                clear h3 hlohi p0 p1 p2 hokr
                go_wp2_with fail
                refine (RefNumber_any pb 999999999 w3 (by decide) (by omega)).mono ?_
                rintro e w3' ⟨rfl, rfl⟩
                rw [numV_eq]
                clear p1'
                obtain ⟨z, hz⟩ : ∃ z, numI (Silo.numOf pb 999999999) = z := ⟨_, rfl⟩
                rw [hz]
                have HZ : Hid _ := hz
                clear hz
                go_wp2_with fail
                obtain ⟨wz, hwz⟩ : ∃ wz, wz = wr := ⟨_, rfl⟩
                subst hwz
                go_loopw [11, 13, 14] (fun okv hv kv wk => ∃ k x : Nat, k ≤ 16 ∧ kv = .int .i64 k ∧ hv = .int .u64 x ∧ x < 18446744073709551616 ∧ okv = .bool (okr && (Silo.hexFrom 0 (pc.take k)).isSome) ∧ Hid ((∀ y, Silo.hexFrom 0 (pc.take k) = some y → x = y) ∧ Fp (fun _ => False) w3' wk)) (fun _ _ kv _ => 16 - (intOf kv).toNat)
                case atStart => exact ⟨0, 0, by omega, rfl, rfl, by omega, by simp [Silo.hexFrom], fun y hy => by simp [Silo.hexFrom] at hy; exact hy, Fp.refl _ _⟩
                case round =>
                  obtain ⟨k, x, hk, rfl, rfl, hx, hok, HK⟩ := hrel
                  obtain ⟨oc, hoc⟩ : ∃ oc, (okr && (Silo.hexFrom 0 (pc.take k)).isSome) = oc := ⟨_, rfl⟩
                  rw [hoc] at hok
                  subst hok
                  have HOC : Hid _ := hoc
                  clear hoc
                  by_cases hk16 : k < 16
                  · obtain ⟨b, hb⟩ : ∃ b, pc[k]? = some b := ⟨pc[k]'(by omega), List.getElem?_eq_getElem (by omega)⟩
                    have hpk : k < (S pc).size := by rw [hsc]; omega
                    have hbk : (S pc)[k]'hpk = b := by
                      have := List.getElem?_eq_getElem (l := pc) (i := k) (by omega)
                      rw [hb] at this
                      exact (Option.some.inj this).symm
                    have HB : Hid _ := hb
                    have qk : decide ((k : Int) < 16) = true := decide_eq_true (by omega)
                    obtain ⟨wk, hwk⟩ : ∃ wk, wk = wr := ⟨_, rfl⟩
                    subst hwk
                    have hg3 : gp < w3'.heap.size := Nat.lt_of_lt_of_le hgplt HF3.out.size
                    clear hb
                    have go : Hid (∀ (d : Nat), (d < 16 ∧ Silo.hexD d = b) ∨ (d = 16 ∧ ∀ j, j < 16 → Silo.hexD j ≠ b) → _) := fun d hd => hex_round hk16 HB.out hd HK.out.1 okr
                    go_wp2_with fail
                    go_loopw [15] (fun dv wd => ∃ d : Nat, d ≤ 16 ∧ dv = .int .i64 d ∧ Hid ((∀ j, j < d → Silo.hexD j ≠ b) ∧ Fp (fun _ => False) w3' wd)) (fun dv _ => 16 - (intOf dv).toNat)
                    case atStart => exact ⟨0, by omega, rfl, by simp, HK.out.2⟩
                    case round =>
                      obtain ⟨d, hd, rfl, HD⟩ := hrel
                      have kc : wr.cell? ⟨gp, 2, none⟩ = some (.string (S pc)) := (HD.out.2.cell (p := ⟨gp, 2, none⟩) hg3 (fun h => h)).trans p2'
                      obtain ⟨x1, hx1⟩ : ∃ x1 : Nat, x1 = 16 * x % 18446744073709551616 := ⟨_, rfl⟩
                      obtain ⟨x2, hx2⟩ : ∃ x2 : Nat, x2 = (x1 + d) % 18446744073709551616 := ⟨_, rfl⟩
                      have f1 : IntKind.u64.wrap (16 * (x : Int)) = (x1 : Int) := by rw [IntKind.wrap_u64]; omega
                      have f2 : IntKind.u64.wrap ((x1 : Int) + (d : Int)) = (x2 : Int) := by rw [IntKind.wrap_u64]; omega
                      have f3 : IntKind.u64.wrap (d : Int) = (d : Int) := by rw [IntKind.wrap_u64]; omega
                      have HX : Hid (x2 = (16 * x % 18446744073709551616 + d) % 18446744073709551616) := by show _ = _; rw [hx2, hx1]
                      have hx2lt : x2 < 18446744073709551616 := by omega
                      clear hx1 hx2
                      by_cases hd16 : d < 16
                      · have qd : decide ((d : Int) < 16) = true := decide_eq_true (by omega)
                        have hfd : d < (⟨#[48, 49, 50, 51, 52, 53, 54, 55, 56, 57, 97, 98, 99, 100, 101, 102]⟩ : ByteArray).size := hd16
                        obtain ⟨fb, hfb⟩ : ∃ fb, (⟨#[48, 49, 50, 51, 52, 53, 54, 55, 56, 57, 97, 98, 99, 100, 101, 102]⟩ : ByteArray)[d]'hfd = fb := ⟨_, rfl⟩
                        have HFB : Hid (fb = Silo.hexD d) := by show _ = _; rw [← hfb]; exact hexD_at ⟨d, hd16⟩
                        by_cases hfe : fb = b
                        · have qe : ((fb.toNat : Int) != (b.toNat : Int)) = false := by rw [hfe]; exact bne_self_eq_false _
                          have HG : Hid _ := go.out d (.inl ⟨hd16, by rw [← HFB.out]; exact hfe⟩)
                          clear hfe
                          cases oc
                          all_goals
                            go_wp2_with fail
                            go_quiet (fail)
                            go_wp2
                            go_roundw
                            case rel => exact ⟨k + 1, x2, by omega, by go_num, rfl, hx2lt, by rw [← HG.out.1, HOC.out]; simp [hd16], fun y hy => by rw [HX.out]; exact HG.out.2 y hy, HD.out.2.trans' (Fp.drewN _ _ _)⟩
                            case measure => simp [intOf]; omega
                        · have qe : ((fb.toNat : Int) != (b.toNat : Int)) = true := bne_iff_ne.2 (fun h => hfe (UInt8.toNat.inj (by omega)))
                          go_wp2_with fail
                          go_quiet (fail)
                          go_wp2
                          go_roundw
                          case rel =>
                            refine ⟨d + 1, by omega, by go_num, fun j hj => ?_, HD.out.2.trans' (Fp.drewN _ _ _)⟩
                            rcases Nat.lt_or_ge j d with h | h
                            · exact HD.out.1 j h
                            · obtain rfl : j = d := by omega
                              rw [← HFB.out]; exact hfe
                          case measure => simp [intOf]; omega
                      · have qd : decide ((d : Int) < 16) = false := decide_eq_false (by omega)
                        obtain rfl : d = 16 := by omega
                        have HG : Hid _ := go.out 16 (.inr ⟨rfl, HD.out.1⟩)
                        cases oc
                        all_goals
                          go_wp2_with fail
                          go_quiet (fail)
                          go_wp2
                          go_roundw
                          case rel => exact ⟨k + 1, x2, by omega, by go_num, by rw [← f2]; rfl, hx2lt, by rw [← HG.out.1, HOC.out]; simp, fun y hy => by rw [HX.out]; exact HG.out.2 y hy, HD.out.2.trans' (Fp.drewN _ _ _)⟩
                          case measure => simp [intOf]; omega
                  · obtain rfl : k = 16 := by omega
                    have qk : decide (((16 : Nat) : Int) < 16) = false := by decide
                    have htk : pc.take 16 = pc := List.take_of_length_le (by omega)
                    have hhx : Silo.hexOf pc = Silo.hexFrom 0 pc := by unfold Silo.hexOf; rw [if_pos h16]
                    have HHX : Hid _ := And.intro htk hhx
                    clear htk hhx
                    obtain ⟨wk, hwk⟩ : ∃ wk, wk = wr := ⟨_, rfl⟩
                    subst hwk
                    have HLR : Hid (Fp (fun _ => False) wz wk) := (HF2.out.trans' HF3.out).trans' HK.out.2
                    clear p2'
                    cases oc with
                    | false =>
                      have HN : Hid (Silo.manOf m = none) := by
                        show _ = _
                        rw [HMO.out]
                        refine HI.out.1.bad HRr.out ?_
                        rw [lineOf_abc HABC.out]
                        have h1 := HOC.out
                        rw [← HOK.out, HHX.out.1, ← HHX.out.2] at h1
                        cases hr : Silo.rangeOf pa with
                        | none => rfl
                        | some q =>
                          cases hh : Silo.hexOf pc with
                          | none =>
                            cases Silo.numOf pb 999999999 <;> rfl
                          | some y => rw [hr, hh] at h1; cases h1
                      go_wp2
                      exact bodyPost_ret (v := .tuple #[.slice none 0 0, .bool false]) (by simp [results, Tryz.results10, go_sem]) rfl ⟨LinesRes.bad HN.out, HI.out.2.2.2.trans' HLR.out⟩
                    | true =>
                      have hparts := line_parts (x := x) HABC.out (by have h1 := HOC.out; rwa [← HOK.out, HHX.out.1, ← HHX.out.2] at h1) HLH.out HZ.out (by have h1 := HK.out.1; rwa [HHX.out.1, ← HHX.out.2] at h1)
                      rcases hparts with ⟨hz0, hnone⟩ | ⟨l, hline, rfl, rfl, rfl, rfl⟩
                      · have HN : Hid (Silo.manOf m = none) := by show _ = _; rw [HMO.out]; exact HI.out.1.bad HRr.out hnone
                        have qz : decide (z < 0) = true := decide_eq_true hz0
                        clear hnone hz0
                        go_wp2
                        exact bodyPost_ret (v := .tuple #[.slice none 0 0, .bool false]) (by simp [results, Tryz.results10, go_sem]) rfl ⟨LinesRes.bad HN.out, HI.out.2.2.2.trans' HLR.out⟩
                      · have qz : decide (((l.size : Nat) : Int) < 0) = false := decide_eq_false (by omega)
                        have hlok := ((Silo.lineOf_iff _ _).1 hline).2
                        have htext := ((Silo.lineOf_iff _ _).1 hline).1
                        have HLN : Hid _ := And.intro hline (And.intro hlok htext)
                        have hO1 : World.lnsAt wk w.heap.size (.slice a ls.length cp) ls := Fp.ownsRow HLR.out HI.out.2.1 (fun _ _ h => h)
                        have hO2 : World.strsAt wk w.heap.size (.slice (some ⟨g, 0, none⟩) (N + 1) cv) (r0 :: rs) := Fp.ownsRow HLR.out HI.out.2.2.1 (fun _ _ h => h)
                        have hO3 : Fp (fun _ => False) w wk := HI.out.2.2.2.trans' HLR.out
                        have kI : wk.cell? ⟨g, j + 1, none⟩ = some (.string (S r)) := by
                          have h1 := HNn.out
                          have hlt : j + 1 < (r0 :: rs).length := by simp; omega
                          have h2 := strsAt_cell (xs := r0 :: rs) (by rw [List.length_cons, h1]; exact hO2) (j + 1) hlt
                          have hr2 := HMid.out j r HRr.out
                          rw [h2]
                          rw [List.getElem?_eq_getElem hlt] at hr2
                          rw [Option.some.inj hr2]
                        have hcat10 : S r ++ (⟨#[10]⟩ : ByteArray) = S (l.text ++ [10]) := by rw [htext]; exact S_append _ _
                        have hrs : (S r).size = r.length := rfl
                        clear hline hlok htext
                        rcases List.eq_nil_or_concat ls with hnil | ⟨ls', l0, hcat⟩
                        · subst hnil
                          have HLL : Hid (([] : List Silo.Ln).length = 0) := rfl
                          have HLow : Hid (¬ l.lo < leastOf []) := by show ¬ _; simp [leastOf]
                          have HO : Hid _ := And.intro hO1 (And.intro hO2 hO3)
                          clear hO1 hO2 hO3
                          go_wp2_with (at_builtin; refine wpList_append_row elemLn rfl _ _ rfl w.heap.size (.slice a 0 cp) 0 (lnCells ([] : List Silo.Ln)) (lnC l) rfl ?c1 ⟨wk.heap.size, 0, none⟩ rfl rfl ?c5 ?c2 ?c3 ?c4 ?_; rotate_left 5; intro g4 cap4 w4 H4)
                          case c1 => exact World.ownsRow.alloc HO.out.1 _
                          case c5 => intro u hu; simp [lnC] at hu; rcases hu with rfl | rfl | rfl | rfl | rfl <;> rfl
                          case c2 => exact row_new wk (lnC l) _ _
                          case c3 => omega
                          case c4 => have := HO.out.2.2.size; simp; omega
                          go_roundw
                          case rel =>
                            refine ⟨j + 1, ([] : List Silo.Ln) ++ [l], some ⟨g4, 0, none⟩, cap4, by omega, by go_num, by simp [HLL.out], by first | (simp [HLL.out]; done) | (simp [HLL.out]; omega), HI.out.1.step HRr.out HLN.out.1 HLow.out, ?_, ?_, ?_⟩
                            · have := H4.out.row
                              show _root_.Go.World.ownsRow _ _ _ _ _ _ _
                              rw [lnCells_append, List.length_append, HLL.out]
                              simpa [lnCells] using this
                            · exact Fp.ownsRow (H4.out.foot) (World.ownsRow.alloc HO.out.2.1 _) (fun k hk e => rows_apart HO.out.1 HO.out.2.1 (by decide) k e hk)
                            · exact (HO.out.2.2.trans' (Fp.alloc _ _ _)).trans H4.out.foot (fun _ h => h) (fun k hk e => by
                                have := (World.ownsRow.lt HO.out.1 k e).1
                                omega)
                          case measure => simp [intOf]; omega
                        · obtain ⟨L, hL⟩ : ∃ L, ls'.length = L := ⟨_, rfl⟩
                          rw [List.concat_eq_append] at hcat
                          have hLL : ls.length = L + 1 := by rw [hcat, List.length_append, hL]; rfl
                          replace hO1 : wk.ownsRow w.heap.size 46 5 (.slice a (L + 1) cp) (L + 1) (lnCells ls) := by
                            have h := hO1
                            unfold World.lnsAt at h
                            rw [hLL] at h
                            exact h
                          rw [hLL] at hlj ⊢
                          obtain ⟨ga, hga⟩ : ∃ ga, a = some ⟨ga, 0, none⟩ := by
                            rcases hO1.2 with ⟨h1, h2⟩ | ⟨g', cap, cur, h3, _⟩
                            · cases h2
                            · cases h3; exact ⟨g', rfl⟩
                          subst hga
                          have kh : wk.cell? ⟨ga, L * 5 + 1, none⟩ = some (.int .i64 (l0.hi : Nat)) := lnsAt_last (by rw [← hcat]; exact hO1) hL
                          have HLst : Hid (leastOf ls = l0.hi + 1) := by show _ = _; rw [hcat]; exact leastOf_snoc _ _
                          have HLL : Hid _ := hLL
                          have HO : Hid _ := And.intro hO1 (And.intro hO2 hO3)
                          clear hO1 hO2 hO3 hcat hLL
                          by_cases hlow : l.lo ≤ l0.hi
                          · have ql : decide (((l.lo : Nat) : Int) ≤ ((l0.hi : Nat) : Int)) = true := decide_eq_true (by omega)
                            have HN : Hid (Silo.manOf m = none) := by show _ = _; rw [HMO.out]; exact HI.out.1.low HRr.out HLN.out.1 (by rw [HLst.out]; omega)
                            go_wp2
                            exact bodyPost_ret (v := .tuple #[.slice none 0 0, .bool false]) (by simp [results, Tryz.results10, go_sem]) rfl ⟨LinesRes.bad HN.out, HO.out.2.2⟩
                          · have ql : decide (((l.lo : Nat) : Int) ≤ ((l0.hi : Nat) : Int)) = false := decide_eq_false (by omega)
                            have HLow : Hid (¬ l.lo < leastOf ls) := by show ¬ _; rw [HLst.out]; omega
                            go_wp2_with (at_builtin; refine wpList_append_row elemLn rfl _ _ rfl w.heap.size (.slice (some ⟨ga, 0, none⟩) (L + 1) cp) (L + 1) (lnCells ls) (lnC l) rfl ?c1 ⟨wk.heap.size, 0, none⟩ rfl rfl ?c5 ?c2 ?c3 ?c4 ?_; rotate_left 5; intro g4 cap4 w4 H4)
                            case c1 => exact World.ownsRow.alloc HO.out.1 _
                            case c5 => intro u hu; simp [lnC] at hu; rcases hu with rfl | rfl | rfl | rfl | rfl <;> rfl
                            case c2 => exact row_new wk (lnC l) _ _
                            case c3 => omega
                            case c4 => have := HO.out.2.2.size; simp; omega
                            go_roundw
                            case rel =>
                              refine ⟨j + 1, ls ++ [l], some ⟨g4, 0, none⟩, cap4, by omega, by go_num, by simp [HLL.out], by first | (simp [HLL.out]; done) | (simp [HLL.out]; omega), HI.out.1.step HRr.out HLN.out.1 HLow.out, ?_, ?_, ?_⟩
                              · have := H4.out.row
                                show _root_.Go.World.ownsRow _ _ _ _ _ _ _
                                rw [lnCells_append, List.length_append, HLL.out]
                                simpa [lnCells] using this
                              · exact Fp.ownsRow (H4.out.foot) (World.ownsRow.alloc HO.out.2.1 _) (fun k hk e => rows_apart HO.out.1 HO.out.2.1 (by decide) k e hk)
                              · exact (HO.out.2.2.trans' (Fp.alloc _ _ _)).trans H4.out.foot (fun _ h => h) (fun k hk e => by
                                  have := (World.ownsRow.lt HO.out.1 k e).1
                                  omega)
                            case measure => simp [intOf]; omega
              · have HN : Hid (Silo.manOf m = none) := by show _ = _; rw [HMO.out]; exact HI.out.1.bad HRr.out (lineOf_short HABC.out h16)
                have q16 : ((pc.length : Int) != 16) = true := bne_iff_ne.2 (by omega)
                go_wp2
                exact bodyPost_ret (v := .tuple #[.slice none 0 0, .bool false]) (by simp [results, Tryz.results10, go_sem]) rfl ⟨LinesRes.bad HN.out, HI.out.2.2.2.trans' HF2.out⟩
            · have HN : Hid (Silo.manOf m = none) := by show _ = _; rw [HMO.out]; exact HI.out.1.bad HRr.out (lineOf_count h3)
              have q3 : (((Silo.pcs 32 r).length : Int) != 3) = true := bne_iff_ne.2 (by omega)
              go_wp2
              exact bodyPost_ret (v := .tuple #[.slice none 0 0, .bool false]) (by simp [results, Tryz.results10, go_sem]) rfl ⟨LinesRes.bad HN.out, HI.out.2.2.2.trans' H2.out.2⟩
      · have q1 : ((S rl).toList == []) = false := by
          rw [beq_eq_false_iff_ne]
          intro e
          exact hl0 (by simpa [bytes_toList, S_toList] using e)
        have q1' : (S rl).toList.isEmpty = false := by
          rw [bytes_toList, S_toList]
          cases rl with
          | nil => exact absurd rfl hl0
          | cons b r => rfl
        have HN : Hid (Silo.manOf m = none) := by
          show _ = _
          rw [manOf_end (by rw [HR.out, H0.out]), if_neg]
          rintro ⟨_, h⟩
          rw [HRL.out] at h
          exact hl0 (Option.some.inj h)
        go_wp2
        refine bodyPost_ret (v := .tuple #[.slice none 0 0, .bool false]) (by simp [results, Tryz.results10, go_sem]) rfl ⟨LinesRes.bad HN.out, HF1.out⟩
    · have q0 : ((S r0).toList == [115, 105, 108, 111]) = false := by
        rw [beq_eq_false_iff_ne]
        intro e
        exact h0 (by simpa [bytes_toList, S_toList, silo4] using e)
      have HN : Hid _ := manOf_head HR.out h0
      go_wp2
      refine bodyPost_ret (v := .tuple #[.slice none 0 0, .bool false]) (by simp [results, Tryz.results10, go_sem]) rfl ⟨LinesRes.bad HN.out, HF1.out⟩

end Go.Proofs.YtbimkgmhfcgpmaaGreatDoor
