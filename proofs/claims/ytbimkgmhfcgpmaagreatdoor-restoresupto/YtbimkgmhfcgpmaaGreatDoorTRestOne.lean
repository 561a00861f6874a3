/- RefArc, TRest, OpenStr, in one text. -/
import Derived.Test.YtbimkgmhfcgpmaaGreatDoorRefRest
import Derived.Test.YtbimkgmhfcgpmaaGreatDoorTKeepOne
import Derived.Test.YtbimkgmhfcgpmaaGreatDoorRows
import Derived.ProofKit
import Derived.OpenShut
import Derived.JoinedCond
import Derived.Carry
import Derived.SliceStrings

/- siloref.Archive, of no lines and no base. -/
namespace Silo

def body0 : List UInt8 := [65, 0, 0, 0, 0, 0, 0, 0, 0, 5, 115, 105, 108, 111, 10]

theorem man0 : manOf [115, 105, 108, 111, 10] = some [] := by
  have := manOf_rest []
  rw [manRest_nil] at this
  exact this

theorem restore0 : restoreP [sealed body0] = some [] := by
  have hlen : (be8 (fnv body0)).length = 8 := rfl
  have htake : (sealed body0).take ((sealed body0).length - 8) = body0 := by
    have : (sealed body0).length - 8 = body0.length := by
      unfold sealed
      rw [List.length_append, hlen]
      rfl
    rw [this]
    unfold sealed
    exact List.take_left
  have hstep := stepR_open (c := Ch.start) (s := sealed body0) (body := body0) (by unfold sealed; rw [List.length_append, hlen]; decide) htake rfl rfl
  have hd : ((sealed body0).drop 1).take 8 = List.replicate 8 0 := rfl
  have hb : baseOf Ch.start.man = List.replicate 8 0 := rfl
  rw [hd, hb, if_pos rfl] at hstep
  have hp : partR (body0.drop 9) = some ([115, 105, 108, 111, 10], []) := by
    show partR [5, 115, 105, 108, 111, 10] = _
    unfold partR
    have : rdCode [5, 115, 105, 108, 111, 10] = some (5, [115, 105, 108, 111, 10]) := by decide
    rw [this]
    rfl
  rw [hp] at hstep
  simp only at hstep
  rw [man0] at hstep
  have hg : gather Ch.start.kept [] [] = some ([], []) := rfl
  simp only [hg] at hstep
  unfold restoreP
  simp only [chainP, hstep]
  rfl

end Silo

namespace Go.Proofs.YtbimkgmhfcgpmaaGreatDoor
open Go.RowKit Go.Shelf

set_option maxHeartbeats 1000000 in
theorem RefArchive0 (w : World) : Calls Tryz.prog 4 #[.string ⟨#[]⟩, .string ⟨#[115, 105, 108, 111, 10]⟩, .slice none 0 0] w fun e w' => e = .returned (.string (S (Silo.sealed Silo.body0))) ∧ Fp (fun _ => False) w w' := by
  go_enter Tryz.func4, Tryz.ntmps4
  go_wp2_with fail
  refine (RefCode_any 5 w (by decide)).mono ?_
  rintro e w1 ⟨rfl, h1⟩
  have H1 : Hid _ := h1
  clear h1
  have e5 : S (Silo.leb 5) = ⟨#[5]⟩ := by rw [Silo.leb_lo 5 (by decide)]; rfl
  rw [e5]
  go_wp2_with fail
  refine (RefLines_any [] w1 (by simp)).mono ?_
  rintro e w2 ⟨h2, h3⟩
  unfold LinesRes at h2
  rw [Silo.manOf_nil] at h2
  subst h2
  have H2 : Hid (Fp (fun _ => False) w w2) := H1.out.trans' h3
  clear h3
  go_wp2_with fail
  refine (RefLines_any [115, 105, 108, 111, 10] w2 (by simp)).mono ?_
  rintro e w3 ⟨h4, h5⟩
  unfold LinesRes at h4
  rw [Silo.man0] at h4
  obtain ⟨v, rfl, hr⟩ := h4
  obtain ⟨a, c, rfl⟩ := ownsRow_form hr
  have H3 : Hid (Fp (fun _ => False) w w3) := H2.out.trans' h5
  clear h5 hr
  simp only [List.length_nil]
  go_wp2_with fail
  go_loopw [7, 12] (fun sv iv wr => sv = .string (S Silo.body0) ∧ iv = .int .i64 0 ∧ wr = w3) (fun _ _ _ => 0)
  case atStart => exact ⟨by rfl, rfl, rfl⟩
  case round =>
    obtain ⟨rfl, rfl, rfl⟩ := hrel
    go_wp2_with fail
    refine (RefSealed_any Silo.body0 _ (by decide)).mono ?_
    rintro e w4 ⟨rfl, h4⟩
    have H4 : Hid _ := H3.out.trans' h4
    clear h4
    go_wp2
    go_ret
    exact ⟨ret_val (by simp), H4.out⟩

end Go.Proofs.YtbimkgmhfcgpmaaGreatDoor

/- silolaw's (*Book).restore, Restores. -/
namespace Silo

theorem chainP_man {M : Nat} {c c' : Ch} {l : List (List UInt8)} (hc : c.man.length ≤ M) (hl : ∀ x ∈ l, x.length ≤ M) (h : chainP c l = some c') : c'.man.length ≤ M := by
  induction l generalizing c with
  | nil => cases h; exact hc
  | cons x l ih =>
    rw [chainP] at h
    cases hs : stepR c x with
    | none => rw [hs] at h; cases h
    | some c1 =>
      rw [hs] at h
      exact ih (Nat.le_trans (stepR_man hs) (hl x (by simp))) (fun y hy => hl y (by simp [hy])) h

end Silo

namespace Go.Proofs.YtbimkgmhfcgpmaaGreatDoor
open Go.RowKit Go.Shelf

/-- The files that are restored; none where Restore fails. -/
def filesOf (xs : List (List UInt8)) : List (List UInt8 × List UInt8) := (Silo.restoreP xs).getD []
def errOf (xs : List (List UInt8)) : Int := match Silo.restoreP xs with
  | some _ => 0
  | none => 11

theorem filesOf_len {xs : List (List UInt8)} (hx : ∀ x ∈ xs, x.length ≤ 16777216) : (filesOf xs).length ≤ 16777216 := by
  unfold filesOf
  cases xs with
  | nil => simp [Silo.restoreP]
  | cons x l =>
    unfold Silo.restoreP
    simp only
    cases h : Silo.chainP Silo.Ch.start (x :: l) with
    | none => simp
    | some c =>
      have h1 := Silo.chainP_man (M := 16777216) (by decide) hx h
      have h2 := kept_len (Silo.chainP_ok Silo.start_ok h)
      simp [Silo.Ch.files]
      omega

theorem RestRes.form {xs : List (List UInt8)} {base : Nat} {e : Ending} {w' : World} (h : RestRes xs base e w') {fs : List (List UInt8 × List UInt8)} {er : Int} (h1 : filesOf xs = fs) (h2 : errOf xs = er) : ∃ a n c, e = .returned (.tuple #[.slice a n c, .int .i64 er]) ∧ fs.length = n ∧ World.filesAt w' base (.slice a n c) fs := by
  subst h1 h2
  unfold RestRes at h
  unfold filesOf errOf
  cases hr : Silo.restoreP xs with
  | none =>
    rw [hr] at h
    exact ⟨none, 0, 0, h, rfl, rfl, .inl ⟨rfl, rfl⟩⟩
  | some fs =>
    rw [hr] at h
    obtain ⟨v, h1, h2⟩ := h
    obtain ⟨a, c, rfl⟩ := ownsRow_form h2
    exact ⟨a, _, c, h1, rfl, h2⟩

set_option maxHeartbeats 400000 in
theorem lnum_any (n : Int) (w : World) : Calls Tryz.prog 19 #[.int .i64 n] w fun e w' => e = .returned (.int .i64 n) ∧ w' = w := by
  go_enter Tryz.func19, Tryz.ntmps19
  go_wp2
  go_ret
  exact ⟨ret_val (by simp), rfl⟩

theorem StrsIn.nil (w : World) : StrsIn w (.slice none 0 0) [] := ⟨none, 0, rfl, fun j x h => by simp at h⟩

theorem handed_zs (xs : List (List UInt8)) : ∀ k z, (xs ++ [behind, behind, behind])[k]? = some z → xs[k]? = some z ∨ (xs.length ≤ k ∧ z = behind) := by
  intro k z hk
  by_cases h : k < xs.length
  · rw [List.getElem?_append_left h] at hk; exact .inl hk
  · rw [List.getElem?_append_right (by omega)] at hk
    refine .inr ⟨by omega, ?_⟩
    generalize k - xs.length = j at hk
    match j, hk with
    | 0, hk => simpa using hk.symm
    | 1, hk => simpa using hk.symm
    | 2, hk => simpa using hk.symm
    | j + 3, hk => simp at hk

set_option maxHeartbeats 4000000 in
set_option maxRecDepth 100000 in
theorem restore_some (tb : Nat) (ad : Addr) (c : Nat) (xs : List (List UInt8)) (w : World) (hb : BookT w tb 0 (.slice none 0 0) (.slice none 0 0) (.slice none 0 0) (.slice none 0 0)) (hin : StrsIn w (.slice (some ad) xs.length c) xs) (hx : ∀ x ∈ xs, x.length ≤ 16777216) (hl : xs.length ≤ 16777216) (hg : Gl w) :
    Calls Tryz.prog 6 #[.pointer (some ⟨tb, 0, none⟩), .slice (some ad) xs.length c] w fun e w' => e = .returned (.bool true) ∧ Fp (fun k => k = tb) w w' := by
  have H : Hid _ := And.intro hb (And.intro hin (And.intro hx hg))
  have htb := heap_lt hb.blk
  obtain ⟨fs, hfs⟩ : ∃ fs, filesOf xs = fs := ⟨_, rfl⟩
  obtain ⟨er, her⟩ : ∃ er, errOf xs = er := ⟨_, rfl⟩
  have hfl : fs.length ≤ 16777216 := by rw [← hfs]; exact filesOf_len hx
  have HFE : Hid _ := And.intro hfs her
  clear hb hin hx hg hfs her
  go_enter Tryz.func6, Tryz.ntmps6
  go_wp2_with fail
  refine (handTexts_some ad c xs w H.out.2.1 hl).mono ?_
  rintro e w1 ⟨sv, rfl, h1, h1f⟩
  obtain ⟨sa, sc, hsv⟩ := strsAt_form h1
  subst hsv
  obtain ⟨_, g, hga, hg2⟩ := strsAt_some h1 (by simp)
  subst hga
  obtain ⟨n3, hn3⟩ : ∃ n3, (xs ++ [behind, behind, behind]).length = n3 := ⟨_, rfl⟩
  have hn3' : n3 = xs.length + 3 := by rw [← hn3]; simp
  have hcap : n3 ≤ sc := by
    rcases h1.2 with ⟨h, _⟩ | ⟨g', cap', cur, h, _, _, hc, _⟩
    · cases h
    · simp only [Value.slice.injEq] at h
      rw [← hn3, h.2.2]; exact hc
  have hsc : xs.length ≤ sc := by omega
  have hgB : w.heap.size ≤ g := (World.ownsRow.lt h1 g rfl).1
  have hne : ∀ u : World, (binOp .neq 22 (.slice (some ⟨g, 0, none⟩) n3 sc) (.slice none 0 0)).run Tryz.prog u = .ok (.bool true) u := fun u => run_neq_slice_nil_any u 22 9 (some ⟨g, 0, none⟩) n3 sc 0 0 Tryz.underlying22
  have hpre : StrsIn w1 (.slice (some ⟨g, 0, none⟩) xs.length sc) xs := by
    refine ⟨_, _, rfl, fun j x hj => ⟨g, 0, rfl, hg2, ?_⟩⟩
    have hjl := (List.getElem?_eq_some_iff.1 hj).1
    have hq := strsAt_cell h1 j (by simp; omega)
    rw [List.getElem_append_left hjl] at hq
    rw [Nat.zero_add, hq, (List.getElem?_eq_some_iff.1 hj).2]
  have H1 : Hid _ := And.intro h1 (And.intro h1f (And.intro hpre hn3))
  rw [hn3]
  have hn39 : n3 ≤ 16777219 := by omega
  clear h1 h1f hpre hn3 hn3'
  go_wp2_with fail
  refine (siloRestore_any xs (.slice (some ⟨g, 0, none⟩) xs.length sc) w1 H1.out.2.2.1 H.out.2.2.1 (by omega) (H.out.2.2.2.fp H1.out.2.1)).mono ?_
  rintro e w2 ⟨h2, h2f⟩
  obtain ⟨fa, fn, fc, rfl, hfn, hfs⟩ := h2.form HFE.out.1 HFE.out.2
  have H2 : Hid (World.filesAt w2 w1.heap.size (.slice fa fn fc) fs ∧ Fp (fun _ => False) w1 w2 ∧ fs.length = fn) := And.intro hfs (And.intro h2f hfn)
  clear h2 h2f hfn hfs
  go_wp2_with fail
  refine (RefRestore_any xs (.slice (some ad) xs.length c) w2 ((H.out.2.1.fp H1.out.2.1).fp H2.out.2.1) H.out.2.2.1 (by omega)).mono ?_
  rintro e w3 ⟨h3, h3f⟩
  obtain ⟨ra, rn, rc, rfl, hrn, hrs⟩ := h3.form HFE.out.1 HFE.out.2
  have H3 : Hid (World.filesAt w3 w1.heap.size (.slice fa fn fc) fs ∧ World.filesAt w3 w2.heap.size (.slice ra rn rc) fs ∧ Fp (fun _ => False) w1 w3 ∧ Fp (fun _ => False) w w3) := And.intro (Fp.ownsRow h3f H2.out.1 (fun _ _ h => h)) (And.intro hrs (And.intro (H2.out.2.1.trans' h3f) (H1.out.2.1.trans' (H2.out.2.1.trans' h3f))))
  clear h3 h3f hrs hrn
  go_wp2_with fail
  refine (sameFiles_eq fs w1.heap.size w2.heap.size (.slice fa fn fc) (.slice ra rn rc) w3 H3.out.1 H3.out.2.1 (by omega)).mono ?_
  rintro e w4 ⟨rfl, h4⟩
  have H4 : Hid (World.filesAt w4 w1.heap.size (.slice fa fn fc) fs ∧ Fp (fun _ => False) w1 w4 ∧ Fp (fun _ => False) w w4) := ⟨Fp.ownsRow h4 H3.out.1 (fun _ _ h => h), H3.out.2.2.1.trans' h4, H3.out.2.2.2.trans' h4⟩
  clear h4
  go_wp2_with fail
  have hrow3 : World.strsAt w4 w.heap.size (.slice (some ⟨g, 0, none⟩) n3 sc) (xs ++ [behind, behind, behind]) := by
    have h := Fp.ownsRow H4.out.2.1 H1.out.1 (fun _ _ h => h)
    rw [H1.out.2.2.2] at h
    unfold World.strsAt
    rw [H1.out.2.2.2]
    exact h
  refine (handedTexts_any w.heap.size tb 0 (.inl rfl) _ _ (.slice (some ⟨g, 0, none⟩) n3 sc) (.slice (some ad) xs.length c) (xs ++ [behind, behind, behind]) xs w4 (H.out.1.fp H4.out.2.2 (fun h => h)) hrow3 (H.out.2.1.fp H4.out.2.2) (handed_zs xs) (by rw [H1.out.2.2.2]; omega) H4.out.2.2.size).mono ?_
  rintro e w5 ⟨rfl, ⟨x1, x2, hb5⟩, h5⟩
  have H5 : Hid (BookT w5 tb (0 + 1) x1 x2 (.slice none 0 0) (.slice none 0 0) ∧ Fp (fun k => k = tb) w w5 ∧ World.filesAt w5 w1.heap.size (.slice fa fn fc) fs ∧ w4.heap.size ≤ w5.heap.size) := by
    refine ⟨hb5, H4.out.2.2.trans h5 (fun _ h => h.elim) (fun k hk h => ?_), Fp.ownsRow h5 H4.out.1 (fun k hk h => ?_), h5.size⟩
    · rcases h with h | h
      · exact h
      · simp only [Value.ownBlock, Option.some.injEq] at h
        omega
    · have h6 := (World.ownsRow.lt H4.out.1 k hk).1
      have h7 := H1.out.2.1.size
      rcases h with h | h
      · omega
      · simp only [Value.ownBlock, Option.some.injEq] at h
        omega
  clear hb5 h5 hrow3
  go_wp2_with fail
  refine (keepFiles_any w1.heap.size tb (0 + 1) (.inr rfl) x1 x2 (.slice fa fn fc) fn (fileCells fs) w5 H5.out.1 (by have h := H5.out.2.2.1; unfold World.filesAt at h; rw [H2.out.2.2] at h; exact h) (by have := H2.out.2.2; omega) (by have := H4.out.2.1.size; have := H4.out.2.2.size; have := H5.out.2.1.size; exact Nat.le_trans H4.out.2.1.size H5.out.2.2.2)).mono ?_
  rintro e w6 ⟨rfl, _, h6⟩
  have H6 : Hid (Fp (fun k => k = tb) w w6) := H5.out.2.1.trans h6 (fun _ h => h) (fun k hk h => by
    rcases h with h | h
    · exact h
    · have h7 := (World.ownsRow.lt H5.out.2.2.1 k h).1
      have h8 := H1.out.2.1.size
      omega)
  clear h6
  go_wp2_with (go_at_call 19; refine (lnum_any _ _).mono ?_; rintro e w' ⟨rfl, rfl⟩)
  go_ret
  exact ⟨ret_val (by simp), H6.out⟩

set_option maxHeartbeats 4000000 in
set_option maxRecDepth 100000 in
theorem restore_nil (tb : Nat) (w : World) (hb : BookT w tb 0 (.slice none 0 0) (.slice none 0 0) (.slice none 0 0) (.slice none 0 0)) (hg : Gl w) :
    Calls Tryz.prog 6 #[.pointer (some ⟨tb, 0, none⟩), .slice none 0 0] w fun e w' => e = .returned (.bool true) ∧ Fp (fun k => k = tb) w w' := by
  have H : Hid _ := And.intro hb hg
  have htb := heap_lt hb.blk
  have hne : ∀ u : World, (binOp .neq 22 (.slice none 0 0) (.slice none 0 0)).run Tryz.prog u = .ok (.bool false) u := fun u => run_neq_slice_nil_any u 22 9 none 0 0 0 0 Tryz.underlying22
  clear hb hg
  go_enter Tryz.func6, Tryz.ntmps6
  go_wp2_with fail
  refine (handTexts_nil w).mono ?_
  rintro e w1 ⟨rfl, rfl⟩
  go_wp2_with fail
  refine (siloRestore_any [] (.slice none 0 0) w1 (StrsIn.nil _) (by simp) (by simp) H.out.2).mono ?_
  rintro e w2 ⟨h2, h2f⟩
  have h2 : e = .returned (.tuple #[.slice none 0 0, .int .i64 11]) := h2
  subst h2
  have H2 : Hid _ := h2f
  clear h2f
  go_wp2_with fail
  refine (RefRestore_any [] (.slice none 0 0) w2 (StrsIn.nil _) (by simp) (by simp)).mono ?_
  rintro e w3 ⟨h3, h3f⟩
  have h3 : e = .returned (.tuple #[.slice none 0 0, .int .i64 11]) := h3
  subst h3
  have H3 : Hid _ := H2.out.trans' h3f
  clear h3f
  go_wp2_with fail
  refine (sameFiles_eq [] 0 0 (.slice none 0 0) (.slice none 0 0) w3 ⟨rfl, .inl ⟨rfl, rfl⟩⟩ ⟨rfl, .inl ⟨rfl, rfl⟩⟩ (by simp)).mono ?_
  rintro e w4 ⟨rfl, h4⟩
  have H4 : Hid _ := H3.out.trans' h4
  clear h4
  go_wp2_with fail
  refine (handedTexts_any 0 tb 0 (.inl rfl) _ _ (.slice none 0 0) (.slice none 0 0) [] [] w4 (H.out.1.fp H4.out (fun h => h)) ⟨rfl, .inl ⟨rfl, rfl⟩⟩ (StrsIn.nil _) (by simp) (by simp) (by omega)).mono ?_
  rintro e w5 ⟨rfl, ⟨x1, x2, hb5⟩, h5⟩
  have H5 : Hid (BookT w5 tb (0 + 1) x1 x2 (.slice none 0 0) (.slice none 0 0) ∧ Fp (fun k => k = tb) w1 w5) := ⟨hb5, H4.out.trans h5 (fun _ h => h.elim) (fun k hk h => by
    rcases h with h | h
    · exact h
    · simp [Value.ownBlock] at h)⟩
  clear hb5 h5
  go_wp2_with fail
  refine (keepFiles_any 0 tb (0 + 1) (.inr rfl) x1 x2 (.slice none 0 0) 0 [] w5 H5.out.1 ⟨rfl, .inl ⟨rfl, rfl⟩⟩ (by omega) (by omega)).mono ?_
  rintro e w6 ⟨rfl, _, h6⟩
  have H6 : Hid (Fp (fun k => k = tb) w1 w6) := H5.out.2.trans h6 (fun _ h => h) (fun k hk h => by
    rcases h with h | h
    · exact h
    · simp [Value.ownBlock] at h)
  clear h6
  go_wp2_with (go_at_call 19; refine (lnum_any _ _).mono ?_; rintro e w' ⟨rfl, rfl⟩)
  go_ret
  exact ⟨ret_val (by simp), H6.out⟩

theorem restore_any (tb : Nat) (lv : Value) (xs : List (List UInt8)) (w : World) (hb : BookT w tb 0 (.slice none 0 0) (.slice none 0 0) (.slice none 0 0) (.slice none 0 0)) (hin : StrsIn w lv xs) (hnil : lv = .slice none 0 0 ∨ ∃ ad c, lv = .slice (some ad) xs.length c) (hx : ∀ x ∈ xs, x.length ≤ 16777216) (hl : xs.length ≤ 16777216) (hg : Gl w) :
    Calls Tryz.prog 6 #[.pointer (some ⟨tb, 0, none⟩), lv] w fun e w' => e = .returned (.bool true) ∧ Fp (fun k => k = tb) w w' := by
  rcases hnil with rfl | ⟨ad, c, rfl⟩
  · exact restore_nil tb w hb hg
  · exact restore_some tb ad c xs w hb hin hx hl hg

theorem sealed0_len : (Silo.sealed Silo.body0).length ≤ 16777216 := by
  unfold Silo.sealed
  rw [List.length_append]
  have : (Silo.be8 (Silo.fnv Silo.body0)).length = 8 := rfl
  rw [this]
  decide

set_option maxHeartbeats 4000000 in
set_option maxRecDepth 100000 in
theorem Restores_walk (lv : Value) (xs : List (List UInt8)) (w : World) (hin : StrsIn w lv xs) (hnil : lv = .slice none 0 0 ∨ ∃ ad c, lv = .slice (some ad) xs.length c) (hx : ∀ x ∈ xs, x.length ≤ 16777216) (hl : xs.length ≤ 16777216) (hg : Gl w) :
    Calls Tryz.prog 3 #[lv] w fun e w' => e = .returned (.bool true) ∧ Fp (fun _ => False) w w' := by
  have H : Hid _ := And.intro hin (And.intro hnil (And.intro hx (And.intro hl hg)))
  clear hin hnil hx hl hg
  go_enter Tryz.func3, Tryz.ntmps3
  go_wp2_with fail
  have hb0 : BookT (w.alloc (.cells (bookC 0 (.slice none 0 0) (.slice none 0 0) (.slice none 0 0) (.slice none 0 0)) 31)) w.heap.size 0 (.slice none 0 0) (.slice none 0 0) (.slice none 0 0) (.slice none 0 0) := ⟨heap_new _ _⟩
  have hf0 : Fp (fun _ => False) w (w.alloc (.cells (bookC 0 (.slice none 0 0) (.slice none 0 0) (.slice none 0 0) (.slice none 0 0)) 31)) := Fp.alloc _ _ _
  obtain ⟨w0, hw0⟩ : ∃ w0, w.alloc (.cells (bookC 0 (.slice none 0 0) (.slice none 0 0) (.slice none 0 0) (.slice none 0 0)) 31) = w0 := ⟨_, rfl⟩
  rw [hw0] at hb0 hf0
  have hw0' : w.alloc (.cells #[.int .i64 0, .slice none 0 0, .slice none 0 0, .slice none 0 0, .slice none 0 0, .slice none 0 0, .slice none 0 0, .slice none 0 0, .slice none 0 0, .slice none 0 0, .slice none 0 0] 31) = w0 := hw0
  rw [hw0']
  have H0 : Hid _ := And.intro hb0 hf0
  clear hw0 hw0' hb0 hf0
  refine (RefArchive0 w0).mono ?_
  rintro e w1 ⟨rfl, h1⟩
  have H1 : Hid _ := h1
  clear h1
  obtain ⟨z, hz⟩ : ∃ z, Silo.sealed Silo.body0 = z := ⟨_, rfl⟩
  have hz1 := sealed0_len
  have hz2 := Silo.restore0
  rw [hz] at hz1 hz2 ⊢
  have HZ : Hid _ := And.intro hz1 hz2
  clear hz hz1 hz2
  go_wp2_with fail
  have hin1 : StrsIn (w1.alloc (.cells #[.string (S z)] 9)) (.slice (some ⟨w1.heap.size, 0, none⟩) 1 1) [z] := by
    refine ⟨_, _, rfl, fun j x hj => ⟨w1.heap.size, 0, rfl, by simp, ?_⟩⟩
    cases j with
    | zero => cases hj; exact cell_lit w1 _ _ 0
    | succ j => simp at hj
  refine (siloRestore_any [z] (.slice (some ⟨w1.heap.size, 0, none⟩) 1 1) _ hin1 (by intro x hx; simp at hx; subst hx; exact HZ.out.1) (by simp) (H.out.2.2.2.2.fp ((H0.out.2.trans' H1.out).trans' (Fp.alloc _ _ _)))).mono ?_
  rintro e w2 ⟨h2, h2f⟩
  unfold RestRes at h2
  rw [HZ.out.2] at h2
  obtain ⟨v2, rfl, hv2⟩ := h2
  obtain ⟨a2, c2, rfl⟩ := ownsRow_form hv2
  have H2 : Hid (Fp (fun _ => False) w0 w2) := (H1.out.trans' (Fp.alloc _ _ _)).trans' h2f
  clear hv2 h2f hin1
  go_wp2_with fail
  refine (restore_any w.heap.size lv xs w2 (H0.out.1.fp H2.out (fun h => h)) (H.out.1.fp (H0.out.2.trans' H2.out)) H.out.2.1 H.out.2.2.1 H.out.2.2.2.1 (H.out.2.2.2.2.fp (H0.out.2.trans' H2.out))).mono ?_
  rintro e w3 ⟨rfl, h3⟩
  have H3 : Hid (Fp (fun _ => False) w w3) := (H0.out.2.trans' H2.out).trans h3 (fun _ h => h) (fun k hk h => by omega)
  clear h3
  go_wp2
  go_ret
  exact ⟨ret_val (by simp), H3.out⟩

end Go.Proofs.YtbimkgmhfcgpmaaGreatDoor

/- An argument that is a slice of texts, opened; what a call that only grows the heap leaves. -/
namespace Go.Proofs.YtbimkgmhfcgpmaaGreatDoor
open Go.ChangeShapes Go.WideShapes Go.ChangeAt Go.RowKit

theorem bulk_pos {H : Type} (d : DataW H) : 1 ≤ Rows.uptoBulk d := by
  cases d with
  | lit l => cases l <;> simp [Rows.uptoBulk]
  | _ => simp [Rows.uptoBulk]

theorem bulkAll_le {H : Type} {ds : List (DataW H)} : ds.length ≤ Rows.uptoBulkAll ds := by
  induction ds with
  | nil => simp
  | cons d ds ih =>
    have h1 := bulk_pos d
    simp only [Rows.uptoBulkAll, List.length_cons]
    omega

theorem bulkAll_mem {H : Type} {ds : List (DataW H)} {d : DataW H} (h : d ∈ ds) : Rows.uptoBulk d ≤ Rows.uptoBulkAll ds := by
  induction ds with
  | nil => cases h
  | cons x ds ih =>
    simp only [Rows.uptoBulkAll]
    rcases List.mem_cons.1 h with rfl | h
    · omega
    · have := ih h; omega

theorem spot_none {W : World} {a : Addr} {v : Value} (k : W.cell? a = some v) : a.spot = none ∧ a.block < W.heap.size := by
  unfold World.cell? at k
  split at k
  · rename_i hh
    split at k
    · cases k
    · rename_i h2
      refine ⟨?_, heap_lt hh⟩
      cases hs : a.spot with
      | none => rfl
      | some y => simp [hs] at h2
  · cases k

set_option maxRecDepth 100000 in
theorem open_texts {H : Type} {enc : TypeId × Value → H} {W : World} {base b0 : Nat} {sp : Nat → Bool} {held : Bool} {v : Value} {d : DataW H} {ps : List MemPlace} {r : Reach}
    (hval : Value.okWide Tryz.prog W r b0 22 v) (hd : DataW.Trod enc Tryz.prog W base sp held 22 v d ps) :
    ∃ xs : List (List UInt8), StrsIn W v xs ∧ (v = .slice none 0 0 ∨ ∃ ad c, v = .slice (some ad) xs.length c) ∧ (∀ x ∈ xs, x.length ≤ Rows.uptoBulk d) ∧ xs.length ≤ Rows.uptoBulk d := by
  obtain ⟨a, len, cap, rfl⟩ := okWide_slice Tryz.underlying22 hval
  obtain ⟨fuel, h⟩ := hd
  have hc : (Value.slice a len cap).cells.toList = [Value.slice a len cap] := rfl
  rw [hc] at h
  rcases open_strings Tryz.underlying22 Tryz.underlying9 (by kernel_rfl) h with ⟨h1, h2⟩ | ⟨a, len', cap', ss, h1, hb, hl, hm, hz, hx, hcell, hsz⟩
  · simp only [List.cons.injEq, and_true, Value.slice.injEq] at h1
    obtain ⟨rfl, rfl, rfl⟩ := h1
    exact ⟨[], StrsIn.nil _, .inl rfl, by simp, by simp⟩
  · simp only [List.cons.injEq, and_true, Value.slice.injEq] at h1
    obtain ⟨rfl, rfl, rfl⟩ := h1
    simp only [Prod.mk.injEq] at hx
    have hlm : len ≤ ss.length := by rw [hz]; split <;> omega
    have hll : ((ss.take len).map fun s => s.data.toList).length = len := by simp; omega
    refine ⟨(ss.take len).map fun s => s.data.toList, ⟨some a, cap, by rw [hll], fun j x hj => ?_⟩, .inr ⟨a, cap, by rw [hll]⟩, fun x hx' => ?_, ?_⟩
    · rw [List.getElem?_map, Option.map_eq_some_iff] at hj
      obtain ⟨s, hs, rfl⟩ := hj
      rw [List.getElem?_take] at hs
      split at hs
      · rename_i hjl
        have hc := hcell j (by omega)
        rw [List.getD_eq_getElem?_getD, hs] at hc
        simp only [Option.getD_some] at hc
        have hc0 := hcell 0 (by omega)
        have e : a.add 0 = a := by simp [Addr.add]
        rw [e] at hc0
        obtain ⟨h5, h6⟩ := spot_none hc0
        obtain ⟨b, off, spot⟩ := a
        simp only at h5 h6
        subst h5
        refine ⟨b, off, rfl, h6, ?_⟩
        rw [S_of, ← hc]
        congr 1
        unfold Addr.add
        split
        · rename_i h0; subst h0; rfl
        · rfl
      · cases hs
    · obtain ⟨s, hs, rfl⟩ := List.mem_map.1 hx'
      rw [hx.1]
      have hmem : (DataW.lit (.string s.data.toList) : DataW H) ∈ strs (ss.take len) := List.mem_map.2 ⟨s, hs, rfl⟩
      have h9 := bulkAll_mem hmem
      simp only [Rows.uptoBulk] at h9 ⊢
      omega
    · rw [hx.1, hll]
      have h9 := bulkAll_le (ds := (strs (ss.take len) : List (DataW H)))
      have h8 : (strs (ss.take len) : List (DataW H)).length = len := by simp [strs]; omega
      simp only [Rows.uptoBulk]
      omega

/-- What a call that leaves all old blocks as they are owes the row. -/
theorem kept_of_fp {W W' : World} (h : Fp (fun _ => False) W W') (may : MemPlace → Prop) : W.keptBut W' may := by
  refine ⟨h.os, h.output, fun i hi => ?_⟩
  rw [h.block i hi (fun x => x)]
  cases W.heap[i]? with
  | none => rfl
  | some o =>
    cases o with
    | cells c t fr => exact ⟨rfl, rfl, rfl, fun _ _ => rfl⟩
    | map es c => exact .inr ⟨rfl, rfl⟩
    | _ => rfl

theorem post_of_fp {H : Type} {enc : TypeId × Value → H} {P : Program} {f : Func} {s : ChangeSpec} {apart fresh handsOn again : Bool} {W W' : World} {args : Array Value} {v : Value} {ds gs : List (DataW H)} {before pa pv : List MemPlace}
    (hW : DataW.Whole enc P f.params.toList s.vars apart W args.toList ds gs before) (hf : Fp (fun _ => False) W W')
    (hres : ∀ (b : Nat) (sp : Nat → Bool) (hd : Bool), DataW.TrodAll enc P W' b sp hd f.resultTypes.toList (v.resultList f.resultTypes.size) (s.fn H (ds ++ gs)).results [])
    (hargs : ∀ sp : Nat → Bool, (∀ p ∈ before, sp p.block = true) → DataW.TrodAll enc P W' 0 sp true f.params.toList args.toList (s.fn H (ds ++ gs)).args pa)
    (hvars : ∀ sp : Nat → Bool, (∀ p ∈ before, sp p.block = true) → DataW.TrodVars enc P W' sp s.vars (s.fn H (ds ++ gs)).vars pv)
    (hps : before = pa ++ pv)
    (hok : ∀ (j : Nat) (t : TypeId) (r : Value), f.resultTypes[j]? = some t → (v.resultList f.resultTypes.size)[j]? = some r → Value.okWide P W' .any 0 t r) :
    s.post enc P f apart fresh handsOn again W args v W' := by
  have hlt : ∀ p ∈ before, p.block < W.heap.size := fun p hp => hW.lt p hp
  have hold : ∀ p ∈ before, (fun b => decide (b < W.heap.size)) p.block = true := fun p hp => by simpa using hlt p hp
  have hin : ∀ p, p ∈ before ↔ p ∈ pa ∨ p ∈ pv := fun p => by rw [hps, List.mem_append]
  refine ⟨ds, gs, before, [], pa, pv, hW, hres _ _ _, hargs _ hold, hvars _ hold, World.keptBut_mono (fun p hp => ⟨hp, .inr ((hin p).1 hp)⟩) (kept_of_fp hf (· ∈ before)), fun _ => ?_⟩
  obtain ⟨_, _, _, _, _, hz, hn⟩ := hW
  refine ⟨hok, _, _, ([] ++ pa) ++ pv, ⟨[] ++ pa, pv, trodAll_append (hargs _ (fun _ _ => rfl)) (hres _ _ _), hvars _ (fun _ _ => rfl), rfl, ?_, ?_⟩, ?_⟩
  · intro b off hp
    have hp' : MemPlace.cell b off ∈ before := by rw [hps]; simpa using hp
    rw [hf.frozen (p := ⟨b, off, none⟩) (hlt _ hp') (fun x => x)]
    exact hz b off hp'
  · intro ha
    have := hn ha
    rw [hps] at this
    simpa using this
  · intro p hp _
    rw [hps]
    simpa using hp

end Go.Proofs.YtbimkgmhfcgpmaaGreatDoor
