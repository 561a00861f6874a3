/- siloref.Restore. -/
import Derived.Test.YtbimkgmhfcgpmaaGreatDoorRefNext
import Derived.Deep.RegionHeld3
import Derived.Deep.AppendLies
namespace Silo

theorem stepR_man {c c' : Ch} {s : List UInt8} (h : stepR c s = some c') : c'.man.length ≤ s.length := by
  unfold stepR at h
  split at h
  · cases h
  · rename_i b hb
    have hbl : b.length ≤ s.length := by
      unfold arcBody at hb
      split at hb
      · cases hb; simp; omega
      · cases hb
    split at h
    · split at h
      · cases h
      · rename_i m r hp
        have hm := (partR_suffix hp).2
        split at h
        · cases h
        · split at h
          · cases h
            simp at hm
            show m.length ≤ s.length
            omega
          · cases h
    · cases h

theorem chainP_none {c : Ch} {l : List (List UInt8)} {j : Nat} (h : chainP c (l.take j) = none) : chainP c l = none := by
  induction l generalizing c j with
  | nil => simpa using h
  | cons x l ih =>
    cases j with
    | zero => cases h
    | succ j =>
      rw [List.take_succ_cons, chainP] at h
      rw [chainP]
      cases hs : stepR c x with
      | none => rfl
      | some c' =>
        rw [hs] at h
        simp only at h ⊢
        exact ih h

theorem chainP_ok {c c' : Ch} {l : List (List UInt8)} (hc : c.Ok) (h : chainP c l = some c') : c'.Ok := by
  induction l generalizing c with
  | nil => cases h; exact hc
  | cons x l ih =>
    rw [chainP] at h
    cases hs : stepR c x with
    | none => rw [hs] at h; cases h
    | some c1 =>
      rw [hs] at h
      exact ih (stepR_ok hs) h

theorem chainP_take {c : Ch} {l : List (List UInt8)} {j : Nat} {s : List UInt8} (hj : l[j]? = some s) : chainP c (l.take (j + 1)) = match chainP c (l.take j) with
    | some c' => stepR c' s
    | none => none := by
  rw [List.take_add_one, hj, Option.toList_some]
  exact chainP_snoc _ _ _

theorem start_ok : Ch.start.Ok := ⟨.inl ⟨rfl, rfl⟩⟩

end Silo

namespace Go.Proofs.YtbimkgmhfcgpmaaGreatDoor
open Go.RowKit Go.Shelf

/-- A slice of texts from anywhere. -/
def StrsIn (w : World) (v : Value) (xs : List (List UInt8)) : Prop := ∃ a cap, v = .slice a xs.length cap ∧ ∀ j x, xs[j]? = some x → ∃ b o, a = some ⟨b, o, none⟩ ∧ b < w.heap.size ∧ w.cell? ⟨b, o + j, none⟩ = some (.string (S x))

theorem StrsIn.fp {w w' : World} {v : Value} {xs : List (List UInt8)} (h : StrsIn w v xs) (hf : Fp (fun _ => False) w w') : StrsIn w' v xs := by
  obtain ⟨a, cap, h1, h2⟩ := h
  refine ⟨a, cap, h1, fun j x hj => ?_⟩
  obtain ⟨b, o, h3, h4, h5⟩ := h2 j x hj
  exact ⟨b, o, h3, Nat.lt_of_lt_of_le h4 hf.size, by unfold World.cell? at h5 ⊢; rw [hf.block b h4 (fun h => h)]; exact h5⟩

/-- The cells of a file. -/
def fileC (f : List UInt8 × List UInt8) : List Value := [.string (S f.1), .string (S f.2)]
def fileCells (fs : List (List UInt8 × List UInt8)) : List Value := fs.flatMap fileC

theorem fileCells_append (a b : List (List UInt8 × List UInt8)) : fileCells (a ++ b) = fileCells a ++ fileCells b := by simp [fileCells]

theorem elemFile : ElemOk 33 72 2 32 := ElemOk.mk' (z := .agg #[.string ByteArray.empty, .string ByteArray.empty]) Tryz.underlying33 (by kernel_rfl) rfl (by decide) (by decide)

/-- A slice of files of the call's own. -/
def World.filesAt (w : World) (base : Nat) (v : Value) (fs : List (List UInt8 × List UInt8)) : Prop := w.ownsRow base 72 2 v fs.length (fileCells fs)

/-- What Restore leaves. -/
def RestRes (xs : List (List UInt8)) (base : Nat) (e : Ending) (w' : World) : Prop := match Silo.restoreP xs with
  | some fs => ∃ v, e = .returned (.tuple #[v, .int .i64 0]) ∧ World.filesAt w' base v fs
  | none => e = .returned (.tuple #[.slice none 0 0, .int .i64 11])

theorem RestRes.bad {xs : List (List UInt8)} {base : Nat} {w' : World} (h : Silo.restoreP xs = none) : RestRes xs base (.returned (.tuple #[.slice none 0 0, .int .i64 11])) w' := by
  unfold RestRes; rw [h]
theorem RestRes.ok {xs : List (List UInt8)} {fs : List (List UInt8 × List UInt8)} {base : Nat} {w' : World} {v : Value} (h : Silo.restoreP xs = some fs) (hr : World.filesAt w' base v fs) : RestRes xs base (.returned (.tuple #[v, .int .i64 0])) w' := by
  unfold RestRes; rw [h]; exact ⟨v, rfl, hr⟩

/-- One element appended at a step of a region that draws. -/
theorem step_append_row {sl el : TypeId} {size bytes : Nat} (hE : ElemOk sl el size bytes) {ops : Array Oper} {o : Oper} {a : Act} {K : Act → World → Prop} {Q : Exit → Act → World → Prop} {E : Prop} {W : World} (hgd : o.guard = none) (s x : Operand)
    (ho : o.op = .call { callee := .builtin .append, args := #[s, x], argTypes := #[sl, sl] })
    (base : Nat) (v : Value) (n : Nat) (xs cx : List Value) (hs : a.eval s = v) (hown : W.ownsRow base el size v n xs) (ad : Addr) (hx : a.eval x = .slice (some ad) 1 1) (hcx : cx.length = size)
    (hone : ∀ u ∈ cx, u.oneCell' = true) (hcell : ∀ j u, cx[j]? = some u → W.cell? (ad.add j) = some u) (hl : n ≤ 1099511627775) (hbase : base ≤ W.heap.size)
    (h : ∀ g cap w', Hid (RowAppended el size W w' base v n xs cx g cap) → K (a.put o.dst (.slice (some ⟨g, 0, none⟩) (n + 1) cap)) w') :
    if Region.wanted o (yielded ops a.tmps) = true then Oper.wp Tryz.prog o a W K Q else E := by
  obtain ⟨i0, z, hi, hz0, hz1, hz2, hz3⟩ := hE.info
  refine step_append_lies W hgd s x sl ho base el i0 z size bytes hE.under hi hz0 hz1 hz2 hz3 hE.pos v n xs hs hown ad 1 1 cx hx (by rw [hcx]; omega) hcell hone (by decide) (by unfold maxLen; omega)
    (Nat.le_trans (Nat.mul_le_mul (show n + 1 ≤ 1099511627776 by omega) hE.small) (by decide)) hbase _ rfl ?_
  intro g cap w' h1 h2 h3 h4
  exact h g cap w' ⟨h1, Fp.mono (Fp.of_grownBy h2) (fun _ _ e => e.symm), h3.imp id (fun e => Nat.le_of_eq e.symm), h4⟩

/-- One file more in a row of the call's own. -/
theorem file_next {w4 wi w5 : World} {a : Option Addr} {k cp g cap : Nat} {fs : List (List UInt8 × List UInt8)} {f : List UInt8 × List UInt8} {o : Obj} (hk : fs.length = k) (hF : Fp (fun _ => False) w4 wi) (hrow : World.filesAt wi w4.heap.size (.slice a k cp) fs)
    (h5 : RowAppended 72 2 (wi.alloc o) w5 w4.heap.size (.slice a k cp) k (fileCells fs) (fileC f) g cap) :
    World.filesAt w5 w4.heap.size (.slice (some ⟨g, 0, none⟩) (k + 1) cap) (fs ++ [f]) ∧ Fp (fun _ => False) w4 w5 := by
  refine ⟨?_, ?_⟩
  · have h := h5.row
    unfold World.filesAt
    rw [fileCells_append, List.length_append, hk]
    simpa [fileCells] using h
  · exact (hF.trans' (Fp.alloc _ _ _)).trans h5.foot (fun _ h => h) (fun j hj e => by
      have := (World.ownsRow.lt hrow j e).1
      omega)

theorem file_own {w1 wr w6 : World} {ra : Option Addr} {k rc : Nat} {fs : List (List UInt8 × List UInt8)} {o : Obj} (hk : fs.length = k) (h : World.filesAt wr w1.heap.size (.slice ra k rc) fs) (h6 : Fp (fun _ => False) wr.drew w6) : (w6.alloc o).ownsRow w1.heap.size 72 2 (.slice ra k rc) k (fileCells fs) := by
  refine World.ownsRow.alloc ?_ _
  unfold World.filesAt at h
  rw [hk] at h
  exact Fp.ownsRow ((Fp.drew _ _).trans' h6) h (fun _ _ h => h)

theorem file_one (f : List UInt8 × List UInt8) : ∀ u ∈ fileC f, u.oneCell' = true := by
  intro u hu
  simp [fileC] at hu
  rcases hu with rfl | rfl <;> rfl

theorem file_base {w1 wr w6 : World} {o : Obj} (h : Fp (fun _ => False) w1 wr) (h6 : Fp (fun _ => False) wr.drew w6) : w1.heap.size ≤ (w6.alloc o).heap.size := by
  have := ((h.trans' (Fp.drew _ _)).trans' h6).size
  simp
  omega

set_option maxHeartbeats 4000000 in
set_option maxRecDepth 100000 in
theorem RefRestore_any (xs : List (List UInt8)) (v : Value) (w : World) (hin : StrsIn w v xs) (hx : ∀ x ∈ xs, x.length ≤ 16777216) (hl : xs.length ≤ 1099511627775) :
    Calls Tryz.prog 15 #[v] w fun e w' => RestRes xs w.heap.size e w' ∧ Fp (fun _ => False) w w' := by
  have HIn : Hid _ := hin
  obtain ⟨a, cap, rfl, _⟩ := hin
  by_cases hn : xs.length = 0
  · have hq : decide (0 < ((xs.length : Nat) : Int)) = false := decide_eq_false (by omega)
    have HN : Hid (Silo.restoreP xs = none) := by
      show _ = _
      rw [List.length_eq_zero_iff.1 hn]
      rfl
    rw [hn] at hq ⊢
    go_enter Tryz.func15, Tryz.ntmps15
    go_wp2_with fail
    go_loopw [6, 7] (fun ov iv wr => ov = .bool false ∧ iv = .int .i64 0 ∧ wr = w) (fun _ _ _ => 0)
    case atStart => exact ⟨rfl, rfl, rfl⟩
    case round =>
      obtain ⟨rfl, rfl, rfl⟩ := hrel
      go_wp2
      exact bodyPost_ret (v := .tuple #[.slice none 0 0, .int .i64 11]) (by simp [results, Tryz.results15, go_sem]) rfl ⟨RestRes.bad HN.out, Fp.refl _ _⟩
  · have hq : decide (0 < ((xs.length : Nat) : Int)) = true := decide_eq_true (by omega)
    have HP : Hid (Silo.restoreP xs = (Silo.chainP Silo.Ch.start xs).map Silo.Ch.files) := by
      show _ = _
      cases xs with
      | nil => simp at hn
      | cons x l => rfl
    obtain ⟨n, hnn⟩ : ∃ n, xs.length = n := ⟨_, rfl⟩
    rw [hnn] at hn hq hl ⊢
    have HNn : Hid _ := hnn
    clear hnn
    go_enter Tryz.func15, Tryz.ntmps15
    go_wp2_with fail
    go_loopw [4, 5, 6, 7] (fun mv fv ov iv wr => ∃ (j : Nat) (m : ByteArray) (fa : Option Addr) (fn fc : Nat) (ok : Bool), j ≤ n ∧ iv = .int .i64 (j : Nat) ∧ mv = .string m ∧ fv = .slice fa fn fc ∧ ov = .bool ok ∧ Hid (Fp (fun _ => False) w wr ∧
      ((ok = false ∧ Silo.chainP Silo.Ch.start (xs.take j) = none) ∨ ∃ c, ok = true ∧ Silo.chainP Silo.Ch.start (xs.take j) = some c ∧ m = S c.man ∧ c.man.length ≤ 16777216 ∧ World.strsAt wr w.heap.size (.slice fa fn fc) (c.kept.map Prod.snd)))) (fun _ _ ov iv _ => n - (intOf iv).toNat)
    case atStart => exact ⟨0, S [], none, 0, 0, true, Nat.zero_le _, rfl, rfl, rfl, by simp; omega, Fp.refl _ _, .inr ⟨Silo.Ch.start, rfl, rfl, rfl, by decide, ⟨rfl, .inl ⟨rfl, rfl⟩⟩⟩⟩
    case round =>
      obtain ⟨j, m, fa, fn, fc, ok, hj, rfl, rfl, rfl, rfl, HR⟩ := hrel
      rcases HR.out.2 with ⟨hok, hch⟩ | ⟨c, hok, hmm, hcc, hml, hrow⟩
      · subst hok
        have HN : Hid (Silo.restoreP xs = none) := by show _ = _; rw [HP.out, Silo.chainP_none hch]; rfl
        clear hch
        by_cases hjn : j < n
        · have qj : decide (((j : Nat) : Int) < ((n : Nat) : Int)) = true := decide_eq_true (by omega)
          go_wp2
          exact bodyPost_ret (v := .tuple #[.slice none 0 0, .int .i64 11]) (by simp [results, Tryz.results15, go_sem]) rfl ⟨RestRes.bad HN.out, HR.out.1⟩
        · have qj : decide (((j : Nat) : Int) < ((n : Nat) : Int)) = false := decide_eq_false (by omega)
          go_wp2
          exact bodyPost_ret (v := .tuple #[.slice none 0 0, .int .i64 11]) (by simp [results, Tryz.results15, go_sem]) rfl ⟨RestRes.bad HN.out, HR.out.1⟩
      · subst hok
        subst hcc
        have HC : Hid _ := And.intro hmm (And.intro (Silo.chainP_ok Silo.start_ok hmm) (And.intro hml hrow))
        clear hrow hmm
        by_cases hlast : j = n
        · have qj : decide (((j : Nat) : Int) < ((n : Nat) : Int)) = false := decide_eq_false (by omega)
          have HE : Hid (Silo.restoreP xs = some c.files) := by
            show _ = _
            have h1 := HC.out.1
            have h2 := HNn.out
            rw [List.take_of_length_le (by omega)] at h1
            rw [HP.out, h1]
            rfl
          go_wp2_with fail
          refine (RefLines_any c.man wr (by omega)).mono ?_
          rintro e w1 ⟨h1, h2⟩
          obtain ⟨oa, oc, ob, rfl, hor⟩ := lines_old (NF := c.kept.length) HC.out.2.1 (by simp) h1
          have HOld : Hid _ := hor
          have HF1 : Hid (Fp (fun _ => False) w w1) := HR.out.1.trans' h2
          have HFs : Hid (World.strsAt w1 w.heap.size (.slice fa fn fc) (c.kept.map Prod.snd)) := Fp.ownsRow h2 HC.out.2.2.2 (fun _ _ h => h)
          have hNF : c.kept.length ≤ 1099511627775 := by have := kept_len HC.out.2.1; omega
          obtain ⟨NF, hnf⟩ : ∃ NF, c.kept.length = NF := ⟨_, rfl⟩
          rw [hnf] at HOld hNF ⊢
          have HNF : Hid _ := hnf
          clear h1 h2 hor hnf qj
          go_wp2_with fail
          go_loopw [10, 11] (fun ov iv wi => ∃ (k : Nat) (ra : Option Addr) (rc : Nat), k ≤ NF ∧ iv = .int .i64 (k : Nat) ∧ ov = .slice ra k rc ∧ Hid (World.filesAt wi w1.heap.size (.slice ra k rc) (c.files.take k) ∧ Fp (fun _ => False) w1 wi)) (fun _ iv _ => NF - (intOf iv).toNat)
          case atStart => exact ⟨0, none, 0, Nat.zero_le _, rfl, rfl, ⟨rfl, .inl ⟨rfl, rfl⟩⟩, Fp.refl _ _⟩
          case round =>
            obtain ⟨wo, hwo⟩ : ∃ wo, wo = wr := ⟨_, rfl⟩
            obtain ⟨k, ra, rc, hk, rfl, rfl, HI⟩ := hrel
            by_cases hkl : k = NF
            · have qk : decide (((k : Nat) : Int) < ((NF : Nat) : Int)) = false := decide_eq_false (by omega)
              have HT : Hid (c.files.take k = c.files) := by
                show _ = _
                have := HNF.out
                exact List.take_of_length_le (by unfold Silo.Ch.files; simp; omega)
              go_wp2
              refine bodyPost_ret (v := .tuple #[.slice ra k rc, .int .i64 0]) (by simp [results, Tryz.results15, go_sem]) rfl ⟨RestRes.ok HE.out ?_, HF1.out.trans' HI.out.2⟩
              have := HI.out.1
              rw [HT.out] at this
              exact ownsRow_base this HF1.out.size
            · have qk : decide (((k : Nat) : Int) < ((NF : Nat) : Int)) = true := decide_eq_true (by omega)
              obtain ⟨p, hpk⟩ : ∃ p, c.kept[k]? = some p := by
                have := HNF.out
                exact ⟨c.kept[k]'(by omega), List.getElem?_eq_getElem (by omega)⟩
              obtain ⟨gl, hgl⟩ : ∃ g, oa = some ⟨g, 0, none⟩ := by
                rcases HOld.out.2 with ⟨_, h2⟩ | ⟨g', cap, cur, h3, _⟩
                · omega
                · cases h3; exact ⟨g', rfl⟩
              have hfn : fn = NF := by
                obtain ⟨a2, c2, h3⟩ := strsAt_form HFs.out
                have := HNF.out
                cases h3
                simpa using this
              subst hfn
              obtain ⟨gf, hgf⟩ : ∃ g, fa = some ⟨g, 0, none⟩ := by
                rcases HFs.out.2 with ⟨_, h2⟩ | ⟨g', cap, cur, h3, _⟩
                · have := HNF.out; rw [List.length_map] at h2; omega
                · cases h3; exact ⟨g', rfl⟩
              subst hgl
              subst hgf
              have hok := kept_ok HC.out.2.1 (List.mem_of_getElem? hpk)
              have hlo : p.1.lo ≤ 999999 := Nat.le_trans hok.le hok.hi
              have hhi : p.1.hi ≤ 999999 := hok.hi
              have HK : Hid (∀ W, Fp (fun _ => False) w1 W → W.cell? ⟨gl, k * 5, none⟩ = some (.int .i64 (p.1.lo : Nat)) ∧ W.cell? ⟨gl, k * 5 + 1, none⟩ = some (.int .i64 (p.1.hi : Nat)) ∧ W.cell? ⟨gf, k, none⟩ = some (.string (S p.2))) := by
                intro W hW
                refine ⟨lnsAt_cell (j := 0) (ls := c.kept.map Prod.fst) (l := p.1) (Fp.ownsRow hW HOld.out (fun _ _ h => h)) (by simp [hpk]) rfl, lnsAt_cell (j := 1) (ls := c.kept.map Prod.fst) (l := p.1) (Fp.ownsRow hW HOld.out (fun _ _ h => h)) (by simp [hpk]) rfl, ?_⟩
                have h1 := HNF.out
                have h2 := strsAt_cell (w := W) (base := w.heap.size) (g := gf) (cap := fc) (xs := c.kept.map Prod.snd) (by rw [List.length_map, h1]; exact Fp.ownsRow hW HFs.out (fun _ _ h => h)) k (by rw [List.length_map, h1]; omega)
                rw [h2]
                congr 3
                rw [List.getElem_map]
                congr 1
                rw [List.getElem?_eq_getElem (by omega)] at hpk
                exact Option.some.inj hpk
              have HPk : Hid (c.files.take (k + 1) = c.files.take k ++ [(Silo.nameOf p.1.lo p.1.hi, p.2)]) := by
                show _ = _
                rw [List.take_add_one]
                unfold Silo.Ch.files
                simp [hpk]
              have HL : Hid ((c.files.take k).length = k) := by
                have := HNF.out
                show _ = _
                unfold Silo.Ch.files
                simp
                omega
              have hs := HK.out wr HI.out.2
              clear hpk hok
              go_wp2_with fail
              go_region_held3 (fun w' => w'.cell? ⟨gl, k * 5, none⟩ = some (.int .i64 (p.1.lo : Nat)) ∧ w'.cell? ⟨gl, k * 5 + 1, none⟩ = some (.int .i64 (p.1.hi : Nat)) ∧ w'.cell? ⟨gf, k, none⟩ = some (.string (S p.2)))
                (first | go_keep | exact HK.out _ ((HI.out.2.trans' (Fp.drew _ _)).trans' H6.out) | exact HK.out _ (((HI.out.2.trans' (Fp.drew _ _)).trans' H6.out).trans' (Fp.alloc _ _ _)) | exact HK.out _ (file_next HL.out ((HI.out.2.trans' (Fp.drew _ _)).trans' H6.out) (Fp.ownsRow ((Fp.drew _ _).trans' H6.out) HI.out.1 (fun _ _ h => h)) H7.out).2)
                (first | (go_at_call 26; refine (RefName_any p.1.lo p.1.hi _ (by omega) (by omega)).mono ?_; rintro e w6 ⟨rfl, h6⟩; have H6 : Hid _ := h6; clear h6) | (refine step_append_row elemFile (by rfl) _ _ (by rfl) w1.heap.size (.slice ra k rc) k (fileCells (c.files.take k)) (fileC (Silo.nameOf p.1.lo p.1.hi, p.2)) (by rfl) (file_own HL.out HI.out.1 H6.out) ⟨w6.heap.size, 0, none⟩ (by rfl) rfl (file_one _) (row_new w6 (fileC _) _ _) (by omega) (file_base HI.out.2 H6.out) ?_; intro g7 cap7 w7 H7))
              go_wp2
              go_roundw
              case rel =>
                have h9 := file_next HL.out ((HI.out.2.trans' (Fp.drew _ _)).trans' H6.out) (Fp.ownsRow ((Fp.drew _ _).trans' H6.out) HI.out.1 (fun _ _ h => h)) H7.out
                exact ⟨k + 1, some ⟨g7, 0, none⟩, cap7, by omega, by go_num, rfl, by rw [HPk.out]; exact h9.1, h9.2⟩
              case measure => simp [intOf]; omega
        · have qj : decide (((j : Nat) : Int) < ((n : Nat) : Int)) = true := decide_eq_true (by omega)
          obtain ⟨s, hsj⟩ : ∃ s, xs[j]? = some s := by
            have := HNn.out
            exact ⟨xs[j]'(by omega), List.getElem?_eq_getElem (by omega)⟩
          have HSt : Hid _ := Silo.chainP_take (c := Silo.Ch.start) hsj
          have hsl := hx s (List.mem_of_getElem? hsj)
          obtain ⟨b, o, ha, kc⟩ : ∃ b o, a = some ⟨b, o, none⟩ ∧ wr.cell? ⟨b, o + j, none⟩ = some (.string (S s)) := by
            obtain ⟨a2, c2, h1, h2⟩ := StrsIn.fp HIn.out HR.out.1
            cases h1
            obtain ⟨b, o, h3, _, h5⟩ := h2 j s hsj
            exact ⟨b, o, h3, h5⟩
          subst ha
          clear hsj
          go_wp2_with fail
          refine (Refnext_any c HC.out.2.1 s (.slice fa fn fc) wr w.heap.size HC.out.2.2.2 hsl (by omega)).mono ?_
          rintro e w1 ⟨h1, h2⟩
          have HF1 : Hid (Fp (fun _ => False) w w1) := HR.out.1.trans' h2
          have HB : Hid _ := HR.out.1.size
          clear h2
          unfold NextRes at h1
          cases hst : Silo.stepR c s with
          | none =>
            rw [hst] at h1
            obtain ⟨m', a', n', c', rfl⟩ := h1
            have HS2 : Hid (Silo.chainP Silo.Ch.start (xs.take (j + 1)) = none) := by show _ = _; rw [HSt.out, HC.out.1]; exact hst
            clear hst
            go_wp2
            go_roundw
            case rel => exact ⟨j + 1, m', a', n', c', false, by omega, by go_num, rfl, rfl, rfl, HF1.out, .inl ⟨rfl, HS2.out⟩⟩
            case measure => simp [intOf]; omega
          | some c1 =>
            rw [hst] at h1
            obtain ⟨v1, rfl, hr1⟩ := h1
            obtain ⟨a', n', rfl⟩ := strsAt_form hr1
            have hm1 := Silo.stepR_man hst
            have HS2 : Hid (Silo.chainP Silo.Ch.start (xs.take (j + 1)) = some c1) := by show _ = _; rw [HSt.out, HC.out.1]; exact hst
            obtain ⟨nn, hnn⟩ : ∃ nn, (c1.kept.map Prod.snd).length = nn := ⟨_, rfl⟩
            rw [hnn] at hr1 ⊢
            have HR1 : Hid (World.strsAt w1 w.heap.size (.slice a' nn n') (c1.kept.map Prod.snd)) := ownsRow_base hr1 HB.out
            clear hst hr1 hnn
            go_wp2
            go_roundw
            case rel => exact ⟨j + 1, S c1.man, a', nn, n', true, by omega, by go_num, rfl, rfl, rfl, HF1.out, .inr ⟨c1, rfl, HS2.out, rfl, by omega, HR1.out⟩⟩
            case measure => simp [intOf]; omega

end Go.Proofs.YtbimkgmhfcgpmaaGreatDoor
