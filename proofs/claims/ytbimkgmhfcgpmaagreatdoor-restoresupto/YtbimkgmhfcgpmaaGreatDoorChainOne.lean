/- ChainRest, ChainsTop, TLeaf, in one text. -/
import Derived.Test.YtbimkgmhfcgpmaaGreatDoorChainAdd

/- (*chain).restored. -/
namespace Silo

theorem gather_lens {M : Nat} {old : List (Ln × List UInt8)} (ho : ∀ p ∈ old, p.2.length ≤ M) : ∀ (ls : List Ln) (r : List UInt8) (fs : List (List UInt8)) (r' : List UInt8), r.length ≤ M → gather old ls r = some (fs, r') → ∀ f ∈ fs, f.length ≤ M
  | [], r, fs, r', _, h => by cases h; simp
  | l :: ls, r, fs, r', hr, h => by
    rw [gather] at h
    split at h
    · rename_i f hf
      split at h
      · rename_i fs' r2 hg
        cases h
        intro x hx
        rcases List.mem_cons.1 hx with rfl | hx
        · exact ho _ (look_mem hf)
        · exact gather_lens ho ls _ _ _ hr hg x hx
      · cases h
    · split at h
      · rename_i f r1 hp
        split at h
        · split at h
          · rename_i fs' r2 hg
            cases h
            have h1 := (partR_suffix hp).2
            have h2 := partR_lt hp
            intro x hx
            rcases List.mem_cons.1 hx with rfl | hx
            · omega
            · exact gather_lens ho ls _ _ _ (by omega) hg x hx
          · cases h
        · cases h
      · cases h

theorem stepR_lens {M : Nat} {c c' : Ch} {s : List UInt8} (hc : ∀ p ∈ c.kept, p.2.length ≤ M) (hs : s.length ≤ M) (h : stepR c s = some c') : ∀ p ∈ c'.kept, p.2.length ≤ M := by
  unfold stepR at h
  split at h
  · cases h
  · rename_i b hb
    have hbl : b.length ≤ s.length := by
      unfold arcBody at hb
      split at hb
      · cases hb; simp; omega
      · cases hb
    split at h
    · split at h
      · cases h
      · rename_i m r hp
        have h2 := partR_lt hp
        simp at h2
        split at h
        · cases h
        · split at h
          · rename_i fs hg
            cases h
            intro p hp'
            exact gather_lens hc _ _ _ _ (by omega) hg p.2 (List.of_mem_zip hp').2
          · cases h
    · cases h

end Silo

namespace Go.Proofs.YtbimkgmhfcgpmaaGreatDoor
open Go.RowKit Go.Shelf Go.Maps

theorem field_brought (f : List UInt8) (W : World) : (Instr.field 89 (.agg #[.string (S f)]) 0).run Tryz.prog W = .ok (.string (S f)) W := by
  simp [Instr.field, go_sem, asAgg]

theorem file_own' {base : Nat} {wr w6 : World} {ra : Option Addr} {k rc : Nat} {fs : List (List UInt8 × List UInt8)} {o : Obj} (hk : fs.length = k) (h : World.filesAt wr base (.slice ra k rc) fs) (h6 : Fp (fun _ => False) wr w6) : (w6.alloc o).ownsRow base 72 2 (.slice ra k rc) k (fileCells fs) := by
  refine World.ownsRow.alloc ?_ _
  unfold World.filesAt at h
  rw [hk] at h
  exact Fp.ownsRow h6 h (fun _ _ h => h)

theorem file_base' {w1 wr w6 : World} {o : Obj} (h : Fp (fun _ => False) w1 wr) (h6 : Fp (fun _ => False) wr w6) : w1.heap.size ≤ (w6.alloc o).heap.size := by
  have := (h.trans' h6).size
  simp
  omega

/-- What is behind the append: over the world ahead of the region, but for the row itself. -/
theorem file_next' {w w4 wi w5 : World} {a : Option Addr} {k cp g cap : Nat} {fs : List (List UInt8 × List UInt8)} {f : List UInt8 × List UInt8} {o : Obj} (hk : fs.length = k) (hrow : World.filesAt w4 w.heap.size (.slice a k cp) fs) (hw : Fp (fun _ => False) w w4) (hF : Fp (fun _ => False) w4 wi)
    (h5 : RowAppended 72 2 (wi.alloc o) w5 w.heap.size (.slice a k cp) k (fileCells fs) (fileC f) g cap) :
    World.filesAt w5 w.heap.size (.slice (some ⟨g, 0, none⟩) (k + 1) cap) (fs ++ [f]) ∧ Fp (fun _ => False) w w5 :=
  file_next hk (hw.trans' hF) (Fp.ownsRow hF hrow (fun _ _ h => h)) h5

theorem fp_behind {base k cp g cap : Nat} {wr wi w5 : World} {a : Option Addr} {fs : List (List UInt8 × List UInt8)} {cx : List Value} {o o' : Obj} (hrow : World.filesAt wr base (.slice a k cp) fs) (hF : Fp (fun _ => False) (wr.alloc o) wi)
    (h5 : RowAppended 72 2 (wi.alloc o') w5 base (.slice a k cp) k (fileCells fs) cx g cap) : Fp (fun i => base ≤ i ∧ i < wr.heap.size) (wr.alloc o) w5 :=
  (hF.trans' (Fp.alloc _ _ _)).trans h5.foot (fun _ h => h.elim) (fun _ _ e => World.ownsRow.lt hrow _ e)

set_option maxHeartbeats 4000000 in
set_option maxRecDepth 100000 in
theorem chainRestored_any (c : Silo.Ch) (F : List (Silo.Ln × List UInt8)) (n : Nat) (a : Option Addr) (cp cb mb : Nat) (w : World) (h : ChAt w cb mb c F n a cp) (hfl : ∀ p ∈ c.kept, p.2.length ≤ 16777216) (hg : Gl w) :
    Calls Tryz.prog 24 #[.pointer (some ⟨cb, 0, none⟩)] w fun e w' => (∃ a' c', e = .returned (.slice a' c.kept.length c') ∧ World.filesAt w' w.heap.size (.slice a' c.kept.length c') c.files) ∧ Fp (fun _ => False) w w' := by
  have HC : Hid _ := And.intro h hfl
  have HG : Hid _ := hg
  obtain ⟨_, cc0, cc1, cc2⟩ := boxed3 h.blk
  have hkl : c.kept.length ≤ 16777216 := Nat.le_trans (kept_len h.ok) h.man
  have hclt := heap_lt h.blk
  obtain ⟨N, hN⟩ : ∃ N, c.kept.length = N := ⟨_, rfl⟩
  rw [hN] at cc1 hkl ⊢
  have HN : Hid _ := hN
  clear h hg hN hfl
  go_enter Tryz.func24, Tryz.ntmps24
  go_wp2_with fail
  go_loopw [3, 11] (fun ov iv wr => ∃ (k : Nat) (ra : Option Addr) (rc : Nat), k ≤ N ∧ iv = .int .i64 (k : Nat) ∧ ov = .slice ra k rc ∧ Hid (World.filesAt wr w.heap.size (.slice ra k rc) (c.files.take k) ∧ Fp (fun _ => False) w wr)) (fun _ iv _ => N - (intOf iv).toNat)
  case atStart => exact ⟨0, none, 0, Nat.zero_le _, rfl, rfl, ⟨rfl, .inl ⟨rfl, rfl⟩⟩, Fp.refl _ _⟩
  case round =>
    obtain ⟨k, ra, rc, hk, rfl, rfl, HI⟩ := hrel
    by_cases hkn : k < N
    · have qk : decide (((k : Nat) : Int) < ((N : Nat) : Int)) = true := decide_eq_true (by omega)
      obtain ⟨p, hpk⟩ : ∃ p, c.kept[k]? = some p := by
        have := HN.out
        exact ⟨c.kept[k]'(by omega), List.getElem?_eq_getElem (by omega)⟩
      have hrow : wr.ownsRow (cb + 1) 86 4 (.slice a N cp) N (plCells (c.kept.map Prod.fst)) := by
        have h8 := HC.out.1.row
        have h9 := HN.out
        rw [h9] at h8
        exact Fp.ownsRow HI.out.2 h8 (fun _ _ h => h)
      obtain ⟨g, hg⟩ := plsAt_place hrow (by omega)
      subst hg
      have hlk : (c.kept.map Prod.fst)[k]? = some p.1 := by rw [List.getElem?_map, hpk]; rfl
      have c0 : wr.cell? ⟨g, k * 4, none⟩ = some (.int .i64 (p.1.lo : Nat)) := plsAt_cell (j := 0) hrow hlk rfl
      have c1 : wr.cell? ⟨g, k * 4 + 1, none⟩ = some (.int .i64 (p.1.hi : Nat)) := plsAt_cell (j := 1) hrow hlk rfl
      have c2 : wr.cell? ⟨g, k * 4 + 2, none⟩ = some (.int .i64 (p.1.size : Nat)) := plsAt_cell (j := 2) hrow hlk rfl
      have c3 : wr.cell? ⟨g, k * 4 + 3, none⟩ = some (.int .u64 (p.1.hash : Nat)) := plsAt_cell (j := 3) hrow hlk rfl
      have hpm := List.mem_of_getElem? hpk
      have hok := kept_ok HC.out.1.ok hpm
      have hlo : p.1.lo ≤ 999999 := Nat.le_trans hok.le hok.hi
      have hhi := hok.hi
      have hpl := HC.out.2 p hpm
      have HK : Hid (∀ W, Fp (fun i => w.heap.size ≤ i ∧ i < wr.heap.size) (wr.alloc (.cells #[.int .i64 (p.1.lo : Nat), .int .i64 (p.1.hi : Nat), .int .i64 (p.1.size : Nat), .int .u64 (p.1.hash : Nat)] 86)) W → W.cell? ⟨wr.heap.size, 0, none⟩ = some (.int .i64 (p.1.lo : Nat)) ∧ W.cell? ⟨wr.heap.size, 1, none⟩ = some (.int .i64 (p.1.hi : Nat)) ∧ W.cell? ⟨wr.heap.size, 2, none⟩ = some (.int .i64 (p.1.size : Nat)) ∧ W.cell? ⟨wr.heap.size, 3, none⟩ = some (.int .u64 (p.1.hash : Nat)) ∧ W.cell? ⟨cb, 2, none⟩ = some (.map (some mb)) ∧
          (Instr.lookup 62 (.map (some mb)) (.agg #[.int .i64 (p.1.lo : Nat), .int .i64 (p.1.hi : Nat), .int .i64 (p.1.size : Nat), .int .u64 (p.1.hash : Nat)]) false).run Tryz.prog W = .ok (.agg #[.string (S p.2)]) W) := fun W hW => by
        have hww : Fp (fun _ => False) w W := (HI.out.2.trans' (Fp.alloc _ _ _)).trans hW (fun _ h => h) (fun i hi h => absurd h.1 (by omega))
        rw [hW.cell (by simp) (by simp), hW.cell (by simp) (by simp), hW.cell (by simp) (by simp), hW.cell (by simp) (by simp)]
        refine ⟨cell_lit wr _ _ 0, cell_lit wr _ _ 1, cell_lit wr _ _ 2, cell_lit wr _ _ 3, (hww.cell (p := ⟨cb, 2, none⟩) hclt (fun h => h)).trans cc2, ?_⟩
        have h8 := FilesAt.look (l := p.1) (HC.out.1.map.fp hww (fun h => h)) hok
        rw [HC.out.1.inv p hpm] at h8
        exact h8
      have HPk : Hid (c.files.take (k + 1) = c.files.take k ++ [(Silo.nameOf p.1.lo p.1.hi, p.2)]) := by
        show _ = _
        rw [List.take_add_one]
        unfold Silo.Ch.files
        simp [hpk]
      have HL : Hid ((c.files.take k).length = k) := by
        have := HN.out
        show _ = _
        unfold Silo.Ch.files
        simp
        omega
      have HNm : Hid (∀ W, Fp (fun _ => False) (wr.alloc (.cells #[.int .i64 (p.1.lo : Nat), .int .i64 (p.1.hi : Nat), .int .i64 (p.1.size : Nat), .int .u64 (p.1.hash : Nat)] 86)) W → Calls Tryz.prog 35 #[.agg #[.int .i64 (p.1.lo : Nat), .int .i64 (p.1.hi : Nat)]] W fun e w' => e = .returned (.string (S (Silo.nameOf p.1.lo p.1.hi))) ∧ Fp (fun _ => False) (wr.alloc (.cells #[.int .i64 (p.1.lo : Nat), .int .i64 (p.1.hi : Nat), .int .i64 (p.1.size : Nat), .int .u64 (p.1.hash : Nat)] 86)) w') := fun W hW => by
        refine (RangeName_any p.1.lo p.1.hi W hlo hhi (HG.out.fp ((HI.out.2.trans' (Fp.alloc _ _ _)).trans' hW))).mono ?_
        rintro e w' ⟨rfl, h8⟩
        exact ⟨rfl, hW.trans' h8⟩
      have HCl : Hid (∀ W, Fp (fun _ => False) (wr.alloc (.cells #[.int .i64 (p.1.lo : Nat), .int .i64 (p.1.hi : Nat), .int .i64 (p.1.size : Nat), .int .u64 (p.1.hash : Nat)] 86)) W → Calls Tryz.prog 36 #[.string (S p.2)] W fun e w' => e = .returned (.string (S p.2)) ∧ Fp (fun _ => False) (wr.alloc (.cells #[.int .i64 (p.1.lo : Nat), .int .i64 (p.1.hi : Nat), .int .i64 (p.1.size : Nat), .int .u64 (p.1.hash : Nat)] 86)) w') := fun W hW => by
        refine (Clone_any p.2 W (by omega)).mono ?_
        rintro e w' ⟨rfl, h8⟩
        exact ⟨rfl, hW.trans' h8⟩
      have hs := HK.out _ (Fp.refl _ _)
      have hclr : cb < wr.heap.size := Nat.lt_of_lt_of_le hclt HI.out.2.size
      obtain ⟨nm, hnm⟩ : ∃ nm, Silo.nameOf p.1.lo p.1.hi = nm := ⟨_, rfl⟩
      rw [hnm] at HPk HNm
      clear hrow hlk hpk hok hnm hpm
      have hfld := field_brought p.2
      have HR : Hid (World.filesAt (wr.alloc (.cells #[.int .i64 (p.1.lo : Nat), .int .i64 (p.1.hi : Nat), .int .i64 (p.1.size : Nat), .int .u64 (p.1.hash : Nat)] 86)) w.heap.size (.slice ra k rc) (c.files.take k) ∧ Fp (fun _ => False) w (wr.alloc (.cells #[.int .i64 (p.1.lo : Nat), .int .i64 (p.1.hi : Nat), .int .i64 (p.1.size : Nat), .int .u64 (p.1.hash : Nat)] 86))) := ⟨World.ownsRow.alloc HI.out.1 _, HI.out.2.trans' (Fp.alloc _ _ _)⟩
      go_wp2_with fail
      go_region_held3 (fun W => W.cell? ⟨wr.heap.size, 0, none⟩ = some (.int .i64 (p.1.lo : Nat)) ∧ W.cell? ⟨wr.heap.size, 1, none⟩ = some (.int .i64 (p.1.hi : Nat)) ∧ W.cell? ⟨wr.heap.size, 2, none⟩ = some (.int .i64 (p.1.size : Nat)) ∧ W.cell? ⟨wr.heap.size, 3, none⟩ = some (.int .u64 (p.1.hash : Nat)) ∧ W.cell? ⟨cb, 2, none⟩ = some (.map (some mb)) ∧ (Instr.lookup 62 (.map (some mb)) (.agg #[.int .i64 (p.1.lo : Nat), .int .i64 (p.1.hi : Nat), .int .i64 (p.1.size : Nat), .int .u64 (p.1.hash : Nat)]) false).run Tryz.prog W = .ok (.agg #[.string (S p.2)]) W)
        (first | assumption | exact HK.out _ (Fp.drew _ _) | exact HK.out _ (HX.out.mono (fun _ _ h => h.elim)) | exact HK.out _ ((HX.out.trans' (Fp.alloc _ _ _)).mono (fun _ _ h => h.elim)) | exact HK7.out)
        (first | (go_at_call 35; refine (HNm.out _ (by first | exact HX.out | exact Fp.drew _ _)).mono ?_; rintro e w6 ⟨rfl, hx⟩; have HX : Hid _ := hx; clear hx) | (go_at_call 36; refine (HCl.out _ (by first | exact HX.out | exact Fp.drew _ _)).mono ?_; rintro e w6 ⟨rfl, hx⟩; have HX : Hid _ := hx; clear hx) | (refine step_append_row elemFile (by rfl) _ _ (by rfl) w.heap.size (.slice ra k rc) k (fileCells (c.files.take k)) (fileC (nm, p.2)) (by rfl) (file_own' HL.out HR.out.1 HX.out) ⟨w6.heap.size, 0, none⟩ (by rfl) rfl (file_one _) (row_new w6 (fileC _) _ _) (by omega) (file_base' HR.out.2 HX.out) ?_; intro g7 cap7 w7 H7; have HX7 : Hid _ := file_next' HL.out HR.out.1 HR.out.2 HX.out H7.out; have HK7 : Hid _ := HK.out w7 (fp_behind HI.out.1 HX.out H7.out)))
      all_goals
        clear hfld
        go_wp2
        go_roundw
        case rel => exact ⟨k + 1, some ⟨g7, 0, none⟩, cap7, by omega, by go_num, rfl, by rw [HPk.out]; exact HX7.out.1, HX7.out.2⟩
        case measure => simp [intOf]; omega
    · have qk : decide (((k : Nat) : Int) < ((N : Nat) : Int)) = false := decide_eq_false (by omega)
      have hke : k = N := by omega
      subst hke
      have HT : Hid (c.files.take k = c.files) := by
        show _ = _
        have := HN.out
        exact List.take_of_length_le (by unfold Silo.Ch.files; simp; omega)
      go_wp2
      go_ret
      refine ⟨⟨ra, rc, rfl, ?_⟩, HI.out.2⟩
      have := HI.out.1
      rw [HT.out] at this
      exact this

end Go.Proofs.YtbimkgmhfcgpmaaGreatDoor

/- chains.Restore, silo.Restore. -/
namespace Go.Proofs.YtbimkgmhfcgpmaaGreatDoor
open Go.RowKit Go.Shelf Go.Maps

/-- What chains.Restore leaves. -/
def CRes (xs : List (List UInt8)) (base : Nat) (e : Ending) (w' : World) : Prop := match Silo.restoreP xs with
  | some fs => ∃ a c, e = .returned (.tuple #[.slice a fs.length c, .bool true]) ∧ World.filesAt w' base (.slice a fs.length c) fs
  | none => e = .returned (.tuple #[.slice none 0 0, .bool false])

theorem CRes.bad {xs : List (List UInt8)} {base : Nat} {w' : World} (h : Silo.restoreP xs = none) : CRes xs base (.returned (.tuple #[.slice none 0 0, .bool false])) w' := by
  unfold CRes; rw [h]

theorem CRes.ok {xs : List (List UInt8)} {c : Silo.Ch} {base k : Nat} {w' : World} {a : Option Addr} {cp : Nat} (h : Silo.restoreP xs = some c.files) (hk : c.kept.length = k) (hr : World.filesAt w' base (.slice a k cp) c.files) : CRes xs base (.returned (.tuple #[.slice a k cp, .bool true])) w' := by
  unfold CRes; rw [h]
  have : c.files.length = k := by unfold Silo.Ch.files; simp [hk]
  subst this
  exact ⟨a, cp, rfl, hr⟩

set_option maxHeartbeats 4000000 in
set_option maxRecDepth 100000 in
theorem chainsRestore_any (xs : List (List UInt8)) (v : Value) (w : World) (hin : StrsIn w v xs) (hx : ∀ x ∈ xs, x.length ≤ 16777216) (hl : xs.length ≤ 1099511627) (hg : Gl w) :
    Calls Tryz.prog 13 #[v] w fun e w' => CRes xs w.heap.size e w' ∧ Fp (fun _ => False) w w' := by
  have HIn : Hid _ := hin
  have HG : Hid _ := hg
  obtain ⟨a, cap, rfl, _⟩ := hin
  clear hg
  by_cases hn : xs.length = 0
  · have HN : Hid (Silo.restoreP xs = none) := by
      show _ = _
      rw [List.length_eq_zero_iff.1 hn]
      rfl
    rw [hn]
    go_enter Tryz.func13, Tryz.ntmps13
    go_wp2
    exact bodyPost_ret (v := .tuple #[.slice none 0 0, .bool false]) (by simp [results, Tryz.results13, go_sem]) rfl ⟨CRes.bad HN.out, Fp.refl _ _⟩
  · have HP : Hid (Silo.restoreP xs = (Silo.chainP Silo.Ch.start xs).map Silo.Ch.files) := by
      show _ = _
      cases xs with
      | nil => simp at hn
      | cons x l => rfl
    have hmm := @run_makeMap Tryz.prog
    obtain ⟨n, hnn⟩ : ∃ n, xs.length = n := ⟨_, rfl⟩
    rw [hnn] at hn hl ⊢
    have HNn : Hid _ := hnn
    clear hnn
    have hq : (((n : Nat) : Int) == 0) = false := by simp; omega
    go_enter Tryz.func13, Tryz.ntmps13
    go_wp2_with fail
    clear hmm
    have hst : ChAt ((w.alloc (.map #[] 0)).alloc (.cells #[.string ByteArray.empty, .slice none 0 0, .map (some w.heap.size)] 65)) (w.heap.size + 1) w.heap.size Silo.Ch.start [] 0 none 0 := by
      refine ⟨?_, ⟨rfl, .inl ⟨rfl, rfl⟩⟩, (FilesAt.made w).fp (Fp.alloc (fun _ => False) _ _) (fun h => h), by intro p hp; simp [Silo.Ch.start] at hp, Silo.start_ok, by decide, by omega⟩
      have h8 := heap_new (w.alloc (.map #[] 0)) (.cells #[.string ByteArray.empty, .slice none 0 0, .map (some w.heap.size)] 65)
      rw [show (w.alloc (.map #[] 0)).heap.size = w.heap.size + 1 by simp] at h8
      exact h8
    have HSt : Hid _ := hst
    clear hst
    go_loopw [14] (fun iv wr => ∃ (k : Nat), k ≤ n ∧ iv = .int .i64 (k : Nat) ∧ Hid (Fp (fun _ => False) w wr ∧
      ∃ c F m a' cp', Silo.chainP Silo.Ch.start (xs.take k) = some c ∧ ChAt wr (w.heap.size + 1) w.heap.size c F m a' cp' ∧ m ≤ k * 16777216 ∧ ∀ p ∈ c.kept, p.2.length ≤ 16777216)) (fun iv _ => n - (intOf iv).toNat)
    case atStart => exact ⟨0, Nat.zero_le _, rfl, (Fp.alloc _ _ _).trans' (Fp.alloc _ _ _), Silo.Ch.start, [], 0, none, 0, rfl, HSt.out, by omega, by intro p hp; simp [Silo.Ch.start] at hp⟩
    case round =>
      obtain ⟨k, hk, rfl, HI⟩ := hrel
      obtain ⟨c, F, m, a', cp', h1, h2, h3, h4⟩ := HI.out.2
      have HC : Hid _ := And.intro h1 (And.intro h2 (And.intro h3 h4))
      clear h1 h2 h3 h4
      by_cases hkn : k < n
      · have qk : decide (((k : Nat) : Int) < ((n : Nat) : Int)) = true := decide_eq_true (by omega)
        obtain ⟨s, hsk⟩ : ∃ s, xs[k]? = some s := by
          have := HNn.out
          exact ⟨xs[k]'(by omega), List.getElem?_eq_getElem (by omega)⟩
        have HStep : Hid _ := Silo.chainP_take (c := Silo.Ch.start) hsk
        have hsl := hx s (List.mem_of_getElem? hsk)
        obtain ⟨b, o, ha, kc⟩ : ∃ b o, a = some ⟨b, o, none⟩ ∧ wr.cell? ⟨b, o + k, none⟩ = some (.string (S s)) := by
          obtain ⟨a2, c2, h1, h2⟩ := StrsIn.fp HIn.out HI.out.1
          cases h1
          obtain ⟨b, o, h3, _, h5⟩ := h2 k s hsk
          exact ⟨b, o, h3, h5⟩
        subst ha
        clear hsk
        go_wp2_with fail
        refine (chainAdd_any c F m a' cp' (w.heap.size + 1) w.heap.size s wr HC.out.2.1 hsl (by have := HC.out.2.2.1; omega) (HG.out.fp HI.out.1)).mono ?_
        rintro e w1 ⟨h1, h2⟩
        have HF1 : Hid (Fp (fun _ => False) w w1) := HI.out.1.trans h2 (fun _ h => h) (fun i hi h => by omega)
        clear h2
        unfold AddRes at h1
        cases hst : Silo.stepR c s with
        | none =>
          rw [hst] at h1
          subst h1
          have HN : Hid (Silo.restoreP xs = none) := by
            show _ = _
            rw [HP.out, Silo.chainP_none (j := k + 1) (by rw [HStep.out, HC.out.1]; exact hst)]
            rfl
          clear hst
          go_wp2
          exact bodyPost_ret (v := .tuple #[.slice none 0 0, .bool false]) (by simp [results, Tryz.results13, go_sem]) rfl ⟨CRes.bad HN.out, HF1.out⟩
        | some c1 =>
          rw [hst] at h1
          obtain ⟨rfl, F1, n1, a1, cp1, h5, h6⟩ := h1
          have HS2 : Hid (Silo.chainP Silo.Ch.start (xs.take (k + 1)) = some c1) := by show _ = _; rw [HStep.out, HC.out.1]; exact hst
          have HC1 : Hid _ := And.intro h5 (And.intro h6 (Silo.stepR_lens HC.out.2.2.2 hsl hst))
          clear hst h5 h6
          go_wp2
          go_roundw
          case rel => exact ⟨k + 1, by omega, by go_num, HF1.out, c1, F1, n1, a1, cp1, HS2.out, HC1.out.1, by have h7 := HC1.out.2.1; have h8 := HC.out.2.2.1; omega, HC1.out.2.2⟩
          case measure => simp [intOf]; omega
      · have qk : decide (((k : Nat) : Int) < ((n : Nat) : Int)) = false := decide_eq_false (by omega)
        have HE : Hid (Silo.restoreP xs = some c.files) := by
          show _ = _
          have h1 := HC.out.1
          have h2 := HNn.out
          rw [List.take_of_length_le (by omega)] at h1
          rw [HP.out, h1]
          rfl
        go_wp2_with fail
        refine (chainRestored_any c F m a' cp' (w.heap.size + 1) w.heap.size wr HC.out.2.1 HC.out.2.2.2 (HG.out.fp HI.out.1)).mono ?_
        rintro e w1 ⟨⟨a1, c1, rfl, h1⟩, h2⟩
        obtain ⟨N, hN⟩ : ∃ N, c.kept.length = N := ⟨_, rfl⟩
        rw [hN] at h1 ⊢
        have H1 : Hid _ := And.intro h1 (And.intro h2 hN)
        clear h1 h2 hN
        go_wp2
        exact bodyPost_ret (v := .tuple #[.slice a1 N c1, .bool true]) (by simp [results, Tryz.results13, go_sem]) rfl ⟨CRes.ok HE.out H1.out.2.2 (ownsRow_base H1.out.1 HI.out.1.size), HI.out.1.trans' H1.out.2.1⟩

set_option maxHeartbeats 4000000 in
theorem siloRestore_any (xs : List (List UInt8)) (v : Value) (w : World) (hin : StrsIn w v xs) (hx : ∀ x ∈ xs, x.length ≤ 16777216) (hl : xs.length ≤ 1099511627) (hg : Gl w) :
    Calls Tryz.prog 5 #[v] w fun e w' => RestRes xs w.heap.size e w' ∧ Fp (fun _ => False) w w' := by
  have HIn : Hid _ := And.intro hin (And.intro hx (And.intro hl hg))
  obtain ⟨a, cap, rfl, _⟩ := hin
  obtain ⟨n, hnn⟩ : ∃ n, xs.length = n := ⟨_, rfl⟩
  have HIn : Hid (StrsIn w (.slice a n cap) xs ∧ (∀ x ∈ xs, x.length ≤ 16777216) ∧ xs.length ≤ 1099511627 ∧ Gl w) := by rw [← hnn]; exact HIn.out
  rw [hnn]
  clear hx hl hg hnn
  go_enter Tryz.func5, Tryz.ntmps5
  go_wp2_with fail
  refine (chainsRestore_any xs (.slice a n cap) w HIn.out.1 HIn.out.2.1 HIn.out.2.2.1 HIn.out.2.2.2).mono ?_
  rintro e w1 ⟨h1, h2⟩
  have H2 : Hid _ := h2
  clear h2
  unfold CRes at h1
  cases hr : Silo.restoreP xs with
  | none =>
    rw [hr] at h1
    subst h1
    have HN : Hid _ := hr
    clear hr
    go_wp2
    exact bodyPost_ret (v := .tuple #[.slice none 0 0, .int .i64 11]) (by simp [results, Tryz.results5, go_sem]) rfl ⟨RestRes.bad HN.out, H2.out⟩
  | some fs =>
    rw [hr] at h1
    obtain ⟨a1, c1, rfl, h3⟩ := h1
    have HN : Hid _ := And.intro hr h3
    obtain ⟨N, hN⟩ : ∃ N, fs.length = N := ⟨_, rfl⟩
    rw [hN] at HN ⊢
    clear hr h3 hN
    go_wp2
    exact bodyPost_ret (v := .tuple #[.slice a1 N c1, .int .i64 0]) (by simp [results, Tryz.results5, go_sem]) rfl ⟨RestRes.ok HN.out.1 HN.out.2, H2.out⟩

end Go.Proofs.YtbimkgmhfcgpmaaGreatDoor

/- silolaw's sameFiles (of lists that are the same), handTexts, Book.next. -/
namespace Go.Proofs.YtbimkgmhfcgpmaaGreatDoor
open Go.RowKit Go.Shelf

/-- Texts to be copied: where they lie. -/
def StrSrc (W : World) (src : Value) (ys : List (List UInt8)) : Prop :=
  ∃ a c, src = .slice a ys.length c ∧ (ys = [] ∨ ∃ b off, a = some ⟨b, off, none⟩ ∧ ∀ j u, (strCells ys)[j]? = some u → W.cell? ⟨b, off + j, none⟩ = some u)

structure AppendedT (W w' : World) (base : Nat) (v : Value) (xs ys : List (List UInt8)) (v' : Value) : Prop where
  row : World.strsAt w' base v' (xs ++ ys)
  foot : Fp (fun k => v.ownBlock = some k) W w'
  lies : ∀ k, v'.ownBlock = some k → v.ownBlock = some k ∨ W.heap.size ≤ k

theorem strs_one (ys : List (List UInt8)) : ∀ u ∈ strCells ys, u.oneCell' = true := by
  intro u hu
  unfold strCells at hu
  rw [List.mem_map] at hu
  obtain ⟨x, _, rfl⟩ := hu
  rfl

theorem StrsIn.src {w : World} {v : Value} {xs : List (List UInt8)} (h : StrsIn w v xs) : StrSrc w v xs := by
  obtain ⟨a, c, e, h⟩ := h
  refine ⟨a, c, e, ?_⟩
  cases xs with
  | nil => exact .inl rfl
  | cons x l =>
    right
    obtain ⟨b, o, ha, _, _⟩ := h 0 x rfl
    refine ⟨b, o, ha, fun j u hj => ?_⟩
    unfold strCells at hj
    rw [List.getElem?_map] at hj
    cases hx : (x :: l)[j]? with
    | none => rw [hx] at hj; cases hj
    | some y =>
      rw [hx] at hj
      cases hj
      obtain ⟨b', o', ha', _, h5⟩ := h j y hx
      rw [ha] at ha'
      cases ha'
      exact h5

theorem run_append_strs {W : World} (ty : TypeId) (base : Nat) (v : Value) (xs ys : List (List UInt8)) (hown : World.strsAt W base v xs) (src : Value) (hsrc : StrSrc W src ys) (hl : xs.length + ys.length ≤ 1099511627776) (hbase : base ≤ W.heap.size) :
    ∃ v' w', (Builtin.append_ #[22, 22] ty #[v, src]).run Tryz.prog W = .ok v' w' ∧ AppendedT W w' base v xs ys v' := by
  obtain ⟨i0, hi, hz0, hz1, hz2⟩ := info_parts Tryz.infoStr
  obtain ⟨a, c, rfl, hc⟩ := hsrc
  by_cases hy : ys = []
  · subst hy
    have hform : ∃ b n cap, v = .slice b n cap ∧ n ≤ cap := by
      rcases hown.2 with ⟨h1, h2⟩ | ⟨g, cap, cur, h3, _, _, h4, _⟩
      · exact ⟨none, 0, 0, h1, Nat.le_refl _⟩
      · exact ⟨_, _, _, h3, h4⟩
    obtain ⟨b, n, cap, rfl, hle⟩ := hform
    refine ⟨_, W, run_append_nothing (P := Tryz.prog) W 22 22 ty 9 i0 Tryz.underlying22 hi b n cap hle _ ?_, ?_⟩
    · cases a with
      | none => exact Src.ofNil W Tryz.underlying22 c
      | some ad => exact Src.ofSlice W Tryz.underlying22 ad 0 c [] (by simp) (fun j u h => by simp at h) (fun u h => by simp at h)
    · exact ⟨by simpa using hown, Fp.refl _ _, fun k h => .inl h⟩
  · rcases hc with hc | ⟨b, off, rfl, hc⟩
    · exact absurd hc hy
    · have hpos : 0 < ys.length := List.length_pos_iff.2 hy
      obtain ⟨g, cap, w', hr, h1, h2, h3, h4⟩ := run_append_lies (P := Tryz.prog) W 22 ty base 9 i0 _ 1 16 Tryz.underlying22 hi hz0 hz1 hz2 rfl (by decide) v xs.length (strCells xs) hown ⟨b, off, none⟩ ys.length c (strCells ys) (by simp [strCells])
        (fun j u hj => by have := hc j u hj; unfold Addr.add; split <;> simp_all) (strs_one ys) hpos (by unfold maxLen; omega) (by omega) hbase _ rfl
      refine ⟨_, w', hr, ?_, Fp.mono (Fp.of_grownBy h2) (fun _ _ e => e.symm), fun k hk => ?_⟩
      · unfold World.strsAt
        rw [List.length_append, strCells_append]
        exact h1
      · simp only [Value.ownBlock, Option.some.injEq] at hk
        subst hk
        exact h3.imp id (fun e => Nat.le_of_eq e.symm)

theorem wpList_append_strs {ops : Array Oper} {rest : List Oper} {o : Oper} {a : Act} {Q : Exit → Act → World → Prop} {W : World} (hgd : o.guard = none) (s x : Operand)
    (ho : o.op = .call { callee := .builtin .append, args := #[s, x], argTypes := #[22, 22] })
    (base : Nat) (v : Value) (xs ys : List (List UInt8)) (src : Value) (hs : a.eval s = v) (hx : a.eval x = src) (hown : World.strsAt W base v xs) (hsrc : StrSrc W src ys) (hl : xs.length + ys.length ≤ 1099511627776) (hbase : base ≤ W.heap.size)
    (h : ∀ v' w', Hid (AppendedT W w' base v xs ys v') → wpList Tryz.prog ops Q rest (a.put o.dst v') w') :
    wpList Tryz.prog ops Q (o :: rest) a W := by
  refine wpList_plain hgd fun K hK => ?_
  obtain ⟨v', w', hr, h1⟩ := run_append_strs (W := W) o.type base v xs ys hown src hsrc hl hbase
  unfold Oper.wp execOp
  simp only [ho, resolve, invoke, builtin, Sem.run_bind, Sem.run_pure, Result.andThen_ok, List.map_toArray, List.map_cons, List.map_nil, hs, hx, hr]
  exact hK _ _ (h v' w' h1)

theorem filesAt_cell {w : World} {base g cap : Nat} {xs : List (List UInt8 × List UInt8)} {k : Nat} {f : List UInt8 × List UInt8} (h : World.filesAt w base (.slice (some ⟨g, 0, none⟩) xs.length cap) xs) (hk : xs[k]? = some f) : w.cell? ⟨g, k * 2, none⟩ = some (.string (S f.1)) ∧ w.cell? ⟨g, k * 2 + 1, none⟩ = some (.string (S f.2)) := by
  have key : ∀ (xs : List (List UInt8 × List UInt8)) (k : Nat), xs[k]? = some f → (fileCells xs)[k * 2]? = some (.string (S f.1)) ∧ (fileCells xs)[k * 2 + 1]? = some (.string (S f.2)) := by
    intro xs
    induction xs with
    | nil => intro k hk; simp at hk
    | cons x l ih =>
      intro k hk
      cases k with
      | zero => simp at hk; subst hk; exact ⟨rfl, rfl⟩
      | succ k =>
        obtain ⟨h1, h2⟩ := ih k (by simpa using hk)
        have e1 : (k + 1) * 2 = k * 2 + 2 := by omega
        have e2 : fileCells (x :: l) = .string (S x.1) :: .string (S x.2) :: fileCells l := rfl
        rw [e1, e2]
        exact ⟨by simpa using h1, by simpa using h2⟩
  obtain ⟨h1, h2⟩ := key xs k hk
  have hkl : k < xs.length := (List.getElem?_eq_some_iff.1 hk).1
  have c1 := World.ownsRow.cellAt h (k * 2) (by omega)
  have c2 := World.ownsRow.cellAt h (k * 2 + 1) (by omega)
  exact ⟨c1.trans h1, c2.trans h2⟩

theorem filesAt_some {w : World} {base k cap : Nat} {a : Option Addr} {xs : List (List UInt8 × List UInt8)} (h : World.filesAt w base (.slice a k cap) xs) (hk : 0 < xs.length) : k = xs.length ∧ ∃ g, a = some ⟨g, 0, none⟩ ∧ g < w.heap.size := by
  obtain ⟨g, cap', e, _, h3⟩ := World.ownsRow.form h hk
  simp only [Value.slice.injEq] at e
  exact ⟨e.2.1, g, e.1, h3⟩

set_option maxHeartbeats 1000000 in
set_option maxRecDepth 100000 in
theorem sameFiles_eq (xs : List (List UInt8 × List UInt8)) (B1 B2 : Nat) (v v' : Value) (w : World) (h1 : World.filesAt w B1 v xs) (h2 : World.filesAt w B2 v' xs) (hl : xs.length ≤ 1099511627776) :
    Calls Tryz.prog 16 #[v, v'] w fun e w' => e = .returned (.bool true) ∧ Fp (fun _ => False) w w' := by
  have H : Hid _ := And.intro h1 h2
  obtain ⟨a1, c1, rfl⟩ := ownsRow_form h1
  obtain ⟨a2, c2, rfl⟩ := ownsRow_form h2
  obtain ⟨N, hN⟩ : ∃ N, xs.length = N := ⟨_, rfl⟩
  have H : Hid (World.filesAt w B1 (.slice a1 N c1) xs ∧ World.filesAt w B2 (.slice a2 N c2) xs ∧ xs.length = N) := by rw [← hN]; exact ⟨H.out.1, H.out.2, rfl⟩
  rw [hN] at hl ⊢
  clear hN h1 h2
  go_enter Tryz.func16, Tryz.ntmps16
  go_wp2_with fail
  go_loopw [5] (fun iv wr => ∃ k : Nat, k ≤ N ∧ iv = .int .i64 k ∧ Hid (Fp (fun _ => False) w wr)) (fun iv _ => N - (intOf iv).toNat)
  case atStart => exact ⟨0, by omega, rfl, Fp.refl _ _⟩
  case round =>
    obtain ⟨k, hk, rfl, HR⟩ := hrel
    by_cases hlt : k < N
    · have hkl : k < xs.length := by rw [H.out.2.2]; exact hlt
      obtain ⟨_, g1, e1, hb1⟩ := filesAt_some H.out.1 (by omega)
      obtain ⟨_, g2, e2, hb2⟩ := filesAt_some H.out.2.1 (by omega)
      subst e1 e2
      obtain ⟨f, hf⟩ : ∃ f, xs[k]? = some f := ⟨xs[k], List.getElem?_eq_getElem hkl⟩
      have q1 := H.out.1
      have q2 := H.out.2.1
      rw [← H.out.2.2] at q1 q2
      obtain ⟨x0, x1⟩ := filesAt_cell q1 hf
      obtain ⟨y0, y1⟩ := filesAt_cell q2 hf
      rw [← HR.out.cell (p := ⟨g1, k * 2, none⟩) hb1 (fun h => h)] at x0
      rw [← HR.out.cell (p := ⟨g1, k * 2 + 1, none⟩) hb1 (fun h => h)] at x1
      rw [← HR.out.cell (p := ⟨g2, k * 2, none⟩) hb2 (fun h => h)] at y0
      rw [← HR.out.cell (p := ⟨g2, k * 2 + 1, none⟩) hb2 (fun h => h)] at y1
      clear q1 q2 hf hkl
      have kN : (k : Int) < (N : Int) := by omega
      go_wp2_with fail
      go_quiet (fail)
      go_wp2
      go_roundw
      case rel => exact ⟨k + 1, by omega, by go_num, HR.out.trans' (Fp.drewN _ _ _)⟩
      case measure => simp [intOf]; omega
    · obtain rfl : k = N := by omega
      go_wp2
      go_ret
      exact ⟨ret_val (by simp), HR.out⟩

/-- The text that marks what lies behind. -/
def behind : List UInt8 := [98, 101, 104, 105, 110, 100]

set_option maxRecDepth 100000 in
theorem handTexts_nil (w : World) : Calls Tryz.prog 14 #[.slice none 0 0] w fun e w' => e = .returned (.slice none 0 0) ∧ w' = w := by
  have heq : ∀ u : World, (binOp .eql 22 (.slice none 0 0) (.slice none 0 0)).run Tryz.prog u = .ok (.bool true) u := fun u => run_eql_nil_slice u 22 9 none 0 0 0 0 Tryz.underlying22
  go_enter Tryz.func14, Tryz.ntmps14
  go_wp2
  go_ret
  exact ⟨ret_val (by simp), rfl⟩

set_option maxHeartbeats 1000000 in
set_option maxRecDepth 100000 in
theorem handTexts_some (ad : Addr) (c : Nat) (xs : List (List UInt8)) (w : World) (hin : StrsIn w (.slice (some ad) xs.length c) xs) (hl : xs.length ≤ 16777216) :
    Calls Tryz.prog 14 #[.slice (some ad) xs.length c] w fun e w' => ∃ v, e = .returned v ∧ World.strsAt w' w.heap.size v (xs ++ [behind, behind, behind]) ∧ Fp (fun _ => False) w w' := by
  have H : Hid _ := hin
  clear hin
  have heq : ∀ u : World, (binOp .eql 22 (.slice (some ad) xs.length c) (.slice none 0 0)).run Tryz.prog u = .ok (.bool false) u := fun u => Lib.run_eql_slice_nil u 22 9 (some ad) xs.length c 0 0 Tryz.underlying22
  go_enter Tryz.func14, Tryz.ntmps14
  go_wp2_with (first | (at_builtin; refine wpList_append_strs rfl _ _ rfl w.heap.size (.slice none 0 0) [] xs _ rfl rfl ?c1 ?c2 ?c3 ?c4 ?_; rotate_left 4; intro v1 w1 HA) | (at_builtin; refine wpList_append_strs rfl _ _ rfl w.heap.size v1 ([] ++ xs) [behind, behind, behind] _ rfl rfl ?c5 ?c6 ?c7 ?c8 ?_; rotate_left 4; intro v2 w2 HB))
  case c1 => exact ⟨rfl, .inl ⟨rfl, rfl⟩⟩
  case c2 => exact StrsIn.src H.out
  case c3 => simp; omega
  case c4 => exact Nat.le_refl _
  case c5 => exact Fp.ownsRow (Fp.alloc (fun _ => False) _ _) HA.out.row (fun _ _ h => h)
  case c6 => exact ⟨_, _, rfl, .inr ⟨w1.heap.size, 0, rfl, fun j u hj => by rw [Nat.zero_add, cell_lit, List.getElem?_toArray]; exact hj⟩⟩
  case c7 => simp; omega
  case c8 => have := HA.out.foot.size; first | omega | (simp; omega)
  go_ret
  refine ⟨v2, ret_val (by simp), ?_, ?_⟩
  · have h := HB.out.row
    rw [List.nil_append] at h
    exact h
  · exact ((HA.out.foot.mono (fun k _ h => (by simp [Value.ownBlock] at h : False).elim)).trans' (Fp.alloc _ _ _)).trans HB.out.foot (fun _ h => h) (fun k hk h => (by have := (World.ownsRow.lt HA.out.row k h).1; omega : False))

end Go.Proofs.YtbimkgmhfcgpmaaGreatDoor
