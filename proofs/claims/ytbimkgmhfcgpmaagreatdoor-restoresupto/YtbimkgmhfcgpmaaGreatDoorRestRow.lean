/- silolaw.Restores answers true at every input of bulk at most 1048576, and leaves what was handed in as it was; the card. Conditions: none but the row's own. -/
import Derived.Test.YtbimkgmhfcgpmaaGreatDoorTRestOne
import Derived.Test.YtbimkgmhfcgpmaaGreatDoorCards
import Derived.Test.YtbimkgmhfcgpmaaGreatDoorTie
import Derived.WalkKit
import Derived.Deep.DeepHandedRow
import Derived.Lib.LaidTab
import Derived.LaidSub
import Derived.Lay
import Derived.Shelf.Vars
namespace Go.Proofs.YtbimkgmhfcgpmaaGreatDoor.restores
open Go.ChangeShapes Go.WideShapes Go.ChangeAt Go.RowKit

theorem own : ownKnob Tryz.prog.godebug = none := by kernel_rfl
theorem laidOut : laidOutB Tryz.prog = true := by kernel_rfl

theorem gPow : Tryz.prog.globalNamed "internal/strconv.uint64pow10" = some 1 := by kernel_rfl
theorem gDeb : Tryz.prog.globalNamed "math/bits.deBruijn64tab" = some 7 := by kernel_rfl
theorem gSyn : Tryz.prog.globalNamed "strconv.ErrSyntax" = some 2 := by kernel_rfl
theorem gRng : Tryz.prog.globalNamed "strconv.ErrRange" = some 3 := by kernel_rfl

theorem one {W : World} (name : String) (d : DataW Unit) (hL : laidMetH Tryz.prog Rows.restoresUptoRow.laid W) (h : (Rows.restoresUptoRow.laid.filter fun x => x.1 == name) = [(name, d)]) (hd : d.handleName? = none) : laidMet Tryz.prog [(name, d)] W := by
  have := hL.filter (fun x => x.1 == name)
  rw [h] at this
  unfold laidMetH at this
  simpa [hd] using this

theorem pow {W : World} (hL : laidMetH Tryz.prog Rows.restoresUptoRow.laid W) : Lib.TabIs Tryz.prog W "internal/strconv.uint64pow10" .u64 Lib.pow10Tab :=
  Lib.tabIs_of_head (rest := []) (n := 20) (t := (Tryz.prog.globals[1]?.map (·.type)).getD 0) (e := 39) gPow (by kernel_rfl) (by kernel_rfl) Tryz.underlying39 (by kernel_rfl) (by kernel_rfl) (one "internal/strconv.uint64pow10" _ hL (by kernel_rfl) rfl)

def debTab : List Int := [0, 1, 56, 2, 57, 49, 28, 3, 61, 58, 42, 50, 38, 29, 17, 4, 62, 47, 59, 36, 45, 43, 51, 22, 53, 39, 33, 30, 24, 18, 12, 5, 63, 55, 48, 27, 60, 41, 37, 16, 46, 35, 44, 21, 52, 32, 23, 11, 54, 26, 40, 15, 34, 20, 31, 10, 25, 14, 19, 9, 13, 8, 7, 6]

theorem deb {W : World} (hL : laidMetH Tryz.prog Rows.restoresUptoRow.laid W) : Lib.TabIs Tryz.prog W "math/bits.deBruijn64tab" .u8 debTab :=
  Lib.tabIs_of_head (rest := []) (n := 64) (t := (Tryz.prog.globals[7]?.map (·.type)).getD 0) (e := 5) gDeb (by kernel_rfl) (by kernel_rfl) Tryz.underlying5 (by kernel_rfl) (by kernel_rfl) (one "math/bits.deBruijn64tab" _ hL (by kernel_rfl) rfl)

/-- A sentinel's cell holds an interface value. -/
theorem iface_cell {W : World} {name tn : String} {d : DataW Unit} {g : Nat} {t : TypeId} {ms : Array (String × TypeId)} (hg : Tryz.prog.globalNamed name = some g) (hty : (Tryz.prog.globals[g]?).map (·.type) = some t) (ht : Tryz.prog.underlying t = some (.interface ms))
    (h : laidMet Tryz.prog [(name, .iface tn d)] W) : ∃ ev, W.cell? ⟨g, 0, none⟩ = some ev ∧ (ev = .nilIface ∨ ∃ te pe, ev = .iface te pe) := by
  obtain ⟨ps, ⟨g', t', cs, fuel, p, q, hg', ht', hvar, hd, _, _⟩, _⟩ := h
  obtain rfl := Option.some.inj (hg.symm.trans hg')
  obtain rfl := Option.some.inj (hty.symm.trans ht')
  obtain ⟨_, u, v, hc, _⟩ := iface_of_trod ht hd
  obtain rfl : cs = #[.iface u v] := by cases cs; simp_all
  have hc0 := World.var?_cell hg hvar 0
  exact ⟨.iface u v, by simpa using hc0, .inr ⟨u, v, rfl⟩⟩

set_option maxRecDepth 100000 in
theorem row7 : (((begin Tryz.prog (fun _ _ => 0) default).world.heap[7]?).bind Obj.row?).isSome = true := by kernel_rfl

theorem gl {W : World} (hL : laidMetH Tryz.prog Rows.restoresUptoRow.laid W) (hsh : W.ShapedOpen Tryz.prog) : Gl W where
  max := cell_of_shapedOpen_int (g := 0) (t := 3) (zero := #[.int .i64 0]) hsh (of_decide_eq_true (by kernel_rfl)) (by kernel_rfl) rfl (by kernel_rfl) (by kernel_rfl) Tryz.underlying3
  tab := by
    have h := pow hL
    unfold Lib.TabIs World.var? at h
    rw [gPow] at h
    simp only [Option.bind_some] at h
    split at h
    · rename_i cs t f hh
      cases h
      exact ⟨t, f, hh⟩
    · cases h
  syn := iface_cell (t := 146) gSyn (by kernel_rfl) Tryz.underlying146 (one "strconv.ErrSyntax" Rows.laid_strconv_ErrSyntax hL (by kernel_rfl) (by kernel_rfl))
  rng := iface_cell (t := 146) gRng (by kernel_rfl) Tryz.underlying146 (one "strconv.ErrRange" Rows.laid_strconv_ErrRange hL (by kernel_rfl) (by kernel_rfl))
  deb := (deb hL).cell gDeb 15 (by decide)
  size := by
    obtain ⟨⟨zero, t⟩, hz⟩ := Option.isSome_iff_exists.1 row7
    obtain ⟨cs, hh, _⟩ := hsh.1 7 zero t (of_decide_eq_true (by kernel_rfl)) hz
    exact heap_lt hh

/-- What the bound gives. -/
theorem short {H : Type} {d : DataW H} (hk : Rows.uptoSmall H [d] = true) : Rows.uptoBulk d ≤ 1048576 := by
  have h : Rows.uptoBulkAll [d] ≤ 1048576 := of_decide_eq_true hk
  simp only [Rows.uptoBulkAll] at h
  omega

set_option maxRecDepth 100000 in
theorem contract (H : Type) (enc : TypeId × Value → H) (W : World) (base : Nat) (args : Array Value) (ds gs : List (DataW H)) (before : List MemPlace)
    (hval : ∀ (j : Nat) t v, Tryz.f3.params[j]? = some t → args[j]? = some v → Value.okWide Tryz.prog W .any base t v)
    (hW : DataW.Whole enc Tryz.prog Tryz.f3.params.toList Rows.restoresSpec.vars false W args.toList ds gs before) (hk : Rows.uptoSmall H (ds ++ gs) = true) (hL : laidMetH Tryz.prog Rows.restoresUptoRow.laid W) (hsh : W.ShapedOpen Tryz.prog) :
    Calls Tryz.prog 3 args W fun e W' => ∃ v, e = .returned v ∧ Rows.restoresSpec.post enc Tryz.prog Tryz.f3 false true false false W args v W' := by
  have hW' := hW
  obtain ⟨p, q, hA0, hV, rfl, hfz, hnd⟩ := hW
  have hA : DataW.TrodAll enc Tryz.prog W 0 (fun _ => true) true Tryz.f3.params.toList args.toList ds p := hA0
  rw [Tryz.params3] at hA hval
  obtain ⟨v0, vs0, d0, ds0, p0, q0, hargs, rfl, rfl, h0, r0⟩ := trodAll_cons hA
  obtain ⟨rfl, rfl, rfl⟩ := trodAll_nil r0
  obtain rfl : args = #[v0] := by cases args; simp_all
  obtain ⟨rfl, rfl⟩ := trodVars_none hV
  obtain ⟨xs, hin, hnil, hxl, hxn⟩ := open_texts (hval 0 22 v0 rfl rfl) h0
  clear hA0
  simp only [List.append_nil] at hW' hk
  have hb := short hk
  have hlt : ∀ x ∈ p0, x.block < W.heap.size := fun x hx => hW'.lt x hx
  refine (Restores_walk v0 xs W hin hnil (fun x hx => by have := hxl x hx; omega) (by omega) (gl hL hsh)).mono fun e W' ⟨he, hf⟩ => ?_
  subst he
  have hbl : Below W.heap.size W W' := ⟨hf.os, hf.tape, hf.output, hf.size, fun k hk => hf.block k hk (fun h => h)⟩
  exact ⟨_, rfl, post_of_fp (pa := p0) (pv := []) hW' hf (fun _ _ _ => trodAll_cons_mk (shut_bool Tryz.underlying4 _) trodAll_mk0)
    (fun sp hsp => by
      have := trodAll_cons_mk (enc := enc) (w := W') (base := 0) (spare := sp) (held := true) (Go.WideElems.Trod_stays laidOut (by kernel_rfl) (of_decide_eq_true (by kernel_rfl)) h0 (fun x hx => hbl.same (hlt x hx)) hsp) trodAll_mk0
      simp only [List.append_nil] at this
      exact this) (fun _ _ => rfl) (by simp)
    (ok_one (by kernel_rfl) rfl (okWide_bool_mk Tryz.underlying4 _))⟩

/-- A world for the witness: the settled one, each listed variable holding what its initialiser lays. -/
noncomputable def laidWorld (os : Os) : World := World.laidAll Tryz.prog os Rows.restoresUptoRow.laid

set_option maxRecDepth 100000 in
theorem laid_met (os : Os) : laidMet Tryz.prog Rows.restoresUptoRow.laid ((laidWorld os).forCall (fun _ _ => 0) ⟨#[], #[.slice none 0 0], []⟩).memory :=
  laidMet_laidAll #[.slice none 0 0] (by kernel_rfl) (by kernel_rfl)

set_option maxRecDepth 100000 in
theorem reads (os : Os) {H : Type} (enc : TypeId × Value → H) : ∃ places, DataW.whole enc Tryz.prog ((laidWorld os).forCall (fun _ _ => 0) ⟨#[], #[.slice none 0 0], []⟩).memory Tryz.f3.params.toList Rows.restoresSpec.vars false #[Value.slice none 0 0].toList 8 = some ([.nil], [], places) :=
  ⟨[], by kernel_rfl⟩

end Go.Proofs.YtbimkgmhfcgpmaaGreatDoor.restores
