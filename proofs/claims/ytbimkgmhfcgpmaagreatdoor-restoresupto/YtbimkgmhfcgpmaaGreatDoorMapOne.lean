/- MapKey, MapLaw, in one text. -/
import Derived.Test.YtbimkgmhfcgpmaaGreatDoorPFits
import Derived.Maps.OwnSet
import Derived.Maps.OwnOps
import Derived.DeepKeys4

/- Lines as the keys of a map. -/
namespace Go.Proofs.YtbimkgmhfcgpmaaGreatDoor
open Go.RowKit Go.Shelf Go.Maps

theorem Tryz.laidOut9 : laidOutB Tryz.prog = true := by kernel_rfl
theorem Tryz.rowPl : (86 : TypeId) < Tryz.prog.types.size := of_decide_eq_true (by kernel_rfl)
theorem Tryz.widePl : (match Tryz.prog.underlying 86 with | some (.array _ _) | some (.struct _) => true | _ => false) = true := by kernel_rfl
set_option maxRecDepth 100000 in
theorem lawPl : Keyed Tryz.prog 86 := Keyed.of_law (deep_law_laid Tryz.laidOut9 (m := 3) (by omega) Tryz.rowPl (by kernel_rfl) Tryz.widePl)

theorem wfU (x : Nat) (h : x < 18446744073709551616) : (Lit.int .u64 (x : Nat)).wf = true := by
  have h1 : IntKind.u64.wrap (x : Int) = x := by rw [IntKind.wrap_u64]; omega
  simp [Lit.wf, IntKind.max, IntKind.min, IntKind.bits, IntKind.signed]
  try omega

/-- A line as a key. -/
def kL (l : Silo.Ln) : Lit := .string (keyBytes [.int .i64 (l.lo : Nat), .int .i64 (l.hi : Nat), .int .i64 (l.size : Nat), .int .u64 (l.hash : Nat)])

theorem Tryz.keyTPl : Tryz.prog.keyType 86 = true := by kernel_rfl
theorem Tryz.cellsPl : Tryz.prog.cellsOf 86 = 4 := by kernel_rfl
theorem Tryz.cellsRg : Tryz.prog.cellsOf 84 = 2 := by kernel_rfl
theorem Tryz.cellsI : Tryz.prog.cellsOf 3 = 1 := by kernel_rfl
theorem Tryz.cellsU : Tryz.prog.cellsOf 39 = 1 := by kernel_rfl
theorem Tryz.typesN : ∃ n, Tryz.prog.types.size + 1 = n + 3 := ⟨Tryz.prog.types.size - 2, by
  have : 2 ≤ Tryz.prog.types.size := of_decide_eq_true (by kernel_rfl)
  omega⟩

theorem keyOf_pl {l : Silo.Ln} (h : l.Ok) : keyOf Tryz.prog 86 (plV l) = some (kL l) := by
  have h1 := h.le
  have h2 := h.hi
  have h3 := h.size
  have h4 := h.hash
  obtain ⟨n, hn⟩ := Tryz.typesN
  have w1 : (Lit.int .i64 (l.lo : Nat)).wf = true := WalkArith.wf_i64 (by omega)
  have w2 : (Lit.int .i64 (l.hi : Nat)).wf = true := WalkArith.wf_i64 (by omega)
  have w3 : (Lit.int .i64 (l.size : Nat)).wf = true := WalkArith.wf_i64 (by omega)
  have w4 : (Lit.int .u64 (l.hash : Nat)).wf = true := wfU l.hash h4
  unfold keyOf plV
  rw [hn]
  simp [Tryz.underlying86, Tryz.keyTPl, Value.formed, Tryz.cellsPl, Value.cells, Program.keyLits, Tryz.underlying84, Tryz.underlying3, Tryz.underlying39, Tryz.cellsRg, Tryz.cellsI, Tryz.cellsU, w1, w2, w3, w4, kL]
  rw [if_pos]
  · rfl
  · intro i hi
    match i, hi with
    | 0, _ => simp
    | 1, _ => simp

end Go.Proofs.YtbimkgmhfcgpmaaGreatDoor

/- Sets of lines; files by lines. -/
namespace Go.Proofs.YtbimkgmhfcgpmaaGreatDoor
open Go.RowKit Go.Shelf Go.Maps

theorem kL_inj {a b : Silo.Ln} (ha : a.Ok) (hb : b.Ok) (h : kL a = kL b) : a = b := by
  have h1 := keyOf_pl ha
  have h2 := keyOf_pl hb
  rw [← h] at h2
  have h3 := lawPl.inj h1 h2
  unfold plV at h3
  simp only [Value.agg.injEq, Array.mk.injEq, List.cons.injEq, Value.int.injEq, true_and, and_true, Int.natCast_inj] at h3
  cases a
  cases b
  simp_all

theorem kL_same {a b : Silo.Ln} (ha : a.Ok) (hb : b.Ok) : (kL a).sameKey (kL b) = decide (a = b) := by
  by_cases h : a = b
  · subst h
    rw [decide_eq_true rfl]
    unfold kL Lit.sameKey
    simp
  · rw [decide_eq_false h]
    exact sameKey_ne (fun e => h (kL_inj ha hb e))

theorem kL_key {l : Silo.Ln} (h : l.Ok) : WideAt.IsKeyLit (kL l) := lawPl.key (keyOf_pl h)

theorem zeroUnit (w : World) : (zeroValue 110).run Tryz.prog w = .ok (.agg #[]) w := by kernel_rfl
theorem zeroBrought (w : World) : (zeroValue 89).run Tryz.prog w = .ok (.agg #[.string ByteArray.empty]) w := by kernel_rfl

/-- Block b is a map whose keys are these lines. -/
def SetAt (w : World) (b n : Nat) (ls : List Silo.Ln) : Prop := w.ownsMap Tryz.prog 86 (unitElem (H := Unit)) b n (setOf (.agg []) (ls.map kL))

theorem SetAt.made (w : World) : SetAt (w.alloc (.map #[] 0)) w.heap.size 0 [] := World.ownsMap_made _ _ _ _

theorem SetAt.fp {S : Nat → Prop} {w w' : World} {b n : Nat} {ls : List Silo.Ln} (h : SetAt w b n ls) (hf : Fp S w w') (hS : ¬ S b) : SetAt w' b n ls := by
  obtain ⟨es, clock, hb, h2⟩ := h
  exact ⟨es, clock, by rw [hf.block b (heap_lt hb) hS]; exact hb, h2⟩

theorem SetAt.lt {w : World} {b n : Nat} {ls : List Silo.Ln} (h : SetAt w b n ls) : b < w.heap.size := World.ownsMap.lt h

theorem SetAt.put {w : World} {b n : Nat} {ls : List Silo.Ln} {l : Silo.Ln} (h : SetAt w b n ls) (hn : n < maxLen) (hl : l.Ok) :
    ∃ w', (Instr.mapUpdate 109 (.map (some b)) (.agg #[.int .i64 (l.lo : Nat), .int .i64 (l.hi : Nat), .int .i64 (l.size : Nat), .int .u64 (l.hash : Nat)]) (.agg #[])).run Tryz.prog w = .ok () w' ∧ SetAt w' b (n + 1) (ls ++ [l]) ∧ Fp (fun k => k = b) w w' := by
  obtain ⟨w', h1, h2, h3⟩ := World.ownsMap.update h lawPl Tryz.underlying109 hn (keyOf_pl hl) (unitElem_mk (H := Unit))
  refine ⟨w', h1, ?_, (Fp.of_grownBy h3).mono (fun k _ e => by simpa using e)⟩
  unfold SetAt
  rw [List.map_append, List.map_cons, List.map_nil, setOf_snoc]
  exact h2

theorem SetAt.look {w : World} {b n : Nat} {ls : List Silo.Ln} {l : Silo.Ln} (h : SetAt w b n ls) (hls : ∀ x ∈ ls, x.Ok) (hl : l.Ok) :
    (Instr.lookup 109 (.map (some b)) (.agg #[.int .i64 (l.lo : Nat), .int .i64 (l.hi : Nat), .int .i64 (l.size : Nat), .int .u64 (l.hash : Nat)]) true).run Tryz.prog w = .ok (.tuple #[.agg #[], .bool (decide (l ∈ ls))]) w := by
  obtain ⟨v, ps, h1, h2⟩ := World.ownsMap.look_ok h lawPl Tryz.underlying109 (zeroUnit w) (unitElem_mk (H := Unit)) (keyOf_pl hl)
  obtain ⟨rfl, _⟩ := unitElem_inv h2
  have h3 : Maps.has (setOf (.agg [] : DataW Unit) (ls.map kL)) (kL l) = decide (l ∈ ls) := by
    rw [has_setOf _ _ _ (by
      intro x hx
      obtain ⟨y, hy, rfl⟩ := List.mem_map.1 hx
      exact kL_key (hls y hy))]
    rw [List.any_map]
    by_cases hm : l ∈ ls
    · rw [decide_eq_true hm, List.any_eq_true]
      exact ⟨l, hm, by rw [Function.comp_apply, kL_same hl hl]; simp⟩
    · rw [decide_eq_false hm, List.any_eq_false]
      intro x hx
      rw [Function.comp_apply, kL_same (hls x hx) hl]
      simp only [decide_eq_true_eq]
      rintro rfl
      exact hm hx
  rw [← h3]
  exact h1

/-- A file as a map's element. -/
def fileElem : Value → Option (DataW Unit × List MemPlace)
  | .agg cs => match cs.toList with
    | [.string s] => some (.lit (.string s.data.toList), [])
    | _ => none
  | _ => none

theorem fileElem_mk (f : List UInt8) : fileElem (.agg #[.string (S f)]) = some (.lit (.string f), []) := by
  show some _ = _
  rw [S_toList]

theorem fileElem_inv {v : Value} {d : DataW Unit} {ps : List MemPlace} {f : List UInt8} (h : fileElem v = some (d, ps)) (hd : d = .lit (.string f)) : v = .agg #[.string (S f)] := by
  cases v with
  | agg cs =>
    unfold fileElem at h
    simp only at h
    split at h
    · rename_i s hs
      simp only [Option.some.injEq, Prod.mk.injEq] at h
      rw [hd] at h
      have h1 := h.1
      simp only [DataW.lit.injEq, Lit.string.injEq] at h1
      rw [← h1, S_of]
      congr 1
      exact Array.toList_inj.1 hs
    · cases h
  | _ => cases h

/-- Block b is a map that has these files by their lines (the first one counts). -/
def FilesAt (w : World) (b n : Nat) (F : List (Silo.Ln × List UInt8)) : Prop := ∃ D, w.ownsMap Tryz.prog 86 fileElem b n D ∧ ∀ l : Silo.Ln, l.Ok → D.atKey (kL l) (.lit (.string [])) = .lit (.string ((Silo.look F l).getD []))

theorem FilesAt.made (w : World) : FilesAt (w.alloc (.map #[] 0)) w.heap.size 0 [] := ⟨_, World.ownsMap_made _ _ _ _, fun _ _ => rfl⟩

theorem FilesAt.fp {S : Nat → Prop} {w w' : World} {b n : Nat} {F : List (Silo.Ln × List UInt8)} (h : FilesAt w b n F) (hf : Fp S w w') (hS : ¬ S b) : FilesAt w' b n F := by
  obtain ⟨D, ⟨es, clock, hb, h2⟩, h3⟩ := h
  exact ⟨D, ⟨es, clock, by rw [hf.block b (heap_lt hb) hS]; exact hb, h2⟩, h3⟩

theorem FilesAt.lt {w : World} {b n : Nat} {F : List (Silo.Ln × List UInt8)} (h : FilesAt w b n F) : b < w.heap.size := by
  obtain ⟨D, h1, _⟩ := h
  exact World.ownsMap.lt h1

theorem look_cons (l l' : Silo.Ln) (f : List UInt8) (F : List (Silo.Ln × List UInt8)) : Silo.look ((l, f) :: F) l' = if l = l' then some f else Silo.look F l' := by
  unfold Silo.look
  rw [List.find?_cons]
  by_cases h : l = l'
  · simp [h]
  · simp [h]

theorem FilesAt.put {w : World} {b n : Nat} {F : List (Silo.Ln × List UInt8)} {l : Silo.Ln} (f : List UInt8) (h : FilesAt w b n F) (hn : n < maxLen) (hl : l.Ok) :
    ∃ w', (Instr.mapUpdate 62 (.map (some b)) (.agg #[.int .i64 (l.lo : Nat), .int .i64 (l.hi : Nat), .int .i64 (l.size : Nat), .int .u64 (l.hash : Nat)]) (.agg #[.string (S f)])).run Tryz.prog w = .ok () w' ∧ FilesAt w' b (n + 1) ((l, f) :: F) ∧ Fp (fun k => k = b) w w' := by
  obtain ⟨D, h1, h2⟩ := h
  obtain ⟨w', e1, e2, e3⟩ := World.ownsMap.update h1 lawPl Tryz.underlying62 hn (keyOf_pl hl) (fileElem_mk f)
  refine ⟨w', e1, ⟨_, e2, fun l' hl' => ?_⟩, (Fp.of_grownBy e3).mono (fun k _ e => by simpa using e)⟩
  rw [look_cons]
  by_cases hll : l = l'
  · subst hll
    rw [if_pos rfl, atKey_put_same h1.isMap (kL_key hl)]
    rfl
  · rw [if_neg hll, atKey_put_other (fun e => hll (kL_inj hl hl' e.symm)), h2 l' hl']

theorem FilesAt.look {w : World} {b n : Nat} {F : List (Silo.Ln × List UInt8)} {l : Silo.Ln} (h : FilesAt w b n F) (hl : l.Ok) :
    (Instr.lookup 62 (.map (some b)) (.agg #[.int .i64 (l.lo : Nat), .int .i64 (l.hi : Nat), .int .i64 (l.size : Nat), .int .u64 (l.hash : Nat)]) false).run Tryz.prog w = .ok (.agg #[.string (S ((Silo.look F l).getD []))]) w := by
  obtain ⟨D, h1, h2⟩ := h
  obtain ⟨v, ps, e1, e2⟩ := World.ownsMap.lookup h1 lawPl Tryz.underlying62 (zeroBrought w) (fileElem_mk []) (keyOf_pl hl)
  rw [fileElem_inv e2 (h2 l hl)] at e1
  exact e1

end Go.Proofs.YtbimkgmhfcgpmaaGreatDoor
