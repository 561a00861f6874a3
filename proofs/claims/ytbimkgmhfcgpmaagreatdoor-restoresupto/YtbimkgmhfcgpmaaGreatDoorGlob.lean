/- What the library's functions that the program calls ask of the variables; their contracts in our words. -/
import Derived.Test.YtbimkgmhfcgpmaaGreatDoorShelf
import Derived.Test.YtbimkgmhfcgpmaaGreatDoorPureFOne
import Derived.Test.YtbimkgmhfcgpmaaGreatDoorRefPart
namespace Go.Proofs.YtbimkgmhfcgpmaaGreatDoor
open Go.RowKit Go.Shelf Go.Sort

/-- The variables of the library, as far as they are read. -/
structure Gl (w : World) : Prop where
  max : ∃ m, w.cell? ⟨0, 0, none⟩ = some (.int .i64 m)
  tab : ∃ t f, w.heap[1]? = some (.cells (Lib.pow10Tab.map fun z => Value.int .u64 z).toArray t f)
  syn : ∃ ev, w.cell? ⟨2, 0, none⟩ = some ev ∧ (ev = .nilIface ∨ ∃ te pe, ev = .iface te pe)
  rng : ∃ ev, w.cell? ⟨3, 0, none⟩ = some ev ∧ (ev = .nilIface ∨ ∃ te pe, ev = .iface te pe)
  deb : w.cell? ⟨7, 15, none⟩ = some (.int .u8 4)
  size : 8 ≤ w.heap.size

theorem Gl.fp' {S : Nat → Prop} {w w' : World} (h : Gl w) (hf : Fp S w w') (hS : ∀ k, k < 8 → ¬ S k) : Gl w' := by
  have hc : ∀ (b o : Nat), b < 8 → w'.cell? ⟨b, o, none⟩ = w.cell? ⟨b, o, none⟩ := fun b o hb => hf.cell (Nat.lt_of_lt_of_le hb h.size) (hS b hb)
  refine ⟨?_, ?_, ?_, ?_, ?_, Nat.le_trans h.size hf.size⟩
  · rw [hc _ _ (by decide)]; exact h.max
  · rw [hf.block _ (Nat.lt_of_lt_of_le (by decide) h.size) (hS _ (by decide))]; exact h.tab
  · rw [hc _ _ (by decide)]; exact h.syn
  · rw [hc _ _ (by decide)]; exact h.rng
  · rw [hc _ _ (by decide)]; exact h.deb

theorem Gl.fp {w w' : World} (h : Gl w) (hf : Fp (fun _ => False) w w') : Gl w' := h.fp' hf (fun _ _ h => h)

theorem Fp.below0 {w w' : World} (h : Below w.heap.size w w') : Fp (fun _ => False) w w' := ⟨h.os, h.tape, h.output, h.size, fun k hk _ => h.block k hk⟩

theorem Fp.grown0 (w : World) (os : Array Obj) : Fp (fun _ => False) w (grow w os) := ⟨rfl, rfl, rfl, by simp, fun _ hk _ => heap_grow_old w os hk⟩

theorem S_of (s : ByteArray) : S s.data.toList = s := by
  apply ByteArray.ext
  rfl

theorem Itoa_any (n : Int) (h0 : -9223372036854775808 ≤ n) (h1 : n ≤ 9223372036854775807) (w : World) (hg : Gl w) :
    Calls Tryz.prog 54 #[.int .i64 n] w fun e w' => e = .returned (.string (S (Lib.itoa n))) ∧ Fp (fun _ => False) w w' := by
  obtain ⟨t, f, ht⟩ := hg.tab
  refine (Tryz.strconv_Itoa n h0 h1 w ?_).mono ?_
  · unfold Lib.TabIs World.var?
    have hn : ∀ x, Tryz.prog.globalNamed x = some 1 → (Tryz.prog.globalNamed x).bind (fun g => match w.heap[g]? with | some (.cells cs _ _) => some cs | _ => none) = some (Lib.pow10Tab.map fun z => Value.int .u64 z).toArray := by
      intro x hx
      rw [hx]
      simp only [Option.bind_some, ht]
    exact hn _ (by kernel_rfl)
  · rintro e w' ⟨rfl, k, os, rfl⟩
    exact ⟨rfl, (Fp.drewN _ _ _).trans' (Fp.grown0 _ _)⟩

/-- What Atoi gives. -/
def AtoiRes (s : List UInt8) (e : Ending) : Prop := match Lib.atoiAll s with
  | .ok v => e = .returned (.tuple #[.int .i64 v, .nilIface])
  | _ => ∃ (x : Int) (t : TypeId) (p : Value), e = .returned (.tuple #[.int .i64 x, .iface t p])

theorem Atoi_any (s : List UInt8) (w : World) (hl : s.length ≤ 281474976710656) (hg : Gl w) :
    Calls Tryz.prog 80 #[.string (S s)] w fun e w' => AtoiRes s e ∧ Fp (fun _ => False) w w' := by
  have hs : (S s).size = s.length := rfl
  have hd : (S s).data.toList = s := S_toList s
  unfold AtoiRes
  cases ha : Lib.atoiAll s with
  | ok v =>
    refine (Tryz.strconv_Atoi_ok (S s) (by rw [hs]; omega) v (by rw [hd]; exact ha) w).mono ?_
    rintro e w' ⟨rfl, rfl | ⟨t, rfl⟩⟩
    · exact ⟨rfl, Fp.refl _ _⟩
    · exact ⟨rfl, Fp.below0 (Lib.bytesWorld_below _ _ _)⟩
  | «syntax» =>
    obtain ⟨ev, h1, h2⟩ := hg.syn
    refine (Tryz.strconv_Atoi_syntax (S s) (by rw [hs]; exact hl) (by rw [hd]; exact ha) ev w h1 h2).mono ?_
    rintro e w' ⟨N, rfl, _, _, hb⟩
    exact ⟨⟨_, _, _, rfl⟩, Fp.below0 hb⟩
  | range =>
    obtain ⟨ev, h1, h2⟩ := hg.rng
    refine (Tryz.strconv_Atoi_range (S s) (by rw [hs]; exact hl) (by rw [hd]; exact ha) ev w h1 h2).mono ?_
    rintro e w' ⟨N, rfl, _, _, hb⟩
    exact ⟨⟨_, _, _, rfl⟩, Fp.below0 hb⟩

theorem Clone_any (s : List UInt8) (w : World) (hl : s.length ≤ 281474976710656) :
    Calls Tryz.prog 36 #[.string (S s)] w fun e w' => e = .returned (.string (S s)) ∧ Fp (fun _ => False) w w' := by
  go_enter Tryz.func36, Tryz.ntmps36
  go_wp2_with fail
  refine (Tryz.stringslite_Clone (S s) w hl).mono ?_
  rintro e w1 ⟨rfl, h1⟩
  have H1 : Hid _ := Fp.below0 h1
  clear h1
  go_wp2
  go_ret
  exact ⟨ret_val (by simp), H1.out⟩

/-! ### Texts cut at a byte -/
theorem indexByte_none {c : UInt8} : ∀ {s : List UInt8}, c ∉ s → Lib.indexByte s c = -1
  | [], _ => rfl
  | b :: s, h => by
    rw [Lib.indexByte, if_neg (by simp; rintro rfl; exact h List.mem_cons_self), indexByte_none (fun hm => h (List.mem_cons_of_mem _ hm))]
    rfl

theorem indexByte_hit {c : UInt8} (r : List UInt8) : ∀ {a : List UInt8}, c ∉ a → Lib.indexByte (a ++ c :: r) c = a.length
  | [], _ => by simp [Lib.indexByte]
  | b :: a, h => by
    rw [List.cons_append, Lib.indexByte, if_neg (by simp; rintro rfl; exact h List.mem_cons_self), indexByte_hit r (fun hm => h (List.mem_cons_of_mem _ hm)), if_neg (by simp)]
    simp

theorem cut_none {c : UInt8} {s : List UInt8} (h : c ∉ s) : Lib.cut s [c] = (s, [], false) := by
  unfold Lib.cut
  rw [Lib.index_one, indexByte_none h]
  rfl

theorem cut_hit {c : UInt8} (r : List UInt8) {a : List UInt8} (h : c ∉ a) : Lib.cut (a ++ c :: r) [c] = (a, r, true) := by
  unfold Lib.cut
  rw [Lib.index_one, indexByte_hit r h, if_pos (by omega)]
  simp [List.drop_append]

theorem Cut_any (s : List UInt8) (c : UInt8) (w : World) (hl : s.length < 4294967281) (hg : Gl w) :
    Calls Tryz.prog 79 #[.string (S s), .string (S [c])] w fun e w' => e = .returned (.tuple #[.string (S (Lib.cut s [c]).1), .string (S (Lib.cut s [c]).2.1), .bool (Lib.cut s [c]).2.2]) ∧ Fp (fun _ => False) w w' := by
  obtain ⟨m, hm⟩ := hg.max
  refine (Tryz.strings_Cut (S s) (S [c]) m w hl hm).mono ?_
  rintro e w' ⟨rfl, n, rfl⟩
  exact ⟨rfl, Fp.drewN _ _ _⟩

theorem split_pcs (c : UInt8) : ∀ (n : Nat) (s : List UInt8), s.length ≤ n → Lib.splitB (S [c]) 0 (Lib.countB (S s) (S [c])) (S s) = (Silo.pcs c s).map S ∧ Lib.countB (S s) (S [c]) + 1 = (Silo.pcs c s).length := by
  intro n
  induction n with
  | zero =>
    intro s hs
    have : s = [] := List.length_eq_zero_iff.1 (by omega)
    subst this
    have hm : Lib.indexB (S []) (S [c]) = -1 := by
      show Lib.index [] [c] = -1
      rw [Lib.index_one]
      rfl
    rw [Lib.countB_miss _ _ hm, Silo.pcs_none c [] (by simp)]
    exact ⟨rfl, rfl⟩
  | succ n ih =>
    intro s hs
    by_cases hc : c ∈ s
    · obtain ⟨a, r, rfl, ha⟩ := Silo.cut_at c s hc
      have hi : Lib.indexB (S (a ++ c :: r)) (S [c]) = (a.length : Nat) := by
        show Lib.index (a ++ c :: r) [c] = _
        rw [Lib.index_one, indexByte_hit r ha]
      have he : (S (a ++ c :: r)).extract (a.length + (S [c]).size) (S (a ++ c :: r)).size = S r := by
        rw [S_extract, S_toList]
        congr 1
        have h1 : (S [c]).size = 1 := rfl
        have h2 : (S (a ++ c :: r)).size = (a ++ c :: r).length := rfl
        rw [h1, h2]
        have h3 : (a ++ c :: r).drop (a.length + 1) = r := by
          rw [← List.drop_drop, List.drop_left]
          rfl
        rw [h3]
        exact List.take_of_length_le (by simp; omega)
      have he0 : (S (a ++ c :: r)).extract 0 (a.length + 0) = S a := by
        rw [S_take, S_toList]
        simp
      obtain ⟨i1, i2⟩ := ih r (by simp at hs; omega)
      rw [Lib.countB_hit (S (a ++ c :: r)) (S [c]) a.length (show 1 ≤ 1 by decide) hi, he, Silo.pcs_cut c a r ha, Nat.add_comm]
      refine ⟨?_, by rw [List.length_cons, ← i2]⟩
      rw [Lib.splitB, if_neg (by rw [hi]; simp), hi]
      rw [show ((a.length : Nat) : Int).toNat = a.length from rfl, he0, he, i1]
      rfl
    · have hm : Lib.indexB (S s) (S [c]) = -1 := by
        show Lib.index s [c] = -1
        rw [Lib.index_one, indexByte_none hc]
      rw [Lib.countB_miss _ _ hm, Silo.pcs_none c s hc]
      exact ⟨rfl, rfl⟩

theorem Split_any (s : List UInt8) (c : UInt8) (w : World) (hl : s.length < 4294967281) (hg : Gl w) :
    Calls Tryz.prog 65 #[.string (S s), .string (S [c])] w fun e w' => e = .returned (.slice (some ⟨w.heap.size, 0, none⟩) (Silo.pcs c s).length (Silo.pcs c s).length) ∧ w' = w.alloc (.cells (strCells (Silo.pcs c s)).toArray 9) := by
  obtain ⟨m, hm⟩ := hg.max
  refine (Tryz.strings_Split (S s) (S [c]) m w hl hm (show 1 ≤ 1 by decide)).mono ?_
  rintro e w' ⟨rfl, rfl⟩
  obtain ⟨h1, h2⟩ := split_pcs c s.length s (Nat.le_refl _)
  rw [h1, h2]
  refine ⟨rfl, ?_⟩
  simp [strCells, List.map_map, Function.comp_def]

theorem CutPre_any (s p : List UInt8) (w : World) :
    Calls Tryz.prog 42 #[.string (S s), .string (S p)] w fun e w' => e = .returned (.tuple #[.string (S (Lib.trimPrefix s p)), .bool (Lib.hasPrefix s p)]) ∧ w' = w := by
  refine (Tryz.strings_CutPrefix (S s) (S p) w).mono ?_
  rintro e w' ⟨rfl, rfl⟩
  exact ⟨rfl, rfl⟩

theorem CutSuf_any (s p : List UInt8) (w : World) (hl : s.length ≤ 9223372036854775807) :
    Calls Tryz.prog 64 #[.string (S s), .string (S p)] w fun e w' => e = .returned (.tuple #[.string (S (Lib.trimSuffix s p)), .bool (Lib.hasSuffix s p)]) ∧ w' = w := by
  refine (Tryz.strings_CutSuffix (S s) (S p) w hl).mono ?_
  rintro e w' ⟨rfl, rfl⟩
  exact ⟨rfl, rfl⟩

theorem repeat_zero (n : Nat) : Lib.repeatL [48] n = List.replicate n 48 := by
  induction n with
  | zero => rfl
  | succ n ih => rw [Lib.repeatL, ih]; rfl

theorem Repeat0_any (n : Nat) (w : World) (hn : n ≤ 16) :
    Calls Tryz.prog 98 #[.string (S [48]), .int .i64 n] w fun e w' => e = .returned (.string (S (List.replicate n 48))) ∧ Fp (fun _ => False) w w' := by
  refine (Tryz.strings_Repeat (S [48]) n w (by omega) (by show 1 * n ≤ _; omega)).mono ?_
  rintro e w' ⟨rfl, hb⟩
  refine ⟨?_, Fp.below0 hb⟩
  rw [← repeat_zero n]
  rfl

theorem IndexByte_any (s : List UInt8) (c : Int) (w : World) :
    Calls Tryz.prog 63 #[.string (S s), .int .u8 c] w fun e w' => e = .returned (.int .i64 (Lib.indexByte s c.toNat.toUInt8)) ∧ w' = w := by
  refine (Tryz.strings_IndexByte (S s) c w).mono ?_
  rintro e w' ⟨rfl, rfl⟩
  exact ⟨rfl, rfl⟩

end Go.Proofs.YtbimkgmhfcgpmaaGreatDoor
