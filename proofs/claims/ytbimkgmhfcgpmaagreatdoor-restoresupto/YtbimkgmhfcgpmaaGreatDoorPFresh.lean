/- snapshots.Fresh. -/
import Derived.Test.YtbimkgmhfcgpmaaGreatDoorMapOne
import Derived.Test.YtbimkgmhfcgpmaaGreatDoorRefNext
namespace Go.Proofs.YtbimkgmhfcgpmaaGreatDoor
open Go.RowKit Go.Shelf Go.Maps

theorem plCells_length (ls : List Silo.Ln) : (plCells ls).length = ls.length * 4 := by
  induction ls with
  | nil => rfl
  | cons l ls ih =>
    rw [show plCells (l :: ls) = plC l ++ plCells ls from rfl, List.length_append, ih, List.length_cons]
    show 4 + _ = _
    omega

theorem plsAt_cell {w : World} {base g cap n k j : Nat} {ls : List Silo.Ln} {l : Silo.Ln} {u : Value} (h : w.ownsRow base 86 4 (.slice (some ⟨g, 0, none⟩) n cap) n (plCells ls)) (hk : ls[k]? = some l) (hj : (plC l)[j]? = some u) : w.cell? ⟨g, k * 4 + j, none⟩ = some u := by
  have hjl : j < 4 := by
    rcases Nat.lt_or_ge j 4 with h' | h'
    · exact h'
    · rw [List.getElem?_eq_none (by simpa [plC] using h')] at hj; cases hj
  have hx : (plCells ls)[k * 4 + j]? = some u := by
    have e := List.take_append_drop k ls
    have hkl : k < ls.length := by
      rcases Nat.lt_or_ge k ls.length with h' | h'
      · exact h'
      · rw [List.getElem?_eq_none h'] at hk; cases hk
    rw [← e, plCells_append, List.getElem?_append_right (by rw [plCells_length, List.length_take]; omega), plCells_length, List.length_take, Silo.drop_at hk]
    have : k * 4 + j - min k ls.length * 4 = j := by rw [Nat.min_eq_left (by omega)]; omega
    rw [this, show plCells (l :: ls.drop (k + 1)) = plC l ++ plCells (ls.drop (k + 1)) from rfl, List.getElem?_append_left (by simpa [plC] using hjl)]
    exact hj
  have h1 := World.ownsRow.cells h (g := g) rfl (k * 4 + j) _ hx
  simp only [Addr.add] at h1
  by_cases h0 : k * 4 + j = 0
  · rw [h0] at h1 ⊢; simpa using h1
  · rw [if_neg h0] at h1
    simpa using h1

/-- A row of lines that is not empty has a place. -/
theorem plsAt_place {w : World} {base n cap : Nat} {a : Option Addr} {ls : List Silo.Ln} (h : w.ownsRow base 86 4 (.slice a n cap) n (plCells ls)) (hn : 0 < n) : ∃ g, a = some ⟨g, 0, none⟩ := by
  rcases h.2 with ⟨_, h2⟩ | ⟨g', cap, cur, h3, _⟩
  · omega
  · cases h3; exact ⟨g', rfl⟩

/-- One line more in a row of the call's own. -/
theorem pl_next {wa wi w5 : World} {B : Nat} {a : Option Addr} {cp g cap n : Nat} {fs : List Silo.Ln} {l : Silo.Ln} {o : Obj} (hn : fs.length = n) (hB : wa.heap.size ≤ B) (hF : Fp (fun _ => False) wa wi) (hrow : wi.ownsRow B 86 4 (.slice a n cp) n (plCells fs))
    (h5 : RowAppended 86 4 (wi.alloc o) w5 B (.slice a n cp) n (plCells fs) (plC l) g cap) :
    (fs ++ [l]).length = n + 1 ∧ w5.ownsRow B 86 4 (.slice (some ⟨g, 0, none⟩) (n + 1) cap) (n + 1) (plCells (fs ++ [l])) ∧ Fp (fun _ => False) wa w5 ∧ Fp (fun k => B ≤ k) wi w5 := by
  have hv : ∀ k, (Value.slice a n cp).ownBlock = some k → B ≤ k := fun k hk => (World.ownsRow.lt hrow k hk).1
  refine ⟨by simp [hn], ?_, ?_, ?_⟩
  · have h := h5.row
    rw [plCells_append]
    simpa [plCells] using h
  · exact (hF.trans' (Fp.alloc _ _ _)).trans h5.foot (fun _ h => h) (fun j hj e => by have := hv j e; omega)
  · exact (Fp.alloc (fun k => B ≤ k) wi o).trans h5.foot (fun _ h => h) (fun j _ e => hv j e)

set_option maxHeartbeats 4000000 in
set_option maxRecDepth 100000 in
theorem pFresh_any (ls bs : List Silo.Ln) (va vb : Value) (B1 B2 : Nat) (w : World) (ha : World.plsAt w B1 va ls) (hb : World.plsAt w B2 vb bs) (hla : ls.length ≤ 16777216) (hlb : bs.length ≤ 16777216) (hoa : ∀ l ∈ ls, l.Ok) (hob : ∀ l ∈ bs, l.Ok) :
    Calls Tryz.prog 32 #[va, vb] w fun e w' => (∃ a c, e = .returned (.slice a (ls.filter fun l => decide (l ∉ bs)).length c) ∧ World.plsAt w' w.heap.size (.slice a (ls.filter fun l => decide (l ∉ bs)).length c) (ls.filter fun l => decide (l ∉ bs))) ∧ Fp (fun _ => False) w w' := by
  have hmm := @run_makeMap Tryz.prog
  obtain ⟨aa, ca, rfl⟩ := ownsRow_form ha
  obtain ⟨ab, cb, rfl⟩ := ownsRow_form hb
  have HA : Hid _ := And.intro ha hoa
  have HBb : Hid _ := And.intro hb hob
  obtain ⟨na, hna⟩ : ∃ n, ls.length = n := ⟨_, rfl⟩
  obtain ⟨nb, hnb⟩ : ∃ n, bs.length = n := ⟨_, rfl⟩
  have HNa : Hid _ := hna
  have HNb : Hid _ := hnb
  unfold World.plsAt at HA HBb
  rw [hna] at HA hla ⊢
  rw [hnb] at HBb hlb ⊢
  clear ha hb hoa hob hna hnb
  go_enter Tryz.func32, Tryz.ntmps32
  go_wp2_with fail
  go_loopw [16] (fun iv wr => ∃ k : Nat, k ≤ nb ∧ iv = .int .i64 (k : Nat) ∧ Hid (SetAt wr w.heap.size k (bs.take k) ∧ Fp (fun _ => False) w wr)) (fun iv _ => nb - (intOf iv).toNat)
  case atStart => exact ⟨0, Nat.zero_le _, rfl, SetAt.made w, Fp.alloc _ _ _⟩
  case round =>
    obtain ⟨k, hk, rfl, HI⟩ := hrel
    by_cases hkl : k < nb
    · have qk : decide (((k : Nat) : Int) < ((nb : Nat) : Int)) = true := decide_eq_true (by omega)
      obtain ⟨g, hg⟩ := plsAt_place HBb.out.1 (by omega)
      subst hg
      obtain ⟨l, hlk⟩ : ∃ l, bs[k]? = some l := by
        have := HNb.out
        exact ⟨bs[k]'(by omega), List.getElem?_eq_getElem (by omega)⟩
      have hrow := Fp.ownsRow HI.out.2 HBb.out.1 (fun _ _ h => h)
      have c0 : wr.cell? ⟨g, k * 4, none⟩ = some (.int .i64 (l.lo : Nat)) := plsAt_cell (j := 0) hrow hlk rfl
      have c1 : wr.cell? ⟨g, k * 4 + 1, none⟩ = some (.int .i64 (l.hi : Nat)) := plsAt_cell (j := 1) hrow hlk rfl
      have c2 : wr.cell? ⟨g, k * 4 + 2, none⟩ = some (.int .i64 (l.size : Nat)) := plsAt_cell (j := 2) hrow hlk rfl
      have c3 : wr.cell? ⟨g, k * 4 + 3, none⟩ = some (.int .u64 (l.hash : Nat)) := plsAt_cell (j := 3) hrow hlk rfl
      obtain ⟨w2, hrun, hset, hf2⟩ := SetAt.put (l := l) (HI.out.1.fp (Fp.alloc (fun _ => False) wr (.cells #[.int .i64 (l.lo : Nat), .int .i64 (l.hi : Nat), .int .i64 (l.size : Nat), .int .u64 (l.hash : Nat)] 86)) (fun h => h)) (by unfold maxLen; omega) (HBb.out.2 l (List.mem_of_getElem? hlk))
      have HT : Hid (bs.take (k + 1) = bs.take k ++ [l]) := by show _ = _; rw [List.take_add_one, hlk]; rfl
      have HS : Hid _ := And.intro hset hf2
      have hklt : w.heap.size < wr.heap.size := HI.out.1.lt
      clear hrow hlk hset hf2
      go_wp2
      go_roundw
      case rel =>
        refine ⟨k + 1, by omega, by go_num, by rw [HT.out]; exact HS.out.1, ?_⟩
        exact (HI.out.2.trans' (Fp.alloc _ _ _)).trans HS.out.2 (fun _ h => h) (fun j hj e => by omega)
      case measure => simp [intOf]; omega
    · obtain rfl : k = nb := by omega
      have qk : decide (((k : Nat) : Int) < ((k : Nat) : Int)) = false := decide_eq_false (by omega)
      have HS : Hid (SetAt wr w.heap.size k bs ∧ Fp (fun _ => False) w wr) := by
        have h1 := HI.out
        have h2 := HNb.out
        rw [List.take_of_length_le (by omega)] at h1
        exact h1
      obtain ⟨w0, hw0⟩ : ∃ w0, w0 = wr := ⟨_, rfl⟩
      subst hw0
      have hM : w.heap.size < w0.heap.size := HS.out.1.lt
      go_wp2_with fail
      go_loopw [8, 26] (fun ov iv wi => ∃ (j n c : Nat) (a : Option Addr) (fs : List Silo.Ln), j ≤ na ∧ n ≤ j ∧ iv = .int .i64 (j : Nat) ∧ ov = .slice a n c ∧ Hid (fs.length = n ∧ fs = (ls.take j).filter (fun l => decide (l ∉ bs)) ∧ wi.ownsRow (w.heap.size + 1) 86 4 (.slice a n c) n (plCells fs) ∧ SetAt wi w.heap.size k bs ∧ Fp (fun _ => False) w wi)) (fun _ iv _ => na - (intOf iv).toNat)
      case atStart => exact ⟨0, 0, 0, none, [], Nat.zero_le _, Nat.le_refl _, rfl, rfl, rfl, rfl, ⟨rfl, .inl ⟨rfl, rfl⟩⟩, HS.out.1, HS.out.2⟩
      case round =>
        obtain ⟨j, n, c, a, fs, hj, hnj, rfl, rfl, HJ⟩ := hrel
        by_cases hjl : j < na
        · have qj : decide (((j : Nat) : Int) < ((na : Nat) : Int)) = true := decide_eq_true (by omega)
          obtain ⟨g, hg⟩ := plsAt_place HA.out.1 (by omega)
          subst hg
          obtain ⟨l, hlj⟩ : ∃ l, ls[j]? = some l := by
            have := HNa.out
            exact ⟨ls[j]'(by omega), List.getElem?_eq_getElem (by omega)⟩
          have hrow := Fp.ownsRow HJ.out.2.2.2.2 HA.out.1 (fun _ _ h => h)
          have c0 : wr.cell? ⟨g, j * 4, none⟩ = some (.int .i64 (l.lo : Nat)) := plsAt_cell (j := 0) hrow hlj rfl
          have c1 : wr.cell? ⟨g, j * 4 + 1, none⟩ = some (.int .i64 (l.hi : Nat)) := plsAt_cell (j := 1) hrow hlj rfl
          have c2 : wr.cell? ⟨g, j * 4 + 2, none⟩ = some (.int .i64 (l.size : Nat)) := plsAt_cell (j := 2) hrow hlj rfl
          have c3 : wr.cell? ⟨g, j * 4 + 3, none⟩ = some (.int .u64 (l.hash : Nat)) := plsAt_cell (j := 3) hrow hlj rfl
          have hlok := HA.out.2 l (List.mem_of_getElem? hlj)
          have hlook := SetAt.look (l := l) (HJ.out.2.2.2.1.fp (Fp.alloc (fun _ => False) wr (.cells #[.int .i64 (l.lo : Nat), .int .i64 (l.hi : Nat), .int .i64 (l.size : Nat), .int .u64 (l.hash : Nat)] 86)) (fun h => h)) HBb.out.2 hlok
          have HT : Hid ((ls.take (j + 1)).filter (fun l => decide (l ∉ bs)) = (ls.take j).filter (fun l => decide (l ∉ bs)) ++ if l ∈ bs then [] else [l]) := by
            show _ = _
            rw [List.take_add_one, hlj, Option.toList_some, List.filter_append]
            congr 1
            by_cases hm : l ∈ bs
            · simp [hm]
            · simp [hm]
          have hMr : w.heap.size < wr.heap.size := HJ.out.2.2.2.1.lt
          clear hrow hlj
          by_cases hm : l ∈ bs
          · rw [decide_eq_true hm] at hlook
            rw [if_pos hm, List.append_nil] at HT
            clear hm
            go_wp2
            go_roundw
            case rel => exact ⟨j + 1, n, c, a, fs, by omega, by omega, by go_num, rfl, HJ.out.1, by rw [HT.out]; exact HJ.out.2.1, Fp.ownsRow ((Fp.alloc (fun _ => False) _ _).trans' (Fp.alloc _ _ _)) HJ.out.2.2.1 (fun _ _ h => h), HJ.out.2.2.2.1.fp ((Fp.alloc (fun _ => False) _ _).trans' (Fp.alloc _ _ _)) (fun h => h), HJ.out.2.2.2.2.trans' ((Fp.alloc _ _ _).trans' (Fp.alloc _ _ _))⟩
            case measure => simp [intOf]; omega
          · rw [decide_eq_false hm] at hlook
            rw [if_neg hm] at HT
            clear hm
            go_wp2_with (at_builtin; refine wpList_append_row elemPl rfl _ _ rfl (w.heap.size + 1) (.slice a n c) n (plCells fs) (plC l) rfl ?c1 ⟨wr.heap.size + 1 + 1, 0, none⟩ rfl rfl ?c5 ?c2 ?c3 ?c4 ?_; rotate_left 5; intro g4 cap4 w5 H5)
            case c1 => exact World.ownsRow.alloc (World.ownsRow.alloc (World.ownsRow.alloc HJ.out.2.2.1 _) _) _
            case c5 => intro u hu; simp [plC] at hu; rcases hu with rfl | rfl | rfl | rfl <;> rfl
            case c2 =>
              have h9 := row_new ((wr.alloc (.cells #[.int .i64 (l.lo : Nat), .int .i64 (l.hi : Nat), .int .i64 (l.size : Nat), .int .u64 (l.hash : Nat)] 86)).alloc (.cells #[] 110)) (plC l) 86 (0, 0)
              simpa [plC] using h9
            case c3 => omega
            case c4 => simp; omega
            go_roundw
            case rel =>
              have h9 := pl_next (wa := w) HJ.out.1 (by omega) (HJ.out.2.2.2.2.trans' ((Fp.alloc (fun _ => False) _ _).trans' (Fp.alloc _ _ _))) (Fp.ownsRow ((Fp.alloc (fun _ => False) _ _).trans' (Fp.alloc _ _ _)) HJ.out.2.2.1 (fun _ _ h => h)) H5.out
              refine ⟨j + 1, n + 1, cap4, some ⟨g4, 0, none⟩, fs ++ [l], by omega, by omega, by go_num, rfl, h9.1, by rw [HT.out, HJ.out.2.1], h9.2.1, ?_, h9.2.2.1⟩
              exact (HJ.out.2.2.2.1.fp ((Fp.alloc (fun _ => False) _ _).trans' (Fp.alloc _ _ _)) (fun h => h)).fp h9.2.2.2 (by omega)
            case measure => simp [intOf]; omega
        · obtain rfl : j = na := by omega
          have qj : decide (((j : Nat) : Int) < ((j : Nat) : Int)) = false := decide_eq_false (by omega)
          have HE : Hid (fs = ls.filter (fun l => decide (l ∉ bs))) := by
            have h1 := HJ.out.2.1
            have h2 := HNa.out
            rw [List.take_of_length_le (by omega)] at h1
            exact h1
          go_wp2
          go_ret
          have e1 := HE.out
          subst e1
          have e2 := HJ.out.1
          subst e2
          exact ⟨⟨a, c, ret_val (by simp), ownsRow_base HJ.out.2.2.1 (by omega)⟩, HJ.out.2.2.2.2⟩

end Go.Proofs.YtbimkgmhfcgpmaaGreatDoor
