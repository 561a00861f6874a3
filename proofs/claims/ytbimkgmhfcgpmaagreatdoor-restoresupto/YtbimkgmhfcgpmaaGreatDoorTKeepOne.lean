/- TNext, TKeep, TKeep2, TKeepF, THanded, in one text. -/
import Derived.Test.YtbimkgmhfcgpmaaGreatDoorChainOne
import Derived.BigRegion

/- silolaw's Book.next. -/
namespace Go.Proofs.YtbimkgmhfcgpmaaGreatDoor
open Go.RowKit Go.Shelf

/-- The book's cells: its mark, and the four lists that texts and files are kept in. -/
def bookC (mk : Nat) (x1 x2 x3 x4 : Value) : Array Value := #[.int .i64 (mk : Nat), x1, x2, x3, x4, .slice none 0 0, .slice none 0 0, .slice none 0 0, .slice none 0 0, .slice none 0 0, .slice none 0 0]

structure BookT (w : World) (tb mk : Nat) (x1 x2 x3 x4 : Value) : Prop where
  blk : w.heap[tb]? = some (.cells (bookC mk x1 x2 x3 x4) 31 (0, 0))

theorem BookT.cells {w : World} {tb mk : Nat} {x1 x2 x3 x4 : Value} (h : BookT w tb mk x1 x2 x3 x4) : w.cell? ⟨tb, 0, none⟩ = some (.int .i64 (mk : Nat)) ∧ w.cell? ⟨tb, 1, none⟩ = some x1 ∧ w.cell? ⟨tb, 2, none⟩ = some x2 ∧ w.cell? ⟨tb, 3, none⟩ = some x3 ∧ w.cell? ⟨tb, 4, none⟩ = some x4 ∧ (∀ i, w.frozen? ⟨tb, i, none⟩ = false) ∧ tb < w.heap.size := by
  have h := h.blk
  exact ⟨by simp [World.cell?, h, bookC], by simp [World.cell?, h, bookC], by simp [World.cell?, h, bookC], by simp [World.cell?, h, bookC], by simp [World.cell?, h, bookC], fun i => by simp [World.frozen?, h], heap_lt h⟩

theorem BookT.fp {w w' : World} {tb mk : Nat} {x1 x2 x3 x4 : Value} {S : Nat → Prop} (h : BookT w tb mk x1 x2 x3 x4) (hf : Fp S w w') (hs : ¬ S tb) : BookT w' tb mk x1 x2 x3 x4 := by
  refine ⟨?_⟩
  rw [hf.block tb (heap_lt h.blk) hs]
  exact h.blk

theorem BookT.mark {w : World} {tb mk : Nat} {x1 x2 x3 x4 : Value} (h : BookT w tb mk x1 x2 x3 x4) (mk' : Nat) : BookT (w.setCell ⟨tb, 0, none⟩ (.int .i64 (mk' : Nat))) tb mk' x1 x2 x3 x4 := ⟨heap_set h.blk _⟩
theorem BookT.put1 {w : World} {tb mk : Nat} {x1 x2 x3 x4 : Value} (h : BookT w tb mk x1 x2 x3 x4) (v : Value) : BookT (w.setCell ⟨tb, 1, none⟩ v) tb mk v x2 x3 x4 := ⟨heap_set h.blk _⟩
theorem BookT.put2 {w : World} {tb mk : Nat} {x1 x2 x3 x4 : Value} (h : BookT w tb mk x1 x2 x3 x4) (v : Value) : BookT (w.setCell ⟨tb, 2, none⟩ v) tb mk x1 v x3 x4 := ⟨heap_set h.blk _⟩
theorem BookT.put3 {w : World} {tb mk : Nat} {x1 x2 x3 x4 : Value} (h : BookT w tb mk x1 x2 x3 x4) (v : Value) : BookT (w.setCell ⟨tb, 3, none⟩ v) tb mk x1 x2 v x4 := ⟨heap_set h.blk _⟩
theorem BookT.put4 {w : World} {tb mk : Nat} {x1 x2 x3 x4 : Value} (h : BookT w tb mk x1 x2 x3 x4) (v : Value) : BookT (w.setCell ⟨tb, 4, none⟩ v) tb mk x1 x2 x3 v := ⟨heap_set h.blk _⟩

theorem conv3 (u : World) (t : TypeId) (b : UInt8) : (convert 57 9 (.slice (some ⟨u.heap.size, 0, none⟩) 3 3)).run Tryz.prog (u.alloc (.cells #[.int .u8 (b.toNat : Int), .int .u8 0, .int .u8 0] t)).drew = .ok (.string (S [b, 0, 0])) (u.alloc (.cells #[.int .u8 (b.toNat : Int), .int .u8 0, .int .u8 0] t)).drew := by
  refine run_convert_bytes_back _ 57 9 5 ⟨u.heap.size, 0, none⟩ 3 [b, 0, 0] Tryz.underlying57 Tryz.underlying5 Tryz.underlying9 ?_
  intro j hj
  have h3 : j < 3 := hj
  match j, h3 with
  | 0, _ => exact cell_lit u _ _ 0
  | 1, _ => exact cell_lit u _ _ 1
  | 2, _ => exact cell_lit u _ _ 2

set_option maxHeartbeats 2000000 in
set_option maxRecDepth 100000 in
theorem Booknext_any (tb mk : Nat) (hmk : mk = 0 ∨ mk = 1) (x1 x2 x3 x4 : Value) (w : World) (hb : BookT w tb mk x1 x2 x3 x4) :
    Calls Tryz.prog 28 #[.pointer (some ⟨tb, 0, none⟩)] w fun e w' => (∃ s, e = .returned (.string s)) ∧ BookT w' tb (mk + 1) x1 x2 x3 x4 ∧ Fp (fun k => k = tb) w w' := by
  have HB : Hid _ := hb
  obtain ⟨c0, _, _, _, _, cf, cl⟩ := hb.cells
  clear hb
  have cf0 := cf 0
  clear cf
  rcases hmk with rfl | rfl
  · go_enter Tryz.func28, Tryz.ntmps28
    go_wp2_with fail
    have hb2 := HB.out.mark 1
    have hf2 : Fp (fun k => k = tb) w (w.setCell ⟨tb, 0, none⟩ (.int .i64 ((1 : Nat) : Int))) := Fp.setCell _ _ _ rfl
    obtain ⟨W, hW⟩ : ∃ W, w.setCell ⟨tb, 0, none⟩ (.int .i64 1) = W := ⟨_, rfl⟩
    have hW' : w.setCell ⟨tb, 0, none⟩ (.int .i64 ((1 : Nat) : Int)) = W := hW
    rw [hW'] at hb2 hf2
    rw [hW]
    have k0 : W.cell? ⟨tb, 0, none⟩ = some (.int .i64 1) := hb2.cells.1
    have kl := hb2.cells.2.2.2.2.2.2
    have H2 : Hid _ := And.intro hb2 hf2
    clear hb2 hf2 hW hW' c0 cf0 cl
    have e1 : IntKind.u8.wrap 1 = 1 := by decide
    have e2 : IntKind.i64.wrap 0 = 0 := by decide
    have e3 : IntKind.u8.wrap 0 = 0 := by decide
    have e4 : (S [1, 0, 0]).size = 3 := rfl
    have hcv := fun u t => conv3 u t 1
    simp at hcv
    go_region
    go_wp2
    go_ret
    refine ⟨⟨_, rfl⟩, H2.out.1.fp ((Fp.alloc (fun _ => False) _ _).trans' (Fp.drew _ _)) (fun h => h), H2.out.2.trans' ((Fp.alloc _ _ _).trans' (Fp.drew _ _))⟩
  · go_enter Tryz.func28, Tryz.ntmps28
    go_wp2_with fail
    have hb2 := HB.out.mark 2
    have hf2 : Fp (fun k => k = tb) w (w.setCell ⟨tb, 0, none⟩ (.int .i64 ((2 : Nat) : Int))) := Fp.setCell _ _ _ rfl
    obtain ⟨W, hW⟩ : ∃ W, w.setCell ⟨tb, 0, none⟩ (.int .i64 2) = W := ⟨_, rfl⟩
    have hW' : w.setCell ⟨tb, 0, none⟩ (.int .i64 ((2 : Nat) : Int)) = W := hW
    rw [hW'] at hb2 hf2
    rw [hW]
    have k0 : W.cell? ⟨tb, 0, none⟩ = some (.int .i64 2) := hb2.cells.1
    have kl := hb2.cells.2.2.2.2.2.2
    have H2 : Hid _ := And.intro hb2 hf2
    clear hb2 hf2 hW hW' c0 cf0 cl
    have e1 : IntKind.u8.wrap 2 = 2 := by decide
    have e2 : IntKind.i64.wrap 0 = 0 := by decide
    have e3 : IntKind.u8.wrap 0 = 0 := by decide
    have e4 : (S [2, 0, 0]).size = 3 := rfl
    have hcv := fun u t => conv3 u t 2
    simp at hcv
    go_region
    go_wp2
    go_ret
    refine ⟨⟨_, rfl⟩, H2.out.1.fp ((Fp.alloc (fun _ => False) _ _).trans' (Fp.drew _ _)) (fun h => h), H2.out.2.trans' ((Fp.alloc _ _ _).trans' (Fp.drew _ _))⟩

end Go.Proofs.YtbimkgmhfcgpmaaGreatDoor

/- silolaw's book of lists of texts and files: what stays. -/
namespace Go.Proofs.YtbimkgmhfcgpmaaGreatDoor
open Go.RowKit Go.Shelf

theorem elemStrss : ElemOk 24 22 1 24 := ElemOk.mk' (z := .slice none 0 0) Tryz.underlying24 (by kernel_rfl) rfl (by decide) (by decide)
theorem elemFiless : ElemOk 25 33 1 24 := ElemOk.mk' (z := .slice none 0 0) Tryz.underlying25 (by kernel_rfl) rfl (by decide) (by decide)

theorem own_ne {w : World} {B : Nat} {el el' : TypeId} {size n tb : Nat} {v : Value} {xs : List Value} {c : Array Value} {f : Nat × Nat} (h : w.ownsRow B el size v n xs) (hb : w.heap[tb]? = some (.cells c el' f)) (hne : el ≠ el') : ∀ k, v.ownBlock = some k → k ≠ tb := by
  intro k hk e
  subst e
  rcases h.2 with ⟨rfl, _⟩ | ⟨g, cap, cur, rfl, _, hh, _⟩
  · simp [Value.ownBlock] at hk
  · simp only [Value.ownBlock, Option.some.injEq] at hk
    subst hk
    rw [hh] at hb
    simp only [Option.some.injEq, Obj.cells.injEq] at hb
    exact hne hb.2.1

/-- The three rows of a keep: the list of lists, the marks, the list that is kept. -/
structure KS (w : World) (B1 : Nat) (L0 : Value) (B N : Nat) (e1 eL : TypeId) (szL : Nat) (v1 v2 L : Value) (nL : Nat) : Prop where
  r1 : ∃ n xs, n ≤ N ∧ w.ownsRow B1 e1 1 v1 n xs
  r2 : ∃ n xs, n ≤ N ∧ w.ownsRow B1 9 1 v2 n xs
  rL : ∃ xs, w.ownsRow B eL szL L nL xs
  ap : ∀ k, v2.ownBlock = some k → L.ownBlock = some k → False
  lo : ∀ k, L.ownBlock = some k → L0.ownBlock = some k ∨ B1 ≤ k
  n12 : e1 ≠ 9
  n1L : e1 ≠ eL
  n1B : e1 ≠ 31
  nLB : eL ≠ 31

/-- What a keep writes. -/
def keepS (tb B1 : Nat) (L0 : Value) (k : Nat) : Prop := k = tb ∨ L0.ownBlock = some k ∨ B1 ≤ k

theorem strNeBook : (9 : TypeId) ≠ 31 := by decide

section
variable {w w1 : World} {B1 : Nat} {L0 : Value} {B N : Nat} {e1 eL : TypeId} {szL : Nat} {v1 v2 L : Value} {nL tb : Nat} {c : Array Value}

theorem KS.fp {S : Nat → Prop} (h : KS w B1 L0 B N e1 eL szL v1 v2 L nL) (hf : Fp S w w1) (h1 : ∀ k, v1.ownBlock = some k → ¬ S k) (h2 : ∀ k, v2.ownBlock = some k → ¬ S k) (hL : ∀ k, L.ownBlock = some k → ¬ S k) : KS w1 B1 L0 B N e1 eL szL v1 v2 L nL := by
  obtain ⟨n1, x1, l1, o1⟩ := h.r1
  obtain ⟨n2, x2, l2, o2⟩ := h.r2
  obtain ⟨xL, oL⟩ := h.rL
  exact ⟨⟨n1, x1, l1, Fp.ownsRow hf o1 h1⟩, ⟨n2, x2, l2, Fp.ownsRow hf o2 h2⟩, ⟨xL, Fp.ownsRow hf oL hL⟩, h.ap, h.lo, h.n12, h.n1L, h.n1B, h.nLB⟩

theorem KS.set (h : KS w B1 L0 B N e1 eL szL v1 v2 L nL) (hb : w.heap[tb]? = some (.cells c 31 (0, 0))) (j : Nat) (u : Value) : KS (w.setCell ⟨tb, j, none⟩ u) B1 L0 B N e1 eL szL v1 v2 L nL := by
  obtain ⟨n1, x1, l1, o1⟩ := h.r1
  obtain ⟨n2, x2, l2, o2⟩ := h.r2
  obtain ⟨xL, oL⟩ := h.rL
  exact h.fp (Fp.setCell (S := fun k => k = tb) w _ _ rfl) (own_ne o1 hb h.n1B) (own_ne o2 hb strNeBook) (own_ne oL hb h.nLB)

theorem KS.up (h : KS w B1 L0 B N e1 eL szL v1 v2 L nL) : KS w B1 L0 B (N + 1) e1 eL szL v1 v2 L nL := by
  obtain ⟨n1, x1, l1, o1⟩ := h.r1
  obtain ⟨n2, x2, l2, o2⟩ := h.r2
  exact ⟨⟨n1, x1, by omega, o1⟩, ⟨n2, x2, by omega, o2⟩, h.rL, h.ap, h.lo, h.n12, h.n1L, h.n1B, h.nLB⟩

/-- An element more in the list of lists. -/
theorem KS.a1 {o : Obj} {n : Nat} {xs cx : List Value} {g cap : Nat} (h : KS w B1 L0 B N e1 eL szL v1 v2 L nL) (hb : w.heap[tb]? = some (.cells c 31 (0, 0))) (hn : n ≤ N) (hr : w.ownsRow B1 e1 1 v1 n xs) (H : RowAppended e1 1 (w.alloc o) w1 B1 v1 n xs cx g cap) :
    KS w1 B1 L0 B (N + 1) e1 eL szL (.slice (some ⟨g, 0, none⟩) (n + 1) cap) v2 L nL ∧ Fp (fun k => B1 ≤ k ∧ k ≠ tb) w w1 := by
  have hF : Fp (fun k => v1.ownBlock = some k) w w1 := (Fp.alloc (fun _ => False) w o).trans H.foot (fun _ h => h.elim) (fun _ _ h => h)
  obtain ⟨n2, x2, l2, o2⟩ := h.r2
  obtain ⟨xL, oL⟩ := h.rL
  refine ⟨⟨⟨n + 1, _, by omega, H.row⟩, ⟨n2, x2, by omega, Fp.ownsRow hF o2 (fun k hk e => rows_apart hr o2 h.n12 k e hk)⟩, ⟨xL, Fp.ownsRow hF oL (fun k hk e => rows_apart hr oL h.n1L k e hk)⟩, h.ap, h.lo, h.n12, h.n1L, h.n1B, h.nLB⟩, ?_⟩
  exact hF.mono (fun k _ e => ⟨(World.ownsRow.lt hr k e).1, own_ne hr hb h.n1B k e⟩)

/-- A mark more. -/
theorem KS.a2 {o : Obj} {n : Nat} {xs cx : List Value} {g cap : Nat} (h : KS w B1 L0 B N e1 eL szL v1 v2 L nL) (hb : w.heap[tb]? = some (.cells c 31 (0, 0))) (hn : n + 1 ≤ N) (hr : w.ownsRow B1 9 1 v2 n xs) (H : RowAppended 9 1 (w.alloc o) w1 B1 v2 n xs cx g cap) :
    KS w1 B1 L0 B N e1 eL szL v1 (.slice (some ⟨g, 0, none⟩) (n + 1) cap) L nL ∧ Fp (fun k => B1 ≤ k ∧ k ≠ tb) w w1 := by
  have hF : Fp (fun k => v2.ownBlock = some k) w w1 := (Fp.alloc (fun _ => False) w o).trans H.foot (fun _ h => h.elim) (fun _ _ h => h)
  obtain ⟨n1, x1, l1, o1⟩ := h.r1
  obtain ⟨xL, oL⟩ := h.rL
  refine ⟨⟨⟨n1, x1, l1, Fp.ownsRow hF o1 (fun k hk e => rows_apart o1 hr h.n12 k hk e)⟩, ⟨n + 1, _, hn, H.row⟩, ⟨xL, Fp.ownsRow hF oL (fun k hk e => h.ap k e hk)⟩, ?_, h.lo, h.n12, h.n1L, h.n1B, h.nLB⟩, ?_⟩
  · intro k hk hL
    simp only [Value.ownBlock, Option.some.injEq] at hk
    subst hk
    rcases H.lies with e | e
    · exact h.ap _ e hL
    · have := (World.ownsRow.lt oL _ hL).2
      simp at e
      omega
  · exact hF.mono (fun k _ e => ⟨(World.ownsRow.lt hr k e).1, own_ne hr hb strNeBook k e⟩)

/-- An element more in the list that is kept. -/
theorem KS.a3 (hB1 : B1 ≤ w.heap.size) {o : Obj} {xs cx : List Value} {g cap : Nat} (h : KS w B1 L0 B N e1 eL szL v1 v2 L nL) (hb : w.heap[tb]? = some (.cells c 31 (0, 0))) (hr : w.ownsRow B eL szL L nL xs) (H : RowAppended eL szL (w.alloc o) w1 B L nL xs cx g cap) :
    KS w1 B1 L0 B N e1 eL szL v1 v2 (.slice (some ⟨g, 0, none⟩) (nL + 1) cap) (nL + 1) ∧ Fp (fun k => (L0.ownBlock = some k ∨ B1 ≤ k) ∧ k ≠ tb) w w1 := by
  have hF : Fp (fun k => L.ownBlock = some k) w w1 := (Fp.alloc (fun _ => False) w o).trans H.foot (fun _ h => h.elim) (fun _ _ h => h)
  obtain ⟨n1, x1, l1, o1⟩ := h.r1
  obtain ⟨n2, x2, l2, o2⟩ := h.r2
  refine ⟨⟨⟨n1, x1, l1, Fp.ownsRow hF o1 (fun k hk e => rows_apart o1 hr h.n1L k hk e)⟩, ⟨n2, x2, l2, Fp.ownsRow hF o2 (fun k hk e => h.ap k hk e)⟩, ⟨_, H.row⟩, ?_, ?_, h.n12, h.n1L, h.n1B, h.nLB⟩, ?_⟩
  · intro k h2 hk
    simp only [Value.ownBlock, Option.some.injEq] at hk
    subst hk
    rcases H.lies with e | e
    · exact h.ap _ h2 e
    · have := (World.ownsRow.lt o2 _ h2).2
      simp at e
      omega
  · intro k hk
    simp only [Value.ownBlock, Option.some.injEq] at hk
    subst hk
    rcases H.lies with e | e
    · exact h.lo _ e
    · simp at e
      exact .inr (by omega)
  · exact hF.mono (fun k _ e => ⟨h.lo k e, own_ne hr hb h.nLB k e⟩)
end

end Go.Proofs.YtbimkgmhfcgpmaaGreatDoor

/- silolaw's keepTexts. -/
namespace Go.Proofs.YtbimkgmhfcgpmaaGreatDoor
open Go.RowKit Go.Shelf

theorem rowAny_at {w : World} {B n sz cap : Nat} {el : TypeId} {a : Option Addr} {xs : List Value} (h : w.ownsRow B el sz (.slice a n cap) n xs) (hn : 0 < n) : ∃ g, a = some ⟨g, 0, none⟩ ∧ B ≤ g ∧ g < w.heap.size ∧ (∀ j, w.frozen? ⟨g, j, none⟩ = false) ∧ (∀ j, j < n * sz → ∃ u, w.cell? ⟨g, j, none⟩ = some u) := by
  obtain ⟨g, cap', e, h2, h3⟩ := h.form hn
  simp only [Value.slice.injEq] at e
  obtain ⟨rfl, _, rfl⟩ := e
  refine ⟨g, rfl, h2, h3, h.frozenAt, fun j hj => ?_⟩
  have := h.cellAt j hj
  have hl : j < xs.length := by rw [h.1]; exact hj
  exact ⟨xs[j], by rw [this]; simp [hl]⟩

theorem row_new' (w : World) {b : Nat} (hb : b = w.heap.size) (cx : List Value) (t : TypeId) (f : Nat × Nat) : ∀ j u, cx[j]? = some u → (w.alloc (.cells cx.toArray t f)).cell? ((⟨b, 0, none⟩ : Addr).add j) = some u := by
  subst hb; exact row_new w cx t f

/-- What lies behind the store of the list of lists. -/
theorem keep_one {w w1 : World} {B1 B N mk tb : Nat} {L0 : Value} {v1 v2 x3 x4 L : Value} {nL n : Nat} {xs cx : List Value} {g cap : Nat} {o : Obj} (hb : BookT w tb mk v1 v2 x3 x4) (h : KS w B1 L0 B N 22 9 1 v1 v2 L nL) (hn : n ≤ N) (hr : w.ownsRow B1 22 1 v1 n xs) (H : RowAppended 22 1 (w.alloc o) w1 B1 v1 n xs cx g cap) {a2 : Option Addr} {n2 c2 : Nat} (e2 : v2 = .slice a2 n2 c2 := by rfl) :
    (w1.cell? ⟨tb, 1, none⟩ = some v1 ∧ w1.cell? ⟨tb, 2, none⟩ = some v2 ∧ w1.frozen? ⟨tb, 1, none⟩ = false ∧ tb < w1.heap.size) ∧
    Hid (BookT (w1.setCell ⟨tb, 1, none⟩ (.slice (some ⟨g, 0, none⟩) (n + 1) cap)) tb mk (.slice (some ⟨g, 0, none⟩) (n + 1) cap) v2 x3 x4 ∧
      KS (w1.setCell ⟨tb, 1, none⟩ (.slice (some ⟨g, 0, none⟩) (n + 1) cap)) B1 L0 B (N + 1) 22 9 1 (.slice (some ⟨g, 0, none⟩) (n + 1) cap) v2 L nL ∧
      Fp (keepS tb B1 L0) w (w1.setCell ⟨tb, 1, none⟩ (.slice (some ⟨g, 0, none⟩) (n + 1) cap)) ∧
      ∃ z, (w1.setCell ⟨tb, 1, none⟩ (.slice (some ⟨g, 0, none⟩) (n + 1) cap)).ownsRow B1 9 1 v2 n2 z) := by
  obtain ⟨r1, r2⟩ := KS.a1 h hb.blk hn hr H
  have hb1 := hb.fp r2 (fun h => h.2 rfl)
  obtain ⟨_, s1, s2, _, _, sf, sl⟩ := hb1.cells
  have r3 := r1.set hb1.blk 1 (.slice (some ⟨g, 0, none⟩) (n + 1) cap)
  refine ⟨⟨s1, s2, sf 1, sl⟩, hb1.put1 _, r3, (r2.mono (fun _ _ h => .inr (.inr h.1))).trans' (Fp.setCell _ _ _ (.inl rfl)), ?_⟩
  obtain ⟨m, z, _, o2⟩ := r3.r2
  obtain ⟨_, _, e⟩ := ownsRow_form o2
  rw [e2] at e
  cases e
  exact ⟨z, o2⟩

/-- What lies behind the store of the marks. -/
theorem keep_two {w w1 : World} {B1 B N mk tb : Nat} {L0 : Value} {v1 v2 x3 x4 : Value} {nL n : Nat} {xs cx : List Value} {g cap : Nat} {o : Obj} {aL : Option Addr} {cL : Nat} (hb : BookT w tb mk v1 v2 x3 x4) (h : KS w B1 L0 B N 22 9 1 v1 v2 (.slice aL nL cL) nL) (hn : n + 1 ≤ N) (hr : w.ownsRow B1 9 1 v2 n xs) (H : RowAppended 9 1 (w.alloc o) w1 B1 v2 n xs cx g cap) :
    (w1.cell? ⟨tb, 1, none⟩ = some v1 ∧ w1.cell? ⟨tb, 2, none⟩ = some v2 ∧ w1.frozen? ⟨tb, 2, none⟩ = false ∧ tb < w1.heap.size) ∧
    Hid (BookT (w1.setCell ⟨tb, 2, none⟩ (.slice (some ⟨g, 0, none⟩) (n + 1) cap)) tb mk v1 (.slice (some ⟨g, 0, none⟩) (n + 1) cap) x3 x4 ∧
      KS (w1.setCell ⟨tb, 2, none⟩ (.slice (some ⟨g, 0, none⟩) (n + 1) cap)) B1 L0 B N 22 9 1 v1 (.slice (some ⟨g, 0, none⟩) (n + 1) cap) (.slice aL nL cL) nL ∧
      Fp (keepS tb B1 L0) w (w1.setCell ⟨tb, 2, none⟩ (.slice (some ⟨g, 0, none⟩) (n + 1) cap)) ∧
      ∃ z, (w1.setCell ⟨tb, 2, none⟩ (.slice (some ⟨g, 0, none⟩) (n + 1) cap)).ownsRow B 9 1 (.slice aL nL cL) nL z) := by
  obtain ⟨r1, r2⟩ := KS.a2 h hb.blk hn hr H
  have hb1 := hb.fp r2 (fun h => h.2 rfl)
  obtain ⟨_, s1, s2, _, _, sf, sl⟩ := hb1.cells
  have r3 := r1.set hb1.blk 2 (.slice (some ⟨g, 0, none⟩) (n + 1) cap)
  exact ⟨⟨s1, s2, sf 2, sl⟩, hb1.put2 _, r3, (r2.mono (fun _ _ h => .inr (.inr h.1))).trans' (Fp.setCell _ _ _ (.inl rfl)), r3.rL⟩

set_option maxHeartbeats 4000000 in
set_option maxRecDepth 100000 in
theorem keepTexts_any (B tb mk : Nat) (hmk : mk = 0 ∨ mk = 1) (x3 x4 L : Value) (n : Nat) (xs : List Value) (w : World) (hb : BookT w tb mk (.slice none 0 0) (.slice none 0 0) x3 x4) (hL : w.ownsRow B 9 1 L n xs) (hn : n ≤ 16777300) (hB : B ≤ w.heap.size) :
    Calls Tryz.prog 27 #[.pointer (some ⟨tb, 0, none⟩), L] w fun e w' => e = .returned (.tuple #[]) ∧ (∃ x1 x2, BookT w' tb (mk + 1) x1 x2 x3 x4) ∧ Fp (fun k => k = tb ∨ L.ownBlock = some k) w w' := by
  have H : Hid _ := And.intro hb hL
  obtain ⟨aL, cL, rfl⟩ := ownsRow_form hL
  obtain ⟨B1, hB1⟩ : ∃ B1, w.heap.size = B1 := ⟨_, rfl⟩
  obtain ⟨L0, hL0⟩ : ∃ L0, Value.slice aL n cL = L0 := ⟨_, rfl⟩
  have HB1 : Hid _ := hB1
  have HL0 : Hid _ := hL0
  refine Calls.mono (R := fun e w' => e = .returned (.tuple #[]) ∧ (∃ x1 x2, BookT w' tb (mk + 1) x1 x2 x3 x4) ∧ Fp (keepS tb B1 L0) w w') ?_ (fun e w' h => ⟨h.1, h.2.1, h.2.2.mono (fun k hk h9 => ?_)⟩)
  rotate_left
  · rw [HL0.out]
    rcases h9 with h9 | h9 | h9
    · exact .inl h9
    · exact .inr h9
    · omega
  clear hL0 hB1
  clear hb hL
  go_enter Tryz.func27, Tryz.ntmps27
  go_wp2_with fail
  refine (Booknext_any tb mk hmk _ _ x3 x4 w H.out.1).mono ?_
  rintro e w1 ⟨⟨s, rfl⟩, hb1, hf1⟩
  have H1 : Hid (BookT w1 tb (mk + 1) (.slice none 0 0) (.slice none 0 0) x3 x4 ∧ Fp (keepS tb B1 L0) w w1 ∧ w1.ownsRow B 9 1 (.slice aL n cL) n xs) := ⟨hb1, hf1.mono (fun k _ e => .inl e), Fp.ownsRow hf1 H.out.2 (own_ne H.out.2 H.out.1.blk strNeBook)⟩
  clear hb1 hf1
  go_wp2_with fail
  go_loopw [5] (fun iv wr => ∃ k : Nat, k ≤ n ∧ iv = .int .i64 k ∧ Hid (BookT wr tb (mk + 1) (.slice none 0 0) (.slice none 0 0) x3 x4 ∧ Fp (keepS tb B1 L0) w wr ∧ ∃ ys, wr.ownsRow B 9 1 (.slice aL n cL) n ys)) (fun iv _ => n - (intOf iv).toNat)
  case atStart => exact ⟨0, by omega, rfl, H1.out.1, H1.out.2.1, xs, H1.out.2.2⟩
  case round =>
    obtain ⟨k, hk, rfl, HR⟩ := hrel
    by_cases hlt : k < n
    · obtain ⟨ys, hys⟩ := HR.out.2.2
      obtain ⟨g, rfl, hg1, hg2, hgf, hgc⟩ := rowAny_at hys (by omega)
      obtain ⟨u, hu⟩ := hgc k (by omega)
      have hfz := hgf k
      have HY : Hid _ := hys
      clear hgf hgc hys
      have kN : (k : Int) < (n : Int) := by omega
      go_wp2
      go_roundw
      case rel =>
        have hs := World.ownsRow.stored HY.out k (.string s)
        have hff : Fp (fun j => j = g) wr (wr.setCell ⟨g, k, none⟩ (.string s)) := Fp.setCell _ _ _ rfl
        exact ⟨k + 1, by omega, by go_num, HR.out.1.fp hff (fun e => own_ne HY.out HR.out.1.blk strNeBook g (by simp [Value.ownBlock]) e.symm), HR.out.2.1.trans' (hff.mono (fun j _ e => .inr (.inl (by rw [← HL0.out, e]; rfl)))), _, hs.1⟩
      case measure => simp [intOf]; omega
    · obtain rfl : k = n := by omega
      have kN : ¬ (k : Int) < (k : Int) := by omega
      have HK : Hid (KS wr B1 L0 B 0 22 9 1 (.slice none 0 0) (.slice none 0 0) (.slice aL k cL) (k + 0)) := by
        obtain ⟨ys, hys⟩ := HR.out.2.2
        exact ⟨⟨0, [], Nat.le_refl _, ⟨rfl, .inl ⟨rfl, rfl⟩⟩⟩, ⟨0, [], Nat.le_refl _, ⟨rfl, .inl ⟨rfl, rfl⟩⟩⟩, ⟨ys, hys⟩, fun j hj => by simp [Value.ownBlock] at hj, fun j hj => .inl (by rw [← HL0.out]; exact hj), by decide, by decide, by decide, by decide⟩
      obtain ⟨W, hW⟩ : ∃ W, W = wr := ⟨_, rfl⟩
      go_wp2_with fail
      go_loopw [1, 6] (fun lv iv wi => ∃ (i : Nat) (a : Option Addr) (c : Nat), i ≤ 4 ∧ iv = .int .i64 i ∧ lv = .slice a (k + i) c ∧ Hid ((∃ x1 x2, BookT wi tb (mk + 1) x1 x2 x3 x4 ∧ KS wi B1 L0 B i 22 9 1 x1 x2 (.slice a (k + i) c) (k + i)) ∧ Fp (keepS tb B1 L0) w wi)) (fun _ iv _ => 4 - (intOf iv).toNat)
      case atStart => exact ⟨0, aL, cL, by omega, rfl, rfl, ⟨_, _, HR.out.1, HK.out⟩, HR.out.2.1⟩
      case round =>
        obtain ⟨i, a, c, hi, rfl, rfl, HI⟩ := hrel
        by_cases hi4 : i < 4
        · obtain ⟨x1, x2, hb2, hk2⟩ := HI.out.1
          obtain ⟨n1, z1, l1, o1⟩ := hk2.r1
          obtain ⟨n2, z2, l2, o2⟩ := hk2.r2
          obtain ⟨a1, c1, rfl⟩ := ownsRow_form o1
          obtain ⟨a2, c2, rfl⟩ := ownsRow_form o2
          obtain ⟨_, t1, t2, _, _, tf, tl⟩ := hb2.cells
          have tf1 := tf 1
          have HA : Hid _ := And.intro hb2 (And.intro hk2 (And.intro l1 o1))
          clear hb2 hk2 o1 o2 z2 tf
          have qi : decide ((i : Int) < 4) = true := decide_eq_true (by omega)
          go_wp2_with (first
            | (at_builtin; refine wpList_append_row elemStrss rfl _ _ rfl B1 (.slice a1 n1 c1) n1 z1 [.slice a (k + i) c] rfl ?b1 ⟨wr.heap.size, 0, none⟩ rfl rfl ?b2 ?b3 ?b4 ?b5 ?_; rotate_left 5; intro g1 cap1 w2 H2; obtain ⟨⟨s1, s2, sf1, sl⟩, H3⟩ := keep_one HA.out.1 HA.out.2.1 HA.out.2.2.1 HA.out.2.2.2 H2.out)
            | (at_builtin; refine wpList_append_row elemStr rfl _ _ rfl B1 (.slice a2 n2 c2) n2 H3.out.2.2.2.choose [.string s] rfl ?d1 ⟨w2.heap.size, 0, none⟩ rfl rfl ?d2 ?d3 ?d4 ?d5 ?_; rotate_left 5; intro g2 cap2 w3 H4; obtain ⟨⟨p1, p2, pf1, pl⟩, H5⟩ := keep_two H3.out.1 H3.out.2.1 (Nat.succ_le_succ l2) H3.out.2.2.2.choose_spec H4.out)
            | (at_builtin; refine wpList_append_row elemStr rfl _ _ rfl B (.slice a (k + i) c) (k + i) H5.out.2.2.2.choose [.string s] rfl ?f1 ⟨w3.heap.size, 0, none⟩ rfl rfl ?f2 ?f3 ?f4 ?f5 ?_; rotate_left 5; intro g3 cap3 w4 H6))
          case b1 => exact World.ownsRow.alloc HA.out.2.2.2 _
          case b2 => intro u hu; simp at hu; subst hu; rfl
          case b3 => exact row_new wr [_] _ _
          case b4 => omega
          case b5 => have := HI.out.2.size; have := HB1.out; simp; omega
          case d1 => exact World.ownsRow.alloc H3.out.2.2.2.choose_spec _
          case d2 => intro u hu; simp at hu; subst hu; rfl
          case d3 => exact row_new' _ (by simp) [_] _ _
          case d4 => omega
          case d5 => have := HI.out.2.size; have := HB1.out; have := H3.out.2.2.1.size; simp at this ⊢; omega
          case f1 => exact World.ownsRow.alloc H5.out.2.2.2.choose_spec _
          case f2 => intro u hu; simp at hu; subst hu; rfl
          case f3 => exact row_new' _ (by simp) [_] _ _
          case f4 => omega
          case f5 => have q1 := HI.out.2.size; have q0 := HB1.out; have q2 := H3.out.2.2.1.size; have q3 := H5.out.2.2.1.size; simp at q2 q3 ⊢; omega
          go_roundw
          case rel =>
            have r6 := KS.a3 (by have := HB1.out; have := HI.out.2.size; have := HB1.out; have := H3.out.2.2.1.size; have := H5.out.2.2.1.size; omega) H5.out.2.1 H5.out.1.blk H5.out.2.2.2.choose_spec H6.out
            refine ⟨i + 1, some ⟨g3, 0, none⟩, cap3, by omega, by go_num, rfl, ⟨_, _, H5.out.1.fp r6.2 (fun h => h.2 rfl), r6.1⟩, ?_⟩
            exact ((HI.out.2.trans' (H3.out.2.2.1.mono (fun _ _ h => h))).trans' H5.out.2.2.1).trans' (r6.2.mono (fun _ _ h => .inr h.1))
          case measure => simp [intOf]; omega
        · obtain rfl : i = 4 := by omega
          obtain ⟨x1, x2, hb2, hk2⟩ := HI.out.1
          have HE : Hid _ := And.intro hb2 HI.out.2
          clear hb2 hk2
          go_wp2
          go_end0
          exact ⟨rfl, ⟨x1, x2, HE.out.1⟩, HE.out.2⟩

end Go.Proofs.YtbimkgmhfcgpmaaGreatDoor

/- silolaw's keepFiles. -/
namespace Go.Proofs.YtbimkgmhfcgpmaaGreatDoor
open Go.RowKit Go.Shelf

theorem fileNeBook : (72 : TypeId) ≠ 31 := by decide

/-- What lies behind the store of the list of lists. -/
theorem keepF_one {w w1 : World} {B1 B N mk tb : Nat} {L0 : Value} {v1 v2 x3 x4 L : Value} {nL n : Nat} {xs cx : List Value} {g cap : Nat} {o : Obj} (hb : BookT w tb mk x3 x4 v1 v2) (h : KS w B1 L0 B N 33 72 2 v1 v2 L nL) (hn : n ≤ N) (hr : w.ownsRow B1 33 1 v1 n xs) (H : RowAppended 33 1 (w.alloc o) w1 B1 v1 n xs cx g cap) {a2 : Option Addr} {n2 c2 : Nat} (e2 : v2 = .slice a2 n2 c2 := by rfl) :
    (w1.cell? ⟨tb, 3, none⟩ = some v1 ∧ w1.cell? ⟨tb, 4, none⟩ = some v2 ∧ w1.frozen? ⟨tb, 3, none⟩ = false ∧ tb < w1.heap.size) ∧
    Hid (BookT (w1.setCell ⟨tb, 3, none⟩ (.slice (some ⟨g, 0, none⟩) (n + 1) cap)) tb mk x3 x4 (.slice (some ⟨g, 0, none⟩) (n + 1) cap) v2 ∧
      KS (w1.setCell ⟨tb, 3, none⟩ (.slice (some ⟨g, 0, none⟩) (n + 1) cap)) B1 L0 B (N + 1) 33 72 2 (.slice (some ⟨g, 0, none⟩) (n + 1) cap) v2 L nL ∧
      Fp (keepS tb B1 L0) w (w1.setCell ⟨tb, 3, none⟩ (.slice (some ⟨g, 0, none⟩) (n + 1) cap)) ∧
      ∃ z, (w1.setCell ⟨tb, 3, none⟩ (.slice (some ⟨g, 0, none⟩) (n + 1) cap)).ownsRow B1 9 1 v2 n2 z) := by
  obtain ⟨r1, r2⟩ := KS.a1 h hb.blk hn hr H
  have hb1 := hb.fp r2 (fun h => h.2 rfl)
  obtain ⟨_, _, _, s1, s2, sf, sl⟩ := hb1.cells
  have r3 := r1.set hb1.blk 3 (.slice (some ⟨g, 0, none⟩) (n + 1) cap)
  refine ⟨⟨s1, s2, sf 3, sl⟩, hb1.put3 _, r3, (r2.mono (fun _ _ h => .inr (.inr h.1))).trans' (Fp.setCell _ _ _ (.inl rfl)), ?_⟩
  obtain ⟨m, z, _, o2⟩ := r3.r2
  obtain ⟨_, _, e⟩ := ownsRow_form o2
  rw [e2] at e
  cases e
  exact ⟨z, o2⟩

/-- What lies behind the store of the marks. -/
theorem keepF_two {w w1 : World} {B1 B N mk tb : Nat} {L0 : Value} {v1 v2 x3 x4 : Value} {nL n : Nat} {xs cx : List Value} {g cap : Nat} {o : Obj} {aL : Option Addr} {cL : Nat} (hb : BookT w tb mk x3 x4 v1 v2) (h : KS w B1 L0 B N 33 72 2 v1 v2 (.slice aL nL cL) nL) (hn : n + 1 ≤ N) (hr : w.ownsRow B1 9 1 v2 n xs) (H : RowAppended 9 1 (w.alloc o) w1 B1 v2 n xs cx g cap) :
    (w1.cell? ⟨tb, 3, none⟩ = some v1 ∧ w1.cell? ⟨tb, 4, none⟩ = some v2 ∧ w1.frozen? ⟨tb, 4, none⟩ = false ∧ tb < w1.heap.size) ∧
    Hid (BookT (w1.setCell ⟨tb, 4, none⟩ (.slice (some ⟨g, 0, none⟩) (n + 1) cap)) tb mk x3 x4 v1 (.slice (some ⟨g, 0, none⟩) (n + 1) cap) ∧
      KS (w1.setCell ⟨tb, 4, none⟩ (.slice (some ⟨g, 0, none⟩) (n + 1) cap)) B1 L0 B N 33 72 2 v1 (.slice (some ⟨g, 0, none⟩) (n + 1) cap) (.slice aL nL cL) nL ∧
      Fp (keepS tb B1 L0) w (w1.setCell ⟨tb, 4, none⟩ (.slice (some ⟨g, 0, none⟩) (n + 1) cap)) ∧
      ∃ z, (w1.setCell ⟨tb, 4, none⟩ (.slice (some ⟨g, 0, none⟩) (n + 1) cap)).ownsRow B 72 2 (.slice aL nL cL) nL z) := by
  obtain ⟨r1, r2⟩ := KS.a2 h hb.blk hn hr H
  have hb1 := hb.fp r2 (fun h => h.2 rfl)
  obtain ⟨_, _, _, s1, s2, sf, sl⟩ := hb1.cells
  have r3 := r1.set hb1.blk 4 (.slice (some ⟨g, 0, none⟩) (n + 1) cap)
  exact ⟨⟨s1, s2, sf 4, sl⟩, hb1.put4 _, r3, (r2.mono (fun _ _ h => .inr (.inr h.1))).trans' (Fp.setCell _ _ _ (.inl rfl)), r3.rL⟩

set_option maxHeartbeats 4000000 in
set_option maxRecDepth 100000 in
theorem keepFiles_any (B tb mk : Nat) (hmk : mk = 0 ∨ mk = 1) (x3 x4 L : Value) (n : Nat) (xs : List Value) (w : World) (hb : BookT w tb mk x3 x4 (.slice none 0 0) (.slice none 0 0)) (hL : w.ownsRow B 72 2 L n xs) (hn : n ≤ 16777300) (hB : B ≤ w.heap.size) :
    Calls Tryz.prog 18 #[.pointer (some ⟨tb, 0, none⟩), L] w fun e w' => e = .returned (.tuple #[]) ∧ (∃ x1 x2, BookT w' tb (mk + 1) x3 x4 x1 x2) ∧ Fp (fun k => k = tb ∨ L.ownBlock = some k) w w' := by
  have H : Hid _ := And.intro hb hL
  obtain ⟨aL, cL, rfl⟩ := ownsRow_form hL
  obtain ⟨B1, hB1⟩ : ∃ B1, w.heap.size = B1 := ⟨_, rfl⟩
  obtain ⟨L0, hL0⟩ : ∃ L0, Value.slice aL n cL = L0 := ⟨_, rfl⟩
  have HB1 : Hid _ := hB1
  have HL0 : Hid _ := hL0
  refine Calls.mono (R := fun e w' => e = .returned (.tuple #[]) ∧ (∃ x1 x2, BookT w' tb (mk + 1) x3 x4 x1 x2) ∧ Fp (keepS tb B1 L0) w w') ?_ (fun e w' h => ⟨h.1, h.2.1, h.2.2.mono (fun k hk h9 => ?_)⟩)
  rotate_left
  · rw [HL0.out]
    rcases h9 with h9 | h9 | h9
    · exact .inl h9
    · exact .inr h9
    · omega
  clear hL0 hB1
  clear hb hL
  go_enter Tryz.func18, Tryz.ntmps18
  go_wp2_with fail
  refine (Booknext_any tb mk hmk x3 x4 _ _ w H.out.1).mono ?_
  rintro e w1 ⟨⟨s, rfl⟩, hb1, hf1⟩
  have H1 : Hid (BookT w1 tb (mk + 1) x3 x4 (.slice none 0 0) (.slice none 0 0) ∧ Fp (keepS tb B1 L0) w w1 ∧ w1.ownsRow B 72 2 (.slice aL n cL) n xs) := ⟨hb1, hf1.mono (fun k _ e => .inl e), Fp.ownsRow hf1 H.out.2 (own_ne H.out.2 H.out.1.blk fileNeBook)⟩
  clear hb1 hf1
  go_wp2_with fail
  go_loopw [5] (fun iv wr => ∃ k : Nat, k ≤ n ∧ iv = .int .i64 k ∧ Hid (BookT wr tb (mk + 1) x3 x4 (.slice none 0 0) (.slice none 0 0) ∧ Fp (keepS tb B1 L0) w wr ∧ ∃ ys, wr.ownsRow B 72 2 (.slice aL n cL) n ys)) (fun iv _ => n - (intOf iv).toNat)
  case atStart => exact ⟨0, by omega, rfl, H1.out.1, H1.out.2.1, xs, H1.out.2.2⟩
  case round =>
    obtain ⟨k, hk, rfl, HR⟩ := hrel
    by_cases hlt : k < n
    · obtain ⟨ys, hys⟩ := HR.out.2.2
      obtain ⟨g, rfl, hg1, hg2, hgf, hgc⟩ := rowAny_at hys (by omega)
      obtain ⟨u, hu⟩ := hgc (k * 2) (by omega)
      obtain ⟨u', hu'⟩ := hgc (k * 2 + 1) (by omega)
      have hfz := hgf (k * 2)
      have hfz' := hgf (k * 2 + 1)
      have HY : Hid _ := hys
      clear hgf hgc hys
      have kN : (k : Int) < (n : Int) := by omega
      go_wp2
      go_roundw
      case rel =>
        have hs := World.ownsRow.stored (World.ownsRow.stored HY.out (k * 2) (.string s)).1 (k * 2 + 1) (.string ByteArray.empty)
        have hff : Fp (fun j => j = g) wr ((wr.setCell ⟨g, k * 2, none⟩ (.string s)).setCell ⟨g, k * 2 + 1, none⟩ (.string ByteArray.empty)) := (Fp.setCell (S := fun j => j = g) _ _ _ rfl).trans' (Fp.setCell (S := fun j => j = g) _ _ _ rfl)
        exact ⟨k + 1, by omega, by go_num, HR.out.1.fp hff (fun e => own_ne HY.out HR.out.1.blk fileNeBook g (by simp [Value.ownBlock]) e.symm), HR.out.2.1.trans' (hff.mono (fun j _ e => .inr (.inl (by rw [← HL0.out, e]; rfl)))), _, hs.1⟩
      case measure => simp [intOf]; omega
    · obtain rfl : k = n := by omega
      have kN : ¬ (k : Int) < (k : Int) := by omega
      have HK : Hid (KS wr B1 L0 B 0 33 72 2 (.slice none 0 0) (.slice none 0 0) (.slice aL k cL) (k + 0)) := by
        obtain ⟨ys, hys⟩ := HR.out.2.2
        exact ⟨⟨0, [], Nat.le_refl _, ⟨rfl, .inl ⟨rfl, rfl⟩⟩⟩, ⟨0, [], Nat.le_refl _, ⟨rfl, .inl ⟨rfl, rfl⟩⟩⟩, ⟨ys, hys⟩, fun j hj => by simp [Value.ownBlock] at hj, fun j hj => .inl (by rw [← HL0.out]; exact hj), by decide, by decide, by decide, by decide⟩
      obtain ⟨W, hW⟩ : ∃ W, W = wr := ⟨_, rfl⟩
      go_wp2_with fail
      go_loopw [1, 6] (fun lv iv wi => ∃ (i : Nat) (a : Option Addr) (c : Nat), i ≤ 4 ∧ iv = .int .i64 i ∧ lv = .slice a (k + i) c ∧ Hid ((∃ x1 x2, BookT wi tb (mk + 1) x3 x4 x1 x2 ∧ KS wi B1 L0 B i 33 72 2 x1 x2 (.slice a (k + i) c) (k + i)) ∧ Fp (keepS tb B1 L0) w wi)) (fun _ iv _ => 4 - (intOf iv).toNat)
      case atStart => exact ⟨0, aL, cL, by omega, rfl, rfl, ⟨_, _, HR.out.1, HK.out⟩, HR.out.2.1⟩
      case round =>
        obtain ⟨i, a, c, hi, rfl, rfl, HI⟩ := hrel
        by_cases hi4 : i < 4
        · obtain ⟨x1, x2, hb2, hk2⟩ := HI.out.1
          obtain ⟨n1, z1, l1, o1⟩ := hk2.r1
          obtain ⟨n2, z2, l2, o2⟩ := hk2.r2
          obtain ⟨a1, c1, rfl⟩ := ownsRow_form o1
          obtain ⟨a2, c2, rfl⟩ := ownsRow_form o2
          obtain ⟨_, _, _, t1, t2, tf, tl⟩ := hb2.cells
          have tf1 := tf 3
          have HA : Hid _ := And.intro hb2 (And.intro hk2 (And.intro l1 o1))
          clear hb2 hk2 o1 o2 z2 tf
          have qi : decide ((i : Int) < 4) = true := decide_eq_true (by omega)
          go_wp2_with (first
            | (at_builtin; refine wpList_append_row elemFiless rfl _ _ rfl B1 (.slice a1 n1 c1) n1 z1 [.slice a (k + i) c] rfl ?b1 ⟨wr.heap.size, 0, none⟩ rfl rfl ?b2 ?b3 ?b4 ?b5 ?_; rotate_left 5; intro g1 cap1 w2 H2; obtain ⟨⟨s1, s2, sf1, sl⟩, H3⟩ := keepF_one HA.out.1 HA.out.2.1 HA.out.2.2.1 HA.out.2.2.2 H2.out)
            | (at_builtin; refine wpList_append_row elemStr rfl _ _ rfl B1 (.slice a2 n2 c2) n2 H3.out.2.2.2.choose [.string s] rfl ?d1 ⟨w2.heap.size, 0, none⟩ rfl rfl ?d2 ?d3 ?d4 ?d5 ?_; rotate_left 5; intro g2 cap2 w3 H4; obtain ⟨⟨p1, p2, pf1, pl⟩, H5⟩ := keepF_two H3.out.1 H3.out.2.1 (Nat.succ_le_succ l2) H3.out.2.2.2.choose_spec H4.out)
            | (at_builtin; refine wpList_append_row elemFile rfl _ _ rfl B (.slice a (k + i) c) (k + i) H5.out.2.2.2.choose [.string s, .string ByteArray.empty] rfl ?f1 ⟨w3.heap.size, 0, none⟩ rfl rfl ?f2 ?f3 ?f4 ?f5 ?_; rotate_left 5; intro g3 cap3 w4 H6))
          case b1 => exact World.ownsRow.alloc HA.out.2.2.2 _
          case b2 => intro u hu; simp at hu; subst hu; rfl
          case b3 => exact row_new wr [_] _ _
          case b4 => omega
          case b5 => have := HI.out.2.size; have := HB1.out; simp; omega
          case d1 => exact World.ownsRow.alloc H3.out.2.2.2.choose_spec _
          case d2 => intro u hu; simp at hu; subst hu; rfl
          case d3 => exact row_new' _ (by simp) [_] _ _
          case d4 => omega
          case d5 => have := HI.out.2.size; have := HB1.out; have := H3.out.2.2.1.size; simp at this ⊢; omega
          case f1 => exact World.ownsRow.alloc H5.out.2.2.2.choose_spec _
          case f2 => intro u hu; simp at hu; rcases hu with rfl | rfl <;> rfl
          case f3 => exact row_new' _ (by simp) [_, _] _ _
          case f4 => omega
          case f5 => have q1 := HI.out.2.size; have q0 := HB1.out; have q2 := H3.out.2.2.1.size; have q3 := H5.out.2.2.1.size; simp at q2 q3 ⊢; omega
          go_roundw
          case rel =>
            have r6 := KS.a3 (by have := HB1.out; have := HI.out.2.size; have := HB1.out; have := H3.out.2.2.1.size; have := H5.out.2.2.1.size; omega) H5.out.2.1 H5.out.1.blk H5.out.2.2.2.choose_spec H6.out
            refine ⟨i + 1, some ⟨g3, 0, none⟩, cap3, by omega, by go_num, rfl, ⟨_, _, H5.out.1.fp r6.2 (fun h => h.2 rfl), r6.1⟩, ?_⟩
            exact ((HI.out.2.trans' (H3.out.2.2.1.mono (fun _ _ h => h))).trans' H5.out.2.2.1).trans' (r6.2.mono (fun _ _ h => .inr h.1))
          case measure => simp [intOf]; omega
        · obtain rfl : i = 4 := by omega
          obtain ⟨x1, x2, hb2, hk2⟩ := HI.out.1
          have HE : Hid _ := And.intro hb2 HI.out.2
          clear hb2 hk2
          go_wp2
          go_end0
          exact ⟨rfl, ⟨x1, x2, HE.out.1⟩, HE.out.2⟩

end Go.Proofs.YtbimkgmhfcgpmaaGreatDoor

/- silolaw's handedTexts. -/
namespace Go.Proofs.YtbimkgmhfcgpmaaGreatDoor
open Go.RowKit Go.Shelf

theorem strsAt_some {w : World} {base k cap : Nat} {a : Option Addr} {xs : List (List UInt8)} (h : World.strsAt w base (.slice a k cap) xs) (hk : 0 < xs.length) : k = xs.length ∧ ∃ g, a = some ⟨g, 0, none⟩ ∧ g < w.heap.size := by
  obtain ⟨g, cap', e, _, h3⟩ := World.ownsRow.form h hk
  simp only [Value.slice.injEq] at e
  exact ⟨e.2.1, g, e.1, h3⟩

set_option maxHeartbeats 4000000 in
set_option maxRecDepth 100000 in
theorem handedTexts_any (B tb mk : Nat) (hmk : mk = 0 ∨ mk = 1) (x3 x4 sv lv : Value) (zs xs : List (List UInt8)) (w : World) (hb : BookT w tb mk (.slice none 0 0) (.slice none 0 0) x3 x4) (hs : World.strsAt w B sv zs) (hl : StrsIn w lv xs)
    (hz : ∀ k z, zs[k]? = some z → xs[k]? = some z ∨ (xs.length ≤ k ∧ z = behind)) (hn : zs.length ≤ 16777300) (hB : B ≤ w.heap.size) :
    Calls Tryz.prog 17 #[.pointer (some ⟨tb, 0, none⟩), sv, lv] w fun e w' => e = .returned (.bool true) ∧ (∃ x1 x2, BookT w' tb (mk + 1) x1 x2 x3 x4) ∧ Fp (fun k => k = tb ∨ sv.ownBlock = some k) w w' := by
  obtain ⟨sa, sc, rfl⟩ := strsAt_form hs
  have HL : Hid _ := And.intro hl hz
  obtain ⟨la, lc, rfl, _⟩ := hl
  obtain ⟨n, hnn⟩ : ∃ n, zs.length = n := ⟨_, rfl⟩
  obtain ⟨m, hmm⟩ : ∃ m, xs.length = m := ⟨_, rfl⟩
  have H : Hid (BookT w tb mk (.slice none 0 0) (.slice none 0 0) x3 x4 ∧ World.strsAt w B (.slice sa zs.length sc) zs ∧ StrsIn w (.slice la xs.length lc) xs ∧ (∀ k z, zs[k]? = some z → xs[k]? = some z ∨ (xs.length ≤ k ∧ z = behind)) ∧ zs.length = n ∧ xs.length = m) := ⟨hb, hs, HL.out.1, HL.out.2, hnn, hmm⟩
  rw [hnn] at hn ⊢
  rw [hmm]
  clear hb hs hz hnn hmm HL
  go_enter Tryz.func17, Tryz.ntmps17
  go_wp2_with fail
  go_loopw [7, 8] (fun bv iv wr => ∃ k : Nat, k ≤ n ∧ iv = .int .i64 k ∧ bv = .bool true ∧ Hid (Fp (fun _ => False) w wr)) (fun _ iv _ => n - (intOf iv).toNat)
  case atStart => exact ⟨0, by omega, rfl, rfl, Fp.refl _ _⟩
  case round =>
    obtain ⟨k, hk, rfl, rfl, HR⟩ := hrel
    by_cases hlt : k < n
    · have hkz : k < zs.length := by rw [H.out.2.2.2.2.1]; exact hlt
      have hrow := H.out.2.1
      obtain ⟨_, g, hga, hg2⟩ := strsAt_some hrow (by omega)
      subst hga
      have z0 := strsAt_cell hrow k hkz
      obtain ⟨z, hzz⟩ : ∃ z, zs[k] = z := ⟨_, rfl⟩
      rw [hzz] at z0
      rw [← HR.out.cell (p := ⟨g, k, none⟩) hg2 (fun h => h)] at z0
      have kN : (k : Int) < (n : Int) := by omega
      rcases H.out.2.2.2.1 k z (by rw [List.getElem?_eq_getElem hkz, hzz]) with he | ⟨hkx, he⟩
      · obtain ⟨la', lc', e9, hc⟩ := H.out.2.2.1
        cases e9
        obtain ⟨b, off, hla, hbb, y0⟩ := hc k z he
        subst hla
        rw [← HR.out.cell (p := ⟨b, off + k, none⟩) hbb (fun h => h)] at y0
        have hkm : k < m := by rw [← H.out.2.2.2.2.2]; exact (List.getElem?_eq_some_iff.1 he).1
        have kM : (k : Int) < (m : Int) := by omega
        have t1 : decide ((k : Int) < (m : Int)) = true := decide_eq_true kM
        have t1' : decide (k < m) = true := decide_eq_true (by omega)
        clear hc he hzz hrow hkz
        go_wp2_with fail
        go_quiet (fail)
        go_wp2
        go_roundw
        case rel => exact ⟨k + 1, by omega, by go_num, rfl, HR.out.trans' (Fp.drewN _ _ _)⟩
        case measure => simp [intOf]; omega
      · subst he
        have z1 : wr.cell? ⟨g, k, none⟩ = some (.string ⟨#[98, 101, 104, 105, 110, 100]⟩) := z0
        rw [H.out.2.2.2.2.2] at hkx
        have kM : ¬ (k : Int) < (m : Int) := by omega
        have t1 : decide ((k : Int) < (m : Int)) = false := decide_eq_false kM
        have t2 : decide ((m : Int) ≤ (k : Int)) = true := decide_eq_true (by omega)
        have t1' : decide (k < m) = false := decide_eq_false (by omega)
        have t2' : decide (m ≤ k) = true := decide_eq_true (by omega)
        clear hzz hrow hkz hkx z0
        go_wp2_with fail
        go_quiet (fail)
        go_wp2
        go_roundw
        case rel => exact ⟨k + 1, by omega, by go_num, rfl, HR.out.trans' (Fp.drewN _ _ _)⟩
        case measure => simp [intOf]; omega
    · have kN : ¬ (k : Int) < (n : Int) := by omega
      go_wp2_with fail
      refine (keepTexts_any B tb mk hmk x3 x4 (.slice sa n sc) n (strCells zs) wr (H.out.1.fp HR.out (fun h => h)) (by have h := Fp.ownsRow HR.out H.out.2.1 (fun _ _ h => h); rw [H.out.2.2.2.2.1] at h; exact h) hn (Nat.le_trans hB HR.out.size)).mono ?_
      rintro e w2 ⟨rfl, h2⟩
      have H2 : Hid _ := h2
      clear h2
      go_wp2
      go_ret
      exact ⟨ret_val (by simp), H2.out.1, (HR.out.mono (fun _ _ h => h.elim)).trans' H2.out.2⟩

end Go.Proofs.YtbimkgmhfcgpmaaGreatDoor
