/- silokeep's lay and layAll: their contracts. -/
import Derived.Test.YtojjkjfcbfoinaaBlock
import Derived.Deep.Upon
namespace Silo

/-- A sample stands ahead of another. -/
def ahead (a x : Smp) : Bool := decide (a.s < x.s ∨ a.s = x.s ∧ a.t < x.t)
def sameKey (a x : Smp) : Bool := decide (a.s = x.s ∧ a.t = x.t)

/-- Where x is laid: behind all that are ahead of it, in front. -/
def place (l : List Smp) (x : Smp) : Nat := (l.takeWhile (fun a => ahead a x)).length

def layRest (l : List Smp) (x : Smp) : List Smp := match l.drop (place l x) with
  | [] => []
  | a :: r => if sameKey a x then r else a :: r

def layL (l : List Smp) (x : Smp) : List Smp := l.take (place l x) ++ [x] ++ layRest l x

theorem place_le (l : List Smp) (x : Smp) : place l x ≤ l.length := (List.takeWhile_prefix _).length_le

theorem place_eq {l : List Smp} {x : Smp} {i : Nat} (hi : i ≤ l.length) (h : ∀ k (hk : k < i), ahead (l[k]'(by omega)) x = true) (hs : ∀ (hlt : i < l.length), ahead l[i] x = false) : place l x = i := by
  unfold place
  induction l generalizing i with
  | nil => simp at hi; simp [hi]
  | cons a l ih =>
    cases i with
    | zero =>
      have := hs (by simp)
      simp only [List.getElem_cons_zero] at this
      simp [this]
    | succ i =>
      have h0 := h 0 (by omega)
      simp only [List.getElem_cons_zero] at h0
      rw [List.takeWhile_cons, h0]
      simp only [if_true, List.length_cons]
      rw [ih (i := i) (by simpa using hi) (fun k hk => by have := h (k + 1) (by omega); simpa using this) (fun hlt => by have := hs (by simpa using hlt); simpa using this)]

theorem layRest_end {l : List Smp} {x : Smp} (h : place l x = l.length) : layRest l x = [] := by
  unfold layRest; rw [h, List.drop_length]

theorem layRest_same {l : List Smp} {x : Smp} {i : Nat} (h : place l x = i) (hi : i < l.length) (hk : sameKey l[i] x = true) : layRest l x = l.drop (i + 1) := by
  unfold layRest; rw [h, List.drop_eq_getElem_cons hi]; simp [hk]

theorem layRest_other {l : List Smp} {x : Smp} {i : Nat} (h : place l x = i) (hi : i < l.length) (hk : sameKey l[i] x = false) : layRest l x = l.drop i := by
  unfold layRest; rw [h]
  rw [List.drop_eq_getElem_cons hi]; simp [hk]

theorem layL_length (l : List Smp) (x : Smp) : (layL l x).length ≤ l.length + 1 := by
  unfold layL layRest
  have := place_le l x
  cases hd : l.drop (place l x) with
  | nil => simp; omega
  | cons a r =>
    have h2 : (l.drop (place l x)).length = r.length + 1 := by rw [hd]; rfl
    simp only [List.length_drop] at h2
    simp only
    split <;> simp <;> omega

end Silo

namespace Go.Proofs.Ytojjkjfcbfoinaa
open Go.RowKit Go.Shelf

/-- Samples to be copied: where they lie. -/
def SmpSrc (W : World) (src : Value) (ys : List Silo.Smp) : Prop :=
  ∃ a c, src = .slice a ys.length c ∧ (ys = [] ∨ ∃ b off, a = some ⟨b, off, none⟩ ∧ ∀ j u, (smpCells ys)[j]? = some u → W.cell? ⟨b, off + j, none⟩ = some u)

structure AppendedS (W w' : World) (base : Nat) (v : Value) (xs ys : List Silo.Smp) (v' : Value) : Prop where
  row : World.smpsAt w' base v' (xs ++ ys)
  foot : Fp (fun k => v.ownBlock = some k) W w'
  lies : ∀ k, v'.ownBlock = some k → v.ownBlock = some k ∨ W.heap.size ≤ k

theorem smp_one (ys : List Silo.Smp) : ∀ u ∈ smpCells ys, u.oneCell' = true := by
  intro u hu
  unfold smpCells at hu
  rw [List.mem_flatMap] at hu
  obtain ⟨x, _, hx⟩ := hu
  simp at hx
  rcases hx with rfl | rfl | rfl <;> rfl

theorem run_append_smps {W : World} (ty : TypeId) (base : Nat) (v : Value) (xs ys : List Silo.Smp) (hown : World.smpsAt W base v xs) (src : Value) (hsrc : SmpSrc W src ys) (hl : xs.length + ys.length ≤ 1099511627776) (hbase : base ≤ W.heap.size) :
    ∃ v' w', (Builtin.append_ #[22, 22] ty #[v, src]).run Try.prog W = .ok v' w' ∧ AppendedS W w' base v xs ys v' := by
  obtain ⟨i0, hi, hz0, hz1, hz2⟩ := info_parts Try.infoSample
  obtain ⟨a, c, rfl, hc⟩ := hsrc
  by_cases hy : ys = []
  · subst hy
    have hform : ∃ b n cap, v = .slice b n cap ∧ n ≤ cap := by
      rcases hown.2 with ⟨h1, h2⟩ | ⟨g, cap, cur, h3, _, _, h4, _⟩
      · exact ⟨none, 0, 0, h1, Nat.le_refl _⟩
      · exact ⟨_, _, _, h3, h4⟩
    obtain ⟨b, n, cap, rfl, hle⟩ := hform
    refine ⟨_, W, run_append_nothing (P := Try.prog) W 22 22 ty 42 i0 Try.underlying22 hi b n cap hle _ ?_, ?_⟩
    · cases a with
      | none => exact Src.ofNil W Try.underlying22 c
      | some ad => exact Src.ofSlice W Try.underlying22 ad 0 c [] (by simp) (fun j u h => by simp at h) (fun u h => by simp at h)
    · exact ⟨by simpa using hown, Fp.refl _ _, fun k h => .inl h⟩
  · rcases hc with hc | ⟨b, off, rfl, hc⟩
    · exact absurd hc hy
    · have hpos : 0 < ys.length := List.length_pos_iff.2 hy
      obtain ⟨g, cap, w', hr, h1, h2, h3, h4⟩ := run_append_lies (P := Try.prog) W 22 ty base 42 i0 _ 3 24 Try.underlying22 hi hz0 hz1 hz2 rfl (by decide) v xs.length (smpCells xs) hown ⟨b, off, none⟩ ys.length c (smpCells ys) (smpCells_length ys)
        (fun j u hj => by have := hc j u hj; unfold Addr.add; split <;> simp_all) (smp_one ys) hpos (by unfold maxLen; omega) (by omega) hbase _ rfl
      refine ⟨_, w', hr, ?_, Fp.mono (Fp.of_grownBy h2) (fun _ _ e => e.symm), fun k hk => ?_⟩
      · unfold World.smpsAt
        rw [List.length_append, smpCells_append]
        exact h1
      · simp only [Value.ownBlock, Option.some.injEq] at hk
        subst hk
        exact h3.imp id (fun e => Nat.le_of_eq e.symm)

theorem wpList_append_smps {ops : Array Oper} {rest : List Oper} {o : Oper} {a : Act} {Q : Exit → Act → World → Prop} {W : World} (hgd : o.guard = none) (s x : Operand)
    (ho : o.op = .call { callee := .builtin .append, args := #[s, x], argTypes := #[22, 22] })
    (base : Nat) (v : Value) (xs ys : List Silo.Smp) (src : Value) (hs : a.eval s = v) (hx : a.eval x = src) (hown : World.smpsAt W base v xs) (hsrc : SmpSrc W src ys) (hl : xs.length + ys.length ≤ 1099511627776) (hbase : base ≤ W.heap.size)
    (h : ∀ v' w', Hid (AppendedS W w' base v xs ys v') → wpList Try.prog ops Q rest (a.put o.dst v') w') :
    wpList Try.prog ops Q (o :: rest) a W := by
  refine wpList_plain hgd fun K hK => ?_
  obtain ⟨v', w', hr, h1⟩ := run_append_smps (W := W) o.type base v xs ys hown src hsrc hl hbase
  unfold Oper.wp execOp
  simp only [ho, resolve, invoke, builtin, Sem.run_bind, Sem.run_pure, Result.andThen_ok, List.map_toArray, List.map_cons, List.map_nil, hs, hx, hr]
  exact hK _ _ (h v' w' h1)

/-- The cells of a stretch of a row. -/
theorem smpCells_part (l : List Silo.Smp) (i n : Nat) (j : Nat) (u : Value) (h : (smpCells ((l.drop i).take n))[j]? = some u) : (smpCells l)[i * 3 + j]? = some u := by
  have e : l = l.take i ++ ((l.drop i).take n ++ (l.drop i).drop n) := by rw [List.take_append_drop, List.take_append_drop]
  rw [e, smpCells_append, smpCells_append]
  by_cases hi : i ≤ l.length
  · rw [List.getElem?_append_right (by rw [smpCells_length]; simp; omega), smpCells_length]
    have e2 : i * 3 + j - (l.take i).length * 3 = j := by simp; omega
    rw [e2]
    rw [List.getElem?_append_left (List.getElem?_eq_some_iff.1 h).1]
    exact h
  · rw [List.drop_eq_nil_of_le (by omega)] at h
    simp [smpCells] at h

theorem src_part {W : World} {base g cap : Nat} {l : List Silo.Smp} (h : World.smpsAt W base (.slice (some ⟨g, 0, none⟩) l.length cap) l) (i n k c : Nat) (hn : k = n) (hl : i + n ≤ l.length) : SmpSrc W (.slice (some ⟨g, i * 3, none⟩) k c) ((l.drop i).take n) := by
  subst hn
  refine ⟨_, c, by rw [show ((l.drop i).take k).length = k by simp; omega], .inr ⟨g, i * 3, rfl, fun j u hj => ?_⟩⟩
  have h1 := World.ownsRow.cells h (g := g) rfl (i * 3 + j) u (smpCells_part l i k j u hj)
  unfold Addr.add at h1
  split at h1
  · rename_i hz; rw [hz]; exact h1
  · simpa using h1

theorem src_none (W : World) (a : Option Addr) (k c : Nat) (hk : k = 0) : SmpSrc W (.slice a k c) [] := ⟨a, c, by rw [hk]; rfl, .inl rfl⟩

theorem SmpSrc.fp {S : Nat → Prop} {W w' : World} {src : Value} {ys : List Silo.Smp} (h : SmpSrc W src ys) (hf : Fp S W w') (hs : ∀ k, src.ownBlock = some k → k < W.heap.size ∧ ¬ S k) : SmpSrc w' src ys := by
  obtain ⟨a, c, rfl, h⟩ := h
  refine ⟨a, c, rfl, h.imp id ?_⟩
  rintro ⟨b, off, rfl, hc⟩
  refine ⟨b, off, rfl, fun j u hj => ?_⟩
  obtain ⟨h1, h2⟩ := hs b rfl
  rw [hf.cell (p := ⟨b, off + j, none⟩) h1 h2]
  exact hc j u hj

/-- The sample x lies in a block of its own, laid at the start. -/
structure KS (w W : World) (x : Silo.Smp) : Prop where
  fp : Fp (fun _ => False) w W
  lt : w.heap.size < W.heap.size
  c0 : W.cell? ⟨w.heap.size, 0, none⟩ = some (.int .i64 x.s)
  c1 : W.cell? ⟨w.heap.size, 1, none⟩ = some (.int .i64 x.t)
  c2 : W.cell? ⟨w.heap.size, 2, none⟩ = some (.int .u64 (x.v : Nat))

theorem KS.start (w : World) (x : Silo.Smp) : KS w (w.alloc (.cells #[.int .i64 x.s, .int .i64 x.t, .int .u64 (x.v : Nat)] 42)) x :=
  ⟨Fp.alloc _ _ _, by simp, by simp, by simp, by simp⟩

theorem KS.next {w W W' : World} {x : Silo.Smp} {S : Nat → Prop} (h : KS w W x) (hf : Fp S W W') (hS : ∀ k, S k → w.heap.size < k) : KS w W' x :=
  ⟨h.fp.trans hf (fun _ h => h) (fun k hk hs => by have := hS k hs; omega), Nat.lt_of_lt_of_le h.lt hf.size,
   by rw [hf.cell (p := ⟨w.heap.size, 0, none⟩) h.lt (fun hs => by have : w.heap.size < w.heap.size := hS _ hs; omega)]; exact h.c0,
   by rw [hf.cell (p := ⟨w.heap.size, 1, none⟩) h.lt (fun hs => by have : w.heap.size < w.heap.size := hS _ hs; omega)]; exact h.c1,
   by rw [hf.cell (p := ⟨w.heap.size, 2, none⟩) h.lt (fun hs => by have : w.heap.size < w.heap.size := hS _ hs; omega)]; exact h.c2⟩

theorem KS.row {w W : World} {x : Silo.Smp} (h : KS w W x) {base : Nat} {v : Value} {l : List Silo.Smp} (hr : World.smpsAt w base v l) : World.smpsAt W base v l := Fp.ownsRow h.fp hr (fun _ _ h => h)

theorem nil_row (W : World) (base : Nat) : World.smpsAt W base (.slice none 0 0) [] := ⟨rfl, .inl ⟨rfl, rfl⟩⟩

theorem none_own {k : Nat} (h : (Value.slice none 0 0).ownBlock = some k) : False := by simp [Value.ownBlock] at h

theorem ownsRow_base {w : World} {b b' : Nat} {e : TypeId} {size : Nat} {v : Value} {n : Nat} {xs : List Value} (h : w.ownsRow b e size v n xs) (hb : b' ≤ b) : w.ownsRow b' e size v n xs := by
  refine ⟨h.1, h.2.imp id ?_⟩
  rintro ⟨g, cap, cur, q3, q4, q5⟩
  exact ⟨g, cap, cur, q3, Nat.le_trans hb q4, q5⟩

set_option maxHeartbeats 1000000 in
set_option maxRecDepth 100000 in
theorem Keeplay_nil (x : Silo.Smp) (w : World) :
    Calls Try.prog 25 #[.slice none 0 0, .agg #[.int .i64 x.s, .int .i64 x.t, .int .u64 (x.v : Nat)]] w fun e w' => ∃ v', e = .returned v' ∧ World.smpsAt w' w.heap.size v' [x] ∧ Fp (fun _ => False) w w' := by
  go_enter Try.func25, Try.ntmps25
  go_wp2_with fail
  go_loopw [6] (fun iv wr => iv = .int .i64 0 ∧ Hid (KS w wr x)) (fun _ _ => 0)
  case atStart => exact ⟨rfl, KS.start w x⟩
  case round =>
    obtain ⟨rfl, HR⟩ := hrel
    go_wp2_with fail
    go_quiet (fail)
    have KN : Hid (KS w (wr.drewN nq) x) := HR.out.next (Fp.drewN (fun _ => False) _ _) (fun _ h => h.elim)
    go_wp2_with (first | (at_builtin; refine wpList_append_smps rfl _ _ rfl (w.heap.size + 1) (.slice none 0 0) [] ([]) _ rfl rfl ?c1 ?c2 ?c3 ?c4 ?_; rotate_left 4; intro v1 w1 HA; have k1 := KN.out.next HA.out.foot (fun k h => (none_own h).elim); have z0 := k1.c0; have z1 := k1.c1; have z2 := k1.c2; have zl := k1.lt; have K1 : Hid _ := k1; clear k1) | (at_builtin; refine wpList_append_smps rfl _ _ rfl (w.heap.size + 1) v1 ([] ++ ([])) [x] _ rfl rfl ?c5 ?c6 ?c7 ?c8 ?_; rotate_left 4; intro v2 w2 HB))
    case c1 => exact nil_row _ _
    case c2 => exact src_none _ _ _ _ rfl
    case c3 => simp <;> omega
    case c4 => exact KN.out.lt
    case c5 => exact Fp.ownsRow (Fp.alloc (fun _ => False) _ _) HA.out.row (fun _ _ h => h)
    case c6 => exact ⟨_, _, rfl, .inr ⟨w1.heap.size, 0, rfl, fun j u hj => by have h := smp_new w1 x 42 j u hj; unfold Addr.add at h; split at h <;> simp_all⟩⟩
    case c7 => simp <;> omega
    case c8 => have := K1.out.lt; simp; omega
    have k2 := (K1.out.next (Fp.alloc (fun _ => False) _ _) (fun _ h => h.elim)).next HB.out.foot (fun k h => (World.ownsRow.lt HA.out.row k h).1)
    have y0 := k2.c0
    have y1 := k2.c1
    have y2 := k2.c2
    have K2 : Hid _ := k2
    clear k2 z0 z1 z2
    go_quiet (fail)
    go_wp2_with (at_builtin; refine wpList_append_smps rfl _ _ rfl (w.heap.size + 1) v2 ([] ++ ([]) ++ [x]) ([]) _ rfl rfl ?c9 ?c10 ?c11 ?c12 ?_; rotate_left 4; intro v3 w3 HC)
    case c9 => exact Fp.ownsRow (Fp.drewN (fun _ => False) _ _) HB.out.row (fun _ _ h => h)
    case c10 => exact src_none _ _ _ _ rfl
    case c11 => simp <;> omega
    case c12 => exact K2.out.lt
    go_ret
    have k3 := (K2.out.next (Fp.drewN (fun _ => False) _ _) (fun _ h => h.elim)).next HC.out.foot (fun k h => (World.ownsRow.lt HB.out.row k h).1)
    refine ⟨v3, ret_val (by simp), ?_, k3.fp⟩
    have h9 := HC.out.row
    rw [show ([] ++ [] ++ [x] ++ [] : List Silo.Smp) = [x] from rfl] at h9
    exact ownsRow_base h9 (by omega)

end Go.Proofs.Ytojjkjfcbfoinaa
