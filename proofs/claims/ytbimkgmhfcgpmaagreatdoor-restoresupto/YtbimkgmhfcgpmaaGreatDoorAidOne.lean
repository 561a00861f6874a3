/- AnyInv, SeriesAid, LayAid, AnyInv2, Pure6, Pure7, Block, KeepLay, KeepRow, Pure8, PureA, RefLay, PureB, PureC, PureD, in one text. -/
import Derived.Test.YtbimkgmhfcgpmaaGreatDoorFoot
import Derived.OrdersIn
import Derived.Stop.RegionWithIn
import Derived.Test.YtbimkgmhfcgpmaaGreatDoorRdPtsOne
import Derived.Test.YtbimkgmhfcgpmaaGreatDoorRefCOne
import Derived.Test.YtbimkgmhfcgpmaaGreatDoorRdSamples
import Derived.Test.YtbimkgmhfcgpmaaGreatDoorRdOne
import Derived.Test.YtbimkgmhfcgpmaaGreatDoorPureOne
import Derived.BigQuiet
import Derived.Test.YtbimkgmhfcgpmaaGreatDoorRowOne
import Derived.Orders
import Derived.Deep.RegionHeld
import Derived.Maps.AppendAt
import Derived.Lib.SliceRun
import Derived.Sort.QuietIn
import Derived.Sort.CutIn
import Derived.Test.YtbimkgmhfcgpmaaGreatDoorSealed
import Derived.Lib.SlBytesConst
import Derived.Deep.Upon

/- A region that draws its order, by an invariant over which of its operations have been carried out. Over any program. -/
namespace Go.Proofs.YtbimkgmhfcgpmaaGreatDoor
open Go.RowKit

/-- Has operation i been carried out? -/
def done (listed : Array Bool) (i : Nat) : Bool := listed.getD i false

theorem done_set_same {listed : Array Bool} {i : Nat} (h : i < listed.size) : done (listed.setIfInBounds i true) i = true := by
  simp [done, Array.getD, h]

theorem done_set_ne {listed : Array Bool} {i j : Nat} (h : i ≠ j) : done (listed.setIfInBounds i true) j = done listed j := by
  unfold done
  simp only [Array.getD_eq_getD_getElem?, Array.getElem?_setIfInBounds]
  rw [if_neg h]

theorem done_of_set {listed : Array Bool} {i j : Nat} (h : done (listed.setIfInBounds i true) j = true) (hne : i ≠ j) : done listed j = true := by rwa [done_set_ne hne] at h

theorem undone_of_set {listed : Array Bool} {i j : Nat} (h : done (listed.setIfInBounds i true) j = false) : done listed j = false := by
  by_cases e : i = j
  · subst e
    by_cases hi : i < listed.size
    · rw [done_set_same hi] at h; cases h
    · unfold done at h ⊢
      simp only [Array.getD_eq_getD_getElem?] at h ⊢
      simp [hi]
  · rwa [done_set_ne e] at h

/-- How many are still to come. -/
def toCome (listed : Array Bool) : Nat := (List.range listed.size).countP fun i => !done listed i

theorem countP_lt {l : List Nat} {p q : Nat → Bool} (h : ∀ x ∈ l, q x = true → p x = true) {i : Nat} (hi : i ∈ l) (hp : p i = true) (hq : q i = false) : l.countP q < l.countP p := by
  induction l with
  | nil => cases hi
  | cons a l ih =>
    have hle : l.countP q ≤ l.countP p := List.countP_mono_left (fun x hx => h x (List.mem_cons_of_mem _ hx))
    rcases List.mem_cons.1 hi with rfl | hi'
    · simp [hp, hq]; omega
    · have := ih (fun x hx => h x (List.mem_cons_of_mem _ hx)) hi'
      have ha := h a List.mem_cons_self
      simp only [List.countP_cons]
      cases hqa : q a
      · simp; split <;> omega
      · rw [ha hqa]; simp; omega

theorem toCome_set {listed : Array Bool} {i : Nat} (h : i < listed.size) (hd : done listed i = false) : toCome (listed.setIfInBounds i true) < toCome listed := by
  unfold toCome
  rw [Array.size_setIfInBounds]
  refine countP_lt (i := i) ?_ (by simp [h]) (by simp [hd]) (by simp [done_set_same h])
  intro x _ hx
  by_cases e : i = x
  · subst e; simp [done_set_same h] at hx
  · simpa [done_set_ne e] using hx

/-- Each operation waits for earlier ones alone. -/
def acyc (ops : Array Oper) : Bool := (List.range ops.size).all fun i => ((ops[i]?).map (·.after.all fun e => !Region.binds .any e || decide (e.on < i))).getD true

theorem acyc_lt {ops : Array Oper} (h : acyc ops = true) {i : Nat} {o : Oper} (ho : ops[i]? = some o) {e : Edge} (he : e ∈ o.after) (hb : Region.binds .any e = true) : e.on < i := by
  unfold acyc at h
  rw [List.all_eq_true] at h
  have hi : i < ops.size := (Array.getElem?_eq_some_iff.1 ho).1
  have := h i (by simp [hi])
  rw [ho] at this
  simp only [Option.map_some, Option.getD_some, Array.all_eq_true_iff_forall_mem] at this
  have h2 := this e he
  rw [hb] at h2
  simpa using h2

section

variable {F : Fence} {n : Nat} {P : Program} {ops : Array Oper} {Q : Exit → Act → World → Prop}

theorem ready_mem {listed : Array Bool} {i : Nat} (hsz : listed.size = ops.size) (h : i ∈ Region.ready .any ops listed) :
    ∃ o, ops[i]? = some o ∧ i < listed.size ∧ done listed i = false ∧ ∀ e ∈ o.after, Region.binds .any e = true → done listed e.on = true := by
  unfold Region.ready at h
  rw [List.mem_filter] at h
  obtain ⟨h1, h2⟩ := h
  have hi : i < ops.size := by simpa using h1
  obtain ⟨o, ho⟩ : ∃ o, ops[i]? = some o := ⟨ops[i], by simp [hi]⟩
  rw [ho] at h2
  simp only [Option.map_some, Option.getD_some, Bool.and_eq_true, Array.all_eq_true_iff_forall_mem, Bool.or_eq_true, Bool.not_eq_true'] at h2
  refine ⟨o, ho, by omega, ?_, fun e he hb => ?_⟩
  · have := h2.1
    unfold done
    simp only [Array.getD_eq_getD_getElem?] at this ⊢
    have hl : i < listed.size := by omega
    simp [hl] at this ⊢
    exact this
  · rcases h2.2 e he with h | h
    · rw [hb] at h; cases h
    · exact h

/-- Where each operation waits for earlier ones alone, and none is ready, all have been carried out. -/
theorem all_done (hac : acyc ops = true) {listed : Array Bool} (hsz : listed.size = ops.size) (h : Region.ready .any ops listed = []) : ∀ i, i < ops.size → done listed i = true := by
  intro i
  induction i using Nat.strongRecOn with
  | _ i ih =>
    intro hi
    cases hd : done listed i with
    | true => rfl
    | false =>
      exfalso
      obtain ⟨o, ho⟩ : ∃ o, ops[i]? = some o := ⟨ops[i], by simp [hi]⟩
      have : i ∈ Region.ready .any ops listed := by
        unfold Region.ready
        rw [List.mem_filter]
        refine ⟨by simp [hi], ?_⟩
        rw [ho]
        simp only [Option.map_some, Option.getD_some, Bool.and_eq_true, Array.all_eq_true_iff_forall_mem, Bool.or_eq_true, Bool.not_eq_true']
        refine ⟨?_, fun e he => ?_⟩
        rotate_left
        · cases hb : Region.binds .any e with
          | false => exact .inl rfl
          | true => exact .inr (ih e.on (acyc_lt hac ho he hb) (by have := acyc_lt hac ho he hb; omega))
        unfold done at hd
        simp only [Array.getD_eq_getD_getElem?] at hd ⊢
        have hl : i < listed.size := by omega
        simp [hl] at hd ⊢
        exact hd
      rw [h] at this
      cases this

/-- What has been carried out waits for nothing. -/
def closed (ops : Array Oper) (listed : Array Bool) : Prop := ∀ j o, ops[j]? = some o → done listed j = true → ∀ e ∈ o.after, Region.binds .any e = true → done listed e.on = true

theorem closed_set {listed : Array Bool} {i : Nat} {o : Oper} (ho : ops[i]? = some o) (hi : i < listed.size) (hdep : ∀ e ∈ o.after, Region.binds .any e = true → done listed e.on = true) (h : closed ops listed) : closed ops (listed.setIfInBounds i true) := by
  have mono : ∀ k, done listed k = true → done (listed.setIfInBounds i true) k = true := fun k hk => by
    by_cases e : i = k
    · subst e; exact done_set_same hi
    · rw [done_set_ne e]; exact hk
  intro j o' ho' hj e he hb
  by_cases e' : i = j
  · subst e'
    rw [ho] at ho'
    cases ho'
    exact mono _ (hdep e he hb)
  · rw [done_set_ne e'] at hj
    exact mono _ (h j o' ho' hj e he hb)

end

end Go.Proofs.YtbimkgmhfcgpmaaGreatDoor

/- appendSeries: what it leans on; the midst of one statement, in whatever order. -/
namespace Go.Proofs.YtbimkgmhfcgpmaaGreatDoor
open Go.RowKit Go.Shelf

section

variable {base fb gc : Nat} {lc : List UInt8} {capc : Nat} {l7 : List UInt8} {Wc : World} {xb ab : Nat} {xt lt : Int} {em : Bool} {cd : Nat} {listed : Array Bool} {u25 u26 u27 u28 u29 u30 u31 u32 : Value} {w' : World}

theorem done_rep (n i : Nat) : done (Array.replicate n false) i = false := by
  unfold done
  simp only [Array.getD_eq_getD_getElem?, Array.getElem?_replicate]
  split <;> simp

theorem nd {ops : Array Oper} (hcl : closed ops listed) {j : Nat} {o : Oper} (ho : ops[j]? = some o) (e : Edge) (he : e ∈ o.after) (hb : Region.binds .any e = true) (h : done listed e.on = false) : done listed j = false := by
  cases hj : done listed j with
  | false => rfl
  | true => have := hcl j o ho hj e he hb; rw [h] at this; cases this

end

end Go.Proofs.YtbimkgmhfcgpmaaGreatDoor

/- Samples that came in, and a set that is laid upon: what the walks of Fits, Lay and Block share. -/
namespace Silo

/-- The points of a series, in the order of the samples. -/
def ser (s : Nat) (xs : List Smp) : List Pt := xs.filterMap fun x => if x.s = (s : Int) then some ⟨x.t, x.v⟩ else none

theorem ser_append (s : Nat) (a b : List Smp) : ser s (a ++ b) = ser s a ++ ser s b := by simp [ser]

theorem ser_same (s : Nat) (x : Smp) (h : x.s = (s : Int)) : ser s [x] = [⟨x.t, x.v⟩] := by simp [ser, h]

theorem ser_other (s : Nat) (x : Smp) (h : x.s ≠ (s : Int)) : ser s [x] = [] := by simp [ser, h]

theorem ser_length (s : Nat) (xs : List Smp) : (ser s xs).length ≤ xs.length := List.length_filterMap_le _ _

/-- What a sample's numbers are. -/
def goodSmp (x : Smp) : Prop := 0 ≤ x.s ∧ x.s < 16 ∧ isInt x.t ∧ x.v < M64

theorem ser_good {s : Nat} {xs : List Smp} (h : ∀ x ∈ xs, goodSmp x) : ∀ p ∈ ser s xs, isInt p.t ∧ p.v < M64 := by
  intro p hp
  obtain ⟨x, hx, he⟩ := List.mem_filterMap.1 hp
  have := h x hx
  by_cases c : x.s = (s : Int)
  · rw [if_pos c] at he
    cases he
    exact this.2.2
  · rw [if_neg c] at he; cases he

end Silo
namespace Go.Proofs.YtbimkgmhfcgpmaaGreatDoor
open Go.RowKit Go.Shelf

/-- Samples that lie below block B, however they came. -/
def SmpIn (w : World) (B : Nat) (v : Value) (xs : List Silo.Smp) : Prop :=
  ∃ a c, v = .slice a xs.length c ∧ (xs = [] ∨ ∃ b off, a = some ⟨b, off, none⟩ ∧ b < B ∧ ∀ k (hk : k < xs.length),
    w.cell? ⟨b, off + k * 3, none⟩ = some (.int .i64 xs[k].s) ∧ w.cell? ⟨b, off + k * 3 + 1, none⟩ = some (.int .i64 xs[k].t) ∧ w.cell? ⟨b, off + k * 3 + 2, none⟩ = some (.int .u64 (xs[k].v : Nat)))

theorem SmpIn.fp {w w' : World} {B : Nat} {v : Value} {xs : List Silo.Smp} {S : Nat → Prop} (h : SmpIn w B v xs) (hf : Fp S w w') (hB : B ≤ w.heap.size) (hS : ∀ k, k < B → ¬ S k) : SmpIn w' B v xs := by
  obtain ⟨a, c, e, h⟩ := h
  refine ⟨a, c, e, h.imp id ?_⟩
  rintro ⟨b, off, ha, hb, hc⟩
  refine ⟨b, off, ha, hb, fun k hk => ?_⟩
  have hlt : b < w.heap.size := Nat.lt_of_lt_of_le hb hB
  obtain ⟨c0, c1, c2⟩ := hc k hk
  refine ⟨?_, ?_, ?_⟩
  · rw [hf.cell (p := ⟨b, off + k * 3, none⟩) hlt (hS b hb)]; exact c0
  · rw [hf.cell (p := ⟨b, off + k * 3 + 1, none⟩) hlt (hS b hb)]; exact c1
  · rw [hf.cell (p := ⟨b, off + k * 3 + 2, none⟩) hlt (hS b hb)]; exact c2

theorem SmpIn.nil (w : World) (B : Nat) : SmpIn w B (.slice none 0 0) [] := ⟨none, 0, rfl, .inl rfl⟩

theorem SmpIn.of_row {w : World} {base B : Nat} {v : Value} {xs : List Silo.Smp} (h : World.smpsAt w base v xs) (hB : w.heap.size ≤ B) : SmpIn w B v xs := by
  have h' := h
  rcases h.2 with ⟨h1, h2⟩ | ⟨g, cap, cur, h3, _, hg, _⟩
  · have : xs = [] := List.length_eq_zero_iff.1 h2
    subst this
    exact ⟨none, 0, h1, .inl rfl⟩
  · subst h3
    refine ⟨_, _, rfl, .inr ⟨g, 0, rfl, Nat.lt_of_lt_of_le (heap_lt hg) hB, fun k hk => ?_⟩⟩
    rw [Nat.zero_add]
    exact smpsAt_cell h' k hk

end Go.Proofs.YtbimkgmhfcgpmaaGreatDoor

/- A region that draws its order, by an invariant over which of its operations have been carried out: without a fence. Over any program. -/
namespace Go.Proofs.YtbimkgmhfcgpmaaGreatDoor
open Go.RowKit

section

variable {P : Program} {ops : Array Oper} {Q : Exit → Act → World → Prop}

theorem wpAny_inv (hac : acyc ops = true) (I : Array Bool → Act → World → Prop)
    (hend : ∀ listed a w, (∀ i, i < ops.size → done listed i = true) → I listed a w → Q .normal a w)
    (hstep : ∀ (listed : Array Bool) (a : Act) (w : World) (i : Nat) (o : Oper), ops[i]? = some o → i < listed.size → done listed i = false → (∀ e ∈ o.after, Region.binds .any e = true → done listed e.on = true) → closed ops listed → I listed a w →
      ∀ K : Act → World → Prop, (∀ a' w', I (listed.setIfInBounds i true) a' w' → K a' w') →
        if Region.wanted o (yielded ops a.tmps) = true then Oper.wp P o a w K Q else K (a.put o.dst undef) w) :
    ∀ (fuel : Nat) (listed : Array Bool) (a : Act) (w : World), listed.size = ops.size → toCome listed ≤ fuel → closed ops listed → I listed a w → wpAny P .any ops Q fuel listed a w := by
  intro fuel
  induction fuel with
  | zero =>
    intro listed a w hsz hc hcl hI
    have hr : Region.ready .any ops listed = [] := by
      cases hr : Region.ready .any ops listed with
      | nil => rfl
      | cons i rs =>
        obtain ⟨o, _, hl, hd, _⟩ := ready_mem hsz (by rw [hr]; exact List.mem_cons_self)
        have := toCome_set hl hd
        omega
    exact ⟨hr, hend listed a w (all_done hac hsz hr) hI⟩
  | succ fuel ih =>
    intro listed a w hsz hc hcl hI
    refine ⟨fun hr => hend listed a w (all_done hac hsz hr) hI, fun i hi => ?_⟩
    obtain ⟨o, ho, hl, hd, hdep⟩ := ready_mem hsz hi
    refine wpOp_step ho (fun K hK => hstep listed a w i o ho hl hd hdep hcl hI K (fun a' w' hI' => hK a' w' (ih _ a' w' (by simpa using hsz) ?_ (closed_set ho hl hdep hcl) hI')))
    have := toCome_set hl hd
    omega

theorem wp_region_inv {id : Nat} {a : Act} {w : World} (hm : P.follows .mixedOrders = true) (hac : acyc ops = true) (I : Array Bool → Act → World → Prop)
    (h0 : I (Array.replicate ops.size false) a w.drew)
    (hend : ∀ listed a w, (∀ i, i < ops.size → done listed i = true) → I listed a w → Q .normal a w)
    (hstep : ∀ (listed : Array Bool) (a : Act) (w : World) (i : Nat) (o : Oper), ops[i]? = some o → i < listed.size → done listed i = false → (∀ e ∈ o.after, Region.binds .any e = true → done listed e.on = true) → closed ops listed → I listed a w →
      ∀ K : Act → World → Prop, (∀ a' w', I (listed.setIfInBounds i true) a' w' → K a' w') →
        if Region.wanted o (yielded ops a.tmps) = true then Oper.wp P o a w K Q else K (a.put o.dst undef) w) :
    (Code.region id ops true).wp P Q a w := by
  refine wp_region_any hm (wpAny_inv hac I hend hstep _ _ _ _ (by simp) ?_ (fun j o _ hj => ?_) h0)
  · unfold toCome
    refine Nat.le_trans List.countP_le_length (by simp)
  · exfalso
    unfold done at hj
    simp only [Array.getD_eq_getD_getElem?, Array.getElem?_replicate] at hj
    split at hj <;> simp at hj

end

end Go.Proofs.YtbimkgmhfcgpmaaGreatDoor

/- Plain facts: what is left of points that are settled is told by what came last at each time. -/
namespace Silo

/-- Strictly rising times. -/
def Asc (l : List Pt) : Prop := l.Pairwise fun a b => a.t < b.t

/-- The points of a time. -/
def ofT (t : Int) (l : List Pt) : List Pt := l.filter fun p => p.t == t

theorem ofT_append (t : Int) (a b : List Pt) : ofT t (a ++ b) = ofT t a ++ ofT t b := by simp [ofT]

theorem ofT_same (p : Pt) : ofT p.t [p] = [p] := by simp [ofT]

theorem ofT_ne {t : Int} {p : Pt} (h : p.t ≠ t) : ofT t [p] = [] := by simp [ofT, h]

theorem ofT_nil_of {t : Int} {l : List Pt} (h : ∀ p ∈ l, p.t ≠ t) : ofT t l = [] := by
  unfold ofT
  rw [List.filter_eq_nil_iff]
  intro p hp
  simpa using h p hp

theorem Asc.ofT_le {l : List Pt} (h : Asc l) (t : Int) : (ofT t l).getLast?.toList = ofT t l := by
  induction l with
  | nil => rfl
  | cons p l ih =>
    have hp := List.pairwise_cons.1 h
    have e : ofT t (p :: l) = ofT t [p] ++ ofT t l := ofT_append t [p] l
    rw [e]
    by_cases c : p.t = t
    · have : ofT t l = [] := ofT_nil_of (fun q hq => by have := hp.1 q hq; omega)
      rw [this]
      subst c
      rw [ofT_same]; rfl
    · rw [ofT_ne c, List.nil_append]; exact ih hp.2

theorem mem_ofT {p : Pt} {t : Int} {l : List Pt} : p ∈ ofT t l ↔ p ∈ l ∧ p.t = t := by
  unfold ofT; rw [List.mem_filter]; simp

/-- Strictly rising points are told by what they have at each time. -/
theorem Asc.ext : ∀ {a b : List Pt}, Asc a → Asc b → (∀ t, ofT t a = ofT t b) → a = b := by
  intro a
  induction a with
  | nil =>
    intro b _ _ h
    cases b with
    | nil => rfl
    | cons q b =>
      have := h q.t
      have hm : q ∈ ofT q.t (q :: b) := mem_ofT.2 ⟨List.mem_cons_self, rfl⟩
      rw [← this] at hm
      simp [ofT] at hm
  | cons p a ih =>
    intro b ha hb h
    have hpa := List.pairwise_cons.1 ha
    cases b with
    | nil =>
      have hm : p ∈ ofT p.t (p :: a) := mem_ofT.2 ⟨List.mem_cons_self, rfl⟩
      rw [h p.t] at hm
      simp [ofT] at hm
    | cons q b =>
      have hqb := List.pairwise_cons.1 hb
      have hp : p ∈ q :: b := (mem_ofT.1 (by rw [← h p.t]; exact mem_ofT.2 ⟨List.mem_cons_self, rfl⟩)).1
      have hq : q ∈ p :: a := (mem_ofT.1 (by rw [h q.t]; exact mem_ofT.2 ⟨List.mem_cons_self, rfl⟩)).1
      have e : p = q := by
        rcases List.mem_cons.1 hp with e | hp
        · exact e
        · rcases List.mem_cons.1 hq with e | hq
          · exact e.symm
          · have h1 := hqb.1 p hp
            have h2 := hpa.1 q hq
            omega
      subst e
      congr 1
      refine ih hpa.2 hqb.2 (fun t => ?_)
      have := h t
      have e1 : ofT t (p :: a) = ofT t [p] ++ ofT t a := ofT_append t [p] a
      have e2 : ofT t (p :: b) = ofT t [p] ++ ofT t b := ofT_append t [p] b
      rw [e1, e2] at this
      exact List.append_cancel_left this

/-- What settling leaves: rising, at each time what came last. -/
structure Left (ps rs : List Pt) : Prop where
  asc : Asc rs
  last : ∀ t, ofT t rs = (ofT t ps).getLast?.toList

theorem Left.self {ps : List Pt} (h : Asc ps) : Left ps ps := ⟨h, fun t => (h.ofT_le t).symm⟩

theorem Left.mem {ps rs : List Pt} (h : Left ps rs) : ∀ p ∈ rs, p ∈ ps := by
  intro p hp
  have h1 : p ∈ ofT p.t rs := mem_ofT.2 ⟨hp, rfl⟩
  rw [h.last p.t] at h1
  have h2 : (ofT p.t ps).getLast? = some p := by
    cases hc : (ofT p.t ps).getLast? with
    | none => rw [hc] at h1; simp at h1
    | some q => rw [hc] at h1; simp at h1; rw [h1]
  exact (mem_ofT.1 (List.mem_of_getLast? h2)).1

theorem goodPts_of {rs : List Pt} (ha : Asc rs) (hg : ∀ p ∈ rs, isInt p.t ∧ p.v < M64) : ∀ (t : Int) (f : Bool), (f = false → ∀ p ∈ rs, t < p.t) → goodPts t f rs := by
  induction rs with
  | nil => intros; trivial
  | cons p rs ih =>
    intro t f hf
    have hp := List.pairwise_cons.1 ha
    exact ⟨(hg p List.mem_cons_self).1, (hg p List.mem_cons_self).2, fun h => hf h p List.mem_cons_self, ih hp.2 (fun q hq => hg q (List.mem_cons_of_mem _ hq)) p.t false (fun _ q hq => hp.1 q hq)⟩

theorem goodPts_asc : ∀ {rs : List Pt} {t : Int} {f : Bool}, goodPts t f rs → Asc rs ∧ (∀ p ∈ rs, isInt p.t ∧ p.v < M64) ∧ (f = false → ∀ p ∈ rs, t < p.t) := by
  intro rs
  induction rs with
  | nil => intro t f _; exact ⟨List.Pairwise.nil, fun p hp => (by cases hp), fun _ p hp => (by cases hp)⟩
  | cons p rs ih =>
    intro t f h
    obtain ⟨h1, h2, h3, h4⟩ := h
    obtain ⟨i1, i2, i3⟩ := ih h4
    refine ⟨List.pairwise_cons.2 ⟨fun q hq => i3 rfl q hq, i1⟩, fun q hq => ?_, fun hf q hq => ?_⟩
    · rcases List.mem_cons.1 hq with rfl | hq
      · exact ⟨h1, h2⟩
      · exact i2 q hq
    · rcases List.mem_cons.1 hq with rfl | hq
      · exact h3 hf
      · have := h3 hf; have := i3 rfl q hq; omega

end Silo

/- Plain facts: a block's file is read as what was told in it; what is read is told in the same bytes; and samples laid one by one. -/
namespace Silo

/-- A series' points as samples. -/
def smps (s : Nat) (ps : List Pt) : List Smp := ps.map fun p => ⟨(s : Int), p.t, p.v⟩

/-- The samples of the series from s on, n of them. -/
def flatFrom (m : Nat → List Pt) : Nat → Nat → List Smp
  | _, 0 => []
  | s, n + 1 => smps s (m s) ++ flatFrom m (s + 1) n

def flat (m : Nat → List Pt) : List Smp := flatFrom m 0 16

theorem rdPoints_enc (ps : List Pt) (r : List UInt8) (hne : ps ≠ []) (hg : goodPts 0 true ps) (hl : ps.length < M64) :
    rdPoints (some (leb ps.length ++ (encPts 0 0 true ps ++ r))) = (ps, some r) := by
  have hpos : 0 < ps.length := List.length_pos_iff.2 hne
  unfold rdPoints
  rw [rdN_leb _ _ hl, rdR_leb _ _ hl]
  have h2 := encPts_len ps 0 0 true
  have : ¬ (ps.length = 0 ∨ left (some (encPts 0 0 true ps ++ r)) / 2 < ps.length) := by
    simp only [left, List.length_append]
    omega
  rw [if_neg this, rdPts_enc ps 0 0 true r hg (by unfold isInt; omega) M64_pos]

theorem rdSmp_enc (m : Nat → List Pt) (r : List UInt8) : ∀ (n s fuel ahead : Nat), s + n = 16 → ahead ≤ s → n + 1 ≤ fuel → (∀ j, j < 16 → goodPts 0 true (m j) ∧ (m j).length < M64) →
    rdSmp fuel (some (encAll m s n ++ (0 :: r))) ahead = (flatFrom m s n, some r) := by
  intro n
  induction n with
  | zero =>
    intro s fuel ahead _ _ hf _
    obtain ⟨f, rfl⟩ : ∃ f, fuel = f + 1 := ⟨fuel - 1, by omega⟩
    have e : (encAll m s 0 ++ (0 :: r) : List UInt8) = leb 0 ++ r := by rw [leb_lo 0 (by omega)]; rfl
    rw [e, rdSmp, rdN_leb 0 r M64_pos, if_pos rfl, rdR_leb 0 r M64_pos]
    rfl
  | succ n ih =>
    intro s fuel ahead hs ha hf hg
    by_cases hem : m s = []
    · have e : encAll m s (n + 1) = encAll m (s + 1) n := by rw [encAll, if_pos hem]; rfl
      rw [e, ih (s + 1) fuel ahead (by omega) (by omega) (by omega) hg, flatFrom, hem]
      rfl
    · obtain ⟨f, rfl⟩ : ∃ f, fuel = f + 1 := ⟨fuel - 1, by omega⟩
      have hgs := hg s (by omega)
      have hs1 : s + 1 < M64 := by unfold M64; omega
      have e : encAll m s (n + 1) ++ (0 :: r) = leb (s + 1) ++ (leb (m s).length ++ (encPts 0 0 true (m s) ++ (encAll m (s + 1) n ++ (0 :: r)))) := by
        rw [encAll, if_neg hem, encSer]; simp
      rw [e, rdSmp, rdN_leb _ _ hs1, rdR_leb _ _ hs1, if_neg (by omega), if_neg (by omega), rdPoints_enc _ _ hem hgs.1 hgs.2]
      simp only
      rw [ih (s + 1) f (s + 1) (by omega) (by omega) (by omega) hg, flatFrom]
      have e2 : (((s + 1 : Nat) : Int) - 1) = (s : Int) := by omega
      rw [e2]
      rfl

theorem be8_length (h : Nat) : (be8 h).length = 8 := rfl

theorem decode_sealed (l : List UInt8) : decode (sealed l) = match l with
    | [] => none
    | b :: body => if b = 66 then decBody body else none := by
  have hl : (sealed l).length = l.length + 8 := by unfold sealed; rw [List.length_append, be8_length]
  have ht : (sealed l).take ((sealed l).length - 8) = l := by rw [hl, Nat.add_sub_cancel]; unfold sealed; simp
  have hd : (sealed l).drop ((sealed l).length - 8) = be8 (fnv l) := by rw [hl, Nat.add_sub_cancel]; unfold sealed; simp
  unfold decode
  rw [if_neg (by omega), ht, hd, if_neg (fun h => h rfl)]
  cases l <;> rfl

/-- What is told is read as what it was. -/
theorem decode_file (lo hi : Nat) (m : Nat → List Pt) (hlo : lo ≤ hi) (hhi : hi ≤ 999999) (hg : ∀ j, j < 16 → goodPts 0 true (m j) ∧ (m j).length < M64) : decode (file lo hi m) = some ⟨lo, hi, flat m⟩ := by
  unfold file
  rw [decode_sealed, encBody]
  simp only [if_true]
  have hlo' : lo < M64 := by unfold M64; omega
  have hhi' : hi < M64 := by unfold M64; omega
  have e : leb lo ++ leb hi ++ (encAll m 0 16 ++ [0]) = leb lo ++ (leb hi ++ (encAll m 0 16 ++ (0 :: []))) := by simp
  unfold decBody
  rw [e]
  have h1 : rdNum (some (leb lo ++ (leb hi ++ (encAll m 0 16 ++ (0 :: []))))) = (lo, some (leb hi ++ (encAll m 0 16 ++ (0 :: [])))) := by
    unfold rdNum; rw [rdN_leb _ _ hlo', rdR_leb _ _ hlo', if_neg (by omega)]
  have h2 : rdNum (some (leb hi ++ (encAll m 0 16 ++ (0 :: [])))) = (hi, some (encAll m 0 16 ++ (0 :: []))) := by
    unfold rdNum; rw [rdN_leb _ _ hhi', rdR_leb _ _ hhi', if_neg (by omega)]
  rw [h1]
  simp only
  rw [h2]
  simp only
  rw [rdSmp_enc m [] 16 0 17 0 (by omega) (by omega) (by omega) hg]
  simp only [if_true]
  rw [if_neg (by simp; omega)]
  rfl

theorem encAll_congr {m m' : Nat → List Pt} : ∀ (n s : Nat), (∀ j, s ≤ j → j < s + n → m j = m' j) → encAll m s n = encAll m' s n := by
  intro n
  induction n with
  | zero => intros; rfl
  | succ n ih =>
    intro s h
    rw [encAll, encAll, h s (by omega) (by omega), ih (s + 1) (fun j h1 h2 => h j (by omega) (by omega))]

theorem flatFrom_congr {m m' : Nat → List Pt} : ∀ (n s : Nat), (∀ j, s ≤ j → j < s + n → m j = m' j) → flatFrom m s n = flatFrom m' s n := by
  intro n
  induction n with
  | zero => intros; rfl
  | succ n ih =>
    intro s h
    rw [flatFrom, flatFrom, h s (by omega) (by omega), ih (s + 1) (fun j h1 h2 => h j (by omega) (by omega))]

theorem encAll_skip {m : Nat → List Pt} (n : Nat) : ∀ (k s : Nat), (∀ j, s ≤ j → j < s + k → m j = []) → encAll m s (k + n) = encAll m (s + k) n := by
  intro k
  induction k with
  | zero => intro s _; rw [Nat.zero_add]; rfl
  | succ k ih =>
    intro s h
    rw [show k + 1 + n = (k + n) + 1 by omega, encAll, if_pos (h s (by omega) (by omega)), List.nil_append, ih (s + 1) (fun j h1 h2 => h j (by omega) (by omega))]
    congr 1; omega

theorem flatFrom_skip {m : Nat → List Pt} (n : Nat) : ∀ (k s : Nat), (∀ j, s ≤ j → j < s + k → m j = []) → flatFrom m s (k + n) = flatFrom m (s + k) n := by
  intro k
  induction k with
  | zero => intro s _; rw [Nat.zero_add]; rfl
  | succ k ih =>
    intro s h
    rw [show k + 1 + n = (k + n) + 1 by omega, flatFrom, h s (by omega) (by omega), smps, List.map_nil, List.nil_append, ih (s + 1) (fun j h1 h2 => h j (by omega) (by omega))]
    congr 1; omega

theorem rdPoints_some {st : St} {ps : List Pt} {r : List UInt8} (h : rdPoints st = (ps, some r)) : st = some (leb ps.length ++ (encPts 0 0 true ps ++ r)) ∧ ps ≠ [] ∧ goodPts 0 true ps := by
  unfold rdPoints at h
  split at h
  · cases h
  · rename_i hc
    obtain ⟨h1, h2, h3⟩ := rdPts_some _ _ _ _ _ _ _ (by unfold isInt; omega) M64_pos h
    obtain ⟨h4, _⟩ := rdR_some h1
    refine ⟨by rw [h2]; exact h4, fun e => ?_, h3⟩
    subst e
    simp at h2
    exact hc (.inl h2.symm)

theorem rdSmp_some : ∀ (fuel : Nat) (st : St) (ah : Nat) (l : List Smp) (r : List UInt8), ah ≤ 16 → rdSmp fuel st ah = (l, some r) →
    ∃ m : Nat → List Pt, st = some (encAll m ah (16 - ah) ++ (0 :: r)) ∧ l = flatFrom m ah (16 - ah) ∧ (∀ j, goodPts 0 true (m j)) ∧ ∀ j, j < ah → m j = [] := by
  intro fuel
  induction fuel with
  | zero => intro st ah l r _ h; rw [rdSmp] at h; cases h
  | succ fuel ih =>
    intro st ah l r hah h
    rw [rdSmp] at h
    by_cases h0 : rdN st = 0
    · rw [if_pos h0] at h
      simp only [Prod.mk.injEq] at h
      obtain ⟨h1, h2⟩ := h
      obtain ⟨h3, _⟩ := rdR_some h2
      have ee : encAll (fun _ => []) ah (16 - ah) = [] := by
        have := encAll_skip (m := fun _ => []) 0 (16 - ah) ah (fun _ _ _ => rfl)
        rw [Nat.add_zero] at this
        rw [this]; rfl
      have ef : flatFrom (fun _ => []) ah (16 - ah) = [] := by
        have := flatFrom_skip (m := fun _ => []) 0 (16 - ah) ah (fun _ _ _ => rfl)
        rw [Nat.add_zero] at this
        rw [this]; rfl
      refine ⟨fun _ => [], ?_, ?_, fun _ => trivial, fun _ _ => rfl⟩
      · rw [ee, h3, h0, leb_lo 0 (by omega)]; rfl
      · rw [ef, h1]
    · rw [if_neg h0] at h
      by_cases hc : rdN st ≤ ah ∨ 16 < rdN st
      · rw [if_pos hc] at h; cases h
      · rw [if_neg hc] at h
        simp only [Prod.mk.injEq] at h
        obtain ⟨h1, h2⟩ := h
        obtain ⟨n, hn⟩ : ∃ n, rdN st = n := ⟨_, rfl⟩
        rw [hn] at h0 hc h1 h2
        obtain ⟨a, ha⟩ : ∃ a, rdPoints (rdR st) = a := ⟨_, rfl⟩
        rw [ha] at h1 h2
        obtain ⟨b, hb⟩ : ∃ b, rdSmp fuel a.2 n = b := ⟨_, rfl⟩
        rw [hb] at h1 h2
        obtain ⟨m', e1, e2, e3, e4⟩ := ih a.2 n b.1 r (by omega) (by rw [hb, ← h2])
        obtain ⟨e5, e6, e7⟩ := rdPoints_some (st := rdR st) (ps := a.1) (by rw [ha, ← e1])
        obtain ⟨e8, _⟩ := rdR_some e5
        obtain ⟨s, rfl⟩ : ∃ s, n = s + 1 := ⟨n - 1, by omega⟩
        have hk : 16 - ah = (s - ah) + ((16 - (s + 1)) + 1) := by omega
        have hz : ∀ j, ah ≤ j → j < ah + (s - ah) → (fun j => if j = s then a.1 else m' j) j = [] := fun j g1 g2 => by
          simp only
          rw [if_neg (by omega)]
          exact e4 j (by omega)
        have has : ah + (s - ah) = s := by omega
        have hcg : ∀ j, s + 1 ≤ j → j < s + 1 + (16 - (s + 1)) → (fun j => if j = s then a.1 else m' j) j = m' j := fun j g1 g2 => by
          simp only
          rw [if_neg (by omega)]
        refine ⟨fun j => if j = s then a.1 else m' j, ?_, ?_, fun j => ?_, fun j hj => ?_⟩
        · rw [hk, encAll_skip _ _ _ hz, has, encAll, encAll_congr _ _ hcg]
          simp only [if_true]
          rw [if_neg e6, e8, hn, encSer]
          simp
        · rw [hk, flatFrom_skip _ _ _ hz, has, flatFrom, flatFrom_congr _ _ hcg]
          simp only [if_true]
          rw [← h1, e2]
          have e9 : (((s + 1 : Nat) : Int) - 1) = (s : Int) := by omega
          rw [e9]
          rfl
        · simp only
          split
          · exact e7
          · exact e3 j
        · simp only
          rw [if_neg (by omega)]
          exact e4 j (by omega)

theorem rdNum_some {st : St} {n : Nat} {r : List UInt8} (h : rdNum st = (n, some r)) : st = some (leb n ++ r) ∧ n ≤ 999999 := by
  unfold rdNum at h
  split at h
  · cases h
  · rename_i hc
    simp only [Prod.mk.injEq] at h
    obtain ⟨rfl, h2⟩ := h
    exact ⟨(rdR_some h2).1, by omega⟩

/-- What is read is told in the same bytes. -/
theorem decode_some {f : List UInt8} {d : Dec} (h : decode f = some d) : ∃ m : Nat → List Pt, f = file d.lo d.hi m ∧ d.l = flat m ∧ (∀ j, goodPts 0 true (m j)) ∧ d.lo ≤ d.hi ∧ d.hi ≤ 999999 := by
  unfold decode at h
  split at h
  · cases h
  · split at h
    · cases h
    · rename_i hl hh
      have hh' : be8 (fnv (f.take (f.length - 8))) = f.drop (f.length - 8) := Classical.byContradiction hh
      have hf : f = sealed (f.take (f.length - 8)) := by
        unfold sealed
        rw [hh', List.take_append_drop]
      obtain ⟨t, ht⟩ : ∃ t, f.take (f.length - 8) = t := ⟨_, rfl⟩
      rw [ht] at h hf
      cases t with
      | nil => cases h
      | cons b body =>
        simp only at h
        split at h
        · rename_i hb
          subst hb
          unfold decBody at h
          simp only at h
          split at h
          · cases h
          · rename_i hr
            have hr' := Classical.byContradiction hr
            split at h
            · rename_i hc
              cases h
              obtain ⟨m, e1, e2, e3, _⟩ := rdSmp_some 17 _ 0 _ [] (by omega) (show rdSmp 17 (rdNum (rdNum (some body)).2).2 0 = (_, some []) by rw [← hc])
              obtain ⟨e4, _⟩ := rdNum_some (st := (rdNum (some body)).2) (n := _) (show rdNum (rdNum (some body)).2 = (_, some _) by rw [← e1])
              obtain ⟨e5, _⟩ := rdNum_some (st := some body) (n := _) (show rdNum (some body) = (_, some _) by rw [← e4])
              refine ⟨m, ?_, e2, e3, hr'.1, hr'.2⟩
              simp only [Option.some.injEq] at e5
              refine hf.trans ?_
              unfold file encBody
              exact congrArg sealed (congrArg (66 :: ·) (e5.trans (by rw [List.append_assoc])))
            · cases h
        · cases h

/-! ### Samples, by series and times -/
/-- A sample stands ahead of another. -/
def bef (a x : Smp) : Prop := a.s < x.s ∨ a.s = x.s ∧ a.t < x.t

def AscS (l : List Smp) : Prop := l.Pairwise bef

def ofK (s t : Int) (l : List Smp) : List Smp := l.filter fun a => decide (a.s = s ∧ a.t = t)

theorem ofK_append (s t : Int) (a b : List Smp) : ofK s t (a ++ b) = ofK s t a ++ ofK s t b := by simp [ofK]

theorem mem_ofK {s t : Int} {a : Smp} {l : List Smp} : a ∈ ofK s t l ↔ a ∈ l ∧ a.s = s ∧ a.t = t := by unfold ofK; rw [List.mem_filter]; simp

theorem ofK_nil_of {s t : Int} {l : List Smp} (h : ∀ a ∈ l, ¬ (a.s = s ∧ a.t = t)) : ofK s t l = [] := by
  unfold ofK
  rw [List.filter_eq_nil_iff]
  intro a ha
  simpa using h a ha

theorem ofK_same (x : Smp) : ofK x.s x.t [x] = [x] := by simp [ofK]

theorem ofK_ne {s t : Int} {x : Smp} (h : ¬ (x.s = s ∧ x.t = t)) : ofK s t [x] = [] := ofK_nil_of (fun a ha => by simp only [List.mem_singleton] at ha; subst ha; exact h)

theorem AscS.ext : ∀ {a b : List Smp}, AscS a → AscS b → (∀ s t, ofK s t a = ofK s t b) → a = b := by
  intro a
  induction a with
  | nil =>
    intro b _ _ h
    cases b with
    | nil => rfl
    | cons q b =>
      have hm : q ∈ ofK q.s q.t (q :: b) := mem_ofK.2 ⟨List.mem_cons_self, rfl, rfl⟩
      rw [← h q.s q.t] at hm
      simp [ofK] at hm
  | cons p a ih =>
    intro b ha hb h
    have hpa := List.pairwise_cons.1 ha
    cases b with
    | nil =>
      have hm : p ∈ ofK p.s p.t (p :: a) := mem_ofK.2 ⟨List.mem_cons_self, rfl, rfl⟩
      rw [h p.s p.t] at hm
      simp [ofK] at hm
    | cons q b =>
      have hqb := List.pairwise_cons.1 hb
      have hp : p ∈ q :: b := (mem_ofK.1 (by rw [← h p.s p.t]; exact mem_ofK.2 ⟨List.mem_cons_self, rfl, rfl⟩)).1
      have hq : q ∈ p :: a := (mem_ofK.1 (by rw [h q.s q.t]; exact mem_ofK.2 ⟨List.mem_cons_self, rfl, rfl⟩)).1
      have e : p = q := by
        rcases List.mem_cons.1 hp with e | hp
        · exact e
        · rcases List.mem_cons.1 hq with e | hq
          · exact e.symm
          · have h1 := hqb.1 p hp
            have h2 := hpa.1 q hq
            unfold bef at h1 h2
            omega
      subst e
      congr 1
      refine ih hpa.2 hqb.2 (fun s t => ?_)
      have := h s t
      have e1 : ofK s t (p :: a) = ofK s t [p] ++ ofK s t a := ofK_append s t [p] a
      have e2 : ofK s t (p :: b) = ofK s t [p] ++ ofK s t b := ofK_append s t [p] b
      rw [e1, e2] at this
      exact List.append_cancel_left this

end Silo

/- sets.Fits and silo.Block: their contracts. -/
namespace Silo

def fits (xs : List Smp) : Bool := xs.all fun x => decide (0 ≤ x.s ∧ x.s < 16)

/-- The sets that laying the samples may leave (there is just one). -/
def LaidBy (xs : List Smp) (m : Nat → List Pt) : Prop := ∀ s, s < 16 → Left (ser s xs) (m s)

end Silo
namespace Go.Proofs.YtbimkgmhfcgpmaaGreatDoor
open Go.RowKit Go.Shelf

end Go.Proofs.YtbimkgmhfcgpmaaGreatDoor

/- silokeep's lay and layAll: their contracts. -/
namespace Silo

/-- A sample stands ahead of another. -/
def ahead (a x : Smp) : Bool := decide (a.s < x.s ∨ a.s = x.s ∧ a.t < x.t)

def sameKey (a x : Smp) : Bool := decide (a.s = x.s ∧ a.t = x.t)

/-- Where x is laid: behind all that are ahead of it, in front. -/
def place (l : List Smp) (x : Smp) : Nat := (l.takeWhile (fun a => ahead a x)).length

def layRest (l : List Smp) (x : Smp) : List Smp := match l.drop (place l x) with
  | [] => []
  | a :: r => if sameKey a x then r else a :: r

def layL (l : List Smp) (x : Smp) : List Smp := l.take (place l x) ++ [x] ++ layRest l x

end Silo
namespace Go.Proofs.YtbimkgmhfcgpmaaGreatDoor
open Go.RowKit Go.Shelf

theorem nil_row (W : World) (base : Nat) : World.smpsAt W base (.slice none 0 0) [] := ⟨rfl, .inl ⟨rfl, rfl⟩⟩

theorem ownsRow_base {w : World} {b b' : Nat} {e : TypeId} {size : Nat} {v : Value} {n : Nat} {xs : List Value} (h : w.ownsRow b e size v n xs) (hb : b' ≤ b) : w.ownsRow b' e size v n xs := by
  refine ⟨h.1, h.2.imp id ?_⟩
  rintro ⟨g, cap, cur, q3, q4, q5⟩
  exact ⟨g, cap, cur, q3, Nat.le_trans hb q4, q5⟩

end Go.Proofs.YtbimkgmhfcgpmaaGreatDoor

/- silokeep's lay of a row, and layAll. -/
namespace Go.Proofs.YtbimkgmhfcgpmaaGreatDoor
open Go.RowKit Go.Shelf

def layAll (l more : List Silo.Smp) : List Silo.Smp := more.foldl Silo.layL l

theorem layAll_snoc (l more : List Silo.Smp) (x : Silo.Smp) : layAll l (more ++ [x]) = Silo.layL (layAll l more) x := by simp [layAll]

end Go.Proofs.YtbimkgmhfcgpmaaGreatDoor

/- Plain facts: laying samples one by one leaves what a block of them is read as. -/
namespace Silo
open Go.Proofs.YtbimkgmhfcgpmaaGreatDoor (layAll layAll_snoc)

theorem ahead_bef {a x : Smp} : ahead a x = true ↔ bef a x := by unfold ahead bef; simp

theorem mem_tw (p : Smp → Bool) : ∀ (l : List Smp) {a : Smp}, a ∈ l.takeWhile p → p a = true
  | [], a, h => by simp at h
  | b :: l, a, h => by
    rw [List.takeWhile_cons] at h
    split at h
    · rcases List.mem_cons.1 h with rfl | h
      · assumption
      · exact mem_tw p l h
    · simp at h

/-- What stands behind x when it is laid. -/
theorem rest_bef {l : List Smp} (hl : AscS l) (x : Smp) : (∀ a ∈ l.take (place l x), bef a x) ∧ (∀ a ∈ layRest l x, bef x a) ∧ (∀ s t, ¬ (x.s = s ∧ x.t = t) → ofK s t (layRest l x) = ofK s t (l.drop (place l x))) ∧ (layRest l x).Sublist (l.drop (place l x)) := by
  have htw : l.take (place l x) = l.takeWhile (fun a => ahead a x) := by
    have := List.prefix_iff_eq_take.1 (List.takeWhile_prefix (l := l) (fun a => ahead a x))
    exact this.symm
  refine ⟨fun a ha => ?_, ?_⟩
  · rw [htw] at ha
    exact ahead_bef.1 (mem_tw (fun a => ahead a x) l ha)
  · have hd : l.drop (place l x) = l.dropWhile (fun a => ahead a x) := by
      have h1 := List.takeWhile_append_dropWhile (p := fun a => ahead a x) (l := l)
      have h2 := List.take_append_drop (place l x) l
      rw [htw] at h2
      exact List.append_cancel_left (h2.trans h1.symm)
    have hdl : (l.drop (place l x)).Pairwise bef := List.Pairwise.sublist (List.drop_sublist _ _) hl
    unfold layRest
    cases hc : l.drop (place l x) with
    | nil => simp [ofK]
    | cons a r =>
      rw [hc] at hdl hd
      have hp := List.pairwise_cons.1 hdl
      have hna : ahead a x = false := by
        have := List.head?_dropWhile_not (fun a => ahead a x) l
        rw [← hd] at this
        simpa using this
      have hna' : ¬ bef a x := fun h => by rw [ahead_bef.2 h] at hna; cases hna
      simp only
      by_cases hk : sameKey a x = true
      · rw [if_pos hk]
        unfold sameKey at hk
        rw [decide_eq_true_eq] at hk
        refine ⟨fun b hb => ?_, fun s t hst => ?_, List.sublist_cons_self _ _⟩
        · have := hp.1 b hb
          unfold bef at this ⊢
          omega
        · have e : ofK s t (a :: r) = ofK s t [a] ++ ofK s t r := ofK_append s t [a] r
          rw [e, ofK_ne (by rw [hk.1, hk.2]; exact hst), List.nil_append]
      · rw [if_neg hk]
        unfold sameKey at hk
        rw [decide_eq_true_eq] at hk
        have hxa : bef x a := by unfold bef at hna' ⊢; omega
        refine ⟨fun b hb => ?_, fun _ _ _ => rfl, List.Sublist.refl _⟩
        rcases List.mem_cons.1 hb with rfl | hb
        · exact hxa
        · have := hp.1 b hb
          unfold bef at this hxa ⊢
          omega

theorem layL_ok {l : List Smp} (hl : AscS l) (x : Smp) : AscS (layL l x) ∧ ∀ s t, ofK s t (layL l x) = if x.s = s ∧ x.t = t then [x] else ofK s t l := by
  obtain ⟨h1, h2, h3, h4⟩ := rest_bef hl x
  refine ⟨?_, fun s t => ?_⟩
  · unfold AscS layL
    rw [List.pairwise_append, List.pairwise_append]
    refine ⟨⟨List.Pairwise.sublist (List.take_sublist _ _) hl, by simp, fun a ha b hb => ?_⟩, ?_, fun a ha b hb => ?_⟩
    · simp only [List.mem_singleton] at hb
      subst hb
      exact h1 a ha
    · exact List.Pairwise.sublist (h4.trans (List.drop_sublist _ _)) hl
    · have hb' := h2 b hb
      rw [List.mem_append] at ha
      rcases ha with ha | ha
      · have := h1 a ha
        unfold bef at this hb' ⊢
        omega
      · simp only [List.mem_singleton] at ha
        subst ha
        exact hb'
  · unfold layL
    rw [ofK_append, ofK_append]
    by_cases c : x.s = s ∧ x.t = t
    · rw [if_pos c]
      obtain ⟨rfl, rfl⟩ := c
      rw [ofK_same, ofK_nil_of (l := l.take _) (fun a ha hk => by have := h1 a ha; unfold bef at this; omega), ofK_nil_of (l := layRest l x) (fun a ha hk => by have := h2 a ha; unfold bef at this; omega)]
      rfl
    · rw [if_neg c, ofK_ne c, h3 s t c, List.append_nil, ← ofK_append, List.take_append_drop]

theorem layAll_ok (xs : List Smp) : AscS (layAll [] xs) ∧ ∀ s t, ofK s t (layAll [] xs) = (ofK s t xs).getLast?.toList := by
  have key : ∀ n, n ≤ xs.length → AscS (layAll [] (xs.take n)) ∧ ∀ s t, ofK s t (layAll [] (xs.take n)) = (ofK s t (xs.take n)).getLast?.toList := by
    intro n
    induction n with
    | zero => intro _; exact ⟨List.Pairwise.nil, fun _ _ => rfl⟩
    | succ n ih =>
      intro hn
      have ih' := ih (by omega)
      rw [List.take_succ_eq_append_getElem hn, layAll_snoc]
      obtain ⟨x, hx⟩ : ∃ x, xs[n] = x := ⟨_, rfl⟩
      rw [hx]
      obtain ⟨h1, h2⟩ := layL_ok ih'.1 x
      refine ⟨h1, fun s t => ?_⟩
      rw [h2, ofK_append]
      by_cases c : x.s = s ∧ x.t = t
      · rw [if_pos c]
        obtain ⟨rfl, rfl⟩ := c
        rw [ofK_same]; simp
      · rw [if_neg c, ofK_ne c, List.append_nil, ih'.2]
  have := key xs.length (Nat.le_refl _)
  rwa [List.take_length] at this

theorem ofK_smps (s t : Int) (j : Nat) (ps : List Pt) : ofK s t (smps j ps) = if s = (j : Int) then smps j (ofT t ps) else [] := by
  by_cases c : s = (j : Int)
  · rw [if_pos c]
    subst c
    induction ps with
    | nil => rfl
    | cons p ps ih =>
      have e : smps j (p :: ps) = [⟨(j : Int), p.t, p.v⟩] ++ smps j ps := rfl
      have e2 : ofT t (p :: ps) = ofT t [p] ++ ofT t ps := ofT_append t [p] ps
      rw [e, ofK_append, ih, e2]
      by_cases ct : p.t = t
      · subst ct
        rw [ofT_same]
        have := ofK_same ⟨(j : Int), p.t, p.v⟩
        simp only at this
        rw [this]; rfl
      · rw [ofT_ne ct, ofK_ne (fun h => ct h.2)]; rfl
  · rw [if_neg c]
    refine ofK_nil_of (fun a ha h => ?_)
    unfold smps at ha
    obtain ⟨p, _, rfl⟩ := List.mem_map.1 ha
    exact c h.1.symm

theorem flatFrom_mem {m : Nat → List Pt} : ∀ (n s : Nat) (a : Smp), a ∈ flatFrom m s n → ∃ j : Nat, s ≤ j ∧ j < s + n ∧ a.s = (j : Int) ∧ (⟨a.t, a.v⟩ : Pt) ∈ m j := by
  intro n
  induction n with
  | zero => intro s a h; simp [flatFrom] at h
  | succ n ih =>
    intro s a h
    rw [flatFrom, List.mem_append] at h
    rcases h with h | h
    · unfold smps at h
      obtain ⟨p, hp, rfl⟩ := List.mem_map.1 h
      exact ⟨s, by omega, by omega, rfl, hp⟩
    · obtain ⟨j, h1, h2, h3, h4⟩ := ih (s + 1) a h
      exact ⟨j, by omega, by omega, h3, h4⟩

theorem flatFrom_asc {m : Nat → List Pt} (hm : ∀ j, Asc (m j)) : ∀ (n s : Nat), AscS (flatFrom m s n) := by
  intro n
  induction n with
  | zero => intro s; exact List.Pairwise.nil
  | succ n ih =>
    intro s
    unfold AscS
    rw [flatFrom, List.pairwise_append]
    refine ⟨?_, ih (s + 1), fun a ha b hb => ?_⟩
    · unfold smps
      rw [List.pairwise_map]
      exact (hm s).imp (fun h => .inr ⟨rfl, h⟩)
    · unfold smps at ha
      obtain ⟨p, _, rfl⟩ := List.mem_map.1 ha
      obtain ⟨j, h1, _, h3, _⟩ := flatFrom_mem n (s + 1) b hb
      left
      rw [h3]
      show ((s : Nat) : Int) < _
      omega

theorem ofK_flatFrom (s t : Int) (m : Nat → List Pt) : ∀ (n a : Nat), ofK s t (flatFrom m a n) = if (a : Int) ≤ s ∧ s < (a + n : Nat) then smps s.toNat (ofT t (m s.toNat)) else [] := by
  intro n
  induction n with
  | zero => intro a; rw [if_neg (by omega)]; rfl
  | succ n ih =>
    intro a
    rw [flatFrom, ofK_append, ofK_smps, ih (a + 1)]
    by_cases c : s = (a : Int)
    · rw [if_pos c, if_neg (by omega), if_pos (by omega), List.append_nil]
      subst c
      rfl
    · rw [if_neg c, List.nil_append]
      by_cases c2 : ((a + 1 : Nat) : Int) ≤ s ∧ s < (a + 1 + n : Nat)
      · rw [if_pos c2, if_pos (by omega)]
      · rw [if_neg c2, if_neg (by omega)]

theorem ofK_ser (s : Nat) (t : Int) (xs : List Smp) : ofK (s : Int) t xs = smps s (ofT t (ser s xs)) := by
  induction xs with
  | nil => rfl
  | cons x xs ih =>
    have e1 : ofK (s : Int) t (x :: xs) = ofK (s : Int) t [x] ++ ofK (s : Int) t xs := ofK_append _ t [x] xs
    have e2 : ser s (x :: xs) = ser s [x] ++ ser s xs := ser_append s [x] xs
    rw [e1, e2, ofT_append, ih]
    unfold smps
    rw [List.map_append]
    congr 1
    by_cases c : x.s = (s : Int)
    · rw [ser_same s x c]
      by_cases ct : x.t = t
      · subst ct
        have h1 := ofK_same x
        have h2 := ofT_same ⟨x.t, x.v⟩
        simp only at h2
        rw [← c, h1, h2]
        simp
      · rw [ofK_ne (fun h => ct h.2), ofT_ne ct]; rfl
    · rw [ser_other s x c, ofK_ne (fun h => c h.1)]; rfl

theorem getLast_smps (s : Nat) (l : List Pt) : (smps s l).getLast?.toList = smps s l.getLast?.toList := by
  unfold smps
  rw [List.getLast?_map]
  cases l.getLast? <;> rfl

/-- Laying samples one by one leaves what the block of them is read as. -/
theorem lay_flat {xs : List Smp} {m : Nat → List Pt} (hf : fits xs = true) (hm : LaidBy xs m) : layAll [] xs = flat m := by
  obtain ⟨h1, h2⟩ := layAll_ok xs
  -- the series above 15 do not matter
  let m' : Nat → List Pt := fun j => if j < 16 then m j else []
  have hm' : ∀ j, Asc (m' j) := fun j => by
    show Asc (if j < 16 then m j else [])
    split
    · exact (hm j (by assumption)).asc
    · exact List.Pairwise.nil
  have hflat : flat m = flat m' := flatFrom_congr 16 0 (fun j _ hj => by show m j = if j < 16 then m j else []; rw [if_pos (by omega)])
  rw [hflat]
  refine h1.ext (flatFrom_asc hm' 16 0) (fun s t => ?_)
  rw [h2, show ofK s t (flat m') = _ from ofK_flatFrom s t m' 16 0]
  by_cases c : ((0 : Nat) : Int) ≤ s ∧ s < (0 + 16 : Nat)
  · rw [if_pos c]
    obtain ⟨j, rfl⟩ : ∃ j : Nat, s = (j : Int) := ⟨s.toNat, by omega⟩
    have hj : j < 16 := by omega
    rw [ofK_ser, getLast_smps, Int.toNat_natCast, ← (hm j hj).last t]
    show _ = smps j (ofT t (if j < 16 then m j else []))
    rw [if_pos hj]
  · rw [if_neg c, ofK_nil_of (l := xs) (fun a ha h => ?_)]
    · rfl
    · unfold fits at hf
      rw [List.all_eq_true] at hf
      have := hf a ha
      simp only [decide_eq_true_eq] at this
      omega

end Silo

/- Plain facts: the reference lays a sample as the other does. -/
namespace Silo

/-- Does x come to stand here, ahead of y? -/
def here (x : Smp) (put : Bool) (y : Smp) : Bool := !put && (decide (x.s < y.s) || (decide (x.s = y.s) && decide (x.t ≤ y.t)))

def layStep (x : Smp) (st : List Smp × Bool) (y : Smp) : List Smp × Bool :=
  ((if here x st.2 y then st.1 ++ [x] else st.1) ++ (if x.s = y.s ∧ x.t = y.t then [] else [y]), st.2 || here x st.2 y)

end Silo

/- siloref's allowed, Lay and LayAll. -/
namespace Go.Proofs.YtbimkgmhfcgpmaaGreatDoor
open Go.RowKit Go.Shelf

/-- A sample lies in block b. -/
structure Lies (W : World) (b : Nat) (x : Silo.Smp) : Prop where
  lt : b < W.heap.size
  c0 : W.cell? ⟨b, 0, none⟩ = some (.int .i64 x.s)
  c1 : W.cell? ⟨b, 1, none⟩ = some (.int .i64 x.t)
  c2 : W.cell? ⟨b, 2, none⟩ = some (.int .u64 (x.v : Nat))

theorem Lies.new (w : World) (x : Silo.Smp) (t : TypeId) : Lies (w.alloc (.cells #[.int .i64 x.s, .int .i64 x.t, .int .u64 (x.v : Nat)] t)) w.heap.size x :=
  ⟨by simp, by simp, by simp, by simp⟩

/-- What the loop has made of the first k samples. -/
def laid (x : Silo.Smp) (l : List Silo.Smp) (k : Nat) : List Silo.Smp × Bool := (l.take k).foldl (Silo.layStep x) ([], false)

end Go.Proofs.YtbimkgmhfcgpmaaGreatDoor

/- Plain facts: a block's file as the reference tells it, of samples in order. -/
namespace Silo

/-- How many of the first samples are of series s. -/
def runLen (s : Int) (r : List Smp) : Nat := (r.takeWhile fun a => decide (a.s = s)).length

def tHead (x : Smp) (r : List Smp) : List UInt8 := leb (x.s + 1).toNat ++ leb (runLen x.s (x :: r)) ++ leb (zig x.t) ++ leb x.v

def tNext (p x : Smp) : List UInt8 := leb (tcode x.t p.t false) ++ leb (x.v ^^^ p.v)

/-- The samples' bytes, one behind the other. -/
def toldFrom : Option Smp → List Smp → List UInt8
  | _, [] => []
  | none, x :: r => tHead x r ++ toldFrom (some x) r
  | some p, x :: r => (if p.s = x.s then tNext p x else tHead x r) ++ toldFrom (some x) r

theorem runLen_smps (s : Nat) (ps : List Pt) (r : List Smp) (h : ∀ a ∈ r, (s : Int) < a.s) : runLen (s : Int) (smps s ps ++ r) = ps.length := by
  unfold runLen
  induction ps with
  | nil =>
    cases r with
    | nil => rfl
    | cons a r =>
      have := h a (by simp)
      have e : decide (a.s = (s : Int)) = false := by simp; omega
      simp [smps, e]
  | cons p ps ih =>
    simp only [smps, List.map_cons, List.cons_append, List.takeWhile_cons, decide_true, if_true, List.length_cons] at ih ⊢
    omega

theorem toldFrom_pts (s : Nat) (r : List Smp) : ∀ (ps : List Pt) (t : Int) (v : Nat), ∃ q : Smp, q.s = (s : Int) ∧ toldFrom (some ⟨(s : Int), t, v⟩) (smps s ps ++ r) = encPts t v false ps ++ toldFrom (some q) r := by
  intro ps
  induction ps with
  | nil => intro t v; exact ⟨⟨(s : Int), t, v⟩, rfl, rfl⟩
  | cons p ps ih =>
    intro t v
    obtain ⟨q, h1, h2⟩ := ih p.t p.v
    refine ⟨q, h1, ?_⟩
    have e : smps s (p :: ps) ++ r = ⟨(s : Int), p.t, p.v⟩ :: (smps s ps ++ r) := rfl
    rw [e, toldFrom, if_pos rfl, h2, encPts, tNext]
    simp

theorem toldFrom_flat (m : Nat → List Pt) : ∀ (n s : Nat) (prev : Option Smp), (∀ p, prev = some p → p.s < (s : Int)) → toldFrom prev (flatFrom m s n) = encAll m s n := by
  intro n
  induction n with
  | zero => intro s prev _; cases prev <;> rfl
  | succ n ih =>
    intro s prev hp
    rw [flatFrom, encAll]
    have hrest : ∀ a ∈ flatFrom m (s + 1) n, (s : Int) < a.s := fun a ha => by
      obtain ⟨j, h1, _, h3, _⟩ := flatFrom_mem n (s + 1) a ha
      omega
    cases hm : m s with
    | nil =>
      rw [if_pos rfl]
      simp only [smps, List.map_nil, List.nil_append]
      exact ih (s + 1) prev (fun p hh => by have := hp p hh; omega)
    | cons p ps =>
      rw [if_neg (by simp)]
      have e : smps s (p :: ps) ++ flatFrom m (s + 1) n = ⟨(s : Int), p.t, p.v⟩ :: (smps s ps ++ flatFrom m (s + 1) n) := rfl
      obtain ⟨q, h1, h2⟩ := toldFrom_pts s (flatFrom m (s + 1) n) ps p.t p.v
      have hq := ih (s + 1) (some q) (fun p' hh => by cases hh; omega)
      have hhd : tHead ⟨(s : Int), p.t, p.v⟩ (smps s ps ++ flatFrom m (s + 1) n) = leb (s + 1) ++ leb (p :: ps).length ++ leb (zig p.t) ++ leb p.v := by
        unfold tHead
        rw [← e, runLen_smps s (p :: ps) _ hrest]
        rfl
      have hpre : toldFrom prev (⟨(s : Int), p.t, p.v⟩ :: (smps s ps ++ flatFrom m (s + 1) n)) = tHead ⟨(s : Int), p.t, p.v⟩ (smps s ps ++ flatFrom m (s + 1) n) ++ toldFrom (some ⟨(s : Int), p.t, p.v⟩) (smps s ps ++ flatFrom m (s + 1) n) := by
        cases prev with
        | none => rfl
        | some p' =>
          have := hp p' rfl
          rw [toldFrom, if_neg (by show ¬ p'.s = (s : Int); omega)]
      rw [e, hpre, h2, hq, hhd]
      unfold encSer
      rw [encPts]
      simp [tcode]

/-- The text, as the reference tells it. -/
def toldBody (lo hi : Nat) (l : List Smp) : List UInt8 := 66 :: (leb lo ++ leb hi ++ (toldFrom none l ++ [0]))

theorem toldBody_flat (lo hi : Nat) (m : Nat → List Pt) : toldBody lo hi (flat m) = encBody lo hi m := by
  unfold toldBody encBody flat
  rw [toldFrom_flat m 16 0 none (fun p h => by cases h)]

/-- Samples in order, of series that may be, are the flat form of their series. -/
theorem flat_ser {l : List Smp} (hl : AscS l) (hf : fits l = true) : l = flat (fun s => ser s l) ∧ LaidBy l (fun s => ser s l) := by
  have hasc : ∀ s, Asc (ser s l) := fun s => by
    unfold Asc ser
    rw [List.pairwise_filterMap]
    refine List.Pairwise.imp ?_ hl
    intro a b hab c hc d hd
    unfold bef at hab
    split at hc
    · split at hd
      · simp only [Option.some.injEq] at hc hd
        subst hc; subst hd
        simp only
        omega
      · cases hd
    · cases hc
  have hlaid : LaidBy l (fun s => ser s l) := fun s _ => Left.self (hasc s)
  refine ⟨?_, hlaid⟩
  have h1 := lay_flat hf hlaid
  rw [← h1]
  -- laying samples that are in order leaves them
  obtain ⟨g1, g2⟩ := layAll_ok l
  refine (g1.ext hl (fun s t => ?_)).symm
  rw [g2]
  -- at most one sample of each series and time
  have key : ∀ (k : List Smp), AscS k → (ofK s t k).getLast?.toList = ofK s t k := by
    intro k hk
    have hle : (ofK s t k).length ≤ 1 := by
      have hp : AscS (ofK s t k) := List.Pairwise.sublist List.filter_sublist hk
      match hq : ofK s t k with
      | [] => simp
      | [a] => simp
      | a :: b :: r =>
        exfalso
        rw [hq] at hp
        have hab : bef a b := (List.pairwise_cons.1 hp).1 b (by simp)
        have ha := (mem_ofK.1 (show a ∈ ofK s t k by rw [hq]; simp)).2
        have hb := (mem_ofK.1 (show b ∈ ofK s t k by rw [hq]; simp)).2
        unfold bef at hab
        omega
    match hq : ofK s t k with
    | [] => rfl
    | [a] => rfl
    | a :: b :: r => rw [hq] at hle; simp at hle
  exact key l hl

end Silo

/- Plain facts for the reference's reading of a block. -/
namespace Silo

/-- The text is a block's file, of these samples. -/
def T (f : List UInt8) (lo hi : Nat) (m : Nat → List Pt) : Prop := f = file lo hi m ∧ (∀ j, goodPts 0 true (m j)) ∧ lo ≤ hi ∧ hi ≤ 999999

def tl (lo hi : Nat) (m : Nat → List Pt) : List UInt8 := 0 :: be8 (fnv (encBody lo hi m))

theorem T.shape {f : List UInt8} {lo hi : Nat} {m : Nat → List Pt} (h : T f lo hi m) : f = 66 :: (leb lo ++ (leb hi ++ (encAll m 0 16 ++ tl lo hi m))) := by
  rw [h.1]
  unfold file sealed tl
  conv => lhs; arg 1; unfold encBody
  simp

theorem no_decode {f : List UInt8} (h : ∀ lo hi m, T f lo hi m → False) : decode f = none := by
  cases hd : decode f with
  | none => rfl
  | some d =>
    obtain ⟨m, h1, _, h3, h4, h5⟩ := decode_some hd
    exact (h d.lo d.hi m ⟨h1, h3, h4, h5⟩).elim

theorem tl_length (lo hi : Nat) (m : Nat → List Pt) : (tl lo hi m).length = 9 := rfl

theorem flatFrom_snoc (m : Nat → List Pt) : ∀ (n s : Nat), flatFrom m s (n + 1) = flatFrom m s n ++ smps (s + n) (m (s + n)) := by
  intro n
  induction n with
  | zero => intro s; simp [flatFrom]
  | succ n ih =>
    intro s
    rw [flatFrom, ih (s + 1), flatFrom, List.append_assoc, show s + 1 + n = s + (n + 1) by omega]

/-- From s on: nothing more, or the next series. -/
theorem next_series (m : Nat → List Pt) : ∀ (n s : Nat), s + n = 16 → (encAll m s n = [] ∧ flatFrom m 0 16 = flatFrom m 0 s) ∨
    ∃ j, s ≤ j ∧ j < 16 ∧ m j ≠ [] ∧ encAll m s n = encSer j (m j) ++ encAll m (j + 1) (16 - (j + 1)) ∧ flatFrom m 0 j = flatFrom m 0 s := by
  intro n
  induction n with
  | zero => intro s hs; simp at hs; subst hs; exact .inl ⟨rfl, rfl⟩
  | succ n ih =>
    intro s hs
    by_cases hm : m s = []
    · have e : encAll m s (n + 1) = encAll m (s + 1) n := by rw [encAll, if_pos hm]; rfl
      have e2 : flatFrom m 0 (s + 1) = flatFrom m 0 s := by rw [flatFrom_snoc, Nat.zero_add, hm]; simp [smps]
      rcases ih (s + 1) (by omega) with ⟨h1, h2⟩ | ⟨j, h1, h2, h3, h4, h5⟩
      · exact .inl ⟨by rw [e, h1], by rw [h2, e2]⟩
      · exact .inr ⟨j, by omega, h2, h3, by rw [e, h4], by rw [h5, e2]⟩
    · exact .inr ⟨s, Nat.le_refl _, by omega, hm, by rw [encAll, if_neg hm, show 16 - (s + 1) = n by omega], rfl⟩

theorem leb_small (j : Nat) (h : j < 16) : leb (j + 1) = [UInt8.ofNat (j + 1)] := leb_lo _ (by omega)

/-- Where a code stands, the place behind it. -/
theorem drop_code {f r : List UInt8} {i n : Nat} (h : rdCode (f.drop i) = some (n, r)) : f.drop (i + (leb n).length) = r ∧ i + (leb n).length ≤ f.length ∧ n < M64 ∧ 1 ≤ (leb n).length := by
  obtain ⟨h1, h2⟩ := rdCode_some h
  have h3 : f.drop (i + (leb n).length) = r := by rw [← List.drop_drop, h1]; simp
  refine ⟨h3, ?_, h2, leb_pos n⟩
  have h4 := congrArg List.length h1
  have h5 := leb_pos n
  simp only [List.length_drop, List.length_append] at h4
  omega

theorem code_of {f a : List UInt8} {i n : Nat} (h : f.drop i = leb n ++ a) (hn : n < M64) : rdCode (f.drop i) = some (n, a) := by rw [h]; exact rdCode_leb n a hn

/-- Is a block's data still going on at the place? -/
def more (f : List UInt8) : Option Nat → Bool
  | some p => decide (p + 8 < f.length) && (f[p]? != some 0)
  | none => false

theorem more_some (f : List UInt8) (p : Nat) : more f (some p) = (decide (p + 8 < f.length) && (f[p]? != some 0)) := rfl

theorem asc_of_adj {l : List Smp} (h : ∀ q (hq : q + 1 < l.length), bef l[q] l[q + 1]) : AscS l := by
  have tr : ∀ {a b c : Smp}, bef a b → bef b c → bef a c := fun {a b c} h1 h2 => by unfold bef at h1 h2 ⊢; omega
  have key : ∀ (d i : Nat) (hi : i + d + 1 < l.length), bef l[i] l[i + d + 1] := by
    intro d
    induction d with
    | zero => intro i hi; exact h i hi
    | succ d ih => intro i hi; exact tr (ih i (by omega)) (h (i + d + 1) (by omega))
  unfold AscS
  rw [List.pairwise_iff_getElem]
  intro i j hi hj hij
  have := key (j - i - 1) i (by omega)
  simpa only [show i + (j - i - 1) + 1 = j by omega] using this

theorem T.end_of {f : List UInt8} {lo hi : Nat} {m : Nat → List Pt} {s p : Nat} (hs : s ≤ 16) (hd : f.drop p = encAll m s (16 - s) ++ tl lo hi m) (hm : more f (some p) = false) : flat m = flatFrom m 0 s := by
  rcases next_series m (16 - s) s (by omega) with ⟨_, h2⟩ | ⟨j, h1, h2, h3, h4, h5⟩
  · exact h2
  · exfalso
    rw [h4] at hd
    unfold encSer at hd
    rw [leb_small j h2] at hd
    simp only [List.cons_append, List.nil_append, List.append_assoc] at hd
    have hlen := congrArg List.length hd
    simp only [List.length_drop, List.length_cons, List.length_append, tl_length] at hlen
    have hb : f[p]? = some (UInt8.ofNat (j + 1)) := by
      have := congrArg (fun x => x[0]?) hd
      simpa using this
    rw [more_some, hb] at hm
    have hp : p + 8 < f.length := by omega
    obtain ⟨u, hu⟩ : ∃ u, UInt8.ofNat (j + 1) = u := ⟨_, rfl⟩
    have hne : ¬ u = 0 := by
      intro h
      have := congrArg UInt8.toNat (hu.trans h)
      rw [UInt8.toNat_ofNat'] at this
      simp at this
      omega
    rw [hu] at hm
    simp [hp] at hm
    exact hne hm

theorem T.next_of {f : List UInt8} {lo hi : Nat} {m : Nat → List Pt} {s p : Nat} (hs : s ≤ 16) (hd : f.drop p = encAll m s (16 - s) ++ tl lo hi m) (hm : more f (some p) = true) :
    ∃ j, j < 16 ∧ m j ≠ [] ∧ f.drop p = leb (j + 1) ++ (leb (m j).length ++ (encPts 0 0 true (m j) ++ (encAll m (j + 1) (16 - (j + 1)) ++ tl lo hi m))) ∧ flatFrom m 0 j = flatFrom m 0 s := by
  rcases next_series m (16 - s) s (by omega) with ⟨h1, _⟩ | ⟨j, h1, h2, h3, h4, h5⟩
  · exfalso
    rw [h1] at hd
    have hb : f[p]? = some 0 := by
      have := congrArg (fun x => x[0]?) hd
      simpa [tl] using this
    rw [more_some, hb] at hm
    simp at hm
  · refine ⟨j, h2, h3, ?_, h5⟩
    rw [hd, h4]
    unfold encSer
    simp

end Silo

/- Plain facts: where the reference's reading stands. -/
namespace Silo

/-- At the head of the outer loop. -/
def KO (f : List UInt8) (LO HI : Nat) (o : Option Nat) (l : List Smp) : Prop := ∀ lo hi m, T f lo hi m → LO = lo ∧ HI = hi ∧ ∃ s p, s ≤ 16 ∧ o = some p ∧ f.drop p = encAll m s (16 - s) ++ tl lo hi m ∧ l = flatFrom m 0 s

/-- At the head of the inner loop. -/
def KI (f : List UInt8) (LO HI se n c : Nat) (o : Option Nat) (x : Smp) (l : List Smp) : Prop := ∀ lo hi m, T f lo hi m → LO = lo ∧ HI = hi ∧ ∃ s p, s < 16 ∧ se = s + 1 ∧ m s ≠ [] ∧ n = (m s).length ∧ o = some p ∧ c ≤ n ∧
  f.drop p = encPts x.t x.v (decide (c = 0)) ((m s).drop c) ++ (encAll m (s + 1) (16 - (s + 1)) ++ tl lo hi m) ∧ l = flatFrom m 0 s ++ smps s ((m s).take c)

/-- What reading at a place says: the number, and the place behind it. -/
def Rd (f : List UInt8) (i n : Nat) (o : Option Nat) : Prop := (rdCode (f.drop i) = none ∧ o = none ∧ n = 0) ∨ ∃ r, rdCode (f.drop i) = some (n, r) ∧ o = some (i + (leb n).length)

theorem Rd.of {f a : List UInt8} {i n k : Nat} {o : Option Nat} (h : Rd f i n o) (hd : f.drop i = leb k ++ a) (hk : k < M64) : n = k ∧ ∃ p, o = some p ∧ f.drop p = a := by
  have hc := code_of hd hk
  rcases h with ⟨h1, _, _⟩ | ⟨r, h1, h2⟩
  · rw [hc] at h1; cases h1
  · have h1' := h1
    rw [hc] at h1
    simp only [Option.some.injEq, Prod.mk.injEq] at h1
    obtain ⟨rfl, rfl⟩ := h1
    exact ⟨rfl, _, h2, (drop_code h1').1⟩

theorem Rd.some_lt {f : List UInt8} {i n p : Nat} (h : Rd f i n (some p)) : i < p ∧ p ≤ f.length ∧ n < M64 ∧ ∃ r, rdCode (f.drop i) = some (n, r) := by
  rcases h with ⟨_, h2, _⟩ | ⟨r, h1, h2⟩
  · cases h2
  · simp only [Option.some.injEq] at h2
    obtain ⟨_, h4, h5, h6⟩ := drop_code h1
    exact ⟨by omega, by omega, h5, r, h1⟩

theorem Rd.lt {f : List UInt8} {i n : Nat} {o : Option Nat} (h : Rd f i n o) : n < M64 := by
  cases o with
  | some p => exact h.some_lt.2.2.1
  | none =>
    rcases h with ⟨_, _, h3⟩ | ⟨r, _, h2⟩
    · rw [h3]; exact M64_pos
    · cases h2

theorem small_lt {n : Nat} (h : n ≤ 999999) : n < M64 := by unfold M64; omega

theorem T.first {f : List UInt8} {lo hi : Nat} {m : Nat → List Pt} (h : T f lo hi m) : f.drop 1 = leb lo ++ (leb hi ++ (encAll m 0 16 ++ tl lo hi m)) := by
  have := h.shape
  rw [this]
  rfl

theorem no_first {f : List UInt8} {n : Nat} (h : Rd f 1 n none) : ∀ lo hi m, T f lo hi m → False := fun lo hi m ht => by
  obtain ⟨_, p, h2, _⟩ := h.of ht.first (small_lt (by have := ht.2.2; omega))
  cases h2

theorem KO.start {f : List UInt8} {LO HI i : Nat} {o : Option Nat} (h1 : Rd f 1 LO (some i)) (h2 : Rd f i HI o) : KO f LO HI o [] := fun lo hi m ht => by
  obtain ⟨e1, p, e2, e3⟩ := h1.of ht.first (small_lt (by have := ht.2.2; omega))
  simp only [Option.some.injEq] at e2
  subst e2
  obtain ⟨e4, q, e5, e6⟩ := h2.of e3 (small_lt ht.2.2.2)
  exact ⟨e1, e4, 0, q, by omega, e5, e6, rfl⟩

/-- A series read, where the data goes on. -/
theorem KO.series {f : List UInt8} {LO HI p se n : Nat} {o1 o2 : Option Nat} {l : List Smp} (hk : KO f LO HI (some p) l) (hm : more f (some p) = true) (h1 : Rd f p se o1) (h2 : ∀ q, o1 = some q → Rd f q n o2)
    (hlen : ∀ lo hi m, T f lo hi m → ∀ j, j < 16 → (m j).length < M64) :
    (∀ lo hi m, T f lo hi m → o1 ≠ none ∧ se ≤ 16 ∧ (o1 ≠ none → o2 ≠ none)) ∧ ((∃ q, o1 = some q) → KI f LO HI se n 0 o2 ⟨(se : Int) - 1, 0, 0⟩ l) := by
  have key : ∀ lo hi m, T f lo hi m → LO = lo ∧ HI = hi ∧ ∃ j q, j < 16 ∧ m j ≠ [] ∧ se = j + 1 ∧ o1 = some q ∧ f.drop q = leb (m j).length ++ (encPts 0 0 true (m j) ++ (encAll m (j + 1) (16 - (j + 1)) ++ tl lo hi m)) ∧ l = flatFrom m 0 j := fun lo hi m ht => by
    obtain ⟨e1, e2, s, p', e3, e4, e5, e6⟩ := hk lo hi m ht
    simp only [Option.some.injEq] at e4
    subst e4
    obtain ⟨j, g1, g2, g3, g4⟩ := T.next_of e3 e5 hm
    obtain ⟨e7, q, e8, e9⟩ := h1.of g3 (by unfold M64; omega)
    exact ⟨e1, e2, j, q, g1, g2, e7, e8, e9, by rw [e6, g4]⟩
  constructor
  · intro lo hi m ht
    obtain ⟨_, _, j, q, g1, _, g3, g4, g5, _⟩ := key lo hi m ht
    obtain ⟨_, q2, e2, _⟩ := (h2 q g4).of g5 (hlen lo hi m ht j g1)
    exact ⟨by rw [g4]; simp, by omega, fun _ => by rw [e2]; simp⟩
  · rintro _ lo hi m ht
    obtain ⟨e1, e2, j, q, g1, g2, g3, g4, g5, g6⟩ := key lo hi m ht
    obtain ⟨e3, q2, e4, e5⟩ := (h2 q g4).of g5 (hlen lo hi m ht j g1)
    exact ⟨e1, e2, j, q2, g1, g3, g2, e3, e4, Nat.zero_le _, by simpa using e5, by simpa [smps] using g6⟩

theorem T.len {f : List UInt8} {lo hi : Nat} {m : Nat → List Pt} (h : T f lo hi m) (hl : f.length ≤ 16777216) (j : Nat) (hj : j < 16) : (m j).length < M64 := by
  have key : ∀ (n s : Nat), s ≤ j → j < s + n → (m j).length ≤ (encAll m s n).length := by
    intro n
    induction n with
    | zero => intro s h1 h2; omega
    | succ n ih =>
      intro s h1 h2
      rw [encAll, List.length_append]
      by_cases e : s = j
      · subst e
        by_cases hm : m s = []
        · rw [hm]; simp
        · rw [if_neg hm]
          have := encPts_len (m s) 0 0 true
          unfold encSer
          simp only [List.length_append]
          omega
      · have := ih (s + 1) (by omega) (by omega)
        omega
  have h1 := key 16 0 (by omega) (by omega)
  have h2 := congrArg List.length h.shape
  simp only [List.length_cons, List.length_append] at h2
  unfold M64
  omega

/-- One sample read. -/
def nextT (c : Nat) (x : Smp) (t : Nat) : Int := if c = 0 then zag t else Go.IntKind.i64.wrap (Go.IntKind.u64.wrap (Go.IntKind.u64.wrap x.t + (t : Int)))

def nextV (c : Nat) (x : Smp) (v : Nat) : Nat := if c = 0 then v else x.v ^^^ v

theorem KI.step {f : List UInt8} {LO HI se n c p t v : Nat} {o1 o2 : Option Nat} {x : Smp} {l : List Smp} (hk : KI f LO HI se n c (some p) x l) (hc : c < n) (hx : isInt x.t ∧ x.v < M64) (hx0 : c = 0 → x.v = 0)
    (h1 : Rd f p t o1) (h2 : ∀ q, o1 = some q → Rd f q v o2) :
    (∀ lo hi m, T f lo hi m → o1 ≠ none) ∧ ((∃ q, o1 = some q) → KI f LO HI se n (c + 1) o2 ⟨(se : Int) - 1, nextT c x t, nextV c x v⟩ (l ++ [⟨(se : Int) - 1, nextT c x t, nextV c x v⟩])) := by
  have key : ∀ lo hi m, T f lo hi m → LO = lo ∧ HI = hi ∧ ∃ s q, s < 16 ∧ se = s + 1 ∧ m s ≠ [] ∧ n = (m s).length ∧ l = flatFrom m 0 s ++ smps s ((m s).take c) ∧ ∃ (hcm : c < (m s).length), isInt (m s)[c].t ∧ (m s)[c].v < M64 ∧ t = tcode (m s)[c].t x.t (decide (c = 0)) ∧ o1 = some q ∧
      f.drop q = leb ((m s)[c].v ^^^ x.v) ++ (encPts (m s)[c].t (m s)[c].v false ((m s).drop (c + 1)) ++ (encAll m (s + 1) (16 - (s + 1)) ++ tl lo hi m)) := fun lo hi m ht => by
    obtain ⟨e1, e2, s, p', e3, e4, e5, e6, e7, e8, e9, e10⟩ := hk lo hi m ht
    simp only [Option.some.injEq] at e7
    subst e7
    have hcm : c < (m s).length := by omega
    have hg := (goodPts_asc (ht.2.1 s)).2.1 _ (List.getElem_mem hcm)
    rw [List.drop_eq_getElem_cons hcm, encPts, List.append_assoc, List.append_assoc] at e9
    obtain ⟨g1, q, g2, g3⟩ := h1.of e9 (tcode_lt _ _ _ hg.1)
    exact ⟨e1, e2, s, q, e3, e4, e5, e6, e10, hcm, hg.1, hg.2, g1, g2, g3⟩
  constructor
  · intro lo hi m ht
    obtain ⟨_, _, s, q, _, _, _, _, _, _, _, _, _, g, _⟩ := key lo hi m ht
    rw [g]; simp
  · rintro _ lo hi m ht
    obtain ⟨e1, e2, s, q, e3, e4, e5, e6, e7, hcm, g1, g2, g3, g4, g5⟩ := key lo hi m ht
    obtain ⟨k1, q2, k2, k3⟩ := (h2 q g4).of g5 (xor_lt _ _ g2 hx.2)
    have ht' : nextT c x t = (m s)[c].t := by
      unfold nextT
      by_cases h0 : c = 0
      · rw [if_pos h0, g3]
        simp only [h0, decide_true, tcode, if_true]
        subst h0
        exact zag_zig _
      · rw [if_neg h0, g3]
        have hd : decide (c = 0) = false := by simpa using h0
        simp only [hd, tcode, Bool.false_eq_true, if_false]
        rw [Go.IntKind.wrap_u64, Go.IntKind.wrap_u64, Go.IntKind.wrap_i64]
        have a1 := hx.1
        unfold isInt at a1 g1
        omega
    have hv' : nextV c x v = (m s)[c].v := by
      unfold nextV
      by_cases h0 : c = 0
      · rw [if_pos h0, k1, hx0 h0, Nat.xor_zero]
      · rw [if_neg h0, k1, Nat.xor_comm, Nat.xor_assoc, Nat.xor_self, Nat.xor_zero]
    have hse : (se : Int) - 1 = (s : Int) := by omega
    refine ⟨e1, e2, s, q2, e3, e4, e5, e6, k2, by omega, ?_, ?_⟩
    · have hd : decide (c + 1 = 0) = false := by simp
      rw [hd, k3, ht', hv']
    · rw [e7, ht', hv', hse, List.take_succ_eq_append_getElem hcm, List.append_assoc]
      congr 1
      unfold smps
      rw [List.map_append]
      rfl

theorem KI.done {f : List UInt8} {LO HI se n c : Nat} {o : Option Nat} {x : Smp} {l : List Smp} (hk : KI f LO HI se n c o x l) (h : ¬ (c < n ∧ ∃ p, o = some p)) : KO f LO HI o l := fun lo hi m ht => by
  obtain ⟨e1, e2, s, p, e3, e4, e5, e6, e7, e8, e9, e10⟩ := hk lo hi m ht
  have hc : c = (m s).length := by
    by_cases g : c < n
    · exact absurd ⟨g, p, e7⟩ h
    · omega
  subst hc
  rw [List.drop_length, encPts, List.nil_append] at e9
  rw [List.take_length] at e10
  refine ⟨e1, e2, s + 1, p, by omega, e7, e9, ?_⟩
  rw [e10, flatFrom_snoc, Nat.zero_add]

end Silo
