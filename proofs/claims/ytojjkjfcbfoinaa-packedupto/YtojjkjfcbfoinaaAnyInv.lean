/- A region that draws its order, by an invariant over which of its operations have been carried out. Over any program. -/
import Derived.Test.YtojjkjfcbfoinaaFoot
import Derived.OrdersIn
import Derived.Stop.RegionWithIn
namespace Go.Proofs.Ytojjkjfcbfoinaa
open Go.RowKit

/-- Has operation i been carried out? -/
def done (listed : Array Bool) (i : Nat) : Bool := listed.getD i false

theorem done_set_same {listed : Array Bool} {i : Nat} (h : i < listed.size) : done (listed.setIfInBounds i true) i = true := by
  simp [done, Array.getD, h]

theorem done_set_ne {listed : Array Bool} {i j : Nat} (h : i ≠ j) : done (listed.setIfInBounds i true) j = done listed j := by
  unfold done
  simp only [Array.getD_eq_getD_getElem?, Array.getElem?_setIfInBounds]
  rw [if_neg h]

theorem done_of_set {listed : Array Bool} {i j : Nat} (h : done (listed.setIfInBounds i true) j = true) (hne : i ≠ j) : done listed j = true := by rwa [done_set_ne hne] at h
theorem undone_of_set {listed : Array Bool} {i j : Nat} (h : done (listed.setIfInBounds i true) j = false) : done listed j = false := by
  by_cases e : i = j
  · subst e
    by_cases hi : i < listed.size
    · rw [done_set_same hi] at h; cases h
    · unfold done at h ⊢
      simp only [Array.getD_eq_getD_getElem?] at h ⊢
      simp [hi]
  · rwa [done_set_ne e] at h

/-- How many are still to come. -/
def toCome (listed : Array Bool) : Nat := (List.range listed.size).countP fun i => !done listed i

theorem countP_lt {l : List Nat} {p q : Nat → Bool} (h : ∀ x ∈ l, q x = true → p x = true) {i : Nat} (hi : i ∈ l) (hp : p i = true) (hq : q i = false) : l.countP q < l.countP p := by
  induction l with
  | nil => cases hi
  | cons a l ih =>
    have hle : l.countP q ≤ l.countP p := List.countP_mono_left (fun x hx => h x (List.mem_cons_of_mem _ hx))
    rcases List.mem_cons.1 hi with rfl | hi'
    · simp [hp, hq]; omega
    · have := ih (fun x hx => h x (List.mem_cons_of_mem _ hx)) hi'
      have ha := h a List.mem_cons_self
      simp only [List.countP_cons]
      cases hqa : q a
      · simp; split <;> omega
      · rw [ha hqa]; simp; omega

theorem toCome_set {listed : Array Bool} {i : Nat} (h : i < listed.size) (hd : done listed i = false) : toCome (listed.setIfInBounds i true) < toCome listed := by
  unfold toCome
  rw [Array.size_setIfInBounds]
  refine countP_lt (i := i) ?_ (by simp [h]) (by simp [hd]) (by simp [done_set_same h])
  intro x _ hx
  by_cases e : i = x
  · subst e; simp [done_set_same h] at hx
  · simpa [done_set_ne e] using hx

/-- Each operation waits for earlier ones alone. -/
def acyc (ops : Array Oper) : Bool := (List.range ops.size).all fun i => ((ops[i]?).map (·.after.all fun e => !Region.binds .any e || decide (e.on < i))).getD true

theorem acyc_lt {ops : Array Oper} (h : acyc ops = true) {i : Nat} {o : Oper} (ho : ops[i]? = some o) {e : Edge} (he : e ∈ o.after) (hb : Region.binds .any e = true) : e.on < i := by
  unfold acyc at h
  rw [List.all_eq_true] at h
  have hi : i < ops.size := (Array.getElem?_eq_some_iff.1 ho).1
  have := h i (by simp [hi])
  rw [ho] at this
  simp only [Option.map_some, Option.getD_some, Array.all_eq_true_iff_forall_mem] at this
  have h2 := this e he
  rw [hb] at h2
  simpa using h2

section
variable {F : Fence} {n : Nat} {P : Program} {ops : Array Oper} {Q : Exit → Act → World → Prop}

theorem ready_mem {listed : Array Bool} {i : Nat} (hsz : listed.size = ops.size) (h : i ∈ Region.ready .any ops listed) :
    ∃ o, ops[i]? = some o ∧ i < listed.size ∧ done listed i = false ∧ ∀ e ∈ o.after, Region.binds .any e = true → done listed e.on = true := by
  unfold Region.ready at h
  rw [List.mem_filter] at h
  obtain ⟨h1, h2⟩ := h
  have hi : i < ops.size := by simpa using h1
  obtain ⟨o, ho⟩ : ∃ o, ops[i]? = some o := ⟨ops[i], by simp [hi]⟩
  rw [ho] at h2
  simp only [Option.map_some, Option.getD_some, Bool.and_eq_true, Array.all_eq_true_iff_forall_mem, Bool.or_eq_true, Bool.not_eq_true'] at h2
  refine ⟨o, ho, by omega, ?_, fun e he hb => ?_⟩
  · have := h2.1
    unfold done
    simp only [Array.getD_eq_getD_getElem?] at this ⊢
    have hl : i < listed.size := by omega
    simp [hl] at this ⊢
    exact this
  · rcases h2.2 e he with h | h
    · rw [hb] at h; cases h
    · exact h

/-- Where each operation waits for earlier ones alone, and none is ready, all have been carried out. -/
theorem all_done (hac : acyc ops = true) {listed : Array Bool} (hsz : listed.size = ops.size) (h : Region.ready .any ops listed = []) : ∀ i, i < ops.size → done listed i = true := by
  intro i
  induction i using Nat.strongRecOn with
  | _ i ih =>
    intro hi
    cases hd : done listed i with
    | true => rfl
    | false =>
      exfalso
      obtain ⟨o, ho⟩ : ∃ o, ops[i]? = some o := ⟨ops[i], by simp [hi]⟩
      have : i ∈ Region.ready .any ops listed := by
        unfold Region.ready
        rw [List.mem_filter]
        refine ⟨by simp [hi], ?_⟩
        rw [ho]
        simp only [Option.map_some, Option.getD_some, Bool.and_eq_true, Array.all_eq_true_iff_forall_mem, Bool.or_eq_true, Bool.not_eq_true']
        refine ⟨?_, fun e he => ?_⟩
        rotate_left
        · cases hb : Region.binds .any e with
          | false => exact .inl rfl
          | true => exact .inr (ih e.on (acyc_lt hac ho he hb) (by have := acyc_lt hac ho he hb; omega))
        unfold done at hd
        simp only [Array.getD_eq_getD_getElem?] at hd ⊢
        have hl : i < listed.size := by omega
        simp [hl] at hd ⊢
        exact hd
      rw [h] at this
      cases this

/-- What has been carried out waits for nothing. -/
def closed (ops : Array Oper) (listed : Array Bool) : Prop := ∀ j o, ops[j]? = some o → done listed j = true → ∀ e ∈ o.after, Region.binds .any e = true → done listed e.on = true

theorem closed_set {listed : Array Bool} {i : Nat} {o : Oper} (ho : ops[i]? = some o) (hi : i < listed.size) (hdep : ∀ e ∈ o.after, Region.binds .any e = true → done listed e.on = true) (h : closed ops listed) : closed ops (listed.setIfInBounds i true) := by
  have mono : ∀ k, done listed k = true → done (listed.setIfInBounds i true) k = true := fun k hk => by
    by_cases e : i = k
    · subst e; exact done_set_same hi
    · rw [done_set_ne e]; exact hk
  intro j o' ho' hj e he hb
  by_cases e' : i = j
  · subst e'
    rw [ho] at ho'
    cases ho'
    exact mono _ (hdep e he hb)
  · rw [done_set_ne e'] at hj
    exact mono _ (h j o' ho' hj e he hb)

/-- **A region that draws its order, by an invariant.** -/
theorem wpAnyIn_inv (hac : acyc ops = true) (I : Array Bool → Act → World → Prop)
    (hend : ∀ listed a w, (∀ i, i < ops.size → done listed i = true) → I listed a w → Q .normal a w)
    (hstep : ∀ (listed : Array Bool) (a : Act) (w : World) (i : Nat) (o : Oper), ops[i]? = some o → i < listed.size → done listed i = false → (∀ e ∈ o.after, Region.binds .any e = true → done listed e.on = true) → closed ops listed → I listed a w →
      ∀ K : Act → World → Prop, (∀ a' w', I (listed.setIfInBounds i true) a' w' → K a' w') →
        if Region.wanted o (yielded ops a.tmps) = true then Oper.wpIn F n P o a w K Q else (∀ f, o.about P w a.eval = some f → F.fn f) ∧ K (a.put o.dst undef) w) :
    ∀ (fuel : Nat) (listed : Array Bool) (a : Act) (w : World), listed.size = ops.size → toCome listed ≤ fuel → closed ops listed → I listed a w → wpAnyIn F n P .any ops Q fuel listed a w := by
  intro fuel
  induction fuel with
  | zero =>
    intro listed a w hsz hc hcl hI
    have hr : Region.ready .any ops listed = [] := by
      cases hr : Region.ready .any ops listed with
      | nil => rfl
      | cons i rs =>
        obtain ⟨o, _, hl, hd, _⟩ := ready_mem hsz (by rw [hr]; exact List.mem_cons_self)
        have := toCome_set hl hd
        omega
    exact ⟨hr, hend listed a w (all_done hac hsz hr) hI⟩
  | succ fuel ih =>
    intro listed a w hsz hc hcl hI
    refine ⟨fun hr => hend listed a w (all_done hac hsz hr) hI, fun i hi => ?_⟩
    obtain ⟨o, ho, hl, hd, hdep⟩ := ready_mem hsz hi
    refine wpOpIn_step ho (fun K hK => hstep listed a w i o ho hl hd hdep hcl hI K (fun a' w' hI' => hK a' w' (ih _ a' w' (by simpa using hsz) ?_ (closed_set ho hl hdep hcl) hI')))
    have := toCome_set hl hd
    omega

theorem wpIn_region_inv {id : Nat} {a : Act} {w : World} (hm : P.follows .mixedOrders = true) (hac : acyc ops = true) (I : Array Bool → Act → World → Prop)
    (h0 : I (Array.replicate ops.size false) a w.drew)
    (hend : ∀ listed a w, (∀ i, i < ops.size → done listed i = true) → I listed a w → Q .normal a w)
    (hstep : ∀ (listed : Array Bool) (a : Act) (w : World) (i : Nat) (o : Oper), ops[i]? = some o → i < listed.size → done listed i = false → (∀ e ∈ o.after, Region.binds .any e = true → done listed e.on = true) → closed ops listed → I listed a w →
      ∀ K : Act → World → Prop, (∀ a' w', I (listed.setIfInBounds i true) a' w' → K a' w') →
        if Region.wanted o (yielded ops a.tmps) = true then Oper.wpIn F n P o a w K Q else (∀ f, o.about P w a.eval = some f → F.fn f) ∧ K (a.put o.dst undef) w) :
    (Code.region id ops true).wpIn F n P Q a w := by
  refine wpIn_region_any hm (wpAnyIn_inv hac I hend hstep _ _ _ _ (by simp) ?_ (fun j o _ hj => ?_) h0)
  · unfold toCome
    refine Nat.le_trans List.countP_le_length (by simp)
  · exfalso
    unfold done at hj
    simp only [Array.getD_eq_getD_getElem?, Array.getElem?_replicate] at hj
    split at hj <;> simp at hj

end

end Go.Proofs.Ytojjkjfcbfoinaa
