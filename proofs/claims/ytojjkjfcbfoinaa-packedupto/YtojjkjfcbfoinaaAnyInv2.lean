/- A region that draws its order, by an invariant over which of its operations have been carried out: without a fence. Over any program. -/
import Derived.Test.YtojjkjfcbfoinaaAnyInv
import Derived.Orders
import Derived.Deep.RegionHeld
namespace Go.Proofs.Ytojjkjfcbfoinaa
open Go.RowKit

section
variable {P : Program} {ops : Array Oper} {Q : Exit → Act → World → Prop}

theorem wpAny_inv (hac : acyc ops = true) (I : Array Bool → Act → World → Prop)
    (hend : ∀ listed a w, (∀ i, i < ops.size → done listed i = true) → I listed a w → Q .normal a w)
    (hstep : ∀ (listed : Array Bool) (a : Act) (w : World) (i : Nat) (o : Oper), ops[i]? = some o → i < listed.size → done listed i = false → (∀ e ∈ o.after, Region.binds .any e = true → done listed e.on = true) → closed ops listed → I listed a w →
      ∀ K : Act → World → Prop, (∀ a' w', I (listed.setIfInBounds i true) a' w' → K a' w') →
        if Region.wanted o (yielded ops a.tmps) = true then Oper.wp P o a w K Q else K (a.put o.dst undef) w) :
    ∀ (fuel : Nat) (listed : Array Bool) (a : Act) (w : World), listed.size = ops.size → toCome listed ≤ fuel → closed ops listed → I listed a w → wpAny P .any ops Q fuel listed a w := by
  intro fuel
  induction fuel with
  | zero =>
    intro listed a w hsz hc hcl hI
    have hr : Region.ready .any ops listed = [] := by
      cases hr : Region.ready .any ops listed with
      | nil => rfl
      | cons i rs =>
        obtain ⟨o, _, hl, hd, _⟩ := ready_mem hsz (by rw [hr]; exact List.mem_cons_self)
        have := toCome_set hl hd
        omega
    exact ⟨hr, hend listed a w (all_done hac hsz hr) hI⟩
  | succ fuel ih =>
    intro listed a w hsz hc hcl hI
    refine ⟨fun hr => hend listed a w (all_done hac hsz hr) hI, fun i hi => ?_⟩
    obtain ⟨o, ho, hl, hd, hdep⟩ := ready_mem hsz hi
    refine wpOp_step ho (fun K hK => hstep listed a w i o ho hl hd hdep hcl hI K (fun a' w' hI' => hK a' w' (ih _ a' w' (by simpa using hsz) ?_ (closed_set ho hl hdep hcl) hI')))
    have := toCome_set hl hd
    omega

theorem wp_region_inv {id : Nat} {a : Act} {w : World} (hm : P.follows .mixedOrders = true) (hac : acyc ops = true) (I : Array Bool → Act → World → Prop)
    (h0 : I (Array.replicate ops.size false) a w.drew)
    (hend : ∀ listed a w, (∀ i, i < ops.size → done listed i = true) → I listed a w → Q .normal a w)
    (hstep : ∀ (listed : Array Bool) (a : Act) (w : World) (i : Nat) (o : Oper), ops[i]? = some o → i < listed.size → done listed i = false → (∀ e ∈ o.after, Region.binds .any e = true → done listed e.on = true) → closed ops listed → I listed a w →
      ∀ K : Act → World → Prop, (∀ a' w', I (listed.setIfInBounds i true) a' w' → K a' w') →
        if Region.wanted o (yielded ops a.tmps) = true then Oper.wp P o a w K Q else K (a.put o.dst undef) w) :
    (Code.region id ops true).wp P Q a w := by
  refine wp_region_any hm (wpAny_inv hac I hend hstep _ _ _ _ (by simp) ?_ (fun j o _ hj => ?_) h0)
  · unfold toCome
    refine Nat.le_trans List.countP_le_length (by simp)
  · exfalso
    unfold done at hj
    simp only [Array.getD_eq_getD_getElem?, Array.getElem?_replicate] at hj
    split at hj <;> simp at hj

end

end Go.Proofs.Ytojjkjfcbfoinaa
