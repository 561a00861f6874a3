/- The library's merge in place, where one stretch is one point. -/
import Derived.Test.YtojjkjfcbfoinaaSortC
import Derived.Test.YtojjkjfcbfoinaaPure5
namespace Go.Proofs.Ytojjkjfcbfoinaa
open Go.RowKit
open Silo (ptAt sw rot)
attribute [local go_sem] Oper.semAt_some

structure MgUpC (W : World) (g N cap a hf : Nat) (ps : List Silo.Pt) (listed : Array Bool) (u40 u41 u42 u43 u44 u45 u46 u47 u48 u49 u50 : Value) (w' : World) : Prop where
  e0 : done listed 0 = true → u40 = .func (.func 56) #[] #[]
  e1 : done listed 1 = true → u41 = .slice (some ⟨g, 0, none⟩) N cap
  e2 : done listed 2 = true → u42 = .int .i64 (hf : Nat)
  e3 : done listed 3 = true → u43 = .pointer (some ⟨g, hf * 2, none⟩)
  e4 : done listed 4 = true → u44 = .agg #[.int .i64 (ptAt ps hf).t, .int .u64 ((ptAt ps hf).v : Nat)]
  e5 : done listed 5 = true → u45 = .slice (some ⟨g, 0, none⟩) N cap
  e6 : done listed 6 = true → u46 = .int .i64 (a : Nat)
  e7 : done listed 7 = true → u47 = .pointer (some ⟨g, a * 2, none⟩)
  e8 : done listed 8 = true → u48 = .agg #[.int .i64 (ptAt ps a).t, .int .u64 ((ptAt ps a).v : Nat)]
  e9 : done listed 9 = true → u49 = .int .i64 (cmpI (ptAt ps hf).t (ptAt ps a).t)
  e10 : done listed 10 = true → u50 = .bool (decide (cmpI (ptAt ps hf).t (ptAt ps a).t < 0))
  x0 : done listed 9 = false → w' = W.drew
  x1 : done listed 9 = true → Fp (fun _ => False) W w'

section
variable {W : World} {g N cap a hf : Nat} {ps : List Silo.Pt} {listed : Array Bool} {u40 u41 u42 u43 u44 u45 u46 u47 u48 u49 u50 : Value} {w' : World}

theorem MgUpC.start {k : Nat} (h : w' = W.drew) : MgUpC W g N cap a hf ps (Array.replicate k false) u40 u41 u42 u43 u44 u45 u46 u47 u48 u49 u50 w' := by
  constructor <;> first | exact h | (intro d; first | exact h | (rw [done_rep] at d; cases d))

theorem MgUpC.s0 (h : MgUpC W g N cap a hf ps listed u40 u41 u42 u43 u44 u45 u46 u47 u48 u49 u50 w') : MgUpC W g N cap a hf ps (listed.setIfInBounds 0 true) (.func (.func 56) #[] #[]) u41 u42 u43 u44 u45 u46 u47 u48 u49 u50 w' :=
  ⟨fun _ => rfl, fun d => h.e1 (done_of_set d (by decide)), fun d => h.e2 (done_of_set d (by decide)), fun d => h.e3 (done_of_set d (by decide)), fun d => h.e4 (done_of_set d (by decide)), fun d => h.e5 (done_of_set d (by decide)), fun d => h.e6 (done_of_set d (by decide)), fun d => h.e7 (done_of_set d (by decide)), fun d => h.e8 (done_of_set d (by decide)), fun d => h.e9 (done_of_set d (by decide)), fun d => h.e10 (done_of_set d (by decide)), fun d => h.x0 (undone_of_set d), fun d => h.x1 (done_of_set d (by decide))⟩

theorem MgUpC.s1 (h : MgUpC W g N cap a hf ps listed u40 u41 u42 u43 u44 u45 u46 u47 u48 u49 u50 w') : MgUpC W g N cap a hf ps (listed.setIfInBounds 1 true) u40 (.slice (some ⟨g, 0, none⟩) N cap) u42 u43 u44 u45 u46 u47 u48 u49 u50 w' :=
  ⟨fun d => h.e0 (done_of_set d (by decide)), fun _ => rfl, fun d => h.e2 (done_of_set d (by decide)), fun d => h.e3 (done_of_set d (by decide)), fun d => h.e4 (done_of_set d (by decide)), fun d => h.e5 (done_of_set d (by decide)), fun d => h.e6 (done_of_set d (by decide)), fun d => h.e7 (done_of_set d (by decide)), fun d => h.e8 (done_of_set d (by decide)), fun d => h.e9 (done_of_set d (by decide)), fun d => h.e10 (done_of_set d (by decide)), fun d => h.x0 (undone_of_set d), fun d => h.x1 (done_of_set d (by decide))⟩

theorem MgUpC.s2 (h : MgUpC W g N cap a hf ps listed u40 u41 u42 u43 u44 u45 u46 u47 u48 u49 u50 w') : MgUpC W g N cap a hf ps (listed.setIfInBounds 2 true) u40 u41 (.int .i64 (hf : Nat)) u43 u44 u45 u46 u47 u48 u49 u50 w' :=
  ⟨fun d => h.e0 (done_of_set d (by decide)), fun d => h.e1 (done_of_set d (by decide)), fun _ => rfl, fun d => h.e3 (done_of_set d (by decide)), fun d => h.e4 (done_of_set d (by decide)), fun d => h.e5 (done_of_set d (by decide)), fun d => h.e6 (done_of_set d (by decide)), fun d => h.e7 (done_of_set d (by decide)), fun d => h.e8 (done_of_set d (by decide)), fun d => h.e9 (done_of_set d (by decide)), fun d => h.e10 (done_of_set d (by decide)), fun d => h.x0 (undone_of_set d), fun d => h.x1 (done_of_set d (by decide))⟩

theorem MgUpC.s3 (h : MgUpC W g N cap a hf ps listed u40 u41 u42 u43 u44 u45 u46 u47 u48 u49 u50 w') : MgUpC W g N cap a hf ps (listed.setIfInBounds 3 true) u40 u41 u42 (.pointer (some ⟨g, hf * 2, none⟩)) u44 u45 u46 u47 u48 u49 u50 w' :=
  ⟨fun d => h.e0 (done_of_set d (by decide)), fun d => h.e1 (done_of_set d (by decide)), fun d => h.e2 (done_of_set d (by decide)), fun _ => rfl, fun d => h.e4 (done_of_set d (by decide)), fun d => h.e5 (done_of_set d (by decide)), fun d => h.e6 (done_of_set d (by decide)), fun d => h.e7 (done_of_set d (by decide)), fun d => h.e8 (done_of_set d (by decide)), fun d => h.e9 (done_of_set d (by decide)), fun d => h.e10 (done_of_set d (by decide)), fun d => h.x0 (undone_of_set d), fun d => h.x1 (done_of_set d (by decide))⟩

theorem MgUpC.s4 (h : MgUpC W g N cap a hf ps listed u40 u41 u42 u43 u44 u45 u46 u47 u48 u49 u50 w') : MgUpC W g N cap a hf ps (listed.setIfInBounds 4 true) u40 u41 u42 u43 (.agg #[.int .i64 (ptAt ps hf).t, .int .u64 ((ptAt ps hf).v : Nat)]) u45 u46 u47 u48 u49 u50 w' :=
  ⟨fun d => h.e0 (done_of_set d (by decide)), fun d => h.e1 (done_of_set d (by decide)), fun d => h.e2 (done_of_set d (by decide)), fun d => h.e3 (done_of_set d (by decide)), fun _ => rfl, fun d => h.e5 (done_of_set d (by decide)), fun d => h.e6 (done_of_set d (by decide)), fun d => h.e7 (done_of_set d (by decide)), fun d => h.e8 (done_of_set d (by decide)), fun d => h.e9 (done_of_set d (by decide)), fun d => h.e10 (done_of_set d (by decide)), fun d => h.x0 (undone_of_set d), fun d => h.x1 (done_of_set d (by decide))⟩

theorem MgUpC.s5 (h : MgUpC W g N cap a hf ps listed u40 u41 u42 u43 u44 u45 u46 u47 u48 u49 u50 w') : MgUpC W g N cap a hf ps (listed.setIfInBounds 5 true) u40 u41 u42 u43 u44 (.slice (some ⟨g, 0, none⟩) N cap) u46 u47 u48 u49 u50 w' :=
  ⟨fun d => h.e0 (done_of_set d (by decide)), fun d => h.e1 (done_of_set d (by decide)), fun d => h.e2 (done_of_set d (by decide)), fun d => h.e3 (done_of_set d (by decide)), fun d => h.e4 (done_of_set d (by decide)), fun _ => rfl, fun d => h.e6 (done_of_set d (by decide)), fun d => h.e7 (done_of_set d (by decide)), fun d => h.e8 (done_of_set d (by decide)), fun d => h.e9 (done_of_set d (by decide)), fun d => h.e10 (done_of_set d (by decide)), fun d => h.x0 (undone_of_set d), fun d => h.x1 (done_of_set d (by decide))⟩

theorem MgUpC.s6 (h : MgUpC W g N cap a hf ps listed u40 u41 u42 u43 u44 u45 u46 u47 u48 u49 u50 w') : MgUpC W g N cap a hf ps (listed.setIfInBounds 6 true) u40 u41 u42 u43 u44 u45 (.int .i64 (a : Nat)) u47 u48 u49 u50 w' :=
  ⟨fun d => h.e0 (done_of_set d (by decide)), fun d => h.e1 (done_of_set d (by decide)), fun d => h.e2 (done_of_set d (by decide)), fun d => h.e3 (done_of_set d (by decide)), fun d => h.e4 (done_of_set d (by decide)), fun d => h.e5 (done_of_set d (by decide)), fun _ => rfl, fun d => h.e7 (done_of_set d (by decide)), fun d => h.e8 (done_of_set d (by decide)), fun d => h.e9 (done_of_set d (by decide)), fun d => h.e10 (done_of_set d (by decide)), fun d => h.x0 (undone_of_set d), fun d => h.x1 (done_of_set d (by decide))⟩

theorem MgUpC.s7 (h : MgUpC W g N cap a hf ps listed u40 u41 u42 u43 u44 u45 u46 u47 u48 u49 u50 w') : MgUpC W g N cap a hf ps (listed.setIfInBounds 7 true) u40 u41 u42 u43 u44 u45 u46 (.pointer (some ⟨g, a * 2, none⟩)) u48 u49 u50 w' :=
  ⟨fun d => h.e0 (done_of_set d (by decide)), fun d => h.e1 (done_of_set d (by decide)), fun d => h.e2 (done_of_set d (by decide)), fun d => h.e3 (done_of_set d (by decide)), fun d => h.e4 (done_of_set d (by decide)), fun d => h.e5 (done_of_set d (by decide)), fun d => h.e6 (done_of_set d (by decide)), fun _ => rfl, fun d => h.e8 (done_of_set d (by decide)), fun d => h.e9 (done_of_set d (by decide)), fun d => h.e10 (done_of_set d (by decide)), fun d => h.x0 (undone_of_set d), fun d => h.x1 (done_of_set d (by decide))⟩

theorem MgUpC.s8 (h : MgUpC W g N cap a hf ps listed u40 u41 u42 u43 u44 u45 u46 u47 u48 u49 u50 w') : MgUpC W g N cap a hf ps (listed.setIfInBounds 8 true) u40 u41 u42 u43 u44 u45 u46 u47 (.agg #[.int .i64 (ptAt ps a).t, .int .u64 ((ptAt ps a).v : Nat)]) u49 u50 w' :=
  ⟨fun d => h.e0 (done_of_set d (by decide)), fun d => h.e1 (done_of_set d (by decide)), fun d => h.e2 (done_of_set d (by decide)), fun d => h.e3 (done_of_set d (by decide)), fun d => h.e4 (done_of_set d (by decide)), fun d => h.e5 (done_of_set d (by decide)), fun d => h.e6 (done_of_set d (by decide)), fun d => h.e7 (done_of_set d (by decide)), fun _ => rfl, fun d => h.e9 (done_of_set d (by decide)), fun d => h.e10 (done_of_set d (by decide)), fun d => h.x0 (undone_of_set d), fun d => h.x1 (done_of_set d (by decide))⟩

theorem MgUpC.s9 {w2 : World} (h : MgUpC W g N cap a hf ps listed u40 u41 u42 u43 u44 u45 u46 u47 u48 u49 u50 w') (hi : 9 < listed.size) (hS : Fp (fun _ => False) W w2) : MgUpC W g N cap a hf ps (listed.setIfInBounds 9 true) u40 u41 u42 u43 u44 u45 u46 u47 u48 (.int .i64 (cmpI (ptAt ps hf).t (ptAt ps a).t)) u50 w2 :=
  ⟨fun d => h.e0 (done_of_set d (by decide)), fun d => h.e1 (done_of_set d (by decide)), fun d => h.e2 (done_of_set d (by decide)), fun d => h.e3 (done_of_set d (by decide)), fun d => h.e4 (done_of_set d (by decide)), fun d => h.e5 (done_of_set d (by decide)), fun d => h.e6 (done_of_set d (by decide)), fun d => h.e7 (done_of_set d (by decide)), fun d => h.e8 (done_of_set d (by decide)), fun _ => rfl, fun d => h.e10 (done_of_set d (by decide)), fun D => absurd D (by rw [done_set_same hi]; decide), fun _ => hS⟩

theorem MgUpC.s10 (h : MgUpC W g N cap a hf ps listed u40 u41 u42 u43 u44 u45 u46 u47 u48 u49 u50 w') : MgUpC W g N cap a hf ps (listed.setIfInBounds 10 true) u40 u41 u42 u43 u44 u45 u46 u47 u48 u49 (.bool (decide (cmpI (ptAt ps hf).t (ptAt ps a).t < 0))) w' :=
  ⟨fun d => h.e0 (done_of_set d (by decide)), fun d => h.e1 (done_of_set d (by decide)), fun d => h.e2 (done_of_set d (by decide)), fun d => h.e3 (done_of_set d (by decide)), fun d => h.e4 (done_of_set d (by decide)), fun d => h.e5 (done_of_set d (by decide)), fun d => h.e6 (done_of_set d (by decide)), fun d => h.e7 (done_of_set d (by decide)), fun d => h.e8 (done_of_set d (by decide)), fun d => h.e9 (done_of_set d (by decide)), fun _ => rfl, fun d => h.x0 (undone_of_set d), fun d => h.x1 (done_of_set d (by decide))⟩

end

structure MgUpS (W : World) (g N cap kk q : Nat) (qs : List Silo.Pt) (tail : List Value) (listed : Array Bool) (u61 u62 u63 u64 u65 u66 u67 u68 u69 u70 u71 u72 u73 u74 u75 u76 : Value) (w' : World) : Prop where
  e0 : done listed 0 = true → u61 = .slice (some ⟨g, 0, none⟩) N cap
  e1 : done listed 1 = true → u62 = .int .i64 (kk : Nat)
  e2 : done listed 2 = true → u63 = .slice (some ⟨g, 0, none⟩) N cap
  e3 : done listed 3 = true → u64 = .int .i64 (kk : Nat)
  e4 : done listed 4 = true → u65 = .int .i64 (q : Nat)
  e5 : done listed 5 = true → u66 = .slice (some ⟨g, 0, none⟩) N cap
  e6 : done listed 6 = true → u67 = .int .i64 (kk : Nat)
  e7 : done listed 7 = true → u68 = .int .i64 (q : Nat)
  e8 : done listed 8 = true → u69 = .pointer (some ⟨g, q * 2, none⟩)
  e9 : done listed 9 = true → u70 = .agg #[.int .i64 (ptAt qs q).t, .int .u64 ((ptAt qs q).v : Nat)]
  e10 : done listed 10 = true → u71 = .slice (some ⟨g, 0, none⟩) N cap
  e11 : done listed 11 = true → u72 = .int .i64 (kk : Nat)
  e12 : done listed 12 = true → u73 = .pointer (some ⟨g, kk * 2, none⟩)
  e13 : done listed 13 = true → u74 = .agg #[.int .i64 (ptAt qs kk).t, .int .u64 ((ptAt qs kk).v : Nat)]
  e14 : done listed 14 = true → u75 = .pointer (some ⟨g, kk * 2, none⟩)
  e16 : done listed 16 = true → u76 = .pointer (some ⟨g, q * 2, none⟩)
  x0 : done listed 15 = false → w' = W.drew
  x1 : done listed 15 = true → done listed 17 = false → PB w' g (qs.set kk (ptAt qs q)) tail ∧ Fp (fun k => k = g) W w'
  x2 : done listed 17 = true → PB w' g ((qs.set kk (ptAt qs q)).set q (ptAt qs kk)) tail ∧ Fp (fun k => k = g) W w'

section
variable {W : World} {g N cap kk q : Nat} {qs : List Silo.Pt} {tail : List Value} {listed : Array Bool} {u61 u62 u63 u64 u65 u66 u67 u68 u69 u70 u71 u72 u73 u74 u75 u76 : Value} {w' : World}

theorem MgUpS.start {k : Nat} (h : w' = W.drew) : MgUpS W g N cap kk q qs tail (Array.replicate k false) u61 u62 u63 u64 u65 u66 u67 u68 u69 u70 u71 u72 u73 u74 u75 u76 w' := by
  constructor <;> first | exact h | (intro d; first | exact h | (rw [done_rep] at d; cases d))

theorem MgUpS.s0 (h : MgUpS W g N cap kk q qs tail listed u61 u62 u63 u64 u65 u66 u67 u68 u69 u70 u71 u72 u73 u74 u75 u76 w') : MgUpS W g N cap kk q qs tail (listed.setIfInBounds 0 true) (.slice (some ⟨g, 0, none⟩) N cap) u62 u63 u64 u65 u66 u67 u68 u69 u70 u71 u72 u73 u74 u75 u76 w' :=
  ⟨fun _ => rfl, fun d => h.e1 (done_of_set d (by decide)), fun d => h.e2 (done_of_set d (by decide)), fun d => h.e3 (done_of_set d (by decide)), fun d => h.e4 (done_of_set d (by decide)), fun d => h.e5 (done_of_set d (by decide)), fun d => h.e6 (done_of_set d (by decide)), fun d => h.e7 (done_of_set d (by decide)), fun d => h.e8 (done_of_set d (by decide)), fun d => h.e9 (done_of_set d (by decide)), fun d => h.e10 (done_of_set d (by decide)), fun d => h.e11 (done_of_set d (by decide)), fun d => h.e12 (done_of_set d (by decide)), fun d => h.e13 (done_of_set d (by decide)), fun d => h.e14 (done_of_set d (by decide)), fun d => h.e16 (done_of_set d (by decide)), fun d => h.x0 (undone_of_set d), fun d d' => h.x1 (done_of_set d (by decide)) (undone_of_set d'), fun d => h.x2 (done_of_set d (by decide))⟩

theorem MgUpS.s1 (h : MgUpS W g N cap kk q qs tail listed u61 u62 u63 u64 u65 u66 u67 u68 u69 u70 u71 u72 u73 u74 u75 u76 w') : MgUpS W g N cap kk q qs tail (listed.setIfInBounds 1 true) u61 (.int .i64 (kk : Nat)) u63 u64 u65 u66 u67 u68 u69 u70 u71 u72 u73 u74 u75 u76 w' :=
  ⟨fun d => h.e0 (done_of_set d (by decide)), fun _ => rfl, fun d => h.e2 (done_of_set d (by decide)), fun d => h.e3 (done_of_set d (by decide)), fun d => h.e4 (done_of_set d (by decide)), fun d => h.e5 (done_of_set d (by decide)), fun d => h.e6 (done_of_set d (by decide)), fun d => h.e7 (done_of_set d (by decide)), fun d => h.e8 (done_of_set d (by decide)), fun d => h.e9 (done_of_set d (by decide)), fun d => h.e10 (done_of_set d (by decide)), fun d => h.e11 (done_of_set d (by decide)), fun d => h.e12 (done_of_set d (by decide)), fun d => h.e13 (done_of_set d (by decide)), fun d => h.e14 (done_of_set d (by decide)), fun d => h.e16 (done_of_set d (by decide)), fun d => h.x0 (undone_of_set d), fun d d' => h.x1 (done_of_set d (by decide)) (undone_of_set d'), fun d => h.x2 (done_of_set d (by decide))⟩

theorem MgUpS.s2 (h : MgUpS W g N cap kk q qs tail listed u61 u62 u63 u64 u65 u66 u67 u68 u69 u70 u71 u72 u73 u74 u75 u76 w') : MgUpS W g N cap kk q qs tail (listed.setIfInBounds 2 true) u61 u62 (.slice (some ⟨g, 0, none⟩) N cap) u64 u65 u66 u67 u68 u69 u70 u71 u72 u73 u74 u75 u76 w' :=
  ⟨fun d => h.e0 (done_of_set d (by decide)), fun d => h.e1 (done_of_set d (by decide)), fun _ => rfl, fun d => h.e3 (done_of_set d (by decide)), fun d => h.e4 (done_of_set d (by decide)), fun d => h.e5 (done_of_set d (by decide)), fun d => h.e6 (done_of_set d (by decide)), fun d => h.e7 (done_of_set d (by decide)), fun d => h.e8 (done_of_set d (by decide)), fun d => h.e9 (done_of_set d (by decide)), fun d => h.e10 (done_of_set d (by decide)), fun d => h.e11 (done_of_set d (by decide)), fun d => h.e12 (done_of_set d (by decide)), fun d => h.e13 (done_of_set d (by decide)), fun d => h.e14 (done_of_set d (by decide)), fun d => h.e16 (done_of_set d (by decide)), fun d => h.x0 (undone_of_set d), fun d d' => h.x1 (done_of_set d (by decide)) (undone_of_set d'), fun d => h.x2 (done_of_set d (by decide))⟩

theorem MgUpS.s3 (h : MgUpS W g N cap kk q qs tail listed u61 u62 u63 u64 u65 u66 u67 u68 u69 u70 u71 u72 u73 u74 u75 u76 w') : MgUpS W g N cap kk q qs tail (listed.setIfInBounds 3 true) u61 u62 u63 (.int .i64 (kk : Nat)) u65 u66 u67 u68 u69 u70 u71 u72 u73 u74 u75 u76 w' :=
  ⟨fun d => h.e0 (done_of_set d (by decide)), fun d => h.e1 (done_of_set d (by decide)), fun d => h.e2 (done_of_set d (by decide)), fun _ => rfl, fun d => h.e4 (done_of_set d (by decide)), fun d => h.e5 (done_of_set d (by decide)), fun d => h.e6 (done_of_set d (by decide)), fun d => h.e7 (done_of_set d (by decide)), fun d => h.e8 (done_of_set d (by decide)), fun d => h.e9 (done_of_set d (by decide)), fun d => h.e10 (done_of_set d (by decide)), fun d => h.e11 (done_of_set d (by decide)), fun d => h.e12 (done_of_set d (by decide)), fun d => h.e13 (done_of_set d (by decide)), fun d => h.e14 (done_of_set d (by decide)), fun d => h.e16 (done_of_set d (by decide)), fun d => h.x0 (undone_of_set d), fun d d' => h.x1 (done_of_set d (by decide)) (undone_of_set d'), fun d => h.x2 (done_of_set d (by decide))⟩

theorem MgUpS.s4 (h : MgUpS W g N cap kk q qs tail listed u61 u62 u63 u64 u65 u66 u67 u68 u69 u70 u71 u72 u73 u74 u75 u76 w') : MgUpS W g N cap kk q qs tail (listed.setIfInBounds 4 true) u61 u62 u63 u64 (.int .i64 (q : Nat)) u66 u67 u68 u69 u70 u71 u72 u73 u74 u75 u76 w' :=
  ⟨fun d => h.e0 (done_of_set d (by decide)), fun d => h.e1 (done_of_set d (by decide)), fun d => h.e2 (done_of_set d (by decide)), fun d => h.e3 (done_of_set d (by decide)), fun _ => rfl, fun d => h.e5 (done_of_set d (by decide)), fun d => h.e6 (done_of_set d (by decide)), fun d => h.e7 (done_of_set d (by decide)), fun d => h.e8 (done_of_set d (by decide)), fun d => h.e9 (done_of_set d (by decide)), fun d => h.e10 (done_of_set d (by decide)), fun d => h.e11 (done_of_set d (by decide)), fun d => h.e12 (done_of_set d (by decide)), fun d => h.e13 (done_of_set d (by decide)), fun d => h.e14 (done_of_set d (by decide)), fun d => h.e16 (done_of_set d (by decide)), fun d => h.x0 (undone_of_set d), fun d d' => h.x1 (done_of_set d (by decide)) (undone_of_set d'), fun d => h.x2 (done_of_set d (by decide))⟩

theorem MgUpS.s5 (h : MgUpS W g N cap kk q qs tail listed u61 u62 u63 u64 u65 u66 u67 u68 u69 u70 u71 u72 u73 u74 u75 u76 w') : MgUpS W g N cap kk q qs tail (listed.setIfInBounds 5 true) u61 u62 u63 u64 u65 (.slice (some ⟨g, 0, none⟩) N cap) u67 u68 u69 u70 u71 u72 u73 u74 u75 u76 w' :=
  ⟨fun d => h.e0 (done_of_set d (by decide)), fun d => h.e1 (done_of_set d (by decide)), fun d => h.e2 (done_of_set d (by decide)), fun d => h.e3 (done_of_set d (by decide)), fun d => h.e4 (done_of_set d (by decide)), fun _ => rfl, fun d => h.e6 (done_of_set d (by decide)), fun d => h.e7 (done_of_set d (by decide)), fun d => h.e8 (done_of_set d (by decide)), fun d => h.e9 (done_of_set d (by decide)), fun d => h.e10 (done_of_set d (by decide)), fun d => h.e11 (done_of_set d (by decide)), fun d => h.e12 (done_of_set d (by decide)), fun d => h.e13 (done_of_set d (by decide)), fun d => h.e14 (done_of_set d (by decide)), fun d => h.e16 (done_of_set d (by decide)), fun d => h.x0 (undone_of_set d), fun d d' => h.x1 (done_of_set d (by decide)) (undone_of_set d'), fun d => h.x2 (done_of_set d (by decide))⟩

theorem MgUpS.s6 (h : MgUpS W g N cap kk q qs tail listed u61 u62 u63 u64 u65 u66 u67 u68 u69 u70 u71 u72 u73 u74 u75 u76 w') : MgUpS W g N cap kk q qs tail (listed.setIfInBounds 6 true) u61 u62 u63 u64 u65 u66 (.int .i64 (kk : Nat)) u68 u69 u70 u71 u72 u73 u74 u75 u76 w' :=
  ⟨fun d => h.e0 (done_of_set d (by decide)), fun d => h.e1 (done_of_set d (by decide)), fun d => h.e2 (done_of_set d (by decide)), fun d => h.e3 (done_of_set d (by decide)), fun d => h.e4 (done_of_set d (by decide)), fun d => h.e5 (done_of_set d (by decide)), fun _ => rfl, fun d => h.e7 (done_of_set d (by decide)), fun d => h.e8 (done_of_set d (by decide)), fun d => h.e9 (done_of_set d (by decide)), fun d => h.e10 (done_of_set d (by decide)), fun d => h.e11 (done_of_set d (by decide)), fun d => h.e12 (done_of_set d (by decide)), fun d => h.e13 (done_of_set d (by decide)), fun d => h.e14 (done_of_set d (by decide)), fun d => h.e16 (done_of_set d (by decide)), fun d => h.x0 (undone_of_set d), fun d d' => h.x1 (done_of_set d (by decide)) (undone_of_set d'), fun d => h.x2 (done_of_set d (by decide))⟩

theorem MgUpS.s7 (h : MgUpS W g N cap kk q qs tail listed u61 u62 u63 u64 u65 u66 u67 u68 u69 u70 u71 u72 u73 u74 u75 u76 w') : MgUpS W g N cap kk q qs tail (listed.setIfInBounds 7 true) u61 u62 u63 u64 u65 u66 u67 (.int .i64 (q : Nat)) u69 u70 u71 u72 u73 u74 u75 u76 w' :=
  ⟨fun d => h.e0 (done_of_set d (by decide)), fun d => h.e1 (done_of_set d (by decide)), fun d => h.e2 (done_of_set d (by decide)), fun d => h.e3 (done_of_set d (by decide)), fun d => h.e4 (done_of_set d (by decide)), fun d => h.e5 (done_of_set d (by decide)), fun d => h.e6 (done_of_set d (by decide)), fun _ => rfl, fun d => h.e8 (done_of_set d (by decide)), fun d => h.e9 (done_of_set d (by decide)), fun d => h.e10 (done_of_set d (by decide)), fun d => h.e11 (done_of_set d (by decide)), fun d => h.e12 (done_of_set d (by decide)), fun d => h.e13 (done_of_set d (by decide)), fun d => h.e14 (done_of_set d (by decide)), fun d => h.e16 (done_of_set d (by decide)), fun d => h.x0 (undone_of_set d), fun d d' => h.x1 (done_of_set d (by decide)) (undone_of_set d'), fun d => h.x2 (done_of_set d (by decide))⟩

theorem MgUpS.s8 (h : MgUpS W g N cap kk q qs tail listed u61 u62 u63 u64 u65 u66 u67 u68 u69 u70 u71 u72 u73 u74 u75 u76 w') : MgUpS W g N cap kk q qs tail (listed.setIfInBounds 8 true) u61 u62 u63 u64 u65 u66 u67 u68 (.pointer (some ⟨g, q * 2, none⟩)) u70 u71 u72 u73 u74 u75 u76 w' :=
  ⟨fun d => h.e0 (done_of_set d (by decide)), fun d => h.e1 (done_of_set d (by decide)), fun d => h.e2 (done_of_set d (by decide)), fun d => h.e3 (done_of_set d (by decide)), fun d => h.e4 (done_of_set d (by decide)), fun d => h.e5 (done_of_set d (by decide)), fun d => h.e6 (done_of_set d (by decide)), fun d => h.e7 (done_of_set d (by decide)), fun _ => rfl, fun d => h.e9 (done_of_set d (by decide)), fun d => h.e10 (done_of_set d (by decide)), fun d => h.e11 (done_of_set d (by decide)), fun d => h.e12 (done_of_set d (by decide)), fun d => h.e13 (done_of_set d (by decide)), fun d => h.e14 (done_of_set d (by decide)), fun d => h.e16 (done_of_set d (by decide)), fun d => h.x0 (undone_of_set d), fun d d' => h.x1 (done_of_set d (by decide)) (undone_of_set d'), fun d => h.x2 (done_of_set d (by decide))⟩

theorem MgUpS.s9 (h : MgUpS W g N cap kk q qs tail listed u61 u62 u63 u64 u65 u66 u67 u68 u69 u70 u71 u72 u73 u74 u75 u76 w') : MgUpS W g N cap kk q qs tail (listed.setIfInBounds 9 true) u61 u62 u63 u64 u65 u66 u67 u68 u69 (.agg #[.int .i64 (ptAt qs q).t, .int .u64 ((ptAt qs q).v : Nat)]) u71 u72 u73 u74 u75 u76 w' :=
  ⟨fun d => h.e0 (done_of_set d (by decide)), fun d => h.e1 (done_of_set d (by decide)), fun d => h.e2 (done_of_set d (by decide)), fun d => h.e3 (done_of_set d (by decide)), fun d => h.e4 (done_of_set d (by decide)), fun d => h.e5 (done_of_set d (by decide)), fun d => h.e6 (done_of_set d (by decide)), fun d => h.e7 (done_of_set d (by decide)), fun d => h.e8 (done_of_set d (by decide)), fun _ => rfl, fun d => h.e10 (done_of_set d (by decide)), fun d => h.e11 (done_of_set d (by decide)), fun d => h.e12 (done_of_set d (by decide)), fun d => h.e13 (done_of_set d (by decide)), fun d => h.e14 (done_of_set d (by decide)), fun d => h.e16 (done_of_set d (by decide)), fun d => h.x0 (undone_of_set d), fun d d' => h.x1 (done_of_set d (by decide)) (undone_of_set d'), fun d => h.x2 (done_of_set d (by decide))⟩

theorem MgUpS.s10 (h : MgUpS W g N cap kk q qs tail listed u61 u62 u63 u64 u65 u66 u67 u68 u69 u70 u71 u72 u73 u74 u75 u76 w') : MgUpS W g N cap kk q qs tail (listed.setIfInBounds 10 true) u61 u62 u63 u64 u65 u66 u67 u68 u69 u70 (.slice (some ⟨g, 0, none⟩) N cap) u72 u73 u74 u75 u76 w' :=
  ⟨fun d => h.e0 (done_of_set d (by decide)), fun d => h.e1 (done_of_set d (by decide)), fun d => h.e2 (done_of_set d (by decide)), fun d => h.e3 (done_of_set d (by decide)), fun d => h.e4 (done_of_set d (by decide)), fun d => h.e5 (done_of_set d (by decide)), fun d => h.e6 (done_of_set d (by decide)), fun d => h.e7 (done_of_set d (by decide)), fun d => h.e8 (done_of_set d (by decide)), fun d => h.e9 (done_of_set d (by decide)), fun _ => rfl, fun d => h.e11 (done_of_set d (by decide)), fun d => h.e12 (done_of_set d (by decide)), fun d => h.e13 (done_of_set d (by decide)), fun d => h.e14 (done_of_set d (by decide)), fun d => h.e16 (done_of_set d (by decide)), fun d => h.x0 (undone_of_set d), fun d d' => h.x1 (done_of_set d (by decide)) (undone_of_set d'), fun d => h.x2 (done_of_set d (by decide))⟩

theorem MgUpS.s11 (h : MgUpS W g N cap kk q qs tail listed u61 u62 u63 u64 u65 u66 u67 u68 u69 u70 u71 u72 u73 u74 u75 u76 w') : MgUpS W g N cap kk q qs tail (listed.setIfInBounds 11 true) u61 u62 u63 u64 u65 u66 u67 u68 u69 u70 u71 (.int .i64 (kk : Nat)) u73 u74 u75 u76 w' :=
  ⟨fun d => h.e0 (done_of_set d (by decide)), fun d => h.e1 (done_of_set d (by decide)), fun d => h.e2 (done_of_set d (by decide)), fun d => h.e3 (done_of_set d (by decide)), fun d => h.e4 (done_of_set d (by decide)), fun d => h.e5 (done_of_set d (by decide)), fun d => h.e6 (done_of_set d (by decide)), fun d => h.e7 (done_of_set d (by decide)), fun d => h.e8 (done_of_set d (by decide)), fun d => h.e9 (done_of_set d (by decide)), fun d => h.e10 (done_of_set d (by decide)), fun _ => rfl, fun d => h.e12 (done_of_set d (by decide)), fun d => h.e13 (done_of_set d (by decide)), fun d => h.e14 (done_of_set d (by decide)), fun d => h.e16 (done_of_set d (by decide)), fun d => h.x0 (undone_of_set d), fun d d' => h.x1 (done_of_set d (by decide)) (undone_of_set d'), fun d => h.x2 (done_of_set d (by decide))⟩

theorem MgUpS.s12 (h : MgUpS W g N cap kk q qs tail listed u61 u62 u63 u64 u65 u66 u67 u68 u69 u70 u71 u72 u73 u74 u75 u76 w') : MgUpS W g N cap kk q qs tail (listed.setIfInBounds 12 true) u61 u62 u63 u64 u65 u66 u67 u68 u69 u70 u71 u72 (.pointer (some ⟨g, kk * 2, none⟩)) u74 u75 u76 w' :=
  ⟨fun d => h.e0 (done_of_set d (by decide)), fun d => h.e1 (done_of_set d (by decide)), fun d => h.e2 (done_of_set d (by decide)), fun d => h.e3 (done_of_set d (by decide)), fun d => h.e4 (done_of_set d (by decide)), fun d => h.e5 (done_of_set d (by decide)), fun d => h.e6 (done_of_set d (by decide)), fun d => h.e7 (done_of_set d (by decide)), fun d => h.e8 (done_of_set d (by decide)), fun d => h.e9 (done_of_set d (by decide)), fun d => h.e10 (done_of_set d (by decide)), fun d => h.e11 (done_of_set d (by decide)), fun _ => rfl, fun d => h.e13 (done_of_set d (by decide)), fun d => h.e14 (done_of_set d (by decide)), fun d => h.e16 (done_of_set d (by decide)), fun d => h.x0 (undone_of_set d), fun d d' => h.x1 (done_of_set d (by decide)) (undone_of_set d'), fun d => h.x2 (done_of_set d (by decide))⟩

theorem MgUpS.s13 (h : MgUpS W g N cap kk q qs tail listed u61 u62 u63 u64 u65 u66 u67 u68 u69 u70 u71 u72 u73 u74 u75 u76 w') : MgUpS W g N cap kk q qs tail (listed.setIfInBounds 13 true) u61 u62 u63 u64 u65 u66 u67 u68 u69 u70 u71 u72 u73 (.agg #[.int .i64 (ptAt qs kk).t, .int .u64 ((ptAt qs kk).v : Nat)]) u75 u76 w' :=
  ⟨fun d => h.e0 (done_of_set d (by decide)), fun d => h.e1 (done_of_set d (by decide)), fun d => h.e2 (done_of_set d (by decide)), fun d => h.e3 (done_of_set d (by decide)), fun d => h.e4 (done_of_set d (by decide)), fun d => h.e5 (done_of_set d (by decide)), fun d => h.e6 (done_of_set d (by decide)), fun d => h.e7 (done_of_set d (by decide)), fun d => h.e8 (done_of_set d (by decide)), fun d => h.e9 (done_of_set d (by decide)), fun d => h.e10 (done_of_set d (by decide)), fun d => h.e11 (done_of_set d (by decide)), fun d => h.e12 (done_of_set d (by decide)), fun _ => rfl, fun d => h.e14 (done_of_set d (by decide)), fun d => h.e16 (done_of_set d (by decide)), fun d => h.x0 (undone_of_set d), fun d d' => h.x1 (done_of_set d (by decide)) (undone_of_set d'), fun d => h.x2 (done_of_set d (by decide))⟩

theorem MgUpS.s14 (h : MgUpS W g N cap kk q qs tail listed u61 u62 u63 u64 u65 u66 u67 u68 u69 u70 u71 u72 u73 u74 u75 u76 w') : MgUpS W g N cap kk q qs tail (listed.setIfInBounds 14 true) u61 u62 u63 u64 u65 u66 u67 u68 u69 u70 u71 u72 u73 u74 (.pointer (some ⟨g, kk * 2, none⟩)) u76 w' :=
  ⟨fun d => h.e0 (done_of_set d (by decide)), fun d => h.e1 (done_of_set d (by decide)), fun d => h.e2 (done_of_set d (by decide)), fun d => h.e3 (done_of_set d (by decide)), fun d => h.e4 (done_of_set d (by decide)), fun d => h.e5 (done_of_set d (by decide)), fun d => h.e6 (done_of_set d (by decide)), fun d => h.e7 (done_of_set d (by decide)), fun d => h.e8 (done_of_set d (by decide)), fun d => h.e9 (done_of_set d (by decide)), fun d => h.e10 (done_of_set d (by decide)), fun d => h.e11 (done_of_set d (by decide)), fun d => h.e12 (done_of_set d (by decide)), fun d => h.e13 (done_of_set d (by decide)), fun _ => rfl, fun d => h.e16 (done_of_set d (by decide)), fun d => h.x0 (undone_of_set d), fun d d' => h.x1 (done_of_set d (by decide)) (undone_of_set d'), fun d => h.x2 (done_of_set d (by decide))⟩

theorem MgUpS.s15 {w2 : World} (h : MgUpS W g N cap kk q qs tail listed u61 u62 u63 u64 u65 u66 u67 u68 u69 u70 u71 u72 u73 u74 u75 u76 w') (hi : 15 < listed.size) (hn : done listed 17 = false) (hS : PB w2 g (qs.set kk (ptAt qs q)) tail ∧ Fp (fun k => k = g) W w2) : MgUpS W g N cap kk q qs tail (listed.setIfInBounds 15 true) u61 u62 u63 u64 u65 u66 u67 u68 u69 u70 u71 u72 u73 u74 u75 u76 w2 :=
  ⟨fun d => h.e0 (done_of_set d (by decide)), fun d => h.e1 (done_of_set d (by decide)), fun d => h.e2 (done_of_set d (by decide)), fun d => h.e3 (done_of_set d (by decide)), fun d => h.e4 (done_of_set d (by decide)), fun d => h.e5 (done_of_set d (by decide)), fun d => h.e6 (done_of_set d (by decide)), fun d => h.e7 (done_of_set d (by decide)), fun d => h.e8 (done_of_set d (by decide)), fun d => h.e9 (done_of_set d (by decide)), fun d => h.e10 (done_of_set d (by decide)), fun d => h.e11 (done_of_set d (by decide)), fun d => h.e12 (done_of_set d (by decide)), fun d => h.e13 (done_of_set d (by decide)), fun d => h.e14 (done_of_set d (by decide)), fun d => h.e16 (done_of_set d (by decide)), fun D => absurd D (by rw [done_set_same hi]; decide), fun _ _ => hS, fun D => absurd (done_of_set D (by decide)) (by rw [hn]; decide)⟩

theorem MgUpS.s16 (h : MgUpS W g N cap kk q qs tail listed u61 u62 u63 u64 u65 u66 u67 u68 u69 u70 u71 u72 u73 u74 u75 u76 w') : MgUpS W g N cap kk q qs tail (listed.setIfInBounds 16 true) u61 u62 u63 u64 u65 u66 u67 u68 u69 u70 u71 u72 u73 u74 u75 (.pointer (some ⟨g, q * 2, none⟩)) w' :=
  ⟨fun d => h.e0 (done_of_set d (by decide)), fun d => h.e1 (done_of_set d (by decide)), fun d => h.e2 (done_of_set d (by decide)), fun d => h.e3 (done_of_set d (by decide)), fun d => h.e4 (done_of_set d (by decide)), fun d => h.e5 (done_of_set d (by decide)), fun d => h.e6 (done_of_set d (by decide)), fun d => h.e7 (done_of_set d (by decide)), fun d => h.e8 (done_of_set d (by decide)), fun d => h.e9 (done_of_set d (by decide)), fun d => h.e10 (done_of_set d (by decide)), fun d => h.e11 (done_of_set d (by decide)), fun d => h.e12 (done_of_set d (by decide)), fun d => h.e13 (done_of_set d (by decide)), fun d => h.e14 (done_of_set d (by decide)), fun _ => rfl, fun d => h.x0 (undone_of_set d), fun d d' => h.x1 (done_of_set d (by decide)) (undone_of_set d'), fun d => h.x2 (done_of_set d (by decide))⟩

theorem MgUpS.s17 {w2 : World} (h : MgUpS W g N cap kk q qs tail listed u61 u62 u63 u64 u65 u66 u67 u68 u69 u70 u71 u72 u73 u74 u75 u76 w') (hi : 17 < listed.size) (hp : done listed 15 = true) (hS : PB w2 g ((qs.set kk (ptAt qs q)).set q (ptAt qs kk)) tail ∧ Fp (fun k => k = g) W w2) : MgUpS W g N cap kk q qs tail (listed.setIfInBounds 17 true) u61 u62 u63 u64 u65 u66 u67 u68 u69 u70 u71 u72 u73 u74 u75 u76 w2 :=
  ⟨fun d => h.e0 (done_of_set d (by decide)), fun d => h.e1 (done_of_set d (by decide)), fun d => h.e2 (done_of_set d (by decide)), fun d => h.e3 (done_of_set d (by decide)), fun d => h.e4 (done_of_set d (by decide)), fun d => h.e5 (done_of_set d (by decide)), fun d => h.e6 (done_of_set d (by decide)), fun d => h.e7 (done_of_set d (by decide)), fun d => h.e8 (done_of_set d (by decide)), fun d => h.e9 (done_of_set d (by decide)), fun d => h.e10 (done_of_set d (by decide)), fun d => h.e11 (done_of_set d (by decide)), fun d => h.e12 (done_of_set d (by decide)), fun d => h.e13 (done_of_set d (by decide)), fun d => h.e14 (done_of_set d (by decide)), fun d => h.e16 (done_of_set d (by decide)), fun D => absurd (undone_of_set D) (by rw [hp]; decide), fun _ D => absurd D (by rw [done_set_same hi]; decide), fun _ => hS⟩

end

set_option maxHeartbeats 2000000 in
set_option maxRecDepth 100000 in
theorem symMerge_one (n : Nat) (hn : 5 ≤ n) (g cap a b : Nat) (ps : List Silo.Pt) (tail : List Value) (w : World) (N : Nat) (hN : ps.length = N) (h : PB w g ps tail) (hab : a + 1 < b) (hb : b ≤ N) (hl : N ≤ 1099511627776) (hs : Silo.Sorted ps (a + 1) b) :
    CallsIn Fence.wide n Try.prog 84 #[.slice (some ⟨g, 0, none⟩) N cap, .int .i64 a, .int .i64 (a + 1 : Nat), .int .i64 b, .func (.func 56) #[] #[]] w fun e w' => e = .returned (.tuple #[]) ∧
      ∃ qs, PB w' g qs tail ∧ Silo.Within ps qs a b ∧ Silo.Sorted qs a b ∧ Fp (fun k => k = g) w w' := by
  have H : Hid _ := And.intro hN (And.intro h hs)
  clear h hN hs
  obtain ⟨m, hm⟩ : ∃ m, a + 1 = m := ⟨_, rfl⟩
  rw [hm]
  have b1 : (m : Int) - (a : Int) = 1 := by omega
  have b2 : ((1 : Int) == 1) = true := by decide
  have hma : a < m := by omega
  have hmb : m < b := by omega
  have HM : Hid _ := hm
  clear hm hab
  refine callsIn_of_wp Try.func84 rfl trivial ?_ rfl
  simp only [Try.ntmps84, List.size_toArray, List.length_cons, List.length_nil, Nat.reduceAdd, Nat.reduceSub, Array.replicate_succ, Array.replicate_zero, List.push_toArray, List.append_toArray, List.nil_append, List.cons_append]
  gi_wp2_with fail
  gi_loopw [10, 11] (fun iv jv wr => ∃ i j : Nat, m ≤ i ∧ i ≤ j ∧ j ≤ b ∧ iv = .int .i64 i ∧ jv = .int .i64 j ∧ Hid (PB wr g ps tail ∧ (∀ k, m ≤ k → k < i → (ptAt ps k).t < (ptAt ps a).t) ∧ (∀ k, j ≤ k → k < b → (ptAt ps a).t ≤ (ptAt ps k).t) ∧ Fp (fun k => k = g) w wr)) (fun iv jv _ => (intOf jv).toNat - (intOf iv).toNat)
  case atStart => exact ⟨m, b, Nat.le_refl _, by omega, Nat.le_refl _, rfl, rfl, H.out.2.1, fun k h1 h2 => by omega, fun k h1 h2 => by omega, Fp.refl _ _⟩
  case round =>
    obtain ⟨i, j, hi, hij, hj, rfl, rfl, HR⟩ := hrel
    by_cases hlt : i < j
    · obtain ⟨hf, hh⟩ : ∃ hf, (i + j) / 2 = hf := ⟨_, rfl⟩
      have bh : ((i : Int) + (j : Int)) / 2 = (hf : Int) := by omega
      have h1 : i ≤ hf := by omega
      have h2 : hf < j := by omega
      clear hh
      have l0 : ps.length = N := H.out.1
      have l1 : hf < ps.length := by omega
      have l2 : a < ps.length := by omega
      have l3 : (hf : Int) < (N : Int) := by omega
      have l4 : (a : Int) < (N : Int) := by omega
      obtain ⟨c0, c1⟩ := HR.out.1.cell hf l1
      obtain ⟨c2, c3⟩ := HR.out.1.cell a l2
      clear l0
      gi_wp2_with fail
      refine wpIn_cut (fun a' w' => Fp (fun _ => False) wr w' ∧ a' = { tmps := #[.slice (some ⟨g, 0, none⟩) N cap, .int .i64 (a : Nat), .int .i64 (m : Nat), .int .i64 (b : Nat), .func (.func 56) #[] #[], undef, undef, undef, undef, undef, .int .i64 (i : Nat), .int .i64 (j : Nat), .int .i64 (hf : Nat), undef, undef, undef, undef, undef, undef, undef, undef, undef, undef, undef, undef, .int .i64 (m : Nat), .int .i64 (a : Nat), .int .i64 1, .bool true, .int .i64 (m : Nat), .int .i64 (b : Nat), .int .i64 (i : Nat), .int .i64 (j : Nat), .bool true, .int .i64 (i : Nat), .int .i64 (j : Nat), .int .i64 (i + j), .int .u64 (i + j), .int .u64 (hf : Nat), .int .i64 (hf : Nat), .func (.func 56) #[] #[], .slice (some ⟨g, 0, none⟩) N cap, .int .i64 (hf : Nat), .pointer (some ⟨g, hf * 2, none⟩), .agg #[.int .i64 (ptAt ps hf).t, .int .u64 ((ptAt ps hf).v : Nat)], .slice (some ⟨g, 0, none⟩) N cap, .int .i64 (a : Nat), .pointer (some ⟨g, a * 2, none⟩), .agg #[.int .i64 (ptAt ps a).t, .int .u64 ((ptAt ps a).v : Nat)], .int .i64 (cmpI (ptAt ps hf).t (ptAt ps a).t), .bool (decide (cmpI (ptAt ps hf).t (ptAt ps a).t < 0)), u51, u52, u53, undef, undef, undef, undef, undef, undef, undef, undef, undef, undef, undef, undef, undef, undef, undef, undef, undef, undef, undef, undef, undef, undef, undef, undef, undef, undef, undef, undef, undef, undef, undef, undef, undef, undef, undef, undef, undef, undef, undef, undef, undef, undef, undef, undef, undef, undef, undef, undef, undef, undef, undef, undef, undef, undef, undef, undef, undef, undef, undef, undef, undef, undef, undef, undef, undef, undef, undef, undef, undef, undef, undef, undef, undef, undef, undef, undef, undef, undef, undef, undef, undef, undef, undef, undef, undef, undef, undef, undef, undef, undef, undef, undef, undef, undef, undef, undef, undef, undef, undef, undef, undef, undef, undef, undef, undef, undef, undef, undef, undef, undef, undef, undef, undef, undef, undef, undef, undef, undef, undef, undef, undef, undef, undef, undef, undef, undef, undef, undef, undef, undef, undef, undef, undef, undef, undef, undef, undef, undef, undef, undef, undef, undef, undef, undef, undef, undef, undef, undef, undef, undef, undef, undef, undef, undef, undef, undef, undef, undef, undef, undef, undef, undef, undef, undef, undef, undef], defers := [] }) ?r4 ?k4
      case r4 =>
        refine wpIn_region_inv (by kernel_rfl) (by kernel_rfl) (fun listed a' w' => ∃ u40 u41 u42 u43 u44 u45 u46 u47 u48 u49 u50 : Value, a' = { tmps := #[.slice (some ⟨g, 0, none⟩) N cap, .int .i64 (a : Nat), .int .i64 (m : Nat), .int .i64 (b : Nat), .func (.func 56) #[] #[], undef, undef, undef, undef, undef, .int .i64 (i : Nat), .int .i64 (j : Nat), .int .i64 (hf : Nat), undef, undef, undef, undef, undef, undef, undef, undef, undef, undef, undef, undef, .int .i64 (m : Nat), .int .i64 (a : Nat), .int .i64 1, .bool true, .int .i64 (m : Nat), .int .i64 (b : Nat), .int .i64 (i : Nat), .int .i64 (j : Nat), .bool true, .int .i64 (i : Nat), .int .i64 (j : Nat), .int .i64 (i + j), .int .u64 (i + j), .int .u64 (hf : Nat), .int .i64 (hf : Nat), u40, u41, u42, u43, u44, u45, u46, u47, u48, u49, u50, u51, u52, u53, undef, undef, undef, undef, undef, undef, undef, undef, undef, undef, undef, undef, undef, undef, undef, undef, undef, undef, undef, undef, undef, undef, undef, undef, undef, undef, undef, undef, undef, undef, undef, undef, undef, undef, undef, undef, undef, undef, undef, undef, undef, undef, undef, undef, undef, undef, undef, undef, undef, undef, undef, undef, undef, undef, undef, undef, undef, undef, undef, undef, undef, undef, undef, undef, undef, undef, undef, undef, undef, undef, undef, undef, undef, undef, undef, undef, undef, undef, undef, undef, undef, undef, undef, undef, undef, undef, undef, undef, undef, undef, undef, undef, undef, undef, undef, undef, undef, undef, undef, undef, undef, undef, undef, undef, undef, undef, undef, undef, undef, undef, undef, undef, undef, undef, undef, undef, undef, undef, undef, undef, undef, undef, undef, undef, undef, undef, undef, undef, undef, undef, undef, undef, undef, undef, undef, undef, undef, undef, undef, undef, undef, undef, undef, undef, undef, undef, undef, undef, undef, undef, undef, undef, undef, undef, undef, undef, undef, undef, undef, undef, undef, undef, undef, undef, undef, undef], defers := [] } ∧ Hid (MgUpC wr g N cap a hf ps listed u40 u41 u42 u43 u44 u45 u46 u47 u48 u49 u50 w')) ?p0 ?pend ?pstep
        case p0 => exact ⟨_, _, _, _, _, _, _, _, _, _, _, rfl, MgUpC.start (rfl)⟩
        case pend =>
          rintro listed a' w' hall ⟨u40, u41, u42, u43, u44, u45, u46, u47, u48, u49, u50, rfl, HI⟩
          obtain rfl := HI.out.e0 (hall 0 (by decide))
          obtain rfl := HI.out.e1 (hall 1 (by decide))
          obtain rfl := HI.out.e2 (hall 2 (by decide))
          obtain rfl := HI.out.e3 (hall 3 (by decide))
          obtain rfl := HI.out.e4 (hall 4 (by decide))
          obtain rfl := HI.out.e5 (hall 5 (by decide))
          obtain rfl := HI.out.e6 (hall 6 (by decide))
          obtain rfl := HI.out.e7 (hall 7 (by decide))
          obtain rfl := HI.out.e8 (hall 8 (by decide))
          obtain rfl := HI.out.e9 (hall 9 (by decide))
          obtain rfl := HI.out.e10 (hall 10 (by decide))
          have hw := HI.out.x1 (hall 9 (by decide))
          exact ⟨hw, rfl⟩
        case pstep =>
          rintro listed a' w' i o ho hi hd hdep hcl ⟨u40, u41, u42, u43, u44, u45, u46, u47, u48, u49, u50, rfl, HI⟩ K hK
          match i, ho with
          | 0, ho =>
            cases ho
            go_simp
            refine hK _ _ ⟨_, _, _, _, _, _, _, _, _, _, _, rfl, ?_⟩
            exact HI.out.s0
          | 1, ho =>
            cases ho
            go_simp
            refine hK _ _ ⟨_, _, _, _, _, _, _, _, _, _, _, rfl, ?_⟩
            exact HI.out.s1
          | 2, ho =>
            cases ho
            go_simp
            refine hK _ _ ⟨_, _, _, _, _, _, _, _, _, _, _, rfl, ?_⟩
            exact HI.out.s2
          | 3, ho =>
            cases ho
            have d1 := hdep ⟨1, .data⟩ (by simp) rfl
            obtain rfl := HI.out.e1 d1
            have d2 := hdep ⟨2, .data⟩ (by simp) rfl
            obtain rfl := HI.out.e2 d2
            go_simp
            refine hK _ _ ⟨_, _, _, _, _, _, _, _, _, _, _, rfl, ?_⟩
            exact HI.out.s3
          | 4, ho =>
            cases ho
            have d3 := hdep ⟨3, .data⟩ (by simp) rfl
            obtain rfl := HI.out.e3 d3
            have q9 : done listed 9 = false := nd hcl (j := 9) rfl ⟨4, .data⟩ (by simp) rfl hd
            have hw := HI.out.x0 q9
            subst hw
            go_simp
            refine hK _ _ ⟨_, _, _, _, _, _, _, _, _, _, _, rfl, ?_⟩
            exact HI.out.s4
          | 5, ho =>
            cases ho
            go_simp
            refine hK _ _ ⟨_, _, _, _, _, _, _, _, _, _, _, rfl, ?_⟩
            exact HI.out.s5
          | 6, ho =>
            cases ho
            go_simp
            refine hK _ _ ⟨_, _, _, _, _, _, _, _, _, _, _, rfl, ?_⟩
            exact HI.out.s6
          | 7, ho =>
            cases ho
            have d5 := hdep ⟨5, .data⟩ (by simp) rfl
            obtain rfl := HI.out.e5 d5
            have d6 := hdep ⟨6, .data⟩ (by simp) rfl
            obtain rfl := HI.out.e6 d6
            go_simp
            refine hK _ _ ⟨_, _, _, _, _, _, _, _, _, _, _, rfl, ?_⟩
            exact HI.out.s7
          | 8, ho =>
            cases ho
            have d7 := hdep ⟨7, .data⟩ (by simp) rfl
            obtain rfl := HI.out.e7 d7
            have q9 : done listed 9 = false := nd hcl (j := 9) rfl ⟨8, .data⟩ (by simp) rfl hd
            have hw := HI.out.x0 q9
            subst hw
            go_simp
            refine hK _ _ ⟨_, _, _, _, _, _, _, _, _, _, _, rfl, ?_⟩
            exact HI.out.s8
          | 9, ho =>
            cases ho
            have d0 := hdep ⟨0, .data⟩ (by simp) rfl
            obtain rfl := HI.out.e0 d0
            have d4 := hdep ⟨4, .data⟩ (by simp) rfl
            obtain rfl := HI.out.e4 d4
            have d8 := hdep ⟨8, .data⟩ (by simp) rfl
            obtain rfl := HI.out.e8 d8
            have hw := HI.out.x0 hd
            subst hw
            go_simp
            refine ⟨trivial, fun _ => by omega, (callsIn_wide.2 (byTime_any (ptAt ps hf).t (ptAt ps a).t _ _ wr.drew)).mono ?_⟩
            rintro e w5 ⟨rfl, h5⟩
            refine hK _ _ ⟨_, _, _, _, _, _, _, _, _, _, _, rfl, ?_⟩
            exact HI.out.s9 hi ((Fp.drew _ wr).trans' h5)
          | 10, ho =>
            cases ho
            have d9 := hdep ⟨9, .data⟩ (by simp) rfl
            obtain rfl := HI.out.e9 d9
            go_simp
            refine hK _ _ ⟨_, _, _, _, _, _, _, _, _, _, _, rfl, ?_⟩
            exact HI.out.s10
      rintro a' w5 ⟨hf4, rfl⟩
      dsimp only
      have hpb5 : PB w5 g ps tail := HR.out.1.fp hf4 (fun h => h)
      have hfp5 := HR.out.2.2.2.trans hf4 (fun _ h => h) (fun _ _ h => h.elim)
      by_cases hc : (ptAt ps hf).t < (ptAt ps a).t
      · have hcc : decide (cmpI (ptAt ps hf).t (ptAt ps a).t < 0) = true := by rw [decide_eq_true_eq, cmpI_lt]; exact hc
        rw [hcc]
        have HC : Hid _ := And.intro hc (And.intro hpb5 hfp5)
        clear hc hcc hf4 hpb5 hfp5 c0 c1 c2 c3 bh
        gi_wp2
        go_roundw
        case rel =>
          refine ⟨hf + 1, j, by omega, by omega, hj, by go_num, rfl, HC.out.2.1, fun k g1 g2 => ?_, HR.out.2.2.1, HC.out.2.2⟩
          have := H.out.2.2.le (i := k) (j := hf) (by have := HM.out; omega) (by omega) (by omega)
          have := HC.out.1
          omega
        case measure => simp [intOf]; omega
      · have hcc : decide (cmpI (ptAt ps hf).t (ptAt ps a).t < 0) = false := by rw [decide_eq_false_iff_not, cmpI_lt]; exact hc
        rw [hcc]
        have HC : Hid _ := And.intro hc (And.intro hpb5 hfp5)
        clear hc hcc hf4 hpb5 hfp5 c0 c1 c2 c3 bh
        gi_wp2
        go_roundw
        case rel =>
          refine ⟨i, hf, hi, by omega, by omega, rfl, rfl, HC.out.2.1, HR.out.2.1, fun k g1 g2 => ?_, HC.out.2.2⟩
          have := H.out.2.2.le (i := hf) (j := k) (by have := HM.out; omega) (by omega) (by omega)
          have := HC.out.1
          omega
        case measure => simp [intOf]; omega
    · obtain rfl : i = j := by omega
      obtain ⟨i1, hi1⟩ : ∃ i1, i = i1 + 1 := ⟨i - 1, by omega⟩
      have bi : (i : Int) - 1 = (i1 : Int) := by omega
      have bj : a ≤ i1 := by omega
      have HI1 : Hid _ := hi1
      have hi2 : i1 < b := by omega
      clear hi1
      gi_wp2_with fail
      gi_loopw [13] (fun kv wq => ∃ k : Nat, a ≤ k ∧ k ≤ i1 ∧ kv = .int .i64 k ∧ Hid (∃ qs, PB wq g qs tail ∧ Silo.Up ps qs a k b ∧ Fp (fun k => k = g) w wq)) (fun kv _ => i1 - (intOf kv).toNat)
      case atStart => exact ⟨a, Nat.le_refl _, bj, rfl, ps, HR.out.1, Silo.Up.start _ _ _, HR.out.2.2.2⟩
      case round =>
        obtain ⟨kk, hk1, hk2, rfl, HQ⟩ := hrel
        by_cases hkl : kk < i1
        · obtain ⟨qs, hpb, hup, hfp⟩ := HQ.out
          obtain ⟨q, hq⟩ : ∃ q, kk + 1 = q := ⟨_, rfl⟩
          have hql : qs.length = N := by rw [hup.wi.len]; exact H.out.1
          have l1 : kk < qs.length := by omega
          have l2 : q < qs.length := by omega
          have b3 : (kk : Int) + 1 = (q : Int) := by omega
          have b4 : (q : Int) < (N : Int) := by omega
          have b5 : (kk : Int) < (N : Int) := by omega
          have b6 : IntKind.i64.wrap (q : Int) = (q : Int) := by rw [IntKind.wrap_i64]; omega
          obtain ⟨c0, c1⟩ := hpb.cell kk l1
          obtain ⟨c2, c3⟩ := hpb.cell q l2
          have hfz := hpb.frozen
          have HB : Hid (PB wr g qs tail) := hpb
          have HP : Hid _ := And.intro hup (And.intro hfp hq)
          clear hpb hup hfp hq hql HQ
          gi_wp2_with fail
          refine wpIn_cutQ (fun a' w' => (PB w' g ((qs.set kk (ptAt qs q)).set q (ptAt qs kk)) tail ∧ Fp (fun k => k = g) wr w') ∧ a' = { tmps := #[.slice (some ⟨g, 0, none⟩) N cap, .int .i64 (a : Nat), .int .i64 (m : Nat), .int .i64 (b : Nat), .func (.func 56) #[] #[], undef, undef, undef, undef, undef, .int .i64 (i : Nat), .int .i64 (i : Nat), u12, .int .i64 (kk : Nat), undef, undef, undef, undef, undef, undef, undef, undef, undef, undef, undef, .int .i64 (m : Nat), .int .i64 (a : Nat), .int .i64 1, .bool true, .int .i64 (m : Nat), .int .i64 (b : Nat), .int .i64 (i : Nat), .int .i64 (i : Nat), .bool false, u34, u35, u36, u37, u38, u39, u40, u41, u42, u43, u44, u45, u46, u47, u48, u49, u50, u51, u52, u53, .int .i64 (a : Nat), .int .i64 (kk : Nat), .int .i64 (i : Nat), .int .i64 (i1 : Nat), .bool true, u59, u60, .slice (some ⟨g, 0, none⟩) N cap, .int .i64 (kk : Nat), .slice (some ⟨g, 0, none⟩) N cap, .int .i64 (kk : Nat), .int .i64 (q : Nat), .slice (some ⟨g, 0, none⟩) N cap, .int .i64 (kk : Nat), .int .i64 (q : Nat), .pointer (some ⟨g, q * 2, none⟩), .agg #[.int .i64 (ptAt qs q).t, .int .u64 ((ptAt qs q).v : Nat)], .slice (some ⟨g, 0, none⟩) N cap, .int .i64 (kk : Nat), .pointer (some ⟨g, kk * 2, none⟩), .agg #[.int .i64 (ptAt qs kk).t, .int .u64 ((ptAt qs kk).v : Nat)], .pointer (some ⟨g, kk * 2, none⟩), .pointer (some ⟨g, q * 2, none⟩), undef, undef, undef, undef, undef, undef, undef, undef, undef, undef, undef, undef, undef, undef, undef, undef, undef, undef, undef, undef, undef, undef, undef, undef, undef, undef, undef, undef, undef, undef, undef, undef, undef, undef, undef, undef, undef, undef, undef, undef, undef, undef, undef, undef, undef, undef, undef, undef, undef, undef, undef, undef, undef, undef, undef, undef, undef, undef, undef, undef, undef, undef, undef, undef, undef, undef, undef, undef, undef, undef, undef, undef, undef, undef, undef, undef, undef, undef, undef, undef, undef, undef, undef, undef, undef, undef, undef, undef, undef, undef, undef, undef, undef, undef, undef, undef, undef, undef, undef, undef, undef, undef, undef, undef, undef, undef, undef, undef, undef, undef, undef, undef, undef, undef, undef, undef, undef, undef, undef, undef, undef, undef, undef, undef, undef, undef, undef, undef, undef, undef, undef, undef, undef, undef, undef, undef, undef, undef, undef, undef, undef, undef, undef], defers := [] }) ?r6 ?k6
          case r6 =>
            refine wpIn_region_inv (by kernel_rfl) (by kernel_rfl) (fun listed a' w' => ∃ u61 u62 u63 u64 u65 u66 u67 u68 u69 u70 u71 u72 u73 u74 u75 u76 : Value, a' = { tmps := #[.slice (some ⟨g, 0, none⟩) N cap, .int .i64 (a : Nat), .int .i64 (m : Nat), .int .i64 (b : Nat), .func (.func 56) #[] #[], undef, undef, undef, undef, undef, .int .i64 (i : Nat), .int .i64 (i : Nat), u12, .int .i64 (kk : Nat), undef, undef, undef, undef, undef, undef, undef, undef, undef, undef, undef, .int .i64 (m : Nat), .int .i64 (a : Nat), .int .i64 1, .bool true, .int .i64 (m : Nat), .int .i64 (b : Nat), .int .i64 (i : Nat), .int .i64 (i : Nat), .bool false, u34, u35, u36, u37, u38, u39, u40, u41, u42, u43, u44, u45, u46, u47, u48, u49, u50, u51, u52, u53, .int .i64 (a : Nat), .int .i64 (kk : Nat), .int .i64 (i : Nat), .int .i64 (i1 : Nat), .bool true, u59, u60, u61, u62, u63, u64, u65, u66, u67, u68, u69, u70, u71, u72, u73, u74, u75, u76, undef, undef, undef, undef, undef, undef, undef, undef, undef, undef, undef, undef, undef, undef, undef, undef, undef, undef, undef, undef, undef, undef, undef, undef, undef, undef, undef, undef, undef, undef, undef, undef, undef, undef, undef, undef, undef, undef, undef, undef, undef, undef, undef, undef, undef, undef, undef, undef, undef, undef, undef, undef, undef, undef, undef, undef, undef, undef, undef, undef, undef, undef, undef, undef, undef, undef, undef, undef, undef, undef, undef, undef, undef, undef, undef, undef, undef, undef, undef, undef, undef, undef, undef, undef, undef, undef, undef, undef, undef, undef, undef, undef, undef, undef, undef, undef, undef, undef, undef, undef, undef, undef, undef, undef, undef, undef, undef, undef, undef, undef, undef, undef, undef, undef, undef, undef, undef, undef, undef, undef, undef, undef, undef, undef, undef, undef, undef, undef, undef, undef, undef, undef, undef, undef, undef, undef, undef, undef, undef, undef, undef, undef, undef], defers := [] } ∧ Hid (MgUpS wr g N cap kk q qs tail listed u61 u62 u63 u64 u65 u66 u67 u68 u69 u70 u71 u72 u73 u74 u75 u76 w')) ?s0 ?send ?sstep
            case s0 => exact ⟨_, _, _, _, _, _, _, _, _, _, _, _, _, _, _, _, rfl, MgUpS.start (rfl)⟩
            case send =>
              rintro listed a' w' hall ⟨u61, u62, u63, u64, u65, u66, u67, u68, u69, u70, u71, u72, u73, u74, u75, u76, rfl, HI⟩
              obtain rfl := HI.out.e0 (hall 0 (by decide))
              obtain rfl := HI.out.e1 (hall 1 (by decide))
              obtain rfl := HI.out.e2 (hall 2 (by decide))
              obtain rfl := HI.out.e3 (hall 3 (by decide))
              obtain rfl := HI.out.e4 (hall 4 (by decide))
              obtain rfl := HI.out.e5 (hall 5 (by decide))
              obtain rfl := HI.out.e6 (hall 6 (by decide))
              obtain rfl := HI.out.e7 (hall 7 (by decide))
              obtain rfl := HI.out.e8 (hall 8 (by decide))
              obtain rfl := HI.out.e9 (hall 9 (by decide))
              obtain rfl := HI.out.e10 (hall 10 (by decide))
              obtain rfl := HI.out.e11 (hall 11 (by decide))
              obtain rfl := HI.out.e12 (hall 12 (by decide))
              obtain rfl := HI.out.e13 (hall 13 (by decide))
              obtain rfl := HI.out.e14 (hall 14 (by decide))
              obtain rfl := HI.out.e16 (hall 16 (by decide))
              have hw := HI.out.x2 (hall 17 (by decide))
              exact ⟨hw, rfl⟩
            case sstep =>
              rintro listed a' w' i o ho hi hd hdep hcl ⟨u61, u62, u63, u64, u65, u66, u67, u68, u69, u70, u71, u72, u73, u74, u75, u76, rfl, HI⟩ K hK
              match i, ho with
              | 0, ho =>
                cases ho
                go_simp
                refine hK _ _ ⟨_, _, _, _, _, _, _, _, _, _, _, _, _, _, _, _, rfl, ?_⟩
                exact HI.out.s0
              | 1, ho =>
                cases ho
                go_simp
                refine hK _ _ ⟨_, _, _, _, _, _, _, _, _, _, _, _, _, _, _, _, rfl, ?_⟩
                exact HI.out.s1
              | 2, ho =>
                cases ho
                go_simp
                refine hK _ _ ⟨_, _, _, _, _, _, _, _, _, _, _, _, _, _, _, _, rfl, ?_⟩
                exact HI.out.s2
              | 3, ho =>
                cases ho
                go_simp
                refine hK _ _ ⟨_, _, _, _, _, _, _, _, _, _, _, _, _, _, _, _, rfl, ?_⟩
                exact HI.out.s3
              | 4, ho =>
                cases ho
                have d3 := hdep ⟨3, .data⟩ (by simp) rfl
                obtain rfl := HI.out.e3 d3
                go_simp
                refine hK _ _ ⟨_, _, _, _, _, _, _, _, _, _, _, _, _, _, _, _, rfl, ?_⟩
                exact HI.out.s4
              | 5, ho =>
                cases ho
                go_simp
                refine hK _ _ ⟨_, _, _, _, _, _, _, _, _, _, _, _, _, _, _, _, rfl, ?_⟩
                exact HI.out.s5
              | 6, ho =>
                cases ho
                go_simp
                refine hK _ _ ⟨_, _, _, _, _, _, _, _, _, _, _, _, _, _, _, _, rfl, ?_⟩
                exact HI.out.s6
              | 7, ho =>
                cases ho
                have d6 := hdep ⟨6, .data⟩ (by simp) rfl
                obtain rfl := HI.out.e6 d6
                go_simp
                refine hK _ _ ⟨_, _, _, _, _, _, _, _, _, _, _, _, _, _, _, _, rfl, ?_⟩
                exact HI.out.s7
              | 8, ho =>
                cases ho
                have d5 := hdep ⟨5, .data⟩ (by simp) rfl
                obtain rfl := HI.out.e5 d5
                have d7 := hdep ⟨7, .data⟩ (by simp) rfl
                obtain rfl := HI.out.e7 d7
                go_simp
                refine hK _ _ ⟨_, _, _, _, _, _, _, _, _, _, _, _, _, _, _, _, rfl, ?_⟩
                exact HI.out.s8
              | 9, ho =>
                cases ho
                have d8 := hdep ⟨8, .data⟩ (by simp) rfl
                obtain rfl := HI.out.e8 d8
                have q15 : done listed 15 = false := nd hcl (j := 15) rfl ⟨9, .data⟩ (by simp) rfl hd
                have hw := HI.out.x0 q15
                subst hw
                go_simp
                refine hK _ _ ⟨_, _, _, _, _, _, _, _, _, _, _, _, _, _, _, _, rfl, ?_⟩
                exact HI.out.s9
              | 10, ho =>
                cases ho
                go_simp
                refine hK _ _ ⟨_, _, _, _, _, _, _, _, _, _, _, _, _, _, _, _, rfl, ?_⟩
                exact HI.out.s10
              | 11, ho =>
                cases ho
                go_simp
                refine hK _ _ ⟨_, _, _, _, _, _, _, _, _, _, _, _, _, _, _, _, rfl, ?_⟩
                exact HI.out.s11
              | 12, ho =>
                cases ho
                have d10 := hdep ⟨10, .data⟩ (by simp) rfl
                obtain rfl := HI.out.e10 d10
                have d11 := hdep ⟨11, .data⟩ (by simp) rfl
                obtain rfl := HI.out.e11 d11
                go_simp
                refine hK _ _ ⟨_, _, _, _, _, _, _, _, _, _, _, _, _, _, _, _, rfl, ?_⟩
                exact HI.out.s12
              | 13, ho =>
                cases ho
                have d12 := hdep ⟨12, .data⟩ (by simp) rfl
                obtain rfl := HI.out.e12 d12
                have q15 : done listed 15 = false := nd hcl (j := 15) rfl ⟨13, .phase⟩ (by simp) rfl hd
                have hw := HI.out.x0 q15
                subst hw
                go_simp
                refine hK _ _ ⟨_, _, _, _, _, _, _, _, _, _, _, _, _, _, _, _, rfl, ?_⟩
                exact HI.out.s13
              | 14, ho =>
                cases ho
                have d0 := hdep ⟨0, .data⟩ (by simp) rfl
                obtain rfl := HI.out.e0 d0
                have d1 := hdep ⟨1, .data⟩ (by simp) rfl
                obtain rfl := HI.out.e1 d1
                go_simp
                refine hK _ _ ⟨_, _, _, _, _, _, _, _, _, _, _, _, _, _, _, _, rfl, ?_⟩
                exact HI.out.s14
              | 15, ho =>
                cases ho
                have d14 := hdep ⟨14, .data⟩ (by simp) rfl
                obtain rfl := HI.out.e14 d14
                have d9 := hdep ⟨9, .data⟩ (by simp) rfl
                obtain rfl := HI.out.e9 d9
                have hw := HI.out.x0 hd
                have q17 : done listed 17 = false := nd hcl (j := 17) rfl ⟨15, .chain⟩ (by simp) rfl hd
                have hn := q17
                subst hw
                go_simp
                refine hK _ _ ⟨_, _, _, _, _, _, _, _, _, _, _, _, _, _, _, _, rfl, ?_⟩
                exact HI.out.s15 hi hn (⟨PB.put HB.out.drew kk (by omega) (ptAt qs q), Fp.trans' (Fp.drew _ wr) (Fp.trans' (Fp.setCell _ _ _ rfl) (Fp.setCell _ _ _ rfl))⟩)
              | 16, ho =>
                cases ho
                have d2 := hdep ⟨2, .data⟩ (by simp) rfl
                obtain rfl := HI.out.e2 d2
                have d4 := hdep ⟨4, .data⟩ (by simp) rfl
                obtain rfl := HI.out.e4 d4
                go_simp
                refine hK _ _ ⟨_, _, _, _, _, _, _, _, _, _, _, _, _, _, _, _, rfl, ?_⟩
                exact HI.out.s16
              | 17, ho =>
                cases ho
                have d16 := hdep ⟨16, .data⟩ (by simp) rfl
                obtain rfl := HI.out.e16 d16
                have d13 := hdep ⟨13, .data⟩ (by simp) rfl
                obtain rfl := HI.out.e13 d13
                have hp := hdep ⟨15, .chain⟩ (by simp) rfl
                have hw := HI.out.x1 hp hd
                have hb1 := hw.1
                have hc1 := hb1.cell q (by simp; omega)
                have hz1 := hb1.frozen
                have hc2 := hc1.1
                have hc3 := hc1.2
                go_simp
                refine hK _ _ ⟨_, _, _, _, _, _, _, _, _, _, _, _, _, _, _, _, rfl, ?_⟩
                exact HI.out.s17 hi hp (⟨PB.put hw.1 q (by simp; omega) (ptAt qs kk), Fp.trans' hw.2 (Fp.trans' (Fp.setCell _ _ _ rfl) (Fp.setCell _ _ _ rfl))⟩)
          rintro a' w6 ⟨h6, rfl⟩
          dsimp only
          have H6 : Hid _ := h6
          clear h6 c0 c1 c2 c3 hfz b6
          gi_wp2
          go_roundw
          case rel =>
            obtain ⟨hup, hfp, hq⟩ := HP.out
            subst hq
            refine ⟨kk + 1, by omega, by omega, by go_num, sw qs kk (kk + 1), H6.out.1, hup.step hk1 (by omega) (by have := H.out.1; omega) (HR.out.2.1 _ (by have := HM.out; omega) (by have := HI1.out; omega)), hfp.trans' H6.out.2⟩
          case measure => simp [intOf]; omega
        · gi_wp2
          (try simp only [Exit.inBlock, Exit.then])
          refine bodyPost_ret (results_none rfl _ _ _) rfl ?_
          obtain ⟨qs, h1, h2, h3⟩ := HQ.out
          have e1 := HM.out
          have e2 := HI1.out
          obtain rfl : kk = i1 := by omega
          subst e1
          refine ⟨rfl, qs, h1, h2.wi, ?_, h3⟩
          exact Silo.Up.stop (i := i) (by rw [e2]; exact h2) hi hj H.out.2.2 HR.out.2.1 HR.out.2.2.1

structure MgDnC (W : World) (g N cap m hf : Nat) (ps : List Silo.Pt) (listed : Array Bool) (u92 u93 u94 u95 u96 u97 u98 u99 u100 u101 u102 u103 : Value) (w' : World) : Prop where
  e0 : done listed 0 = true → u92 = .func (.func 56) #[] #[]
  e1 : done listed 1 = true → u93 = .slice (some ⟨g, 0, none⟩) N cap
  e2 : done listed 2 = true → u94 = .int .i64 (m : Nat)
  e3 : done listed 3 = true → u95 = .pointer (some ⟨g, m * 2, none⟩)
  e4 : done listed 4 = true → u96 = .agg #[.int .i64 (ptAt ps m).t, .int .u64 ((ptAt ps m).v : Nat)]
  e5 : done listed 5 = true → u97 = .slice (some ⟨g, 0, none⟩) N cap
  e6 : done listed 6 = true → u98 = .int .i64 (hf : Nat)
  e7 : done listed 7 = true → u99 = .pointer (some ⟨g, hf * 2, none⟩)
  e8 : done listed 8 = true → u100 = .agg #[.int .i64 (ptAt ps hf).t, .int .u64 ((ptAt ps hf).v : Nat)]
  e9 : done listed 9 = true → u101 = .int .i64 (cmpI (ptAt ps m).t (ptAt ps hf).t)
  e10 : done listed 10 = true → u102 = .bool (decide (cmpI (ptAt ps m).t (ptAt ps hf).t < 0))
  e11 : done listed 11 = true → u103 = .bool (!decide (cmpI (ptAt ps m).t (ptAt ps hf).t < 0))
  x0 : done listed 9 = false → w' = W.drew
  x1 : done listed 9 = true → Fp (fun _ => False) W w'

section
variable {W : World} {g N cap m hf : Nat} {ps : List Silo.Pt} {listed : Array Bool} {u92 u93 u94 u95 u96 u97 u98 u99 u100 u101 u102 u103 : Value} {w' : World}

theorem MgDnC.start {k : Nat} (h : w' = W.drew) : MgDnC W g N cap m hf ps (Array.replicate k false) u92 u93 u94 u95 u96 u97 u98 u99 u100 u101 u102 u103 w' := by
  constructor <;> first | exact h | (intro d; first | exact h | (rw [done_rep] at d; cases d))

theorem MgDnC.s0 (h : MgDnC W g N cap m hf ps listed u92 u93 u94 u95 u96 u97 u98 u99 u100 u101 u102 u103 w') : MgDnC W g N cap m hf ps (listed.setIfInBounds 0 true) (.func (.func 56) #[] #[]) u93 u94 u95 u96 u97 u98 u99 u100 u101 u102 u103 w' :=
  ⟨fun _ => rfl, fun d => h.e1 (done_of_set d (by decide)), fun d => h.e2 (done_of_set d (by decide)), fun d => h.e3 (done_of_set d (by decide)), fun d => h.e4 (done_of_set d (by decide)), fun d => h.e5 (done_of_set d (by decide)), fun d => h.e6 (done_of_set d (by decide)), fun d => h.e7 (done_of_set d (by decide)), fun d => h.e8 (done_of_set d (by decide)), fun d => h.e9 (done_of_set d (by decide)), fun d => h.e10 (done_of_set d (by decide)), fun d => h.e11 (done_of_set d (by decide)), fun d => h.x0 (undone_of_set d), fun d => h.x1 (done_of_set d (by decide))⟩

theorem MgDnC.s1 (h : MgDnC W g N cap m hf ps listed u92 u93 u94 u95 u96 u97 u98 u99 u100 u101 u102 u103 w') : MgDnC W g N cap m hf ps (listed.setIfInBounds 1 true) u92 (.slice (some ⟨g, 0, none⟩) N cap) u94 u95 u96 u97 u98 u99 u100 u101 u102 u103 w' :=
  ⟨fun d => h.e0 (done_of_set d (by decide)), fun _ => rfl, fun d => h.e2 (done_of_set d (by decide)), fun d => h.e3 (done_of_set d (by decide)), fun d => h.e4 (done_of_set d (by decide)), fun d => h.e5 (done_of_set d (by decide)), fun d => h.e6 (done_of_set d (by decide)), fun d => h.e7 (done_of_set d (by decide)), fun d => h.e8 (done_of_set d (by decide)), fun d => h.e9 (done_of_set d (by decide)), fun d => h.e10 (done_of_set d (by decide)), fun d => h.e11 (done_of_set d (by decide)), fun d => h.x0 (undone_of_set d), fun d => h.x1 (done_of_set d (by decide))⟩

theorem MgDnC.s2 (h : MgDnC W g N cap m hf ps listed u92 u93 u94 u95 u96 u97 u98 u99 u100 u101 u102 u103 w') : MgDnC W g N cap m hf ps (listed.setIfInBounds 2 true) u92 u93 (.int .i64 (m : Nat)) u95 u96 u97 u98 u99 u100 u101 u102 u103 w' :=
  ⟨fun d => h.e0 (done_of_set d (by decide)), fun d => h.e1 (done_of_set d (by decide)), fun _ => rfl, fun d => h.e3 (done_of_set d (by decide)), fun d => h.e4 (done_of_set d (by decide)), fun d => h.e5 (done_of_set d (by decide)), fun d => h.e6 (done_of_set d (by decide)), fun d => h.e7 (done_of_set d (by decide)), fun d => h.e8 (done_of_set d (by decide)), fun d => h.e9 (done_of_set d (by decide)), fun d => h.e10 (done_of_set d (by decide)), fun d => h.e11 (done_of_set d (by decide)), fun d => h.x0 (undone_of_set d), fun d => h.x1 (done_of_set d (by decide))⟩

theorem MgDnC.s3 (h : MgDnC W g N cap m hf ps listed u92 u93 u94 u95 u96 u97 u98 u99 u100 u101 u102 u103 w') : MgDnC W g N cap m hf ps (listed.setIfInBounds 3 true) u92 u93 u94 (.pointer (some ⟨g, m * 2, none⟩)) u96 u97 u98 u99 u100 u101 u102 u103 w' :=
  ⟨fun d => h.e0 (done_of_set d (by decide)), fun d => h.e1 (done_of_set d (by decide)), fun d => h.e2 (done_of_set d (by decide)), fun _ => rfl, fun d => h.e4 (done_of_set d (by decide)), fun d => h.e5 (done_of_set d (by decide)), fun d => h.e6 (done_of_set d (by decide)), fun d => h.e7 (done_of_set d (by decide)), fun d => h.e8 (done_of_set d (by decide)), fun d => h.e9 (done_of_set d (by decide)), fun d => h.e10 (done_of_set d (by decide)), fun d => h.e11 (done_of_set d (by decide)), fun d => h.x0 (undone_of_set d), fun d => h.x1 (done_of_set d (by decide))⟩

theorem MgDnC.s4 (h : MgDnC W g N cap m hf ps listed u92 u93 u94 u95 u96 u97 u98 u99 u100 u101 u102 u103 w') : MgDnC W g N cap m hf ps (listed.setIfInBounds 4 true) u92 u93 u94 u95 (.agg #[.int .i64 (ptAt ps m).t, .int .u64 ((ptAt ps m).v : Nat)]) u97 u98 u99 u100 u101 u102 u103 w' :=
  ⟨fun d => h.e0 (done_of_set d (by decide)), fun d => h.e1 (done_of_set d (by decide)), fun d => h.e2 (done_of_set d (by decide)), fun d => h.e3 (done_of_set d (by decide)), fun _ => rfl, fun d => h.e5 (done_of_set d (by decide)), fun d => h.e6 (done_of_set d (by decide)), fun d => h.e7 (done_of_set d (by decide)), fun d => h.e8 (done_of_set d (by decide)), fun d => h.e9 (done_of_set d (by decide)), fun d => h.e10 (done_of_set d (by decide)), fun d => h.e11 (done_of_set d (by decide)), fun d => h.x0 (undone_of_set d), fun d => h.x1 (done_of_set d (by decide))⟩

theorem MgDnC.s5 (h : MgDnC W g N cap m hf ps listed u92 u93 u94 u95 u96 u97 u98 u99 u100 u101 u102 u103 w') : MgDnC W g N cap m hf ps (listed.setIfInBounds 5 true) u92 u93 u94 u95 u96 (.slice (some ⟨g, 0, none⟩) N cap) u98 u99 u100 u101 u102 u103 w' :=
  ⟨fun d => h.e0 (done_of_set d (by decide)), fun d => h.e1 (done_of_set d (by decide)), fun d => h.e2 (done_of_set d (by decide)), fun d => h.e3 (done_of_set d (by decide)), fun d => h.e4 (done_of_set d (by decide)), fun _ => rfl, fun d => h.e6 (done_of_set d (by decide)), fun d => h.e7 (done_of_set d (by decide)), fun d => h.e8 (done_of_set d (by decide)), fun d => h.e9 (done_of_set d (by decide)), fun d => h.e10 (done_of_set d (by decide)), fun d => h.e11 (done_of_set d (by decide)), fun d => h.x0 (undone_of_set d), fun d => h.x1 (done_of_set d (by decide))⟩

theorem MgDnC.s6 (h : MgDnC W g N cap m hf ps listed u92 u93 u94 u95 u96 u97 u98 u99 u100 u101 u102 u103 w') : MgDnC W g N cap m hf ps (listed.setIfInBounds 6 true) u92 u93 u94 u95 u96 u97 (.int .i64 (hf : Nat)) u99 u100 u101 u102 u103 w' :=
  ⟨fun d => h.e0 (done_of_set d (by decide)), fun d => h.e1 (done_of_set d (by decide)), fun d => h.e2 (done_of_set d (by decide)), fun d => h.e3 (done_of_set d (by decide)), fun d => h.e4 (done_of_set d (by decide)), fun d => h.e5 (done_of_set d (by decide)), fun _ => rfl, fun d => h.e7 (done_of_set d (by decide)), fun d => h.e8 (done_of_set d (by decide)), fun d => h.e9 (done_of_set d (by decide)), fun d => h.e10 (done_of_set d (by decide)), fun d => h.e11 (done_of_set d (by decide)), fun d => h.x0 (undone_of_set d), fun d => h.x1 (done_of_set d (by decide))⟩

theorem MgDnC.s7 (h : MgDnC W g N cap m hf ps listed u92 u93 u94 u95 u96 u97 u98 u99 u100 u101 u102 u103 w') : MgDnC W g N cap m hf ps (listed.setIfInBounds 7 true) u92 u93 u94 u95 u96 u97 u98 (.pointer (some ⟨g, hf * 2, none⟩)) u100 u101 u102 u103 w' :=
  ⟨fun d => h.e0 (done_of_set d (by decide)), fun d => h.e1 (done_of_set d (by decide)), fun d => h.e2 (done_of_set d (by decide)), fun d => h.e3 (done_of_set d (by decide)), fun d => h.e4 (done_of_set d (by decide)), fun d => h.e5 (done_of_set d (by decide)), fun d => h.e6 (done_of_set d (by decide)), fun _ => rfl, fun d => h.e8 (done_of_set d (by decide)), fun d => h.e9 (done_of_set d (by decide)), fun d => h.e10 (done_of_set d (by decide)), fun d => h.e11 (done_of_set d (by decide)), fun d => h.x0 (undone_of_set d), fun d => h.x1 (done_of_set d (by decide))⟩

theorem MgDnC.s8 (h : MgDnC W g N cap m hf ps listed u92 u93 u94 u95 u96 u97 u98 u99 u100 u101 u102 u103 w') : MgDnC W g N cap m hf ps (listed.setIfInBounds 8 true) u92 u93 u94 u95 u96 u97 u98 u99 (.agg #[.int .i64 (ptAt ps hf).t, .int .u64 ((ptAt ps hf).v : Nat)]) u101 u102 u103 w' :=
  ⟨fun d => h.e0 (done_of_set d (by decide)), fun d => h.e1 (done_of_set d (by decide)), fun d => h.e2 (done_of_set d (by decide)), fun d => h.e3 (done_of_set d (by decide)), fun d => h.e4 (done_of_set d (by decide)), fun d => h.e5 (done_of_set d (by decide)), fun d => h.e6 (done_of_set d (by decide)), fun d => h.e7 (done_of_set d (by decide)), fun _ => rfl, fun d => h.e9 (done_of_set d (by decide)), fun d => h.e10 (done_of_set d (by decide)), fun d => h.e11 (done_of_set d (by decide)), fun d => h.x0 (undone_of_set d), fun d => h.x1 (done_of_set d (by decide))⟩

theorem MgDnC.s9 {w2 : World} (h : MgDnC W g N cap m hf ps listed u92 u93 u94 u95 u96 u97 u98 u99 u100 u101 u102 u103 w') (hi : 9 < listed.size) (hS : Fp (fun _ => False) W w2) : MgDnC W g N cap m hf ps (listed.setIfInBounds 9 true) u92 u93 u94 u95 u96 u97 u98 u99 u100 (.int .i64 (cmpI (ptAt ps m).t (ptAt ps hf).t)) u102 u103 w2 :=
  ⟨fun d => h.e0 (done_of_set d (by decide)), fun d => h.e1 (done_of_set d (by decide)), fun d => h.e2 (done_of_set d (by decide)), fun d => h.e3 (done_of_set d (by decide)), fun d => h.e4 (done_of_set d (by decide)), fun d => h.e5 (done_of_set d (by decide)), fun d => h.e6 (done_of_set d (by decide)), fun d => h.e7 (done_of_set d (by decide)), fun d => h.e8 (done_of_set d (by decide)), fun _ => rfl, fun d => h.e10 (done_of_set d (by decide)), fun d => h.e11 (done_of_set d (by decide)), fun D => absurd D (by rw [done_set_same hi]; decide), fun _ => hS⟩

theorem MgDnC.s10 (h : MgDnC W g N cap m hf ps listed u92 u93 u94 u95 u96 u97 u98 u99 u100 u101 u102 u103 w') : MgDnC W g N cap m hf ps (listed.setIfInBounds 10 true) u92 u93 u94 u95 u96 u97 u98 u99 u100 u101 (.bool (decide (cmpI (ptAt ps m).t (ptAt ps hf).t < 0))) u103 w' :=
  ⟨fun d => h.e0 (done_of_set d (by decide)), fun d => h.e1 (done_of_set d (by decide)), fun d => h.e2 (done_of_set d (by decide)), fun d => h.e3 (done_of_set d (by decide)), fun d => h.e4 (done_of_set d (by decide)), fun d => h.e5 (done_of_set d (by decide)), fun d => h.e6 (done_of_set d (by decide)), fun d => h.e7 (done_of_set d (by decide)), fun d => h.e8 (done_of_set d (by decide)), fun d => h.e9 (done_of_set d (by decide)), fun _ => rfl, fun d => h.e11 (done_of_set d (by decide)), fun d => h.x0 (undone_of_set d), fun d => h.x1 (done_of_set d (by decide))⟩

theorem MgDnC.s11 (h : MgDnC W g N cap m hf ps listed u92 u93 u94 u95 u96 u97 u98 u99 u100 u101 u102 u103 w') : MgDnC W g N cap m hf ps (listed.setIfInBounds 11 true) u92 u93 u94 u95 u96 u97 u98 u99 u100 u101 u102 (.bool (!decide (cmpI (ptAt ps m).t (ptAt ps hf).t < 0))) w' :=
  ⟨fun d => h.e0 (done_of_set d (by decide)), fun d => h.e1 (done_of_set d (by decide)), fun d => h.e2 (done_of_set d (by decide)), fun d => h.e3 (done_of_set d (by decide)), fun d => h.e4 (done_of_set d (by decide)), fun d => h.e5 (done_of_set d (by decide)), fun d => h.e6 (done_of_set d (by decide)), fun d => h.e7 (done_of_set d (by decide)), fun d => h.e8 (done_of_set d (by decide)), fun d => h.e9 (done_of_set d (by decide)), fun d => h.e10 (done_of_set d (by decide)), fun _ => rfl, fun d => h.x0 (undone_of_set d), fun d => h.x1 (done_of_set d (by decide))⟩

end

structure MgDnS (W : World) (g N cap kk q : Nat) (qs : List Silo.Pt) (tail : List Value) (listed : Array Bool) (u113 u114 u115 u116 u117 u118 u119 u120 u121 u122 u123 u124 u125 u126 u127 u128 : Value) (w' : World) : Prop where
  e0 : done listed 0 = true → u113 = .slice (some ⟨g, 0, none⟩) N cap
  e1 : done listed 1 = true → u114 = .int .i64 (kk : Nat)
  e2 : done listed 2 = true → u115 = .slice (some ⟨g, 0, none⟩) N cap
  e3 : done listed 3 = true → u116 = .int .i64 (kk : Nat)
  e4 : done listed 4 = true → u117 = .int .i64 (q : Nat)
  e5 : done listed 5 = true → u118 = .slice (some ⟨g, 0, none⟩) N cap
  e6 : done listed 6 = true → u119 = .int .i64 (kk : Nat)
  e7 : done listed 7 = true → u120 = .int .i64 (q : Nat)
  e8 : done listed 8 = true → u121 = .pointer (some ⟨g, q * 2, none⟩)
  e9 : done listed 9 = true → u122 = .agg #[.int .i64 (ptAt qs q).t, .int .u64 ((ptAt qs q).v : Nat)]
  e10 : done listed 10 = true → u123 = .slice (some ⟨g, 0, none⟩) N cap
  e11 : done listed 11 = true → u124 = .int .i64 (kk : Nat)
  e12 : done listed 12 = true → u125 = .pointer (some ⟨g, kk * 2, none⟩)
  e13 : done listed 13 = true → u126 = .agg #[.int .i64 (ptAt qs kk).t, .int .u64 ((ptAt qs kk).v : Nat)]
  e14 : done listed 14 = true → u127 = .pointer (some ⟨g, kk * 2, none⟩)
  e16 : done listed 16 = true → u128 = .pointer (some ⟨g, q * 2, none⟩)
  x0 : done listed 15 = false → w' = W.drew
  x1 : done listed 15 = true → done listed 17 = false → PB w' g (qs.set kk (ptAt qs q)) tail ∧ Fp (fun k => k = g) W w'
  x2 : done listed 17 = true → PB w' g ((qs.set kk (ptAt qs q)).set q (ptAt qs kk)) tail ∧ Fp (fun k => k = g) W w'

section
variable {W : World} {g N cap kk q : Nat} {qs : List Silo.Pt} {tail : List Value} {listed : Array Bool} {u113 u114 u115 u116 u117 u118 u119 u120 u121 u122 u123 u124 u125 u126 u127 u128 : Value} {w' : World}

theorem MgDnS.start {k : Nat} (h : w' = W.drew) : MgDnS W g N cap kk q qs tail (Array.replicate k false) u113 u114 u115 u116 u117 u118 u119 u120 u121 u122 u123 u124 u125 u126 u127 u128 w' := by
  constructor <;> first | exact h | (intro d; first | exact h | (rw [done_rep] at d; cases d))

theorem MgDnS.s0 (h : MgDnS W g N cap kk q qs tail listed u113 u114 u115 u116 u117 u118 u119 u120 u121 u122 u123 u124 u125 u126 u127 u128 w') : MgDnS W g N cap kk q qs tail (listed.setIfInBounds 0 true) (.slice (some ⟨g, 0, none⟩) N cap) u114 u115 u116 u117 u118 u119 u120 u121 u122 u123 u124 u125 u126 u127 u128 w' :=
  ⟨fun _ => rfl, fun d => h.e1 (done_of_set d (by decide)), fun d => h.e2 (done_of_set d (by decide)), fun d => h.e3 (done_of_set d (by decide)), fun d => h.e4 (done_of_set d (by decide)), fun d => h.e5 (done_of_set d (by decide)), fun d => h.e6 (done_of_set d (by decide)), fun d => h.e7 (done_of_set d (by decide)), fun d => h.e8 (done_of_set d (by decide)), fun d => h.e9 (done_of_set d (by decide)), fun d => h.e10 (done_of_set d (by decide)), fun d => h.e11 (done_of_set d (by decide)), fun d => h.e12 (done_of_set d (by decide)), fun d => h.e13 (done_of_set d (by decide)), fun d => h.e14 (done_of_set d (by decide)), fun d => h.e16 (done_of_set d (by decide)), fun d => h.x0 (undone_of_set d), fun d d' => h.x1 (done_of_set d (by decide)) (undone_of_set d'), fun d => h.x2 (done_of_set d (by decide))⟩

theorem MgDnS.s1 (h : MgDnS W g N cap kk q qs tail listed u113 u114 u115 u116 u117 u118 u119 u120 u121 u122 u123 u124 u125 u126 u127 u128 w') : MgDnS W g N cap kk q qs tail (listed.setIfInBounds 1 true) u113 (.int .i64 (kk : Nat)) u115 u116 u117 u118 u119 u120 u121 u122 u123 u124 u125 u126 u127 u128 w' :=
  ⟨fun d => h.e0 (done_of_set d (by decide)), fun _ => rfl, fun d => h.e2 (done_of_set d (by decide)), fun d => h.e3 (done_of_set d (by decide)), fun d => h.e4 (done_of_set d (by decide)), fun d => h.e5 (done_of_set d (by decide)), fun d => h.e6 (done_of_set d (by decide)), fun d => h.e7 (done_of_set d (by decide)), fun d => h.e8 (done_of_set d (by decide)), fun d => h.e9 (done_of_set d (by decide)), fun d => h.e10 (done_of_set d (by decide)), fun d => h.e11 (done_of_set d (by decide)), fun d => h.e12 (done_of_set d (by decide)), fun d => h.e13 (done_of_set d (by decide)), fun d => h.e14 (done_of_set d (by decide)), fun d => h.e16 (done_of_set d (by decide)), fun d => h.x0 (undone_of_set d), fun d d' => h.x1 (done_of_set d (by decide)) (undone_of_set d'), fun d => h.x2 (done_of_set d (by decide))⟩

theorem MgDnS.s2 (h : MgDnS W g N cap kk q qs tail listed u113 u114 u115 u116 u117 u118 u119 u120 u121 u122 u123 u124 u125 u126 u127 u128 w') : MgDnS W g N cap kk q qs tail (listed.setIfInBounds 2 true) u113 u114 (.slice (some ⟨g, 0, none⟩) N cap) u116 u117 u118 u119 u120 u121 u122 u123 u124 u125 u126 u127 u128 w' :=
  ⟨fun d => h.e0 (done_of_set d (by decide)), fun d => h.e1 (done_of_set d (by decide)), fun _ => rfl, fun d => h.e3 (done_of_set d (by decide)), fun d => h.e4 (done_of_set d (by decide)), fun d => h.e5 (done_of_set d (by decide)), fun d => h.e6 (done_of_set d (by decide)), fun d => h.e7 (done_of_set d (by decide)), fun d => h.e8 (done_of_set d (by decide)), fun d => h.e9 (done_of_set d (by decide)), fun d => h.e10 (done_of_set d (by decide)), fun d => h.e11 (done_of_set d (by decide)), fun d => h.e12 (done_of_set d (by decide)), fun d => h.e13 (done_of_set d (by decide)), fun d => h.e14 (done_of_set d (by decide)), fun d => h.e16 (done_of_set d (by decide)), fun d => h.x0 (undone_of_set d), fun d d' => h.x1 (done_of_set d (by decide)) (undone_of_set d'), fun d => h.x2 (done_of_set d (by decide))⟩

theorem MgDnS.s3 (h : MgDnS W g N cap kk q qs tail listed u113 u114 u115 u116 u117 u118 u119 u120 u121 u122 u123 u124 u125 u126 u127 u128 w') : MgDnS W g N cap kk q qs tail (listed.setIfInBounds 3 true) u113 u114 u115 (.int .i64 (kk : Nat)) u117 u118 u119 u120 u121 u122 u123 u124 u125 u126 u127 u128 w' :=
  ⟨fun d => h.e0 (done_of_set d (by decide)), fun d => h.e1 (done_of_set d (by decide)), fun d => h.e2 (done_of_set d (by decide)), fun _ => rfl, fun d => h.e4 (done_of_set d (by decide)), fun d => h.e5 (done_of_set d (by decide)), fun d => h.e6 (done_of_set d (by decide)), fun d => h.e7 (done_of_set d (by decide)), fun d => h.e8 (done_of_set d (by decide)), fun d => h.e9 (done_of_set d (by decide)), fun d => h.e10 (done_of_set d (by decide)), fun d => h.e11 (done_of_set d (by decide)), fun d => h.e12 (done_of_set d (by decide)), fun d => h.e13 (done_of_set d (by decide)), fun d => h.e14 (done_of_set d (by decide)), fun d => h.e16 (done_of_set d (by decide)), fun d => h.x0 (undone_of_set d), fun d d' => h.x1 (done_of_set d (by decide)) (undone_of_set d'), fun d => h.x2 (done_of_set d (by decide))⟩

theorem MgDnS.s4 (h : MgDnS W g N cap kk q qs tail listed u113 u114 u115 u116 u117 u118 u119 u120 u121 u122 u123 u124 u125 u126 u127 u128 w') : MgDnS W g N cap kk q qs tail (listed.setIfInBounds 4 true) u113 u114 u115 u116 (.int .i64 (q : Nat)) u118 u119 u120 u121 u122 u123 u124 u125 u126 u127 u128 w' :=
  ⟨fun d => h.e0 (done_of_set d (by decide)), fun d => h.e1 (done_of_set d (by decide)), fun d => h.e2 (done_of_set d (by decide)), fun d => h.e3 (done_of_set d (by decide)), fun _ => rfl, fun d => h.e5 (done_of_set d (by decide)), fun d => h.e6 (done_of_set d (by decide)), fun d => h.e7 (done_of_set d (by decide)), fun d => h.e8 (done_of_set d (by decide)), fun d => h.e9 (done_of_set d (by decide)), fun d => h.e10 (done_of_set d (by decide)), fun d => h.e11 (done_of_set d (by decide)), fun d => h.e12 (done_of_set d (by decide)), fun d => h.e13 (done_of_set d (by decide)), fun d => h.e14 (done_of_set d (by decide)), fun d => h.e16 (done_of_set d (by decide)), fun d => h.x0 (undone_of_set d), fun d d' => h.x1 (done_of_set d (by decide)) (undone_of_set d'), fun d => h.x2 (done_of_set d (by decide))⟩

theorem MgDnS.s5 (h : MgDnS W g N cap kk q qs tail listed u113 u114 u115 u116 u117 u118 u119 u120 u121 u122 u123 u124 u125 u126 u127 u128 w') : MgDnS W g N cap kk q qs tail (listed.setIfInBounds 5 true) u113 u114 u115 u116 u117 (.slice (some ⟨g, 0, none⟩) N cap) u119 u120 u121 u122 u123 u124 u125 u126 u127 u128 w' :=
  ⟨fun d => h.e0 (done_of_set d (by decide)), fun d => h.e1 (done_of_set d (by decide)), fun d => h.e2 (done_of_set d (by decide)), fun d => h.e3 (done_of_set d (by decide)), fun d => h.e4 (done_of_set d (by decide)), fun _ => rfl, fun d => h.e6 (done_of_set d (by decide)), fun d => h.e7 (done_of_set d (by decide)), fun d => h.e8 (done_of_set d (by decide)), fun d => h.e9 (done_of_set d (by decide)), fun d => h.e10 (done_of_set d (by decide)), fun d => h.e11 (done_of_set d (by decide)), fun d => h.e12 (done_of_set d (by decide)), fun d => h.e13 (done_of_set d (by decide)), fun d => h.e14 (done_of_set d (by decide)), fun d => h.e16 (done_of_set d (by decide)), fun d => h.x0 (undone_of_set d), fun d d' => h.x1 (done_of_set d (by decide)) (undone_of_set d'), fun d => h.x2 (done_of_set d (by decide))⟩

theorem MgDnS.s6 (h : MgDnS W g N cap kk q qs tail listed u113 u114 u115 u116 u117 u118 u119 u120 u121 u122 u123 u124 u125 u126 u127 u128 w') : MgDnS W g N cap kk q qs tail (listed.setIfInBounds 6 true) u113 u114 u115 u116 u117 u118 (.int .i64 (kk : Nat)) u120 u121 u122 u123 u124 u125 u126 u127 u128 w' :=
  ⟨fun d => h.e0 (done_of_set d (by decide)), fun d => h.e1 (done_of_set d (by decide)), fun d => h.e2 (done_of_set d (by decide)), fun d => h.e3 (done_of_set d (by decide)), fun d => h.e4 (done_of_set d (by decide)), fun d => h.e5 (done_of_set d (by decide)), fun _ => rfl, fun d => h.e7 (done_of_set d (by decide)), fun d => h.e8 (done_of_set d (by decide)), fun d => h.e9 (done_of_set d (by decide)), fun d => h.e10 (done_of_set d (by decide)), fun d => h.e11 (done_of_set d (by decide)), fun d => h.e12 (done_of_set d (by decide)), fun d => h.e13 (done_of_set d (by decide)), fun d => h.e14 (done_of_set d (by decide)), fun d => h.e16 (done_of_set d (by decide)), fun d => h.x0 (undone_of_set d), fun d d' => h.x1 (done_of_set d (by decide)) (undone_of_set d'), fun d => h.x2 (done_of_set d (by decide))⟩

theorem MgDnS.s7 (h : MgDnS W g N cap kk q qs tail listed u113 u114 u115 u116 u117 u118 u119 u120 u121 u122 u123 u124 u125 u126 u127 u128 w') : MgDnS W g N cap kk q qs tail (listed.setIfInBounds 7 true) u113 u114 u115 u116 u117 u118 u119 (.int .i64 (q : Nat)) u121 u122 u123 u124 u125 u126 u127 u128 w' :=
  ⟨fun d => h.e0 (done_of_set d (by decide)), fun d => h.e1 (done_of_set d (by decide)), fun d => h.e2 (done_of_set d (by decide)), fun d => h.e3 (done_of_set d (by decide)), fun d => h.e4 (done_of_set d (by decide)), fun d => h.e5 (done_of_set d (by decide)), fun d => h.e6 (done_of_set d (by decide)), fun _ => rfl, fun d => h.e8 (done_of_set d (by decide)), fun d => h.e9 (done_of_set d (by decide)), fun d => h.e10 (done_of_set d (by decide)), fun d => h.e11 (done_of_set d (by decide)), fun d => h.e12 (done_of_set d (by decide)), fun d => h.e13 (done_of_set d (by decide)), fun d => h.e14 (done_of_set d (by decide)), fun d => h.e16 (done_of_set d (by decide)), fun d => h.x0 (undone_of_set d), fun d d' => h.x1 (done_of_set d (by decide)) (undone_of_set d'), fun d => h.x2 (done_of_set d (by decide))⟩

theorem MgDnS.s8 (h : MgDnS W g N cap kk q qs tail listed u113 u114 u115 u116 u117 u118 u119 u120 u121 u122 u123 u124 u125 u126 u127 u128 w') : MgDnS W g N cap kk q qs tail (listed.setIfInBounds 8 true) u113 u114 u115 u116 u117 u118 u119 u120 (.pointer (some ⟨g, q * 2, none⟩)) u122 u123 u124 u125 u126 u127 u128 w' :=
  ⟨fun d => h.e0 (done_of_set d (by decide)), fun d => h.e1 (done_of_set d (by decide)), fun d => h.e2 (done_of_set d (by decide)), fun d => h.e3 (done_of_set d (by decide)), fun d => h.e4 (done_of_set d (by decide)), fun d => h.e5 (done_of_set d (by decide)), fun d => h.e6 (done_of_set d (by decide)), fun d => h.e7 (done_of_set d (by decide)), fun _ => rfl, fun d => h.e9 (done_of_set d (by decide)), fun d => h.e10 (done_of_set d (by decide)), fun d => h.e11 (done_of_set d (by decide)), fun d => h.e12 (done_of_set d (by decide)), fun d => h.e13 (done_of_set d (by decide)), fun d => h.e14 (done_of_set d (by decide)), fun d => h.e16 (done_of_set d (by decide)), fun d => h.x0 (undone_of_set d), fun d d' => h.x1 (done_of_set d (by decide)) (undone_of_set d'), fun d => h.x2 (done_of_set d (by decide))⟩

theorem MgDnS.s9 (h : MgDnS W g N cap kk q qs tail listed u113 u114 u115 u116 u117 u118 u119 u120 u121 u122 u123 u124 u125 u126 u127 u128 w') : MgDnS W g N cap kk q qs tail (listed.setIfInBounds 9 true) u113 u114 u115 u116 u117 u118 u119 u120 u121 (.agg #[.int .i64 (ptAt qs q).t, .int .u64 ((ptAt qs q).v : Nat)]) u123 u124 u125 u126 u127 u128 w' :=
  ⟨fun d => h.e0 (done_of_set d (by decide)), fun d => h.e1 (done_of_set d (by decide)), fun d => h.e2 (done_of_set d (by decide)), fun d => h.e3 (done_of_set d (by decide)), fun d => h.e4 (done_of_set d (by decide)), fun d => h.e5 (done_of_set d (by decide)), fun d => h.e6 (done_of_set d (by decide)), fun d => h.e7 (done_of_set d (by decide)), fun d => h.e8 (done_of_set d (by decide)), fun _ => rfl, fun d => h.e10 (done_of_set d (by decide)), fun d => h.e11 (done_of_set d (by decide)), fun d => h.e12 (done_of_set d (by decide)), fun d => h.e13 (done_of_set d (by decide)), fun d => h.e14 (done_of_set d (by decide)), fun d => h.e16 (done_of_set d (by decide)), fun d => h.x0 (undone_of_set d), fun d d' => h.x1 (done_of_set d (by decide)) (undone_of_set d'), fun d => h.x2 (done_of_set d (by decide))⟩

theorem MgDnS.s10 (h : MgDnS W g N cap kk q qs tail listed u113 u114 u115 u116 u117 u118 u119 u120 u121 u122 u123 u124 u125 u126 u127 u128 w') : MgDnS W g N cap kk q qs tail (listed.setIfInBounds 10 true) u113 u114 u115 u116 u117 u118 u119 u120 u121 u122 (.slice (some ⟨g, 0, none⟩) N cap) u124 u125 u126 u127 u128 w' :=
  ⟨fun d => h.e0 (done_of_set d (by decide)), fun d => h.e1 (done_of_set d (by decide)), fun d => h.e2 (done_of_set d (by decide)), fun d => h.e3 (done_of_set d (by decide)), fun d => h.e4 (done_of_set d (by decide)), fun d => h.e5 (done_of_set d (by decide)), fun d => h.e6 (done_of_set d (by decide)), fun d => h.e7 (done_of_set d (by decide)), fun d => h.e8 (done_of_set d (by decide)), fun d => h.e9 (done_of_set d (by decide)), fun _ => rfl, fun d => h.e11 (done_of_set d (by decide)), fun d => h.e12 (done_of_set d (by decide)), fun d => h.e13 (done_of_set d (by decide)), fun d => h.e14 (done_of_set d (by decide)), fun d => h.e16 (done_of_set d (by decide)), fun d => h.x0 (undone_of_set d), fun d d' => h.x1 (done_of_set d (by decide)) (undone_of_set d'), fun d => h.x2 (done_of_set d (by decide))⟩

theorem MgDnS.s11 (h : MgDnS W g N cap kk q qs tail listed u113 u114 u115 u116 u117 u118 u119 u120 u121 u122 u123 u124 u125 u126 u127 u128 w') : MgDnS W g N cap kk q qs tail (listed.setIfInBounds 11 true) u113 u114 u115 u116 u117 u118 u119 u120 u121 u122 u123 (.int .i64 (kk : Nat)) u125 u126 u127 u128 w' :=
  ⟨fun d => h.e0 (done_of_set d (by decide)), fun d => h.e1 (done_of_set d (by decide)), fun d => h.e2 (done_of_set d (by decide)), fun d => h.e3 (done_of_set d (by decide)), fun d => h.e4 (done_of_set d (by decide)), fun d => h.e5 (done_of_set d (by decide)), fun d => h.e6 (done_of_set d (by decide)), fun d => h.e7 (done_of_set d (by decide)), fun d => h.e8 (done_of_set d (by decide)), fun d => h.e9 (done_of_set d (by decide)), fun d => h.e10 (done_of_set d (by decide)), fun _ => rfl, fun d => h.e12 (done_of_set d (by decide)), fun d => h.e13 (done_of_set d (by decide)), fun d => h.e14 (done_of_set d (by decide)), fun d => h.e16 (done_of_set d (by decide)), fun d => h.x0 (undone_of_set d), fun d d' => h.x1 (done_of_set d (by decide)) (undone_of_set d'), fun d => h.x2 (done_of_set d (by decide))⟩

theorem MgDnS.s12 (h : MgDnS W g N cap kk q qs tail listed u113 u114 u115 u116 u117 u118 u119 u120 u121 u122 u123 u124 u125 u126 u127 u128 w') : MgDnS W g N cap kk q qs tail (listed.setIfInBounds 12 true) u113 u114 u115 u116 u117 u118 u119 u120 u121 u122 u123 u124 (.pointer (some ⟨g, kk * 2, none⟩)) u126 u127 u128 w' :=
  ⟨fun d => h.e0 (done_of_set d (by decide)), fun d => h.e1 (done_of_set d (by decide)), fun d => h.e2 (done_of_set d (by decide)), fun d => h.e3 (done_of_set d (by decide)), fun d => h.e4 (done_of_set d (by decide)), fun d => h.e5 (done_of_set d (by decide)), fun d => h.e6 (done_of_set d (by decide)), fun d => h.e7 (done_of_set d (by decide)), fun d => h.e8 (done_of_set d (by decide)), fun d => h.e9 (done_of_set d (by decide)), fun d => h.e10 (done_of_set d (by decide)), fun d => h.e11 (done_of_set d (by decide)), fun _ => rfl, fun d => h.e13 (done_of_set d (by decide)), fun d => h.e14 (done_of_set d (by decide)), fun d => h.e16 (done_of_set d (by decide)), fun d => h.x0 (undone_of_set d), fun d d' => h.x1 (done_of_set d (by decide)) (undone_of_set d'), fun d => h.x2 (done_of_set d (by decide))⟩

theorem MgDnS.s13 (h : MgDnS W g N cap kk q qs tail listed u113 u114 u115 u116 u117 u118 u119 u120 u121 u122 u123 u124 u125 u126 u127 u128 w') : MgDnS W g N cap kk q qs tail (listed.setIfInBounds 13 true) u113 u114 u115 u116 u117 u118 u119 u120 u121 u122 u123 u124 u125 (.agg #[.int .i64 (ptAt qs kk).t, .int .u64 ((ptAt qs kk).v : Nat)]) u127 u128 w' :=
  ⟨fun d => h.e0 (done_of_set d (by decide)), fun d => h.e1 (done_of_set d (by decide)), fun d => h.e2 (done_of_set d (by decide)), fun d => h.e3 (done_of_set d (by decide)), fun d => h.e4 (done_of_set d (by decide)), fun d => h.e5 (done_of_set d (by decide)), fun d => h.e6 (done_of_set d (by decide)), fun d => h.e7 (done_of_set d (by decide)), fun d => h.e8 (done_of_set d (by decide)), fun d => h.e9 (done_of_set d (by decide)), fun d => h.e10 (done_of_set d (by decide)), fun d => h.e11 (done_of_set d (by decide)), fun d => h.e12 (done_of_set d (by decide)), fun _ => rfl, fun d => h.e14 (done_of_set d (by decide)), fun d => h.e16 (done_of_set d (by decide)), fun d => h.x0 (undone_of_set d), fun d d' => h.x1 (done_of_set d (by decide)) (undone_of_set d'), fun d => h.x2 (done_of_set d (by decide))⟩

theorem MgDnS.s14 (h : MgDnS W g N cap kk q qs tail listed u113 u114 u115 u116 u117 u118 u119 u120 u121 u122 u123 u124 u125 u126 u127 u128 w') : MgDnS W g N cap kk q qs tail (listed.setIfInBounds 14 true) u113 u114 u115 u116 u117 u118 u119 u120 u121 u122 u123 u124 u125 u126 (.pointer (some ⟨g, kk * 2, none⟩)) u128 w' :=
  ⟨fun d => h.e0 (done_of_set d (by decide)), fun d => h.e1 (done_of_set d (by decide)), fun d => h.e2 (done_of_set d (by decide)), fun d => h.e3 (done_of_set d (by decide)), fun d => h.e4 (done_of_set d (by decide)), fun d => h.e5 (done_of_set d (by decide)), fun d => h.e6 (done_of_set d (by decide)), fun d => h.e7 (done_of_set d (by decide)), fun d => h.e8 (done_of_set d (by decide)), fun d => h.e9 (done_of_set d (by decide)), fun d => h.e10 (done_of_set d (by decide)), fun d => h.e11 (done_of_set d (by decide)), fun d => h.e12 (done_of_set d (by decide)), fun d => h.e13 (done_of_set d (by decide)), fun _ => rfl, fun d => h.e16 (done_of_set d (by decide)), fun d => h.x0 (undone_of_set d), fun d d' => h.x1 (done_of_set d (by decide)) (undone_of_set d'), fun d => h.x2 (done_of_set d (by decide))⟩

theorem MgDnS.s15 {w2 : World} (h : MgDnS W g N cap kk q qs tail listed u113 u114 u115 u116 u117 u118 u119 u120 u121 u122 u123 u124 u125 u126 u127 u128 w') (hi : 15 < listed.size) (hn : done listed 17 = false) (hS : PB w2 g (qs.set kk (ptAt qs q)) tail ∧ Fp (fun k => k = g) W w2) : MgDnS W g N cap kk q qs tail (listed.setIfInBounds 15 true) u113 u114 u115 u116 u117 u118 u119 u120 u121 u122 u123 u124 u125 u126 u127 u128 w2 :=
  ⟨fun d => h.e0 (done_of_set d (by decide)), fun d => h.e1 (done_of_set d (by decide)), fun d => h.e2 (done_of_set d (by decide)), fun d => h.e3 (done_of_set d (by decide)), fun d => h.e4 (done_of_set d (by decide)), fun d => h.e5 (done_of_set d (by decide)), fun d => h.e6 (done_of_set d (by decide)), fun d => h.e7 (done_of_set d (by decide)), fun d => h.e8 (done_of_set d (by decide)), fun d => h.e9 (done_of_set d (by decide)), fun d => h.e10 (done_of_set d (by decide)), fun d => h.e11 (done_of_set d (by decide)), fun d => h.e12 (done_of_set d (by decide)), fun d => h.e13 (done_of_set d (by decide)), fun d => h.e14 (done_of_set d (by decide)), fun d => h.e16 (done_of_set d (by decide)), fun D => absurd D (by rw [done_set_same hi]; decide), fun _ _ => hS, fun D => absurd (done_of_set D (by decide)) (by rw [hn]; decide)⟩

theorem MgDnS.s16 (h : MgDnS W g N cap kk q qs tail listed u113 u114 u115 u116 u117 u118 u119 u120 u121 u122 u123 u124 u125 u126 u127 u128 w') : MgDnS W g N cap kk q qs tail (listed.setIfInBounds 16 true) u113 u114 u115 u116 u117 u118 u119 u120 u121 u122 u123 u124 u125 u126 u127 (.pointer (some ⟨g, q * 2, none⟩)) w' :=
  ⟨fun d => h.e0 (done_of_set d (by decide)), fun d => h.e1 (done_of_set d (by decide)), fun d => h.e2 (done_of_set d (by decide)), fun d => h.e3 (done_of_set d (by decide)), fun d => h.e4 (done_of_set d (by decide)), fun d => h.e5 (done_of_set d (by decide)), fun d => h.e6 (done_of_set d (by decide)), fun d => h.e7 (done_of_set d (by decide)), fun d => h.e8 (done_of_set d (by decide)), fun d => h.e9 (done_of_set d (by decide)), fun d => h.e10 (done_of_set d (by decide)), fun d => h.e11 (done_of_set d (by decide)), fun d => h.e12 (done_of_set d (by decide)), fun d => h.e13 (done_of_set d (by decide)), fun d => h.e14 (done_of_set d (by decide)), fun _ => rfl, fun d => h.x0 (undone_of_set d), fun d d' => h.x1 (done_of_set d (by decide)) (undone_of_set d'), fun d => h.x2 (done_of_set d (by decide))⟩

theorem MgDnS.s17 {w2 : World} (h : MgDnS W g N cap kk q qs tail listed u113 u114 u115 u116 u117 u118 u119 u120 u121 u122 u123 u124 u125 u126 u127 u128 w') (hi : 17 < listed.size) (hp : done listed 15 = true) (hS : PB w2 g ((qs.set kk (ptAt qs q)).set q (ptAt qs kk)) tail ∧ Fp (fun k => k = g) W w2) : MgDnS W g N cap kk q qs tail (listed.setIfInBounds 17 true) u113 u114 u115 u116 u117 u118 u119 u120 u121 u122 u123 u124 u125 u126 u127 u128 w2 :=
  ⟨fun d => h.e0 (done_of_set d (by decide)), fun d => h.e1 (done_of_set d (by decide)), fun d => h.e2 (done_of_set d (by decide)), fun d => h.e3 (done_of_set d (by decide)), fun d => h.e4 (done_of_set d (by decide)), fun d => h.e5 (done_of_set d (by decide)), fun d => h.e6 (done_of_set d (by decide)), fun d => h.e7 (done_of_set d (by decide)), fun d => h.e8 (done_of_set d (by decide)), fun d => h.e9 (done_of_set d (by decide)), fun d => h.e10 (done_of_set d (by decide)), fun d => h.e11 (done_of_set d (by decide)), fun d => h.e12 (done_of_set d (by decide)), fun d => h.e13 (done_of_set d (by decide)), fun d => h.e14 (done_of_set d (by decide)), fun d => h.e16 (done_of_set d (by decide)), fun D => absurd (undone_of_set D) (by rw [hp]; decide), fun _ D => absurd D (by rw [done_set_same hi]; decide), fun _ => hS⟩

end

set_option maxHeartbeats 2000000 in
set_option maxRecDepth 100000 in
theorem symMerge_last (n : Nat) (hn : 5 ≤ n) (g cap a m : Nat) (ps : List Silo.Pt) (tail : List Value) (w : World) (N : Nat) (hN : ps.length = N) (h : PB w g ps tail) (ham : a + 1 < m) (hm : m < N) (hl : N ≤ 1099511627776) (hs : Silo.Sorted ps a m) :
    CallsIn Fence.wide n Try.prog 84 #[.slice (some ⟨g, 0, none⟩) N cap, .int .i64 a, .int .i64 m, .int .i64 (m + 1 : Nat), .func (.func 56) #[] #[]] w fun e w' => e = .returned (.tuple #[]) ∧
      ∃ qs, PB w' g qs tail ∧ Silo.Within ps qs a (m + 1) ∧ Silo.Sorted qs a (m + 1) ∧ Fp (fun k => k = g) w w' := by
  have H : Hid _ := And.intro hN (And.intro h hs)
  clear h hN hs
  obtain ⟨b, hb⟩ : ∃ b, m + 1 = b := ⟨_, rfl⟩
  obtain ⟨d, hd⟩ : ∃ d, m - a = d := ⟨_, rfl⟩
  have HM : Hid _ := hb
  have b0 : (m : Int) - (a : Int) = (d : Int) := by omega
  have b1 : (b : Int) - (m : Int) = 1 := by omega
  have b2 : ((1 : Int) == 1) = true := by decide
  have b3 : ((d : Int) == 1) = false := by simp; omega
  have b4 : b ≤ N := by omega
  have b5 : m < b := by omega
  rw [hb]
  clear hb hd
  refine callsIn_of_wp Try.func84 rfl trivial ?_ rfl
  simp only [Try.ntmps84, List.size_toArray, List.length_cons, List.length_nil, Nat.reduceAdd, Nat.reduceSub, Array.replicate_succ, Array.replicate_zero, List.push_toArray, List.append_toArray, List.nil_append, List.cons_append]
  gi_wp2_with fail
  gi_loopw [14, 15] (fun iv jv wr => ∃ i j : Nat, a ≤ i ∧ i ≤ j ∧ j ≤ m ∧ iv = .int .i64 i ∧ jv = .int .i64 j ∧ Hid (PB wr g ps tail ∧ (∀ k, a ≤ k → k < i → (ptAt ps k).t ≤ (ptAt ps m).t) ∧ (∀ k, j ≤ k → k < m → (ptAt ps m).t < (ptAt ps k).t) ∧ Fp (fun k => k = g) w wr)) (fun iv jv _ => (intOf jv).toNat - (intOf iv).toNat)
  case atStart => exact ⟨a, m, Nat.le_refl _, by omega, Nat.le_refl _, rfl, rfl, H.out.2.1, fun k h1 h2 => by omega, fun k h1 h2 => by omega, Fp.refl _ _⟩
  case round =>
    obtain ⟨i, j, hi, hij, hj, rfl, rfl, HR⟩ := hrel
    by_cases hlt : i < j
    · obtain ⟨hf, hh⟩ : ∃ hf, (i + j) / 2 = hf := ⟨_, rfl⟩
      have bh : ((i : Int) + (j : Int)) / 2 = (hf : Int) := by omega
      have h1 : i ≤ hf := by omega
      have h2 : hf < j := by omega
      clear hh
      have l0 : ps.length = N := H.out.1
      have l1 : hf < ps.length := by omega
      have l2 : m < ps.length := by omega
      have l3 : (hf : Int) < (N : Int) := by omega
      have l4 : (m : Int) < (N : Int) := by omega
      obtain ⟨c0, c1⟩ := HR.out.1.cell hf l1
      obtain ⟨c2, c3⟩ := HR.out.1.cell m l2
      clear l0
      gi_wp2_with fail
      refine wpIn_cut (fun a' w' => Fp (fun _ => False) wr w' ∧ a' = { tmps := #[.slice (some ⟨g, 0, none⟩) N cap, .int .i64 (a : Nat), .int .i64 (m : Nat), .int .i64 (b : Nat), .func (.func 56) #[] #[], undef, undef, undef, undef, undef, undef, undef, undef, undef, .int .i64 (i : Nat), .int .i64 (j : Nat), .int .i64 (hf : Nat), undef, undef, undef, undef, undef, undef, undef, undef, .int .i64 (m : Nat), .int .i64 (a : Nat), .int .i64 (d : Nat), .bool false, undef, undef, undef, undef, undef, undef, undef, undef, undef, undef, undef, undef, undef, undef, undef, undef, undef, undef, undef, undef, undef, undef, undef, undef, undef, undef, undef, undef, undef, undef, undef, undef, undef, undef, undef, undef, undef, undef, undef, undef, undef, undef, undef, undef, undef, undef, undef, undef, .int .i64 (b : Nat), .int .i64 (m : Nat), .int .i64 1, .bool true, .int .i64 (a : Nat), .int .i64 (m : Nat), .int .i64 (i : Nat), .int .i64 (j : Nat), .bool true, .int .i64 (i : Nat), .int .i64 (j : Nat), .int .i64 (i + j), .int .u64 (i + j), .int .u64 (hf : Nat), .int .i64 (hf : Nat), .func (.func 56) #[] #[], .slice (some ⟨g, 0, none⟩) N cap, .int .i64 (m : Nat), .pointer (some ⟨g, m * 2, none⟩), .agg #[.int .i64 (ptAt ps m).t, .int .u64 ((ptAt ps m).v : Nat)], .slice (some ⟨g, 0, none⟩) N cap, .int .i64 (hf : Nat), .pointer (some ⟨g, hf * 2, none⟩), .agg #[.int .i64 (ptAt ps hf).t, .int .u64 ((ptAt ps hf).v : Nat)], .int .i64 (cmpI (ptAt ps m).t (ptAt ps hf).t), .bool (decide (cmpI (ptAt ps m).t (ptAt ps hf).t < 0)), .bool (!decide (cmpI (ptAt ps m).t (ptAt ps hf).t < 0)), u104, u105, u106, undef, undef, undef, undef, undef, undef, undef, undef, undef, undef, undef, undef, undef, undef, undef, undef, undef, undef, undef, undef, undef, undef, undef, undef, undef, undef, undef, undef, undef, undef, undef, undef, undef, undef, undef, undef, undef, undef, undef, undef, undef, undef, undef, undef, undef, undef, undef, undef, undef, undef, undef, undef, undef, undef, undef, undef, undef, undef, undef, undef, undef, undef, undef, undef, undef, undef, undef, undef, undef, undef, undef, undef, undef, undef, undef, undef, undef, undef, undef, undef, undef, undef, undef, undef, undef, undef, undef, undef, undef, undef, undef, undef, undef, undef, undef, undef, undef, undef, undef, undef, undef, undef, undef, undef, undef, undef, undef, undef, undef, undef, undef, undef, undef], defers := [] }) ?r4 ?k4
      case r4 =>
        refine wpIn_region_inv (by kernel_rfl) (by kernel_rfl) (fun listed a' w' => ∃ u92 u93 u94 u95 u96 u97 u98 u99 u100 u101 u102 u103 : Value, a' = { tmps := #[.slice (some ⟨g, 0, none⟩) N cap, .int .i64 (a : Nat), .int .i64 (m : Nat), .int .i64 (b : Nat), .func (.func 56) #[] #[], undef, undef, undef, undef, undef, undef, undef, undef, undef, .int .i64 (i : Nat), .int .i64 (j : Nat), .int .i64 (hf : Nat), undef, undef, undef, undef, undef, undef, undef, undef, .int .i64 (m : Nat), .int .i64 (a : Nat), .int .i64 (d : Nat), .bool false, undef, undef, undef, undef, undef, undef, undef, undef, undef, undef, undef, undef, undef, undef, undef, undef, undef, undef, undef, undef, undef, undef, undef, undef, undef, undef, undef, undef, undef, undef, undef, undef, undef, undef, undef, undef, undef, undef, undef, undef, undef, undef, undef, undef, undef, undef, undef, undef, .int .i64 (b : Nat), .int .i64 (m : Nat), .int .i64 1, .bool true, .int .i64 (a : Nat), .int .i64 (m : Nat), .int .i64 (i : Nat), .int .i64 (j : Nat), .bool true, .int .i64 (i : Nat), .int .i64 (j : Nat), .int .i64 (i + j), .int .u64 (i + j), .int .u64 (hf : Nat), .int .i64 (hf : Nat), u92, u93, u94, u95, u96, u97, u98, u99, u100, u101, u102, u103, u104, u105, u106, undef, undef, undef, undef, undef, undef, undef, undef, undef, undef, undef, undef, undef, undef, undef, undef, undef, undef, undef, undef, undef, undef, undef, undef, undef, undef, undef, undef, undef, undef, undef, undef, undef, undef, undef, undef, undef, undef, undef, undef, undef, undef, undef, undef, undef, undef, undef, undef, undef, undef, undef, undef, undef, undef, undef, undef, undef, undef, undef, undef, undef, undef, undef, undef, undef, undef, undef, undef, undef, undef, undef, undef, undef, undef, undef, undef, undef, undef, undef, undef, undef, undef, undef, undef, undef, undef, undef, undef, undef, undef, undef, undef, undef, undef, undef, undef, undef, undef, undef, undef, undef, undef, undef, undef, undef, undef, undef, undef, undef, undef, undef, undef, undef], defers := [] } ∧ Hid (MgDnC wr g N cap m hf ps listed u92 u93 u94 u95 u96 u97 u98 u99 u100 u101 u102 u103 w')) ?p0 ?pend ?pstep
        case p0 => exact ⟨_, _, _, _, _, _, _, _, _, _, _, _, rfl, MgDnC.start (rfl)⟩
        case pend =>
          rintro listed a' w' hall ⟨u92, u93, u94, u95, u96, u97, u98, u99, u100, u101, u102, u103, rfl, HI⟩
          obtain rfl := HI.out.e0 (hall 0 (by decide))
          obtain rfl := HI.out.e1 (hall 1 (by decide))
          obtain rfl := HI.out.e2 (hall 2 (by decide))
          obtain rfl := HI.out.e3 (hall 3 (by decide))
          obtain rfl := HI.out.e4 (hall 4 (by decide))
          obtain rfl := HI.out.e5 (hall 5 (by decide))
          obtain rfl := HI.out.e6 (hall 6 (by decide))
          obtain rfl := HI.out.e7 (hall 7 (by decide))
          obtain rfl := HI.out.e8 (hall 8 (by decide))
          obtain rfl := HI.out.e9 (hall 9 (by decide))
          obtain rfl := HI.out.e10 (hall 10 (by decide))
          obtain rfl := HI.out.e11 (hall 11 (by decide))
          have hw := HI.out.x1 (hall 9 (by decide))
          exact ⟨hw, rfl⟩
        case pstep =>
          rintro listed a' w' i o ho hi hd hdep hcl ⟨u92, u93, u94, u95, u96, u97, u98, u99, u100, u101, u102, u103, rfl, HI⟩ K hK
          match i, ho with
          | 0, ho =>
            cases ho
            go_simp
            refine hK _ _ ⟨_, _, _, _, _, _, _, _, _, _, _, _, rfl, ?_⟩
            exact HI.out.s0
          | 1, ho =>
            cases ho
            go_simp
            refine hK _ _ ⟨_, _, _, _, _, _, _, _, _, _, _, _, rfl, ?_⟩
            exact HI.out.s1
          | 2, ho =>
            cases ho
            go_simp
            refine hK _ _ ⟨_, _, _, _, _, _, _, _, _, _, _, _, rfl, ?_⟩
            exact HI.out.s2
          | 3, ho =>
            cases ho
            have d1 := hdep ⟨1, .data⟩ (by simp) rfl
            obtain rfl := HI.out.e1 d1
            have d2 := hdep ⟨2, .data⟩ (by simp) rfl
            obtain rfl := HI.out.e2 d2
            go_simp
            refine hK _ _ ⟨_, _, _, _, _, _, _, _, _, _, _, _, rfl, ?_⟩
            exact HI.out.s3
          | 4, ho =>
            cases ho
            have d3 := hdep ⟨3, .data⟩ (by simp) rfl
            obtain rfl := HI.out.e3 d3
            have q9 : done listed 9 = false := nd hcl (j := 9) rfl ⟨4, .data⟩ (by simp) rfl hd
            have hw := HI.out.x0 q9
            subst hw
            go_simp
            refine hK _ _ ⟨_, _, _, _, _, _, _, _, _, _, _, _, rfl, ?_⟩
            exact HI.out.s4
          | 5, ho =>
            cases ho
            go_simp
            refine hK _ _ ⟨_, _, _, _, _, _, _, _, _, _, _, _, rfl, ?_⟩
            exact HI.out.s5
          | 6, ho =>
            cases ho
            go_simp
            refine hK _ _ ⟨_, _, _, _, _, _, _, _, _, _, _, _, rfl, ?_⟩
            exact HI.out.s6
          | 7, ho =>
            cases ho
            have d5 := hdep ⟨5, .data⟩ (by simp) rfl
            obtain rfl := HI.out.e5 d5
            have d6 := hdep ⟨6, .data⟩ (by simp) rfl
            obtain rfl := HI.out.e6 d6
            go_simp
            refine hK _ _ ⟨_, _, _, _, _, _, _, _, _, _, _, _, rfl, ?_⟩
            exact HI.out.s7
          | 8, ho =>
            cases ho
            have d7 := hdep ⟨7, .data⟩ (by simp) rfl
            obtain rfl := HI.out.e7 d7
            have q9 : done listed 9 = false := nd hcl (j := 9) rfl ⟨8, .data⟩ (by simp) rfl hd
            have hw := HI.out.x0 q9
            subst hw
            go_simp
            refine hK _ _ ⟨_, _, _, _, _, _, _, _, _, _, _, _, rfl, ?_⟩
            exact HI.out.s8
          | 9, ho =>
            cases ho
            have d0 := hdep ⟨0, .data⟩ (by simp) rfl
            obtain rfl := HI.out.e0 d0
            have d4 := hdep ⟨4, .data⟩ (by simp) rfl
            obtain rfl := HI.out.e4 d4
            have d8 := hdep ⟨8, .data⟩ (by simp) rfl
            obtain rfl := HI.out.e8 d8
            have hw := HI.out.x0 hd
            subst hw
            go_simp
            refine ⟨trivial, fun _ => by omega, (callsIn_wide.2 (byTime_any (ptAt ps m).t (ptAt ps hf).t _ _ wr.drew)).mono ?_⟩
            rintro e w5 ⟨rfl, h5⟩
            refine hK _ _ ⟨_, _, _, _, _, _, _, _, _, _, _, _, rfl, ?_⟩
            exact HI.out.s9 hi ((Fp.drew _ wr).trans' h5)
          | 10, ho =>
            cases ho
            have d9 := hdep ⟨9, .data⟩ (by simp) rfl
            obtain rfl := HI.out.e9 d9
            go_simp
            refine hK _ _ ⟨_, _, _, _, _, _, _, _, _, _, _, _, rfl, ?_⟩
            exact HI.out.s10
          | 11, ho =>
            cases ho
            have d10 := hdep ⟨10, .data⟩ (by simp) rfl
            obtain rfl := HI.out.e10 d10
            go_simp
            refine hK _ _ ⟨_, _, _, _, _, _, _, _, _, _, _, _, rfl, ?_⟩
            exact HI.out.s11
      rintro a' w5 ⟨hf4, rfl⟩
      dsimp only
      have hpb5 : PB w5 g ps tail := HR.out.1.fp hf4 (fun h => h)
      have hfp5 := HR.out.2.2.2.trans hf4 (fun _ h => h) (fun _ _ h => h.elim)
      by_cases hc : (ptAt ps m).t < (ptAt ps hf).t
      · have hcc : decide (cmpI (ptAt ps m).t (ptAt ps hf).t < 0) = true := by rw [decide_eq_true_eq, cmpI_lt]; exact hc
        rw [hcc, Bool.not_true]
        have HC : Hid _ := And.intro hc (And.intro hpb5 hfp5)
        clear hc hcc hf4 hpb5 hfp5 c0 c1 c2 c3 bh
        gi_wp2
        go_roundw
        case rel =>
          refine ⟨i, hf, hi, by omega, by omega, rfl, rfl, HC.out.2.1, HR.out.2.1, fun k g1 g2 => ?_, HC.out.2.2⟩
          have := H.out.2.2.le (i := hf) (j := k) (by omega) (by omega) (by omega)
          have := HC.out.1
          omega
        case measure => simp [intOf]; omega
      · have hcc : decide (cmpI (ptAt ps m).t (ptAt ps hf).t < 0) = false := by rw [decide_eq_false_iff_not, cmpI_lt]; exact hc
        rw [hcc, Bool.not_false]
        have HC : Hid _ := And.intro hc (And.intro hpb5 hfp5)
        clear hc hcc hf4 hpb5 hfp5 c0 c1 c2 c3 bh
        gi_wp2
        go_roundw
        case rel =>
          refine ⟨hf + 1, j, by omega, by omega, hj, by go_num, rfl, HC.out.2.1, fun k g1 g2 => ?_, HR.out.2.2.1, HC.out.2.2⟩
          have := H.out.2.2.le (i := k) (j := hf) (by omega) (by omega) (by omega)
          have := HC.out.1
          omega
        case measure => simp [intOf]; omega
    · obtain rfl : i = j := by omega
      gi_wp2_with fail
      gi_loopw [17] (fun kv wq => ∃ k : Nat, i ≤ k ∧ k ≤ m ∧ kv = .int .i64 k ∧ Hid (∃ qs, PB wq g qs tail ∧ Silo.Down ps qs a k m ∧ Fp (fun k => k = g) w wq)) (fun kv _ => (intOf kv).toNat)
      case atStart => exact ⟨m, hj, Nat.le_refl _, rfl, ps, HR.out.1, Silo.Down.start H.out.2.2, HR.out.2.2.2⟩
      case round =>
        obtain ⟨kk, hk1, hk2, rfl, HQ⟩ := hrel
        by_cases hkl : i < kk
        · obtain ⟨qs, hpb, hup, hfp⟩ := HQ.out
          obtain ⟨q, hq⟩ : ∃ q, kk = q + 1 := ⟨kk - 1, by omega⟩
          have hql : qs.length = N := by rw [hup.wi.len]; exact H.out.1
          have l1 : kk < qs.length := by omega
          have l2 : q < qs.length := by omega
          have e3 : (kk : Int) - 1 = (q : Int) := by omega
          have e4 : (q : Int) < (N : Int) := by omega
          have e5 : (kk : Int) < (N : Int) := by omega
          have e6 : IntKind.i64.wrap (q : Int) = (q : Int) := by rw [IntKind.wrap_i64]; omega
          obtain ⟨c0, c1⟩ := hpb.cell kk l1
          obtain ⟨c2, c3⟩ := hpb.cell q l2
          have hfz := hpb.frozen
          have HB : Hid (PB wr g qs tail) := hpb
          have HP : Hid _ := And.intro hup (And.intro hfp hq)
          clear hpb hup hfp hq hql HQ
          gi_wp2_with fail
          refine wpIn_cutQ (fun a' w' => (PB w' g ((qs.set kk (ptAt qs q)).set q (ptAt qs kk)) tail ∧ Fp (fun k => k = g) wr w') ∧ a' = { tmps := #[.slice (some ⟨g, 0, none⟩) N cap, .int .i64 (a : Nat), .int .i64 (m : Nat), .int .i64 (b : Nat), .func (.func 56) #[] #[], undef, undef, undef, undef, undef, undef, undef, undef, undef, .int .i64 (i : Nat), .int .i64 (i : Nat), u16, .int .i64 (kk : Nat), undef, undef, undef, undef, undef, undef, undef, .int .i64 (m : Nat), .int .i64 (a : Nat), .int .i64 (d : Nat), .bool false, undef, undef, undef, undef, undef, undef, undef, undef, undef, undef, undef, undef, undef, undef, undef, undef, undef, undef, undef, undef, undef, undef, undef, undef, undef, undef, undef, undef, undef, undef, undef, undef, undef, undef, undef, undef, undef, undef, undef, undef, undef, undef, undef, undef, undef, undef, undef, undef, .int .i64 (b : Nat), .int .i64 (m : Nat), .int .i64 1, .bool true, .int .i64 (a : Nat), .int .i64 (m : Nat), .int .i64 (i : Nat), .int .i64 (i : Nat), .bool false, u86, u87, u88, u89, u90, u91, u92, u93, u94, u95, u96, u97, u98, u99, u100, u101, u102, u103, u104, u105, u106, .int .i64 (m : Nat), .int .i64 (kk : Nat), .int .i64 (i : Nat), .bool true, u111, u112, .slice (some ⟨g, 0, none⟩) N cap, .int .i64 (kk : Nat), .slice (some ⟨g, 0, none⟩) N cap, .int .i64 (kk : Nat), .int .i64 (q : Nat), .slice (some ⟨g, 0, none⟩) N cap, .int .i64 (kk : Nat), .int .i64 (q : Nat), .pointer (some ⟨g, q * 2, none⟩), .agg #[.int .i64 (ptAt qs q).t, .int .u64 ((ptAt qs q).v : Nat)], .slice (some ⟨g, 0, none⟩) N cap, .int .i64 (kk : Nat), .pointer (some ⟨g, kk * 2, none⟩), .agg #[.int .i64 (ptAt qs kk).t, .int .u64 ((ptAt qs kk).v : Nat)], .pointer (some ⟨g, kk * 2, none⟩), .pointer (some ⟨g, q * 2, none⟩), undef, undef, undef, undef, undef, undef, undef, undef, undef, undef, undef, undef, undef, undef, undef, undef, undef, undef, undef, undef, undef, undef, undef, undef, undef, undef, undef, undef, undef, undef, undef, undef, undef, undef, undef, undef, undef, undef, undef, undef, undef, undef, undef, undef, undef, undef, undef, undef, undef, undef, undef, undef, undef, undef, undef, undef, undef, undef, undef, undef, undef, undef, undef, undef, undef, undef, undef, undef, undef, undef, undef, undef, undef, undef, undef, undef, undef, undef, undef, undef, undef, undef, undef, undef, undef, undef, undef, undef, undef, undef, undef], defers := [] }) ?r6 ?k6
          case r6 =>
            refine wpIn_region_inv (by kernel_rfl) (by kernel_rfl) (fun listed a' w' => ∃ u113 u114 u115 u116 u117 u118 u119 u120 u121 u122 u123 u124 u125 u126 u127 u128 : Value, a' = { tmps := #[.slice (some ⟨g, 0, none⟩) N cap, .int .i64 (a : Nat), .int .i64 (m : Nat), .int .i64 (b : Nat), .func (.func 56) #[] #[], undef, undef, undef, undef, undef, undef, undef, undef, undef, .int .i64 (i : Nat), .int .i64 (i : Nat), u16, .int .i64 (kk : Nat), undef, undef, undef, undef, undef, undef, undef, .int .i64 (m : Nat), .int .i64 (a : Nat), .int .i64 (d : Nat), .bool false, undef, undef, undef, undef, undef, undef, undef, undef, undef, undef, undef, undef, undef, undef, undef, undef, undef, undef, undef, undef, undef, undef, undef, undef, undef, undef, undef, undef, undef, undef, undef, undef, undef, undef, undef, undef, undef, undef, undef, undef, undef, undef, undef, undef, undef, undef, undef, undef, .int .i64 (b : Nat), .int .i64 (m : Nat), .int .i64 1, .bool true, .int .i64 (a : Nat), .int .i64 (m : Nat), .int .i64 (i : Nat), .int .i64 (i : Nat), .bool false, u86, u87, u88, u89, u90, u91, u92, u93, u94, u95, u96, u97, u98, u99, u100, u101, u102, u103, u104, u105, u106, .int .i64 (m : Nat), .int .i64 (kk : Nat), .int .i64 (i : Nat), .bool true, u111, u112, u113, u114, u115, u116, u117, u118, u119, u120, u121, u122, u123, u124, u125, u126, u127, u128, undef, undef, undef, undef, undef, undef, undef, undef, undef, undef, undef, undef, undef, undef, undef, undef, undef, undef, undef, undef, undef, undef, undef, undef, undef, undef, undef, undef, undef, undef, undef, undef, undef, undef, undef, undef, undef, undef, undef, undef, undef, undef, undef, undef, undef, undef, undef, undef, undef, undef, undef, undef, undef, undef, undef, undef, undef, undef, undef, undef, undef, undef, undef, undef, undef, undef, undef, undef, undef, undef, undef, undef, undef, undef, undef, undef, undef, undef, undef, undef, undef, undef, undef, undef, undef, undef, undef, undef, undef, undef, undef], defers := [] } ∧ Hid (MgDnS wr g N cap kk q qs tail listed u113 u114 u115 u116 u117 u118 u119 u120 u121 u122 u123 u124 u125 u126 u127 u128 w')) ?s0 ?send ?sstep
            case s0 => exact ⟨_, _, _, _, _, _, _, _, _, _, _, _, _, _, _, _, rfl, MgDnS.start (rfl)⟩
            case send =>
              rintro listed a' w' hall ⟨u113, u114, u115, u116, u117, u118, u119, u120, u121, u122, u123, u124, u125, u126, u127, u128, rfl, HI⟩
              obtain rfl := HI.out.e0 (hall 0 (by decide))
              obtain rfl := HI.out.e1 (hall 1 (by decide))
              obtain rfl := HI.out.e2 (hall 2 (by decide))
              obtain rfl := HI.out.e3 (hall 3 (by decide))
              obtain rfl := HI.out.e4 (hall 4 (by decide))
              obtain rfl := HI.out.e5 (hall 5 (by decide))
              obtain rfl := HI.out.e6 (hall 6 (by decide))
              obtain rfl := HI.out.e7 (hall 7 (by decide))
              obtain rfl := HI.out.e8 (hall 8 (by decide))
              obtain rfl := HI.out.e9 (hall 9 (by decide))
              obtain rfl := HI.out.e10 (hall 10 (by decide))
              obtain rfl := HI.out.e11 (hall 11 (by decide))
              obtain rfl := HI.out.e12 (hall 12 (by decide))
              obtain rfl := HI.out.e13 (hall 13 (by decide))
              obtain rfl := HI.out.e14 (hall 14 (by decide))
              obtain rfl := HI.out.e16 (hall 16 (by decide))
              have hw := HI.out.x2 (hall 17 (by decide))
              exact ⟨hw, rfl⟩
            case sstep =>
              rintro listed a' w' i o ho hi hd hdep hcl ⟨u113, u114, u115, u116, u117, u118, u119, u120, u121, u122, u123, u124, u125, u126, u127, u128, rfl, HI⟩ K hK
              match i, ho with
              | 0, ho =>
                cases ho
                go_simp
                refine hK _ _ ⟨_, _, _, _, _, _, _, _, _, _, _, _, _, _, _, _, rfl, ?_⟩
                exact HI.out.s0
              | 1, ho =>
                cases ho
                go_simp
                refine hK _ _ ⟨_, _, _, _, _, _, _, _, _, _, _, _, _, _, _, _, rfl, ?_⟩
                exact HI.out.s1
              | 2, ho =>
                cases ho
                go_simp
                refine hK _ _ ⟨_, _, _, _, _, _, _, _, _, _, _, _, _, _, _, _, rfl, ?_⟩
                exact HI.out.s2
              | 3, ho =>
                cases ho
                go_simp
                refine hK _ _ ⟨_, _, _, _, _, _, _, _, _, _, _, _, _, _, _, _, rfl, ?_⟩
                exact HI.out.s3
              | 4, ho =>
                cases ho
                have d3 := hdep ⟨3, .data⟩ (by simp) rfl
                obtain rfl := HI.out.e3 d3
                go_simp
                refine hK _ _ ⟨_, _, _, _, _, _, _, _, _, _, _, _, _, _, _, _, rfl, ?_⟩
                exact HI.out.s4
              | 5, ho =>
                cases ho
                go_simp
                refine hK _ _ ⟨_, _, _, _, _, _, _, _, _, _, _, _, _, _, _, _, rfl, ?_⟩
                exact HI.out.s5
              | 6, ho =>
                cases ho
                go_simp
                refine hK _ _ ⟨_, _, _, _, _, _, _, _, _, _, _, _, _, _, _, _, rfl, ?_⟩
                exact HI.out.s6
              | 7, ho =>
                cases ho
                have d6 := hdep ⟨6, .data⟩ (by simp) rfl
                obtain rfl := HI.out.e6 d6
                go_simp
                refine hK _ _ ⟨_, _, _, _, _, _, _, _, _, _, _, _, _, _, _, _, rfl, ?_⟩
                exact HI.out.s7
              | 8, ho =>
                cases ho
                have d5 := hdep ⟨5, .data⟩ (by simp) rfl
                obtain rfl := HI.out.e5 d5
                have d7 := hdep ⟨7, .data⟩ (by simp) rfl
                obtain rfl := HI.out.e7 d7
                go_simp
                refine hK _ _ ⟨_, _, _, _, _, _, _, _, _, _, _, _, _, _, _, _, rfl, ?_⟩
                exact HI.out.s8
              | 9, ho =>
                cases ho
                have d8 := hdep ⟨8, .data⟩ (by simp) rfl
                obtain rfl := HI.out.e8 d8
                have q15 : done listed 15 = false := nd hcl (j := 15) rfl ⟨9, .data⟩ (by simp) rfl hd
                have hw := HI.out.x0 q15
                subst hw
                go_simp
                refine hK _ _ ⟨_, _, _, _, _, _, _, _, _, _, _, _, _, _, _, _, rfl, ?_⟩
                exact HI.out.s9
              | 10, ho =>
                cases ho
                go_simp
                refine hK _ _ ⟨_, _, _, _, _, _, _, _, _, _, _, _, _, _, _, _, rfl, ?_⟩
                exact HI.out.s10
              | 11, ho =>
                cases ho
                go_simp
                refine hK _ _ ⟨_, _, _, _, _, _, _, _, _, _, _, _, _, _, _, _, rfl, ?_⟩
                exact HI.out.s11
              | 12, ho =>
                cases ho
                have d10 := hdep ⟨10, .data⟩ (by simp) rfl
                obtain rfl := HI.out.e10 d10
                have d11 := hdep ⟨11, .data⟩ (by simp) rfl
                obtain rfl := HI.out.e11 d11
                go_simp
                refine hK _ _ ⟨_, _, _, _, _, _, _, _, _, _, _, _, _, _, _, _, rfl, ?_⟩
                exact HI.out.s12
              | 13, ho =>
                cases ho
                have d12 := hdep ⟨12, .data⟩ (by simp) rfl
                obtain rfl := HI.out.e12 d12
                have q15 : done listed 15 = false := nd hcl (j := 15) rfl ⟨13, .phase⟩ (by simp) rfl hd
                have hw := HI.out.x0 q15
                subst hw
                go_simp
                refine hK _ _ ⟨_, _, _, _, _, _, _, _, _, _, _, _, _, _, _, _, rfl, ?_⟩
                exact HI.out.s13
              | 14, ho =>
                cases ho
                have d0 := hdep ⟨0, .data⟩ (by simp) rfl
                obtain rfl := HI.out.e0 d0
                have d1 := hdep ⟨1, .data⟩ (by simp) rfl
                obtain rfl := HI.out.e1 d1
                go_simp
                refine hK _ _ ⟨_, _, _, _, _, _, _, _, _, _, _, _, _, _, _, _, rfl, ?_⟩
                exact HI.out.s14
              | 15, ho =>
                cases ho
                have d14 := hdep ⟨14, .data⟩ (by simp) rfl
                obtain rfl := HI.out.e14 d14
                have d9 := hdep ⟨9, .data⟩ (by simp) rfl
                obtain rfl := HI.out.e9 d9
                have hw := HI.out.x0 hd
                have q17 : done listed 17 = false := nd hcl (j := 17) rfl ⟨15, .chain⟩ (by simp) rfl hd
                have hn := q17
                subst hw
                go_simp
                refine hK _ _ ⟨_, _, _, _, _, _, _, _, _, _, _, _, _, _, _, _, rfl, ?_⟩
                exact HI.out.s15 hi hn (⟨PB.put HB.out.drew kk (by omega) (ptAt qs q), Fp.trans' (Fp.drew _ wr) (Fp.trans' (Fp.setCell _ _ _ rfl) (Fp.setCell _ _ _ rfl))⟩)
              | 16, ho =>
                cases ho
                have d2 := hdep ⟨2, .data⟩ (by simp) rfl
                obtain rfl := HI.out.e2 d2
                have d4 := hdep ⟨4, .data⟩ (by simp) rfl
                obtain rfl := HI.out.e4 d4
                go_simp
                refine hK _ _ ⟨_, _, _, _, _, _, _, _, _, _, _, _, _, _, _, _, rfl, ?_⟩
                exact HI.out.s16
              | 17, ho =>
                cases ho
                have d16 := hdep ⟨16, .data⟩ (by simp) rfl
                obtain rfl := HI.out.e16 d16
                have d13 := hdep ⟨13, .data⟩ (by simp) rfl
                obtain rfl := HI.out.e13 d13
                have hp := hdep ⟨15, .chain⟩ (by simp) rfl
                have hw := HI.out.x1 hp hd
                have hb1 := hw.1
                have hc1 := hb1.cell q (by simp; omega)
                have hz1 := hb1.frozen
                have hc2 := hc1.1
                have hc3 := hc1.2
                go_simp
                refine hK _ _ ⟨_, _, _, _, _, _, _, _, _, _, _, _, _, _, _, _, rfl, ?_⟩
                exact HI.out.s17 hi hp (⟨PB.put hw.1 q (by simp; omega) (ptAt qs kk), Fp.trans' hw.2 (Fp.trans' (Fp.setCell _ _ _ rfl) (Fp.setCell _ _ _ rfl))⟩)
          rintro a' w6 ⟨h6, rfl⟩
          dsimp only
          have H6 : Hid _ := h6
          clear h6 c0 c1 c2 c3 hfz e6
          gi_wp2
          go_roundw
          case rel =>
            obtain ⟨hup, hfp, hq⟩ := HP.out
            subst hq
            refine ⟨q, by omega, by omega, by go_num, sw qs (q + 1) q, H6.out.1, hup.step (by omega) hk2 (by have := H.out.1; omega) (HR.out.2.2.1 _ (by omega) (by omega)), hfp.trans' H6.out.2⟩
          case measure => simp [intOf]; omega
        · gi_wp2
          (try simp only [Exit.inBlock, Exit.then])
          refine bodyPost_ret (results_none rfl _ _ _) rfl ?_
          obtain ⟨qs, h1, h2, h3⟩ := HQ.out
          have e1 := HM.out
          obtain rfl : kk = i := by omega
          subst e1
          exact ⟨rfl, qs, h1, h2.wi, Silo.Down.stop h2 hk2 HR.out.2.1, h3⟩

end Go.Proofs.Ytojjkjfcbfoinaa
