/- The library's merge in place, both stretches of two points or more. -/
import Derived.Test.YtojjkjfcbfoinaaSortD
namespace Go.Proofs.Ytojjkjfcbfoinaa
open Go.RowKit
open Silo (ptAt sw rot)
attribute [local go_sem] Oper.semAt_some

/-- What a merge of the stretches a to m, m to b does. -/
def MergeOk (N g cap : Nat) (tail : List Value) (a m b : Nat) : Prop :=
  ∀ (ps : List Silo.Pt) (w : World), ps.length = N → PB w g ps tail → Silo.Sorted ps a m → Silo.Sorted ps m b →
    Calls Try.prog 84 #[.slice (some ⟨g, 0, none⟩) N cap, .int .i64 a, .int .i64 m, .int .i64 b, .func (.func 56) #[] #[]] w fun e w' => e = .returned (.tuple #[]) ∧
      ∃ qs, PB w' g qs tail ∧ Silo.Within ps qs a b ∧ Silo.Sorted qs a b ∧ Fp (fun k => k = g) w w'

structure MgC (W : World) (g N cap p c q : Nat) (ps : List Silo.Pt) (listed : Array Bool) (u158 u159 u160 u161 u162 u163 u164 u165 u166 u167 u168 u169 u170 u171 : Value) (w' : World) : Prop where
  e0 : done listed 0 = true → u158 = .func (.func 56) #[] #[]
  e1 : done listed 1 = true → u159 = .slice (some ⟨g, 0, none⟩) N cap
  e2 : done listed 2 = true → u160 = .int .i64 (p : Nat)
  e3 : done listed 3 = true → u161 = .int .i64 (c : Nat)
  e4 : done listed 4 = true → u162 = .int .i64 (q : Nat)
  e5 : done listed 5 = true → u163 = .pointer (some ⟨g, q * 2, none⟩)
  e6 : done listed 6 = true → u164 = .agg #[.int .i64 (ptAt ps q).t, .int .u64 ((ptAt ps q).v : Nat)]
  e7 : done listed 7 = true → u165 = .slice (some ⟨g, 0, none⟩) N cap
  e8 : done listed 8 = true → u166 = .int .i64 (c : Nat)
  e9 : done listed 9 = true → u167 = .pointer (some ⟨g, c * 2, none⟩)
  e10 : done listed 10 = true → u168 = .agg #[.int .i64 (ptAt ps c).t, .int .u64 ((ptAt ps c).v : Nat)]
  e11 : done listed 11 = true → u169 = .int .i64 (cmpI (ptAt ps q).t (ptAt ps c).t)
  e12 : done listed 12 = true → u170 = .bool (decide (cmpI (ptAt ps q).t (ptAt ps c).t < 0))
  e13 : done listed 13 = true → u171 = .bool (!decide (cmpI (ptAt ps q).t (ptAt ps c).t < 0))
  x0 : done listed 11 = false → w' = W.drew
  x1 : done listed 11 = true → Fp (fun _ => False) W w'

section
variable {W : World} {g N cap p c q : Nat} {ps : List Silo.Pt} {listed : Array Bool} {u158 u159 u160 u161 u162 u163 u164 u165 u166 u167 u168 u169 u170 u171 : Value} {w' : World}

theorem MgC.start {k : Nat} (h : w' = W.drew) : MgC W g N cap p c q ps (Array.replicate k false) u158 u159 u160 u161 u162 u163 u164 u165 u166 u167 u168 u169 u170 u171 w' := by
  constructor <;> first | exact h | (intro d; first | exact h | (rw [done_rep] at d; cases d))

theorem MgC.s0 (h : MgC W g N cap p c q ps listed u158 u159 u160 u161 u162 u163 u164 u165 u166 u167 u168 u169 u170 u171 w') : MgC W g N cap p c q ps (listed.setIfInBounds 0 true) (.func (.func 56) #[] #[]) u159 u160 u161 u162 u163 u164 u165 u166 u167 u168 u169 u170 u171 w' :=
  ⟨fun _ => rfl, fun d => h.e1 (done_of_set d (by decide)), fun d => h.e2 (done_of_set d (by decide)), fun d => h.e3 (done_of_set d (by decide)), fun d => h.e4 (done_of_set d (by decide)), fun d => h.e5 (done_of_set d (by decide)), fun d => h.e6 (done_of_set d (by decide)), fun d => h.e7 (done_of_set d (by decide)), fun d => h.e8 (done_of_set d (by decide)), fun d => h.e9 (done_of_set d (by decide)), fun d => h.e10 (done_of_set d (by decide)), fun d => h.e11 (done_of_set d (by decide)), fun d => h.e12 (done_of_set d (by decide)), fun d => h.e13 (done_of_set d (by decide)), fun d => h.x0 (undone_of_set d), fun d => h.x1 (done_of_set d (by decide))⟩

theorem MgC.s1 (h : MgC W g N cap p c q ps listed u158 u159 u160 u161 u162 u163 u164 u165 u166 u167 u168 u169 u170 u171 w') : MgC W g N cap p c q ps (listed.setIfInBounds 1 true) u158 (.slice (some ⟨g, 0, none⟩) N cap) u160 u161 u162 u163 u164 u165 u166 u167 u168 u169 u170 u171 w' :=
  ⟨fun d => h.e0 (done_of_set d (by decide)), fun _ => rfl, fun d => h.e2 (done_of_set d (by decide)), fun d => h.e3 (done_of_set d (by decide)), fun d => h.e4 (done_of_set d (by decide)), fun d => h.e5 (done_of_set d (by decide)), fun d => h.e6 (done_of_set d (by decide)), fun d => h.e7 (done_of_set d (by decide)), fun d => h.e8 (done_of_set d (by decide)), fun d => h.e9 (done_of_set d (by decide)), fun d => h.e10 (done_of_set d (by decide)), fun d => h.e11 (done_of_set d (by decide)), fun d => h.e12 (done_of_set d (by decide)), fun d => h.e13 (done_of_set d (by decide)), fun d => h.x0 (undone_of_set d), fun d => h.x1 (done_of_set d (by decide))⟩

theorem MgC.s2 (h : MgC W g N cap p c q ps listed u158 u159 u160 u161 u162 u163 u164 u165 u166 u167 u168 u169 u170 u171 w') : MgC W g N cap p c q ps (listed.setIfInBounds 2 true) u158 u159 (.int .i64 (p : Nat)) u161 u162 u163 u164 u165 u166 u167 u168 u169 u170 u171 w' :=
  ⟨fun d => h.e0 (done_of_set d (by decide)), fun d => h.e1 (done_of_set d (by decide)), fun _ => rfl, fun d => h.e3 (done_of_set d (by decide)), fun d => h.e4 (done_of_set d (by decide)), fun d => h.e5 (done_of_set d (by decide)), fun d => h.e6 (done_of_set d (by decide)), fun d => h.e7 (done_of_set d (by decide)), fun d => h.e8 (done_of_set d (by decide)), fun d => h.e9 (done_of_set d (by decide)), fun d => h.e10 (done_of_set d (by decide)), fun d => h.e11 (done_of_set d (by decide)), fun d => h.e12 (done_of_set d (by decide)), fun d => h.e13 (done_of_set d (by decide)), fun d => h.x0 (undone_of_set d), fun d => h.x1 (done_of_set d (by decide))⟩

theorem MgC.s3 (h : MgC W g N cap p c q ps listed u158 u159 u160 u161 u162 u163 u164 u165 u166 u167 u168 u169 u170 u171 w') : MgC W g N cap p c q ps (listed.setIfInBounds 3 true) u158 u159 u160 (.int .i64 (c : Nat)) u162 u163 u164 u165 u166 u167 u168 u169 u170 u171 w' :=
  ⟨fun d => h.e0 (done_of_set d (by decide)), fun d => h.e1 (done_of_set d (by decide)), fun d => h.e2 (done_of_set d (by decide)), fun _ => rfl, fun d => h.e4 (done_of_set d (by decide)), fun d => h.e5 (done_of_set d (by decide)), fun d => h.e6 (done_of_set d (by decide)), fun d => h.e7 (done_of_set d (by decide)), fun d => h.e8 (done_of_set d (by decide)), fun d => h.e9 (done_of_set d (by decide)), fun d => h.e10 (done_of_set d (by decide)), fun d => h.e11 (done_of_set d (by decide)), fun d => h.e12 (done_of_set d (by decide)), fun d => h.e13 (done_of_set d (by decide)), fun d => h.x0 (undone_of_set d), fun d => h.x1 (done_of_set d (by decide))⟩

theorem MgC.s4 (h : MgC W g N cap p c q ps listed u158 u159 u160 u161 u162 u163 u164 u165 u166 u167 u168 u169 u170 u171 w') : MgC W g N cap p c q ps (listed.setIfInBounds 4 true) u158 u159 u160 u161 (.int .i64 (q : Nat)) u163 u164 u165 u166 u167 u168 u169 u170 u171 w' :=
  ⟨fun d => h.e0 (done_of_set d (by decide)), fun d => h.e1 (done_of_set d (by decide)), fun d => h.e2 (done_of_set d (by decide)), fun d => h.e3 (done_of_set d (by decide)), fun _ => rfl, fun d => h.e5 (done_of_set d (by decide)), fun d => h.e6 (done_of_set d (by decide)), fun d => h.e7 (done_of_set d (by decide)), fun d => h.e8 (done_of_set d (by decide)), fun d => h.e9 (done_of_set d (by decide)), fun d => h.e10 (done_of_set d (by decide)), fun d => h.e11 (done_of_set d (by decide)), fun d => h.e12 (done_of_set d (by decide)), fun d => h.e13 (done_of_set d (by decide)), fun d => h.x0 (undone_of_set d), fun d => h.x1 (done_of_set d (by decide))⟩

theorem MgC.s5 (h : MgC W g N cap p c q ps listed u158 u159 u160 u161 u162 u163 u164 u165 u166 u167 u168 u169 u170 u171 w') : MgC W g N cap p c q ps (listed.setIfInBounds 5 true) u158 u159 u160 u161 u162 (.pointer (some ⟨g, q * 2, none⟩)) u164 u165 u166 u167 u168 u169 u170 u171 w' :=
  ⟨fun d => h.e0 (done_of_set d (by decide)), fun d => h.e1 (done_of_set d (by decide)), fun d => h.e2 (done_of_set d (by decide)), fun d => h.e3 (done_of_set d (by decide)), fun d => h.e4 (done_of_set d (by decide)), fun _ => rfl, fun d => h.e6 (done_of_set d (by decide)), fun d => h.e7 (done_of_set d (by decide)), fun d => h.e8 (done_of_set d (by decide)), fun d => h.e9 (done_of_set d (by decide)), fun d => h.e10 (done_of_set d (by decide)), fun d => h.e11 (done_of_set d (by decide)), fun d => h.e12 (done_of_set d (by decide)), fun d => h.e13 (done_of_set d (by decide)), fun d => h.x0 (undone_of_set d), fun d => h.x1 (done_of_set d (by decide))⟩

theorem MgC.s6 (h : MgC W g N cap p c q ps listed u158 u159 u160 u161 u162 u163 u164 u165 u166 u167 u168 u169 u170 u171 w') : MgC W g N cap p c q ps (listed.setIfInBounds 6 true) u158 u159 u160 u161 u162 u163 (.agg #[.int .i64 (ptAt ps q).t, .int .u64 ((ptAt ps q).v : Nat)]) u165 u166 u167 u168 u169 u170 u171 w' :=
  ⟨fun d => h.e0 (done_of_set d (by decide)), fun d => h.e1 (done_of_set d (by decide)), fun d => h.e2 (done_of_set d (by decide)), fun d => h.e3 (done_of_set d (by decide)), fun d => h.e4 (done_of_set d (by decide)), fun d => h.e5 (done_of_set d (by decide)), fun _ => rfl, fun d => h.e7 (done_of_set d (by decide)), fun d => h.e8 (done_of_set d (by decide)), fun d => h.e9 (done_of_set d (by decide)), fun d => h.e10 (done_of_set d (by decide)), fun d => h.e11 (done_of_set d (by decide)), fun d => h.e12 (done_of_set d (by decide)), fun d => h.e13 (done_of_set d (by decide)), fun d => h.x0 (undone_of_set d), fun d => h.x1 (done_of_set d (by decide))⟩

theorem MgC.s7 (h : MgC W g N cap p c q ps listed u158 u159 u160 u161 u162 u163 u164 u165 u166 u167 u168 u169 u170 u171 w') : MgC W g N cap p c q ps (listed.setIfInBounds 7 true) u158 u159 u160 u161 u162 u163 u164 (.slice (some ⟨g, 0, none⟩) N cap) u166 u167 u168 u169 u170 u171 w' :=
  ⟨fun d => h.e0 (done_of_set d (by decide)), fun d => h.e1 (done_of_set d (by decide)), fun d => h.e2 (done_of_set d (by decide)), fun d => h.e3 (done_of_set d (by decide)), fun d => h.e4 (done_of_set d (by decide)), fun d => h.e5 (done_of_set d (by decide)), fun d => h.e6 (done_of_set d (by decide)), fun _ => rfl, fun d => h.e8 (done_of_set d (by decide)), fun d => h.e9 (done_of_set d (by decide)), fun d => h.e10 (done_of_set d (by decide)), fun d => h.e11 (done_of_set d (by decide)), fun d => h.e12 (done_of_set d (by decide)), fun d => h.e13 (done_of_set d (by decide)), fun d => h.x0 (undone_of_set d), fun d => h.x1 (done_of_set d (by decide))⟩

theorem MgC.s8 (h : MgC W g N cap p c q ps listed u158 u159 u160 u161 u162 u163 u164 u165 u166 u167 u168 u169 u170 u171 w') : MgC W g N cap p c q ps (listed.setIfInBounds 8 true) u158 u159 u160 u161 u162 u163 u164 u165 (.int .i64 (c : Nat)) u167 u168 u169 u170 u171 w' :=
  ⟨fun d => h.e0 (done_of_set d (by decide)), fun d => h.e1 (done_of_set d (by decide)), fun d => h.e2 (done_of_set d (by decide)), fun d => h.e3 (done_of_set d (by decide)), fun d => h.e4 (done_of_set d (by decide)), fun d => h.e5 (done_of_set d (by decide)), fun d => h.e6 (done_of_set d (by decide)), fun d => h.e7 (done_of_set d (by decide)), fun _ => rfl, fun d => h.e9 (done_of_set d (by decide)), fun d => h.e10 (done_of_set d (by decide)), fun d => h.e11 (done_of_set d (by decide)), fun d => h.e12 (done_of_set d (by decide)), fun d => h.e13 (done_of_set d (by decide)), fun d => h.x0 (undone_of_set d), fun d => h.x1 (done_of_set d (by decide))⟩

theorem MgC.s9 (h : MgC W g N cap p c q ps listed u158 u159 u160 u161 u162 u163 u164 u165 u166 u167 u168 u169 u170 u171 w') : MgC W g N cap p c q ps (listed.setIfInBounds 9 true) u158 u159 u160 u161 u162 u163 u164 u165 u166 (.pointer (some ⟨g, c * 2, none⟩)) u168 u169 u170 u171 w' :=
  ⟨fun d => h.e0 (done_of_set d (by decide)), fun d => h.e1 (done_of_set d (by decide)), fun d => h.e2 (done_of_set d (by decide)), fun d => h.e3 (done_of_set d (by decide)), fun d => h.e4 (done_of_set d (by decide)), fun d => h.e5 (done_of_set d (by decide)), fun d => h.e6 (done_of_set d (by decide)), fun d => h.e7 (done_of_set d (by decide)), fun d => h.e8 (done_of_set d (by decide)), fun _ => rfl, fun d => h.e10 (done_of_set d (by decide)), fun d => h.e11 (done_of_set d (by decide)), fun d => h.e12 (done_of_set d (by decide)), fun d => h.e13 (done_of_set d (by decide)), fun d => h.x0 (undone_of_set d), fun d => h.x1 (done_of_set d (by decide))⟩

theorem MgC.s10 (h : MgC W g N cap p c q ps listed u158 u159 u160 u161 u162 u163 u164 u165 u166 u167 u168 u169 u170 u171 w') : MgC W g N cap p c q ps (listed.setIfInBounds 10 true) u158 u159 u160 u161 u162 u163 u164 u165 u166 u167 (.agg #[.int .i64 (ptAt ps c).t, .int .u64 ((ptAt ps c).v : Nat)]) u169 u170 u171 w' :=
  ⟨fun d => h.e0 (done_of_set d (by decide)), fun d => h.e1 (done_of_set d (by decide)), fun d => h.e2 (done_of_set d (by decide)), fun d => h.e3 (done_of_set d (by decide)), fun d => h.e4 (done_of_set d (by decide)), fun d => h.e5 (done_of_set d (by decide)), fun d => h.e6 (done_of_set d (by decide)), fun d => h.e7 (done_of_set d (by decide)), fun d => h.e8 (done_of_set d (by decide)), fun d => h.e9 (done_of_set d (by decide)), fun _ => rfl, fun d => h.e11 (done_of_set d (by decide)), fun d => h.e12 (done_of_set d (by decide)), fun d => h.e13 (done_of_set d (by decide)), fun d => h.x0 (undone_of_set d), fun d => h.x1 (done_of_set d (by decide))⟩

theorem MgC.s11 {w2 : World} (h : MgC W g N cap p c q ps listed u158 u159 u160 u161 u162 u163 u164 u165 u166 u167 u168 u169 u170 u171 w') (hi : 11 < listed.size) (hS : Fp (fun _ => False) W w2) : MgC W g N cap p c q ps (listed.setIfInBounds 11 true) u158 u159 u160 u161 u162 u163 u164 u165 u166 u167 u168 (.int .i64 (cmpI (ptAt ps q).t (ptAt ps c).t)) u170 u171 w2 :=
  ⟨fun d => h.e0 (done_of_set d (by decide)), fun d => h.e1 (done_of_set d (by decide)), fun d => h.e2 (done_of_set d (by decide)), fun d => h.e3 (done_of_set d (by decide)), fun d => h.e4 (done_of_set d (by decide)), fun d => h.e5 (done_of_set d (by decide)), fun d => h.e6 (done_of_set d (by decide)), fun d => h.e7 (done_of_set d (by decide)), fun d => h.e8 (done_of_set d (by decide)), fun d => h.e9 (done_of_set d (by decide)), fun d => h.e10 (done_of_set d (by decide)), fun _ => rfl, fun d => h.e12 (done_of_set d (by decide)), fun d => h.e13 (done_of_set d (by decide)), fun D => absurd D (by rw [done_set_same hi]; decide), fun _ => hS⟩

theorem MgC.s12 (h : MgC W g N cap p c q ps listed u158 u159 u160 u161 u162 u163 u164 u165 u166 u167 u168 u169 u170 u171 w') : MgC W g N cap p c q ps (listed.setIfInBounds 12 true) u158 u159 u160 u161 u162 u163 u164 u165 u166 u167 u168 u169 (.bool (decide (cmpI (ptAt ps q).t (ptAt ps c).t < 0))) u171 w' :=
  ⟨fun d => h.e0 (done_of_set d (by decide)), fun d => h.e1 (done_of_set d (by decide)), fun d => h.e2 (done_of_set d (by decide)), fun d => h.e3 (done_of_set d (by decide)), fun d => h.e4 (done_of_set d (by decide)), fun d => h.e5 (done_of_set d (by decide)), fun d => h.e6 (done_of_set d (by decide)), fun d => h.e7 (done_of_set d (by decide)), fun d => h.e8 (done_of_set d (by decide)), fun d => h.e9 (done_of_set d (by decide)), fun d => h.e10 (done_of_set d (by decide)), fun d => h.e11 (done_of_set d (by decide)), fun _ => rfl, fun d => h.e13 (done_of_set d (by decide)), fun d => h.x0 (undone_of_set d), fun d => h.x1 (done_of_set d (by decide))⟩

theorem MgC.s13 (h : MgC W g N cap p c q ps listed u158 u159 u160 u161 u162 u163 u164 u165 u166 u167 u168 u169 u170 u171 w') : MgC W g N cap p c q ps (listed.setIfInBounds 13 true) u158 u159 u160 u161 u162 u163 u164 u165 u166 u167 u168 u169 u170 (.bool (!decide (cmpI (ptAt ps q).t (ptAt ps c).t < 0))) w' :=
  ⟨fun d => h.e0 (done_of_set d (by decide)), fun d => h.e1 (done_of_set d (by decide)), fun d => h.e2 (done_of_set d (by decide)), fun d => h.e3 (done_of_set d (by decide)), fun d => h.e4 (done_of_set d (by decide)), fun d => h.e5 (done_of_set d (by decide)), fun d => h.e6 (done_of_set d (by decide)), fun d => h.e7 (done_of_set d (by decide)), fun d => h.e8 (done_of_set d (by decide)), fun d => h.e9 (done_of_set d (by decide)), fun d => h.e10 (done_of_set d (by decide)), fun d => h.e11 (done_of_set d (by decide)), fun d => h.e12 (done_of_set d (by decide)), fun _ => rfl, fun d => h.x0 (undone_of_set d), fun d => h.x1 (done_of_set d (by decide))⟩

end

set_option maxHeartbeats 4000000 in
set_option maxRecDepth 100000 in
theorem symMerge_hi (n : Nat) (hn : 5 ≤ n) (g cap a m b : Nat) (ps : List Silo.Pt) (tail : List Value) (w : World) (N : Nat) (hN : ps.length = N) (h : PB w g ps tail) (ham : a + 1 < m) (hmb : m + 1 < b) (hb : b ≤ N) (hl : N ≤ 1099511627776) (hs1 : Silo.Sorted ps a m) (hs2 : Silo.Sorted ps m b) (hm : (a + b) / 2 < m)
    (IH : ∀ a' m' b', b' - a' < b - a → a' < m' → m' < b' → b' ≤ N → MergeOk N g cap tail a' m' b') :
    CallsIn Fence.wide n Try.prog 84 #[.slice (some ⟨g, 0, none⟩) N cap, .int .i64 a, .int .i64 m, .int .i64 b, .func (.func 56) #[] #[]] w fun e w' => e = .returned (.tuple #[]) ∧
      ∃ qs, PB w' g qs tail ∧ Silo.Within ps qs a b ∧ Silo.Sorted qs a b ∧ Fp (fun k => k = g) w w' := by
  have H : Hid _ := And.intro hN (And.intro h (And.intro hs1 hs2))
  have HIH : Hid _ := IH
  clear h hN hs1 hs2 IH
  obtain ⟨d, hd⟩ : ∃ d, m - a = d := ⟨_, rfl⟩
  obtain ⟨d2, hd2⟩ : ∃ d2, b - m = d2 := ⟨_, rfl⟩
  obtain ⟨mid, hmid⟩ : ∃ mid, (a + b) / 2 = mid := ⟨_, rfl⟩
  obtain ⟨nn, hnn⟩ : ∃ nn, mid + m = nn := ⟨_, rfl⟩
  obtain ⟨p, hp⟩ : ∃ p, nn - 1 = p := ⟨_, rfl⟩
  obtain ⟨s0, hs0⟩ : ∃ s0, nn - b = s0 := ⟨_, rfl⟩
  rw [hmid] at hm
  have b0 : (m : Int) - (a : Int) = (d : Int) := by omega
  have b1 : ((d : Int) == 1) = false := by simp; omega
  have b2 : (b : Int) - (m : Int) = (d2 : Int) := by omega
  have b3 : ((d2 : Int) == 1) = false := by simp; omega
  have b4 : ((a : Int) + (b : Int)) / 2 = (mid : Int) := by omega
  have b5 : (mid : Int) + (m : Int) = (nn : Int) := by omega
  have b6 : (nn : Int) - 1 = (p : Int) := by omega
  have b7 : (nn : Int) - (b : Int) = (s0 : Int) := by omega
  have o1 : a < mid := by omega
  have o2 : mid < b := by omega
  have o3 : mid + m = p + 1 := by omega
  have o4 : p + 1 = nn := by omega
  have o5 : s0 + b = nn := by omega
  have o6 : a ≤ s0 := by omega
  have o7 : s0 ≤ mid := by omega
  have o8 : mid - a < b - a := by omega
  have o9 : b - mid < b - a := by omega
  have HE : Hid _ := And.intro hd (And.intro hd2 (And.intro hmid (And.intro hnn hp)))
  clear hd hd2 hmid hnn hp hs0
  refine callsIn_of_wp Try.func84 rfl trivial ?_ rfl
  simp only [Try.ntmps84, List.size_toArray, List.length_cons, List.length_nil, Nat.reduceAdd, Nat.reduceSub, Array.replicate_succ, Array.replicate_zero, List.push_toArray, List.append_toArray, List.nil_append, List.cons_append]
  gi_wp2_with fail
  gi_loopw [20, 21] (fun iv jv wr => ∃ s r : Nat, s0 ≤ s ∧ s ≤ r ∧ r ≤ mid ∧ iv = .int .i64 s ∧ jv = .int .i64 r ∧ Hid (PB wr g ps tail ∧ (∀ k, s0 ≤ k → k < s → (ptAt ps k).t ≤ (ptAt ps (p - k)).t) ∧ (∀ k, r ≤ k → k < mid → (ptAt ps (p - k)).t < (ptAt ps k).t) ∧ Fp (fun k => k = g) w wr)) (fun iv jv _ => (intOf jv).toNat - (intOf iv).toNat)
  case atStart => exact ⟨s0, mid, Nat.le_refl _, by omega, Nat.le_refl _, rfl, rfl, H.out.2.1, fun k h1 h2 => by omega, fun k h1 h2 => by omega, Fp.refl _ _⟩
  case round =>
    obtain ⟨s, r, hi, hij, hj, rfl, rfl, HR⟩ := hrel
    by_cases hlt : s < r
    · obtain ⟨c, hh⟩ : ∃ c, (s + r) / 2 = c := ⟨_, rfl⟩
      have bh : ((s : Int) + (r : Int)) / 2 = (c : Int) := by omega
      have h1 : s ≤ c := by omega
      have h2 : c < r := by omega
      clear hh
      obtain ⟨q, hq⟩ : ∃ q, p - c = q := ⟨_, rfl⟩
      have bq : (p : Int) - (c : Int) = (q : Int) := by omega
      have bw : IntKind.i64.wrap (q : Int) = (q : Int) := by rw [IntKind.wrap_i64]; omega
      have q1 : m ≤ q := by omega
      have q2 : q < b := by omega
      have q3 : q + c = p := by omega
      clear hq
      have l0 : ps.length = N := H.out.1
      have l1 : c < ps.length := by omega
      have l2 : q < ps.length := by omega
      have l3 : (c : Int) < (N : Int) := by omega
      have l4 : (q : Int) < (N : Int) := by omega
      obtain ⟨c0, c1⟩ := HR.out.1.cell c l1
      obtain ⟨c2, c3⟩ := HR.out.1.cell q l2
      clear l0
      gi_wp2_with fail
      refine wpIn_cut (fun a' w' => Fp (fun _ => False) wr w' ∧ a' = { tmps := #[.slice (some ⟨g, 0, none⟩) N cap, .int .i64 (a : Nat), .int .i64 (m : Nat), .int .i64 (b : Nat), .func (.func 56) #[] #[], undef, undef, undef, undef, undef, undef, undef, undef, undef, undef, undef, undef, undef, .int .i64 (mid : Nat), .int .i64 (nn : Nat), .int .i64 (s : Nat), .int .i64 (r : Nat), .int .i64 (p : Nat), .int .i64 (c : Nat), undef, .int .i64 (m : Nat), .int .i64 (a : Nat), .int .i64 (d : Nat), .bool false, undef, undef, undef, undef, undef, undef, undef, undef, undef, undef, undef, undef, undef, undef, undef, undef, undef, undef, undef, undef, undef, undef, undef, undef, undef, undef, undef, undef, undef, undef, undef, undef, undef, undef, undef, undef, undef, undef, undef, undef, undef, undef, undef, undef, undef, undef, undef, undef, .int .i64 (b : Nat), .int .i64 (m : Nat), .int .i64 (d2 : Nat), .bool false, undef, undef, undef, undef, undef, undef, undef, undef, undef, undef, undef, undef, undef, undef, undef, undef, undef, undef, undef, undef, undef, undef, undef, undef, undef, undef, undef, undef, undef, undef, undef, undef, undef, undef, undef, undef, undef, undef, undef, undef, undef, undef, undef, undef, undef, undef, undef, undef, .int .i64 (a : Nat), .int .i64 (b : Nat), .int .i64 (a + b), .int .u64 (a + b), .int .u64 (mid : Nat), .int .i64 (mid : Nat), .int .i64 (mid : Nat), .int .i64 (m : Nat), .int .i64 (nn : Nat), .int .i64 (m : Nat), .int .i64 (mid : Nat), .bool true, .int .i64 (nn : Nat), .int .i64 (b : Nat), .int .i64 (s0 : Nat), .int .i64 (mid : Nat), undef, undef, .int .i64 (nn : Nat), .int .i64 (p : Nat), .int .i64 (s : Nat), .int .i64 (r : Nat), .bool true, .int .i64 (s : Nat), .int .i64 (r : Nat), .int .i64 (s + r), .int .u64 (s + r), .int .u64 (c : Nat), .int .i64 (c : Nat), .func (.func 56) #[] #[], .slice (some ⟨g, 0, none⟩) N cap, .int .i64 (p : Nat), .int .i64 (c : Nat), .int .i64 (q : Nat), .pointer (some ⟨g, q * 2, none⟩), .agg #[.int .i64 (ptAt ps q).t, .int .u64 ((ptAt ps q).v : Nat)], .slice (some ⟨g, 0, none⟩) N cap, .int .i64 (c : Nat), .pointer (some ⟨g, c * 2, none⟩), .agg #[.int .i64 (ptAt ps c).t, .int .u64 ((ptAt ps c).v : Nat)], .int .i64 (cmpI (ptAt ps q).t (ptAt ps c).t), .bool (decide (cmpI (ptAt ps q).t (ptAt ps c).t < 0)), .bool (!decide (cmpI (ptAt ps q).t (ptAt ps c).t < 0)), u172, u173, u174, undef, undef, undef, undef, undef, undef, undef, undef, undef, undef, undef, undef, undef, undef, undef, undef, undef, undef, undef, undef, undef, undef, undef, undef, undef, undef, undef, undef, undef, undef, undef, undef, undef, undef, undef, undef, undef, undef, undef, undef, undef, undef, undef, undef, undef], defers := [] }) ?r4 ?k4
      case r4 =>
        refine wpIn_region_inv (by kernel_rfl) (by kernel_rfl) (fun listed a' w' => ∃ u158 u159 u160 u161 u162 u163 u164 u165 u166 u167 u168 u169 u170 u171 : Value, a' = { tmps := #[.slice (some ⟨g, 0, none⟩) N cap, .int .i64 (a : Nat), .int .i64 (m : Nat), .int .i64 (b : Nat), .func (.func 56) #[] #[], undef, undef, undef, undef, undef, undef, undef, undef, undef, undef, undef, undef, undef, .int .i64 (mid : Nat), .int .i64 (nn : Nat), .int .i64 (s : Nat), .int .i64 (r : Nat), .int .i64 (p : Nat), .int .i64 (c : Nat), undef, .int .i64 (m : Nat), .int .i64 (a : Nat), .int .i64 (d : Nat), .bool false, undef, undef, undef, undef, undef, undef, undef, undef, undef, undef, undef, undef, undef, undef, undef, undef, undef, undef, undef, undef, undef, undef, undef, undef, undef, undef, undef, undef, undef, undef, undef, undef, undef, undef, undef, undef, undef, undef, undef, undef, undef, undef, undef, undef, undef, undef, undef, undef, .int .i64 (b : Nat), .int .i64 (m : Nat), .int .i64 (d2 : Nat), .bool false, undef, undef, undef, undef, undef, undef, undef, undef, undef, undef, undef, undef, undef, undef, undef, undef, undef, undef, undef, undef, undef, undef, undef, undef, undef, undef, undef, undef, undef, undef, undef, undef, undef, undef, undef, undef, undef, undef, undef, undef, undef, undef, undef, undef, undef, undef, undef, undef, .int .i64 (a : Nat), .int .i64 (b : Nat), .int .i64 (a + b), .int .u64 (a + b), .int .u64 (mid : Nat), .int .i64 (mid : Nat), .int .i64 (mid : Nat), .int .i64 (m : Nat), .int .i64 (nn : Nat), .int .i64 (m : Nat), .int .i64 (mid : Nat), .bool true, .int .i64 (nn : Nat), .int .i64 (b : Nat), .int .i64 (s0 : Nat), .int .i64 (mid : Nat), undef, undef, .int .i64 (nn : Nat), .int .i64 (p : Nat), .int .i64 (s : Nat), .int .i64 (r : Nat), .bool true, .int .i64 (s : Nat), .int .i64 (r : Nat), .int .i64 (s + r), .int .u64 (s + r), .int .u64 (c : Nat), .int .i64 (c : Nat), u158, u159, u160, u161, u162, u163, u164, u165, u166, u167, u168, u169, u170, u171, u172, u173, u174, undef, undef, undef, undef, undef, undef, undef, undef, undef, undef, undef, undef, undef, undef, undef, undef, undef, undef, undef, undef, undef, undef, undef, undef, undef, undef, undef, undef, undef, undef, undef, undef, undef, undef, undef, undef, undef, undef, undef, undef, undef, undef, undef, undef, undef], defers := [] } ∧ Hid (MgC wr g N cap p c q ps listed u158 u159 u160 u161 u162 u163 u164 u165 u166 u167 u168 u169 u170 u171 w')) ?p0 ?pend ?pstep
        case p0 => exact ⟨_, _, _, _, _, _, _, _, _, _, _, _, _, _, rfl, MgC.start (rfl)⟩
        case pend =>
          rintro listed a' w' hall ⟨u158, u159, u160, u161, u162, u163, u164, u165, u166, u167, u168, u169, u170, u171, rfl, HI⟩
          obtain rfl := HI.out.e0 (hall 0 (by decide))
          obtain rfl := HI.out.e1 (hall 1 (by decide))
          obtain rfl := HI.out.e2 (hall 2 (by decide))
          obtain rfl := HI.out.e3 (hall 3 (by decide))
          obtain rfl := HI.out.e4 (hall 4 (by decide))
          obtain rfl := HI.out.e5 (hall 5 (by decide))
          obtain rfl := HI.out.e6 (hall 6 (by decide))
          obtain rfl := HI.out.e7 (hall 7 (by decide))
          obtain rfl := HI.out.e8 (hall 8 (by decide))
          obtain rfl := HI.out.e9 (hall 9 (by decide))
          obtain rfl := HI.out.e10 (hall 10 (by decide))
          obtain rfl := HI.out.e11 (hall 11 (by decide))
          obtain rfl := HI.out.e12 (hall 12 (by decide))
          obtain rfl := HI.out.e13 (hall 13 (by decide))
          have hw := HI.out.x1 (hall 11 (by decide))
          exact ⟨hw, rfl⟩
        case pstep =>
          rintro listed a' w' i o ho hi hd hdep hcl ⟨u158, u159, u160, u161, u162, u163, u164, u165, u166, u167, u168, u169, u170, u171, rfl, HI⟩ K hK
          match i, ho with
          | 0, ho =>
            cases ho
            go_simp
            refine hK _ _ ⟨_, _, _, _, _, _, _, _, _, _, _, _, _, _, rfl, ?_⟩
            exact HI.out.s0
          | 1, ho =>
            cases ho
            go_simp
            refine hK _ _ ⟨_, _, _, _, _, _, _, _, _, _, _, _, _, _, rfl, ?_⟩
            exact HI.out.s1
          | 2, ho =>
            cases ho
            go_simp
            refine hK _ _ ⟨_, _, _, _, _, _, _, _, _, _, _, _, _, _, rfl, ?_⟩
            exact HI.out.s2
          | 3, ho =>
            cases ho
            go_simp
            refine hK _ _ ⟨_, _, _, _, _, _, _, _, _, _, _, _, _, _, rfl, ?_⟩
            exact HI.out.s3
          | 4, ho =>
            cases ho
            have d2 := hdep ⟨2, .data⟩ (by simp) rfl
            obtain rfl := HI.out.e2 d2
            have d3 := hdep ⟨3, .data⟩ (by simp) rfl
            obtain rfl := HI.out.e3 d3
            go_simp
            refine hK _ _ ⟨_, _, _, _, _, _, _, _, _, _, _, _, _, _, rfl, ?_⟩
            exact HI.out.s4
          | 5, ho =>
            cases ho
            have d1 := hdep ⟨1, .data⟩ (by simp) rfl
            obtain rfl := HI.out.e1 d1
            have d4 := hdep ⟨4, .data⟩ (by simp) rfl
            obtain rfl := HI.out.e4 d4
            go_simp
            refine hK _ _ ⟨_, _, _, _, _, _, _, _, _, _, _, _, _, _, rfl, ?_⟩
            exact HI.out.s5
          | 6, ho =>
            cases ho
            have d5 := hdep ⟨5, .data⟩ (by simp) rfl
            obtain rfl := HI.out.e5 d5
            have q11 : done listed 11 = false := nd hcl (j := 11) rfl ⟨6, .data⟩ (by simp) rfl hd
            have hw := HI.out.x0 q11
            subst hw
            go_simp
            refine hK _ _ ⟨_, _, _, _, _, _, _, _, _, _, _, _, _, _, rfl, ?_⟩
            exact HI.out.s6
          | 7, ho =>
            cases ho
            go_simp
            refine hK _ _ ⟨_, _, _, _, _, _, _, _, _, _, _, _, _, _, rfl, ?_⟩
            exact HI.out.s7
          | 8, ho =>
            cases ho
            go_simp
            refine hK _ _ ⟨_, _, _, _, _, _, _, _, _, _, _, _, _, _, rfl, ?_⟩
            exact HI.out.s8
          | 9, ho =>
            cases ho
            have d7 := hdep ⟨7, .data⟩ (by simp) rfl
            obtain rfl := HI.out.e7 d7
            have d8 := hdep ⟨8, .data⟩ (by simp) rfl
            obtain rfl := HI.out.e8 d8
            go_simp
            refine hK _ _ ⟨_, _, _, _, _, _, _, _, _, _, _, _, _, _, rfl, ?_⟩
            exact HI.out.s9
          | 10, ho =>
            cases ho
            have d9 := hdep ⟨9, .data⟩ (by simp) rfl
            obtain rfl := HI.out.e9 d9
            have q11 : done listed 11 = false := nd hcl (j := 11) rfl ⟨10, .data⟩ (by simp) rfl hd
            have hw := HI.out.x0 q11
            subst hw
            go_simp
            refine hK _ _ ⟨_, _, _, _, _, _, _, _, _, _, _, _, _, _, rfl, ?_⟩
            exact HI.out.s10
          | 11, ho =>
            cases ho
            have d0 := hdep ⟨0, .data⟩ (by simp) rfl
            obtain rfl := HI.out.e0 d0
            have d6 := hdep ⟨6, .data⟩ (by simp) rfl
            obtain rfl := HI.out.e6 d6
            have d10 := hdep ⟨10, .data⟩ (by simp) rfl
            obtain rfl := HI.out.e10 d10
            have hw := HI.out.x0 hd
            subst hw
            go_simp
            refine ⟨trivial, fun _ => by omega, (callsIn_wide.2 (byTime_any (ptAt ps q).t (ptAt ps c).t _ _ wr.drew)).mono ?_⟩
            rintro e w5 ⟨rfl, h5⟩
            refine hK _ _ ⟨_, _, _, _, _, _, _, _, _, _, _, _, _, _, rfl, ?_⟩
            exact HI.out.s11 hi ((Fp.drew _ wr).trans' h5)
          | 12, ho =>
            cases ho
            have d11 := hdep ⟨11, .data⟩ (by simp) rfl
            obtain rfl := HI.out.e11 d11
            go_simp
            refine hK _ _ ⟨_, _, _, _, _, _, _, _, _, _, _, _, _, _, rfl, ?_⟩
            exact HI.out.s12
          | 13, ho =>
            cases ho
            have d12 := hdep ⟨12, .data⟩ (by simp) rfl
            obtain rfl := HI.out.e12 d12
            go_simp
            refine hK _ _ ⟨_, _, _, _, _, _, _, _, _, _, _, _, _, _, rfl, ?_⟩
            exact HI.out.s13
      rintro a' w5 ⟨hf4, rfl⟩
      dsimp only
      have hpb5 : PB w5 g ps tail := HR.out.1.fp hf4 (fun h => h)
      have hfp5 := HR.out.2.2.2.trans hf4 (fun _ h => h) (fun _ _ h => h.elim)
      by_cases hc : (ptAt ps q).t < (ptAt ps c).t
      · have hcc : decide (cmpI (ptAt ps q).t (ptAt ps c).t < 0) = true := by rw [decide_eq_true_eq, cmpI_lt]; exact hc
        rw [hcc, Bool.not_true]
        have HC : Hid _ := And.intro hc (And.intro hpb5 hfp5)
        clear hc hcc hf4 hpb5 hfp5 c0 c1 c2 c3 bh bq bw
        gi_wp2
        go_roundw
        case rel =>
          refine ⟨s, c, hi, by omega, by omega, rfl, rfl, HC.out.2.1, HR.out.2.1, fun k g1 g2 => ?_, HC.out.2.2⟩
          have e1 := H.out.2.2.1.le (i := c) (j := k) (by omega) g1 (by omega)
          have e2 := H.out.2.2.2.le (i := p - k) (j := q) (by omega) (by omega) (by omega)
          have := HC.out.1
          omega
        case measure => simp [intOf]; omega
      · have hcc : decide (cmpI (ptAt ps q).t (ptAt ps c).t < 0) = false := by rw [decide_eq_false_iff_not, cmpI_lt]; exact hc
        rw [hcc, Bool.not_false]
        have HC : Hid _ := And.intro hc (And.intro hpb5 hfp5)
        clear hc hcc hf4 hpb5 hfp5 c0 c1 c2 c3 bh bq bw
        gi_wp2
        go_roundw
        case rel =>
          refine ⟨c + 1, r, by omega, by omega, hj, by go_num, rfl, HC.out.2.1, fun k g1 g2 => ?_, HR.out.2.2.1, HC.out.2.2⟩
          have e1 := H.out.2.2.1.le (i := k) (j := c) (by omega) (by omega) (by omega)
          have e2 := H.out.2.2.2.le (i := q) (j := p - k) (by omega) (by omega) (by omega)
          have := HC.out.1
          omega
        case measure => simp [intOf]; omega
    · obtain rfl : s = r := by omega
      obtain ⟨e, he⟩ : ∃ e, nn - s = e := ⟨_, rfl⟩
      have be : (nn : Int) - (s : Int) = (e : Int) := by omega
      have e1 : s + e = mid + m := by omega
      have e2 : m ≤ e := by omega
      have e3 : e ≤ b := by omega
      have e4 : s ≤ m := by omega
      have e5 : a ≤ s := by omega
      have e6 : s ≤ mid := by omega
      have hlen : ps.length = N := H.out.1
      have HH : Silo.Halves ps (rot ps s m e) a s mid e b := by
        refine Silo.halves (by omega) H.out.2.2.1 H.out.2.2.2 e5 e4 e2 e3 e1 ?_ ?_
        · by_cases c : s = s0
          · exact .inr (.inl (by omega))
          · refine .inr (.inr ?_)
            have := HR.out.2.1 (s - 1) (by omega) (by omega)
            rwa [show p - (s - 1) = e from by omega] at this
        · by_cases c : s = mid
          · exact .inr (.inl (by omega))
          · refine .inr (.inr ?_)
            have := HR.out.2.2.1 s (Nat.le_refl _) (by omega)
            rwa [show p - s = e - 1 from by omega] at this
      have hrl : (rot ps s m e).length = N := by rw [Silo.rot_length _ _ _ _ e4 e2 (by omega)]; exact hlen
      have hrn : ¬ (s < m ∧ m < e) → rot ps s m e = ps := fun hh => Silo.rot_nil _ _ _ _ e4 e2 (by omega) (by omega)
      obtain ⟨qs, hqs⟩ : ∃ qs, rot ps s m e = qs := ⟨_, rfl⟩
      rw [hqs] at HH hrl hrn
      have HQ : Hid _ := And.intro HH (And.intro hrl (And.intro hrn hqs))
      clear HH hrl hrn hqs hlen he
      by_cases ct : s < m ∧ m < e
      · obtain ⟨z1, z2⟩ := ct
        gi_wp2_with fail
        refine ⟨trivial, fun _ => by omega, (callsIn_wide.2 (rotate_any g cap s m e ps tail wr N H.out.1 HR.out.1 z1 z2 (by omega) hl)).mono ?_⟩
        rintro _ w7 ⟨rfl, h7⟩
        rw [HQ.out.2.2.2] at h7
        have H7 : Hid _ := h7
        clear h7
        by_cases cl : a < s ∧ s < mid
        · obtain ⟨y1, y2⟩ := cl
          gi_wp2_with fail
          refine ⟨trivial, fun _ => by omega, (callsIn_wide.2 (HIH.out a s mid o8 y1 y2 (by omega) qs w7 HQ.out.2.1 (H7.out.1) HQ.out.1.s1 HQ.out.1.s2)).mono ?_⟩
          rintro _ w8 ⟨rfl, h8⟩
          have H8 : Hid _ := h8
          clear h8
          by_cases cr : mid < e ∧ e < b
          · obtain ⟨x1, x2⟩ := cr
            gi_wp2_with fail
            refine ⟨trivial, fun _ => by omega, (callsIn_wide.2 (HIH.out mid e b o9 x1 x2 hb H8.out.choose w8 (by rw [H8.out.choose_spec.2.1.len]; exact HQ.out.2.1) (H8.out.choose_spec.1) (fun i j g1 g2 g3 => by rw [(H8.out.choose_spec.2.1).out i (.inr (by omega)), (H8.out.choose_spec.2.1).out j (.inr (by omega))]; exact HQ.out.1.s3 i j g1 g2 g3) (fun i j g1 g2 g3 => by rw [(H8.out.choose_spec.2.1).out i (.inr (by omega)), (H8.out.choose_spec.2.1).out j (.inr (by omega))]; exact HQ.out.1.s4 i j g1 g2 g3))).mono ?_⟩
            rintro _ w9 ⟨rfl, h9⟩
            have H9 : Hid _ := h9
            clear h9
            gi_wp2
            go_end0
            obtain ⟨r2, h1, h2, h3, h4⟩ := H9.out
            have hj := HQ.out.1.join (Nat.le_of_lt o1) (Nat.le_of_lt o2) (H8.out.choose_spec.2.1) (H8.out.choose_spec.2.2.1) h2 h3
            exact ⟨rfl, r2, h1, hj.1, hj.2, ((HR.out.2.2.2.trans' H7.out.2).trans' H8.out.choose_spec.2.2.2).trans' h4⟩
          · by_cases x1 : mid < e
            · have x2 : ¬ e < b := fun x => cr ⟨x1, x⟩
              gi_wp2
              go_end0
              have hj := HQ.out.1.join (Nat.le_of_lt o1) (Nat.le_of_lt o2) (H8.out.choose_spec.2.1) (H8.out.choose_spec.2.2.1) (Silo.Within.refl _ _ _) (fun i j g1 g2 g3 => by rw [(H8.out.choose_spec.2.1).out i (.inr (by omega)), (H8.out.choose_spec.2.1).out j (.inr (by omega))]; exact (HQ.out.1.s3.sub (Nat.le_refl _) (by omega)) i j g1 g2 g3)
              exact ⟨rfl, H8.out.choose, H8.out.choose_spec.1, hj.1, hj.2, (HR.out.2.2.2.trans' H7.out.2).trans' H8.out.choose_spec.2.2.2⟩
            · have x2 : e ≤ mid := by omega
              gi_wp2
              go_end0
              have hj := HQ.out.1.join (Nat.le_of_lt o1) (Nat.le_of_lt o2) (H8.out.choose_spec.2.1) (H8.out.choose_spec.2.2.1) (Silo.Within.refl _ _ _) (fun i j g1 g2 g3 => by rw [(H8.out.choose_spec.2.1).out i (.inr (by omega)), (H8.out.choose_spec.2.1).out j (.inr (by omega))]; exact (HQ.out.1.s4.sub (by omega) (Nat.le_refl _)) i j g1 g2 g3)
              exact ⟨rfl, H8.out.choose, H8.out.choose_spec.1, hj.1, hj.2, (HR.out.2.2.2.trans' H7.out.2).trans' H8.out.choose_spec.2.2.2⟩
        · by_cases y1 : a < s
          · have y2 : ¬ s < mid := fun x => cl ⟨y1, x⟩
            by_cases cr : mid < e ∧ e < b
            · obtain ⟨x1, x2⟩ := cr
              gi_wp2_with fail
              refine ⟨trivial, fun _ => by omega, (callsIn_wide.2 (HIH.out mid e b o9 x1 x2 hb qs w7 (HQ.out.2.1) (H7.out.1) (fun i j g1 g2 g3 => by rw [(Silo.Within.refl qs a mid).out i (.inr (by omega)), (Silo.Within.refl qs a mid).out j (.inr (by omega))]; exact HQ.out.1.s3 i j g1 g2 g3) (fun i j g1 g2 g3 => by rw [(Silo.Within.refl qs a mid).out i (.inr (by omega)), (Silo.Within.refl qs a mid).out j (.inr (by omega))]; exact HQ.out.1.s4 i j g1 g2 g3))).mono ?_⟩
              rintro _ w9 ⟨rfl, h9⟩
              have H9 : Hid _ := h9
              clear h9
              gi_wp2
              go_end0
              obtain ⟨r2, h1, h2, h3, h4⟩ := H9.out
              have hj := HQ.out.1.join (Nat.le_of_lt o1) (Nat.le_of_lt o2) (Silo.Within.refl qs a mid) (HQ.out.1.s1.sub (Nat.le_refl _) (by omega)) h2 h3
              exact ⟨rfl, r2, h1, hj.1, hj.2, (HR.out.2.2.2.trans' H7.out.2).trans' h4⟩
            · by_cases x1 : mid < e
              · have x2 : ¬ e < b := fun x => cr ⟨x1, x⟩
                gi_wp2
                go_end0
                have hj := HQ.out.1.join (Nat.le_of_lt o1) (Nat.le_of_lt o2) (Silo.Within.refl qs a mid) (HQ.out.1.s1.sub (Nat.le_refl _) (by omega)) (Silo.Within.refl _ _ _) (fun i j g1 g2 g3 => by rw [(Silo.Within.refl qs a mid).out i (.inr (by omega)), (Silo.Within.refl qs a mid).out j (.inr (by omega))]; exact (HQ.out.1.s3.sub (Nat.le_refl _) (by omega)) i j g1 g2 g3)
                exact ⟨rfl, qs, H7.out.1, hj.1, hj.2, HR.out.2.2.2.trans' H7.out.2⟩
              · have x2 : e ≤ mid := by omega
                gi_wp2
                go_end0
                have hj := HQ.out.1.join (Nat.le_of_lt o1) (Nat.le_of_lt o2) (Silo.Within.refl qs a mid) (HQ.out.1.s1.sub (Nat.le_refl _) (by omega)) (Silo.Within.refl _ _ _) (fun i j g1 g2 g3 => by rw [(Silo.Within.refl qs a mid).out i (.inr (by omega)), (Silo.Within.refl qs a mid).out j (.inr (by omega))]; exact (HQ.out.1.s4.sub (by omega) (Nat.le_refl _)) i j g1 g2 g3)
                exact ⟨rfl, qs, H7.out.1, hj.1, hj.2, HR.out.2.2.2.trans' H7.out.2⟩
          · have y2 : s ≤ a := by omega
            by_cases cr : mid < e ∧ e < b
            · obtain ⟨x1, x2⟩ := cr
              gi_wp2_with fail
              refine ⟨trivial, fun _ => by omega, (callsIn_wide.2 (HIH.out mid e b o9 x1 x2 hb qs w7 (HQ.out.2.1) (H7.out.1) (fun i j g1 g2 g3 => by rw [(Silo.Within.refl qs a mid).out i (.inr (by omega)), (Silo.Within.refl qs a mid).out j (.inr (by omega))]; exact HQ.out.1.s3 i j g1 g2 g3) (fun i j g1 g2 g3 => by rw [(Silo.Within.refl qs a mid).out i (.inr (by omega)), (Silo.Within.refl qs a mid).out j (.inr (by omega))]; exact HQ.out.1.s4 i j g1 g2 g3))).mono ?_⟩
              rintro _ w9 ⟨rfl, h9⟩
              have H9 : Hid _ := h9
              clear h9
              gi_wp2
              go_end0
              obtain ⟨r2, h1, h2, h3, h4⟩ := H9.out
              have hj := HQ.out.1.join (Nat.le_of_lt o1) (Nat.le_of_lt o2) (Silo.Within.refl qs a mid) (HQ.out.1.s2.sub (by omega) (Nat.le_refl _)) h2 h3
              exact ⟨rfl, r2, h1, hj.1, hj.2, (HR.out.2.2.2.trans' H7.out.2).trans' h4⟩
            · by_cases x1 : mid < e
              · have x2 : ¬ e < b := fun x => cr ⟨x1, x⟩
                gi_wp2
                go_end0
                have hj := HQ.out.1.join (Nat.le_of_lt o1) (Nat.le_of_lt o2) (Silo.Within.refl qs a mid) (HQ.out.1.s2.sub (by omega) (Nat.le_refl _)) (Silo.Within.refl _ _ _) (fun i j g1 g2 g3 => by rw [(Silo.Within.refl qs a mid).out i (.inr (by omega)), (Silo.Within.refl qs a mid).out j (.inr (by omega))]; exact (HQ.out.1.s3.sub (Nat.le_refl _) (by omega)) i j g1 g2 g3)
                exact ⟨rfl, qs, H7.out.1, hj.1, hj.2, HR.out.2.2.2.trans' H7.out.2⟩
              · have x2 : e ≤ mid := by omega
                gi_wp2
                go_end0
                have hj := HQ.out.1.join (Nat.le_of_lt o1) (Nat.le_of_lt o2) (Silo.Within.refl qs a mid) (HQ.out.1.s2.sub (by omega) (Nat.le_refl _)) (Silo.Within.refl _ _ _) (fun i j g1 g2 g3 => by rw [(Silo.Within.refl qs a mid).out i (.inr (by omega)), (Silo.Within.refl qs a mid).out j (.inr (by omega))]; exact (HQ.out.1.s4.sub (by omega) (Nat.le_refl _)) i j g1 g2 g3)
                exact ⟨rfl, qs, H7.out.1, hj.1, hj.2, HR.out.2.2.2.trans' H7.out.2⟩
      · have hpq : PB wr g qs tail := by rw [HQ.out.2.2.1 ct]; exact HR.out.1
        have HPQ : Hid _ := hpq
        clear hpq
        by_cases z1 : s < m
        · have z2 : ¬ m < e := fun x => ct ⟨z1, x⟩
          by_cases cl : a < s ∧ s < mid
          · obtain ⟨y1, y2⟩ := cl
            gi_wp2_with fail
            refine ⟨trivial, fun _ => by omega, (callsIn_wide.2 (HIH.out a s mid o8 y1 y2 (by omega) qs wr HQ.out.2.1 (HPQ.out) HQ.out.1.s1 HQ.out.1.s2)).mono ?_⟩
            rintro _ w8 ⟨rfl, h8⟩
            have H8 : Hid _ := h8
            clear h8
            by_cases cr : mid < e ∧ e < b
            · obtain ⟨x1, x2⟩ := cr
              gi_wp2_with fail
              refine ⟨trivial, fun _ => by omega, (callsIn_wide.2 (HIH.out mid e b o9 x1 x2 hb H8.out.choose w8 (by rw [H8.out.choose_spec.2.1.len]; exact HQ.out.2.1) (H8.out.choose_spec.1) (fun i j g1 g2 g3 => by rw [(H8.out.choose_spec.2.1).out i (.inr (by omega)), (H8.out.choose_spec.2.1).out j (.inr (by omega))]; exact HQ.out.1.s3 i j g1 g2 g3) (fun i j g1 g2 g3 => by rw [(H8.out.choose_spec.2.1).out i (.inr (by omega)), (H8.out.choose_spec.2.1).out j (.inr (by omega))]; exact HQ.out.1.s4 i j g1 g2 g3))).mono ?_⟩
              rintro _ w9 ⟨rfl, h9⟩
              have H9 : Hid _ := h9
              clear h9
              gi_wp2
              go_end0
              obtain ⟨r2, h1, h2, h3, h4⟩ := H9.out
              have hj := HQ.out.1.join (Nat.le_of_lt o1) (Nat.le_of_lt o2) (H8.out.choose_spec.2.1) (H8.out.choose_spec.2.2.1) h2 h3
              exact ⟨rfl, r2, h1, hj.1, hj.2, ((HR.out.2.2.2).trans' H8.out.choose_spec.2.2.2).trans' h4⟩
            · by_cases x1 : mid < e
              · have x2 : ¬ e < b := fun x => cr ⟨x1, x⟩
                gi_wp2
                go_end0
                have hj := HQ.out.1.join (Nat.le_of_lt o1) (Nat.le_of_lt o2) (H8.out.choose_spec.2.1) (H8.out.choose_spec.2.2.1) (Silo.Within.refl _ _ _) (fun i j g1 g2 g3 => by rw [(H8.out.choose_spec.2.1).out i (.inr (by omega)), (H8.out.choose_spec.2.1).out j (.inr (by omega))]; exact (HQ.out.1.s3.sub (Nat.le_refl _) (by omega)) i j g1 g2 g3)
                exact ⟨rfl, H8.out.choose, H8.out.choose_spec.1, hj.1, hj.2, (HR.out.2.2.2).trans' H8.out.choose_spec.2.2.2⟩
              · have x2 : e ≤ mid := by omega
                gi_wp2
                go_end0
                have hj := HQ.out.1.join (Nat.le_of_lt o1) (Nat.le_of_lt o2) (H8.out.choose_spec.2.1) (H8.out.choose_spec.2.2.1) (Silo.Within.refl _ _ _) (fun i j g1 g2 g3 => by rw [(H8.out.choose_spec.2.1).out i (.inr (by omega)), (H8.out.choose_spec.2.1).out j (.inr (by omega))]; exact (HQ.out.1.s4.sub (by omega) (Nat.le_refl _)) i j g1 g2 g3)
                exact ⟨rfl, H8.out.choose, H8.out.choose_spec.1, hj.1, hj.2, (HR.out.2.2.2).trans' H8.out.choose_spec.2.2.2⟩
          · by_cases y1 : a < s
            · have y2 : ¬ s < mid := fun x => cl ⟨y1, x⟩
              by_cases cr : mid < e ∧ e < b
              · obtain ⟨x1, x2⟩ := cr
                gi_wp2_with fail
                refine ⟨trivial, fun _ => by omega, (callsIn_wide.2 (HIH.out mid e b o9 x1 x2 hb qs wr (HQ.out.2.1) (HPQ.out) (fun i j g1 g2 g3 => by rw [(Silo.Within.refl qs a mid).out i (.inr (by omega)), (Silo.Within.refl qs a mid).out j (.inr (by omega))]; exact HQ.out.1.s3 i j g1 g2 g3) (fun i j g1 g2 g3 => by rw [(Silo.Within.refl qs a mid).out i (.inr (by omega)), (Silo.Within.refl qs a mid).out j (.inr (by omega))]; exact HQ.out.1.s4 i j g1 g2 g3))).mono ?_⟩
                rintro _ w9 ⟨rfl, h9⟩
                have H9 : Hid _ := h9
                clear h9
                gi_wp2
                go_end0
                obtain ⟨r2, h1, h2, h3, h4⟩ := H9.out
                have hj := HQ.out.1.join (Nat.le_of_lt o1) (Nat.le_of_lt o2) (Silo.Within.refl qs a mid) (HQ.out.1.s1.sub (Nat.le_refl _) (by omega)) h2 h3
                exact ⟨rfl, r2, h1, hj.1, hj.2, (HR.out.2.2.2).trans' h4⟩
              · by_cases x1 : mid < e
                · have x2 : ¬ e < b := fun x => cr ⟨x1, x⟩
                  gi_wp2
                  go_end0
                  have hj := HQ.out.1.join (Nat.le_of_lt o1) (Nat.le_of_lt o2) (Silo.Within.refl qs a mid) (HQ.out.1.s1.sub (Nat.le_refl _) (by omega)) (Silo.Within.refl _ _ _) (fun i j g1 g2 g3 => by rw [(Silo.Within.refl qs a mid).out i (.inr (by omega)), (Silo.Within.refl qs a mid).out j (.inr (by omega))]; exact (HQ.out.1.s3.sub (Nat.le_refl _) (by omega)) i j g1 g2 g3)
                  exact ⟨rfl, qs, HPQ.out, hj.1, hj.2, HR.out.2.2.2⟩
                · have x2 : e ≤ mid := by omega
                  gi_wp2
                  go_end0
                  have hj := HQ.out.1.join (Nat.le_of_lt o1) (Nat.le_of_lt o2) (Silo.Within.refl qs a mid) (HQ.out.1.s1.sub (Nat.le_refl _) (by omega)) (Silo.Within.refl _ _ _) (fun i j g1 g2 g3 => by rw [(Silo.Within.refl qs a mid).out i (.inr (by omega)), (Silo.Within.refl qs a mid).out j (.inr (by omega))]; exact (HQ.out.1.s4.sub (by omega) (Nat.le_refl _)) i j g1 g2 g3)
                  exact ⟨rfl, qs, HPQ.out, hj.1, hj.2, HR.out.2.2.2⟩
            · have y2 : s ≤ a := by omega
              by_cases cr : mid < e ∧ e < b
              · obtain ⟨x1, x2⟩ := cr
                gi_wp2_with fail
                refine ⟨trivial, fun _ => by omega, (callsIn_wide.2 (HIH.out mid e b o9 x1 x2 hb qs wr (HQ.out.2.1) (HPQ.out) (fun i j g1 g2 g3 => by rw [(Silo.Within.refl qs a mid).out i (.inr (by omega)), (Silo.Within.refl qs a mid).out j (.inr (by omega))]; exact HQ.out.1.s3 i j g1 g2 g3) (fun i j g1 g2 g3 => by rw [(Silo.Within.refl qs a mid).out i (.inr (by omega)), (Silo.Within.refl qs a mid).out j (.inr (by omega))]; exact HQ.out.1.s4 i j g1 g2 g3))).mono ?_⟩
                rintro _ w9 ⟨rfl, h9⟩
                have H9 : Hid _ := h9
                clear h9
                gi_wp2
                go_end0
                obtain ⟨r2, h1, h2, h3, h4⟩ := H9.out
                have hj := HQ.out.1.join (Nat.le_of_lt o1) (Nat.le_of_lt o2) (Silo.Within.refl qs a mid) (HQ.out.1.s2.sub (by omega) (Nat.le_refl _)) h2 h3
                exact ⟨rfl, r2, h1, hj.1, hj.2, (HR.out.2.2.2).trans' h4⟩
              · by_cases x1 : mid < e
                · have x2 : ¬ e < b := fun x => cr ⟨x1, x⟩
                  gi_wp2
                  go_end0
                  have hj := HQ.out.1.join (Nat.le_of_lt o1) (Nat.le_of_lt o2) (Silo.Within.refl qs a mid) (HQ.out.1.s2.sub (by omega) (Nat.le_refl _)) (Silo.Within.refl _ _ _) (fun i j g1 g2 g3 => by rw [(Silo.Within.refl qs a mid).out i (.inr (by omega)), (Silo.Within.refl qs a mid).out j (.inr (by omega))]; exact (HQ.out.1.s3.sub (Nat.le_refl _) (by omega)) i j g1 g2 g3)
                  exact ⟨rfl, qs, HPQ.out, hj.1, hj.2, HR.out.2.2.2⟩
                · have x2 : e ≤ mid := by omega
                  gi_wp2
                  go_end0
                  have hj := HQ.out.1.join (Nat.le_of_lt o1) (Nat.le_of_lt o2) (Silo.Within.refl qs a mid) (HQ.out.1.s2.sub (by omega) (Nat.le_refl _)) (Silo.Within.refl _ _ _) (fun i j g1 g2 g3 => by rw [(Silo.Within.refl qs a mid).out i (.inr (by omega)), (Silo.Within.refl qs a mid).out j (.inr (by omega))]; exact (HQ.out.1.s4.sub (by omega) (Nat.le_refl _)) i j g1 g2 g3)
                  exact ⟨rfl, qs, HPQ.out, hj.1, hj.2, HR.out.2.2.2⟩
        · have z2 : m ≤ s := by omega
          by_cases cl : a < s ∧ s < mid
          · obtain ⟨y1, y2⟩ := cl
            gi_wp2_with fail
            refine ⟨trivial, fun _ => by omega, (callsIn_wide.2 (HIH.out a s mid o8 y1 y2 (by omega) qs wr HQ.out.2.1 (HPQ.out) HQ.out.1.s1 HQ.out.1.s2)).mono ?_⟩
            rintro _ w8 ⟨rfl, h8⟩
            have H8 : Hid _ := h8
            clear h8
            by_cases cr : mid < e ∧ e < b
            · obtain ⟨x1, x2⟩ := cr
              gi_wp2_with fail
              refine ⟨trivial, fun _ => by omega, (callsIn_wide.2 (HIH.out mid e b o9 x1 x2 hb H8.out.choose w8 (by rw [H8.out.choose_spec.2.1.len]; exact HQ.out.2.1) (H8.out.choose_spec.1) (fun i j g1 g2 g3 => by rw [(H8.out.choose_spec.2.1).out i (.inr (by omega)), (H8.out.choose_spec.2.1).out j (.inr (by omega))]; exact HQ.out.1.s3 i j g1 g2 g3) (fun i j g1 g2 g3 => by rw [(H8.out.choose_spec.2.1).out i (.inr (by omega)), (H8.out.choose_spec.2.1).out j (.inr (by omega))]; exact HQ.out.1.s4 i j g1 g2 g3))).mono ?_⟩
              rintro _ w9 ⟨rfl, h9⟩
              have H9 : Hid _ := h9
              clear h9
              gi_wp2
              go_end0
              obtain ⟨r2, h1, h2, h3, h4⟩ := H9.out
              have hj := HQ.out.1.join (Nat.le_of_lt o1) (Nat.le_of_lt o2) (H8.out.choose_spec.2.1) (H8.out.choose_spec.2.2.1) h2 h3
              exact ⟨rfl, r2, h1, hj.1, hj.2, ((HR.out.2.2.2).trans' H8.out.choose_spec.2.2.2).trans' h4⟩
            · by_cases x1 : mid < e
              · have x2 : ¬ e < b := fun x => cr ⟨x1, x⟩
                gi_wp2
                go_end0
                have hj := HQ.out.1.join (Nat.le_of_lt o1) (Nat.le_of_lt o2) (H8.out.choose_spec.2.1) (H8.out.choose_spec.2.2.1) (Silo.Within.refl _ _ _) (fun i j g1 g2 g3 => by rw [(H8.out.choose_spec.2.1).out i (.inr (by omega)), (H8.out.choose_spec.2.1).out j (.inr (by omega))]; exact (HQ.out.1.s3.sub (Nat.le_refl _) (by omega)) i j g1 g2 g3)
                exact ⟨rfl, H8.out.choose, H8.out.choose_spec.1, hj.1, hj.2, (HR.out.2.2.2).trans' H8.out.choose_spec.2.2.2⟩
              · have x2 : e ≤ mid := by omega
                gi_wp2
                go_end0
                have hj := HQ.out.1.join (Nat.le_of_lt o1) (Nat.le_of_lt o2) (H8.out.choose_spec.2.1) (H8.out.choose_spec.2.2.1) (Silo.Within.refl _ _ _) (fun i j g1 g2 g3 => by rw [(H8.out.choose_spec.2.1).out i (.inr (by omega)), (H8.out.choose_spec.2.1).out j (.inr (by omega))]; exact (HQ.out.1.s4.sub (by omega) (Nat.le_refl _)) i j g1 g2 g3)
                exact ⟨rfl, H8.out.choose, H8.out.choose_spec.1, hj.1, hj.2, (HR.out.2.2.2).trans' H8.out.choose_spec.2.2.2⟩
          · by_cases y1 : a < s
            · have y2 : ¬ s < mid := fun x => cl ⟨y1, x⟩
              by_cases cr : mid < e ∧ e < b
              · obtain ⟨x1, x2⟩ := cr
                gi_wp2_with fail
                refine ⟨trivial, fun _ => by omega, (callsIn_wide.2 (HIH.out mid e b o9 x1 x2 hb qs wr (HQ.out.2.1) (HPQ.out) (fun i j g1 g2 g3 => by rw [(Silo.Within.refl qs a mid).out i (.inr (by omega)), (Silo.Within.refl qs a mid).out j (.inr (by omega))]; exact HQ.out.1.s3 i j g1 g2 g3) (fun i j g1 g2 g3 => by rw [(Silo.Within.refl qs a mid).out i (.inr (by omega)), (Silo.Within.refl qs a mid).out j (.inr (by omega))]; exact HQ.out.1.s4 i j g1 g2 g3))).mono ?_⟩
                rintro _ w9 ⟨rfl, h9⟩
                have H9 : Hid _ := h9
                clear h9
                gi_wp2
                go_end0
                obtain ⟨r2, h1, h2, h3, h4⟩ := H9.out
                have hj := HQ.out.1.join (Nat.le_of_lt o1) (Nat.le_of_lt o2) (Silo.Within.refl qs a mid) (HQ.out.1.s1.sub (Nat.le_refl _) (by omega)) h2 h3
                exact ⟨rfl, r2, h1, hj.1, hj.2, (HR.out.2.2.2).trans' h4⟩
              · by_cases x1 : mid < e
                · have x2 : ¬ e < b := fun x => cr ⟨x1, x⟩
                  gi_wp2
                  go_end0
                  have hj := HQ.out.1.join (Nat.le_of_lt o1) (Nat.le_of_lt o2) (Silo.Within.refl qs a mid) (HQ.out.1.s1.sub (Nat.le_refl _) (by omega)) (Silo.Within.refl _ _ _) (fun i j g1 g2 g3 => by rw [(Silo.Within.refl qs a mid).out i (.inr (by omega)), (Silo.Within.refl qs a mid).out j (.inr (by omega))]; exact (HQ.out.1.s3.sub (Nat.le_refl _) (by omega)) i j g1 g2 g3)
                  exact ⟨rfl, qs, HPQ.out, hj.1, hj.2, HR.out.2.2.2⟩
                · have x2 : e ≤ mid := by omega
                  gi_wp2
                  go_end0
                  have hj := HQ.out.1.join (Nat.le_of_lt o1) (Nat.le_of_lt o2) (Silo.Within.refl qs a mid) (HQ.out.1.s1.sub (Nat.le_refl _) (by omega)) (Silo.Within.refl _ _ _) (fun i j g1 g2 g3 => by rw [(Silo.Within.refl qs a mid).out i (.inr (by omega)), (Silo.Within.refl qs a mid).out j (.inr (by omega))]; exact (HQ.out.1.s4.sub (by omega) (Nat.le_refl _)) i j g1 g2 g3)
                  exact ⟨rfl, qs, HPQ.out, hj.1, hj.2, HR.out.2.2.2⟩
            · have y2 : s ≤ a := by omega
              by_cases cr : mid < e ∧ e < b
              · obtain ⟨x1, x2⟩ := cr
                gi_wp2_with fail
                refine ⟨trivial, fun _ => by omega, (callsIn_wide.2 (HIH.out mid e b o9 x1 x2 hb qs wr (HQ.out.2.1) (HPQ.out) (fun i j g1 g2 g3 => by rw [(Silo.Within.refl qs a mid).out i (.inr (by omega)), (Silo.Within.refl qs a mid).out j (.inr (by omega))]; exact HQ.out.1.s3 i j g1 g2 g3) (fun i j g1 g2 g3 => by rw [(Silo.Within.refl qs a mid).out i (.inr (by omega)), (Silo.Within.refl qs a mid).out j (.inr (by omega))]; exact HQ.out.1.s4 i j g1 g2 g3))).mono ?_⟩
                rintro _ w9 ⟨rfl, h9⟩
                have H9 : Hid _ := h9
                clear h9
                gi_wp2
                go_end0
                obtain ⟨r2, h1, h2, h3, h4⟩ := H9.out
                have hj := HQ.out.1.join (Nat.le_of_lt o1) (Nat.le_of_lt o2) (Silo.Within.refl qs a mid) (HQ.out.1.s2.sub (by omega) (Nat.le_refl _)) h2 h3
                exact ⟨rfl, r2, h1, hj.1, hj.2, (HR.out.2.2.2).trans' h4⟩
              · by_cases x1 : mid < e
                · have x2 : ¬ e < b := fun x => cr ⟨x1, x⟩
                  gi_wp2
                  go_end0
                  have hj := HQ.out.1.join (Nat.le_of_lt o1) (Nat.le_of_lt o2) (Silo.Within.refl qs a mid) (HQ.out.1.s2.sub (by omega) (Nat.le_refl _)) (Silo.Within.refl _ _ _) (fun i j g1 g2 g3 => by rw [(Silo.Within.refl qs a mid).out i (.inr (by omega)), (Silo.Within.refl qs a mid).out j (.inr (by omega))]; exact (HQ.out.1.s3.sub (Nat.le_refl _) (by omega)) i j g1 g2 g3)
                  exact ⟨rfl, qs, HPQ.out, hj.1, hj.2, HR.out.2.2.2⟩
                · have x2 : e ≤ mid := by omega
                  gi_wp2
                  go_end0
                  have hj := HQ.out.1.join (Nat.le_of_lt o1) (Nat.le_of_lt o2) (Silo.Within.refl qs a mid) (HQ.out.1.s2.sub (by omega) (Nat.le_refl _)) (Silo.Within.refl _ _ _) (fun i j g1 g2 g3 => by rw [(Silo.Within.refl qs a mid).out i (.inr (by omega)), (Silo.Within.refl qs a mid).out j (.inr (by omega))]; exact (HQ.out.1.s4.sub (by omega) (Nat.le_refl _)) i j g1 g2 g3)
                  exact ⟨rfl, qs, HPQ.out, hj.1, hj.2, HR.out.2.2.2⟩

end Go.Proofs.Ytojjkjfcbfoinaa
