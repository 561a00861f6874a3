/- The reader's contracts. -/
import Derived.Test.YtojjkjfcbfoinaaFoot
import Derived.Test.YtojjkjfcbfoinaaPure2
namespace Go.Proofs.Ytojjkjfcbfoinaa
open Go.RowKit

/-- A reader lies in block rb: s is not yet read; f: something was wrong. -/
def Rdr (w : World) (rb : Nat) (s : ByteArray) (f : Bool) : Prop := w.heap[rb]? = some (.cells #[.string s, .bool f] 113 (0, 0))

theorem Rdr.lt {w : World} {rb : Nat} {s : ByteArray} {f : Bool} (h : Rdr w rb s f) : rb < w.heap.size := (Array.getElem?_eq_some_iff.1 h).1

theorem Rdr.cell0 {w : World} {rb : Nat} {s : ByteArray} {f : Bool} (h : Rdr w rb s f) : w.cell? ⟨rb, 0, none⟩ = some (.string s) := by
  unfold Rdr at h; simp [World.cell?, h]
theorem Rdr.cell1 {w : World} {rb : Nat} {s : ByteArray} {f : Bool} (h : Rdr w rb s f) : w.cell? ⟨rb, 1, none⟩ = some (.bool f) := by
  unfold Rdr at h; simp [World.cell?, h]
theorem Rdr.frozen {w : World} {rb : Nat} {s : ByteArray} {f : Bool} (h : Rdr w rb s f) (i : Nat) : w.frozen? ⟨rb, i, none⟩ = false := by
  unfold Rdr at h; simp [World.frozen?, h]
theorem Rdr.fp {w w' : World} {S : Nat → Prop} {rb : Nat} {s : ByteArray} {f : Bool} (h : Rdr w rb s f) (hf : Fp S w w') (hs : ¬ S rb) : Rdr w' rb s f := by
  unfold Rdr; rw [hf.block rb h.lt hs]; exact h
theorem Rdr.set0 {w : World} {rb : Nat} {s : ByteArray} {f : Bool} (h : Rdr w rb s f) (s' : ByteArray) : Rdr (w.setCell ⟨rb, 0, none⟩ (.string s')) rb s' f := by
  exact heap_set h _
theorem Rdr.set1 {w : World} {rb : Nat} {s : ByteArray} {f : Bool} (h : Rdr w rb s f) (f' : Bool) : Rdr (w.setCell ⟨rb, 1, none⟩ (.bool f')) rb s f' := by
  exact heap_set h _

set_option maxHeartbeats 400000 in
theorem RdFail_any (w : World) (rb : Nat) (s : ByteArray) (f : Bool) (h : Rdr w rb s f) :
    Calls Try.prog 66 #[.pointer (some ⟨rb, 0, none⟩)] w fun e w' => e = .returned (.tuple #[]) ∧ Rdr w' rb ByteArray.empty true ∧ Fp (fun k => k = rb) w w' := by
  have H : Hid (Rdr w rb s f) := h
  have h0 := h.cell0
  have h1 := h.cell1
  have f0 := h.frozen 0
  have f1 := h.frozen 1
  clear h
  go_enter Try.func66, Try.ntmps66
  go_wp2
  go_end0
  exact ⟨rfl, (H.out.set0 _).set1 _, Fp.trans' (S := fun k => k = rb) (Fp.setCell _ _ _ rfl) (Fp.setCell _ _ _ rfl)⟩

set_option maxHeartbeats 400000 in
theorem RdLeft_any (w : World) (rb : Nat) (s : ByteArray) (f : Bool) (h : Rdr w rb s f) :
    Calls Try.prog 79 #[.pointer (some ⟨rb, 0, none⟩)] w fun e w' => e = .returned (.int .i64 s.size) ∧ w' = w := by
  have h0 := h.cell0
  clear h
  go_enter Try.func79, Try.ntmps79
  go_wp2
  go_ret
  exact ⟨ret_val (by simp), rfl⟩

set_option maxHeartbeats 400000 in
theorem RdFailed_any (w : World) (rb : Nat) (s : ByteArray) (f : Bool) (h : Rdr w rb s f) :
    Calls Try.prog 81 #[.pointer (some ⟨rb, 0, none⟩)] w fun e w' => e = .returned (.bool f) ∧ w' = w := by
  have h1 := h.cell1
  clear h
  go_enter Try.func81, Try.ntmps81
  go_wp2
  go_ret
  exact ⟨ret_val (by simp), rfl⟩

set_option maxHeartbeats 400000 in
theorem RdDone_any (w : World) (rb : Nat) (s : ByteArray) (f : Bool) (h : Rdr w rb s f) :
    Calls Try.prog 46 #[.pointer (some ⟨rb, 0, none⟩)] w fun e w' => e = .returned (.bool (!f && s.toList.isEmpty)) ∧ w' = w := by
  have h0 := h.cell0
  have h1 := h.cell1
  clear h
  cases f
  · go_enter Try.func46, Try.ntmps46
    go_wp2
    go_ret
    exact ⟨ret_val (by simp), rfl⟩
  · go_enter Try.func46, Try.ntmps46
    go_wp2
    go_ret
    exact ⟨ret_val (by simp), rfl⟩

set_option maxHeartbeats 400000 in
theorem NewReader_any (w : World) (s : ByteArray) :
    Calls Try.prog 42 #[.string s] w fun e w' => e = .returned (.pointer (some ⟨w.heap.size, 0, none⟩)) ∧ Rdr w' w.heap.size s false ∧ Fp (fun _ => False) w w' := by
  go_enter Try.func42, Try.ntmps42
  go_wp2
  go_ret
  exact ⟨ret_val (by simp), heap_new _ _, Fp.alloc _ _ _⟩

end Go.Proofs.Ytojjkjfcbfoinaa
