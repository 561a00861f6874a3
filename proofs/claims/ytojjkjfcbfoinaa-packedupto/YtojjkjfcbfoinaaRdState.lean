/- The reader by states; readNumber, readTime. -/
import Derived.Test.YtojjkjfcbfoinaaRdCode
import Derived.Test.YtojjkjfcbfoinaaLeaf
import Derived.Test.YtojjkjfcbfoinaaPure3
namespace Go.Proofs.Ytojjkjfcbfoinaa
open Go.RowKit

/-- A reader in block rb: what is left, or that something was wrong. -/
def RdS (w : World) (rb : Nat) : Silo.St → Prop
  | some l => Rdr w rb (S l) false
  | none => Rdr w rb ByteArray.empty true

theorem RdS.fp {w w' : World} {T : Nat → Prop} {rb : Nat} {st : Silo.St} (h : RdS w rb st) (hf : Fp T w w') (hs : ¬ T rb) : RdS w' rb st := by
  cases st
  · exact Rdr.fp h hf hs
  · exact Rdr.fp h hf hs

theorem RdS.lt {w : World} {rb : Nat} {st : Silo.St} (h : RdS w rb st) : rb < w.heap.size := by
  cases st
  · exact Rdr.lt h
  · exact Rdr.lt h

theorem RdCode_any (w : World) (rb : Nat) (st : Silo.St) (h : RdS w rb st) (hs : Silo.left st ≤ maxLen) :
    Calls Try.prog 65 #[.pointer (some ⟨rb, 0, none⟩)] w fun e w' => e = .returned (.int .u64 (Silo.rdN st : Nat)) ∧ RdS w' rb (Silo.rdR st) ∧ Fp (fun k => k = rb) w w' := by
  cases st with
  | none => exact RdCode_none w rb _ true h (by decide) rfl
  | some l =>
    cases hc : Silo.rdCode l with
    | none =>
      refine (RdCode_none w rb _ _ h hs hc).mono ?_
      rintro e w' ⟨rfl, h1, h2⟩
      exact ⟨by simp [Silo.rdN, hc], by simp only [Silo.rdR, hc]; exact h1, h2⟩
    | some x =>
      obtain ⟨n, r⟩ := x
      refine (RdCode_some w rb _ _ h hs n r hc).mono ?_
      rintro e w' ⟨rfl, h1, h2⟩
      exact ⟨by simp [Silo.rdN, hc], by simp only [Silo.rdR, hc]; exact h1, h2⟩

theorem Rdr_of_RdS {w : World} {rb : Nat} {st : Silo.St} (h : RdS w rb st) : ∃ s f, Rdr w rb s f ∧ s.size = Silo.left st ∧ f = st.isNone := by
  cases st with
  | none => exact ⟨_, _, h, rfl, rfl⟩
  | some l => exact ⟨_, _, h, rfl, rfl⟩

theorem RdFail_st (w : World) (rb : Nat) (st : Silo.St) (h : RdS w rb st) :
    Calls Try.prog 66 #[.pointer (some ⟨rb, 0, none⟩)] w fun e w' => e = .returned (.tuple #[]) ∧ RdS w' rb none ∧ Fp (fun k => k = rb) w w' := by
  obtain ⟨s, f, hr, _, _⟩ := Rdr_of_RdS h
  exact RdFail_any w rb s f hr

theorem RdLeft_st (w : World) (rb : Nat) (st : Silo.St) (h : RdS w rb st) :
    Calls Try.prog 79 #[.pointer (some ⟨rb, 0, none⟩)] w fun e w' => e = .returned (.int .i64 (Silo.left st : Nat)) ∧ w' = w := by
  obtain ⟨s, f, hr, e, _⟩ := Rdr_of_RdS h
  rw [← e]
  exact RdLeft_any w rb s f hr

theorem RdFailed_st (w : World) (rb : Nat) (st : Silo.St) (h : RdS w rb st) :
    Calls Try.prog 81 #[.pointer (some ⟨rb, 0, none⟩)] w fun e w' => e = .returned (.bool st.isNone) ∧ w' = w := by
  obtain ⟨s, f, hr, _, e⟩ := Rdr_of_RdS h
  rw [← e]
  exact RdFailed_any w rb s f hr

set_option maxHeartbeats 400000 in
theorem readNumber_any (w : World) (rb : Nat) (st : Silo.St) (h : RdS w rb st) (hs : Silo.left st ≤ maxLen) :
    Calls Try.prog 62 #[.pointer (some ⟨rb, 0, none⟩)] w fun e w' => e = .returned (.int .i64 ((Silo.rdNum st).1 : Nat)) ∧ RdS w' rb (Silo.rdNum st).2 ∧ Fp (fun k => k = rb) w w' := by
  have H : Hid (RdS w rb st ∧ Silo.left st ≤ maxLen) := ⟨h, hs⟩
  clear h hs
  have hlt : Hid (Silo.rdN st < Silo.M64) := Silo.rdN_lt st
  by_cases hc : 999999 < Silo.rdN st
  · have e1 : Hid (Silo.rdNum st = (0, none)) := by unfold Silo.rdNum; rw [if_pos hc]; exact rfl
    go_enter Try.func62, Try.ntmps62
    go_wp2_with fail
    refine (RdCode_any w rb st H.out.1 H.out.2).mono ?_
    rintro e w1 ⟨rfl, hr⟩
    have HR : Hid _ := hr
    clear hr
    generalize Silo.rdN st = n at *
    go_wp2_with fail
    refine (RdFail_st w1 rb _ HR.out.1).mono ?_
    rintro e w2 ⟨rfl, hr2⟩
    have HR2 : Hid _ := hr2
    clear hr2
    go_wp2
    go_ret
    rw [e1.out]
    exact ⟨rfl, HR2.out.1, HR.out.2.trans' HR2.out.2⟩
  · have e1 : Hid (Silo.rdNum st = (Silo.rdN st, Silo.rdR st)) := by unfold Silo.rdNum; rw [if_neg hc]; exact rfl
    go_enter Try.func62, Try.ntmps62
    go_wp2_with fail
    refine (RdCode_any w rb st H.out.1 H.out.2).mono ?_
    rintro e w1 ⟨rfl, hr⟩
    have HR : Hid _ := hr
    clear hr
    go_wp2
    go_ret
    rw [e1.out]
    exact ⟨rfl, HR.out.1, HR.out.2⟩

theorem room_eq (a : Int) (h : Silo.isInt a) : IntKind.u64.wrap (9223372036854775807 - IntKind.u64.wrap a) = 9223372036854775807 - a := by
  unfold Silo.isInt at h
  rw [IntKind.wrap_u64, IntKind.wrap_u64]
  omega

theorem sum_eq (a : Int) (n : Nat) (h : Silo.isInt a) (hn : (n : Int) ≤ 9223372036854775807 - a) : wrap64 (a + wrap64 n) = a + n := by
  unfold Silo.isInt at h
  unfold wrap64
  omega

set_option maxHeartbeats 400000 in
theorem readTime_any (w : World) (rb : Nat) (st : Silo.St) (ahead : Int) (first : Bool) (ha : Silo.isInt ahead) (h : RdS w rb st) (hs : Silo.left st ≤ maxLen) :
    Calls Try.prog 80 #[.pointer (some ⟨rb, 0, none⟩), .int .i64 ahead, .bool first] w fun e w' => e = .returned (.int .i64 (Silo.rdTime st ahead first).1) ∧ RdS w' rb (Silo.rdTime st ahead first).2 ∧ Fp (fun k => k = rb) w w' := by
  have H : Hid (RdS w rb st ∧ Silo.left st ≤ maxLen) := ⟨h, hs⟩
  clear h hs
  have hlt : Hid (Silo.rdN st < Silo.M64) := Silo.rdN_lt st
  have HA : Hid (Silo.isInt ahead) := ha
  clear ha
  cases first
  · by_cases h0 : Silo.rdN st = 0
    · have e1 : Hid (Silo.rdTime st ahead false = (0, none)) := by unfold Silo.rdTime; simp [h0, Hid]
      go_enter Try.func80, Try.ntmps80
      go_wp2_with fail
      refine (RdCode_any w rb st H.out.1 H.out.2).mono ?_
      rintro e w1 ⟨rfl, hr⟩
      have HR : Hid _ := hr
      clear hr
      rw [h0]
      go_wp2_with fail
      refine (RdFail_st w1 rb _ HR.out.1).mono ?_
      rintro e w2 ⟨rfl, hr2⟩
      have HR2 : Hid _ := hr2
      clear hr2
      go_wp2
      go_ret
      rw [e1.out]
      exact ⟨rfl, HR2.out.1, HR.out.2.trans' HR2.out.2⟩
    · by_cases hc : 9223372036854775807 - ahead < (Silo.rdN st : Int)
      · have e1 : Hid (Silo.rdTime st ahead false = (0, none)) := by unfold Silo.rdTime; simp [hc, Hid]
        have d0 : (((Silo.rdN st : Nat) : Int) == 0) = false := by simpa using h0
        have er := room_eq ahead HA.out
        go_enter Try.func80, Try.ntmps80
        go_wp2_with fail
        refine (RdCode_any w rb st H.out.1 H.out.2).mono ?_
        rintro e w1 ⟨rfl, hr⟩
        have HR : Hid _ := hr
        clear hr
        go_wp2_with fail
        refine (RdFail_st w1 rb _ HR.out.1).mono ?_
        rintro e w2 ⟨rfl, hr2⟩
        have HR2 : Hid _ := hr2
        clear hr2
        go_wp2
        go_ret
        rw [e1.out]
        exact ⟨rfl, HR2.out.1, HR.out.2.trans' HR2.out.2⟩
      · have e1 : Hid (Silo.rdTime st ahead false = (ahead + Silo.rdN st, Silo.rdR st)) := by unfold Silo.rdTime; simp [hc, h0, Hid]
        have d0 : (((Silo.rdN st : Nat) : Int) == 0) = false := by simpa using h0
        have er := room_eq ahead HA.out
        go_enter Try.func80, Try.ntmps80
        go_wp2_with fail
        refine (RdCode_any w rb st H.out.1 H.out.2).mono ?_
        rintro e w1 ⟨rfl, hr⟩
        have HR : Hid _ := hr
        clear hr
        go_wp2
        go_ret
        rw [e1.out]
        exact ⟨ret_int (sum_eq ahead _ HA.out (by omega)), HR.out.1, HR.out.2⟩
  · have e1 : Hid (Silo.rdTime st ahead true = (Silo.zag (Silo.rdN st), Silo.rdR st)) := by unfold Silo.rdTime; simp [Hid]
    go_enter Try.func80, Try.ntmps80
    go_wp2_with fail
    refine (RdCode_any w rb st H.out.1 H.out.2).mono ?_
    rintro e w1 ⟨rfl, hr⟩
    have HR : Hid _ := hr
    clear hr
    go_wp2_with fail
    refine (ToSigned_any _ _ hlt.out).mono ?_
    rintro e w2 ⟨rfl, rfl⟩
    go_wp2
    go_ret
    rw [e1.out]
    exact ⟨rfl, HR.out.1, HR.out.2⟩

end Go.Proofs.Ytojjkjfcbfoinaa
