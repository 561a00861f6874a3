/- sets.layered: with nothing below; what layered itself answers. -/
import Derived.Test.YtojjkjfcbfoinaaLayered2
namespace Go.Proofs.Ytojjkjfcbfoinaa
open Go.RowKit Go.Shelf

attribute [local go_sem] Oper.semAt_some

set_option maxHeartbeats 2000000 in
set_option maxRecDepth 100000 in
theorem layeredCl_none (n : Nat) (hn : 4 ≤ n) (bu bl baseU gu cu : Nat) (us : List Silo.Pt) (w : World) (hub : w.heap[bu]? = some (.cells #[.slice (some ⟨gu, 0, none⟩) us.length cu] 58 (0, 0)))
    (hlb : w.heap[bl]? = some (.cells #[.slice none 0 0] 58 (0, 0))) (hur : World.ptsAt w baseU (.slice (some ⟨gu, 0, none⟩) us.length cu) us) (hlu : us.length ≤ 1099511627776) :
    SeqFp Fence.wide n Try.prog 73 #[.pointer (some ⟨bu, 0, none⟩), .pointer (some ⟨bl, 0, none⟩)] (fun p => #[ptV p]) (Silo.mergeL [] us) (fun k => k = bu ∨ k = bl ∨ k = gu) (fun _ => False) w (fun _ => True) := by
  intro l J B W hW hB hJ hY h0
  refine callsIn_of_wp Try.func73 rfl trivial ?_ rfl
  simp only [Try.ntmps73, List.size_toArray, List.length_cons, List.length_nil, Nat.reduceAdd, Nat.reduceSub, Array.replicate_succ, Array.replicate_zero, List.push_toArray, List.append_toArray, List.nil_append, List.cons_append]
  obtain ⟨NU, hNU⟩ : ∃ NU, us.length = NU := ⟨_, rfl⟩
  have HRD : Hid (∀ wr, Fp B W wr → wr.cell? ⟨bl, 0, none⟩ = some (.slice none 0 0) ∧ World.ptsAt wr baseU (.slice (some ⟨gu, 0, none⟩) us.length cu) us) := fun wr hf =>
    ⟨by
      rw [hf.cell (p := ⟨bl, 0, none⟩) (Nat.lt_of_lt_of_le (heap_lt hlb) hW.size) (fun h => (hB _ h).2 (.inr (.inl rfl))), hW.cell (p := ⟨bl, 0, none⟩) (heap_lt hlb) (fun h => h)]
      simp [World.cell?, hlb], Fp.ownsRow (hW.trans hf (U := B) (fun _ h => h.elim) (fun _ _ h => h)) hur (fun q e hq => by
        simp [Value.ownBlock] at e; subst e; exact (hB _ hq).2 (.inr (.inr rfl)))⟩
  have HN : Hid (us.length = NU) := hNU
  have c1 : W.cell? ⟨bu, 0, none⟩ = some (.slice (some ⟨gu, 0, none⟩) NU cu) := by
    rw [← hNU, hW.cell (p := ⟨bu, 0, none⟩) (heap_lt hub) (fun h => h)]; simp [World.cell?, hub]
  rw [hNU] at hlu
  have HY : Hid _ := hY
  have HJ : Hid _ := hJ
  have H0 : Hid (LSt J B W [] us B 0 0 [] W) := ⟨h0, Fp.refl _ _, fun k hk => ⟨.inl hk, (hB k hk).1⟩, by simp⟩
  clear hY hJ h0 hB hub hlb hur hW hNU
  gi_wp2
  gi_loopw [4, 11] (fun iv jv wo => ∃ j : Nat, j ≤ NU ∧ iv = .int .i64 0 ∧ jv = .int .i64 j ∧ Hid (∃ B' pre, LSt J B W [] us B' 0 j pre wo)) (fun _ jv _ => NU - (intOf jv).toNat)
  case atStart => exact ⟨0, Nat.zero_le _, rfl, rfl, B, [], H0.out⟩
  case round =>
    obtain ⟨wo, rfl⟩ : ∃ x, x = wr := ⟨_, rfl⟩
    obtain ⟨j, hj, rfl, rfl, HR⟩ := hrel
    by_cases hlt : j < NU
    · obtain ⟨B1, pre1, hst1⟩ := HR.out
      have hju : j < us.length := by have := HN.out; omega
      obtain ⟨u0, u1⟩ := ptsAt_cell (HRD.out wo hst1.foot).2 j hju
      obtain ⟨x, hx⟩ : ∃ x, us[j] = x := ⟨_, rfl⟩
      rw [hx] at u0 u1
      have HX : Hid (us.drop j = x :: us.drop (j + 1)) := by show _ = _; rw [List.drop_eq_getElem_cons hju, hx]
      have hgu : gu < wo.heap.size := (World.ownsRow.lt (HRD.out wo hst1.foot).2 gu rfl).2
      have HST1 : Hid _ := hst1
      clear hst1 hx hju
      have hjl : (j : Int) < (NU : Int) := by omega
      gi_wp2_with fail
      gi_loopw [4] (fun iv wr => iv = .int .i64 0 ∧ Hid (∃ B' pre, LSt J B W [] us B' 0 j pre wr ∧ ¬ B' wo.heap.size ∧ wr.heap[wo.heap.size]? = some (.cells #[.int .i64 x.t, .int .u64 (x.v : Nat)] 80 (0, 0)))) (fun _ _ => 0)
      case atStart =>
        refine ⟨rfl, B1, pre1, HST1.out.alloc HJ.out _, fun h => ?_, heap_new _ _⟩
        have := (HST1.out.old _ h).2
        omega
      case round =>
        obtain ⟨rfl, HR2⟩ := hrel
        obtain ⟨B2, pre2, hst2, hnb, hpb⟩ := HR2.out
        have cl0 := (HRD.out wr hst2.foot).1
        have cx0 : wr.cell? ⟨wo.heap.size, 0, none⟩ = some (.int .i64 x.t) := by simp [World.cell?, hpb]
        have cx1 : wr.cell? ⟨wo.heap.size, 1, none⟩ = some (.int .u64 (x.v : Nat)) := by simp [World.cell?, hpb]
        have HS2 : Hid _ := And.intro hst2 (And.intro hnb hpb)
        clear hst2 hnb hpb HR2
        gi_wp2_with fail
        gi_quiet (fail)
        obtain ⟨nq1, rfl⟩ : ∃ x, x = nq := ⟨_, rfl⟩
        gi_wp2_with fail
        gi_quiet (fail)
        have hm : Silo.mergeL (([] : List Silo.Pt).drop 0) (us.drop j) = x :: Silo.mergeL (([] : List Silo.Pt).drop 0) (us.drop (j + 1)) := by rw [HX.out, List.drop_nil, Silo.mergeL_nil]
        obtain ⟨fn, tmps, assign, body, hyy, hR⟩ := HY.out B2 pre2 x (wr.drewN (nq1 + nq)) ((HS2.out.1.quiet HJ.out (Fp.drewN _ _ _)).inv) (fun k hk => (HS2.out.1.old k hk).2) (HS2.out.1.pre hm)
        have HM : Hid _ := hm
        clear hm
        dsimp only [ptV] at hyy
        gi_wp2
        refine ⟨fun _ => by omega, hR.mono ?_⟩
        rintro e W3 ⟨rfl, B3, h3⟩
        have H3 : Hid _ := h3
        clear h3 hR hyy
        gi_wp2
        go_roundw
        case rel => exact ⟨j + 1, by omega, rfl, by go_num, B3, pre2 ++ [x], (HS2.out.1.quiet HJ.out (Fp.drewN _ _ _)).yielded HM.out H3.out.1 H3.out.2.1 H3.out.2.2⟩
        case measure => simp [intOf]; omega
    · obtain rfl : j = NU := by omega
      obtain ⟨B1, pre1, hst1⟩ := HR.out
      have cl0 := (HRD.out wo hst1.foot).1
      have HU : Hid (us.drop j = []) := by show _ = _; exact List.drop_of_length_le (by have := HN.out; omega)
      have hfin : Silo.mergeL [] us = pre1 := by rw [hst1.rest, HU.out, Silo.mergeL_end, List.drop_nil, List.append_nil]
      have HST1 : Hid _ := And.intro hst1 hfin
      clear hst1 hfin
      gi_wp2_with fail
      gi_loopw [63] (fun kv wr => kv = .int .i64 0 ∧ wr = wo) (fun _ _ => 0)
      case atStart => exact ⟨rfl, rfl⟩
      case round =>
        obtain ⟨rfl, rfl⟩ := hrel
        gi_wp2
        go_end0
        first
          | exact ⟨⟨_, rfl⟩, B1, by rw [HST1.out.2]; exact HST1.out.1.inv, HST1.out.1.foot.mono (fun _ _ h => .inl h), HST1.out.1.old, trivial⟩
          | exact ⟨⟨_, rfl⟩, B1, by rw [HST1.out.2]; exact HST1.out.1.inv, HST1.out.1.foot, HST1.out.1.old⟩
          | exact ⟨B1, by rw [HST1.out.2]; exact HST1.out.1.inv, HST1.out.1.foot, HST1.out.1.old⟩

set_option maxHeartbeats 400000 in
theorem layered_any (a : Option Addr) (n c : Nat) (a' : Option Addr) (n' c' : Nat) (w : World) :
    Calls Try.prog 54 #[.slice a n c, .slice a' n' c'] w fun e w' => e = .returned (.func (.func 73) #[] #[.pointer (some ⟨w.heap.size + 1, 0, none⟩), .pointer (some ⟨w.heap.size, 0, none⟩)]) ∧
      w' = (w.alloc (.cells #[.slice a n c] 58)).alloc (.cells #[.slice a' n' c'] 58) := by
  have hmf : ∀ (fn : Fn) (first cap : Array Value) (w : World), (Instr.makeFunc fn first cap).run Try.prog w = .ok (.func fn first cap) w := fun _ _ _ _ => rfl
  go_enter Try.func54, Try.ntmps54
  go_wp2
  go_ret
  exact ⟨ret_val (by simp), rfl⟩

end Go.Proofs.Ytojjkjfcbfoinaa
