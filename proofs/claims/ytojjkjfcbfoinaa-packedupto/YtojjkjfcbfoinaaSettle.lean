/- sets.settled's contract: the points by rising times, of each time the one that came last. -/
import Derived.Test.YtojjkjfcbfoinaaSortG
import Derived.BigQuiet
namespace Silo

/-- Of the first i of the sorted points: those whose next one has another time. -/
def ddTo (qs : List Pt) : Nat → List Pt
  | 0 => []
  | i + 1 => if i + 1 < qs.length ∧ (ptAt qs (i + 1)).t = (ptAt qs i).t then ddTo qs i else ddTo qs i ++ [ptAt qs i]

theorem ddTo_le (qs : List Pt) : ∀ i, (ddTo qs i).length ≤ i
  | 0 => by simp [ddTo]
  | i + 1 => by
    have := ddTo_le qs i
    rw [ddTo]
    split
    · omega
    · simp; omega

/-- In the midst: what is kept lies in front, what is still to come is as it was. -/
structure Keeping (qs cs : List Pt) (i : Nat) : Prop where
  len : cs.length = qs.length
  kept : cs.take (ddTo qs i).length = ddTo qs i
  rest : ∀ k, i ≤ k → ptAt cs k = ptAt qs k

theorem Keeping.start (qs : List Pt) : Keeping qs qs 0 := ⟨rfl, by simp [ddTo], fun _ _ => rfl⟩

theorem Keeping.skip {qs cs : List Pt} {i : Nat} (h : Keeping qs cs i) (hc : i + 1 < qs.length ∧ (ptAt qs (i + 1)).t = (ptAt qs i).t) : Keeping qs cs (i + 1) := by
  refine ⟨h.len, ?_, fun k hk => h.rest k (by omega)⟩
  rw [ddTo, if_pos hc]; exact h.kept

theorem ddTo_put {qs : List Pt} {i : Nat} (hc : ¬ (i + 1 < qs.length ∧ (ptAt qs (i + 1)).t = (ptAt qs i).t)) : ddTo qs (i + 1) = ddTo qs i ++ [ptAt qs i] := by rw [ddTo, if_neg hc]

theorem Keeping.put {qs cs : List Pt} {i : Nat} (h : Keeping qs cs i) (hi : i < qs.length) (hc : ¬ (i + 1 < qs.length ∧ (ptAt qs (i + 1)).t = (ptAt qs i).t)) : Keeping qs (cs.set (ddTo qs i).length (ptAt qs i)) (i + 1) := by
  have hl := h.len
  have hle := ddTo_le qs i
  refine ⟨by simp [hl], ?_, fun k hk => ?_⟩
  · rw [ddTo_put hc]
    conv => rhs; rw [← h.kept]
    simp only [List.length_append, List.length_cons, List.length_nil, Nat.zero_add]
    have e : (cs.take (ddTo qs i).length).length = (ddTo qs i).length := by rw [h.kept]
    rw [List.take_succ_eq_append_getElem (by simp; omega), List.take_set_of_le (Nat.le_refl _)]
    simp
  · rw [ptAt_set_ne _ _ _ _ (by omega)]; exact h.rest k (by omega)

end Silo

namespace Go.Proofs.Ytojjkjfcbfoinaa
open Go.RowKit
open Silo (ptAt)

theorem Try.infoPoint : (Try.prog.info? 80).map (fun i => (i.zero, i.size, i.bytes)) = some (some (.agg #[.int .i64 0, .int .u64 0]), 2, 16) := by kernel_rfl

theorem take_set2 {α : Type} : ∀ (n : Nat) (L : List α) (a b : α), n + 1 < L.length → L.take n ++ [a, b] ++ L.drop (n + 2) = (L.set n a).set (n + 1) b
  | 0, x :: y :: r, a, b, _ => rfl
  | 0, [x], a, b, h => by simp at h
  | 0, [], a, b, h => by simp at h
  | n + 1, [], a, b, h => by simp at h
  | n + 1, x :: r, a, b, h => by
    have := take_set2 n r a b (by simpa using h)
    simp only [List.take_succ_cons, List.drop_succ_cons, List.set_cons_succ, List.cons_append]
    rw [← this]

/-- One point appended where there is room: it lies in the place behind the slice's end. -/
theorem run_append_room_pt {W : World} (ty : TypeId) {g : Nat} {cs : List Silo.Pt} {tail : List Value} (h : PB W g cs tail) (k cap : Nat) (hk : k < cs.length) (hcap : cs.length ≤ cap) (p : Silo.Pt) (ad : Addr)
    (hcell : ∀ j u, (ptCells [p])[j]? = some u → W.cell? (ad.add j) = some u) :
    ∃ w', (Builtin.append_ #[58, 58] ty #[.slice (some ⟨g, 0, none⟩) k cap, .slice (some ad) 1 1]).run Try.prog W = .ok (.slice (some ⟨g, 0, none⟩) (k + 1) cap) w' ∧ PB w' g (cs.set k p) tail ∧ Fp (fun k => k = g) W w' := by
  obtain ⟨i0, hi, hz0, hz1, hz2⟩ := info_parts Try.infoPoint
  have hl := ptCells_length cs
  have hr := run_append_room (P := Try.prog) W 58 ty 80 i0 Try.underlying58 hi g k cap _ h ad 1 1 (ptCells [p]) (by rw [hz1]; rfl) hcell
    (by intro u hu; simp [ptCells] at hu; rcases hu with rfl | rfl <;> rfl) (by omega) (by rw [hz1]; simp [ptCells_length]; omega)
  refine ⟨_, hr, ?_, ⟨rfl, rfl, rfl, by simp, fun j _ hj => setRow_other W g j _ hj⟩⟩
  unfold PB
  rw [setRow_heap W g _ _ 80 _ h]
  have e : ptCells [p] = [Value.int .i64 p.t, Value.int .u64 (p.v : Nat)] := rfl
  refine congrArg (fun l => some (Obj.cells (List.toArray l) 80 (0, 0))) ?_
  rw [hz1, ptCells_set cs k p hk]
  rw [e, ← List.set_append_left _ _ (by simp; omega), ← List.set_append_left _ _ (by omega), ← take_set2 _ _ _ _ (by simp; omega)]
  rfl

/-- The cells of a new block that holds one point. -/
theorem pt_new (w : World) (x : Silo.Pt) (t : TypeId) : ∀ j u, (ptCells [x])[j]? = some u → (w.alloc (.cells #[.int .i64 x.t, .int .u64 (x.v : Nat)] t)).cell? ((⟨w.heap.size, 0, none⟩ : Addr).add j) = some u := by
  intro j u hj
  have e : ptCells [x] = [Value.int .i64 x.t, Value.int .u64 (x.v : Nat)] := rfl
  rw [e] at hj
  match j, hj with
  | 0, hj => simp at hj; subst hj; simp [Addr.add]
  | 1, hj => simp at hj; subst hj; simp [Addr.add]

theorem wpList_append_room_pt {ops : Array Oper} {rest : List Oper} {o : Oper} {a : Act} {Q : Exit → Act → World → Prop} {W : World} (hgd : o.guard = none) (s x : Operand)
    (ho : o.op = .call { callee := .builtin .append, args := #[s, x], argTypes := #[58, 58] })
    (g : Nat) (cs : List Silo.Pt) (tail : List Value) (k cap : Nat) (hs : a.eval s = .slice (some ⟨g, 0, none⟩) k cap) (p : Silo.Pt) (ad : Addr) (hx : a.eval x = .slice (some ad) 1 1) (hb : PB W g cs tail) (hk : k < cs.length) (hcap : cs.length ≤ cap)
    (hcell : ∀ j u, (ptCells [p])[j]? = some u → W.cell? (ad.add j) = some u)
    (h : ∀ w', Hid (PB w' g (cs.set k p) tail ∧ Fp (fun k => k = g) W w') → wpList Try.prog ops Q rest (a.put o.dst (.slice (some ⟨g, 0, none⟩) (k + 1) cap)) w') :
    wpList Try.prog ops Q (o :: rest) a W := by
  refine wpList_plain hgd fun K hK => ?_
  obtain ⟨w', hr, h1⟩ := run_append_room_pt (W := W) o.type hb k cap hk hcap p ad hcell
  unfold Oper.wp execOp
  simp only [ho, resolve, invoke, builtin, Sem.run_bind, Sem.run_pure, Result.andThen_ok, List.map_toArray, List.map_cons, List.map_nil, hs, hx, hr]
  exact hK _ _ (h w' h1)

set_option maxHeartbeats 1000000 in
set_option maxRecDepth 100000 in
theorem settled_any (g cap : Nat) (ps : List Silo.Pt) (tail : List Value) (w : World) (N : Nat) (hN : ps.length = N) (h : PB w g ps tail) (hcap : N ≤ cap) (hl : N ≤ 1099511627776) :
    Calls Try.prog 33 #[.slice (some ⟨g, 0, none⟩) N cap] w fun e w' => ∃ qs cs, Silo.Within ps qs 0 N ∧ Silo.Sorted qs 0 N ∧ Silo.Keeping qs cs N ∧
      e = .returned (.slice (some ⟨g, 0, none⟩) (Silo.ddTo qs N).length cap) ∧ PB w' g cs tail ∧ Fp (fun k => k = g) w w' := by
  have H : Hid _ := And.intro hN h
  clear h hN
  go_enter Try.func33, Try.ntmps33
  go_wp2_with fail
  refine (SortStable_any g cap ps tail w N H.out.1 H.out.2 hl).mono ?_
  rintro e w1 ⟨rfl, qs, h1, h2, h3, h4⟩
  have hql : qs.length = N := h2.len.trans H.out.1
  have H1 : Hid _ := And.intro h1 (And.intro h2 (And.intro h3 (And.intro h4 hql)))
  clear h1 h2 h3 h4 hql
  go_wp2_with fail
  go_loopw [3, 12] (fun kv iv wr => ∃ i : Nat, i ≤ N ∧ iv = .int .i64 i ∧ kv = .slice (some ⟨g, 0, none⟩) (Silo.ddTo qs i).length cap ∧ Hid (∃ cs, Silo.Keeping qs cs i ∧ PB wr g cs tail ∧ Fp (fun k => k = g) w1 wr)) (fun _ iv _ => N - (intOf iv).toNat)
  case atStart => exact ⟨0, by omega, rfl, by simp [Silo.ddTo], qs, Silo.Keeping.start qs, H1.out.1, Fp.refl _ _⟩
  case round =>
    obtain ⟨i, hi, rfl, rfl, HR⟩ := hrel
    by_cases hlt : i < N
    · obtain ⟨cs, hk, hpb, hfp⟩ := HR.out
      have hql : qs.length = N := H1.out.2.2.2.2
      have hcl : cs.length = N := hk.len.trans hql
      have hle := Silo.ddTo_le qs i
      obtain ⟨k, hkk⟩ : ∃ k, (Silo.ddTo qs i).length = k := ⟨_, rfl⟩
      obtain ⟨q, hq⟩ : ∃ q, i + 1 = q := ⟨_, rfl⟩
      have bq : (i : Int) + 1 = (q : Int) := by omega
      have bw : IntKind.i64.wrap (q : Int) = (q : Int) := by rw [IntKind.wrap_i64]; omega
      have hgl : g < wr.heap.size := heap_lt hpb
      obtain ⟨c0, c1⟩ := hpb.cell i (by omega)
      rw [hk.rest i (Nat.le_refl _)] at c0 c1
      obtain ⟨p, hp⟩ : ∃ p, ptAt qs i = p := ⟨_, rfl⟩
      rw [hp] at c0 c1
      have HP : Hid _ := And.intro hk (And.intro hpb (And.intro hfp (And.intro hql (And.intro hcl (And.intro hkk (And.intro hq hp))))))
      rw [hkk] at hle ⊢
      have iN : (i : Int) < (N : Int) := by omega
      by_cases hq1 : q < N
      · have qN : (q : Int) < (N : Int) := by omega
        obtain ⟨c2, c3⟩ := hpb.cell q (by omega)
        rw [hk.rest q (by omega)] at c2 c3
        obtain ⟨p2, hp2⟩ : ∃ p2, ptAt qs q = p2 := ⟨_, rfl⟩
        rw [hp2] at c2 c3
        have HP2 : Hid _ := hp2
        clear hk hpb hfp hql hcl hkk hq hp hp2 HR
        by_cases ht : p2.t = p.t
        · have ht' : (p2.t == p.t) = true := by simpa using ht
          have HT : Hid _ := ht
          clear ht
          go_wp2_with fail
          go_quiet (fail)
          go_wp2
          go_roundw
          case rel =>
            obtain ⟨g1, g2, g3, g4, g5, g6, g7, g8⟩ := HP.out
            have hyes : i + 1 < qs.length ∧ (ptAt qs (i + 1)).t = (ptAt qs i).t := by rw [g7, g8, HP2.out, g4]; exact ⟨hq1, HT.out⟩
            refine ⟨q, by omega, rfl, ?_, cs, g7 ▸ g1.skip hyes, g2.fp (Fp.trans' (Fp.alloc (fun _ => False) _ _) (Fp.drewN _ _ nq)) (fun h => h), g3.trans (Fp.trans' (Fp.alloc (fun _ => False) _ _) (Fp.drewN _ _ nq)) (fun _ h => h) (fun _ _ h => h.elim)⟩
            rw [← g7, Silo.ddTo, if_pos hyes, g6]
          case measure => simp [intOf]; omega
        · have ht' : (p2.t == p.t) = false := by simpa using ht
          have HT : Hid _ := ht
          clear ht
          go_wp2_with fail
          go_quiet (fail)
          go_wp2_with (at_builtin; refine wpList_append_room_pt rfl _ _ rfl g cs tail k cap rfl p _ rfl ?hb ?hk ?hcap ?hcell ?_; rotate_left 4; intro w' HA)
          case hb => exact HP.out.2.1.fp (Fp.trans' (Fp.trans' (Fp.alloc (fun _ => False) _ _) (Fp.drewN _ _ nq)) (Fp.alloc _ _ _)) (fun h => h)
          case hk => have := HP.out.2.2.2.2.1; omega
          case hcap => have := HP.out.2.2.2.2.1; omega
          case hcell =>
            have e : ((wr.alloc (.cells #[.int .i64 p.t, .int .u64 (p.v : Nat)] 80)).drewN nq).heap.size = wr.heap.size + 1 := by
              show (wr.heap.push _).size = _
              simp
            have := pt_new ((wr.alloc (.cells #[.int .i64 p.t, .int .u64 (p.v : Nat)] 80)).drewN nq) p 80
            rw [e] at this
            exact this
          go_roundw
          case rel =>
            obtain ⟨g1, g2, g3, g4, g5, g6, g7, g8⟩ := HP.out
            have hno : ¬ (i + 1 < qs.length ∧ (ptAt qs (i + 1)).t = (ptAt qs i).t) := by rw [g7, g8, g4]; rw [HP2.out]; exact fun h => HT.out h.2
            have hput := g1.put (by omega) hno
            rw [g6, g8] at hput
            refine ⟨q, by omega, rfl, ?_, _, g7 ▸ hput, HA.out.1, ?_⟩
            · rw [← g7, Silo.ddTo_put hno]; simp [g6]
            · exact (g3.trans (Fp.trans' (Fp.trans' (Fp.alloc (fun _ => False) _ _) (Fp.drewN _ _ nq)) (Fp.alloc _ _ _)) (fun _ h => h) (fun _ _ h => h.elim)).trans' HA.out.2
          case measure => simp [intOf]; omega
      · clear hk hpb hfp hql hcl hkk hq hp HR
        go_wp2_with fail
        go_quiet (fail)
        go_wp2_with (at_builtin; refine wpList_append_room_pt rfl _ _ rfl g cs tail k cap rfl p _ rfl ?hb ?hk ?hcap ?hcell ?_; rotate_left 4; intro w' HA)
        case hb => exact HP.out.2.1.fp (Fp.trans' (Fp.trans' (Fp.alloc (fun _ => False) _ _) (Fp.drewN _ _ nq)) (Fp.alloc _ _ _)) (fun h => h)
        case hk => have := HP.out.2.2.2.2.1; omega
        case hcap => have := HP.out.2.2.2.2.1; omega
        case hcell =>
          have e : ((wr.alloc (.cells #[.int .i64 p.t, .int .u64 (p.v : Nat)] 80)).drewN nq).heap.size = wr.heap.size + 1 := by
            show (wr.heap.push _).size = _
            simp
          have := pt_new ((wr.alloc (.cells #[.int .i64 p.t, .int .u64 (p.v : Nat)] 80)).drewN nq) p 80
          rw [e] at this
          exact this
        go_roundw
        case rel =>
          obtain ⟨g1, g2, g3, g4, g5, g6, g7, g8⟩ := HP.out
          have hno : ¬ (i + 1 < qs.length ∧ (ptAt qs (i + 1)).t = (ptAt qs i).t) := by rw [g7, g8, g4]; exact fun h => hq1 h.1
          have hput := g1.put (by omega) hno
          rw [g6, g8] at hput
          refine ⟨q, by omega, rfl, ?_, _, g7 ▸ hput, HA.out.1, ?_⟩
          · rw [← g7, Silo.ddTo_put hno]; simp [g6]
          · exact (g3.trans (Fp.trans' (Fp.trans' (Fp.alloc (fun _ => False) _ _) (Fp.drewN _ _ nq)) (Fp.alloc _ _ _)) (fun _ h => h) (fun _ _ h => h.elim)).trans' HA.out.2
        case measure => simp [intOf]; omega
    · obtain rfl : i = N := by omega
      go_wp2
      go_ret
      obtain ⟨cs, h1, h2, h3⟩ := HR.out
      exact ⟨qs, cs, H1.out.2.1, H1.out.2.2.1, h1, ret_val (by simp), h2, H1.out.2.2.2.1.trans' h3⟩

end Go.Proofs.Ytojjkjfcbfoinaa
