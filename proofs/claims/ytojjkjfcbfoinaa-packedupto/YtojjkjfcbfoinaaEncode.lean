/- Encode: a block's file, told. -/
import Derived.Test.YtojjkjfcbfoinaaSeries
import Derived.Test.YtojjkjfcbfoinaaSealed
import Derived.Lib.SlBytesConst
namespace Go.Proofs.Ytojjkjfcbfoinaa
open Go.RowKit Go.Shelf

theorem appendSeries_any (base tb tk s g cap : Nat) (l : List UInt8) (v : Value) (ps : List Silo.Pt) (w : World) (hs : s < 16) (hset : LineAt w base tb tk v ps)
    (hown : World.bytesAt w base (.slice (some ⟨g, 0, none⟩) l.length cap) l) (hb : base ≤ w.heap.size) (hne : ps ≠ []) (hg : Silo.goodPts 0 true ps) (hl : l.length + 30 * ps.length + 60 ≤ 1099511627776) :
    Calls Try.prog 38 #[.slice (some ⟨g, 0, none⟩) l.length cap, .int .i64 s, .pointer (some ⟨tb, tk, none⟩)] w fun e w' => ∃ g' cap', e = .returned (.slice (some ⟨g', 0, none⟩) (l ++ Silo.encSer s ps).length cap') ∧
      Hid (World.bytesAt w' base (.slice (some ⟨g', 0, none⟩) (l ++ Silo.encSer s ps).length cap') (l ++ Silo.encSer s ps) ∧ Fp (fun k => k = g) w w' ∧ (g' = g ∨ w.heap.size ≤ g') ∧ g' < w'.heap.size) :=
  callsIn_wide.1 (appendSeries_in 20 (by decide) base tb tk s g cap l v ps w hs hset hown hb hne hg hl)

theorem conv_row {w4 : World} {base g4 cap4 : Nat} {l : List UInt8} (h : World.bytesAt w4 base (.slice (some ⟨g4, 0, none⟩) (l.length + 1) cap4) (l ++ [0])) :
    (convert 84 9 (.slice (some ⟨g4, 0, none⟩) (l.length + 1) cap4)).run Try.prog w4 = .ok (.string (S (l ++ [0]))) w4 := by
  have e : l.length + 1 = (l ++ [0]).length := by simp
  rw [e] at h ⊢
  refine conv_bytes w4 g4 cap4 (l ++ [0]) ?_
  intro i hi
  have h2 := World.ownsRow.cells h (g := g4) rfl i (.int .u8 ((l ++ [0])[i].toNat : Nat)) (by rw [Bs, List.getElem?_map, List.getElem?_eq_getElem hi]; rfl)
  unfold Addr.add at h2
  by_cases hz : i = 0
  · subst hz; exact h2
  · rw [if_neg hz] at h2; simpa using h2

/-- The series below k. -/
def encTo (m : Nat → List Silo.Pt) : Nat → List UInt8
  | 0 => []
  | k + 1 => encTo m k ++ (if m k = [] then [] else Silo.encSer k (m k))

theorem encTo_empty (m : Nat → List Silo.Pt) (k : Nat) (h : m k = []) : encTo m (k + 1) = encTo m k := by simp [encTo, h]
theorem encTo_more (m : Nat → List Silo.Pt) (k : Nat) (h : m k ≠ []) : encTo m (k + 1) = encTo m k ++ Silo.encSer k (m k) := by simp [encTo, h]

theorem encAll_snoc (m : Nat → List Silo.Pt) : ∀ (n s : Nat), Silo.encAll m s (n + 1) = Silo.encAll m s n ++ (if m (s + n) = [] then [] else Silo.encSer (s + n) (m (s + n))) := by
  intro n
  induction n with
  | zero => intro s; simp [Silo.encAll]
  | succ n ih =>
    intro s
    rw [Silo.encAll, ih (s + 1), Silo.encAll]
    have e : s + 1 + n = s + (n + 1) := by omega
    rw [e, List.append_assoc]

theorem encTo_eq (m : Nat → List Silo.Pt) : ∀ n, encTo m n = Silo.encAll m 0 n := by
  intro n
  induction n with
  | zero => rfl
  | succ n ih => rw [encTo, encAll_snoc, ih, Nat.zero_add]

theorem encSer_len (s : Nat) (ps : List Silo.Pt) (hs : s < 16) (hg : Silo.goodPts 0 true ps) (hl : ps.length ≤ 16777216) : (Silo.encSer s ps).length ≤ 30 * 16777216 + 60 := by
  unfold Silo.encSer
  rw [List.length_append, List.length_append]
  have h1 := Silo.leb_len (s + 1) (by unfold Silo.M64; omega)
  have h2 := Silo.leb_len ps.length (by unfold Silo.M64; omega)
  have h3 := encPts_max ps 0 0 true (by unfold Silo.isInt; omega) Silo.M64_pos (good_mem ps 0 true hg)
  omega

theorem encTo_len (m : Nat → List Silo.Pt) (hg : ∀ s, s < 16 → Silo.goodPts 0 true (m s)) (hl : ∀ s, s < 16 → (m s).length ≤ 16777216) : ∀ k, k ≤ 16 → (encTo m k).length ≤ k * (30 * 16777216 + 60) := by
  intro k
  induction k with
  | zero => intro _; simp [encTo]
  | succ k ih =>
    intro hk
    have h1 := ih (by omega)
    rw [encTo, List.length_append]
    have h2 : (if m k = [] then [] else Silo.encSer k (m k) : List UInt8).length ≤ 30 * 16777216 + 60 := by
      split
      · simp
      · exact encSer_len k _ (by omega) (hg k (by omega)) (hl k (by omega))
    omega

set_option maxHeartbeats 1000000 in
set_option maxRecDepth 100000 in
theorem Encode_any (lo hi base tb off : Nat) (ty : TypeId) (cs : Array Value) (m : Nat → List Silo.Pt) (w : World) (hlo : lo ≤ 999999) (hhi : hi ≤ 999999) (hset : SetAt w base tb off ty cs m) (hb : base ≤ w.heap.size)
    (hg : ∀ s, s < 16 → Silo.goodPts 0 true (m s)) (hl : ∀ s, s < 16 → (m s).length ≤ 16777216) :
    Calls Try.prog 23 #[.agg #[.int .i64 lo, .int .i64 hi], .pointer (some ⟨tb, off, none⟩)] w fun e w' => e = .returned (.string (S (Silo.file lo hi m))) ∧ Fp (fun _ => False) w w' := by
  have kc := fun (w : World) (C : Array Value) (n c : Nat) => Lib.run_convert_bytes_const (P := Try.prog) w 84 5 C n c Try.underlying84 Try.underlying5
  have kc2 : ∀ (w : World) (o : Obj) (C : Array Value) (n c : Nat), Sem.run Try.prog (convert 84 84 (.slice (some ⟨w.heap.size + 1, 0, none⟩) n c)) ((w.alloc o).alloc (.cells C 5)) =
      .ok (.slice (some ⟨w.heap.size + 1, 0, none⟩) n c) ((w.alloc o).alloc (.cells C 5 (C.size, C.size + 1))) := fun w o C n c => by
    have h := kc (w.alloc o) C n c
    rwa [World.size_alloc] at h
  have HS : Hid _ := And.intro hset (And.intro hg hl)
  clear hset hg hl kc
  go_enter Try.func23, Try.ntmps23
  go_wp2_with fail
  obtain ⟨wb, hwb⟩ : ∃ wb, w.alloc (.cells #[.int .i64 lo, .int .i64 hi] 56) = wb := ⟨_, rfl⟩
  have hpb : wb.heap[w.heap.size]? = some (.cells #[.int .i64 lo, .int .i64 hi] 56 (0, 0)) := by rw [← hwb]; exact heap_new _ _
  have hfb : Fp (fun _ => False) w wb := by rw [← hwb]; exact Fp.alloc _ _ _
  have hszb : wb.heap.size = w.heap.size + 1 := by rw [← hwb]; simp
  rw [hwb, ← hszb]
  have hf0 : Fp (fun _ => False) w (wb.alloc (.cells #[.int .u8 66] 5 (1, 2))) := hfb.trans' (Fp.alloc _ _ _)
  have hor : World.bytesOr (wb.alloc (.cells #[.int .u8 66] 5 (1, 2))) base (.slice (some ⟨wb.heap.size, 0, none⟩) 1 1) [66] := by
    refine .inr ⟨wb.heap.size, rfl, by simp, fun j u hj => ?_⟩
    match j, hj with
    | 0, hj =>
      simp [Bs] at hj
      subst hj
      unfold World.cell?
      rw [show ((⟨wb.heap.size, 0, none⟩ : Addr).add 0).block = wb.heap.size from rfl, heap_new]
      rfl
  refine (Append_any base _ [66] lo (wb.alloc (.cells #[.int .u8 66] 5 (1, 2))) (by unfold Silo.M64; omega) hor (by decide) (by simp; omega)).mono ?_
  rintro e w1 ⟨g1, cap1, rfl, h1⟩
  have hlen1 : ([66] ++ Silo.leb lo).length ≤ 11 := by rw [List.length_append]; have := Silo.leb_len lo (by unfold Silo.M64; omega); simp; omega
  obtain ⟨l1, hl1⟩ : ∃ l1, [66] ++ Silo.leb lo = l1 := ⟨_, rfl⟩
  rw [hl1] at h1 hlen1 ⊢
  have hf1 : Fp (fun _ => False) w w1 := hf0.trans h1.2.1 (fun _ h => h) (fun k hk e => by simp [Value.ownBlock] at e; omega)
  have hp1 : w1.heap[w.heap.size]? = some (.cells #[.int .i64 lo, .int .i64 hi] 56 (0, 0)) := (h1.2.1.block _ (by simp; omega) (by simp [Value.ownBlock]; omega)).trans (heap_old _ _ hpb)
  have x2 : w1.cell? ⟨w.heap.size, 0, none⟩ = some (.int .i64 lo) := by simp [World.cell?, hp1]
  have x3 : w1.cell? ⟨w.heap.size, 1, none⟩ = some (.int .i64 hi) := by simp [World.cell?, hp1]
  have HL1 : Hid _ := hl1
  have H1 : Hid _ := And.intro h1 hf1
  clear hl1 h1 hf1 hf0 hor kc2 hpb hfb hwb hp1
  have HZB : Hid _ := hszb
  clear hszb
  go_wp2_with fail
  refine (Append_any base _ l1 hi w1 (by unfold Silo.M64; omega) (.inl H1.out.1.1) (by omega) (by have := H1.out.2.size; omega)).mono ?_
  rintro e w2 ⟨g2, cap2, rfl, h2⟩
  have hlen2 : (l1 ++ Silo.leb hi).length ≤ 21 := by rw [List.length_append]; have := Silo.leb_len hi (by unfold Silo.M64; omega); omega
  obtain ⟨l2, hl2⟩ : ∃ l2, l1 ++ Silo.leb hi = l2 := ⟨_, rfl⟩
  rw [hl2] at h2 hlen2 ⊢
  have hf2 : Fp (fun _ => False) w w2 := H1.out.2.trans h2.2.1 (fun _ h => h) (fun k hk e => by
    simp only [Value.ownBlock, Option.some.injEq] at e
    have h3 := H1.out.1.2.2.1
    simp [Value.ownBlock] at h3
    have := HZB.out
    omega)
  have HL2 : Hid _ := hl2
  have HG2 : Hid (w.heap.size ≤ g2) := by
    have h3 := H1.out.1.2.2.1
    have h4 := h2.2.2.1
    have := H1.out.2.size
    simp [Value.ownBlock] at h3 h4
    have := HZB.out
    show _ ≤ _
    omega
  have H2 : Hid _ := And.intro h2 hf2
  clear hl2 h2 hf2 x2 x3
  go_wp2_with fail
  go_loopw [5, 20] (fun f i wr => ∃ (k : Nat) (g cap : Nat) (lk : List UInt8), k ≤ 16 ∧ i = .int .i64 k ∧ f = .slice (some ⟨g, 0, none⟩) lk.length cap ∧ Hid (lk = l2 ++ encTo m k ∧ World.bytesAt wr base (.slice (some ⟨g, 0, none⟩) lk.length cap) lk ∧ Fp (fun _ => False) w wr ∧ w.heap.size ≤ g)) (fun _ i _ => 16 - (intOf i).toNat)
  case atStart => exact ⟨0, g2, cap2, l2, by omega, rfl, rfl, by simp [encTo], H2.out.1.1, H2.out.2, HG2.out⟩
  case round =>
    obtain ⟨k, g, cap, lk, hk, rfl, rfl, HR⟩ := hrel
    have hbw : base ≤ wr.heap.size := Nat.le_trans hb HR.out.2.2.1.size
    have hset : SetAt wr base tb off ty cs m := HS.out.1.fp HR.out.2.2.1 (fun h => h) (fun _ _ _ _ _ _ h => h)
    have hlk : lk.length ≤ 21 + k * (30 * 16777216 + 60) := by
      rw [HR.out.1, List.length_append]
      have := encTo_len m HS.out.2.1 HS.out.2.2 k hk
      omega
    by_cases hlt : k < 16
    · have hms := HS.out.2.2 k hlt
      by_cases hem : m k = []
      · have HSE : Hid (SetAt wr base tb off ty cs m ∧ m k = []) := ⟨hset, hem⟩
        clear hset hem
        go_wp2_with fail
        refine (SetLine_any wr tb off k hlt).mono ?_
        rintro e w' ⟨rfl, rfl⟩
        obtain ⟨vk, _, hvk⟩ := HSE.out.1.line k hlt
        go_wp2_with fail
        refine (LineCount_any _ base tb (off + k) vk (m k) hvk (by omega)).mono ?_
        rintro e w' ⟨rfl, rfl⟩
        clear hvk
        rw [HSE.out.2]
        go_wp2
        go_roundw
        case rel => exact ⟨k + 1, g, cap, lk, by omega, by go_num, rfl, by rw [encTo_empty m k HSE.out.2]; exact HR.out⟩
        case measure => simp [intOf]; omega
      · have hpos : 0 < (m k).length := List.length_pos_iff.2 hem
        have HSE : Hid (SetAt wr base tb off ty cs m ∧ m k ≠ []) := ⟨hset, hem⟩
        clear hset hem
        go_wp2_with fail
        refine (SetLine_any wr tb off k hlt).mono ?_
        rintro e w' ⟨rfl, rfl⟩
        obtain ⟨vk, _, hvk'⟩ := HSE.out.1.line k hlt
        have hvk : Hid _ := hvk'
        clear hvk'
        go_wp2_with fail
        refine (LineCount_any _ base tb (off + k) vk (m k) hvk.out (by omega)).mono ?_
        rintro e w' ⟨rfl, rfl⟩
        go_wp2_with fail
        refine (appendSeries_any base tb (off + k) k g cap lk vk (m k) _ hlt hvk.out HR.out.2.1 hbw HSE.out.2 (HS.out.2.1 k hlt) (by omega)).mono ?_
        rintro e w3 ⟨g3, cap3, rfl, H3⟩
        obtain ⟨l3, hl3⟩ : ∃ l3, lk ++ Silo.encSer k (m k) = l3 := ⟨_, rfl⟩
        rw [hl3] at H3 ⊢
        have HL3 : Hid _ := hl3
        clear hl3
        go_wp2
        go_roundw
        case rel =>
          refine ⟨k + 1, g3, cap3, l3, by omega, by go_num, rfl, ?_, H3.out.1, ?_, ?_⟩
          · rw [← HL3.out, HR.out.1, encTo_more m k HSE.out.2]; simp
          · exact HR.out.2.2.1.trans H3.out.2.1 (fun _ h => h) (fun j hj e => by have := HR.out.2.2.2; omega)
          · have h1 := HR.out.2.2.2
            have h2 := HR.out.2.2.1.size
            rcases H3.out.2.2.1 with h | h <;> omega
        case measure => simp [intOf]; omega
    · obtain rfl : k = 16 := by omega
      clear hset
      go_wp2_with (at_builtin; refine wpList_append_byte rfl _ _ rfl base (.slice (some ⟨g, 0, none⟩) lk.length cap) lk 0 rfl ?c1 ⟨wr.heap.size, 0, none⟩ rfl ?c2 ?c3 ?c4 ?_; rotate_left 4; intro g4 cap4 w4 H4; have hcv := conv_row H4.out.1)
      case c1 => exact .inl (World.ownsRow.alloc HR.out.2.1 _)
      case c2 => rw [cell_new']; rfl
      case c3 => omega
      case c4 => simp; omega
      refine (Sealed_any (lk ++ [0]) w4 (by rw [List.length_append]; simp; omega)).mono ?_
      rintro e w5 ⟨rfl, h5⟩
      have H5 : Hid _ := h5
      clear h5 hcv
      go_wp2
      go_ret
      refine ⟨ret_val ?_, ?_⟩
      · have : lk ++ [0] = Silo.encBody lo hi m := by
          rw [HR.out.1, encTo_eq, ← HL2.out, ← HL1.out, Silo.encBody]
          simp
        simp [Silo.file, this]
      · have t1 : Fp (fun _ => False) w w4 := (HR.out.2.2.1.trans' (Fp.alloc _ _ _)).trans H4.out.2.1 (fun _ h => h) (fun k hk e => by
          simp only [Value.ownBlock, Option.some.injEq] at e
          have := HR.out.2.2.2
          omega)
        exact t1.trans' H5.out

end Go.Proofs.Ytojjkjfcbfoinaa
