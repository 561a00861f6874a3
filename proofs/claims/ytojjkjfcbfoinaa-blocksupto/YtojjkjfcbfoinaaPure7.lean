/- Plain facts: a block's file is read as what was told in it; what is read is told in the same bytes; and samples laid one by one. -/
import Derived.Test.YtojjkjfcbfoinaaPure6
namespace Silo

/-- A series' points as samples. -/
def smps (s : Nat) (ps : List Pt) : List Smp := ps.map fun p => ⟨(s : Int), p.t, p.v⟩

/-- The samples of the series from s on, n of them. -/
def flatFrom (m : Nat → List Pt) : Nat → Nat → List Smp
  | _, 0 => []
  | s, n + 1 => smps s (m s) ++ flatFrom m (s + 1) n

def flat (m : Nat → List Pt) : List Smp := flatFrom m 0 16

theorem rdPoints_enc (ps : List Pt) (r : List UInt8) (hne : ps ≠ []) (hg : goodPts 0 true ps) (hl : ps.length < M64) :
    rdPoints (some (leb ps.length ++ (encPts 0 0 true ps ++ r))) = (ps, some r) := by
  have hpos : 0 < ps.length := List.length_pos_iff.2 hne
  unfold rdPoints
  rw [rdN_leb _ _ hl, rdR_leb _ _ hl]
  have h2 := encPts_len ps 0 0 true
  have : ¬ (ps.length = 0 ∨ left (some (encPts 0 0 true ps ++ r)) / 2 < ps.length) := by
    simp only [left, List.length_append]
    omega
  rw [if_neg this, rdPts_enc ps 0 0 true r hg (by unfold isInt; omega) M64_pos]

theorem rdSmp_enc (m : Nat → List Pt) (r : List UInt8) : ∀ (n s fuel ahead : Nat), s + n = 16 → ahead ≤ s → n + 1 ≤ fuel → (∀ j, j < 16 → goodPts 0 true (m j) ∧ (m j).length < M64) →
    rdSmp fuel (some (encAll m s n ++ (0 :: r))) ahead = (flatFrom m s n, some r) := by
  intro n
  induction n with
  | zero =>
    intro s fuel ahead _ _ hf _
    obtain ⟨f, rfl⟩ : ∃ f, fuel = f + 1 := ⟨fuel - 1, by omega⟩
    have e : (encAll m s 0 ++ (0 :: r) : List UInt8) = leb 0 ++ r := by rw [leb_lo 0 (by omega)]; rfl
    rw [e, rdSmp, rdN_leb 0 r M64_pos, if_pos rfl, rdR_leb 0 r M64_pos]
    rfl
  | succ n ih =>
    intro s fuel ahead hs ha hf hg
    by_cases hem : m s = []
    · have e : encAll m s (n + 1) = encAll m (s + 1) n := by rw [encAll, if_pos hem]; rfl
      rw [e, ih (s + 1) fuel ahead (by omega) (by omega) (by omega) hg, flatFrom, hem]
      rfl
    · obtain ⟨f, rfl⟩ : ∃ f, fuel = f + 1 := ⟨fuel - 1, by omega⟩
      have hgs := hg s (by omega)
      have hs1 : s + 1 < M64 := by unfold M64; omega
      have e : encAll m s (n + 1) ++ (0 :: r) = leb (s + 1) ++ (leb (m s).length ++ (encPts 0 0 true (m s) ++ (encAll m (s + 1) n ++ (0 :: r)))) := by
        rw [encAll, if_neg hem, encSer]; simp
      rw [e, rdSmp, rdN_leb _ _ hs1, rdR_leb _ _ hs1, if_neg (by omega), if_neg (by omega), rdPoints_enc _ _ hem hgs.1 hgs.2]
      simp only
      rw [ih (s + 1) f (s + 1) (by omega) (by omega) (by omega) hg, flatFrom]
      have e2 : (((s + 1 : Nat) : Int) - 1) = (s : Int) := by omega
      rw [e2]
      rfl

theorem be8_length (h : Nat) : (be8 h).length = 8 := rfl

theorem decode_sealed (l : List UInt8) : decode (sealed l) = match l with
    | [] => none
    | b :: body => if b = 66 then decBody body else none := by
  have hl : (sealed l).length = l.length + 8 := by unfold sealed; rw [List.length_append, be8_length]
  have ht : (sealed l).take ((sealed l).length - 8) = l := by rw [hl, Nat.add_sub_cancel]; unfold sealed; simp
  have hd : (sealed l).drop ((sealed l).length - 8) = be8 (fnv l) := by rw [hl, Nat.add_sub_cancel]; unfold sealed; simp
  unfold decode
  rw [if_neg (by omega), ht, hd, if_neg (fun h => h rfl)]
  cases l <;> rfl

/-- What is told is read as what it was. -/
theorem decode_file (lo hi : Nat) (m : Nat → List Pt) (hlo : lo ≤ hi) (hhi : hi ≤ 999999) (hg : ∀ j, j < 16 → goodPts 0 true (m j) ∧ (m j).length < M64) : decode (file lo hi m) = some ⟨lo, hi, flat m⟩ := by
  unfold file
  rw [decode_sealed, encBody]
  simp only [if_true]
  have hlo' : lo < M64 := by unfold M64; omega
  have hhi' : hi < M64 := by unfold M64; omega
  have e : leb lo ++ leb hi ++ (encAll m 0 16 ++ [0]) = leb lo ++ (leb hi ++ (encAll m 0 16 ++ (0 :: []))) := by simp
  unfold decBody
  rw [e]
  have h1 : rdNum (some (leb lo ++ (leb hi ++ (encAll m 0 16 ++ (0 :: []))))) = (lo, some (leb hi ++ (encAll m 0 16 ++ (0 :: [])))) := by
    unfold rdNum; rw [rdN_leb _ _ hlo', rdR_leb _ _ hlo', if_neg (by omega)]
  have h2 : rdNum (some (leb hi ++ (encAll m 0 16 ++ (0 :: [])))) = (hi, some (encAll m 0 16 ++ (0 :: []))) := by
    unfold rdNum; rw [rdN_leb _ _ hhi', rdR_leb _ _ hhi', if_neg (by omega)]
  rw [h1]
  simp only
  rw [h2]
  simp only
  rw [rdSmp_enc m [] 16 0 17 0 (by omega) (by omega) (by omega) hg]
  simp only [if_true]
  rw [if_neg (by simp; omega)]
  rfl

theorem encAll_congr {m m' : Nat → List Pt} : ∀ (n s : Nat), (∀ j, s ≤ j → j < s + n → m j = m' j) → encAll m s n = encAll m' s n := by
  intro n
  induction n with
  | zero => intros; rfl
  | succ n ih =>
    intro s h
    rw [encAll, encAll, h s (by omega) (by omega), ih (s + 1) (fun j h1 h2 => h j (by omega) (by omega))]

theorem flatFrom_congr {m m' : Nat → List Pt} : ∀ (n s : Nat), (∀ j, s ≤ j → j < s + n → m j = m' j) → flatFrom m s n = flatFrom m' s n := by
  intro n
  induction n with
  | zero => intros; rfl
  | succ n ih =>
    intro s h
    rw [flatFrom, flatFrom, h s (by omega) (by omega), ih (s + 1) (fun j h1 h2 => h j (by omega) (by omega))]

theorem encAll_skip {m : Nat → List Pt} (n : Nat) : ∀ (k s : Nat), (∀ j, s ≤ j → j < s + k → m j = []) → encAll m s (k + n) = encAll m (s + k) n := by
  intro k
  induction k with
  | zero => intro s _; rw [Nat.zero_add]; rfl
  | succ k ih =>
    intro s h
    rw [show k + 1 + n = (k + n) + 1 by omega, encAll, if_pos (h s (by omega) (by omega)), List.nil_append, ih (s + 1) (fun j h1 h2 => h j (by omega) (by omega))]
    congr 1; omega

theorem flatFrom_skip {m : Nat → List Pt} (n : Nat) : ∀ (k s : Nat), (∀ j, s ≤ j → j < s + k → m j = []) → flatFrom m s (k + n) = flatFrom m (s + k) n := by
  intro k
  induction k with
  | zero => intro s _; rw [Nat.zero_add]; rfl
  | succ k ih =>
    intro s h
    rw [show k + 1 + n = (k + n) + 1 by omega, flatFrom, h s (by omega) (by omega), smps, List.map_nil, List.nil_append, ih (s + 1) (fun j h1 h2 => h j (by omega) (by omega))]
    congr 1; omega

theorem rdPoints_some {st : St} {ps : List Pt} {r : List UInt8} (h : rdPoints st = (ps, some r)) : st = some (leb ps.length ++ (encPts 0 0 true ps ++ r)) ∧ ps ≠ [] ∧ goodPts 0 true ps := by
  unfold rdPoints at h
  split at h
  · cases h
  · rename_i hc
    obtain ⟨h1, h2, h3⟩ := rdPts_some _ _ _ _ _ _ _ (by unfold isInt; omega) M64_pos h
    obtain ⟨h4, _⟩ := rdR_some h1
    refine ⟨by rw [h2]; exact h4, fun e => ?_, h3⟩
    subst e
    simp at h2
    exact hc (.inl h2.symm)

theorem rdSmp_some : ∀ (fuel : Nat) (st : St) (ah : Nat) (l : List Smp) (r : List UInt8), ah ≤ 16 → rdSmp fuel st ah = (l, some r) →
    ∃ m : Nat → List Pt, st = some (encAll m ah (16 - ah) ++ (0 :: r)) ∧ l = flatFrom m ah (16 - ah) ∧ (∀ j, goodPts 0 true (m j)) ∧ ∀ j, j < ah → m j = [] := by
  intro fuel
  induction fuel with
  | zero => intro st ah l r _ h; rw [rdSmp] at h; cases h
  | succ fuel ih =>
    intro st ah l r hah h
    rw [rdSmp] at h
    by_cases h0 : rdN st = 0
    · rw [if_pos h0] at h
      simp only [Prod.mk.injEq] at h
      obtain ⟨h1, h2⟩ := h
      obtain ⟨h3, _⟩ := rdR_some h2
      have ee : encAll (fun _ => []) ah (16 - ah) = [] := by
        have := encAll_skip (m := fun _ => []) 0 (16 - ah) ah (fun _ _ _ => rfl)
        rw [Nat.add_zero] at this
        rw [this]; rfl
      have ef : flatFrom (fun _ => []) ah (16 - ah) = [] := by
        have := flatFrom_skip (m := fun _ => []) 0 (16 - ah) ah (fun _ _ _ => rfl)
        rw [Nat.add_zero] at this
        rw [this]; rfl
      refine ⟨fun _ => [], ?_, ?_, fun _ => trivial, fun _ _ => rfl⟩
      · rw [ee, h3, h0, leb_lo 0 (by omega)]; rfl
      · rw [ef, h1]
    · rw [if_neg h0] at h
      by_cases hc : rdN st ≤ ah ∨ 16 < rdN st
      · rw [if_pos hc] at h; cases h
      · rw [if_neg hc] at h
        simp only [Prod.mk.injEq] at h
        obtain ⟨h1, h2⟩ := h
        obtain ⟨n, hn⟩ : ∃ n, rdN st = n := ⟨_, rfl⟩
        rw [hn] at h0 hc h1 h2
        obtain ⟨a, ha⟩ : ∃ a, rdPoints (rdR st) = a := ⟨_, rfl⟩
        rw [ha] at h1 h2
        obtain ⟨b, hb⟩ : ∃ b, rdSmp fuel a.2 n = b := ⟨_, rfl⟩
        rw [hb] at h1 h2
        obtain ⟨m', e1, e2, e3, e4⟩ := ih a.2 n b.1 r (by omega) (by rw [hb, ← h2])
        obtain ⟨e5, e6, e7⟩ := rdPoints_some (st := rdR st) (ps := a.1) (by rw [ha, ← e1])
        obtain ⟨e8, _⟩ := rdR_some e5
        obtain ⟨s, rfl⟩ : ∃ s, n = s + 1 := ⟨n - 1, by omega⟩
        have hk : 16 - ah = (s - ah) + ((16 - (s + 1)) + 1) := by omega
        have hz : ∀ j, ah ≤ j → j < ah + (s - ah) → (fun j => if j = s then a.1 else m' j) j = [] := fun j g1 g2 => by
          simp only
          rw [if_neg (by omega)]
          exact e4 j (by omega)
        have has : ah + (s - ah) = s := by omega
        have hcg : ∀ j, s + 1 ≤ j → j < s + 1 + (16 - (s + 1)) → (fun j => if j = s then a.1 else m' j) j = m' j := fun j g1 g2 => by
          simp only
          rw [if_neg (by omega)]
        refine ⟨fun j => if j = s then a.1 else m' j, ?_, ?_, fun j => ?_, fun j hj => ?_⟩
        · rw [hk, encAll_skip _ _ _ hz, has, encAll, encAll_congr _ _ hcg]
          simp only [if_true]
          rw [if_neg e6, e8, hn, encSer]
          simp
        · rw [hk, flatFrom_skip _ _ _ hz, has, flatFrom, flatFrom_congr _ _ hcg]
          simp only [if_true]
          rw [← h1, e2]
          have e9 : (((s + 1 : Nat) : Int) - 1) = (s : Int) := by omega
          rw [e9]
          rfl
        · simp only
          split
          · exact e7
          · exact e3 j
        · simp only
          rw [if_neg (by omega)]
          exact e4 j (by omega)

theorem rdNum_some {st : St} {n : Nat} {r : List UInt8} (h : rdNum st = (n, some r)) : st = some (leb n ++ r) ∧ n ≤ 999999 := by
  unfold rdNum at h
  split at h
  · cases h
  · rename_i hc
    simp only [Prod.mk.injEq] at h
    obtain ⟨rfl, h2⟩ := h
    exact ⟨(rdR_some h2).1, by omega⟩

theorem rdSmp_left {fuel ah : Nat} {l : List Smp} {r : List UInt8} {st : St} (h : rdSmp fuel st ah = (l, some r)) (hah : ah ≤ 16) : ∃ x, st = some x := by
  obtain ⟨m, h1, _⟩ := rdSmp_some fuel st ah l r hah h
  exact ⟨_, h1⟩

theorem rdNum_left {st : St} {r : List UInt8} (h : (rdNum st).2 = some r) : ∃ x, st = some x := by
  obtain ⟨h1, _⟩ := rdNum_some (st := st) (n := (rdNum st).1) (r := r) (by rw [← h])
  exact ⟨_, h1⟩

/-- What is read is told in the same bytes. -/
theorem decode_some {f : List UInt8} {d : Dec} (h : decode f = some d) : ∃ m : Nat → List Pt, f = file d.lo d.hi m ∧ d.l = flat m ∧ (∀ j, goodPts 0 true (m j)) ∧ d.lo ≤ d.hi ∧ d.hi ≤ 999999 := by
  unfold decode at h
  split at h
  · cases h
  · split at h
    · cases h
    · rename_i hl hh
      have hh' : be8 (fnv (f.take (f.length - 8))) = f.drop (f.length - 8) := Classical.byContradiction hh
      have hf : f = sealed (f.take (f.length - 8)) := by
        unfold sealed
        rw [hh', List.take_append_drop]
      obtain ⟨t, ht⟩ : ∃ t, f.take (f.length - 8) = t := ⟨_, rfl⟩
      rw [ht] at h hf
      cases t with
      | nil => cases h
      | cons b body =>
        simp only at h
        split at h
        · rename_i hb
          subst hb
          unfold decBody at h
          simp only at h
          split at h
          · cases h
          · rename_i hr
            have hr' := Classical.byContradiction hr
            split at h
            · rename_i hc
              cases h
              obtain ⟨m, e1, e2, e3, _⟩ := rdSmp_some 17 _ 0 _ [] (by omega) (show rdSmp 17 (rdNum (rdNum (some body)).2).2 0 = (_, some []) by rw [← hc])
              obtain ⟨e4, _⟩ := rdNum_some (st := (rdNum (some body)).2) (n := _) (show rdNum (rdNum (some body)).2 = (_, some _) by rw [← e1])
              obtain ⟨e5, _⟩ := rdNum_some (st := some body) (n := _) (show rdNum (some body) = (_, some _) by rw [← e4])
              refine ⟨m, ?_, e2, e3, hr'.1, hr'.2⟩
              simp only [Option.some.injEq] at e5
              refine hf.trans ?_
              unfold file encBody
              exact congrArg sealed (congrArg (66 :: ·) (e5.trans (by rw [List.append_assoc])))
            · cases h
        · cases h

/-! ### Samples, by series and times -/

/-- A sample stands ahead of another. -/
def bef (a x : Smp) : Prop := a.s < x.s ∨ a.s = x.s ∧ a.t < x.t
def AscS (l : List Smp) : Prop := l.Pairwise bef
def ofK (s t : Int) (l : List Smp) : List Smp := l.filter fun a => decide (a.s = s ∧ a.t = t)

theorem ofK_append (s t : Int) (a b : List Smp) : ofK s t (a ++ b) = ofK s t a ++ ofK s t b := by simp [ofK]
theorem mem_ofK {s t : Int} {a : Smp} {l : List Smp} : a ∈ ofK s t l ↔ a ∈ l ∧ a.s = s ∧ a.t = t := by unfold ofK; rw [List.mem_filter]; simp
theorem ofK_nil_of {s t : Int} {l : List Smp} (h : ∀ a ∈ l, ¬ (a.s = s ∧ a.t = t)) : ofK s t l = [] := by
  unfold ofK
  rw [List.filter_eq_nil_iff]
  intro a ha
  simpa using h a ha
theorem ofK_same (x : Smp) : ofK x.s x.t [x] = [x] := by simp [ofK]
theorem ofK_ne {s t : Int} {x : Smp} (h : ¬ (x.s = s ∧ x.t = t)) : ofK s t [x] = [] := ofK_nil_of (fun a ha => by simp only [List.mem_singleton] at ha; subst ha; exact h)

theorem AscS.ext : ∀ {a b : List Smp}, AscS a → AscS b → (∀ s t, ofK s t a = ofK s t b) → a = b := by
  intro a
  induction a with
  | nil =>
    intro b _ _ h
    cases b with
    | nil => rfl
    | cons q b =>
      have hm : q ∈ ofK q.s q.t (q :: b) := mem_ofK.2 ⟨List.mem_cons_self, rfl, rfl⟩
      rw [← h q.s q.t] at hm
      simp [ofK] at hm
  | cons p a ih =>
    intro b ha hb h
    have hpa := List.pairwise_cons.1 ha
    cases b with
    | nil =>
      have hm : p ∈ ofK p.s p.t (p :: a) := mem_ofK.2 ⟨List.mem_cons_self, rfl, rfl⟩
      rw [h p.s p.t] at hm
      simp [ofK] at hm
    | cons q b =>
      have hqb := List.pairwise_cons.1 hb
      have hp : p ∈ q :: b := (mem_ofK.1 (by rw [← h p.s p.t]; exact mem_ofK.2 ⟨List.mem_cons_self, rfl, rfl⟩)).1
      have hq : q ∈ p :: a := (mem_ofK.1 (by rw [h q.s q.t]; exact mem_ofK.2 ⟨List.mem_cons_self, rfl, rfl⟩)).1
      have e : p = q := by
        rcases List.mem_cons.1 hp with e | hp
        · exact e
        · rcases List.mem_cons.1 hq with e | hq
          · exact e.symm
          · have h1 := hqb.1 p hp
            have h2 := hpa.1 q hq
            unfold bef at h1 h2
            omega
      subst e
      congr 1
      refine ih hpa.2 hqb.2 (fun s t => ?_)
      have := h s t
      have e1 : ofK s t (p :: a) = ofK s t [p] ++ ofK s t a := ofK_append s t [p] a
      have e2 : ofK s t (p :: b) = ofK s t [p] ++ ofK s t b := ofK_append s t [p] b
      rw [e1, e2] at this
      exact List.append_cancel_left this

end Silo
