/- Plain definitions: a block's file, read and told; and that the two fit together. -/
import Derived.Test.YtojjkjfcbfoinaaPure2
namespace Silo

structure Pt where
  t : Int
  v : Nat
  deriving DecidableEq

structure Smp where
  s : Int
  t : Int
  v : Nat
  deriving DecidableEq

def isInt (t : Int) : Prop := -9223372036854775808 ≤ t ∧ t ≤ 9223372036854775807

/-- The number as which a time is coded. -/
def tcode (t ahead : Int) (first : Bool) : Nat := if first then zig t else ((t - ahead) % 18446744073709551616).toNat

/-! ### What is told -/
def encPts : Int → Nat → Bool → List Pt → List UInt8
  | _, _, _, [] => []
  | t, v, first, p :: ps => leb (tcode p.t t first) ++ leb (p.v ^^^ v) ++ encPts p.t p.v false ps

def encSer (s : Nat) (ps : List Pt) : List UInt8 := leb (s + 1) ++ leb ps.length ++ encPts 0 0 true ps

/-- The series from s on, n of them. -/
def encAll (m : Nat → List Pt) : Nat → Nat → List UInt8
  | _, 0 => []
  | s, n + 1 => (if m s = [] then [] else encSer s (m s)) ++ encAll m (s + 1) n

def encBody (lo hi : Nat) (m : Nat → List Pt) : List UInt8 := 66 :: (leb lo ++ leb hi ++ (encAll m 0 16 ++ [0]))
def file (lo hi : Nat) (m : Nat → List Pt) : List UInt8 := sealed (encBody lo hi m)

/-! ### What is read -/
abbrev St := Option (List UInt8)

def rdN : St → Nat
  | none => 0
  | some l => match rdCode l with
    | none => 0
    | some x => x.1

def rdR : St → St
  | none => none
  | some l => match rdCode l with
    | none => none
    | some x => some x.2

def left : St → Nat
  | none => 0
  | some l => l.length

def rdNum (st : St) : Nat × St := if 999999 < rdN st then (0, none) else (rdN st, rdR st)

def rdTime (st : St) (ahead : Int) (first : Bool) : Int × St :=
  if first = true then (zag (rdN st), rdR st)
  else if rdN st = 0 ∨ 9223372036854775807 - ahead < rdN st then (0, none) else (ahead + rdN st, rdR st)

def rdPts : Nat → St → Int → Nat → Bool → List Pt × St
  | 0, st, _, _, _ => ([], st)
  | n + 1, st, t, v, first =>
    let a := rdTime st t first
    let v' := v ^^^ rdN a.2
    match rdR a.2 with
    | none => ([], none)
    | some l => let b := rdPts n (some l) a.1 v' false; (⟨a.1, v'⟩ :: b.1, b.2)

def rdPoints (st : St) : List Pt × St :=
  if rdN st = 0 ∨ left (rdR st) / 2 < rdN st then ([], none) else rdPts (rdN st) (rdR st) 0 0 true

def rdSmp : Nat → St → Nat → List Smp × St
  | 0, _, _ => ([], none)
  | n + 1, st, ahead =>
    if rdN st = 0 then ([], rdR st)
    else if rdN st ≤ ahead ∨ 16 < rdN st then ([], none)
    else
      let a := rdPoints (rdR st)
      let b := rdSmp n a.2 (rdN st)
      (a.1.map (fun p => ⟨(rdN st : Int) - 1, p.t, p.v⟩) ++ b.1, b.2)

structure Dec where
  lo : Nat
  hi : Nat
  l : List Smp
  deriving DecidableEq

/-- The body behind the mark. -/
def decBody (body : List UInt8) : Option Dec :=
  let a := rdNum (some body)
  let b := rdNum a.2
  if ¬ (a.1 ≤ b.1 ∧ b.1 ≤ 999999) then none
  else
    let c := rdSmp 17 b.2 0
    if c.2 = some [] then some ⟨a.1, b.1, c.1⟩ else none

def decode (f : List UInt8) : Option Dec :=
  if f.length < 8 then none
  else if be8 (fnv (f.take (f.length - 8))) ≠ f.drop (f.length - 8) then none
  else match f.take (f.length - 8) with
    | [] => none
    | b :: body => if b = 66 then decBody body else none

/-! ### Small facts -/
theorem rdN_leb (n : Nat) (r : List UInt8) (h : n < M64) : rdN (some (leb n ++ r)) = n := by simp [rdN, rdCode_leb n r h]
theorem rdR_leb (n : Nat) (r : List UInt8) (h : n < M64) : rdR (some (leb n ++ r)) = some r := by simp [rdR, rdCode_leb n r h]

theorem rdR_some {st : St} {r : List UInt8} (h : rdR st = some r) : st = some (leb (rdN st) ++ r) ∧ rdN st < M64 := by
  cases st with
  | none => cases h
  | some l =>
    unfold rdR at h
    unfold rdN
    cases hc : rdCode l with
    | none => simp [hc] at h
    | some x =>
      obtain ⟨n, r'⟩ := x
      simp only [hc] at h ⊢
      simp only [Option.some.injEq] at h
      subst h
      obtain ⟨h1, h2⟩ := rdCode_some hc
      exact ⟨by rw [← h1], h2⟩

theorem rdN_lt (st : St) : rdN st < M64 := by
  cases st with
  | none => exact M64_pos
  | some l =>
    cases hc : rdCode l with
    | none => simp [rdN, hc, M64_pos]
    | some x => obtain ⟨n, r⟩ := x; simpa [rdN, hc] using (rdCode_some hc).2

theorem rdR_none {st : St} (h : rdR st = none) : rdN st = 0 := by
  cases st with
  | none => rfl
  | some l =>
    cases hc : rdCode l with
    | none => simp [rdN, hc]
    | some x => simp [rdR, hc] at h

theorem xor_xor' (a b : Nat) : a ^^^ (a ^^^ b) = b := by
  rw [← Nat.xor_assoc, Nat.xor_self, Nat.zero_xor]

theorem xor_xor (a b : Nat) : a ^^^ (b ^^^ a) = b := by
  rw [Nat.xor_comm b a, ← Nat.xor_assoc, Nat.xor_self, Nat.zero_xor]

/-- Points that a series can have: rising, each an int; values below 2^64. 'ahead': none yet. -/
def goodPts : Int → Bool → List Pt → Prop
  | _, _, [] => True
  | t, first, p :: ps => isInt p.t ∧ p.v < M64 ∧ (first = false → t < p.t) ∧ goodPts p.t false ps

theorem encPts_len : ∀ (ps : List Pt) (t : Int) (v : Nat) (first : Bool), 2 * ps.length ≤ (encPts t v first ps).length := by
  intro ps
  induction ps with
  | nil => intros; simp
  | cons p ps ih =>
    intro t v first
    have := ih p.t p.v false
    have h1 := leb_pos (tcode p.t t first)
    have h2 := leb_pos (p.v ^^^ v)
    simp only [encPts, List.length_append, List.length_cons]
    omega

theorem tcode_lt (t a : Int) (first : Bool) (h : isInt t) : tcode t a first < M64 := by
  cases first
  · unfold tcode M64; simp; omega
  · simpa [tcode] using zig_lt t h.1 h.2

theorem xor_lt (a b : Nat) (ha : a < M64) (hb : b < M64) : a ^^^ b < M64 := by
  have := Nat.xor_lt_two_pow (x := a) (y := b) (n := 64) (by unfold M64 at ha; omega) (by unfold M64 at hb; omega)
  unfold M64; omega

/-- What is told of points is read as the points. -/
theorem rdPts_enc : ∀ (ps : List Pt) (t : Int) (v : Nat) (first : Bool) (r : List UInt8), goodPts t first ps → isInt t → v < M64 →
    rdPts ps.length (some (encPts t v first ps ++ r)) t v first = (ps, some r) := by
  intro ps
  induction ps with
  | nil => intros; rfl
  | cons p ps ih =>
    intro t v first r hg ht hv
    obtain ⟨hp, hpv, hlt, hrest⟩ := hg
    have hx := xor_lt p.v v hpv hv
    have hc := tcode_lt p.t t first hp
    have e0 : encPts t v first (p :: ps) ++ r = leb (tcode p.t t first) ++ (leb (p.v ^^^ v) ++ (encPts p.t p.v false ps ++ r)) := by simp [encPts]
    have htime : rdTime (some (encPts t v first (p :: ps) ++ r)) t first = (p.t, some (leb (p.v ^^^ v) ++ (encPts p.t p.v false ps ++ r))) := by
      rw [e0]
      unfold rdTime
      rw [rdN_leb _ _ hc, rdR_leb _ _ hc]
      cases first
      · have hlt' := hlt rfl
        unfold isInt at hp ht
        have e : tcode p.t t false = (p.t - t).toNat := by
          unfold tcode; simp; omega
        rw [e]
        simp only [Bool.false_eq_true, if_false]
        rw [if_neg (by omega)]
        simp only [Prod.mk.injEq, and_true]
        omega
      · simp [tcode, zag_zig]
    show rdPts (ps.length + 1) _ t v first = _
    rw [rdPts, htime]
    simp only
    rw [rdR_leb _ _ hx, rdN_leb _ _ hx]
    simp only
    rw [xor_xor, ih p.t p.v false r hrest hp hpv]

/-- What was read of points is what is told of them. -/
theorem rdPts_some : ∀ (n : Nat) (st : St) (t : Int) (v : Nat) (first : Bool) (ps : List Pt) (r : List UInt8), isInt t → v < M64 → rdPts n st t v first = (ps, some r) →
    st = some (encPts t v first ps ++ r) ∧ ps.length = n ∧ goodPts t first ps := by
  intro n
  induction n with
  | zero =>
    intro st t v first ps r _ _ h
    simp only [rdPts, Prod.mk.injEq] at h
    obtain ⟨rfl, rfl⟩ := h
    exact ⟨rfl, rfl, trivial⟩
  | succ n ih =>
    intro st t v first ps r ht hv h
    rw [rdPts] at h
    simp only at h
    cases hr2 : rdR (rdTime st t first).2 with
    | none => rw [hr2] at h; cases h
    | some l =>
      rw [hr2] at h
      simp only [Prod.mk.injEq] at h
      obtain ⟨hps, hst⟩ := h
      obtain ⟨e2, hn2⟩ := rdR_some hr2
      have hv' : v ^^^ rdN (rdTime st t first).2 < M64 := xor_lt _ _ hv hn2
      -- the time
      have htm : isInt (rdTime st t first).1 ∧ (first = false → t < (rdTime st t first).1) ∧ st = some (leb (tcode (rdTime st t first).1 t first) ++ (leb (rdN (rdTime st t first).2) ++ l)) := by
        cases hf : first
        · subst hf
          by_cases hc : rdN st = 0 ∨ 9223372036854775807 - t < rdN st
          · have e : rdTime st t false = (0, none) := by unfold rdTime; simp [hc]
            rw [e] at hr2; cases hr2
          · have e : rdTime st t false = (t + rdN st, rdR st) := by unfold rdTime; simp [hc]
            rw [e] at e2 ⊢
            simp only at e2 ⊢
            obtain ⟨e3, hn3⟩ := rdR_some e2
            unfold isInt at ht ⊢
            refine ⟨⟨by omega, by omega⟩, fun _ => by omega, ?_⟩
            have e4 : tcode (t + rdN st) t false = rdN st := by
              unfold M64 at hn3
              unfold tcode; simp; omega
            rw [e4]; exact e3
        · subst hf
          have e : rdTime st t true = (zag (rdN st), rdR st) := by unfold rdTime; simp
          rw [e] at e2 ⊢
          simp only at e2 ⊢
          obtain ⟨e3, hn3⟩ := rdR_some e2
          refine ⟨zag_rng _ hn3, fun h => (by cases h), ?_⟩
          have e4 : tcode (zag (rdN st)) t true = rdN st := by unfold tcode; simp [zig_zag]
          rw [e4]; exact e3
      obtain ⟨hi, hlt, hste⟩ := htm
      clear hr2 e2
      generalize rdTime st t first = a at *
      obtain ⟨b, hb⟩ : ∃ b, b = rdPts n (some l) a.1 (v ^^^ rdN a.2) false := ⟨_, rfl⟩
      rw [← hb] at hps hst
      obtain ⟨e5, hlen, hgood⟩ := ih (some l) _ _ false b.1 r hi hv' (by rw [← hb, ← hst])
      subst hps
      refine ⟨?_, by simp [hlen], hi, hv', hlt, hgood⟩
      simp only [Option.some.injEq] at e5
      refine hste.trans ?_
      have ex : (v ^^^ rdN a.2) ^^^ v = rdN a.2 := by rw [Nat.xor_comm, xor_xor']
      simp only [encPts, ex]
      rw [e5]
      simp

end Silo
