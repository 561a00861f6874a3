/- Pure1, Pure2, Pure3, Pure4, Pure9, in one text. -/

/- Plain definitions: codes of numbers, hashes, as lists of bytes. Nothing of the program is named. -/
namespace Silo

/-- 2^64, behind a name. -/
def M64 : Nat := 18446744073709551616

/-- The code of a number: seven bits a byte, the low ones first. -/
def leb (n : Nat) : List UInt8 :=
  if n < 128 then [UInt8.ofNat n] else UInt8.ofNat (n % 128 + 128) :: leb (n / 128)
  termination_by n

/-- One step of the hash. -/
def fnvStep (h : Nat) (b : UInt8) : Nat := ((h ^^^ b.toNat) * 1099511628211) % M64

def fnvFrom (h : Nat) (l : List UInt8) : Nat := l.foldl fnvStep h

def basis : Nat := 14695981039346656037

def fnv (l : List UInt8) : Nat := fnvFrom basis l

theorem M64_pos : 0 < M64 := by unfold M64; omega

theorem fnvStep_lt (h : Nat) (b : UInt8) : fnvStep h b < M64 := by
  unfold fnvStep; exact Nat.mod_lt _ M64_pos

theorem fnvFrom_lt (h : Nat) (l : List UInt8) (h1 : h < M64) : fnvFrom h l < M64 := by
  induction l generalizing h with
  | nil => exact h1
  | cons b l ih => exact ih _ (fnvStep_lt h b)

theorem fnv_lt (l : List UInt8) : fnv l < M64 := fnvFrom_lt _ _ (by unfold basis M64; omega)

theorem fnvFrom_snoc (h : Nat) (l : List UInt8) (b : UInt8) : fnvFrom h (l ++ [b]) = fnvStep (fnvFrom h l) b := by
  rw [fnvFrom, List.foldl_append, List.foldl_cons, List.foldl_nil, fnvFrom]

theorem fnv_snoc (l : List UInt8) (b : UInt8) : fnv (l ++ [b]) = fnvStep (fnv l) b := fnvFrom_snoc _ _ _

theorem leb_lo (n : Nat) (h : n < 128) : leb n = [UInt8.ofNat n] := by rw [leb, if_pos h]

theorem leb_hi (n : Nat) (h : ¬ n < 128) : leb n = UInt8.ofNat (n % 128 + 128) :: leb (n / 128) := by rw [leb, if_neg h]

theorem leb_pos (n : Nat) : 0 < (leb n).length := by
  by_cases h : n < 128
  · rw [leb_lo n h]; simp
  · rw [leb_hi n h]; simp

theorem leb_len_of (k : Nat) : ∀ n : Nat, n < 128 ^ (k + 1) → (leb n).length ≤ k + 1 := by
  induction k with
  | zero => intro n h; rw [leb_lo n (by simpa using h)]; simp
  | succ k ih =>
    intro n h
    by_cases h1 : n < 128
    · rw [leb_lo n h1]; simp
    · rw [leb_hi n h1]
      have := ih (n / 128) (by rw [Nat.pow_succ] at h; omega)
      simp; omega

theorem leb_len (n : Nat) (h : n < M64) : (leb n).length ≤ 10 := leb_len_of 9 n (by unfold M64 at h; omega)

end Silo
namespace Silo

/-- The number as which a signed one is coded. -/
def zig (t : Int) : Nat := if 0 ≤ t then (2 * t).toNat else (-2 * t - 1).toNat

/-- The signed number of a code. -/
def zag (n : Nat) : Int := if n % 2 = 0 then (n / 2 : Nat) else -((n / 2 : Nat) : Int) - 1

theorem zag_zig (t : Int) : zag (zig t) = t := by
  unfold zag zig
  split <;> split <;> omega

theorem zig_zag (n : Nat) : zig (zag n) = n := by
  unfold zag zig
  split <;> split <;> omega

theorem zig_lt (t : Int) (h0 : -9223372036854775808 ≤ t) (h1 : t ≤ 9223372036854775807) : zig t < M64 := by
  unfold zig M64
  split <;> omega

theorem zag_rng (n : Nat) (h : n < M64) : -9223372036854775808 ≤ zag n ∧ zag n ≤ 9223372036854775807 := by
  unfold M64 at h
  unfold zag
  split <;> omega

/-- The eight bytes of a number, the high one first. -/
def be8 (h : Nat) : List UInt8 :=
  [UInt8.ofNat (h / 72057594037927936), UInt8.ofNat (h / 281474976710656), UInt8.ofNat (h / 1099511627776), UInt8.ofNat (h / 4294967296),
   UInt8.ofNat (h / 16777216), UInt8.ofNat (h / 65536), UInt8.ofNat (h / 256), UInt8.ofNat h]

def sealed (l : List UInt8) : List UInt8 := l ++ be8 (fnv l)

end Silo

/- Plain definitions: reading codes. -/
namespace Silo

/-- Reads a code: i bytes have come, n is what they said. -/
def rdAux : List UInt8 → Nat → Nat → Option (Nat × List UInt8)
  | [], _, _ => none
  | b :: r, i, n =>
    if i = 9 ∧ 1 < b.toNat then none
    else if 128 ≤ b.toNat then rdAux r (i + 1) (n + b.toNat % 128 * 128 ^ i)
    else if b.toNat = 0 ∧ 0 < i then none
    else some (n + b.toNat % 128 * 128 ^ i, r)

def rdCode (l : List UInt8) : Option (Nat × List UInt8) := rdAux l 0 0

theorem ofNat_toNat_lt {n : Nat} (h : n < 256) : (UInt8.ofNat n).toNat = n := by rw [UInt8.toNat_ofNat', Nat.mod_eq_of_lt (by simpa using h)]

theorem rdAux_leb (n : Nat) : ∀ (i acc : Nat) (r : List UInt8), (0 < i → 0 < n) → n * 128 ^ i < M64 → i ≤ 9 → rdAux (leb n ++ r) i acc = some (acc + n * 128 ^ i, r) := by
  induction n using Nat.strongRecOn with
  | _ n ih =>
    intro i acc r hi hlt h9
    by_cases h : n < 128
    · rw [leb_lo n h]
      show rdAux (UInt8.ofNat n :: r) i acc = _
      rw [rdAux, ofNat_toNat_lt (by omega)]
      have h1 : ¬ (i = 9 ∧ 1 < n) := by
        rintro ⟨rfl, h1⟩
        unfold M64 at hlt
        omega
      rw [if_neg h1, if_neg (by omega), if_neg (by rintro ⟨a, b⟩; have := hi b; omega), Nat.mod_eq_of_lt h]
    · rw [leb_hi n h]
      show rdAux (UInt8.ofNat (n % 128 + 128) :: (leb (n / 128) ++ r)) i acc = _
      rw [rdAux, ofNat_toNat_lt (by omega)]
      have hlt9 : i < 9 := by
        rcases Nat.lt_or_ge i 9 with h9' | h9'
        · exact h9'
        · have : i = 9 := by omega
          subst this
          unfold M64 at hlt
          omega
      have hdm : n / 128 * 128 ^ (i + 1) + n % 128 * 128 ^ i = n * 128 ^ i := by
        rw [Nat.pow_succ, Nat.mul_comm (128 ^ i) 128, ← Nat.mul_assoc, ← Nat.add_mul]
        congr 1
        omega
      rw [if_neg (by omega), if_pos (by omega), ih (n / 128) (by omega) (i + 1) _ r (fun _ => by omega) (by omega) (by omega)]
      have : (n % 128 + 128) % 128 = n % 128 := by omega
      rw [this]
      simp only [Option.some.injEq, Prod.mk.injEq, and_true]
      omega

theorem rdCode_leb (n : Nat) (r : List UInt8) (h : n < M64) : rdCode (leb n ++ r) = some (n, r) := by
  rw [rdCode, rdAux_leb n 0 0 r (by omega) (by simpa using h) (by omega)]
  simp

theorem top_bound (i m c : Nat) (hi : i ≤ 8) (hm : m * 128 ^ (i + 1) < M64) (hc : c < 128 ^ (i + 1)) : c + m * 128 ^ (i + 1) < M64 := by
  unfold M64 at hm ⊢
  have hcase : i = 0 ∨ i = 1 ∨ i = 2 ∨ i = 3 ∨ i = 4 ∨ i = 5 ∨ i = 6 ∨ i = 7 ∨ i = 8 := by omega
  rcases hcase with rfl | rfl | rfl | rfl | rfl | rfl | rfl | rfl | rfl <;> simp only [Nat.reduceAdd, Nat.reducePow] at hm hc ⊢ <;> omega

/-- What was read is a number's own code. -/
theorem rdAux_some : ∀ (l : List UInt8) (i acc n : Nat) (r : List UInt8), i ≤ 9 → rdAux l i acc = some (n, r) → ∃ m, l = leb m ++ r ∧ n = acc + m * 128 ^ i ∧ m * 128 ^ i < M64 ∧ (0 < i → 0 < m) := by
  intro l
  induction l with
  | nil => intro i acc n r _ h; simp [rdAux] at h
  | cons b l ih =>
    intro i acc n r hi h
    have hb := b.toNat_lt
    rw [rdAux] at h
    by_cases h1 : i = 9 ∧ 1 < b.toNat
    · rw [if_pos h1] at h; cases h
    · rw [if_neg h1] at h
      by_cases h2 : 128 ≤ b.toNat
      · rw [if_pos h2] at h
        have hi9 : i + 1 ≤ 9 := by omega
        obtain ⟨m, hl, hn, hm, hp⟩ := ih (i + 1) _ n r hi9 h
        have hm0 := hp (by omega)
        refine ⟨b.toNat % 128 + 128 * m, ?_, ?_, ?_, fun _ => by omega⟩
        · rw [leb_hi _ (by omega)]
          have e1 : (b.toNat % 128 + 128 * m) % 128 + 128 = b.toNat := by omega
          have e2 : (b.toNat % 128 + 128 * m) / 128 = m := by omega
          rw [e1, e2, hl, UInt8.ofNat_toNat]
          rfl
        · rw [hn, Nat.pow_succ, Nat.add_mul]
          have : m * (128 ^ i * 128) = 128 * m * 128 ^ i := by rw [Nat.mul_comm (128 ^ i) 128, ← Nat.mul_assoc, Nat.mul_comm m 128]
          omega
        · rw [Nat.add_mul]
          have e : 128 * m * 128 ^ i = m * 128 ^ (i + 1) := by rw [Nat.pow_succ, Nat.mul_comm (128 ^ i) 128, ← Nat.mul_assoc, Nat.mul_comm m 128]
          rw [e]
          have hk : b.toNat % 128 * 128 ^ i < 128 ^ (i + 1) := by
            rw [Nat.pow_succ, Nat.mul_comm (128 ^ i) 128]
            exact Nat.mul_lt_mul_of_pos_right (by omega) (Nat.pow_pos (by omega))
          exact top_bound i m _ (by omega) hm hk
      · rw [if_neg h2] at h
        by_cases h3 : b.toNat = 0 ∧ 0 < i
        · rw [if_pos h3] at h; cases h
        · rw [if_neg h3] at h
          simp only [Option.some.injEq, Prod.mk.injEq] at h
          obtain ⟨hn, hr⟩ := h
          have e : b.toNat % 128 = b.toNat := by omega
          rw [e] at hn
          refine ⟨b.toNat, ?_, hn.symm, ?_, fun h => by omega⟩
          · rw [leb_lo _ (by omega), UInt8.ofNat_toNat, ← hr]; rfl
          · have hcase : i = 0 ∨ i = 1 ∨ i = 2 ∨ i = 3 ∨ i = 4 ∨ i = 5 ∨ i = 6 ∨ i = 7 ∨ i = 8 ∨ i = 9 := by omega
            unfold M64
            rcases hcase with rfl | rfl | rfl | rfl | rfl | rfl | rfl | rfl | rfl | rfl <;> simp only [Nat.reducePow] <;> omega

theorem rdCode_some {l : List UInt8} {n : Nat} {r : List UInt8} (h : rdCode l = some (n, r)) : l = leb n ++ r ∧ n < M64 := by
  obtain ⟨m, hl, hn, hm, _⟩ := rdAux_some l 0 0 n r (by omega) h
  simp at hn hm
  subst hn
  exact ⟨hl, hm⟩

end Silo

/- Plain definitions: a block's file, read and told; and that the two fit together. -/
namespace Silo

structure Pt where
  t : Int
  v : Nat
  deriving DecidableEq

structure Smp where
  s : Int
  t : Int
  v : Nat
  deriving DecidableEq

def isInt (t : Int) : Prop := -9223372036854775808 ≤ t ∧ t ≤ 9223372036854775807

/-- The number as which a time is coded. -/
def tcode (t ahead : Int) (first : Bool) : Nat := if first then zig t else ((t - ahead) % 18446744073709551616).toNat

/-! ### What is told -/
def encPts : Int → Nat → Bool → List Pt → List UInt8
  | _, _, _, [] => []
  | t, v, first, p :: ps => leb (tcode p.t t first) ++ leb (p.v ^^^ v) ++ encPts p.t p.v false ps

def encSer (s : Nat) (ps : List Pt) : List UInt8 := leb (s + 1) ++ leb ps.length ++ encPts 0 0 true ps

/-- The series from s on, n of them. -/
def encAll (m : Nat → List Pt) : Nat → Nat → List UInt8
  | _, 0 => []
  | s, n + 1 => (if m s = [] then [] else encSer s (m s)) ++ encAll m (s + 1) n

def encBody (lo hi : Nat) (m : Nat → List Pt) : List UInt8 := 66 :: (leb lo ++ leb hi ++ (encAll m 0 16 ++ [0]))

def file (lo hi : Nat) (m : Nat → List Pt) : List UInt8 := sealed (encBody lo hi m)

/-! ### What is read -/
abbrev St := Option (List UInt8)

def rdN : St → Nat
  | none => 0
  | some l => match rdCode l with
    | none => 0
    | some x => x.1

def rdR : St → St
  | none => none
  | some l => match rdCode l with
    | none => none
    | some x => some x.2

def left : St → Nat
  | none => 0
  | some l => l.length

def rdNum (st : St) : Nat × St := if 999999 < rdN st then (0, none) else (rdN st, rdR st)

def rdTime (st : St) (ahead : Int) (first : Bool) : Int × St :=
  if first = true then (zag (rdN st), rdR st)
  else if rdN st = 0 ∨ 9223372036854775807 - ahead < rdN st then (0, none) else (ahead + rdN st, rdR st)

def rdPts : Nat → St → Int → Nat → Bool → List Pt × St
  | 0, st, _, _, _ => ([], st)
  | n + 1, st, t, v, first =>
    let a := rdTime st t first
    let v' := v ^^^ rdN a.2
    match rdR a.2 with
    | none => ([], none)
    | some l => let b := rdPts n (some l) a.1 v' false; (⟨a.1, v'⟩ :: b.1, b.2)

def rdPoints (st : St) : List Pt × St :=
  if rdN st = 0 ∨ left (rdR st) / 2 < rdN st then ([], none) else rdPts (rdN st) (rdR st) 0 0 true

def rdSmp : Nat → St → Nat → List Smp × St
  | 0, _, _ => ([], none)
  | n + 1, st, ahead =>
    if rdN st = 0 then ([], rdR st)
    else if rdN st ≤ ahead ∨ 16 < rdN st then ([], none)
    else
      let a := rdPoints (rdR st)
      let b := rdSmp n a.2 (rdN st)
      (a.1.map (fun p => ⟨(rdN st : Int) - 1, p.t, p.v⟩) ++ b.1, b.2)

structure Dec where
  lo : Nat
  hi : Nat
  l : List Smp
  deriving DecidableEq

/-- The body behind the mark. -/
def decBody (body : List UInt8) : Option Dec :=
  let a := rdNum (some body)
  let b := rdNum a.2
  if ¬ (a.1 ≤ b.1 ∧ b.1 ≤ 999999) then none
  else
    let c := rdSmp 17 b.2 0
    if c.2 = some [] then some ⟨a.1, b.1, c.1⟩ else none

def decode (f : List UInt8) : Option Dec :=
  if f.length < 8 then none
  else if be8 (fnv (f.take (f.length - 8))) ≠ f.drop (f.length - 8) then none
  else match f.take (f.length - 8) with
    | [] => none
    | b :: body => if b = 66 then decBody body else none

/-! ### Small facts -/
theorem rdN_leb (n : Nat) (r : List UInt8) (h : n < M64) : rdN (some (leb n ++ r)) = n := by simp [rdN, rdCode_leb n r h]

theorem rdR_leb (n : Nat) (r : List UInt8) (h : n < M64) : rdR (some (leb n ++ r)) = some r := by simp [rdR, rdCode_leb n r h]

theorem rdR_some {st : St} {r : List UInt8} (h : rdR st = some r) : st = some (leb (rdN st) ++ r) ∧ rdN st < M64 := by
  cases st with
  | none => cases h
  | some l =>
    unfold rdR at h
    unfold rdN
    cases hc : rdCode l with
    | none => simp [hc] at h
    | some x =>
      obtain ⟨n, r'⟩ := x
      simp only [hc] at h ⊢
      simp only [Option.some.injEq] at h
      subst h
      obtain ⟨h1, h2⟩ := rdCode_some hc
      exact ⟨by rw [← h1], h2⟩

theorem rdN_lt (st : St) : rdN st < M64 := by
  cases st with
  | none => exact M64_pos
  | some l =>
    cases hc : rdCode l with
    | none => simp [rdN, hc, M64_pos]
    | some x => obtain ⟨n, r⟩ := x; simpa [rdN, hc] using (rdCode_some hc).2

theorem xor_xor' (a b : Nat) : a ^^^ (a ^^^ b) = b := by
  rw [← Nat.xor_assoc, Nat.xor_self, Nat.zero_xor]

theorem xor_xor (a b : Nat) : a ^^^ (b ^^^ a) = b := by
  rw [Nat.xor_comm b a, ← Nat.xor_assoc, Nat.xor_self, Nat.zero_xor]

/-- Points that a series can have: rising, each an int; values below 2^64. 'ahead': none yet. -/
def goodPts : Int → Bool → List Pt → Prop
  | _, _, [] => True
  | t, first, p :: ps => isInt p.t ∧ p.v < M64 ∧ (first = false → t < p.t) ∧ goodPts p.t false ps

theorem encPts_len : ∀ (ps : List Pt) (t : Int) (v : Nat) (first : Bool), 2 * ps.length ≤ (encPts t v first ps).length := by
  intro ps
  induction ps with
  | nil => intros; simp
  | cons p ps ih =>
    intro t v first
    have := ih p.t p.v false
    have h1 := leb_pos (tcode p.t t first)
    have h2 := leb_pos (p.v ^^^ v)
    simp only [encPts, List.length_append, List.length_cons]
    omega

theorem tcode_lt (t a : Int) (first : Bool) (h : isInt t) : tcode t a first < M64 := by
  cases first
  · unfold tcode M64; simp; omega
  · simpa [tcode] using zig_lt t h.1 h.2

theorem xor_lt (a b : Nat) (ha : a < M64) (hb : b < M64) : a ^^^ b < M64 := by
  have := Nat.xor_lt_two_pow (x := a) (y := b) (n := 64) (by unfold M64 at ha; omega) (by unfold M64 at hb; omega)
  unfold M64; omega

/-- What is told of points is read as the points. -/
theorem rdPts_enc : ∀ (ps : List Pt) (t : Int) (v : Nat) (first : Bool) (r : List UInt8), goodPts t first ps → isInt t → v < M64 →
    rdPts ps.length (some (encPts t v first ps ++ r)) t v first = (ps, some r) := by
  intro ps
  induction ps with
  | nil => intros; rfl
  | cons p ps ih =>
    intro t v first r hg ht hv
    obtain ⟨hp, hpv, hlt, hrest⟩ := hg
    have hx := xor_lt p.v v hpv hv
    have hc := tcode_lt p.t t first hp
    have e0 : encPts t v first (p :: ps) ++ r = leb (tcode p.t t first) ++ (leb (p.v ^^^ v) ++ (encPts p.t p.v false ps ++ r)) := by simp [encPts]
    have htime : rdTime (some (encPts t v first (p :: ps) ++ r)) t first = (p.t, some (leb (p.v ^^^ v) ++ (encPts p.t p.v false ps ++ r))) := by
      rw [e0]
      unfold rdTime
      rw [rdN_leb _ _ hc, rdR_leb _ _ hc]
      cases first
      · have hlt' := hlt rfl
        unfold isInt at hp ht
        have e : tcode p.t t false = (p.t - t).toNat := by
          unfold tcode; simp; omega
        rw [e]
        simp only [Bool.false_eq_true, if_false]
        rw [if_neg (by omega)]
        simp only [Prod.mk.injEq, and_true]
        omega
      · simp [tcode, zag_zig]
    show rdPts (ps.length + 1) _ t v first = _
    rw [rdPts, htime]
    simp only
    rw [rdR_leb _ _ hx, rdN_leb _ _ hx]
    simp only
    rw [xor_xor, ih p.t p.v false r hrest hp hpv]

/-- What was read of points is what is told of them. -/
theorem rdPts_some : ∀ (n : Nat) (st : St) (t : Int) (v : Nat) (first : Bool) (ps : List Pt) (r : List UInt8), isInt t → v < M64 → rdPts n st t v first = (ps, some r) →
    st = some (encPts t v first ps ++ r) ∧ ps.length = n ∧ goodPts t first ps := by
  intro n
  induction n with
  | zero =>
    intro st t v first ps r _ _ h
    simp only [rdPts, Prod.mk.injEq] at h
    obtain ⟨rfl, rfl⟩ := h
    exact ⟨rfl, rfl, trivial⟩
  | succ n ih =>
    intro st t v first ps r ht hv h
    rw [rdPts] at h
    simp only at h
    cases hr2 : rdR (rdTime st t first).2 with
    | none => rw [hr2] at h; cases h
    | some l =>
      rw [hr2] at h
      simp only [Prod.mk.injEq] at h
      obtain ⟨hps, hst⟩ := h
      obtain ⟨e2, hn2⟩ := rdR_some hr2
      have hv' : v ^^^ rdN (rdTime st t first).2 < M64 := xor_lt _ _ hv hn2
      -- the time
      have htm : isInt (rdTime st t first).1 ∧ (first = false → t < (rdTime st t first).1) ∧ st = some (leb (tcode (rdTime st t first).1 t first) ++ (leb (rdN (rdTime st t first).2) ++ l)) := by
        cases hf : first
        · subst hf
          by_cases hc : rdN st = 0 ∨ 9223372036854775807 - t < rdN st
          · have e : rdTime st t false = (0, none) := by unfold rdTime; simp [hc]
            rw [e] at hr2; cases hr2
          · have e : rdTime st t false = (t + rdN st, rdR st) := by unfold rdTime; simp [hc]
            rw [e] at e2 ⊢
            simp only at e2 ⊢
            obtain ⟨e3, hn3⟩ := rdR_some e2
            unfold isInt at ht ⊢
            refine ⟨⟨by omega, by omega⟩, fun _ => by omega, ?_⟩
            have e4 : tcode (t + rdN st) t false = rdN st := by
              unfold M64 at hn3
              unfold tcode; simp; omega
            rw [e4]; exact e3
        · subst hf
          have e : rdTime st t true = (zag (rdN st), rdR st) := by unfold rdTime; simp
          rw [e] at e2 ⊢
          simp only at e2 ⊢
          obtain ⟨e3, hn3⟩ := rdR_some e2
          refine ⟨zag_rng _ hn3, fun h => (by cases h), ?_⟩
          have e4 : tcode (zag (rdN st)) t true = rdN st := by unfold tcode; simp [zig_zag]
          rw [e4]; exact e3
      obtain ⟨hi, hlt, hste⟩ := htm
      clear hr2 e2
      generalize rdTime st t first = a at *
      obtain ⟨b, hb⟩ : ∃ b, b = rdPts n (some l) a.1 (v ^^^ rdN a.2) false := ⟨_, rfl⟩
      rw [← hb] at hps hst
      obtain ⟨e5, hlen, hgood⟩ := ih (some l) _ _ false b.1 r hi hv' (by rw [← hb, ← hst])
      subst hps
      refine ⟨?_, by simp [hlen], hi, hv', hlt, hgood⟩
      simp only [Option.some.injEq] at e5
      refine hste.trans ?_
      have ex : (v ^^^ rdN a.2) ^^^ v = rdN a.2 := by rw [Nat.xor_comm, xor_xor']
      simp only [encPts, ex]
      rw [e5]
      simp

end Silo

/- Plain facts: points in a list that is turned about in place, stably. -/
namespace Silo

/-- A list, parted. -/
theorem part (ps : List Pt) (a m b : Nat) (h1 : a ≤ m) (h2 : m ≤ b) :
    ps = ps.take a ++ ((ps.take m).drop a ++ ((ps.take b).drop m ++ ps.drop b)) := by
  have e1 : ps.take b = ps.take m ++ (ps.take b).drop m := by
    conv => lhs; rw [← List.take_append_drop m (ps.take b)]
    rw [List.take_take, Nat.min_eq_left h2]
  have e2 : ps.take m = ps.take a ++ (ps.take m).drop a := by
    conv => lhs; rw [← List.take_append_drop a (ps.take m)]
    rw [List.take_take, Nat.min_eq_left h1]
  conv => lhs; rw [← List.take_append_drop b ps, e1, e2]
  simp

end Silo

/- Plain facts: what a code's bytes add up to. -/
namespace Silo

/-- What bytes add up to, seven bits each, the low ones first. -/
def valB : List UInt8 → Nat
  | [] => 0
  | b :: l => b.toNat % 128 + 128 * valB l

theorem valB_snoc (l : List UInt8) (b : UInt8) : valB (l ++ [b]) = valB l + 128 ^ l.length * (b.toNat % 128) := by
  induction l with
  | nil => simp [valB]
  | cons a l ih =>
    simp only [List.cons_append, valB, ih, List.length_cons, Nat.pow_succ]
    rw [Nat.mul_add, Nat.mul_comm (128 ^ l.length) 128, Nat.mul_assoc]
    omega

theorem valB_leb (n : Nat) : valB (leb n) = n := by
  induction n using Nat.strongRecOn with
  | _ n ih =>
    by_cases h : n < 128
    · rw [leb_lo n h]; simp [valB]; omega
    · rw [leb_hi n h, valB, ih (n / 128) (by omega), UInt8.toNat_ofNat']
      omega

theorem leb_shape (n : Nat) : ∃ bs b, leb n = bs ++ [b] ∧ (∀ x ∈ bs, 128 ≤ x.toNat) ∧ b.toNat < 128 := by
  induction n using Nat.strongRecOn with
  | _ n ih =>
    by_cases h : n < 128
    · exact ⟨[], UInt8.ofNat n, leb_lo n h, by simp, by rw [UInt8.toNat_ofNat']; omega⟩
    · obtain ⟨bs, b, h1, h2, h3⟩ := ih (n / 128) (by omega)
      refine ⟨UInt8.ofNat (n % 128 + 128) :: bs, b, by rw [leb_hi n h, h1]; rfl, ?_, h3⟩
      intro x hx
      rcases List.mem_cons.1 hx with rfl | hx
      · rw [UInt8.toNat_ofNat']; omega
      · exact h2 x hx

theorem split_unique : ∀ (bs bs' : List UInt8) (b b' : UInt8) (r r' : List UInt8), bs ++ b :: r = bs' ++ b' :: r' → (∀ x ∈ bs, 128 ≤ x.toNat) → (∀ x ∈ bs', 128 ≤ x.toNat) → b.toNat < 128 → b'.toNat < 128 → bs = bs' ∧ b = b' ∧ r = r'
  | [], [], b, b', r, r', h, _, _, _, _ => by simp at h; exact ⟨rfl, h⟩
  | [], c :: bs', b, b', r, r', h, _, h2, h3, _ => by
    simp at h
    have := h2 c (by simp)
    rw [← h.1] at this
    omega
  | c :: bs, [], b, b', r, r', h, h1, _, _, h4 => by
    simp at h
    have := h1 c (by simp)
    rw [h.1] at this
    omega
  | c :: bs, d :: bs', b, b', r, r', h, h1, h2, h3, h4 => by
    simp at h
    obtain ⟨e1, e2, e3⟩ := split_unique bs bs' b b' r r' h.2 (fun x hx => h1 x (by simp [hx])) (fun x hx => h2 x (by simp [hx])) h3 h4
    exact ⟨by rw [h.1, e1], e2, e3⟩

/-- Behind bytes that go on, and one that ends: a code stands there just where these are the code of what they add up to. -/
theorem rd_end {l bs r : List UInt8} {b : UInt8} (hl : l = bs ++ b :: r) (h1 : ∀ x ∈ bs, 128 ≤ x.toNat) (h2 : b.toNat < 128) :
    rdCode l = if bs ++ [b] = leb (valB (bs ++ [b]) % M64) then some (valB (bs ++ [b]) % M64, r) else none := by
  split
  · rename_i h
    have e : l = leb (valB (bs ++ [b]) % M64) ++ r := by rw [← h, hl]; simp
    rw [e]
    exact rdCode_leb _ _ (Nat.mod_lt _ M64_pos)
  · rename_i h
    cases hc : rdCode l with
    | none => rfl
    | some x =>
      obtain ⟨n, r'⟩ := x
      obtain ⟨e1, e2⟩ := rdCode_some hc
      obtain ⟨bs', b', g1, g2, g3⟩ := leb_shape n
      rw [g1] at e1
      obtain ⟨rfl, rfl, rfl⟩ := split_unique bs bs' b b' r r' (by rw [← hl, e1]; simp) h1 g2 h2 g3
      exfalso
      apply h
      rw [← g1, valB_leb, Nat.mod_eq_of_lt e2]

/-- Where no byte ends it there is none. -/
theorem rd_long {l bs r : List UInt8} (hl : l = bs ++ r) (h1 : ∀ x ∈ bs, 128 ≤ x.toNat) (h2 : r = [] ∨ 10 ≤ bs.length) : rdCode l = none := by
  cases hc : rdCode l with
  | none => rfl
  | some x =>
    exfalso
    obtain ⟨n, r'⟩ := x
    obtain ⟨e1, e2⟩ := rdCode_some hc
    obtain ⟨bs', b', g1, g2, g3⟩ := leb_shape n
    have hlen := leb_len n e2
    have hb' : bs'.length < bs.length := by
      rcases h2 with rfl | h2
      · have := congrArg List.length (hl.symm.trans e1)
        rw [g1] at this
        simp at this
        omega
      · rw [g1] at hlen
        simp at hlen
        omega
    have e3 : l[bs'.length]? = some b' := by rw [e1, g1]; simp
    have e4 : l[bs'.length]? = some bs[bs'.length] := by rw [hl, List.getElem?_append_left hb']; simp [hb']
    rw [e3] at e4
    have h5 := h1 bs[bs'.length] (List.getElem_mem _)
    simp at e4
    rw [← e4] at h5
    omega

end Silo
