/- silolaw.Blocks answers true at every input of bulk at most 1048576, and leaves what was handed in as it was. Conditions: none but the row's own. -/
import Derived.Test.YtojjkjfcbfoinaaRefOne
import Derived.BigQuiet
import Derived.Deep.CutRange
import Derived.Test.YtojjkjfcbfoinaaLayAid
import Derived.ProofKit
import Derived.OpenShut
import Derived.JoinedCond
import Derived.Carry
import Derived.Deep.Slices
import Derived.Test.YtojjkjfcbfoinaaSamples

namespace Go.Proofs.Ytojjkjfcbfoinaa
open Go.RowKit Go.Shelf

set_option maxHeartbeats 1000000 in
theorem RefBlock_norange (lo hi : Int) (v : Value) (w : World) (hr : ¬ (0 ≤ lo ∧ lo ≤ hi ∧ hi ≤ 999999)) :
    Calls Try.prog 13 #[.int .i64 lo, .int .i64 hi, v] w fun e w' => e = .returned (.tuple #[.string (S []), .int .i64 3]) ∧ w' = w := by
  by_cases h1 : lo < 0
  · go_enter Try.func13, Try.ntmps13
    go_wp2
    go_ret2
    exact ⟨rfl, rfl⟩
  · by_cases h2 : hi < lo
    · go_enter Try.func13, Try.ntmps13
      go_wp2
      go_ret2
      exact ⟨rfl, rfl⟩
    · have h3 : 999999 < hi := by omega
      go_enter Try.func13, Try.ntmps13
      go_wp2
      go_ret2
      exact ⟨rfl, rfl⟩

set_option maxHeartbeats 1000000 in
theorem RefBlock_nofit (lo hi : Int) (v : Value) (xs : List Silo.Smp) (w : World) (hr : 0 ≤ lo ∧ lo ≤ hi ∧ hi ≤ 999999) (hin : SmpIn w w.heap.size v xs) (hl : xs.length ≤ 1099511627776) (hf : Silo.fits xs = false) :
    Calls Try.prog 13 #[.int .i64 lo, .int .i64 hi, v] w fun e w' => e = .returned (.tuple #[.string (S []), .int .i64 6]) ∧ Fp (fun _ => False) w w' := by
  have h1 : ¬ lo < 0 := by omega
  have h2 : ¬ hi < lo := by omega
  have h3 : ¬ 999999 < hi := by omega
  have H : Hid _ := hin
  clear hin hr
  go_enter Try.func13, Try.ntmps13
  go_wp2_with fail
  refine (Refallowed_any w v xs H.out hl).mono ?_
  rintro e w2 ⟨rfl, rfl⟩
  rw [hf]
  go_wp2
  go_ret2
  exact ⟨rfl, Fp.refl _ _⟩

set_option maxHeartbeats 1000000 in
theorem RefBlock_ok (lo hi : Nat) (v : Value) (xs : List Silo.Smp) (w : World) (hlo : lo ≤ hi) (hhi : hi ≤ 999999) (hin : SmpIn w w.heap.size v xs) (hl : xs.length ≤ 16777216) (hf : Silo.fits xs = true) (hg : ∀ x ∈ xs, Silo.isInt x.t ∧ x.v < Silo.M64) :
    Calls Try.prog 13 #[.int .i64 lo, .int .i64 hi, v] w fun e w' => e = .returned (.tuple #[.string (S (Silo.sealed (Silo.toldBody lo hi (layAll [] xs)))), .int .i64 0]) ∧ Fp (fun _ => False) w w' := by
  have h1 : ¬ (lo : Int) < 0 := by omega
  have h2 : ¬ (hi : Int) < (lo : Int) := by omega
  have h3 : ¬ 999999 < (hi : Int) := by omega
  have hgs : ∀ x ∈ xs, Silo.goodSmp x := fun x hx => by
    unfold Silo.fits at hf
    rw [List.all_eq_true] at hf
    have := hf x hx
    simp only [decide_eq_true_eq] at this
    exact ⟨this.1, this.2, hg x hx⟩
  have hgl : ∀ x ∈ layAll [] xs, Silo.goodSmp x := fun x hx => by
    obtain ⟨_, g2⟩ := Silo.layAll_ok xs
    have hk : x ∈ Silo.ofK x.s x.t (layAll [] xs) := Silo.mem_ofK.2 ⟨hx, rfl, rfl⟩
    rw [g2, Option.mem_toList] at hk
    exact hgs x (Silo.mem_ofK.1 (List.mem_of_getLast? hk)).1
  have hll : (layAll [] xs).length ≤ 16777216 := by
    have := layAll_length [] xs
    simp only [List.length_nil] at this
    omega
  have H : Hid _ := And.intro hin (And.intro hgl hll)
  clear hin hgs hg hgl hll
  go_enter Try.func13, Try.ntmps13
  go_wp2_with fail
  refine (Refallowed_any w v xs H.out.1 (by omega)).mono ?_
  rintro e w2 ⟨rfl, rfl⟩
  rw [hf]
  go_wp2_with fail
  refine (RefLayAll_any xs v w2 H.out.1 (by omega)).mono ?_
  rintro e w3 ⟨v3, rfl, h31, h32⟩
  have H3 : Hid _ := And.intro h31 h32
  clear h31 h32
  go_wp2_with fail
  refine (RefTold_any lo hi v3 _ w3 (by omega) hhi (SmpIn.of_row H3.out.1 (Nat.le_refl _)) H.out.2.2 H.out.2.1).mono ?_
  rintro e w4 ⟨rfl, h4⟩
  have H4 : Hid _ := h4
  clear h4
  go_wp2
  go_ret2
  exact ⟨rfl, H3.out.2.trans' H4.out⟩

end Go.Proofs.Ytojjkjfcbfoinaa

namespace Silo

/-- The text is a block's file, of these samples. -/
def T (f : List UInt8) (lo hi : Nat) (m : Nat → List Pt) : Prop := f = file lo hi m ∧ (∀ j, goodPts 0 true (m j)) ∧ lo ≤ hi ∧ hi ≤ 999999
def tl (lo hi : Nat) (m : Nat → List Pt) : List UInt8 := 0 :: be8 (fnv (encBody lo hi m))

theorem T.shape {f : List UInt8} {lo hi : Nat} {m : Nat → List Pt} (h : T f lo hi m) : f = 66 :: (leb lo ++ (leb hi ++ (encAll m 0 16 ++ tl lo hi m))) := by
  rw [h.1]
  unfold file sealed tl
  conv => lhs; arg 1; unfold encBody
  simp

theorem no_decode {f : List UInt8} (h : ∀ lo hi m, T f lo hi m → False) : decode f = none := by
  cases hd : decode f with
  | none => rfl
  | some d =>
    obtain ⟨m, h1, _, h3, h4, h5⟩ := decode_some hd
    exact (h d.lo d.hi m ⟨h1, h3, h4, h5⟩).elim

theorem tl_length (lo hi : Nat) (m : Nat → List Pt) : (tl lo hi m).length = 9 := rfl

theorem flatFrom_snoc (m : Nat → List Pt) : ∀ (n s : Nat), flatFrom m s (n + 1) = flatFrom m s n ++ smps (s + n) (m (s + n)) := by
  intro n
  induction n with
  | zero => intro s; simp [flatFrom]
  | succ n ih =>
    intro s
    rw [flatFrom, ih (s + 1), flatFrom, List.append_assoc, show s + 1 + n = s + (n + 1) by omega]

/-- From s on: nothing more, or the next series. -/
theorem next_series (m : Nat → List Pt) : ∀ (n s : Nat), s + n = 16 → (encAll m s n = [] ∧ flatFrom m 0 16 = flatFrom m 0 s) ∨
    ∃ j, s ≤ j ∧ j < 16 ∧ m j ≠ [] ∧ encAll m s n = encSer j (m j) ++ encAll m (j + 1) (16 - (j + 1)) ∧ flatFrom m 0 j = flatFrom m 0 s := by
  intro n
  induction n with
  | zero => intro s hs; simp at hs; subst hs; exact .inl ⟨rfl, rfl⟩
  | succ n ih =>
    intro s hs
    by_cases hm : m s = []
    · have e : encAll m s (n + 1) = encAll m (s + 1) n := by rw [encAll, if_pos hm]; rfl
      have e2 : flatFrom m 0 (s + 1) = flatFrom m 0 s := by rw [flatFrom_snoc, Nat.zero_add, hm]; simp [smps]
      rcases ih (s + 1) (by omega) with ⟨h1, h2⟩ | ⟨j, h1, h2, h3, h4, h5⟩
      · exact .inl ⟨by rw [e, h1], by rw [h2, e2]⟩
      · exact .inr ⟨j, by omega, h2, h3, by rw [e, h4], by rw [h5, e2]⟩
    · exact .inr ⟨s, Nat.le_refl _, by omega, hm, by rw [encAll, if_neg hm, show 16 - (s + 1) = n by omega], rfl⟩

theorem leb_small (j : Nat) (h : j < 16) : leb (j + 1) = [UInt8.ofNat (j + 1)] := leb_lo _ (by omega)

/-- Where a code stands, the place behind it. -/
theorem drop_code {f r : List UInt8} {i n : Nat} (h : rdCode (f.drop i) = some (n, r)) : f.drop (i + (leb n).length) = r ∧ i + (leb n).length ≤ f.length ∧ n < M64 ∧ 1 ≤ (leb n).length := by
  obtain ⟨h1, h2⟩ := rdCode_some h
  have h3 : f.drop (i + (leb n).length) = r := by rw [← List.drop_drop, h1]; simp
  refine ⟨h3, ?_, h2, leb_pos n⟩
  have h4 := congrArg List.length h1
  have h5 := leb_pos n
  simp only [List.length_drop, List.length_append] at h4
  omega

theorem code_of {f a : List UInt8} {i n : Nat} (h : f.drop i = leb n ++ a) (hn : n < M64) : rdCode (f.drop i) = some (n, a) := by rw [h]; exact rdCode_leb n a hn

/-- Is a block's data still going on at the place? -/
def more (f : List UInt8) : Option Nat → Bool
  | some p => decide (p + 8 < f.length) && (f[p]? != some 0)
  | none => false

theorem more_some (f : List UInt8) (p : Nat) : more f (some p) = (decide (p + 8 < f.length) && (f[p]? != some 0)) := rfl

theorem asc_of_adj {l : List Smp} (h : ∀ q (hq : q + 1 < l.length), bef l[q] l[q + 1]) : AscS l := by
  have tr : ∀ {a b c : Smp}, bef a b → bef b c → bef a c := fun {a b c} h1 h2 => by unfold bef at h1 h2 ⊢; omega
  have key : ∀ (d i : Nat) (hi : i + d + 1 < l.length), bef l[i] l[i + d + 1] := by
    intro d
    induction d with
    | zero => intro i hi; exact h i hi
    | succ d ih => intro i hi; exact tr (ih i (by omega)) (h (i + d + 1) (by omega))
  unfold AscS
  rw [List.pairwise_iff_getElem]
  intro i j hi hj hij
  have := key (j - i - 1) i (by omega)
  simpa only [show i + (j - i - 1) + 1 = j by omega] using this

theorem T.end_of {f : List UInt8} {lo hi : Nat} {m : Nat → List Pt} {s p : Nat} (hs : s ≤ 16) (hd : f.drop p = encAll m s (16 - s) ++ tl lo hi m) (hm : more f (some p) = false) : flat m = flatFrom m 0 s := by
  rcases next_series m (16 - s) s (by omega) with ⟨_, h2⟩ | ⟨j, h1, h2, h3, h4, h5⟩
  · exact h2
  · exfalso
    rw [h4] at hd
    unfold encSer at hd
    rw [leb_small j h2] at hd
    simp only [List.cons_append, List.nil_append, List.append_assoc] at hd
    have hlen := congrArg List.length hd
    simp only [List.length_drop, List.length_cons, List.length_append, tl_length] at hlen
    have hb : f[p]? = some (UInt8.ofNat (j + 1)) := by
      have := congrArg (fun x => x[0]?) hd
      simpa using this
    rw [more_some, hb] at hm
    have hp : p + 8 < f.length := by omega
    obtain ⟨u, hu⟩ : ∃ u, UInt8.ofNat (j + 1) = u := ⟨_, rfl⟩
    have hne : ¬ u = 0 := by
      intro h
      have := congrArg UInt8.toNat (hu.trans h)
      rw [UInt8.toNat_ofNat'] at this
      simp at this
      omega
    rw [hu] at hm
    simp [hp] at hm
    exact hne hm

theorem T.next_of {f : List UInt8} {lo hi : Nat} {m : Nat → List Pt} {s p : Nat} (hs : s ≤ 16) (hd : f.drop p = encAll m s (16 - s) ++ tl lo hi m) (hm : more f (some p) = true) :
    ∃ j, j < 16 ∧ m j ≠ [] ∧ f.drop p = leb (j + 1) ++ (leb (m j).length ++ (encPts 0 0 true (m j) ++ (encAll m (j + 1) (16 - (j + 1)) ++ tl lo hi m))) ∧ flatFrom m 0 j = flatFrom m 0 s := by
  rcases next_series m (16 - s) s (by omega) with ⟨h1, _⟩ | ⟨j, h1, h2, h3, h4, h5⟩
  · exfalso
    rw [h1] at hd
    have hb : f[p]? = some 0 := by
      have := congrArg (fun x => x[0]?) hd
      simpa [tl] using this
    rw [more_some, hb] at hm
    simp at hm
  · refine ⟨j, h2, h3, ?_, h5⟩
    rw [hd, h4]
    unfold encSer
    simp

end Silo

namespace Silo

/-- At the head of the outer loop. -/
def KO (f : List UInt8) (LO HI : Nat) (o : Option Nat) (l : List Smp) : Prop := ∀ lo hi m, T f lo hi m → LO = lo ∧ HI = hi ∧ ∃ s p, s ≤ 16 ∧ o = some p ∧ f.drop p = encAll m s (16 - s) ++ tl lo hi m ∧ l = flatFrom m 0 s

/-- At the head of the inner loop. -/
def KI (f : List UInt8) (LO HI se n c : Nat) (o : Option Nat) (x : Smp) (l : List Smp) : Prop := ∀ lo hi m, T f lo hi m → LO = lo ∧ HI = hi ∧ ∃ s p, s < 16 ∧ se = s + 1 ∧ m s ≠ [] ∧ n = (m s).length ∧ o = some p ∧ c ≤ n ∧
  f.drop p = encPts x.t x.v (decide (c = 0)) ((m s).drop c) ++ (encAll m (s + 1) (16 - (s + 1)) ++ tl lo hi m) ∧ l = flatFrom m 0 s ++ smps s ((m s).take c)

/-- What reading at a place says: the number, and the place behind it. -/
def Rd (f : List UInt8) (i n : Nat) (o : Option Nat) : Prop := (rdCode (f.drop i) = none ∧ o = none ∧ n = 0) ∨ ∃ r, rdCode (f.drop i) = some (n, r) ∧ o = some (i + (leb n).length)

theorem Rd.of {f a : List UInt8} {i n k : Nat} {o : Option Nat} (h : Rd f i n o) (hd : f.drop i = leb k ++ a) (hk : k < M64) : n = k ∧ ∃ p, o = some p ∧ f.drop p = a := by
  have hc := code_of hd hk
  rcases h with ⟨h1, _, _⟩ | ⟨r, h1, h2⟩
  · rw [hc] at h1; cases h1
  · have h1' := h1
    rw [hc] at h1
    simp only [Option.some.injEq, Prod.mk.injEq] at h1
    obtain ⟨rfl, rfl⟩ := h1
    exact ⟨rfl, _, h2, (drop_code h1').1⟩

theorem Rd.some_lt {f : List UInt8} {i n p : Nat} (h : Rd f i n (some p)) : i < p ∧ p ≤ f.length ∧ n < M64 ∧ ∃ r, rdCode (f.drop i) = some (n, r) := by
  rcases h with ⟨_, h2, _⟩ | ⟨r, h1, h2⟩
  · cases h2
  · simp only [Option.some.injEq] at h2
    obtain ⟨_, h4, h5, h6⟩ := drop_code h1
    exact ⟨by omega, by omega, h5, r, h1⟩

theorem Rd.lt {f : List UInt8} {i n : Nat} {o : Option Nat} (h : Rd f i n o) : n < M64 := by
  cases o with
  | some p => exact h.some_lt.2.2.1
  | none =>
    rcases h with ⟨_, _, h3⟩ | ⟨r, _, h2⟩
    · rw [h3]; exact M64_pos
    · cases h2

theorem small_lt {n : Nat} (h : n ≤ 999999) : n < M64 := by unfold M64; omega

theorem T.first {f : List UInt8} {lo hi : Nat} {m : Nat → List Pt} (h : T f lo hi m) : f.drop 1 = leb lo ++ (leb hi ++ (encAll m 0 16 ++ tl lo hi m)) := by
  have := h.shape
  rw [this]
  rfl

theorem no_first {f : List UInt8} {n : Nat} (h : Rd f 1 n none) : ∀ lo hi m, T f lo hi m → False := fun lo hi m ht => by
  obtain ⟨_, p, h2, _⟩ := h.of ht.first (small_lt (by have := ht.2.2; omega))
  cases h2

theorem KO.start {f : List UInt8} {LO HI i : Nat} {o : Option Nat} (h1 : Rd f 1 LO (some i)) (h2 : Rd f i HI o) : KO f LO HI o [] := fun lo hi m ht => by
  obtain ⟨e1, p, e2, e3⟩ := h1.of ht.first (small_lt (by have := ht.2.2; omega))
  simp only [Option.some.injEq] at e2
  subst e2
  obtain ⟨e4, q, e5, e6⟩ := h2.of e3 (small_lt ht.2.2.2)
  exact ⟨e1, e4, 0, q, by omega, e5, e6, rfl⟩

/-- A series read, where the data goes on. -/
theorem KO.series {f : List UInt8} {LO HI p se n : Nat} {o1 o2 : Option Nat} {l : List Smp} (hk : KO f LO HI (some p) l) (hm : more f (some p) = true) (h1 : Rd f p se o1) (h2 : ∀ q, o1 = some q → Rd f q n o2)
    (hlen : ∀ lo hi m, T f lo hi m → ∀ j, j < 16 → (m j).length < M64) :
    (∀ lo hi m, T f lo hi m → o1 ≠ none ∧ se ≤ 16 ∧ (o1 ≠ none → o2 ≠ none)) ∧ ((∃ q, o1 = some q) → KI f LO HI se n 0 o2 ⟨(se : Int) - 1, 0, 0⟩ l) := by
  have key : ∀ lo hi m, T f lo hi m → LO = lo ∧ HI = hi ∧ ∃ j q, j < 16 ∧ m j ≠ [] ∧ se = j + 1 ∧ o1 = some q ∧ f.drop q = leb (m j).length ++ (encPts 0 0 true (m j) ++ (encAll m (j + 1) (16 - (j + 1)) ++ tl lo hi m)) ∧ l = flatFrom m 0 j := fun lo hi m ht => by
    obtain ⟨e1, e2, s, p', e3, e4, e5, e6⟩ := hk lo hi m ht
    simp only [Option.some.injEq] at e4
    subst e4
    obtain ⟨j, g1, g2, g3, g4⟩ := T.next_of e3 e5 hm
    obtain ⟨e7, q, e8, e9⟩ := h1.of g3 (by unfold M64; omega)
    exact ⟨e1, e2, j, q, g1, g2, e7, e8, e9, by rw [e6, g4]⟩
  constructor
  · intro lo hi m ht
    obtain ⟨_, _, j, q, g1, _, g3, g4, g5, _⟩ := key lo hi m ht
    obtain ⟨_, q2, e2, _⟩ := (h2 q g4).of g5 (hlen lo hi m ht j g1)
    exact ⟨by rw [g4]; simp, by omega, fun _ => by rw [e2]; simp⟩
  · rintro _ lo hi m ht
    obtain ⟨e1, e2, j, q, g1, g2, g3, g4, g5, g6⟩ := key lo hi m ht
    obtain ⟨e3, q2, e4, e5⟩ := (h2 q g4).of g5 (hlen lo hi m ht j g1)
    exact ⟨e1, e2, j, q2, g1, g3, g2, e3, e4, Nat.zero_le _, by simpa using e5, by simpa [smps] using g6⟩

theorem T.len {f : List UInt8} {lo hi : Nat} {m : Nat → List Pt} (h : T f lo hi m) (hl : f.length ≤ 16777216) (j : Nat) (hj : j < 16) : (m j).length < M64 := by
  have key : ∀ (n s : Nat), s ≤ j → j < s + n → (m j).length ≤ (encAll m s n).length := by
    intro n
    induction n with
    | zero => intro s h1 h2; omega
    | succ n ih =>
      intro s h1 h2
      rw [encAll, List.length_append]
      by_cases e : s = j
      · subst e
        by_cases hm : m s = []
        · rw [hm]; simp
        · rw [if_neg hm]
          have := encPts_len (m s) 0 0 true
          unfold encSer
          simp only [List.length_append]
          omega
      · have := ih (s + 1) (by omega) (by omega)
        omega
  have h1 := key 16 0 (by omega) (by omega)
  have h2 := congrArg List.length h.shape
  simp only [List.length_cons, List.length_append] at h2
  unfold M64
  omega

/-- One sample read. -/
def nextT (c : Nat) (x : Smp) (t : Nat) : Int := if c = 0 then zag t else Go.IntKind.i64.wrap (Go.IntKind.u64.wrap (Go.IntKind.u64.wrap x.t + (t : Int)))
def nextV (c : Nat) (x : Smp) (v : Nat) : Nat := if c = 0 then v else x.v ^^^ v

theorem KI.step {f : List UInt8} {LO HI se n c p t v : Nat} {o1 o2 : Option Nat} {x : Smp} {l : List Smp} (hk : KI f LO HI se n c (some p) x l) (hc : c < n) (hx : isInt x.t ∧ x.v < M64) (hx0 : c = 0 → x.v = 0)
    (h1 : Rd f p t o1) (h2 : ∀ q, o1 = some q → Rd f q v o2) :
    (∀ lo hi m, T f lo hi m → o1 ≠ none) ∧ ((∃ q, o1 = some q) → KI f LO HI se n (c + 1) o2 ⟨(se : Int) - 1, nextT c x t, nextV c x v⟩ (l ++ [⟨(se : Int) - 1, nextT c x t, nextV c x v⟩])) := by
  have key : ∀ lo hi m, T f lo hi m → LO = lo ∧ HI = hi ∧ ∃ s q, s < 16 ∧ se = s + 1 ∧ m s ≠ [] ∧ n = (m s).length ∧ l = flatFrom m 0 s ++ smps s ((m s).take c) ∧ ∃ (hcm : c < (m s).length), isInt (m s)[c].t ∧ (m s)[c].v < M64 ∧ t = tcode (m s)[c].t x.t (decide (c = 0)) ∧ o1 = some q ∧
      f.drop q = leb ((m s)[c].v ^^^ x.v) ++ (encPts (m s)[c].t (m s)[c].v false ((m s).drop (c + 1)) ++ (encAll m (s + 1) (16 - (s + 1)) ++ tl lo hi m)) := fun lo hi m ht => by
    obtain ⟨e1, e2, s, p', e3, e4, e5, e6, e7, e8, e9, e10⟩ := hk lo hi m ht
    simp only [Option.some.injEq] at e7
    subst e7
    have hcm : c < (m s).length := by omega
    have hg := (goodPts_asc (ht.2.1 s)).2.1 _ (List.getElem_mem hcm)
    rw [List.drop_eq_getElem_cons hcm, encPts, List.append_assoc, List.append_assoc] at e9
    obtain ⟨g1, q, g2, g3⟩ := h1.of e9 (tcode_lt _ _ _ hg.1)
    exact ⟨e1, e2, s, q, e3, e4, e5, e6, e10, hcm, hg.1, hg.2, g1, g2, g3⟩
  constructor
  · intro lo hi m ht
    obtain ⟨_, _, s, q, _, _, _, _, _, _, _, _, _, g, _⟩ := key lo hi m ht
    rw [g]; simp
  · rintro _ lo hi m ht
    obtain ⟨e1, e2, s, q, e3, e4, e5, e6, e7, hcm, g1, g2, g3, g4, g5⟩ := key lo hi m ht
    obtain ⟨k1, q2, k2, k3⟩ := (h2 q g4).of g5 (xor_lt _ _ g2 hx.2)
    have ht' : nextT c x t = (m s)[c].t := by
      unfold nextT
      by_cases h0 : c = 0
      · rw [if_pos h0, g3]
        simp only [h0, decide_true, tcode, if_true]
        subst h0
        exact zag_zig _
      · rw [if_neg h0, g3]
        have hd : decide (c = 0) = false := by simpa using h0
        simp only [hd, tcode, Bool.false_eq_true, if_false]
        rw [Go.IntKind.wrap_u64, Go.IntKind.wrap_u64, Go.IntKind.wrap_i64]
        have a1 := hx.1
        unfold isInt at a1 g1
        omega
    have hv' : nextV c x v = (m s)[c].v := by
      unfold nextV
      by_cases h0 : c = 0
      · rw [if_pos h0, k1, hx0 h0, Nat.xor_zero]
      · rw [if_neg h0, k1, Nat.xor_comm, Nat.xor_assoc, Nat.xor_self, Nat.xor_zero]
    have hse : (se : Int) - 1 = (s : Int) := by omega
    refine ⟨e1, e2, s, q2, e3, e4, e5, e6, k2, by omega, ?_, ?_⟩
    · have hd : decide (c + 1 = 0) = false := by simp
      rw [hd, k3, ht', hv']
    · rw [e7, ht', hv', hse, List.take_succ_eq_append_getElem hcm, List.append_assoc]
      congr 1
      unfold smps
      rw [List.map_append]
      rfl

theorem KI.done {f : List UInt8} {LO HI se n c : Nat} {o : Option Nat} {x : Smp} {l : List Smp} (hk : KI f LO HI se n c o x l) (h : ¬ (c < n ∧ ∃ p, o = some p)) : KO f LO HI o l := fun lo hi m ht => by
  obtain ⟨e1, e2, s, p, e3, e4, e5, e6, e7, e8, e9, e10⟩ := hk lo hi m ht
  have hc : c = (m s).length := by
    by_cases g : c < n
    · exact absurd ⟨g, p, e7⟩ h
    · omega
  subst hc
  rw [List.drop_length, encPts, List.nil_append] at e9
  rw [List.take_length] at e10
  refine ⟨e1, e2, s + 1, p, by omega, e7, e9, ?_⟩
  rw [e10, flatFrom_snoc, Nat.zero_add]

end Silo

namespace Go.Proofs.Ytojjkjfcbfoinaa
open Go.RowKit Go.Shelf

/-- The block of nothing. -/
def nil12 : List UInt8 := Silo.sealed [66, 0, 0, 0]

theorem file_nil {m : Nat → List Silo.Pt} (h : Silo.LaidBy [] m) : Silo.file 0 0 m = nil12 := by
  have : Silo.encAll m 0 16 = [] := by
    have h2 := Silo.encAll_skip (m := m) 0 16 0 (fun j _ hj => by
      have h1 := h j (by omega)
      exact (Silo.Left.self (ps := []) List.Pairwise.nil).same h1 |>.symm)
    rw [Nat.add_zero] at h2
    rw [h2]; rfl
  unfold Silo.file Silo.encBody nil12
  rw [this, Silo.leb_lo 0 (by omega)]
  rfl

theorem nil12_size : (S nil12).size = 12 := rfl

theorem decode_len {f : List UInt8} {d : Silo.Dec} (h : Silo.decode f = some d) : d.l.length ≤ f.length := by
  unfold Silo.decode at h
  split at h
  · cases h
  · split at h
    · cases h
    · split at h
      · cases h
      · rename_i b body hb
        have hlen : (b :: body).length ≤ f.length := by rw [← hb, List.length_take]; omega
        split at h
        · unfold Silo.decBody at h
          simp only at h
          split at h
          · cases h
          · split at h
            · simp only [Option.some.injEq] at h
              subst h
              have h1 := rdSmp_count 17 (Silo.rdNum (Silo.rdNum (some body)).2).2 0
              have h2 := left_rdNum (Silo.rdNum (some body)).2
              have h3 := left_rdNum (some body)
              have h4 : Silo.left (some body) = body.length := rfl
              simp only [List.length_cons] at hlen
              simp only
              omega
            · cases h
        · cases h

theorem smps_some {w : World} {base : Nat} {a : Option Addr} {n c : Nat} {xs : List Silo.Smp} (h : World.smpsAt w base (.slice a n c) xs) (hk : 0 < xs.length) : ∃ g, a = some ⟨g, 0, none⟩ ∧ n = xs.length ∧ g < w.heap.size := by
  rcases h.2 with ⟨_, h2⟩ | ⟨g, cap, cur, h3, _, hh, _⟩
  · omega
  · simp only [Value.slice.injEq] at h3
    exact ⟨g, h3.1, h3.2.1, heap_lt hh⟩

end Go.Proofs.Ytojjkjfcbfoinaa

namespace Go.Proofs.Ytojjkjfcbfoinaa
open Go.RowKit Go.Shelf

/-- No block. -/
def bad4 : Value := .tuple #[.int .i64 0, .int .i64 0, .slice none 0 0, .int .i64 3]

/-- What Samples leaves. -/
def RP (f : List UInt8) (w : World) (e : Ending) (w' : World) : Prop := Fp (fun _ => False) w w' ∧ (Silo.decode f = none → e = .returned bad4) ∧
  ∀ d, Silo.decode f = some d → ∃ a c, e = .returned (.tuple #[.int .i64 (d.lo : Nat), .int .i64 (d.hi : Nat), .slice a d.l.length c, .int .i64 0]) ∧ World.smpsAt w' w.heap.size (.slice a d.l.length c) d.l

theorem RP.bad {f : List UInt8} {w w' : World} (hf : Fp (fun _ => False) w w') (h : ∀ lo hi m, Silo.T f lo hi m → False) : RP f w (.returned bad4) w' :=
  ⟨hf, fun _ => rfl, fun d hd => by rw [Silo.no_decode h] at hd; cases hd⟩

/-- A place as a number: -1 is none. -/
def plc : Option Nat → Int
  | some p => (p : Int)
  | none => -1

/-- The sample x is block b. -/
structure XB (W : World) (b : Nat) (x : Silo.Smp) : Prop where
  blk : W.heap[b]? = some (.cells #[.int .i64 x.s, .int .i64 x.t, .int .u64 (x.v : Nat)] 42 (0, 0))

theorem XB.lies {W : World} {b : Nat} {x : Silo.Smp} (h : XB W b x) : Lies W b x :=
  ⟨heap_lt h.blk, by simp [World.cell?, h.blk], by simp [World.cell?, h.blk], by simp [World.cell?, h.blk]⟩
theorem XB.frozen {W : World} {b : Nat} {x : Silo.Smp} (h : XB W b x) (i : Nat) : W.frozen? ⟨b, i, none⟩ = false := by simp [World.frozen?, h.blk]
theorem XB.new (w : World) (x : Silo.Smp) : XB (w.alloc (.cells #[.int .i64 x.s, .int .i64 x.t, .int .u64 (x.v : Nat)] 42)) w.heap.size x := ⟨heap_new _ _⟩
theorem XB.fp {W W' : World} {b : Nat} {x : Silo.Smp} {S : Nat → Prop} (h : XB W b x) (hf : Fp S W W') (hS : ¬ S b) : XB W' b x := ⟨by rw [hf.block b (heap_lt h.blk) hS]; exact h.blk⟩
theorem XB.put {W : World} {b : Nat} {x : Silo.Smp} (h : XB W b x) (t : Int) (v : Nat) : XB ((W.setCell ⟨b, 1, none⟩ (.int .i64 t)).setCell ⟨b, 2, none⟩ (.int .u64 (v : Nat))) b ⟨x.s, t, v⟩ := ⟨heap_set (heap_set h.blk _) _⟩

/-- A sample that was just laid into a new block, appended. -/
theorem wpList_append_new {ops : Array Oper} {rest : List Oper} {o : Oper} {a : Act} {Q : Exit → Act → World → Prop} {W0 : World} {ty : TypeId} {i1 i2 i3 : Int} (hgd : o.guard = none) (s x : Operand)
    (ho : o.op = .call { callee := .builtin .append, args := #[s, x], argTypes := #[22, 22] })
    (base : Nat) (v : Value) (xs : List Silo.Smp) (hs : a.eval s = v) (b : Nat) (hx : a.eval x = .slice (some ⟨b, 0, none⟩) 1 1) (y : Silo.Smp) (hy : i1 = y.s ∧ i2 = y.t ∧ i3 = (y.v : Nat) ∧ b = W0.heap.size)
    (hown : World.smpsAt (W0.alloc (.cells #[.int .i64 i1, .int .i64 i2, .int .u64 i3] ty)) base v xs) (hl : xs.length ≤ 1099511627776) (hbase : base ≤ (W0.alloc (.cells #[.int .i64 i1, .int .i64 i2, .int .u64 i3] ty)).heap.size)
    (h : ∀ g cap w', Hid (Appended (W0.alloc (.cells #[.int .i64 y.s, .int .i64 y.t, .int .u64 (y.v : Nat)] ty)) w' base v xs y g cap) → wpList Try.prog ops Q rest (a.put o.dst (.slice (some ⟨g, 0, none⟩) (xs.length + 1) cap)) w') :
    wpList Try.prog ops Q (o :: rest) a (W0.alloc (.cells #[.int .i64 i1, .int .i64 i2, .int .u64 i3] ty)) := by
  obtain ⟨rfl, rfl, rfl, rfl⟩ := hy
  exact wpList_append_smp hgd s x ho base v xs y hs hown ⟨W0.heap.size, 0, none⟩ hx (smp_new W0 y ty) hl hbase h

theorem nextT_int (c : Nat) (x : Silo.Smp) (t : Nat) (ht : t < Silo.M64) : Silo.isInt (Silo.nextT c x t) := by
  unfold Silo.nextT
  split
  · exact Silo.zag_rng t ht
  · rw [IntKind.wrap_i64]; unfold Silo.isInt; omega

theorem nextV_lt (c : Nat) (x : Silo.Smp) (v : Nat) (hx : x.v < Silo.M64) (hv : v < Silo.M64) : Silo.nextV c x v < Silo.M64 := by
  unfold Silo.nextV
  split
  · exact hv
  · exact Silo.xor_lt _ _ hx hv

theorem se_pos {f : List UInt8} {p se q : Nat} (hm : Silo.more f (some p) = true) (h : Silo.Rd f p se (some q)) : 1 ≤ se := by
  obtain ⟨_, _, _, r, h1⟩ := h.some_lt
  rcases Nat.eq_zero_or_pos se with h0 | h0
  · exfalso
    subst h0
    obtain ⟨e, _⟩ := Silo.rdCode_some h1
    rw [Silo.leb_lo 0 (by omega)] at e
    have hb : f[p]? = some 0 := by
      have := congrArg (fun x => x[0]?) e
      simpa using this
    rw [Silo.more_some, hb] at hm
    simp at hm
  · exact h0

theorem read_as (f : List UInt8) (i : Nat) : ∃ n o, readRes i (Silo.rdCode (f.drop i)) = .tuple #[.int .u64 (n : Nat), .int .i64 (plc o)] ∧ Silo.Rd f i n o := by
  cases h : Silo.rdCode (f.drop i) with
  | none => exact ⟨0, none, rfl, .inl ⟨h, rfl, rfl⟩⟩
  | some x => exact ⟨x.1, some (i + (Silo.leb x.1).length), rfl, .inr ⟨x.2, h, rfl⟩⟩

set_option maxHeartbeats 4000000 in
set_option maxRecDepth 100000 in
theorem RefSamples_any (f : List UInt8) (w : World) (hl : f.length ≤ 16777216) :
    Calls Try.prog 16 #[.string (S f)] w fun e w' => RP f w e w' := by
  have hs : (S f).size = f.length := rfl
  by_cases h9 : f.length < 9
  · go_enter Try.func16, Try.ntmps16
    go_wp2
    exact bodyPost_ret (v := bad4) (by simp [bad4, results, Try.results16, go_sem]) rfl (RP.bad (Fp.refl _ _) (fun lo hi m h => by
      have := congrArg List.length h.shape
      simp only [List.length_cons, List.length_append, Silo.tl_length] at this
      omega))
  · have h0 : 0 < (S f).size := by rw [hs]; omega
    obtain ⟨b0, hb0⟩ : ∃ b0, (S f)[0] = b0 := ⟨_, rfl⟩
    have hf0 : f[0]? = some b0 := by rw [← hb0]; exact List.getElem?_eq_getElem (by omega)
    by_cases h66 : (b0.toNat : Int) = 66
    · have h66' : ((b0.toNat : Int) != 66) = false := by simpa using h66
      have HB : Hid _ := hf0
      clear hf0 h66
      go_enter Try.func16, Try.ntmps16
      go_wp2_with fail
      refine (RefRead_any f 1 w (by omega) (by omega)).mono ?_
      rintro e w1 ⟨rfl, h1⟩
      obtain ⟨LO, o1, hr1, hR1⟩ := read_as f 1
      rw [hr1]
      have hLO := hR1.lt
      have H1 : Hid _ := And.intro h1 (And.intro hR1 hLO)
      clear h1 hR1 hr1 hLO
      cases o1 with
      | none =>
        unfold plc
        go_wp2
        exact bodyPost_ret (v := bad4) (by simp [bad4, results, Try.results16, go_sem]) rfl (RP.bad H1.out.1 (Silo.no_first H1.out.2.1))
      | some i1 =>
        have hi1 := H1.out.2.1.some_lt
        have hi9 : i1 ≤ f.length := hi1.2.1
        clear hi1
        unfold plc
        simp only
        go_wp2_with fail
        refine (RefRead_any f i1 w1 hi9 (by omega)).mono ?_
        rintro e w2 ⟨rfl, h2⟩
        obtain ⟨HI, o2, hr2, hR2⟩ := read_as f i1
        obtain ⟨z2, hz2⟩ : ∃ z2, plc o2 = z2 := ⟨_, rfl⟩
        rw [hr2, hz2]
        have H2 : Hid (Fp (fun _ => False) w w2 ∧ Silo.KO f LO HI o2 [] ∧ LO < Silo.M64 ∧ HI < Silo.M64 ∧ (∀ p, o2 = some p → p ≤ f.length) ∧ plc o2 = z2) := ⟨H1.out.1.trans' h2, Silo.KO.start H1.out.2.1 hR2, H1.out.2.2, hR2.lt, fun p hp => by subst hp; exact hR2.some_lt.2.1, hz2⟩
        clear h2 hR2 hr2 H1 hz2
        go_wp2_with fail
        go_loopw [7, 9] (fun iv lv wr => ∃ (o : Option Nat) (l : List Silo.Smp), iv = .int .i64 (plc o) ∧ (∀ p, o = some p → p ≤ f.length) ∧ Hid (World.smpsAt wr w.heap.size lv l ∧ (∀ x ∈ l, Silo.goodSmp x) ∧ l.length ≤ f.length ∧ (∀ p, o = some p → l.length ≤ p) ∧ Silo.KO f LO HI o l ∧ Fp (fun _ => False) w wr)) (fun iv _ _ => if intOf iv < 0 then 0 else f.length + 1 - (intOf iv).toNat)
        case atStart => exact ⟨o2, [], by rw [H2.out.2.2.2.2.2], H2.out.2.2.2.2.1, nil_row _ _, by simp, by simp, fun p _ => by simp, H2.out.2.1, H2.out.1⟩
        case round =>
          obtain ⟨o, l, rfl, ho, HR⟩ := hrel
          go_upto_region 8 with fail
          go_cut [55] from 41 to 127 (fun cv wx => cv = .bool (Silo.more f o) ∧ wx = wr)
          case first =>
            cases o with
            | none =>
              unfold plc
              go_wp2
              go_meet
              exact ⟨rfl, rfl⟩
            | some p =>
              have hp := ho p rfl
              unfold plc
              simp only
              by_cases hp8 : p + 8 < f.length
              · obtain ⟨bp, hbp⟩ : ∃ bp, (S f)[p]'(by rw [hs]; omega) = bp := ⟨_, rfl⟩
                have hfp : f[p]? = some bp := by rw [← hbp]; exact List.getElem?_eq_getElem (by omega)
                have q1 : (p : Int) < (f.length : Int) - 8 := by omega
                by_cases hz : (bp.toNat : Int) = 0
                · have hz' : ((bp.toNat : Int) != 0) = false := by simpa using hz
                  have HM : Hid (Silo.more f (some p) = false) := by
                    show Silo.more f (some p) = false
                    rw [Silo.more_some, hfp]
                    have : bp = 0 := UInt8.toNat_inj.1 (by simpa using hz)
                    simp [this]
                  clear hz hfp
                  go_wp2
                  go_meet
                  exact ⟨by rw [HM.out], rfl⟩
                · have hz' : ((bp.toNat : Int) != 0) = true := by simpa using hz
                  have HM : Hid (Silo.more f (some p) = true) := by
                    show Silo.more f (some p) = true
                    rw [Silo.more_some, hfp]
                    have : ¬ bp = 0 := fun h => hz (by rw [h]; rfl)
                    simp [this, hp8]
                  clear hz hfp
                  go_wp2
                  go_meet
                  exact ⟨by rw [HM.out], rfl⟩
              · have q1 : ¬ (p : Int) < (f.length : Int) - 8 := by omega
                have HM : Hid (Silo.more f (some p) = false) := by
                  show Silo.more f (some p) = false
                  rw [Silo.more_some]
                  simp [hp8]
                go_wp2
                go_meet
                exact ⟨by rw [HM.out], rfl⟩
          case rest =>
            obtain ⟨rfl, rfl⟩ := hcut
            cases hm : Silo.more f o with
            | true =>
              cases o with
              | none => cases hm
              | some p =>
                obtain ⟨wz, hwz⟩ : ∃ wz, wz = wc := ⟨_, rfl⟩
                subst hwz
                have hp := ho p rfl
                have hlen : ∀ lo hi m, Silo.T f lo hi m → ∀ j, j < 16 → (m j).length < Silo.M64 := fun lo hi m h j hj => h.len hl j hj
                obtain ⟨se, o3, hr3, hR3⟩ := read_as f p
                simp only [plc]
                go_wp2_with fail
                refine (RefRead_any f p wz hp (by omega)).mono ?_
                rintro e w3 ⟨rfl, h3⟩
                rw [hr3]
                cases o3 with
                | none =>
                  have HN : Hid _ := And.intro (HR.out.2.2.2.2.2.trans' h3) (fun lo hi m (ht : Silo.T f lo hi m) => ((Silo.KO.series (n := 0) (o2 := none) HR.out.2.2.2.2.1 hm hR3 (fun q h => by cases h) hlen).1 lo hi m ht).1 rfl)
                  clear h3 hR3 hr3 hlen hm
                  simp only [plc]
                  go_wp2
                  exact bodyPost_ret (v := bad4) (by simp [bad4, results, Try.results16, go_sem]) rfl (RP.bad HN.out.1 HN.out.2)
                | some q =>
                  obtain ⟨n, o4, hr4, hR4⟩ := read_as f q
                  have hser := Silo.KO.series HR.out.2.2.2.2.1 hm hR3 (fun q' h => by cases h; exact hR4) hlen
                  have hq := hR3.some_lt
                  have hq9 : q ≤ f.length := hq.2.1
                  have hpq : p < q := hq.1
                  have hse1 := se_pos hm hR3
                  have hn9 := hR4.lt
                  have H3 : Hid _ := And.intro (HR.out.2.2.2.2.2.trans' h3) (And.intro hser (And.intro hR4 hn9))
                  have hse : (0 : Int) ≤ (q : Int) := by omega
                  have HW3 : Hid _ := h3
                  clear h3 hR3 hr3 hlen hm hser hR4 hq hn9
                  simp only [plc]
                  by_cases h16 : 16 < se
                  · have h16' : (16 : Int) < (se : Int) := by omega
                    go_wp2
                    exact bodyPost_ret (v := bad4) (by simp [bad4, results, Try.results16, go_sem]) rfl (RP.bad H3.out.1 (fun lo hi m ht => by have := (H3.out.2.1.1 lo hi m ht).2.1; omega))
                  · have h16' : ¬ (16 : Int) < (se : Int) := by omega
                    go_wp2_with fail
                    refine (RefRead_any f q w3 hq9 (by omega)).mono ?_
                    rintro e w4 ⟨rfl, h4⟩
                    rw [hr4]
                    cases o4 with
                    | none =>
                      have H4 : Hid _ := h4
                      clear h4 hr4
                      simp only [plc]
                      go_wp2
                      exact bodyPost_ret (v := bad4) (by simp [bad4, results, Try.results16, go_sem]) rfl (RP.bad (H3.out.1.trans' H4.out) (fun lo hi m ht => (H3.out.2.1.1 lo hi m ht).2.2 (by simp) rfl))
                    | some q2 =>
                      have hq2 := H3.out.2.2.1.some_lt
                      have hq29 : q2 ≤ f.length := hq2.2.1
                      have hqq : q < q2 := hq2.1
                      have H4 : Hid _ := And.intro (H3.out.1.trans' h4) (And.intro (H3.out.2.1.2 ⟨q, rfl⟩) H3.out.2.2.2)
                      have HW : Hid _ := HW3.out.trans' h4
                      have hnM : n < 18446744073709551616 := H3.out.2.2.2
                      clear h4 hr4 hq2 HW3
                      simp only [plc]
                      go_wp2_with fail
                      go_loopw [7, 9, 14] (fun iv lv cv wr => ∃ (o : Option Nat) (l2 : List Silo.Smp) (c : Nat) (x : Silo.Smp), iv = .int .i64 (plc o) ∧ cv = .int .u64 (c : Nat) ∧ c ≤ n ∧ (∀ p', o = some p' → p' ≤ f.length ∧ p < p') ∧ Hid (World.smpsAt wr w.heap.size lv l2 ∧ (∀ y ∈ l2, Silo.goodSmp y) ∧ l2.length ≤ f.length ∧ (∀ p', o = some p' → l2.length ≤ p') ∧ Silo.KI f LO HI se n c o x l2 ∧ XB wr w4.heap.size x ∧ x.s = (se : Int) - 1 ∧ (Silo.isInt x.t ∧ x.v < Silo.M64) ∧ (c = 0 → x.v = 0) ∧ (∀ k, lv.ownBlock = some k → k ≠ w4.heap.size) ∧ Fp (fun _ => False) w wr)) (fun _ _ cv _ => n - (intOf cv).toNat)
                      case atStart =>
                        refine ⟨some q2, l, 0, ⟨(se : Int) - 1, 0, 0⟩, rfl, rfl, Nat.zero_le _, fun p' h => by cases h; exact ⟨hq29, by omega⟩, ?_, HR.out.2.1, HR.out.2.2.1, fun p' h => by cases h; have := HR.out.2.2.2.1 p rfl; omega, H4.out.2.1, XB.new w4 ⟨(se : Int) - 1, 0, 0⟩, rfl, ⟨⟨by simp, by simp⟩, Silo.M64_pos⟩, fun _ => rfl, fun k hk => ?_, H4.out.1.trans' (Fp.alloc _ _ _)⟩
                        · exact Fp.ownsRow (HW.out.trans' (Fp.alloc (fun _ => False) _ _)) HR.out.1 (fun _ _ h => h)
                        · have h1 := (World.ownsRow.lt HR.out.1 k hk).2
                          have h2 := HW.out.size
                          omega
                      case round =>
                        obtain ⟨o, l2, c, x, rfl, rfl, hcn, ho2, HQ⟩ := hrel
                        by_cases hgo : c < n ∧ ∃ p', o = some p'
                        · obtain ⟨hc, p', hp'⟩ := hgo
                          subst hp'
                          have hp9 := (ho2 p' rfl).1
                          obtain ⟨t, o5, hr5, hR5⟩ := read_as f p'
                          have cN : (c : Int) < (n : Int) := by omega
                          simp only [plc]
                          go_wp2_with fail
                          refine (RefRead_any f p' wr hp9 (by omega)).mono ?_
                          rintro e w5 ⟨rfl, h5⟩
                          rw [hr5]
                          cases o5 with
                          | none =>
                            have HN : Hid _ := And.intro (HQ.out.2.2.2.2.2.2.2.2.2.2.trans' h5) (fun lo hi m (ht : Silo.T f lo hi m) => (Silo.KI.step (v := 0) (o2 := none) HQ.out.2.2.2.2.1 hc HQ.out.2.2.2.2.2.2.2.1 HQ.out.2.2.2.2.2.2.2.2.1 hR5 (fun q h => by cases h)).1 lo hi m ht rfl)
                            clear h5 hR5 hr5
                            simp only [plc]
                            go_wp2
                            exact bodyPost_ret (v := bad4) (by simp [bad4, results, Try.results16, go_sem]) rfl (RP.bad HN.out.1 HN.out.2)
                          | some q5 =>
                            obtain ⟨v, o6, hr6, hR6⟩ := read_as f q5
                            have hst := (Silo.KI.step HQ.out.2.2.2.2.1 hc HQ.out.2.2.2.2.2.2.2.1 HQ.out.2.2.2.2.2.2.2.2.1 hR5 (fun q' h => by cases h; exact hR6)).2 ⟨q5, rfl⟩
                            have hq5 := hR5.some_lt
                            have hq59 : q5 ≤ f.length := hq5.2.1
                            have hpq5 : p' < q5 := hq5.1
                            have htM : t < Silo.M64 := hR5.lt
                            have hvM : v < Silo.M64 := hR6.lt
                            have hq6 : ∀ p6, o6 = some p6 → p6 ≤ f.length ∧ q5 < p6 := fun p6 h => by subst h; exact ⟨hR6.some_lt.2.1, hR6.some_lt.1⟩
                            have HS : Hid _ := And.intro hst (And.intro htM (And.intro hvM hq6))
                            have H5 : Hid _ := h5
                            clear h5 hR5 hr5 hR6 hst hq5 htM hvM hq6
                            simp only [plc]
                            go_wp2_with fail
                            refine (RefRead_any f q5 w5 hq59 (by omega)).mono ?_
                            rintro e w6 ⟨rfl, h6⟩
                            obtain ⟨z6, hz6⟩ : ∃ z6, plc o6 = z6 := ⟨_, rfl⟩
                            rw [hr6, hz6]
                            have H6 : Hid _ := And.intro (H5.out.trans' h6) hz6
                            have hX : XB w6 w4.heap.size x := HQ.out.2.2.2.2.2.1.fp H6.out.1 (fun h => h)
                            have x0 := hX.lies.c0
                            have x1 := hX.lies.c1
                            have x2 := hX.lies.c2
                            have hfz := hX.frozen
                            have hxl : w4.heap.size < w6.heap.size := hX.lies.lt
                            have HX : Hid _ := hX
                            clear h6 hr6 hX H5 hz6
                            by_cases hc0 : c = 0
                            · have e0 : ((c : Int) == 0) = true := by simpa using hc0
                              have HT : Hid (Silo.zag t = Silo.nextT c x t ∧ v = Silo.nextV c x v) := by
                                refine ⟨?_, ?_⟩
                                · unfold Silo.nextT; rw [if_pos hc0]
                                · unfold Silo.nextV; rw [if_pos hc0]
                              clear hc0
                              go_wp2_with fail
                              refine (RefUnsigned_any t w6 HS.out.2.1).mono ?_
                              rintro e w8 ⟨rfl, rfl⟩
                              go_wp2_with (at_builtin; refine wpList_append_new rfl _ _ rfl w.heap.size u9 l2 rfl _ rfl ⟨(se : Int) - 1, Silo.nextT c x t, Silo.nextV c x v⟩ ?c0 ?c1 ?c3 ?c4 ?_; rotate_left 4; intro g cap w7 HA)
                              case c0 =>
                                have q0 := HQ.out.2.2.2.2.2.2.1
                                have qT := HT.out.1
                                have qV := HT.out.2
                                first | exact ⟨q0, qT, qV⟩ | exact ⟨q0, qT, by rw [← qV], by simp [World.setCell]⟩ | exact ⟨q0, qT, by rw [← qV]⟩ | (simp [q0, ← qT, ← qV, World.setCell]; done)
                              case c1 => exact Fp.ownsRow (S := fun k => k = w4.heap.size) (((H6.out.1.mono (fun _ _ h => h.elim)).trans' ((Fp.setCell (S := fun k => k = w4.heap.size) _ _ _ rfl).trans' (Fp.setCell (S := fun k => k = w4.heap.size) _ _ _ rfl))).trans' (Fp.alloc _ _ _)) HQ.out.1 (fun k hk h => HQ.out.2.2.2.2.2.2.2.2.2.1 k hk h)
                              case c3 => have := HQ.out.2.2.1; omega
                              case c4 => have h1 := HQ.out.2.2.2.2.2.2.2.2.2.2.size; have h2 := H6.out.1.size; simp [World.setCell]; omega
                              go_roundw
                              case rel =>
                                obtain ⟨y, hy⟩ : ∃ y : Silo.Smp, (⟨(se : Int) - 1, Silo.nextT c x t, Silo.nextV c x v⟩ : Silo.Smp) = y := ⟨_, rfl⟩
                                have hys : y.s = (se : Int) - 1 := by rw [← hy]
                                have hyt : y.t = Silo.nextT c x t := by rw [← hy]
                                have hyv : y.v = Silo.nextV c x v := by rw [← hy]
                                have hgt := nextT_int c x t HS.out.2.1
                                have hgv := nextV_lt c x v HQ.out.2.2.2.2.2.2.2.1.2 HS.out.2.2.1
                                have hll := HQ.out.2.2.2.1 p' rfl
                                have hWw := HQ.out.2.2.2.2.2.2.2.2.2.2
                                have hFw : w.heap.size ≤ w4.heap.size := H4.out.1.size
                                have hks := HS.out.1
                                rw [hy] at HA hks
                                have hye : (⟨x.s, Silo.zag t, v⟩ : Silo.Smp) = y := by rw [← hy]; simp only [Silo.Smp.mk.injEq]; exact ⟨HQ.out.2.2.2.2.2.2.1, HT.out.1, HT.out.2⟩
                                refine ⟨o6, l2 ++ [y], c + 1, y, by show Value.int .i64 z6 = .int .i64 (plc o6); rw [H6.out.2], by go_num, by omega, fun p6 h => ⟨(HS.out.2.2.2 p6 h).1, by have := (HS.out.2.2.2 p6 h).2; have := (ho2 p' rfl).2; omega⟩, HA.out.row, ?_, by simp; omega, fun p6 h => by have := (HS.out.2.2.2 p6 h).2; simp; omega, hks, ?_, hys, ⟨by rw [hyt]; exact hgt, by rw [hyv]; exact hgv⟩, fun h => by omega, ?_, ?_⟩
                                · intro z hz
                                  rcases List.mem_append.1 hz with hz | hz
                                  · exact HQ.out.2.1 z hz
                                  · simp only [List.mem_singleton] at hz
                                    subst hz
                                    exact ⟨by omega, by omega, by rw [hyt]; exact hgt, by rw [hyv]; exact hgv⟩
                                · rw [← hye] at HA ⊢
                                  exact ((HX.out.put _ _).fp (Fp.alloc (fun _ => False) _ _) (fun h => h)).fp HA.out.foot (fun h => HQ.out.2.2.2.2.2.2.2.2.2.1 _ h rfl)
                                · intro k hk
                                  simp only [Value.ownBlock, Option.some.injEq] at hk
                                  subst hk
                                  rcases HA.out.lies with h | h
                                  · exact HQ.out.2.2.2.2.2.2.2.2.2.1 _ h
                                  · simp [World.setCell] at h
                                    omega
                                · exact (((hWw.trans' H6.out.1).trans ((Fp.setCell (S := fun k => k = w4.heap.size) _ _ _ rfl).trans' (Fp.setCell (S := fun k => k = w4.heap.size) _ _ _ rfl)) (fun _ h => h) (fun k hk (h : k = w4.heap.size) => (by omega : False))).trans' (Fp.alloc _ _ _)).trans HA.out.foot (fun _ h => h) (fun k hk h => (by have := (World.ownsRow.lt HQ.out.1 k h).1; omega : False))
                              case measure => simp [intOf]; omega
                            · have e0 : ((c : Int) == 0) = false := by simpa using hc0
                              have HT : Hid (RowKit.wrap64 (IntKind.u64.wrap (IntKind.u64.wrap x.t + (t : Int))) = Silo.nextT c x t ∧ x.v ^^^ v = Silo.nextV c x v) := by
                                refine ⟨?_, ?_⟩
                                · unfold Silo.nextT; rw [if_neg hc0]; exact (IntWalk.i64_left _).symm
                                · unfold Silo.nextV; rw [if_neg hc0]
                              clear hc0
                              have g2 : bits BinOp.xor IntKind.u64 (x.v : Int) (v : Int) = ((x.v ^^^ v : Nat) : Int) := by
                                have q1 := HQ.out.2.2.2.2.2.2.2.1.2
                                have q2 := HS.out.2.2.1
                                unfold Silo.M64 at q1 q2
                                rw [bits_xor_u64_nat _ _ q1 q2]
                              go_wp2_with (at_builtin; refine wpList_append_new rfl _ _ rfl w.heap.size u9 l2 rfl _ rfl ⟨(se : Int) - 1, Silo.nextT c x t, Silo.nextV c x v⟩ ?c0 ?c1 ?c3 ?c4 ?_; rotate_left 4; intro g cap w7 HA)
                              case c0 =>
                                have q0 := HQ.out.2.2.2.2.2.2.1
                                have qT := HT.out.1
                                have qV := HT.out.2
                                first | exact ⟨q0, qT, qV⟩ | exact ⟨q0, qT, by rw [← qV], by simp [World.setCell]⟩ | exact ⟨q0, qT, by rw [← qV]⟩ | (simp [q0, ← qT, ← qV, World.setCell]; done)
                              case c1 => exact Fp.ownsRow (S := fun k => k = w4.heap.size) (((H6.out.1.mono (fun _ _ h => h.elim)).trans' ((Fp.setCell (S := fun k => k = w4.heap.size) _ _ _ rfl).trans' (Fp.setCell (S := fun k => k = w4.heap.size) _ _ _ rfl))).trans' (Fp.alloc _ _ _)) HQ.out.1 (fun k hk h => HQ.out.2.2.2.2.2.2.2.2.2.1 k hk h)
                              case c3 => have := HQ.out.2.2.1; omega
                              case c4 => have h1 := HQ.out.2.2.2.2.2.2.2.2.2.2.size; have h2 := H6.out.1.size; simp [World.setCell]; omega
                              go_roundw
                              case rel =>
                                obtain ⟨y, hy⟩ : ∃ y : Silo.Smp, (⟨(se : Int) - 1, Silo.nextT c x t, Silo.nextV c x v⟩ : Silo.Smp) = y := ⟨_, rfl⟩
                                have hys : y.s = (se : Int) - 1 := by rw [← hy]
                                have hyt : y.t = Silo.nextT c x t := by rw [← hy]
                                have hyv : y.v = Silo.nextV c x v := by rw [← hy]
                                have hgt := nextT_int c x t HS.out.2.1
                                have hgv := nextV_lt c x v HQ.out.2.2.2.2.2.2.2.1.2 HS.out.2.2.1
                                have hll := HQ.out.2.2.2.1 p' rfl
                                have hWw := HQ.out.2.2.2.2.2.2.2.2.2.2
                                have hFw : w.heap.size ≤ w4.heap.size := H4.out.1.size
                                have hks := HS.out.1
                                rw [hy] at HA hks
                                have hye : (⟨x.s, RowKit.wrap64 (IntKind.u64.wrap (IntKind.u64.wrap x.t + (t : Int))), x.v ^^^ v⟩ : Silo.Smp) = y := by rw [← hy]; simp only [Silo.Smp.mk.injEq]; exact ⟨HQ.out.2.2.2.2.2.2.1, HT.out.1, HT.out.2⟩
                                refine ⟨o6, l2 ++ [y], c + 1, y, by show Value.int .i64 z6 = .int .i64 (plc o6); rw [H6.out.2], by go_num, by omega, fun p6 h => ⟨(HS.out.2.2.2 p6 h).1, by have := (HS.out.2.2.2 p6 h).2; have := (ho2 p' rfl).2; omega⟩, HA.out.row, ?_, by simp; omega, fun p6 h => by have := (HS.out.2.2.2 p6 h).2; simp; omega, hks, ?_, hys, ⟨by rw [hyt]; exact hgt, by rw [hyv]; exact hgv⟩, fun h => by omega, ?_, ?_⟩
                                · intro z hz
                                  rcases List.mem_append.1 hz with hz | hz
                                  · exact HQ.out.2.1 z hz
                                  · simp only [List.mem_singleton] at hz
                                    subst hz
                                    exact ⟨by omega, by omega, by rw [hyt]; exact hgt, by rw [hyv]; exact hgv⟩
                                · rw [← hye] at HA ⊢
                                  exact ((HX.out.put _ _).fp (Fp.alloc (fun _ => False) _ _) (fun h => h)).fp HA.out.foot (fun h => HQ.out.2.2.2.2.2.2.2.2.2.1 _ h rfl)
                                · intro k hk
                                  simp only [Value.ownBlock, Option.some.injEq] at hk
                                  subst hk
                                  rcases HA.out.lies with h | h
                                  · exact HQ.out.2.2.2.2.2.2.2.2.2.1 _ h
                                  · simp [World.setCell] at h
                                    omega
                                · exact (((hWw.trans' H6.out.1).trans ((Fp.setCell (S := fun k => k = w4.heap.size) _ _ _ rfl).trans' (Fp.setCell (S := fun k => k = w4.heap.size) _ _ _ rfl)) (fun _ h => h) (fun k hk (h : k = w4.heap.size) => (by omega : False))).trans' (Fp.alloc _ _ _)).trans HA.out.foot (fun _ h => h) (fun k hk h => (by have := (World.ownsRow.lt HQ.out.1 k h).1; omega : False))
                              case measure => simp [intOf]; omega
                        · have HG : Hid _ := hgo
                          have hfin : (if plc o < 0 then 0 else f.length + 1 - (plc o).toNat) < f.length + 1 - p := by
                            cases o with
                            | none => show (if ((-1 : Int)) < 0 then 0 else f.length + 1 - ((-1 : Int)).toNat) < _; rw [if_pos (by omega)]; omega
                            | some p2 => show (if ((p2 : Nat) : Int) < 0 then 0 else f.length + 1 - ((p2 : Nat) : Int).toNat) < _; rw [if_neg (by omega)]; have h := ho2 p2 rfl; simp only [Int.toNat_natCast]; omega
                          have HM : Hid _ := hfin
                          by_cases hcc : c < n
                          · have ho9 : o = none := by
                              cases o with
                              | none => rfl
                              | some p2 => exact absurd ⟨hcc, p2, rfl⟩ hgo
                            subst ho9
                            clear hgo hfin
                            have cN : (c : Int) < (n : Int) := by omega
                            simp only [plc]
                            go_wp2
                            go_roundw
                            case rel => exact ⟨none, l2, rfl, fun p h => (by cases h), HQ.out.1, HQ.out.2.1, HQ.out.2.2.1, HQ.out.2.2.2.1, Silo.KI.done HQ.out.2.2.2.2.1 HG.out, HQ.out.2.2.2.2.2.2.2.2.2.2⟩
                            case measure => show (if ((-1 : Int)) < 0 then 0 else f.length + 1 - ((-1 : Int)).toNat) < (if ((p : Nat) : Int) < 0 then 0 else f.length + 1 - ((p : Nat) : Int).toNat); rw [if_pos (by omega), if_neg (by omega)]; simp only [Int.toNat_natCast]; omega
                          · clear hgo hfin
                            have cN : ¬ (c : Int) < (n : Int) := by omega
                            obtain ⟨z9, hz9⟩ : ∃ z9, plc o = z9 := ⟨_, rfl⟩
                            rw [hz9]
                            have HZ : Hid _ := hz9
                            clear hz9
                            go_wp2
                            go_roundw
                            case rel => exact ⟨o, l2, (by show Value.int .i64 z9 = .int .i64 (plc o); rw [HZ.out]), fun p h => (ho2 p h).1, HQ.out.1, HQ.out.2.1, HQ.out.2.2.1, HQ.out.2.2.2.1, Silo.KI.done HQ.out.2.2.2.2.1 HG.out, HQ.out.2.2.2.2.2.2.2.2.2.2⟩
                            case measure => have h := HM.out; rw [HZ.out] at h; show (if z9 < 0 then 0 else f.length + 1 - z9.toNat) < (if ((p : Nat) : Int) < 0 then 0 else f.length + 1 - ((p : Nat) : Int).toNat); rw [if_neg (by omega : ¬ ((p : Nat) : Int) < 0)]; simp only [Int.toNat_natCast]; exact h
            | false =>
              obtain ⟨wz, hwz⟩ : ∃ wz, wz = wc := ⟨_, rfl⟩
              subst hwz
              have hfin : ∀ lo hi m, Silo.T f lo hi m → LO = lo ∧ HI = hi ∧ (∃ p, o = some p) ∧ l = Silo.flat m := fun lo hi m ht => by
                obtain ⟨e1, e2, s, p, e3, e4, e5, e6⟩ := HR.out.2.2.2.2.1 lo hi m ht
                subst e4
                exact ⟨e1, e2, ⟨p, rfl⟩, by rw [e6, Silo.T.end_of e3 e5 hm]⟩
              obtain ⟨la, lc, hu9⟩ := ownsRow_form HR.out.1
              subst hu9
              have hll : l.length ≤ f.length := HR.out.2.2.1
              have HF : Hid _ := And.intro hfin (And.intro HR.out.2.1 (And.intro H2.out.2.2.1 H2.out.2.2.2.1))
              obtain ⟨z7, hz7⟩ : ∃ z7, plc o = z7 := ⟨_, rfl⟩
              rw [hz7]
              have HZ : Hid _ := hz7
              clear hfin hm hz7
              go_wp2_with fail
              go_loopw [19] (fun cv wr => ∃ c : Nat, 1 ≤ c ∧ c ≤ l.length + 1 ∧ cv = .int .i64 c ∧ Hid ((∀ q (hq : q + 1 < l.length), q + 1 < c → Silo.bef l[q] l[q + 1]) ∧ World.smpsAt wr w.heap.size (.slice la l.length lc) l ∧ Fp (fun _ => False) w wr)) (fun cv _ => l.length + 1 - (intOf cv).toNat)
              case atStart => exact ⟨1, by omega, by omega, rfl, fun q hq h => by omega, HR.out.1, HR.out.2.2.2.2.2⟩
              case round =>
                obtain ⟨c, hc1, hc2, rfl, HC⟩ := hrel
                by_cases hcl : c < l.length
                · obtain ⟨j, hj⟩ : ∃ j, c = j + 1 := ⟨c - 1, by omega⟩
                  have hjl : j < l.length := by omega
                  obtain ⟨g, hla, _, hg⟩ := smps_some HC.out.2.1 (by omega)
                  subst hla
                  obtain ⟨c0, c1, c2⟩ := smpsAt_cell HC.out.2.1 c hcl
                  obtain ⟨d0, d1, d2⟩ := smpsAt_cell HC.out.2.1 j hjl
                  obtain ⟨y, hy⟩ : ∃ y, l[c] = y := ⟨_, rfl⟩
                  obtain ⟨p, hp⟩ : ∃ p, l[j] = p := ⟨_, rfl⟩
                  rw [hy] at c0 c1 c2
                  rw [hp] at d0 d1 d2
                  have HY : Hid _ := And.intro hy (And.intro hp hj)
                  have hj1 : IntKind.i64.wrap ((c : Int) - 1) = (j : Int) := by rw [show (c : Int) - 1 = (j : Int) by omega, IntKind.wrap_i64]; omega
                  have cN : (c : Int) < (l.length : Int) := by omega
                  have jN : (j : Int) < (l.length : Int) := by omega
                  clear hy hp hj
                  go_upto_region 34 with fail
                  go_cut [173] from 128 to 173 (fun cv wx => cv = .bool (!(Silo.ahead p y)) ∧ Hid (Fp (fun _ => False) wr wx))
                  case first =>
                    by_cases h1 : y.s < p.s
                    · have t1 : decide (y.s < p.s) = true := decide_eq_true h1
                      have HA : Hid (Silo.ahead p y = false) := by show decide _ = false; simp; omega
                      clear h1
                      go_quiet (fail)
                      go_wp2
                      go_meet
                      exact ⟨by rw [HA.out]; rfl, Fp.drewN _ _ _⟩
                    · have t1 : decide (y.s < p.s) = false := decide_eq_false h1
                      by_cases h2 : y.s = p.s
                      · have t2 : (y.s == p.s) = true := by simpa using h2
                        by_cases h3 : y.t ≤ p.t
                        · have t3 : decide (y.t ≤ p.t) = true := decide_eq_true h3
                          have HA : Hid (Silo.ahead p y = false) := by show decide _ = false; simp; omega
                          clear h1 h2 h3
                          go_quiet (fail)
                          go_wp2
                          go_meet
                          exact ⟨by rw [HA.out]; rfl, Fp.drewN _ _ _⟩
                        · have t3 : decide (y.t ≤ p.t) = false := decide_eq_false h3
                          have HA : Hid (Silo.ahead p y = true) := by show decide _ = true; simp; omega
                          clear h1 h2 h3
                          go_quiet (fail)
                          go_wp2
                          go_meet
                          exact ⟨by rw [HA.out]; rfl, Fp.drewN _ _ _⟩
                      · have t2 : (y.s == p.s) = false := by simpa using h2
                        have HA : Hid (Silo.ahead p y = true) := by show decide _ = true; simp; omega
                        clear h1 h2
                        go_quiet (fail)
                        go_wp2
                        go_meet
                        exact ⟨by rw [HA.out]; rfl, Fp.drewN _ _ _⟩
                  case rest =>
                    obtain ⟨rfl, HW⟩ := hcut
                    cases hah : Silo.ahead p y with
                    | false =>
                      have hno : ∀ lo hi m, Silo.T f lo hi m → False := fun lo hi m ht => by
                        obtain ⟨_, _, _, e4⟩ := HF.out.1 lo hi m ht
                        have hasc : Silo.AscS l := by rw [e4]; exact Silo.flatFrom_asc (fun j => (Silo.goodPts_asc (ht.2.1 j)).1) 16 0
                        have hb : Silo.bef l[j] l[c] := (List.pairwise_iff_getElem.1 hasc) j c hjl hcl (by have := HY.out.2.2; omega)
                        rw [HY.out.1, HY.out.2.1] at hb
                        rw [Silo.ahead_bef.2 hb] at hah
                        cases hah
                      have HN : Hid _ := hno
                      clear hno hah
                      go_wp2
                      exact bodyPost_ret (v := bad4) (by simp [bad4, results, Try.results16, go_sem]) rfl (RP.bad (HC.out.2.2.trans' HW.out) HN.out)
                    | true =>
                      have HB2 : Hid _ := Silo.ahead_bef.1 hah
                      clear hah
                      go_wp2
                      go_roundw
                      case rel =>
                        refine ⟨c + 1, by omega, by omega, by go_num, fun q hq h => ?_, Fp.ownsRow HW.out HC.out.2.1 (fun _ _ h => h), HC.out.2.2.trans' HW.out⟩
                        by_cases e : q = j
                        · subst e
                          have e2 := HY.out.2.2
                          subst e2
                          rw [HY.out.1, HY.out.2.1]
                          exact HB2.out
                        · exact HC.out.1 q hq (by have := HY.out.2.2; omega)
                      case measure => simp [intOf]; omega
                · have hasc : Silo.AscS l := Silo.asc_of_adj (fun q hq => HC.out.1 q hq (by omega))
                  have cN : ¬ (c : Int) < (l.length : Int) := by omega
                  have HAS : Hid _ := hasc
                  clear hasc
                  cases o with
                  | none =>
                    have e7 : z7 = -1 := HZ.out.symm
                    subst e7
                    go_wp2
                    exact bodyPost_ret (v := bad4) (by simp [bad4, results, Try.results16, go_sem]) rfl (RP.bad HC.out.2.2 (fun lo hi m ht => by obtain ⟨_, _, ⟨p, hp⟩, _⟩ := HF.out.1 lo hi m ht; cases hp))
                  | some p7 =>
                    have e7 : ((p7 : Nat) : Int) = z7 := HZ.out
                    have z0 : ¬ z7 < 0 := by omega
                    have HE7 : Hid _ := e7
                    clear e7
                    by_cases h1 : HI < LO
                    · have h1' : (HI : Int) < (LO : Int) := by omega
                      go_wp2
                      exact bodyPost_ret (v := bad4) (by simp [bad4, results, Try.results16, go_sem]) rfl (RP.bad HC.out.2.2 (fun lo hi m ht => by obtain ⟨e1, e2, _, _⟩ := HF.out.1 lo hi m ht; have := ht.2.2.1; omega))
                    · have h1' : ¬ (HI : Int) < (LO : Int) := by omega
                      by_cases h2 : 999999 < HI
                      · have h2' : (999999 : Int) < (HI : Int) := by omega
                        go_wp2
                        exact bodyPost_ret (v := bad4) (by simp [bad4, results, Try.results16, go_sem]) rfl (RP.bad HC.out.2.2 (fun lo hi m ht => by obtain ⟨e1, e2, _, _⟩ := HF.out.1 lo hi m ht; have := ht.2.2.2; omega))
                      · have h2' : ¬ (999999 : Int) < (HI : Int) := by omega
                        go_wp2_with fail
                        refine (RefTold_any LO HI (.slice la l.length lc) l wr (by omega) (by omega) (SmpIn.of_row HC.out.2.1 (Nat.le_refl _)) (by omega) HF.out.2.1).mono ?_
                        rintro e w9 ⟨rfl, h9'⟩
                        obtain ⟨told, htold⟩ : ∃ told, Silo.sealed (Silo.toldBody LO HI l) = told := ⟨_, rfl⟩
                        rw [htold]
                        have H9 : Hid _ := And.intro (HC.out.2.2.trans' h9') (And.intro htold (Fp.ownsRow h9' HC.out.2.1 (fun _ _ h => h)))
                        clear h9' htold
                        by_cases heq : f = told
                        · have hc : ((S f).toList == (S told).toList) = true := by rw [heq]; simp
                          have hdec : Silo.decode f = some ⟨LO, HI, l⟩ := by
                            have hfit : Silo.fits l = true := by
                              unfold Silo.fits
                              rw [List.all_eq_true]
                              intro x hx
                              have := HF.out.2.1 x hx
                              simp only [decide_eq_true_eq]
                              exact ⟨this.1, this.2.1⟩
                            obtain ⟨g1, g2⟩ := Silo.flat_ser HAS.out hfit
                            have hgood : ∀ j, j < 16 → Silo.goodPts 0 true (Silo.ser j l) ∧ (Silo.ser j l).length < Silo.M64 := fun j hj =>
                              ⟨Silo.goodPts_of (g2 j hj).asc (fun p hp => Silo.ser_good HF.out.2.1 p ((g2 j hj).mem p hp)) 0 true (fun h => by cases h), by have := Silo.ser_length j l; unfold Silo.M64; omega⟩
                            have hfile : f = Silo.file LO HI (fun s => Silo.ser s l) := by
                              rw [heq, ← H9.out.2.1]
                              unfold Silo.file
                              rw [← Silo.toldBody_flat, ← g1]
                            rw [hfile, Silo.decode_file LO HI _ (by omega) (by omega) hgood, ← g1]
                          have HD : Hid _ := hdec
                          clear hdec heq
                          go_wp2
                          refine bodyPost_ret (v := .tuple #[.int .i64 (LO : Nat), .int .i64 (HI : Nat), .slice la l.length lc, .int .i64 0]) (by simp [results, Try.results16, go_sem]) rfl ⟨H9.out.1, fun h => (by rw [HD.out] at h; cases h), fun d hd => ?_⟩
                          rw [HD.out] at hd
                          simp only [Option.some.injEq] at hd
                          subst hd
                          exact ⟨la, lc, rfl, H9.out.2.2⟩
                        · have hc : ((S f).toList == (S told).toList) = false := by
                            rw [bytes_toList, bytes_toList, S_toList, S_toList]; simpa using heq
                          have HNE : Hid _ := heq
                          clear heq
                          go_wp2
                          exact bodyPost_ret (v := bad4) (by simp [bad4, results, Try.results16, go_sem]) rfl (RP.bad H9.out.1 (fun lo hi m ht => by
                            obtain ⟨e1, e2, _, e4⟩ := HF.out.1 lo hi m ht
                            apply HNE.out
                            rw [← H9.out.2.1, e1, e2, e4, Silo.toldBody_flat]
                            exact ht.1))
    · have h66' : ((b0.toNat : Int) != 66) = true := by simpa using h66
      have hno : ∀ lo hi m, Silo.T f lo hi m → False := fun lo hi m h => by
        rw [h.shape] at hf0
        simp only [List.getElem?_cons_zero, Option.some.injEq] at hf0
        apply h66
        rw [← hf0]
        rfl
      have HN : Hid _ := hno
      clear hno hf0
      go_enter Try.func16, Try.ntmps16
      go_wp2
      exact bodyPost_ret (v := bad4) (by simp [bad4, results, Try.results16, go_sem]) rfl (RP.bad (Fp.refl _ _) HN.out)

end Go.Proofs.Ytojjkjfcbfoinaa

namespace Go.Proofs.Ytojjkjfcbfoinaa
open Go.ChangeShapes Go.WideShapes Go.ChangeAt Go.RowKit
open Go.ChangeMaps (open_string shut_string)
open Go.Deep

theorem i64_of_wf {n : Int} (h : (Lit.int .i64 n).wf = true) : -9223372036854775808 ≤ n ∧ n ≤ 9223372036854775807 := by
  have e1 : IntKind.i64.min = -9223372036854775808 := by decide
  have e2 : IntKind.i64.max = 9223372036854775807 := by decide
  simp only [Lit.wf, Bool.and_eq_true, decide_eq_true_eq, e1, e2] at h
  exact h

theorem u64_of_wf {n : Int} (h : (Lit.int .u64 n).wf = true) : 0 ≤ n ∧ n ≤ 18446744073709551615 := by
  have e1 : IntKind.u64.min = 0 := by decide
  have e2 : IntKind.u64.max = 18446744073709551615 := by decide
  simp only [Lit.wf, Bool.and_eq_true, decide_eq_true_eq, e1, e2] at h
  exact h

theorem bulkAll_le {H : Type} {ds : List (DataW H)} (h : ∀ d ∈ ds, 1 ≤ Rows.uptoBulk d) : ds.length ≤ Rows.uptoBulkAll ds := by
  induction ds with
  | nil => simp
  | cons d ds ih =>
    have h1 := h d (by simp)
    have h2 := ih (fun x hx => h x (by simp [hx]))
    simp only [Rows.uptoBulkAll, List.length_cons]
    omega

theorem bulk_pos {H : Type} (d : DataW H) : 1 ≤ Rows.uptoBulk d := by
  cases d with
  | lit l => cases l <;> simp [Rows.uptoBulk]
  | _ => simp [Rows.uptoBulk]

set_option maxRecDepth 100000 in
theorem open_smps {H : Type} {enc : TypeId × Value → H} {W : World} {base b0 : Nat} {sp : Nat → Bool} {held : Bool} {v : Value} {d : DataW H} {ps : List MemPlace} {r : Reach}
    (hval : Value.okWide Try.prog W r b0 22 v) (hd : DataW.Trod enc Try.prog W base sp held 22 v d ps) :
    ∃ raw : List Silo.Smp, SmpIn W W.heap.size v raw ∧ (∀ x ∈ raw, Silo.isInt x.s ∧ Silo.isInt x.t ∧ x.v < Silo.M64) ∧ raw.length ≤ Rows.uptoBulk d := by
  obtain ⟨a, len, cap, rfl⟩ := okWide_slice Try.underlying22 hval
  obtain ⟨fuel, h⟩ := hd
  have hc : (Value.slice a len cap).cells.toList = [Value.slice a len cap] := rfl
  rw [hc] at h
  rcases open_slice Try.underlying22 h with ⟨h1, h2⟩ | ⟨a, len', cap', m, n, D, Pl, h1, hb, hl, hm, hmm, hx, hall⟩
  · simp only [List.cons.injEq, and_true, Value.slice.injEq] at h1
    obtain ⟨rfl, rfl, rfl⟩ := h1
    exact ⟨[], SmpIn.nil _ _, by simp, by simp⟩
  · simp only [List.cons.injEq, and_true, Value.slice.injEq] at h1
    obtain ⟨rfl, rfl, rfl⟩ := h1
    simp only [Prod.mk.injEq] at hx
    have hlm : len ≤ m := by rw [hmm]; split <;> omega
    have hce : Try.prog.cellsOf 42 = 3 := by kernel_rfl
    have c3 : Try.prog.cellsOf 3 = 1 := by kernel_rfl
    have c4 : Try.prog.cellsOf 40 = 1 := by kernel_rfl
    have each : ∀ i, i < len → ∃ x : Silo.Smp, (Silo.isInt x.s ∧ Silo.isInt x.t ∧ x.v < Silo.M64) ∧ W.cell? (a.add (i * 3)) = some (.int .i64 x.s) ∧ W.cell? (a.add (i * 3 + 1)) = some (.int .i64 x.t) ∧ W.cell? (a.add (i * 3 + 2)) = some (.int .u64 (x.v : Nat)) := by
      intro i hi
      obtain ⟨cs', g1, g2⟩ := hall i (by omega)
      rw [hce] at g1
      obtain ⟨_, hlen, hcell⟩ := World.cells?_some g1
      obtain ⟨xs, k, hk, hxy, _, hxl, hf⟩ := DataW.trod_struct Try.underlying42 g2
      match xs, hxl, cs', hlen with
      | [y0, y1, y2], _, [v0, v1, v2], _ =>
        have f0 := hf 0 _ rfl
        have f1 := hf 1 _ rfl
        have f2 := hf 2 _ rfl
        simp [c3, c4] at f0 f1 f2
        obtain ⟨n0, e0, _, w0⟩ := DataW.trod_int Try.underlying3 f0
        obtain ⟨n1, e1, _, w1⟩ := DataW.trod_int Try.underlying3 f1
        obtain ⟨n2, e2, _, w2⟩ := DataW.trod_int Try.underlying40 f2
        simp only [List.cons.injEq, and_true] at e0 e1 e2
        subst e0 e1 e2
        have k0 := hcell 0 (by omega)
        have k1 := hcell 1 (by omega)
        have k2 := hcell 2 (by omega)
        rw [add_add] at k0 k1 k2
        have p2 := u64_of_wf w2
        refine ⟨⟨n0, n1, n2.toNat⟩, ⟨?_, ?_, ?_⟩, by simpa using k0, by simpa using k1, ?_⟩
        · exact i64_of_wf w0
        · exact i64_of_wf w1
        · show n2.toNat < Silo.M64
          unfold Silo.M64; omega
        · show W.cell? (a.add (i * 3 + 2)) = some (.int .u64 (n2.toNat : Nat))
          have : ((n2.toNat : Nat) : Int) = n2 := by omega
          rw [this]
          simpa using k2
    by_cases h0 : len = 0
    · subst h0
      exact ⟨[], ⟨some a, cap, rfl, .inl rfl⟩, by simp, by simp⟩
    · have hsp : a.spot = none := by
        obtain ⟨x, _, k, _⟩ := each 0 (by omega)
        have e : a.add (0 * 3) = a := by simp [Addr.add]
        rw [e] at k
        unfold World.cell? at k
        split at k
        · split at k
          · cases k
          · rename_i hh
            cases hs : a.spot with
            | none => rfl
            | some y => simp [hs] at hh
        · cases k
      obtain ⟨b, off, spot⟩ := a
      simp only at hsp
      subst hsp
      have hlt : b < W.heap.size := by
        obtain ⟨x, _, k, _⟩ := each 0 (by omega)
        have e : (⟨b, off, none⟩ : Addr).add (0 * 3) = ⟨b, off, none⟩ := by simp [Addr.add]
        rw [e] at k
        unfold World.cell? at k
        split at k
        · rename_i hh
          exact heap_lt hh
        · cases k
      haveI : Inhabited Silo.Smp := ⟨⟨0, 0, 0⟩⟩
      obtain ⟨q, hq⟩ := choose_lt each
      have hg : ∀ (k : Nat) (hk : k < ((List.range len).map q).length), ((List.range len).map q)[k] = q k := fun k hk => by simp
      refine ⟨(List.range len).map q, ⟨some ⟨b, off, none⟩, cap, by simp, .inr ⟨b, off, rfl, hlt, fun k hk => ?_⟩⟩, ?_, ?_⟩
      · have hk' : k < len := by simpa using hk
        rw [hg k hk]
        obtain ⟨_, k0, k1, k2⟩ := hq k hk'
        rw [add_plain] at k0 k1 k2
        exact ⟨k0, k1, k2⟩
      · intro x hx
        obtain ⟨i, hi, rfl⟩ := List.mem_map.1 hx
        exact (hq i (List.mem_range.1 hi)).1
      · rw [hx.1]
        have := bulkAll_le (ds := (List.range len).map D) (fun d _ => bulk_pos d)
        simp only [Rows.uptoBulk, List.length_map, List.length_range] at this ⊢
        omega

/-- What a call that leaves all old blocks as they are owes the row. -/
theorem kept_of_fp {W W' : World} (h : Fp (fun _ => False) W W') (may : MemPlace → Prop) : W.keptBut W' may := by
  refine ⟨h.os, h.output, fun i hi => ?_⟩
  rw [h.block i hi (fun x => x)]
  cases W.heap[i]? with
  | none => rfl
  | some o =>
    cases o with
    | cells c t fr => exact ⟨rfl, rfl, rfl, fun _ _ => rfl⟩
    | map es c => exact .inr ⟨rfl, rfl⟩
    | _ => rfl

theorem post_of_fp {H : Type} {enc : TypeId × Value → H} {P : Program} {f : Func} {s : ChangeSpec} {apart fresh handsOn again : Bool} {W W' : World} {args : Array Value} {v : Value} {ds gs : List (DataW H)} {before pa pv : List MemPlace}
    (hW : DataW.Whole enc P f.params.toList s.vars apart W args.toList ds gs before) (hf : Fp (fun _ => False) W W')
    (hres : ∀ (b : Nat) (sp : Nat → Bool) (hd : Bool), DataW.TrodAll enc P W' b sp hd f.resultTypes.toList (v.resultList f.resultTypes.size) (s.fn H (ds ++ gs)).results [])
    (hargs : ∀ sp : Nat → Bool, (∀ p ∈ before, sp p.block = true) → DataW.TrodAll enc P W' 0 sp true f.params.toList args.toList (s.fn H (ds ++ gs)).args pa)
    (hvars : ∀ sp : Nat → Bool, (∀ p ∈ before, sp p.block = true) → DataW.TrodVars enc P W' sp s.vars (s.fn H (ds ++ gs)).vars pv)
    (hps : before = pa ++ pv)
    (hok : ∀ (j : Nat) (t : TypeId) (r : Value), f.resultTypes[j]? = some t → (v.resultList f.resultTypes.size)[j]? = some r → Value.okWide P W' .any 0 t r) :
    s.post enc P f apart fresh handsOn again W args v W' := by
  have hlt : ∀ p ∈ before, p.block < W.heap.size := fun p hp => hW.lt p hp
  have hold : ∀ p ∈ before, (fun b => decide (b < W.heap.size)) p.block = true := fun p hp => by simpa using hlt p hp
  have hin : ∀ p, p ∈ before ↔ p ∈ pa ∨ p ∈ pv := fun p => by rw [hps, List.mem_append]
  refine ⟨ds, gs, before, [], pa, pv, hW, hres _ _ _, hargs _ hold, hvars _ hold, World.keptBut_mono (fun p hp => ⟨hp, .inr ((hin p).1 hp)⟩) (kept_of_fp hf (· ∈ before)), fun _ => ?_⟩
  obtain ⟨_, _, _, _, _, hz, hn⟩ := hW
  refine ⟨hok, _, _, ([] ++ pa) ++ pv, ⟨[] ++ pa, pv, trodAll_append (hargs _ (fun _ _ => rfl)) (hres _ _ _), hvars _ (fun _ _ => rfl), rfl, ?_, ?_⟩, ?_⟩
  · intro b off hp
    have hp' : MemPlace.cell b off ∈ before := by rw [hps]; simpa using hp
    rw [hf.frozen (p := ⟨b, off, none⟩) (hlt _ hp') (fun x => x)]
    exact hz b off hp'
  · intro ha
    have := hn ha
    rw [hps] at this
    simpa using this
  · intro p hp _
    rw [hps]
    simpa using hp

end Go.Proofs.Ytojjkjfcbfoinaa

namespace Go.Proofs.Ytojjkjfcbfoinaa
open Go.RowKit Go.Shelf

theorem SmpIn.cells {w : World} {B : Nat} {ad : Option Addr} {n c : Nat} {xs : List Silo.Smp} (h : SmpIn w B (.slice ad n c) xs) (hk : 0 < xs.length) : n = xs.length ∧ ∃ b off, ad = some ⟨b, off, none⟩ ∧ b < B ∧ ∀ k (hk : k < xs.length),
    w.cell? ⟨b, off + k * 3, none⟩ = some (.int .i64 xs[k].s) ∧ w.cell? ⟨b, off + k * 3 + 1, none⟩ = some (.int .i64 xs[k].t) ∧ w.cell? ⟨b, off + k * 3 + 2, none⟩ = some (.int .u64 (xs[k].v : Nat)) := by
  obtain ⟨a, c', e, h⟩ := h
  simp only [Value.slice.injEq] at e
  obtain ⟨rfl, e2, _⟩ := e
  refine ⟨e2, ?_⟩
  rcases h with h | h
  · rw [h] at hk; simp at hk
  · exact h

set_option maxHeartbeats 1000000 in
set_option maxRecDepth 100000 in
theorem sameSamples_eq (xs : List Silo.Smp) (v v' : Value) (w : World) (h1 : SmpIn w w.heap.size v xs) (h2 : SmpIn w w.heap.size v' xs) (hl : xs.length ≤ 1099511627776) :
    Calls Try.prog 17 #[v, v'] w fun e w' => e = .returned (.bool true) ∧ Fp (fun _ => False) w w' := by
  have H : Hid _ := And.intro h1 h2
  obtain ⟨a1, c1, rfl, _⟩ := h1
  obtain ⟨a2, c2, rfl, _⟩ := h2
  obtain ⟨N, hN⟩ : ∃ N, xs.length = N := ⟨_, rfl⟩
  rw [hN] at hl ⊢
  have HN : Hid _ := hN
  clear hN
  go_enter Try.func17, Try.ntmps17
  go_wp2_with fail
  go_loopw [5] (fun iv wr => ∃ k : Nat, k ≤ N ∧ iv = .int .i64 k ∧ Hid (Fp (fun _ => False) w wr)) (fun iv _ => N - (intOf iv).toNat)
  case atStart => exact ⟨0, by omega, rfl, Fp.refl _ _⟩
  case round =>
    obtain ⟨k, hk, rfl, HR⟩ := hrel
    by_cases hlt : k < N
    · have hkl : k < xs.length := by rw [HN.out]; exact hlt
      obtain ⟨_, b1, o1, e1, hb1, q1⟩ := SmpIn.cells H.out.1 (by omega)
      obtain ⟨_, b2, o2, e2, hb2, q2⟩ := SmpIn.cells H.out.2 (by omega)
      subst e1 e2
      obtain ⟨x0, x1, x2⟩ := q1 k hkl
      obtain ⟨y0, y1, y2⟩ := q2 k hkl
      obtain ⟨x, hx⟩ : ∃ x, xs[k] = x := ⟨_, rfl⟩
      rw [hx] at x0 x1 x2 y0 y1 y2
      rw [← HR.out.cell (p := ⟨b1, o1 + k * 3, none⟩) hb1 (fun h => h)] at x0
      rw [← HR.out.cell (p := ⟨b1, o1 + k * 3 + 1, none⟩) hb1 (fun h => h)] at x1
      rw [← HR.out.cell (p := ⟨b1, o1 + k * 3 + 2, none⟩) hb1 (fun h => h)] at x2
      rw [← HR.out.cell (p := ⟨b2, o2 + k * 3, none⟩) hb2 (fun h => h)] at y0
      rw [← HR.out.cell (p := ⟨b2, o2 + k * 3 + 1, none⟩) hb2 (fun h => h)] at y1
      rw [← HR.out.cell (p := ⟨b2, o2 + k * 3 + 2, none⟩) hb2 (fun h => h)] at y2
      clear q1 q2 hx hkl
      have kN : (k : Int) < (N : Int) := by omega
      go_wp2_with fail
      go_quiet (fail)
      go_wp2
      go_roundw
      case rel => exact ⟨k + 1, by omega, by go_num, HR.out.trans' (Fp.drewN _ _ _)⟩
      case measure => simp [intOf]; omega
    · obtain rfl : k = N := by omega
      go_wp2
      go_ret
      exact ⟨ret_val (by simp), HR.out⟩

theorem nil12_four : ((S nil12).extract 0 4).toList = [66, 0, 0, 0] := by
  rw [S_extract, bytes_toList, S_toList, S_toList]
  rfl

set_option maxHeartbeats 1000000 in
set_option maxRecDepth 100000 in
theorem fixed_any (w : World) : Calls Try.prog 5 #[] w fun e w' => e = .returned (.bool true) ∧ Fp (fun _ => False) w w' := by
  go_enter Try.func5, Try.ntmps5
  go_wp2_with fail
  refine (Block_ok 0 0 (.slice none 0 0) [] w (by omega) (by omega) (SmpIn.nil _ _) (by simp) rfl (fun x hx => by cases hx)).mono ?_
  rintro e w1 ⟨m0, h01, _, _, rfl, h05⟩
  rw [file_nil h01]
  have H1 : Hid _ := h05
  clear h01 h05
  have n1 := nil12_size
  have n2 := nil12_four
  go_wp2
  go_ret
  exact ⟨ret_val (by simp), H1.out⟩

theorem SmpIn.src {w : World} {B : Nat} {v : Value} {xs : List Silo.Smp} (h : SmpIn w B v xs) : SmpSrc w v xs := by
  obtain ⟨a, c, e, h⟩ := h
  refine ⟨a, c, e, h.imp id ?_⟩
  rintro ⟨b, off, ha, _, hc⟩
  refine ⟨b, off, ha, fun j u hj => ?_⟩
  have hjl : j < xs.length * 3 := by
    rw [← smpCells_length]
    exact (List.getElem?_eq_some_iff.1 hj).1
  have hk : j / 3 < xs.length := by omega
  obtain ⟨q0, q1, q2⟩ := hc (j / 3) hk
  obtain ⟨r0, r1, r2⟩ := smpCells_at xs (j / 3) hk
  have h3 : j = j / 3 * 3 ∨ j = j / 3 * 3 + 1 ∨ j = j / 3 * 3 + 2 := by omega
  rcases h3 with h3 | h3 | h3
  · rw [h3, r0] at hj; rw [h3, ← hj]; exact q0
  · rw [h3, r1] at hj; rw [h3, ← hj, ← Nat.add_assoc]; exact q1
  · rw [h3, r2] at hj; rw [h3, ← hj, ← Nat.add_assoc]; exact q2

/-- The sample that marks what lies behind. -/
def seven : Silo.Smp := ⟨-7, 0, 0⟩

set_option maxRecDepth 100000 in
theorem handSamples_nil (w : World) : Calls Try.prog 12 #[.slice none 0 0] w fun e w' => e = .returned (.slice none 0 0) ∧ w' = w := by
  have heq : ∀ u : World, (binOp .eql 22 (.slice none 0 0) (.slice none 0 0)).run Try.prog u = .ok (.bool true) u := fun u => run_eql_nil_slice u 22 42 none 0 0 0 0 Try.underlying22
  go_enter Try.func12, Try.ntmps12
  go_wp2
  go_ret
  exact ⟨ret_val (by simp), rfl⟩

set_option maxHeartbeats 1000000 in
set_option maxRecDepth 100000 in
theorem handSamples_some (ad : Addr) (c : Nat) (xs : List Silo.Smp) (w : World) (hin : SmpIn w w.heap.size (.slice (some ad) xs.length c) xs) (hl : xs.length ≤ 16777216) :
    Calls Try.prog 12 #[.slice (some ad) xs.length c] w fun e w' => ∃ v, e = .returned v ∧ World.smpsAt w' w.heap.size v (xs ++ [seven, seven, seven]) ∧ Fp (fun _ => False) w w' := by
  have H : Hid _ := hin
  clear hin
  have heq : ∀ u : World, (binOp .eql 22 (.slice (some ad) xs.length c) (.slice none 0 0)).run Try.prog u = .ok (.bool false) u := fun u => Lib.run_eql_slice_nil u 22 42 (some ad) xs.length c 0 0 Try.underlying22
  go_enter Try.func12, Try.ntmps12
  go_wp2_with (first | (at_builtin; refine wpList_append_smps rfl _ _ rfl w.heap.size (.slice none 0 0) [] xs _ rfl rfl ?c1 ?c2 ?c3 ?c4 ?_; rotate_left 4; intro v1 w1 HA) | (at_builtin; refine wpList_append_smps rfl _ _ rfl w.heap.size v1 ([] ++ xs) [seven, seven, seven] _ rfl rfl ?c5 ?c6 ?c7 ?c8 ?_; rotate_left 4; intro v2 w2 HB))
  case c1 => exact nil_row _ _
  case c2 => exact SmpIn.src (B := w.heap.size) H.out
  case c3 => simp; omega
  case c4 => exact Nat.le_refl _
  case c5 => exact Fp.ownsRow (Fp.alloc (fun _ => False) _ _) HA.out.row (fun _ _ h => h)
  case c6 => exact ⟨_, _, rfl, .inr ⟨w1.heap.size, 0, rfl, fun j u hj => by rw [Nat.zero_add, cell_lit, List.getElem?_toArray]; exact hj⟩⟩
  case c7 => simp; omega
  case c8 => have := HA.out.foot.size; first | omega | (simp; omega)
  go_ret
  refine ⟨v2, ret_val (by simp), ?_, ?_⟩
  · have h := HB.out.row
    rw [List.nil_append] at h
    exact h
  · exact ((HA.out.foot.mono (fun k _ h => (none_own h).elim)).trans' (Fp.alloc _ _ _)).trans HB.out.foot (fun _ h => h) (fun k hk h => (by have := (World.ownsRow.lt HA.out.row k h).1; omega : False))

end Go.Proofs.Ytojjkjfcbfoinaa

namespace Go.Proofs.Ytojjkjfcbfoinaa
open Go.RowKit Go.Shelf

theorem Try.infoSamples : (Try.prog.info? 22).map (fun i => (i.zero, i.size, i.bytes)) = some (some (.slice none 0 0), 1, 24) := by kernel_rfl
theorem Try.infoInt : (Try.prog.info? 3).map (fun i => (i.zero, i.size, i.bytes)) = some (some (.int .i64 0), 1, 8) := by kernel_rfl

/-- What one cell appended leaves. -/
structure Grew (W w' : World) (base : Nat) (el : TypeId) (v : Value) (n : Nat) (xs : List Value) (u : Value) (g cap : Nat) : Prop where
  row : w'.ownsRow base el 1 (.slice (some ⟨g, 0, none⟩) (n + 1) cap) (n + 1) (xs ++ [u])
  foot : Fp (fun k => v.ownBlock = some k) W w'

theorem run_append_one {W : World} (sl el ty : TypeId) (z : Value) (bytes : Nat) (hu : Try.prog.underlying sl = some (.slice el)) (hinfo : (Try.prog.info? el).map (fun i => (i.zero, i.size, i.bytes)) = some (some z, 1, bytes)) (hz : z.cells.size = 1) (hb : bytes ≤ 24)
    (base : Nat) (v : Value) (n : Nat) (xs : List Value) (hown : W.ownsRow base el 1 v n xs) (g0 : Nat) (u : Value) (hc : W.cell? ⟨g0, 0, none⟩ = some u) (hone : u.oneCell' = true) (hn : n ≤ 1000000) (hbase : base ≤ W.heap.size) :
    ∃ g cap w', (Builtin.append_ #[sl, sl] ty #[v, .slice (some ⟨g0, 0, none⟩) 1 1]).run Try.prog W = .ok (.slice (some ⟨g, 0, none⟩) (n + 1) cap) w' ∧ Grew W w' base el v n xs u g cap := by
  obtain ⟨i0, hi, hz0, hz1, hz2⟩ := info_parts hinfo
  obtain ⟨g, cap, w', hr, h1, h2, _, _⟩ := run_append_lies (P := Try.prog) W sl ty base el i0 _ 1 bytes hu hi hz0 hz1 hz2 hz (by decide) v n xs hown ⟨g0, 0, none⟩ 1 1 [u] rfl
    (fun j x hj => by
      match j, hj with
      | 0, hj => simp at hj; subst hj; simpa [Addr.add] using hc)
    (fun x hx => by simp at hx; subst hx; exact hone) (by decide) (by unfold maxLen; omega) (Nat.le_trans (Nat.mul_le_mul_left _ hb) (by omega)) hbase _ rfl
  exact ⟨g, cap, w', hr, h1, Fp.mono (Fp.of_grownBy h2) (fun _ _ e => e.symm)⟩

theorem wpList_append_one {ops : Array Oper} {rest : List Oper} {o : Oper} {a : Act} {Q : Exit → Act → World → Prop} {W : World} (hgd : o.guard = none) (s x : Operand) (sl el : TypeId) (z : Value) (bytes : Nat)
    (ho : o.op = .call { callee := .builtin .append, args := #[s, x], argTypes := #[sl, sl] })
    (hu : Try.prog.underlying sl = some (.slice el)) (hinfo : (Try.prog.info? el).map (fun i => (i.zero, i.size, i.bytes)) = some (some z, 1, bytes)) (hz : z.cells.size = 1) (hb : bytes ≤ 24)
    (base : Nat) (v : Value) (n : Nat) (xs : List Value) (hs : a.eval s = v) (g0 : Nat) (hx : a.eval x = .slice (some ⟨g0, 0, none⟩) 1 1) (u : Value) (hown : W.ownsRow base el 1 v n xs) (hc : W.cell? ⟨g0, 0, none⟩ = some u) (hone : u.oneCell' = true) (hn : n ≤ 1000000) (hbase : base ≤ W.heap.size)
    (h : ∀ g cap w', Hid (Grew W w' base el v n xs u g cap) → wpList Try.prog ops Q rest (a.put o.dst (.slice (some ⟨g, 0, none⟩) (n + 1) cap)) w') :
    wpList Try.prog ops Q (o :: rest) a W := by
  refine wpList_plain hgd fun K hK => ?_
  obtain ⟨g, cap, w', hr, h1⟩ := run_append_one (W := W) sl el o.type z bytes hu hinfo hz hb base v n xs hown g0 u hc hone hn hbase
  unfold Oper.wp execOp
  simp only [ho, resolve, invoke, builtin, Sem.run_bind, Sem.run_pure, Result.andThen_ok, List.map_toArray, List.map_cons, List.map_nil, hs, hx, hr]
  exact hK _ _ (h g cap w' h1)

/-- The book's block: its mark, and the two lists that samples are kept in. -/
structure BookAt (w : World) (B tb mk N : Nat) (r : Array Value) (v7 v8 : Value) : Prop where
  blk : w.heap[tb]? = some (.cells #[.int .i64 (mk : Nat), r.getD 0 undef, r.getD 1 undef, r.getD 2 undef, r.getD 3 undef, r.getD 4 undef, r.getD 5 undef, v7, v8, r.getD 6 undef, r.getD 7 undef] 32 (0, 0))
  row7 : ∃ n xs, n ≤ N ∧ w.ownsRow B 22 1 v7 n xs
  row8 : ∃ n xs, n ≤ N ∧ w.ownsRow B 3 1 v8 n xs
  low : B ≤ tb

theorem BookAt.cell {w : World} {B tb mk N : Nat} {r : Array Value} {v7 v8 : Value} (h : BookAt w B tb mk N r v7 v8) : w.cell? ⟨tb, 0, none⟩ = some (.int .i64 (mk : Nat)) ∧ w.cell? ⟨tb, 7, none⟩ = some v7 ∧ w.cell? ⟨tb, 8, none⟩ = some v8 ∧ (∀ i, w.frozen? ⟨tb, i, none⟩ = false) ∧ tb < w.heap.size :=
  ⟨by simp [World.cell?, h.blk], by simp [World.cell?, h.blk], by simp [World.cell?, h.blk], fun i => by simp [World.frozen?, h.blk], heap_lt h.blk⟩

theorem own_ne {w : World} {B : Nat} {el el' : TypeId} {size n tb : Nat} {v : Value} {xs : List Value} {c : Array Value} {f : Nat × Nat} (h : w.ownsRow B el size v n xs) (hb : w.heap[tb]? = some (.cells c el' f)) (hne : el ≠ el') : ∀ k, v.ownBlock = some k → k ≠ tb := by
  intro k hk e
  subst e
  rcases h.2 with ⟨rfl, _⟩ | ⟨g, cap, cur, rfl, _, hh, _⟩
  · simp [Value.ownBlock] at hk
  · simp only [Value.ownBlock, Option.some.injEq] at hk
    subst hk
    rw [hh] at hb
    simp only [Option.some.injEq, Obj.cells.injEq] at hb
    exact hne hb.2.1

theorem own_apart {w : World} {B B' : Nat} {el el' : TypeId} {size size' n n' : Nat} {v v' : Value} {xs xs' : List Value} (h : w.ownsRow B el size v n xs) (h' : w.ownsRow B' el' size' v' n' xs') (hne : el ≠ el') : ∀ k, v.ownBlock = some k → v'.ownBlock = some k → False := by
  intro k hk hk'
  rcases h'.2 with ⟨rfl, _⟩ | ⟨g, cap, cur, rfl, _, hh, _⟩
  · simp [Value.ownBlock] at hk'
  · simp only [Value.ownBlock, Option.some.injEq] at hk'
    subst hk'
    exact own_ne h hh hne _ hk rfl

/-- The book stays where none of its blocks is written. -/
theorem BookAt.fp {w w' : World} {B tb mk N : Nat} {r : Array Value} {v7 v8 : Value} {S : Nat → Prop} (h : BookAt w B tb mk N r v7 v8) (hf : Fp S w w') (ht : ¬ S tb) (h7 : ∀ k, v7.ownBlock = some k → ¬ S k) (h8 : ∀ k, v8.ownBlock = some k → ¬ S k) : BookAt w' B tb mk N r v7 v8 where
  blk := by rw [hf.block tb (heap_lt h.blk) ht]; exact h.blk
  row7 := by obtain ⟨n, xs, a, b⟩ := h.row7; exact ⟨n, xs, a, Fp.ownsRow hf b h7⟩
  row8 := by obtain ⟨n, xs, a, b⟩ := h.row8; exact ⟨n, xs, a, Fp.ownsRow hf b h8⟩
  low := h.low

/-- A row of samples, whatever is in it. -/
def RowS (w : World) (B : Nat) (v : Value) (n : Nat) : Prop := ∃ xs, w.ownsRow B 42 3 v n xs

end Go.Proofs.Ytojjkjfcbfoinaa

namespace Go.Proofs.Ytojjkjfcbfoinaa
open Go.RowKit Go.Shelf

theorem BookAt.mark {w : World} {B tb mk N : Nat} {r : Array Value} {v7 v8 : Value} (h : BookAt w B tb mk N r v7 v8) (mk' : Nat) : BookAt (w.setCell ⟨tb, 0, none⟩ (.int .i64 (mk' : Nat))) B tb mk' N r v7 v8 where
  blk := heap_set h.blk _
  row7 := by obtain ⟨n, xs, a, b⟩ := h.row7; exact ⟨n, xs, a, Fp.ownsRow (Fp.setCell (S := fun k => k = tb) w _ _ rfl) b (own_ne b h.blk (by decide))⟩
  row8 := by obtain ⟨n, xs, a, b⟩ := h.row8; exact ⟨n, xs, a, Fp.ownsRow (Fp.setCell (S := fun k => k = tb) w _ _ rfl) b (own_ne b h.blk (by decide))⟩
  low := h.low

/-- Book cells seen through a step that leaves the book's block. -/
theorem BookAt.seen {w w' : World} {B tb mk N : Nat} {r : Array Value} {v7 v8 : Value} {S : Nat → Prop} (h : BookAt w B tb mk N r v7 v8) (hf : Fp S w w') (ht : ¬ S tb) : w'.heap[tb]? = w.heap[tb]? ∧ w'.cell? ⟨tb, 0, none⟩ = some (.int .i64 (mk : Nat)) ∧ w'.cell? ⟨tb, 7, none⟩ = some v7 ∧ w'.cell? ⟨tb, 8, none⟩ = some v8 ∧ (∀ i, w'.frozen? ⟨tb, i, none⟩ = false) ∧ tb < w'.heap.size := by
  have hb := hf.block tb (heap_lt h.blk) ht
  refine ⟨hb, ?_, ?_, ?_, ?_, Nat.lt_of_lt_of_le (heap_lt h.blk) hf.size⟩
  · simp [World.cell?, hb, h.blk]
  · simp [World.cell?, hb, h.blk]
  · simp [World.cell?, hb, h.blk]
  · intro i; simp [World.frozen?, hb, h.blk]

theorem BookAt.put7 {w w' : World} {B tb mk N : Nat} {r : Array Value} {v7 v8 : Value} {S : Nat → Prop} (h : BookAt w B tb mk N r v7 v8) (hf : Fp S w w') (ht : ¬ S tb) (h8 : ∀ k, v8.ownBlock = some k → ¬ S k) (v : Value) (hv : ∃ n xs, n ≤ N + 1 ∧ w'.ownsRow B 22 1 v n xs) : BookAt (w'.setCell ⟨tb, 7, none⟩ v) B tb mk (N + 1) r v v8 := by
  have hb : w'.heap[tb]? = _ := ((h.seen hf ht).1).trans h.blk
  refine ⟨heap_set hb _, ?_, ?_, h.low⟩
  · obtain ⟨n, xs, a, b⟩ := hv
    exact ⟨n, xs, a, Fp.ownsRow (Fp.setCell (S := fun k => k = tb) w' _ _ rfl) b (own_ne b hb (by decide))⟩
  · obtain ⟨n, xs, a, b⟩ := h.row8
    have b' := Fp.ownsRow hf b h8
    exact ⟨n, xs, by omega, Fp.ownsRow (Fp.setCell (S := fun k => k = tb) w' _ _ rfl) b' (own_ne b' hb (by decide))⟩

theorem BookAt.put8 {w w' : World} {B tb mk N : Nat} {r : Array Value} {v7 v8 : Value} {S : Nat → Prop} (h : BookAt w B tb mk N r v7 v8) (hf : Fp S w w') (ht : ¬ S tb) (h7 : ∀ k, v7.ownBlock = some k → ¬ S k) (v : Value) (hv : ∃ n xs, n ≤ N ∧ w'.ownsRow B 3 1 v n xs) : BookAt (w'.setCell ⟨tb, 8, none⟩ v) B tb mk N r v7 v := by
  have hb : w'.heap[tb]? = _ := ((h.seen hf ht).1).trans h.blk
  refine ⟨heap_set hb _, ?_, ?_, h.low⟩
  · obtain ⟨n, xs, a, b⟩ := h.row7
    have b' := Fp.ownsRow hf b h7
    exact ⟨n, xs, a, Fp.ownsRow (Fp.setCell (S := fun k => k = tb) w' _ _ rfl) b' (own_ne b' hb (by decide))⟩
  · obtain ⟨n, xs, a, b⟩ := hv
    exact ⟨n, xs, a, Fp.ownsRow (Fp.setCell (S := fun k => k = tb) w' _ _ rfl) b (own_ne b hb (by decide))⟩

theorem RowS.fp {w w' : World} {B n : Nat} {v : Value} {S : Nat → Prop} (h : RowS w B v n) (hf : Fp S w w') (hS : ∀ k, v.ownBlock = some k → ¬ S k) : RowS w' B v n := by
  obtain ⟨xs, h⟩ := h
  exact ⟨xs, Fp.ownsRow hf h hS⟩

theorem RowS.shape {w : World} {B n c : Nat} {a : Option Addr} (h : RowS w B (.slice a n c) n) (hn : 0 < n) : ∃ g, a = some ⟨g, 0, none⟩ ∧ B ≤ g ∧ g < w.heap.size ∧ (∀ j, w.frozen? ⟨g, j, none⟩ = false) ∧ (∀ j, j < n * 3 → ∃ u, w.cell? ⟨g, j, none⟩ = some u) := by
  obtain ⟨xs, h⟩ := h
  obtain ⟨g, cap, e, h2, h3⟩ := h.form hn
  simp only [Value.slice.injEq] at e
  obtain ⟨rfl, _, rfl⟩ := e
  refine ⟨g, rfl, h2, h3, h.frozenAt, fun j hj => ?_⟩
  have := h.cellAt j hj
  have hl : j < xs.length := by rw [h.1]; exact hj
  exact ⟨xs[j], by rw [this]; simp [hl]⟩

theorem RowS.put {w : World} {B n c g : Nat} (h : RowS w B (.slice (some ⟨g, 0, none⟩) n c) n) (j : Nat) (u : Value) : RowS (w.setCell ⟨g, j, none⟩ u) B (.slice (some ⟨g, 0, none⟩) n c) n := by
  obtain ⟨xs, h⟩ := h
  exact ⟨_, (h.stored j u).1⟩

/-- A sample appended to a row of samples, whatever is in it. -/
theorem wpList_append_rowS {ops : Array Oper} {rest : List Oper} {o : Oper} {a : Act} {Q : Exit → Act → World → Prop} {W : World} (hgd : o.guard = none) (s x : Operand)
    (ho : o.op = .call { callee := .builtin .append, args := #[s, x], argTypes := #[22, 22] })
    (base : Nat) (v : Value) (n : Nat) (hs : a.eval s = v) (g0 : Nat) (hx : a.eval x = .slice (some ⟨g0, 0, none⟩) 1 1) (hrow : RowS W base v n)
    (hc : ∃ u0 u1 u2, W.cell? ⟨g0, 0, none⟩ = some u0 ∧ W.cell? ⟨g0, 1, none⟩ = some u1 ∧ W.cell? ⟨g0, 2, none⟩ = some u2 ∧ u0.oneCell' = true ∧ u1.oneCell' = true ∧ u2.oneCell' = true) (hn : n ≤ 1099511627776) (hbase : base ≤ W.heap.size)
    (h : ∀ g cap w', Hid (RowS w' base (.slice (some ⟨g, 0, none⟩) (n + 1) cap) (n + 1) ∧ Fp (fun k => v.ownBlock = some k) W w') → wpList Try.prog ops Q rest (a.put o.dst (.slice (some ⟨g, 0, none⟩) (n + 1) cap)) w') :
    wpList Try.prog ops Q (o :: rest) a W := by
  refine wpList_plain hgd fun K hK => ?_
  obtain ⟨xs, hown⟩ := hrow
  obtain ⟨u0, u1, u2, c0, c1, c2, o0, o1, o2⟩ := hc
  obtain ⟨i0, hi, hz0, hz1, hz2⟩ := info_parts Try.infoSample
  obtain ⟨g, cap, w', hr, h1, h2, _, _⟩ := run_append_lies (P := Try.prog) W 22 o.type base 42 i0 _ 3 24 Try.underlying22 hi hz0 hz1 hz2 rfl (by decide) v n xs hown ⟨g0, 0, none⟩ 1 1 [u0, u1, u2] rfl
    (fun j u hj => by
      match j, hj with
      | 0, hj => simp at hj; subst hj; simpa [Addr.add] using c0
      | 1, hj => simp at hj; subst hj; simpa [Addr.add] using c1
      | 2, hj => simp at hj; subst hj; simpa [Addr.add] using c2)
    (fun u hu => by simp at hu; rcases hu with rfl | rfl | rfl <;> assumption) (by decide) (by unfold maxLen; omega) (by omega) hbase _ rfl
  unfold Oper.wp execOp
  simp only [ho, resolve, invoke, builtin, Sem.run_bind, Sem.run_pure, Result.andThen_ok, List.map_toArray, List.map_cons, List.map_nil, hs, hx, hr]
  exact hK _ _ (h g cap w' ⟨⟨_, h1⟩, Fp.mono (Fp.of_grownBy h2) (fun _ _ e => e.symm)⟩)

/-- An append whose run is known. -/
theorem op_append_run {o : Oper} {a : Act} {W w' : World} {K : Act → World → Prop} {Q : Exit → Act → World → Prop} {s x : Operand} {t : TypeId} {v src R : Value} (ho : o.op = .call { callee := .builtin .append, args := #[s, x], argTypes := #[t, t] })
    (hs : a.eval s = v) (hx : a.eval x = src) (hr : (Builtin.append_ #[t, t] o.type #[v, src]).run Try.prog W = .ok R w') (h : K (a.put o.dst R) w') : Oper.wp Try.prog o a W K Q := by
  unfold Oper.wp execOp
  simp only [ho, resolve, invoke, builtin, Sem.run_bind, Sem.run_pure, Result.andThen_ok, List.map_toArray, List.map_cons, List.map_nil, hs, hx, hr]
  exact h

theorem wanted_op {o : Oper} {y : Nat → Option Bool} {p q : Prop} (hg : o.guard = none) (h : p) : if Region.wanted o y = true then p else q := by
  rw [if_pos (by simp [Region.wanted, hg])]
  exact h

/-- In the midst of the mark that is kept. -/
structure KMark (W w8 : World) (tb M g8 m8 cap8 : Nat) (x8 : Value) (listed : Array Bool) (u43 u44 u45 u46 u47 u48 u49 u50 u51 u52 u53 u54 u55 u56 : Value) (w' : World) : Prop where
  e0 : done listed 0 = true → u43 = .pointer (some ⟨tb, 0, none⟩)
  e1 : done listed 1 = true → u44 = .pointer (some ⟨tb, 0, none⟩)
  e2 : done listed 2 = true → u45 = .pointer (some ⟨tb, 0, none⟩)
  e3 : done listed 3 = true → u46 = .pointer (some ⟨tb, 8, none⟩)
  e4 : done listed 4 = true → u47 = x8
  e5 : done listed 5 = true → u48 = .pointer (some ⟨tb, 0, none⟩)
  e6 : done listed 6 = true → u49 = .pointer (some ⟨tb, 0, none⟩)
  e7 : done listed 7 = true → u50 = .pointer (some ⟨tb, 0, none⟩)
  e8 : done listed 8 = true → u51 = .int .i64 ((M : Nat) : Int)
  e9 : done listed 9 = true → u52 = .int .i64 (-((M : Nat) : Int))
  e10 : done listed 10 = true → u53 = .slice (some ⟨W.heap.size, 0, none⟩) 1 1
  e11 : done listed 11 = true → u54 = .slice (some ⟨g8, 0, none⟩) (m8 + 1) cap8
  e12 : done listed 12 = true → u55 = .pointer (some ⟨tb, 0, none⟩)
  e13 : done listed 13 = true → u56 = .pointer (some ⟨tb, 8, none⟩)
  x0 : done listed 10 = false → w' = W.drew
  x1 : done listed 10 = true → done listed 11 = false → w' = W.drew.alloc (.cells #[.int .i64 (-((M : Nat) : Int))] 3)
  x2 : done listed 11 = true → done listed 14 = false → w' = w8
  x3 : done listed 14 = true → w' = w8.setCell ⟨tb, 8, none⟩ (.slice (some ⟨g8, 0, none⟩) (m8 + 1) cap8)

section
variable {W w8 : World} {tb M g8 m8 cap8 : Nat} {x8 : Value} {listed : Array Bool} {u43 u44 u45 u46 u47 u48 u49 u50 u51 u52 u53 u54 u55 u56 : Value} {w' : World}

theorem KMark.start {nn : Nat} (h : w' = W.drew) : KMark W w8 tb M g8 m8 cap8 x8 (Array.replicate nn false) u43 u44 u45 u46 u47 u48 u49 u50 u51 u52 u53 u54 u55 u56 w' := by
  constructor <;> first | exact h | (intro d; first | exact h | (rw [done_rep] at d; cases d))

theorem KMark.s0 (h : KMark W w8 tb M g8 m8 cap8 x8 listed u43 u44 u45 u46 u47 u48 u49 u50 u51 u52 u53 u54 u55 u56 w') : KMark W w8 tb M g8 m8 cap8 x8 (listed.setIfInBounds 0 true) (.pointer (some ⟨tb, 0, none⟩)) u44 u45 u46 u47 u48 u49 u50 u51 u52 u53 u54 u55 u56 w' :=
  ⟨fun _ => rfl, fun d => h.e1 (done_of_set d (by decide)), fun d => h.e2 (done_of_set d (by decide)), fun d => h.e3 (done_of_set d (by decide)), fun d => h.e4 (done_of_set d (by decide)), fun d => h.e5 (done_of_set d (by decide)), fun d => h.e6 (done_of_set d (by decide)), fun d => h.e7 (done_of_set d (by decide)), fun d => h.e8 (done_of_set d (by decide)), fun d => h.e9 (done_of_set d (by decide)), fun d => h.e10 (done_of_set d (by decide)), fun d => h.e11 (done_of_set d (by decide)), fun d => h.e12 (done_of_set d (by decide)), fun d => h.e13 (done_of_set d (by decide)), fun d => h.x0 (undone_of_set d), fun d d' => h.x1 (done_of_set d (by decide)) (undone_of_set d'), fun d d' => h.x2 (done_of_set d (by decide)) (undone_of_set d'), fun d => h.x3 (done_of_set d (by decide))⟩

theorem KMark.s1 (h : KMark W w8 tb M g8 m8 cap8 x8 listed u43 u44 u45 u46 u47 u48 u49 u50 u51 u52 u53 u54 u55 u56 w') : KMark W w8 tb M g8 m8 cap8 x8 (listed.setIfInBounds 1 true) u43 (.pointer (some ⟨tb, 0, none⟩)) u45 u46 u47 u48 u49 u50 u51 u52 u53 u54 u55 u56 w' :=
  ⟨fun d => h.e0 (done_of_set d (by decide)), fun _ => rfl, fun d => h.e2 (done_of_set d (by decide)), fun d => h.e3 (done_of_set d (by decide)), fun d => h.e4 (done_of_set d (by decide)), fun d => h.e5 (done_of_set d (by decide)), fun d => h.e6 (done_of_set d (by decide)), fun d => h.e7 (done_of_set d (by decide)), fun d => h.e8 (done_of_set d (by decide)), fun d => h.e9 (done_of_set d (by decide)), fun d => h.e10 (done_of_set d (by decide)), fun d => h.e11 (done_of_set d (by decide)), fun d => h.e12 (done_of_set d (by decide)), fun d => h.e13 (done_of_set d (by decide)), fun d => h.x0 (undone_of_set d), fun d d' => h.x1 (done_of_set d (by decide)) (undone_of_set d'), fun d d' => h.x2 (done_of_set d (by decide)) (undone_of_set d'), fun d => h.x3 (done_of_set d (by decide))⟩

theorem KMark.s2 (h : KMark W w8 tb M g8 m8 cap8 x8 listed u43 u44 u45 u46 u47 u48 u49 u50 u51 u52 u53 u54 u55 u56 w') : KMark W w8 tb M g8 m8 cap8 x8 (listed.setIfInBounds 2 true) u43 u44 (.pointer (some ⟨tb, 0, none⟩)) u46 u47 u48 u49 u50 u51 u52 u53 u54 u55 u56 w' :=
  ⟨fun d => h.e0 (done_of_set d (by decide)), fun d => h.e1 (done_of_set d (by decide)), fun _ => rfl, fun d => h.e3 (done_of_set d (by decide)), fun d => h.e4 (done_of_set d (by decide)), fun d => h.e5 (done_of_set d (by decide)), fun d => h.e6 (done_of_set d (by decide)), fun d => h.e7 (done_of_set d (by decide)), fun d => h.e8 (done_of_set d (by decide)), fun d => h.e9 (done_of_set d (by decide)), fun d => h.e10 (done_of_set d (by decide)), fun d => h.e11 (done_of_set d (by decide)), fun d => h.e12 (done_of_set d (by decide)), fun d => h.e13 (done_of_set d (by decide)), fun d => h.x0 (undone_of_set d), fun d d' => h.x1 (done_of_set d (by decide)) (undone_of_set d'), fun d d' => h.x2 (done_of_set d (by decide)) (undone_of_set d'), fun d => h.x3 (done_of_set d (by decide))⟩

theorem KMark.s3 (h : KMark W w8 tb M g8 m8 cap8 x8 listed u43 u44 u45 u46 u47 u48 u49 u50 u51 u52 u53 u54 u55 u56 w') : KMark W w8 tb M g8 m8 cap8 x8 (listed.setIfInBounds 3 true) u43 u44 u45 (.pointer (some ⟨tb, 8, none⟩)) u47 u48 u49 u50 u51 u52 u53 u54 u55 u56 w' :=
  ⟨fun d => h.e0 (done_of_set d (by decide)), fun d => h.e1 (done_of_set d (by decide)), fun d => h.e2 (done_of_set d (by decide)), fun _ => rfl, fun d => h.e4 (done_of_set d (by decide)), fun d => h.e5 (done_of_set d (by decide)), fun d => h.e6 (done_of_set d (by decide)), fun d => h.e7 (done_of_set d (by decide)), fun d => h.e8 (done_of_set d (by decide)), fun d => h.e9 (done_of_set d (by decide)), fun d => h.e10 (done_of_set d (by decide)), fun d => h.e11 (done_of_set d (by decide)), fun d => h.e12 (done_of_set d (by decide)), fun d => h.e13 (done_of_set d (by decide)), fun d => h.x0 (undone_of_set d), fun d d' => h.x1 (done_of_set d (by decide)) (undone_of_set d'), fun d d' => h.x2 (done_of_set d (by decide)) (undone_of_set d'), fun d => h.x3 (done_of_set d (by decide))⟩

theorem KMark.s4 (h : KMark W w8 tb M g8 m8 cap8 x8 listed u43 u44 u45 u46 u47 u48 u49 u50 u51 u52 u53 u54 u55 u56 w') : KMark W w8 tb M g8 m8 cap8 x8 (listed.setIfInBounds 4 true) u43 u44 u45 u46 (x8) u48 u49 u50 u51 u52 u53 u54 u55 u56 w' :=
  ⟨fun d => h.e0 (done_of_set d (by decide)), fun d => h.e1 (done_of_set d (by decide)), fun d => h.e2 (done_of_set d (by decide)), fun d => h.e3 (done_of_set d (by decide)), fun _ => rfl, fun d => h.e5 (done_of_set d (by decide)), fun d => h.e6 (done_of_set d (by decide)), fun d => h.e7 (done_of_set d (by decide)), fun d => h.e8 (done_of_set d (by decide)), fun d => h.e9 (done_of_set d (by decide)), fun d => h.e10 (done_of_set d (by decide)), fun d => h.e11 (done_of_set d (by decide)), fun d => h.e12 (done_of_set d (by decide)), fun d => h.e13 (done_of_set d (by decide)), fun d => h.x0 (undone_of_set d), fun d d' => h.x1 (done_of_set d (by decide)) (undone_of_set d'), fun d d' => h.x2 (done_of_set d (by decide)) (undone_of_set d'), fun d => h.x3 (done_of_set d (by decide))⟩

theorem KMark.s5 (h : KMark W w8 tb M g8 m8 cap8 x8 listed u43 u44 u45 u46 u47 u48 u49 u50 u51 u52 u53 u54 u55 u56 w') : KMark W w8 tb M g8 m8 cap8 x8 (listed.setIfInBounds 5 true) u43 u44 u45 u46 u47 (.pointer (some ⟨tb, 0, none⟩)) u49 u50 u51 u52 u53 u54 u55 u56 w' :=
  ⟨fun d => h.e0 (done_of_set d (by decide)), fun d => h.e1 (done_of_set d (by decide)), fun d => h.e2 (done_of_set d (by decide)), fun d => h.e3 (done_of_set d (by decide)), fun d => h.e4 (done_of_set d (by decide)), fun _ => rfl, fun d => h.e6 (done_of_set d (by decide)), fun d => h.e7 (done_of_set d (by decide)), fun d => h.e8 (done_of_set d (by decide)), fun d => h.e9 (done_of_set d (by decide)), fun d => h.e10 (done_of_set d (by decide)), fun d => h.e11 (done_of_set d (by decide)), fun d => h.e12 (done_of_set d (by decide)), fun d => h.e13 (done_of_set d (by decide)), fun d => h.x0 (undone_of_set d), fun d d' => h.x1 (done_of_set d (by decide)) (undone_of_set d'), fun d d' => h.x2 (done_of_set d (by decide)) (undone_of_set d'), fun d => h.x3 (done_of_set d (by decide))⟩

theorem KMark.s6 (h : KMark W w8 tb M g8 m8 cap8 x8 listed u43 u44 u45 u46 u47 u48 u49 u50 u51 u52 u53 u54 u55 u56 w') : KMark W w8 tb M g8 m8 cap8 x8 (listed.setIfInBounds 6 true) u43 u44 u45 u46 u47 u48 (.pointer (some ⟨tb, 0, none⟩)) u50 u51 u52 u53 u54 u55 u56 w' :=
  ⟨fun d => h.e0 (done_of_set d (by decide)), fun d => h.e1 (done_of_set d (by decide)), fun d => h.e2 (done_of_set d (by decide)), fun d => h.e3 (done_of_set d (by decide)), fun d => h.e4 (done_of_set d (by decide)), fun d => h.e5 (done_of_set d (by decide)), fun _ => rfl, fun d => h.e7 (done_of_set d (by decide)), fun d => h.e8 (done_of_set d (by decide)), fun d => h.e9 (done_of_set d (by decide)), fun d => h.e10 (done_of_set d (by decide)), fun d => h.e11 (done_of_set d (by decide)), fun d => h.e12 (done_of_set d (by decide)), fun d => h.e13 (done_of_set d (by decide)), fun d => h.x0 (undone_of_set d), fun d d' => h.x1 (done_of_set d (by decide)) (undone_of_set d'), fun d d' => h.x2 (done_of_set d (by decide)) (undone_of_set d'), fun d => h.x3 (done_of_set d (by decide))⟩

theorem KMark.s7 (h : KMark W w8 tb M g8 m8 cap8 x8 listed u43 u44 u45 u46 u47 u48 u49 u50 u51 u52 u53 u54 u55 u56 w') : KMark W w8 tb M g8 m8 cap8 x8 (listed.setIfInBounds 7 true) u43 u44 u45 u46 u47 u48 u49 (.pointer (some ⟨tb, 0, none⟩)) u51 u52 u53 u54 u55 u56 w' :=
  ⟨fun d => h.e0 (done_of_set d (by decide)), fun d => h.e1 (done_of_set d (by decide)), fun d => h.e2 (done_of_set d (by decide)), fun d => h.e3 (done_of_set d (by decide)), fun d => h.e4 (done_of_set d (by decide)), fun d => h.e5 (done_of_set d (by decide)), fun d => h.e6 (done_of_set d (by decide)), fun _ => rfl, fun d => h.e8 (done_of_set d (by decide)), fun d => h.e9 (done_of_set d (by decide)), fun d => h.e10 (done_of_set d (by decide)), fun d => h.e11 (done_of_set d (by decide)), fun d => h.e12 (done_of_set d (by decide)), fun d => h.e13 (done_of_set d (by decide)), fun d => h.x0 (undone_of_set d), fun d d' => h.x1 (done_of_set d (by decide)) (undone_of_set d'), fun d d' => h.x2 (done_of_set d (by decide)) (undone_of_set d'), fun d => h.x3 (done_of_set d (by decide))⟩

theorem KMark.s8 (h : KMark W w8 tb M g8 m8 cap8 x8 listed u43 u44 u45 u46 u47 u48 u49 u50 u51 u52 u53 u54 u55 u56 w') : KMark W w8 tb M g8 m8 cap8 x8 (listed.setIfInBounds 8 true) u43 u44 u45 u46 u47 u48 u49 u50 (.int .i64 ((M : Nat) : Int)) u52 u53 u54 u55 u56 w' :=
  ⟨fun d => h.e0 (done_of_set d (by decide)), fun d => h.e1 (done_of_set d (by decide)), fun d => h.e2 (done_of_set d (by decide)), fun d => h.e3 (done_of_set d (by decide)), fun d => h.e4 (done_of_set d (by decide)), fun d => h.e5 (done_of_set d (by decide)), fun d => h.e6 (done_of_set d (by decide)), fun d => h.e7 (done_of_set d (by decide)), fun _ => rfl, fun d => h.e9 (done_of_set d (by decide)), fun d => h.e10 (done_of_set d (by decide)), fun d => h.e11 (done_of_set d (by decide)), fun d => h.e12 (done_of_set d (by decide)), fun d => h.e13 (done_of_set d (by decide)), fun d => h.x0 (undone_of_set d), fun d d' => h.x1 (done_of_set d (by decide)) (undone_of_set d'), fun d d' => h.x2 (done_of_set d (by decide)) (undone_of_set d'), fun d => h.x3 (done_of_set d (by decide))⟩

theorem KMark.s9 (h : KMark W w8 tb M g8 m8 cap8 x8 listed u43 u44 u45 u46 u47 u48 u49 u50 u51 u52 u53 u54 u55 u56 w') : KMark W w8 tb M g8 m8 cap8 x8 (listed.setIfInBounds 9 true) u43 u44 u45 u46 u47 u48 u49 u50 u51 (.int .i64 (-((M : Nat) : Int))) u53 u54 u55 u56 w' :=
  ⟨fun d => h.e0 (done_of_set d (by decide)), fun d => h.e1 (done_of_set d (by decide)), fun d => h.e2 (done_of_set d (by decide)), fun d => h.e3 (done_of_set d (by decide)), fun d => h.e4 (done_of_set d (by decide)), fun d => h.e5 (done_of_set d (by decide)), fun d => h.e6 (done_of_set d (by decide)), fun d => h.e7 (done_of_set d (by decide)), fun d => h.e8 (done_of_set d (by decide)), fun _ => rfl, fun d => h.e10 (done_of_set d (by decide)), fun d => h.e11 (done_of_set d (by decide)), fun d => h.e12 (done_of_set d (by decide)), fun d => h.e13 (done_of_set d (by decide)), fun d => h.x0 (undone_of_set d), fun d d' => h.x1 (done_of_set d (by decide)) (undone_of_set d'), fun d d' => h.x2 (done_of_set d (by decide)) (undone_of_set d'), fun d => h.x3 (done_of_set d (by decide))⟩

theorem KMark.s10 {w2 : World} (h : KMark W w8 tb M g8 m8 cap8 x8 listed u43 u44 u45 u46 u47 u48 u49 u50 u51 u52 u53 u54 u55 u56 w') (hi : 10 < listed.size) (hn1 : done listed 11 = false) (hn2 : done listed 14 = false) (hS : w2 = W.drew.alloc (.cells #[.int .i64 (-((M : Nat) : Int))] 3)) : KMark W w8 tb M g8 m8 cap8 x8 (listed.setIfInBounds 10 true) u43 u44 u45 u46 u47 u48 u49 u50 u51 u52 (.slice (some ⟨W.heap.size, 0, none⟩) 1 1) u54 u55 u56 w2 :=
  ⟨fun d => h.e0 (done_of_set d (by decide)), fun d => h.e1 (done_of_set d (by decide)), fun d => h.e2 (done_of_set d (by decide)), fun d => h.e3 (done_of_set d (by decide)), fun d => h.e4 (done_of_set d (by decide)), fun d => h.e5 (done_of_set d (by decide)), fun d => h.e6 (done_of_set d (by decide)), fun d => h.e7 (done_of_set d (by decide)), fun d => h.e8 (done_of_set d (by decide)), fun d => h.e9 (done_of_set d (by decide)), fun _ => rfl, fun d => h.e11 (done_of_set d (by decide)), fun d => h.e12 (done_of_set d (by decide)), fun d => h.e13 (done_of_set d (by decide)), fun D => absurd D (by rw [done_set_same hi]; decide), fun _ _ => hS, fun D _ => absurd (done_of_set D (by decide)) (by rw [hn1]; decide), fun D => absurd (done_of_set D (by decide)) (by rw [hn2]; decide)⟩

theorem KMark.s11 {w2 : World} (h : KMark W w8 tb M g8 m8 cap8 x8 listed u43 u44 u45 u46 u47 u48 u49 u50 u51 u52 u53 u54 u55 u56 w') (hi : 11 < listed.size) (hp0 : done listed 10 = true) (hn2 : done listed 14 = false) (hS : w2 = w8) : KMark W w8 tb M g8 m8 cap8 x8 (listed.setIfInBounds 11 true) u43 u44 u45 u46 u47 u48 u49 u50 u51 u52 u53 (.slice (some ⟨g8, 0, none⟩) (m8 + 1) cap8) u55 u56 w2 :=
  ⟨fun d => h.e0 (done_of_set d (by decide)), fun d => h.e1 (done_of_set d (by decide)), fun d => h.e2 (done_of_set d (by decide)), fun d => h.e3 (done_of_set d (by decide)), fun d => h.e4 (done_of_set d (by decide)), fun d => h.e5 (done_of_set d (by decide)), fun d => h.e6 (done_of_set d (by decide)), fun d => h.e7 (done_of_set d (by decide)), fun d => h.e8 (done_of_set d (by decide)), fun d => h.e9 (done_of_set d (by decide)), fun d => h.e10 (done_of_set d (by decide)), fun _ => rfl, fun d => h.e12 (done_of_set d (by decide)), fun d => h.e13 (done_of_set d (by decide)), fun D => absurd (undone_of_set D) (by rw [hp0]; decide), fun _ D => absurd D (by rw [done_set_same hi]; decide), fun _ _ => hS, fun D => absurd (done_of_set D (by decide)) (by rw [hn2]; decide)⟩

theorem KMark.s12 (h : KMark W w8 tb M g8 m8 cap8 x8 listed u43 u44 u45 u46 u47 u48 u49 u50 u51 u52 u53 u54 u55 u56 w') : KMark W w8 tb M g8 m8 cap8 x8 (listed.setIfInBounds 12 true) u43 u44 u45 u46 u47 u48 u49 u50 u51 u52 u53 u54 (.pointer (some ⟨tb, 0, none⟩)) u56 w' :=
  ⟨fun d => h.e0 (done_of_set d (by decide)), fun d => h.e1 (done_of_set d (by decide)), fun d => h.e2 (done_of_set d (by decide)), fun d => h.e3 (done_of_set d (by decide)), fun d => h.e4 (done_of_set d (by decide)), fun d => h.e5 (done_of_set d (by decide)), fun d => h.e6 (done_of_set d (by decide)), fun d => h.e7 (done_of_set d (by decide)), fun d => h.e8 (done_of_set d (by decide)), fun d => h.e9 (done_of_set d (by decide)), fun d => h.e10 (done_of_set d (by decide)), fun d => h.e11 (done_of_set d (by decide)), fun _ => rfl, fun d => h.e13 (done_of_set d (by decide)), fun d => h.x0 (undone_of_set d), fun d d' => h.x1 (done_of_set d (by decide)) (undone_of_set d'), fun d d' => h.x2 (done_of_set d (by decide)) (undone_of_set d'), fun d => h.x3 (done_of_set d (by decide))⟩

theorem KMark.s13 (h : KMark W w8 tb M g8 m8 cap8 x8 listed u43 u44 u45 u46 u47 u48 u49 u50 u51 u52 u53 u54 u55 u56 w') : KMark W w8 tb M g8 m8 cap8 x8 (listed.setIfInBounds 13 true) u43 u44 u45 u46 u47 u48 u49 u50 u51 u52 u53 u54 u55 (.pointer (some ⟨tb, 8, none⟩)) w' :=
  ⟨fun d => h.e0 (done_of_set d (by decide)), fun d => h.e1 (done_of_set d (by decide)), fun d => h.e2 (done_of_set d (by decide)), fun d => h.e3 (done_of_set d (by decide)), fun d => h.e4 (done_of_set d (by decide)), fun d => h.e5 (done_of_set d (by decide)), fun d => h.e6 (done_of_set d (by decide)), fun d => h.e7 (done_of_set d (by decide)), fun d => h.e8 (done_of_set d (by decide)), fun d => h.e9 (done_of_set d (by decide)), fun d => h.e10 (done_of_set d (by decide)), fun d => h.e11 (done_of_set d (by decide)), fun d => h.e12 (done_of_set d (by decide)), fun _ => rfl, fun d => h.x0 (undone_of_set d), fun d d' => h.x1 (done_of_set d (by decide)) (undone_of_set d'), fun d d' => h.x2 (done_of_set d (by decide)) (undone_of_set d'), fun d => h.x3 (done_of_set d (by decide))⟩

theorem KMark.s14 {w2 : World} (h : KMark W w8 tb M g8 m8 cap8 x8 listed u43 u44 u45 u46 u47 u48 u49 u50 u51 u52 u53 u54 u55 u56 w') (hi : 14 < listed.size) (hp0 : done listed 10 = true) (hp1 : done listed 11 = true) (hS : w2 = w8.setCell ⟨tb, 8, none⟩ (.slice (some ⟨g8, 0, none⟩) (m8 + 1) cap8)) : KMark W w8 tb M g8 m8 cap8 x8 (listed.setIfInBounds 14 true) u43 u44 u45 u46 u47 u48 u49 u50 u51 u52 u53 u54 u55 u56 w2 :=
  ⟨fun d => h.e0 (done_of_set d (by decide)), fun d => h.e1 (done_of_set d (by decide)), fun d => h.e2 (done_of_set d (by decide)), fun d => h.e3 (done_of_set d (by decide)), fun d => h.e4 (done_of_set d (by decide)), fun d => h.e5 (done_of_set d (by decide)), fun d => h.e6 (done_of_set d (by decide)), fun d => h.e7 (done_of_set d (by decide)), fun d => h.e8 (done_of_set d (by decide)), fun d => h.e9 (done_of_set d (by decide)), fun d => h.e10 (done_of_set d (by decide)), fun d => h.e11 (done_of_set d (by decide)), fun d => h.e12 (done_of_set d (by decide)), fun d => h.e13 (done_of_set d (by decide)), fun D => absurd (undone_of_set D) (by rw [hp0]; decide), fun _ D => absurd (undone_of_set D) (by rw [hp1]; decide), fun _ D => absurd D (by rw [done_set_same hi]; decide), fun _ => hS⟩

end

set_option maxHeartbeats 4000000 in
set_option maxRecDepth 100000 in
theorem keepSamples_any (B tb mk N : Nat) (r : Array Value) (v7 v8 v : Value) (n : Nat) (w : World) (hb : BookAt w B tb mk N r v7 v8) (hr : RowS w B v n) (hn : n ≤ 16777300) (hmk : mk ≤ 1000) (hN : N ≤ 1000) (hB : B ≤ w.heap.size) :
    Calls Try.prog 18 #[.pointer (some ⟨tb, 0, none⟩), v] w fun e w' => e = .returned (.tuple #[]) ∧ (∃ v7' v8', BookAt w' B tb (mk + 1) (N + 4) r v7' v8') ∧ Fp (fun k => B ≤ k) w w' := by
  obtain ⟨a, c, rfl⟩ : ∃ a c, v = .slice a n c := by obtain ⟨xs, h⟩ := hr; exact ownsRow_form h
  obtain ⟨M, hM⟩ : ∃ M, mk + 1 = M := ⟨_, rfl⟩
  rw [hM]
  have hM9 : M ≤ 1001 := by omega
  have hMi : (mk : Int) + 1 = (M : Int) := by omega
  have H : Hid _ := And.intro hb hr
  obtain ⟨b0, _, _, bf, bl⟩ := hb.cell
  clear hb hr
  go_enter Try.func18, Try.ntmps18
  go_wp2_with fail
  go_loopw [4] (fun iv wr => ∃ k : Nat, k ≤ n ∧ iv = .int .i64 k ∧ Hid (BookAt wr B tb M N r v7 v8 ∧ RowS wr B (.slice a n c) n ∧ Fp (fun k => B ≤ k) w wr)) (fun iv _ => n - (intOf iv).toNat)
  case atStart =>
    refine ⟨0, by omega, rfl, H.out.1.mark M, ?_, Fp.setCell _ _ _ H.out.1.low⟩
    obtain ⟨xs, h⟩ := H.out.2
    exact ⟨xs, Fp.ownsRow (Fp.setCell (S := fun k => k = tb) w _ _ rfl) h (own_ne h H.out.1.blk (by decide))⟩
  case round =>
    obtain ⟨k, hk, rfl, HR⟩ := hrel
    by_cases hlt : k < n
    · obtain ⟨g, ha, hg1, hg2, gf, gc⟩ := RowS.shape HR.out.2.1 (by omega)
      subst ha
      obtain ⟨q0, _, _, qf, ql⟩ := HR.out.1.cell
      obtain ⟨u0, e0⟩ := gc (k * 3) (by omega)
      obtain ⟨u1, e1⟩ := gc (k * 3 + 1) (by omega)
      obtain ⟨u2, e2⟩ := gc (k * 3 + 2) (by omega)
      clear gc b0
      have kN : (k : Int) < (n : Int) := by omega
      go_wp2
      go_roundw
      case rel =>
        have f3 := ((Fp.setCell (S := fun j => j = g) wr ⟨g, k * 3, none⟩ (.int .i64 (-(M : Int))) rfl).trans' (Fp.setCell (S := fun j => j = g) _ ⟨g, k * 3 + 1, none⟩ (.int .i64 0) rfl)).trans' (Fp.setCell (S := fun j => j = g) _ ⟨g, k * 3 + 2, none⟩ (.int .u64 0) rfl)
        obtain ⟨xs, hx⟩ := HR.out.2.1
        obtain ⟨_, _, _, h7⟩ := HR.out.1.row7
        obtain ⟨_, _, _, h8⟩ := HR.out.1.row8
        refine ⟨k + 1, by omega, by go_num, HR.out.1.fp f3 (fun e => own_ne hx HR.out.1.blk (by decide) g rfl e.symm) (fun j hj e => own_apart h7 hx (by decide) j hj (by rw [e]; rfl)) (fun j hj e => own_apart h8 hx (by decide) j hj (by rw [e]; rfl)), ((HR.out.2.1.put _ _).put _ _).put _ _, HR.out.2.2.trans' (f3.mono (fun j _ e => by rw [e]; exact hg1))⟩
      case measure => simp [intOf]; omega
    · have cN : ¬ (k : Int) < (n : Int) := by omega
      obtain ⟨wz, hwz⟩ : ∃ wz, wz = wr := ⟨_, rfl⟩
      subst hwz
      clear b0
      go_wp2_with fail
      go_loopw [1, 5] (fun lv iv wr => ∃ i : Nat, i ≤ 4 ∧ iv = .int .i64 i ∧ (∃ aL cL, lv = .slice aL (n + i) cL) ∧ Hid ((∃ v7' v8', BookAt wr B tb M (N + i) r v7' v8') ∧ RowS wr B lv (n + i) ∧ Fp (fun k => B ≤ k) w wr)) (fun _ iv _ => 4 - (intOf iv).toNat)
      case atStart => exact ⟨0, by omega, rfl, ⟨a, c, rfl⟩, ⟨v7, v8, HR.out.1⟩, HR.out.2.1, HR.out.2.2⟩
      case round =>
        obtain ⟨i, hi, rfl, ⟨aL, cL, rfl⟩, HQ⟩ := hrel
        by_cases hlt4 : i < 4
        · obtain ⟨x7, x8, hbk⟩ := HQ.out.1
          obtain ⟨q0, q7, q8, qf, ql⟩ := hbk.cell
          obtain ⟨n7, xs7, hn7, h7⟩ := hbk.row7
          obtain ⟨n8, xs8, hn8, h8⟩ := hbk.row8
          have ht7 : ¬ (x7.ownBlock = some tb) := fun e => own_ne h7 hbk.blk (by decide) tb e rfl
          have HB : Hid _ := And.intro hbk (And.intro h7 (And.intro ht7 h8))
          clear hbk h7 h8 ht7
          have i4 : (i : Int) < 4 := by omega
          go_wp2_with (at_builtin; refine wpList_append_one rfl _ _ 29 22 (.slice none 0 0) 24 rfl Try.underlying29 Try.infoSamples rfl (by decide) B x7 n7 xs7 rfl _ rfl (.slice aL (n + i) cL) ?c1 ?c2 rfl ?c3 ?c4 ?_; rotate_left 4; intro g7 cap7 w7 HA; have hF7 : Fp (fun k => x7.ownBlock = some k) wr w7 := ((Fp.alloc (fun _ => False) _ _).trans HA.out.foot (fun _ h => h.elim) (fun _ _ h => h)); obtain ⟨_, r0, r7, r8, rf, rl⟩ := HB.out.1.seen hF7 HB.out.2.2.1; have HF7 : Hid _ := hF7; clear hF7)
          case c1 => exact Fp.ownsRow (Fp.alloc (fun _ => False) _ _) HB.out.2.1 (fun _ _ h => h)
          case c2 => first | exact cell_lit _ _ _ 0 | (simp; done)
          case c3 => omega
          case c4 => have := HQ.out.2.2.size; first | omega | (simp; omega)
          have hbW := HB.out.1.put7 HF7.out HB.out.2.2.1 (fun k hk e => own_apart HB.out.2.1 HB.out.2.2.2 (by decide) k e hk) (.slice (some ⟨g7, 0, none⟩) (n7 + 1) cap7) ⟨n7 + 1, _, by omega, HA.out.row⟩
          obtain ⟨xsl, hxl⟩ := HQ.out.2.1
          have hlW : RowS (w7.setCell ⟨tb, 7, none⟩ (.slice (some ⟨g7, 0, none⟩) (n7 + 1) cap7)) B (.slice aL (n + i) cL) (n + i) :=
            (RowS.fp ⟨xsl, hxl⟩ HF7.out (fun k hk e => own_apart HB.out.2.1 hxl (by decide) k e hk)).fp (Fp.setCell (S := fun k => k = tb) _ _ _ rfl) (own_ne hxl HB.out.1.blk (by decide))
          have hFW : Fp (fun k => B ≤ k) w (w7.setCell ⟨tb, 7, none⟩ (.slice (some ⟨g7, 0, none⟩) (n7 + 1) cap7)) :=
            (HQ.out.2.2.trans' (HF7.out.mono (fun k _ e => (World.ownsRow.lt HB.out.2.1 k e).1))).trans' (Fp.setCell _ _ _ HB.out.1.low)
          obtain ⟨W, hW⟩ : ∃ W, w7.setCell ⟨tb, 7, none⟩ (.slice (some ⟨g7, 0, none⟩) (n7 + 1) cap7) = W := ⟨_, rfl⟩
          obtain ⟨y7, hy7⟩ : ∃ y7, Value.slice (some ⟨g7, 0, none⟩) (n7 + 1) cap7 = y7 := ⟨_, rfl⟩
          rw [hW] at hbW hlW hFW ⊢
          rw [hy7] at hbW
          obtain ⟨p0, _, p8, pf, pl⟩ := hbW.cell
          have k8 : W.ownsRow B 3 1 x8 n8 xs8 := by
            rw [← hW]
            exact Fp.ownsRow (Fp.setCell (S := fun k => k = tb) _ _ _ rfl) (Fp.ownsRow HF7.out HB.out.2.2.2 (fun k hk e => own_apart HB.out.2.1 HB.out.2.2.2 (by decide) k e hk)) (own_ne HB.out.2.2.2 HB.out.1.blk (by decide))
          have hBW : B ≤ W.heap.size := Nat.le_trans hB hFW.size
          obtain ⟨g8, cap8, w8, hr8, hg8⟩ := run_append_one (W := W.drew.alloc (.cells #[.int .i64 (-(M : Int))] 3)) 28 3 28 (.int .i64 0) 8 Try.underlying28 Try.infoInt rfl (by decide) B x8 n8 xs8 (Fp.ownsRow ((Fp.drew (fun _ => False) _).trans' (Fp.alloc _ _ _)) k8 (fun _ _ h => h)) W.heap.size (.int .i64 (-(M : Int))) (cell_lit W.drew _ _ 0) rfl (by omega) (Nat.le_trans hBW (by show W.heap.size ≤ (W.drew.alloc _).heap.size; rw [show (W.drew.alloc (.cells #[.int .i64 (-(M : Int))] 3)).heap.size = W.drew.heap.size + 1 by simp]; exact Nat.le_succ _))
          have hneg : IntKind.i64.wrap (-(M : Int)) = -(M : Int) := by rw [IntKind.wrap_i64]; omega
          have HW : Hid _ := And.intro hbW (And.intro hlW (And.intro hFW (And.intro k8 hg8)))
          clear hW hy7 hbW hlW hFW k8 hg8 r0 r7 r8 rf rl q0 q7 q8 qf ql hxl
          have hF8 : Fp (fun k => x8.ownBlock = some k) W w8 := ((Fp.drew (fun _ => False) _).trans' (Fp.alloc _ _ _)).trans HW.out.2.2.2.2.foot (fun _ h => h.elim) (fun _ _ h => h)
          have ht8 : ¬ (x8.ownBlock = some tb) := fun e => own_ne HW.out.2.2.2.1 HW.out.1.blk (by decide) tb e rfl
          obtain ⟨_, s0, s7, s8, sf, sl⟩ := HW.out.1.seen hF8 ht8
          have HF8 : Hid _ := And.intro hF8 ht8
          clear hF8 ht8
          refine wp_region_inv (by kernel_rfl) (by kernel_rfl) (fun listed a' w' => ∃ u43 u44 u45 u46 u47 u48 u49 u50 u51 u52 u53 u54 u55 u56 : Value, a' = { tmps := #[.pointer (some ⟨tb, 0, none⟩), .slice aL (n + i) cL, undef, undef, .int .i64 ((k : Nat) : Int), .int .i64 ((i : Nat) : Int), u6, .pointer (some ⟨tb, 0, none⟩), .pointer (some ⟨tb, 0, none⟩), .pointer (some ⟨tb, 0, none⟩), .int .i64 ((mk : Nat) : Int), .int .i64 ((M : Nat) : Int), .pointer (some ⟨tb, 0, none⟩), .pointer (some ⟨tb, 0, none⟩), .int .i64 ((k : Nat) : Int), .slice a n c, .int .i64 ((n : Nat) : Int), .bool false, u18, u19, u20, u21, u22, u23, u24, u25, u26, u27, u28, .int .i64 ((i : Nat) : Int), .bool true, u31, u32, .pointer (some ⟨tb, 0, none⟩), .pointer (some ⟨tb, 0, none⟩), .pointer (some ⟨tb, 0, none⟩), .pointer (some ⟨tb, 7, none⟩), x7, .slice aL (n + i) cL, .slice (some ⟨wr.heap.size, 0, none⟩) 1 1, .slice (some ⟨g7, 0, none⟩) (n7 + 1) cap7, .pointer (some ⟨tb, 0, none⟩), .pointer (some ⟨tb, 7, none⟩), u43, u44, u45, u46, u47, u48, u49, u50, u51, u52, u53, u54, u55, u56, u57, u58, u59, u60, u61, u62, u63, u64, u65, u66], defers := [] } ∧ Hid (KMark W w8 tb M g8 n8 cap8 x8 listed u43 u44 u45 u46 u47 u48 u49 u50 u51 u52 u53 u54 u55 u56 w')) ?km0 ?kmend ?kmstep
          case km0 => exact ⟨_, _, _, _, _, _, _, _, _, _, _, _, _, _, rfl, KMark.start (rfl)⟩
          case kmend =>
            rintro listed a' w' hall ⟨u43, u44, u45, u46, u47, u48, u49, u50, u51, u52, u53, u54, u55, u56, rfl, HI⟩
            obtain rfl := HI.out.e0 (hall 0 (by decide))
            obtain rfl := HI.out.e1 (hall 1 (by decide))
            obtain rfl := HI.out.e2 (hall 2 (by decide))
            obtain rfl := HI.out.e3 (hall 3 (by decide))
            obtain rfl := HI.out.e4 (hall 4 (by decide))
            obtain rfl := HI.out.e5 (hall 5 (by decide))
            obtain rfl := HI.out.e6 (hall 6 (by decide))
            obtain rfl := HI.out.e7 (hall 7 (by decide))
            obtain rfl := HI.out.e8 (hall 8 (by decide))
            obtain rfl := HI.out.e9 (hall 9 (by decide))
            obtain rfl := HI.out.e10 (hall 10 (by decide))
            obtain rfl := HI.out.e11 (hall 11 (by decide))
            obtain rfl := HI.out.e12 (hall 12 (by decide))
            obtain rfl := HI.out.e13 (hall 13 (by decide))
            have hw := HI.out.x3 (hall 14 (by decide))
            subst hw
            clear HI hall
            obtain ⟨_, _, _, k7⟩ := HW.out.1.row7
            have hb2 := HW.out.1.put8 HF8.out.1 HF8.out.2 (fun k hk e => own_apart k7 HW.out.2.2.2.1 (by decide) k hk e) (.slice (some ⟨g8, 0, none⟩) (n8 + 1) cap8) ⟨n8 + 1, _, by omega, HW.out.2.2.2.2.row⟩
            obtain ⟨xs2, hx2⟩ := HW.out.2.1
            have hl2 : RowS (w8.setCell ⟨tb, 8, none⟩ (.slice (some ⟨g8, 0, none⟩) (n8 + 1) cap8)) B (.slice aL (n + i) cL) (n + i) :=
              (RowS.fp ⟨xs2, hx2⟩ HF8.out.1 (fun k hk e => own_apart HW.out.2.2.2.1 hx2 (by decide) k e hk)).fp (Fp.setCell (S := fun k => k = tb) _ _ _ rfl) (own_ne hx2 HW.out.1.blk (by decide))
            have hF2 : Fp (fun k => B ≤ k) w (w8.setCell ⟨tb, 8, none⟩ (.slice (some ⟨g8, 0, none⟩) (n8 + 1) cap8)) :=
              (HW.out.2.2.1.trans' (HF8.out.1.mono (fun k _ e => (World.ownsRow.lt HW.out.2.2.2.1 k e).1))).trans' (Fp.setCell _ _ _ HW.out.1.low)
            obtain ⟨W2, hW2⟩ : ∃ W2, w8.setCell ⟨tb, 8, none⟩ (.slice (some ⟨g8, 0, none⟩) (n8 + 1) cap8) = W2 := ⟨_, rfl⟩
            obtain ⟨y8, hy8⟩ : ∃ y8, Value.slice (some ⟨g8, 0, none⟩) (n8 + 1) cap8 = y8 := ⟨_, rfl⟩
            rw [hW2] at hb2 hl2 hF2 ⊢
            rw [hy8] at hb2
            obtain ⟨t0, _, _, _, tl⟩ := hb2.cell
            have HW2 : Hid _ := And.intro hb2 (And.intro hl2 hF2)
            clear hW2 hy8 hb2 hl2 hF2 s0 s7 s8 sf sl hr8 p0 p8 pf pl hx2
            go_wp2_with (at_builtin; refine wpList_append_rowS rfl _ _ rfl B (.slice aL (n + i) cL) (n + i) rfl _ rfl ?d1 ?d2 ?d3 ?d4 ?_; rotate_left 4; intro g9 cap9 w9 H9)
            case d1 => exact HW2.out.2.1.fp (Fp.alloc (fun _ => False) _ _) (fun _ _ h => h)
            case d2 => exact ⟨_, _, _, cell_lit _ _ _ 0, cell_lit _ _ _ 1, cell_lit _ _ _ 2, rfl, rfl, rfl⟩
            case d3 => omega
            case d4 => have := HW2.out.2.2.size; first | omega | (simp; omega)
            go_roundw
            case rel =>
              obtain ⟨xs3, hx3⟩ := HW2.out.2.1
              obtain ⟨_, _, _, j7⟩ := HW2.out.1.row7
              obtain ⟨_, _, _, j8⟩ := HW2.out.1.row8
              have hf9 := (Fp.alloc (fun _ => False) W2 _).trans H9.out.2 (fun _ h => h.elim) (fun _ _ h => h)
              exact ⟨i + 1, by omega, by go_num, ⟨_, _, rfl⟩, ⟨y7, y8, HW2.out.1.fp hf9 (fun e => own_ne hx3 HW2.out.1.blk (by decide) tb e rfl) (fun k hk e => own_apart j7 hx3 (by decide) k hk e) (fun k hk e => own_apart j8 hx3 (by decide) k hk e)⟩, H9.out.1, HW2.out.2.2.trans' (hf9.mono (fun k _ e => (World.ownsRow.lt hx3 k e).1))⟩
            case measure => simp [intOf]; omega
          case kmstep =>
            rintro listed a' w' i o ho hi hd hdep hcl ⟨u43, u44, u45, u46, u47, u48, u49, u50, u51, u52, u53, u54, u55, u56, rfl, HI⟩ K hK
            match i, ho with
            | 0, ho =>
              cases ho
              go_simp
              refine hK _ _ ⟨_, _, _, _, _, _, _, _, _, _, _, _, _, _, rfl, ?_⟩
              exact HI.out.s0
            | 1, ho =>
              cases ho
              go_simp
              refine hK _ _ ⟨_, _, _, _, _, _, _, _, _, _, _, _, _, _, rfl, ?_⟩
              exact HI.out.s1
            | 2, ho =>
              cases ho
              have d1 := hdep ⟨1, .data⟩ (by simp) rfl
              obtain rfl := HI.out.e1 d1
              go_simp
              refine hK _ _ ⟨_, _, _, _, _, _, _, _, _, _, _, _, _, _, rfl, ?_⟩
              exact HI.out.s2
            | 3, ho =>
              cases ho
              have d2 := hdep ⟨2, .data⟩ (by simp) rfl
              obtain rfl := HI.out.e2 d2
              go_simp
              refine hK _ _ ⟨_, _, _, _, _, _, _, _, _, _, _, _, _, _, rfl, ?_⟩
              exact HI.out.s3
            | 4, ho =>
              cases ho
              have d3 := hdep ⟨3, .data⟩ (by simp) rfl
              obtain rfl := HI.out.e3 d3
              have q11 : done listed 11 = false := nd hcl (j := 11) rfl ⟨4, .data⟩ (by simp) rfl hd
              cases hd10 : done listed 10
              · have hw := HI.out.x0 hd10
                subst hw
                go_simp
                refine hK _ _ ⟨_, _, _, _, _, _, _, _, _, _, _, _, _, _, rfl, ?_⟩
                exact HI.out.s4
              · skip
                have hw := HI.out.x1 hd10 q11
                subst hw
                go_simp
                refine hK _ _ ⟨_, _, _, _, _, _, _, _, _, _, _, _, _, _, rfl, ?_⟩
                exact HI.out.s4
            | 5, ho =>
              cases ho
              go_simp
              refine hK _ _ ⟨_, _, _, _, _, _, _, _, _, _, _, _, _, _, rfl, ?_⟩
              exact HI.out.s5
            | 6, ho =>
              cases ho
              have d5 := hdep ⟨5, .data⟩ (by simp) rfl
              obtain rfl := HI.out.e5 d5
              go_simp
              refine hK _ _ ⟨_, _, _, _, _, _, _, _, _, _, _, _, _, _, rfl, ?_⟩
              exact HI.out.s6
            | 7, ho =>
              cases ho
              have d6 := hdep ⟨6, .data⟩ (by simp) rfl
              obtain rfl := HI.out.e6 d6
              go_simp
              refine hK _ _ ⟨_, _, _, _, _, _, _, _, _, _, _, _, _, _, rfl, ?_⟩
              exact HI.out.s7
            | 8, ho =>
              cases ho
              have d7 := hdep ⟨7, .data⟩ (by simp) rfl
              obtain rfl := HI.out.e7 d7
              have q9 : done listed 9 = false := nd hcl (j := 9) rfl ⟨8, .data⟩ (by simp) rfl hd
              have q10 : done listed 10 = false := nd hcl (j := 10) rfl ⟨9, .data⟩ (by simp) rfl q9
              have hw := HI.out.x0 q10
              subst hw
              go_simp
              refine hK _ _ ⟨_, _, _, _, _, _, _, _, _, _, _, _, _, _, rfl, ?_⟩
              exact HI.out.s8
            | 9, ho =>
              cases ho
              have d8 := hdep ⟨8, .data⟩ (by simp) rfl
              obtain rfl := HI.out.e8 d8
              go_simp
              refine hK _ _ ⟨_, _, _, _, _, _, _, _, _, _, _, _, _, _, rfl, ?_⟩
              exact HI.out.s9
            | 10, ho =>
              cases ho
              have d9 := hdep ⟨9, .data⟩ (by simp) rfl
              obtain rfl := HI.out.e9 d9
              have hw := HI.out.x0 hd
              have q11 : done listed 11 = false := nd hcl (j := 11) rfl ⟨10, .data⟩ (by simp) rfl hd
              have hn1 := q11
              have q14 : done listed 14 = false := nd hcl (j := 14) rfl ⟨10, .phase⟩ (by simp) rfl hd
              have hn2 := q14
              subst hw
              go_simp
              refine hK _ _ ⟨_, _, _, _, _, _, _, _, _, _, _, _, _, _, rfl, ?_⟩
              exact HI.out.s10 hi hn1 hn2 (rfl)
            | 11, ho =>
              cases ho
              have d4 := hdep ⟨4, .data⟩ (by simp) rfl
              obtain rfl := HI.out.e4 d4
              have d10 := hdep ⟨10, .data⟩ (by simp) rfl
              obtain rfl := HI.out.e10 d10
              have hp0 := hdep ⟨10, .data⟩ (by simp) rfl
              have hw := HI.out.x1 hp0 hd
              have q14 : done listed 14 = false := nd hcl (j := 14) rfl ⟨11, .data⟩ (by simp) rfl hd
              have hn2 := q14
              subst hw
              refine wanted_op rfl (op_append_run rfl rfl rfl hr8 ?_)
              refine hK _ _ ⟨_, _, _, _, _, _, _, _, _, _, _, _, _, _, rfl, ?_⟩
              exact HI.out.s11 hi hp0 hn2 (rfl)
            | 12, ho =>
              cases ho
              have d0 := hdep ⟨0, .data⟩ (by simp) rfl
              obtain rfl := HI.out.e0 d0
              go_simp
              refine hK _ _ ⟨_, _, _, _, _, _, _, _, _, _, _, _, _, _, rfl, ?_⟩
              exact HI.out.s12
            | 13, ho =>
              cases ho
              have d12 := hdep ⟨12, .data⟩ (by simp) rfl
              obtain rfl := HI.out.e12 d12
              go_simp
              refine hK _ _ ⟨_, _, _, _, _, _, _, _, _, _, _, _, _, _, rfl, ?_⟩
              exact HI.out.s13
            | 14, ho =>
              cases ho
              have d13 := hdep ⟨13, .data⟩ (by simp) rfl
              obtain rfl := HI.out.e13 d13
              have d11 := hdep ⟨11, .data⟩ (by simp) rfl
              obtain rfl := HI.out.e11 d11
              have hp0 := hdep ⟨10, .phase⟩ (by simp) rfl
              have hp1 := hdep ⟨11, .data⟩ (by simp) rfl
              have hw := HI.out.x2 hp1 hd
              subst hw
              go_simp
              refine hK _ _ ⟨_, _, _, _, _, _, _, _, _, _, _, _, _, _, rfl, ?_⟩
              exact HI.out.s14 hi hp0 hp1 (rfl)
        · obtain rfl : i = 4 := by omega
          go_wp2
          go_end0
          exact ⟨rfl, HQ.out.1, HQ.out.2.2⟩

end Go.Proofs.Ytojjkjfcbfoinaa

namespace Go.Proofs.Ytojjkjfcbfoinaa
open Go.RowKit Go.Shelf

set_option maxHeartbeats 4000000 in
set_option maxRecDepth 100000 in
theorem handedSamples_any (B tb mk N : Nat) (r : Array Value) (v7 v8 sv lv : Value) (zs xs : List Silo.Smp) (w : World) (hb : BookAt w B tb mk N r v7 v8) (hs : World.smpsAt w B sv zs) (hl : SmpIn w w.heap.size lv xs)
    (hz : ∀ k (hk : k < zs.length), (∃ h : k < xs.length, zs[k] = xs[k]) ∨ (xs.length ≤ k ∧ zs[k].s = -7)) (hn : zs.length ≤ 16777300) (hmk : mk ≤ 1000) (hN : N ≤ 1000) (hB : B ≤ w.heap.size) :
    Calls Try.prog 14 #[.pointer (some ⟨tb, 0, none⟩), sv, lv] w fun e w' => e = .returned (.bool true) ∧ (∃ v7' v8', BookAt w' B tb (mk + 1) (N + 4) r v7' v8') ∧ Fp (fun k => B ≤ k) w w' := by
  have H : Hid _ := And.intro hb (And.intro hs (And.intro hl hz))
  obtain ⟨sa, sc, rfl⟩ : ∃ a c, sv = .slice a zs.length c := ownsRow_form hs
  obtain ⟨la, lc, rfl, _⟩ := hl
  obtain ⟨n, hnn⟩ : ∃ n, zs.length = n := ⟨_, rfl⟩
  obtain ⟨m, hmm⟩ : ∃ m, xs.length = m := ⟨_, rfl⟩
  rw [hnn] at hn ⊢
  rw [hmm]
  have HNM : Hid _ := And.intro hnn hmm
  clear hb hs hz hnn hmm
  go_enter Try.func14, Try.ntmps14
  go_wp2_with fail
  go_loopw [7, 8] (fun bv iv wr => ∃ k : Nat, k ≤ n ∧ iv = .int .i64 k ∧ bv = .bool true ∧ Hid (Fp (fun _ => False) w wr)) (fun _ iv _ => n - (intOf iv).toNat)
  case atStart => exact ⟨0, by omega, rfl, rfl, Fp.refl _ _⟩
  case round =>
    obtain ⟨k, hk, rfl, rfl, HR⟩ := hrel
    by_cases hlt : k < n
    · have hkz : k < zs.length := by rw [HNM.out.1]; exact hlt
      have hrow := H.out.2.1
      obtain ⟨g, hga, _, hg2⟩ := smps_some hrow (by omega)
      subst hga
      obtain ⟨z0, z1, z2⟩ := smpsAt_cell hrow k hkz
      obtain ⟨z, hzz⟩ : ∃ z, zs[k] = z := ⟨_, rfl⟩
      rw [hzz] at z0 z1 z2
      rw [← HR.out.cell (p := ⟨g, k * 3, none⟩) hg2 (fun h => h)] at z0
      rw [← HR.out.cell (p := ⟨g, k * 3 + 1, none⟩) hg2 (fun h => h)] at z1
      rw [← HR.out.cell (p := ⟨g, k * 3 + 2, none⟩) hg2 (fun h => h)] at z2
      have kN : (k : Int) < (n : Int) := by omega
      rcases H.out.2.2.2 k hkz with ⟨hkx, he⟩ | ⟨hkx, he⟩
      · obtain ⟨_, b, off, hla, hbb, hcell⟩ := SmpIn.cells H.out.2.2.1 (by omega)
        subst hla
        obtain ⟨y0, y1, y2⟩ := hcell k hkx
        rw [← he, hzz] at y0 y1 y2
        rw [← HR.out.cell (p := ⟨b, off + k * 3, none⟩) hbb (fun h => h)] at y0
        rw [← HR.out.cell (p := ⟨b, off + k * 3 + 1, none⟩) hbb (fun h => h)] at y1
        rw [← HR.out.cell (p := ⟨b, off + k * 3 + 2, none⟩) hbb (fun h => h)] at y2
        have kM : (k : Int) < (m : Int) := by rw [← HNM.out.2]; omega
        have t1 : decide ((k : Int) < (m : Int)) = true := decide_eq_true kM
        have t1' : decide (k < m) = true := decide_eq_true (by omega)
        clear hcell he hzz hrow hkz hkx
        go_wp2_with fail
        go_quiet (fail)
        go_wp2
        go_roundw
        case rel => exact ⟨k + 1, by omega, by go_num, rfl, HR.out.trans' (Fp.drewN _ _ _)⟩
        case measure => simp [intOf]; omega
      · rw [hzz] at he
        rw [he] at z0
        have kM : ¬ (k : Int) < (m : Int) := by rw [← HNM.out.2]; omega
        have t1 : decide ((k : Int) < (m : Int)) = false := decide_eq_false kM
        have t2 : decide ((m : Int) ≤ (k : Int)) = true := decide_eq_true (by omega)
        have t1' : decide (k < m) = false := decide_eq_false (by omega)
        have t2' : decide (m ≤ k) = true := decide_eq_true (by omega)
        clear he hzz hrow hkz hkx
        go_wp2_with fail
        go_quiet (fail)
        go_wp2
        go_roundw
        case rel => exact ⟨k + 1, by omega, by go_num, rfl, HR.out.trans' (Fp.drewN _ _ _)⟩
        case measure => simp [intOf]; omega
    · have kN : ¬ (k : Int) < (n : Int) := by omega
      go_wp2_with fail
      have hb2 := H.out.1.fp HR.out (fun h => h) (fun _ _ h => h) (fun _ _ h => h)
      have hr2 : RowS wr B (.slice sa n sc) n := by
        have h := Fp.ownsRow HR.out H.out.2.1 (fun _ _ h => h)
        rw [HNM.out.1] at h
        exact ⟨_, h⟩
      refine (keepSamples_any B tb mk N r v7 v8 (.slice sa n sc) n wr hb2 hr2 hn hmk hN (Nat.le_trans hB HR.out.size)).mono ?_
      rintro e w2 ⟨rfl, h2⟩
      have H2 : Hid _ := h2
      clear h2 hb2 hr2
      go_wp2
      go_ret
      exact ⟨ret_val (by simp), H2.out.1, (HR.out.mono (fun _ _ h => h.elim)).trans' H2.out.2⟩

end Go.Proofs.Ytojjkjfcbfoinaa

namespace Go.Proofs.Ytojjkjfcbfoinaa
open Go.RowKit Go.Shelf

/-- What both Blocks answer. -/
def blkRes (lo hi : Int) (xs : List Silo.Smp) : Value :=
  if 0 ≤ lo ∧ lo ≤ hi ∧ hi ≤ 999999 then
    if Silo.fits xs = true then .tuple #[.string (S (Silo.sealed (Silo.toldBody lo.toNat hi.toNat (layAll [] xs)))), .int .i64 0] else .tuple #[.string (S []), .int .i64 6]
  else .tuple #[.string (S []), .int .i64 3]

theorem Block_all (lo hi : Int) (v : Value) (xs : List Silo.Smp) (w : World) (hin : SmpIn w w.heap.size v xs) (hl : xs.length ≤ 16777216) (hg : ∀ x ∈ xs, Silo.isInt x.t ∧ x.v < Silo.M64) :
    Calls Try.prog 8 #[.int .i64 lo, .int .i64 hi, v] w fun e w' => e = .returned (blkRes lo hi xs) ∧ Fp (fun _ => False) w w' := by
  unfold blkRes
  by_cases hr : 0 ≤ lo ∧ lo ≤ hi ∧ hi ≤ 999999
  · rw [if_pos hr]
    cases hf : Silo.fits xs with
    | true =>
      rw [if_pos rfl]
      have h := Block_ok lo.toNat hi.toNat v xs w (by omega) (by omega) hin hl hf hg
      rw [Int.toNat_of_nonneg hr.1, Int.toNat_of_nonneg (by omega)] at h
      refine h.mono ?_
      rintro e w' ⟨m, h1, _, _, rfl, h5⟩
      refine ⟨?_, h5⟩
      unfold Silo.file
      rw [Silo.lay_flat hf h1, Silo.toldBody_flat]
    | false =>
      rw [if_neg (by simp)]
      exact Block_nofit lo hi v xs w hr hin (by omega) hf
  · rw [if_neg hr]
    exact Block_norange lo hi v w hr

theorem RefBlock_all (lo hi : Int) (v : Value) (xs : List Silo.Smp) (w : World) (hin : SmpIn w w.heap.size v xs) (hl : xs.length ≤ 16777216) (hg : ∀ x ∈ xs, Silo.isInt x.t ∧ x.v < Silo.M64) :
    Calls Try.prog 13 #[.int .i64 lo, .int .i64 hi, v] w fun e w' => e = .returned (blkRes lo hi xs) ∧ Fp (fun _ => False) w w' := by
  unfold blkRes
  by_cases hr : 0 ≤ lo ∧ lo ≤ hi ∧ hi ≤ 999999
  · rw [if_pos hr]
    cases hf : Silo.fits xs with
    | true =>
      rw [if_pos rfl]
      have h := RefBlock_ok lo.toNat hi.toNat v xs w (by omega) (by omega) hin hl hf hg
      rw [Int.toNat_of_nonneg hr.1, Int.toNat_of_nonneg (by omega)] at h
      exact h
    | false =>
      rw [if_neg (by simp)]
      exact RefBlock_nofit lo hi v xs w hr hin (by omega) hf
  · rw [if_neg hr]
    exact (RefBlock_norange lo hi v w hr).mono fun e w' ⟨h1, h2⟩ => ⟨h1, by rw [h2]; exact Fp.refl _ _⟩

theorem blkRes_form (lo hi : Int) (xs : List Silo.Smp) : ∃ (l : List UInt8) (n : Int), blkRes lo hi xs = .tuple #[.string (S l), .int .i64 n] := by
  unfold blkRes
  split
  · split
    · exact ⟨_, 0, rfl⟩
    · exact ⟨_, 6, rfl⟩
  · exact ⟨_, 3, rfl⟩

set_option maxHeartbeats 4000000 in
set_option maxRecDepth 100000 in
theorem block_nil (B tb mk N : Nat) (r : Array Value) (v7 v8 : Value) (lo hi : Int) (w : World) (hb : BookAt w B tb mk N r v7 v8) (hmk : mk ≤ 1000) (hN : N ≤ 1000) (hB : B ≤ w.heap.size) :
    Calls Try.prog 6 #[.pointer (some ⟨tb, 0, none⟩), .int .i64 lo, .int .i64 hi, .slice none 0 0] w fun e w' => e = .returned (.bool true) ∧ (∃ v7' v8', BookAt w' B tb (mk + 1) (N + 4) r v7' v8') ∧ Fp (fun k => B ≤ k) w w' := by
  obtain ⟨bl, bn, hbr⟩ := blkRes_form lo hi []
  have H : Hid _ := And.intro hb hbr
  clear hb hbr
  have hne : ∀ u : World, (binOp .neq 22 (.slice none 0 0) (.slice none 0 0)).run Try.prog u = .ok (.bool false) u := fun u => run_neq_slice_nil_any u 22 42 none 0 0 0 0 Try.underlying22
  go_enter Try.func6, Try.ntmps6
  go_wp2_with fail
  refine (handSamples_nil w).mono ?_
  rintro e w1 ⟨rfl, rfl⟩
  go_wp2_with fail
  refine (Block_all lo hi (.slice none 0 0) [] w1 (SmpIn.nil _ _) (by simp) (by simp)).mono ?_
  rintro e w2 ⟨rfl, h2⟩
  rw [H.out.2]
  have H2 : Hid _ := h2
  clear h2
  go_wp2_with fail
  refine (RefBlock_all lo hi (.slice none 0 0) [] w2 (SmpIn.nil _ _) (by simp) (by simp)).mono ?_
  rintro e w3 ⟨rfl, h3⟩
  rw [H.out.2]
  have H3 : Hid _ := H2.out.trans' h3
  clear h3
  go_wp2_with fail
  refine (handedSamples_any B tb mk N r v7 v8 (.slice none 0 0) (.slice none 0 0) [] [] w3 (H.out.1.fp H3.out (fun h => h) (fun _ _ h => h) (fun _ _ h => h)) (nil_row _ _) (SmpIn.nil _ _) (fun k hk => by simp at hk) (by simp) hmk hN (Nat.le_trans hB H3.out.size)).mono ?_
  rintro e w4 ⟨rfl, h4⟩
  have H4 : Hid _ := h4
  clear h4
  go_wp2_with (go_at_call 15; refine (Lawnum_any _ _).mono ?_; rintro e w' ⟨rfl, rfl⟩)
  go_ret
  exact ⟨ret_val (by simp), H4.out.1, (H3.out.mono (fun _ _ h => h.elim)).trans' H4.out.2⟩

end Go.Proofs.Ytojjkjfcbfoinaa

namespace Go.Proofs.Ytojjkjfcbfoinaa
open Go.RowKit Go.Shelf

set_option maxHeartbeats 4000000 in
set_option maxRecDepth 100000 in
theorem block_some (B tb mk N : Nat) (r : Array Value) (v7 v8 : Value) (lo hi : Int) (ad : Addr) (c : Nat) (xs : List Silo.Smp) (w : World) (hb : BookAt w B tb mk N r v7 v8) (hin : SmpIn w w.heap.size (.slice (some ad) xs.length c) xs) (hl : xs.length ≤ 16777216) (hg : ∀ x ∈ xs, Silo.isInt x.t ∧ x.v < Silo.M64) (hmk : mk ≤ 1000) (hN : N ≤ 1000) (hB : B ≤ w.heap.size) :
    Calls Try.prog 6 #[.pointer (some ⟨tb, 0, none⟩), .int .i64 lo, .int .i64 hi, .slice (some ad) xs.length c] w fun e w' => e = .returned (.bool true) ∧ (∃ v7' v8', BookAt w' B tb (mk + 1) (N + 4) r v7' v8') ∧ Fp (fun k => B ≤ k) w w' := by
  obtain ⟨bl, bn, hbr⟩ := blkRes_form lo hi xs
  have H : Hid _ := And.intro hb (And.intro hin (And.intro hg hbr))
  clear hb hbr hin hg
  go_enter Try.func6, Try.ntmps6
  go_wp2_with fail
  refine (handSamples_some ad c xs w H.out.2.1 hl).mono ?_
  rintro e w1 ⟨sv, rfl, h1, h1f⟩
  obtain ⟨sa, sc, hsv⟩ := ownsRow_form h1
  subst hsv
  obtain ⟨g, hga, _, hg2⟩ := smps_some h1 (by simp)
  subst hga
  obtain ⟨n3, hn3⟩ : ∃ n3, (xs ++ [seven, seven, seven]).length = n3 := ⟨_, rfl⟩
  have hn3' : n3 = xs.length + 3 := by rw [← hn3]; simp
  have hcap : n3 ≤ sc := by
    rcases h1.2 with ⟨h, _⟩ | ⟨g', cap', cur, h, _, _, hc, _⟩
    · cases h
    · simp only [Value.slice.injEq] at h
      rw [← hn3, h.2.2]; exact hc
  have hsc : xs.length ≤ sc := by omega
  have hne : ∀ u : World, (binOp .neq 22 (.slice (some ⟨g, 0, none⟩) n3 sc) (.slice none 0 0)).run Try.prog u = .ok (.bool true) u := fun u => run_neq_slice_nil_any u 22 42 (some ⟨g, 0, none⟩) n3 sc 0 0 Try.underlying22
  have hpre : SmpIn w1 w1.heap.size (.slice (some ⟨g, 0, none⟩) xs.length sc) xs := by
    refine ⟨_, _, rfl, ?_⟩
    by_cases h0 : xs = []
    · exact .inl h0
    · refine .inr ⟨g, 0, rfl, hg2, fun k hk => ?_⟩
      have hq := smpsAt_cell h1 k (by simp; omega)
      rw [List.getElem_append_left hk] at hq
      rw [Nat.zero_add]
      exact hq
  have H1 : Hid _ := And.intro h1 (And.intro h1f (And.intro hpre hn3))
  rw [hn3]
  have hn39 : n3 ≤ 16777219 := by omega
  clear h1 h1f hpre hn3 hn3'
  go_wp2_with fail
  refine (Block_all lo hi (.slice (some ⟨g, 0, none⟩) xs.length sc) xs w1 H1.out.2.2.1 hl H.out.2.2.1).mono ?_
  rintro e w2 ⟨rfl, h2⟩
  rw [H.out.2.2.2]
  have H2 : Hid _ := h2
  clear h2
  go_wp2_with fail
  refine (RefBlock_all lo hi (.slice (some ad) xs.length c) xs w2 ((H.out.2.1.fp (H1.out.2.1.trans' H2.out) (Nat.le_refl _) (fun _ _ h => h)).up (Nat.le_trans H1.out.2.1.size H2.out.size)) hl H.out.2.2.1).mono ?_
  rintro e w3 ⟨rfl, h3⟩
  rw [H.out.2.2.2]
  have H3 : Hid _ := And.intro (H2.out.trans' h3) (H1.out.2.1.trans' (H2.out.trans' h3))
  clear h3
  go_wp2_with fail
  have hrow3 : World.smpsAt w3 B (.slice (some ⟨g, 0, none⟩) n3 sc) (xs ++ [seven, seven, seven]) := by
    have h := ownsRow_base (Fp.ownsRow H3.out.1 H1.out.1 (fun _ _ h => h)) hB
    rw [H1.out.2.2.2] at h
    unfold World.smpsAt
    rw [H1.out.2.2.2]
    exact h
  have hin3 : SmpIn w3 w3.heap.size (.slice (some ad) xs.length c) xs := (H.out.2.1.fp H3.out.2 (Nat.le_refl _) (fun _ _ h => h)).up H3.out.2.size
  refine (handedSamples_any B tb mk N r v7 v8 (.slice (some ⟨g, 0, none⟩) n3 sc) (.slice (some ad) xs.length c) (xs ++ [seven, seven, seven]) xs w3 (H.out.1.fp H3.out.2 (fun h => h) (fun _ _ h => h) (fun _ _ h => h)) hrow3 hin3 (fun k hk => ?_) (by rw [H1.out.2.2.2]; omega) hmk hN (Nat.le_trans hB H3.out.2.size)).mono ?_
  · by_cases hkx : k < xs.length
    · exact .inl ⟨hkx, List.getElem_append_left hkx⟩
    · refine .inr ⟨by omega, ?_⟩
      rw [List.getElem_append_right (by omega)]
      have hk3 : k - xs.length < 3 := by simp at hk; omega
      obtain ⟨j, hj⟩ : ∃ j, k - xs.length = j := ⟨_, rfl⟩
      simp only [hj] at hk3 ⊢
      match j, hk3 with
      | 0, _ => rfl
      | 1, _ => rfl
      | 2, _ => rfl
  rintro e w4 ⟨rfl, h4⟩
  have H4 : Hid _ := h4
  clear h4 hrow3 hin3
  go_wp2_with (go_at_call 15; refine (Lawnum_any _ _).mono ?_; rintro e w' ⟨rfl, rfl⟩)
  go_ret
  exact ⟨ret_val (by simp), H4.out.1, (H3.out.2.mono (fun _ _ h => h.elim)).trans' H4.out.2⟩

set_option maxHeartbeats 4000000 in
set_option maxRecDepth 100000 in
theorem samples2_any (B tb mk N : Nat) (r : Array Value) (v7 v8 : Value) (f : List UInt8) (w : World) (hb : BookAt w B tb mk N r v7 v8) (hl : f.length ≤ 16777216) (hmk : mk ≤ 1000) (hN : N ≤ 1000) (hB : B ≤ w.heap.size) :
    Calls Try.prog 7 #[.pointer (some ⟨tb, 0, none⟩), .string (S f)] w fun e w' => e = .returned (.bool true) ∧ (∃ v7' v8', BookAt w' B tb (mk + 1) (N + 4) r v7' v8') ∧ Fp (fun k => B ≤ k) w w' := by
  have H : Hid _ := hb
  clear hb
  cases hd : Silo.decode f with
  | none =>
    have HD : Hid _ := hd
    clear hd
    go_enter Try.func7, Try.ntmps7
    go_wp2_with fail
    refine (Samples_none f w (by omega) HD.out).mono ?_
    rintro e w1 ⟨rfl, h1⟩
    have H1 : Hid _ := h1
    clear h1
    go_wp2_with fail
    refine (RefSamples_any f w1 hl).mono ?_
    rintro e w2 ⟨h2, h2b, _⟩
    obtain rfl := h2b HD.out
    unfold bad4
    have H2 : Hid _ := H1.out.trans' h2
    clear h2 h2b
    go_wp2_with fail
    refine (sameSamples_eq [] (.slice none 0 0) (.slice none 0 0) w2 (SmpIn.nil _ _) (SmpIn.nil _ _) (by simp)).mono ?_
    rintro e w3 ⟨rfl, h3⟩
    have H3 : Hid _ := H2.out.trans' h3
    clear h3
    go_wp2_with fail
    refine (keepSamples_any B tb mk N r v7 v8 (.slice none 0 0) 0 w3 (H.out.fp H3.out (fun h => h) (fun _ _ h => h) (fun _ _ h => h)) ⟨[], rfl, .inl ⟨rfl, rfl⟩⟩ (by omega) hmk hN (Nat.le_trans hB H3.out.size)).mono ?_
    rintro e w4 ⟨rfl, h4⟩
    have H4 : Hid _ := h4
    clear h4
    go_wp2_with (go_at_call 15; refine (Lawnum_any _ _).mono ?_; rintro e w' ⟨rfl, rfl⟩)
    go_ret
    exact ⟨ret_val (by simp), H4.out.1, (H3.out.mono (fun _ _ h => h.elim)).trans' H4.out.2⟩
  | some d =>
    have hlen := decode_len hd
    have HD : Hid _ := hd
    clear hd
    go_enter Try.func7, Try.ntmps7
    go_wp2_with fail
    refine (Samples_some f w (by omega) d HD.out).mono ?_
    rintro e w1 ⟨a1, c1, rfl, h1, h1f⟩
    have H1 : Hid _ := And.intro h1 h1f
    clear h1 h1f
    go_wp2_with fail
    refine (RefSamples_any f w1 hl).mono ?_
    rintro e w2 ⟨h2, _, h2b⟩
    obtain ⟨a2, c2, rfl, h2c⟩ := h2b d HD.out
    have H2 : Hid _ := And.intro (Fp.ownsRow h2 H1.out.1 (fun _ _ h => h)) (And.intro h2c (H1.out.2.trans' h2))
    clear h2 h2b h2c
    go_wp2_with fail
    refine (sameSamples_eq d.l (.slice a1 d.l.length c1) (.slice a2 d.l.length c2) w2 (SmpIn.of_row H2.out.1 (Nat.le_refl _)) (SmpIn.of_row H2.out.2.1 (Nat.le_refl _)) (by omega)).mono ?_
    rintro e w3 ⟨rfl, h3⟩
    have H3 : Hid _ := And.intro (H2.out.2.2.trans' h3) (Fp.ownsRow h3 H2.out.1 (fun _ _ h => h))
    clear h3
    go_wp2_with fail
    refine (keepSamples_any B tb mk N r v7 v8 (.slice a1 d.l.length c1) d.l.length w3 (H.out.fp H3.out.1 (fun h => h) (fun _ _ h => h) (fun _ _ h => h)) ⟨_, ownsRow_base H3.out.2 hB⟩ (by omega) hmk hN (Nat.le_trans hB H3.out.1.size)).mono ?_
    rintro e w4 ⟨rfl, h4⟩
    have H4 : Hid _ := h4
    clear h4
    go_wp2_with (go_at_call 15; refine (Lawnum_any _ _).mono ?_; rintro e w' ⟨rfl, rfl⟩)
    go_ret
    exact ⟨ret_val (by simp), H4.out.1, (H3.out.1.mono (fun _ _ h => h.elim)).trans' H4.out.2⟩

end Go.Proofs.Ytojjkjfcbfoinaa

namespace Go.Proofs.Ytojjkjfcbfoinaa
open Go.RowKit Go.Shelf

/-- The new book. -/
theorem BookAt.new (w : World) : BookAt (w.alloc (.cells #[.int .i64 0, .slice none 0 0, .slice none 0 0, .slice none 0 0, .slice none 0 0, .slice none 0 0, .slice none 0 0, .slice none 0 0, .slice none 0 0, .slice none 0 0, .slice none 0 0] 32)) w.heap.size w.heap.size 0 0 (Array.replicate 8 (.slice none 0 0)) (.slice none 0 0) (.slice none 0 0) where
  blk := heap_new _ _
  row7 := ⟨0, [], Nat.le_refl _, rfl, .inl ⟨rfl, rfl⟩⟩
  row8 := ⟨0, [], Nat.le_refl _, rfl, .inl ⟨rfl, rfl⟩⟩
  low := Nat.le_refl _

theorem block_any (B tb mk N : Nat) (r : Array Value) (v7 v8 : Value) (lo hi : Int) (lv : Value) (xs : List Silo.Smp) (w : World) (hb : BookAt w B tb mk N r v7 v8) (hin : SmpIn w w.heap.size lv xs) (hnil : lv = .slice none 0 0 ∨ ∃ ad c, lv = .slice (some ad) xs.length c) (hl : xs.length ≤ 16777216) (hg : ∀ x ∈ xs, Silo.isInt x.t ∧ x.v < Silo.M64) (hmk : mk ≤ 1000) (hN : N ≤ 1000) (hB : B ≤ w.heap.size) :
    Calls Try.prog 6 #[.pointer (some ⟨tb, 0, none⟩), .int .i64 lo, .int .i64 hi, lv] w fun e w' => e = .returned (.bool true) ∧ (∃ v7' v8', BookAt w' B tb (mk + 1) (N + 4) r v7' v8') ∧ Fp (fun k => B ≤ k) w w' := by
  rcases hnil with rfl | ⟨ad, c, rfl⟩
  · exact block_nil B tb mk N r v7 v8 lo hi w hb hmk hN hB
  · exact block_some B tb mk N r v7 v8 lo hi ad c xs w hb hin hl hg hmk hN hB

set_option maxHeartbeats 2000000 in
set_option maxRecDepth 100000 in
theorem Blocks_walk (lo hi : Int) (lv : Value) (xs : List Silo.Smp) (fl : List UInt8) (w : World) (hin : SmpIn w w.heap.size lv xs) (hnil : lv = .slice none 0 0 ∨ ∃ ad c, lv = .slice (some ad) xs.length c) (hg : ∀ x ∈ xs, Silo.isInt x.s ∧ Silo.isInt x.t ∧ x.v < Silo.M64) (hl : xs.length ≤ 1048576) (hf : fl.length ≤ 1048576) :
    Calls Try.prog 3 #[.int .i64 lo, .int .i64 hi, lv, .string (S fl)] w fun e w' => e = .returned (.bool true) ∧ Fp (fun _ => False) w w' := by
  have H : Hid _ := And.intro hin (And.intro hnil (fun x (hx : x ∈ xs) => (hg x hx).2))
  clear hin hnil hg
  go_enter Try.func3, Try.ntmps3
  go_wp2_with fail
  have hb0 := BookAt.new w
  have hf0 : Fp (fun k => w.heap.size ≤ k) w (w.alloc (.cells #[.int .i64 0, .slice none 0 0, .slice none 0 0, .slice none 0 0, .slice none 0 0, .slice none 0 0, .slice none 0 0, .slice none 0 0, .slice none 0 0, .slice none 0 0, .slice none 0 0] 32)) := Fp.alloc _ _ _
  have hB0 : w.heap.size ≤ (w.alloc (.cells #[.int .i64 0, .slice none 0 0, .slice none 0 0, .slice none 0 0, .slice none 0 0, .slice none 0 0, .slice none 0 0, .slice none 0 0, .slice none 0 0, .slice none 0 0, .slice none 0 0] 32)).heap.size := hf0.size
  obtain ⟨w0, hw0⟩ : ∃ w0, w.alloc (.cells #[.int .i64 0, .slice none 0 0, .slice none 0 0, .slice none 0 0, .slice none 0 0, .slice none 0 0, .slice none 0 0, .slice none 0 0, .slice none 0 0, .slice none 0 0, .slice none 0 0] 32) = w0 := ⟨_, rfl⟩
  rw [hw0] at hb0 hf0 hB0 ⊢
  have H0 : Hid _ := And.intro hb0 (And.intro hf0 hB0)
  clear hw0 hb0 hf0 hB0
  refine (fixed_any w0).mono ?_
  rintro e w1 ⟨rfl, h1⟩
  have H1 : Hid (BookAt w1 w.heap.size w.heap.size 0 0 (Array.replicate 8 (.slice none 0 0)) (.slice none 0 0) (.slice none 0 0) ∧ Fp (fun k => w.heap.size ≤ k) w w1) := ⟨H0.out.1.fp h1 (fun h => h) (fun _ _ h => h) (fun _ _ h => h), H0.out.2.1.trans' (h1.mono (fun _ _ h => h.elim))⟩
  clear h1 H0
  go_wp2_with fail
  refine (block_any w.heap.size w.heap.size 0 0 _ _ _ lo hi lv xs w1 H1.out.1 ((H.out.1.fp H1.out.2 (Nat.le_refl _) (fun k hk h => by omega)).up H1.out.2.size) H.out.2.1 (by omega) H.out.2.2 (by omega) (by omega) H1.out.2.size).mono ?_
  rintro e w2 ⟨rfl, ⟨v7, v8, h2⟩, h2f⟩
  have H2 : Hid _ := And.intro h2 (H1.out.2.trans' h2f)
  clear h2 h2f
  go_wp2_with fail
  refine (samples2_any w.heap.size w.heap.size (0 + 1) (0 + 4) _ v7 v8 fl w2 H2.out.1 (by omega) (by omega) (by omega) H2.out.2.size).mono ?_
  rintro e w3 ⟨rfl, _, h3⟩
  have H3 : Hid _ := H2.out.2.trans' h3
  clear h3
  go_wp2
  go_ret
  exact ⟨ret_val (by simp), H3.out.mono (fun k hk h => by omega)⟩

end Go.Proofs.Ytojjkjfcbfoinaa

namespace Go.Proofs.Ytojjkjfcbfoinaa.blocks
open Go.ChangeShapes Go.WideShapes Go.ChangeAt Go.RowKit
open Go.ChangeMaps (open_string shut_string)

theorem own : ownKnob Try.prog.godebug = none := by kernel_rfl
theorem laidOut : laidOutB Try.prog = true := by kernel_rfl

/-- What the bound gives. -/
theorem short {H : Type} {a b : Int} {d : DataW H} {s : ByteArray} (hk : Rows.uptoSmall H [.lit (.int .i64 a), .lit (.int .i64 b), d, .lit (.string s.data.toList)] = true) : Rows.uptoBulk d ≤ 1048576 ∧ s.data.toList.length ≤ 1048576 := by
  have h : Rows.uptoBulkAll [DataW.lit (H := H) (.int .i64 a), .lit (.int .i64 b), d, .lit (.string s.data.toList)] ≤ 1048576 := of_decide_eq_true hk
  simp only [Rows.uptoBulkAll, Rows.uptoBulk] at h
  omega

set_option maxRecDepth 100000 in
theorem nil_or {H : Type} {enc : TypeId × Value → H} {W : World} {base b0 : Nat} {sp : Nat → Bool} {held : Bool} {v : Value} {d : DataW H} {ps : List MemPlace} {r : Reach}
    (hval : Value.okWide Try.prog W r b0 22 v) (hd : DataW.Trod enc Try.prog W base sp held 22 v d ps) {raw : List Silo.Smp} {B : Nat} (hin : SmpIn W B v raw) : v = .slice none 0 0 ∨ ∃ ad c, v = .slice (some ad) raw.length c := by
  obtain ⟨a, len, cap, rfl⟩ := okWide_slice Try.underlying22 hval
  obtain ⟨fuel, h⟩ := hd
  have hc : (Value.slice a len cap).cells.toList = [Value.slice a len cap] := rfl
  rw [hc] at h
  obtain ⟨a', c', e, _⟩ := hin
  simp only [Value.slice.injEq] at e
  rcases Go.Deep.open_slice Try.underlying22 h with ⟨h1, _⟩ | ⟨a2, len', cap', _, _, _, _, h1, _⟩
  · simp only [List.cons.injEq, and_true] at h1
    exact .inl h1
  · simp only [List.cons.injEq, and_true, Value.slice.injEq] at h1
    exact .inr ⟨a2, cap, by rw [h1.1, e.2.1]⟩

set_option maxRecDepth 100000 in
theorem contract (H : Type) (enc : TypeId × Value → H) (W : World) (base : Nat) (args : Array Value) (ds gs : List (DataW H)) (before : List MemPlace)
    (hval : ∀ (j : Nat) t v, Try.f3.params[j]? = some t → args[j]? = some v → Value.okWide Try.prog W .any base t v)
    (hW : DataW.Whole enc Try.prog Try.f3.params.toList Rows.blocksSpec.vars false W args.toList ds gs before) (hk : Rows.uptoSmall H (ds ++ gs) = true) :
    Calls Try.prog 3 args W fun e W' => ∃ v, e = .returned v ∧ Rows.blocksSpec.post enc Try.prog Try.f3 false true false false W args v W' := by
  have hW' := hW
  obtain ⟨p, q, hA0, hV, rfl, hfz, hnd⟩ := hW
  have hA : DataW.TrodAll enc Try.prog W 0 (fun _ => true) true Try.f3.params.toList args.toList ds p := hA0
  rw [Try.params3] at hA hval
  obtain ⟨v0, v1, v2, v3, d0, d1, d2, d3, p0, p1, p2, p3, rfl, rfl, rfl, h0, h1, h2, h3⟩ := trodAll_four hA
  obtain ⟨rfl, rfl⟩ := trodVars_none hV
  obtain ⟨a, rfl, rfl, rfl, wa⟩ := open_int Try.underlying3 (hval 0 3 v0 rfl rfl) h0
  obtain ⟨b, rfl, rfl, rfl, wb⟩ := open_int Try.underlying3 (hval 1 3 v1 rfl rfl) h1
  obtain ⟨s, rfl, rfl, rfl, hmax⟩ := open_string Try.underlying9 (hval 3 9 v3 rfl rfl) h3
  obtain ⟨raw, hin, hg, hlen⟩ := open_smps (hval 2 22 v2 rfl rfl) h2
  have hnil := nil_or (hval 2 22 v2 rfl rfl) h2 hin
  clear hA0
  simp only [List.append_nil, List.nil_append] at hW' hk
  obtain ⟨hb2, hb3⟩ := short hk
  have hlt : ∀ x ∈ p2, x.block < W.heap.size := fun x hx => hW'.lt x hx
  refine (Blocks_walk a b v2 raw s.data.toList W hin hnil hg (by omega) hb3).mono fun e W' ⟨he, hf⟩ => ?_
  subst he
  have hbl : Below W.heap.size W W' := hf.below (Nat.le_refl _) (fun _ _ h => h)
  exact ⟨_, rfl, post_of_fp (pa := p2) (pv := []) hW' hf (fun _ _ _ => trodAll_cons_mk (shut_bool Try.underlying4 _) trodAll_mk0)
    (fun sp hsp => by
      have := trodAll_mk4 (shut_int (enc := enc) (w := W') (base := 0) (spare := sp) (held := true) Try.underlying3 wa) (shut_int Try.underlying3 wb)
        (Go.WideElems.Trod_stays laidOut (by kernel_rfl) (of_decide_eq_true (by kernel_rfl)) h2 (fun x hx => hbl.same (hlt x hx)) hsp) (shut_string Try.underlying9 hmax)
      simp only [List.append_nil, List.nil_append] at this
      exact this) (fun _ _ => rfl) (by simp)
    (ok_one (by kernel_rfl) rfl (okWide_bool_mk Try.underlying4 _))⟩

set_option maxRecDepth 100000 in
theorem lifted (os : Os) (started : os.Started) (H : Type) (enc : TypeId × Value → H) (F : Stop.Interp) :
    ReturnsInHanded {} Try.checked os 3 .any ((Rows.OpenSpec.upto Rows.blocksSpec).pre6 enc Try.prog Try.f3 Rows.blocksUptoRow.domain false) (((Rows.OpenSpec.upto Rows.blocksSpec).at F).post enc Try.prog Try.f3 false true false false) := by
  refine returnsInHanded_of_cond (C := Try.checked) (s := Rows.OpenSpec.upto Rows.blocksSpec) (k := Rows.uptoSmall) rfl own started (by kernel_rfl) Try.func3
    (OpenSpec.witness (enc := enc) (C := Try.checked) (s := Rows.OpenSpec.upto Rows.blocksSpec) (k := Rows.uptoSmall) rfl false ⟨#[], #[.int .i64 0, .int .i64 0, .slice none 0 0, .string .empty], []⟩ 8 (by kernel_rfl) (by kernel_rfl) (by kernel_rfl)
      (x := ([.lit (.int .i64 0), .lit (.int .i64 0), .nil, .lit (.string [])], [], [])) (by kernel_rfl) rfl (by kernel_rfl)) ?_
  intro W base args ds gs before hval hW _ hk _
  exact contract H enc W base args ds gs before hval hW hk

theorem proved : Rows.BlocksUptoSaid :=
  OpenClaim.holds_of_cond 3 Try.f3 rfl rfl rfl rfl rfl rfl rfl ⟨rfl, rfl, rfl, rfl, rfl⟩ rfl rfl rfl rfl rfl (by kernel_rfl) Try.func3 (by kernel_rfl)
    (of_decide_eq_true (by kernel_rfl)) (by unfold Func.isWrapper; first | (rw [if_pos (by decide +kernel)]; kernel_rfl) | (rw [if_neg (by decide +kernel)]; exact ⟨rfl, rfl⟩))
    (fun os started H enc _ F => lifted os started H enc F)

end Go.Proofs.Ytojjkjfcbfoinaa.blocks
