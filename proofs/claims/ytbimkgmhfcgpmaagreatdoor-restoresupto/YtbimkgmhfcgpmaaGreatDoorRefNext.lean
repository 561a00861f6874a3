/- siloref.next. -/
import Derived.Test.YtbimkgmhfcgpmaaGreatDoorPureHOne
import Derived.Test.YtbimkgmhfcgpmaaGreatDoorSmpOne
namespace Silo

/-- What has been gathered of the first k lines. -/
def GInv (kept : List (Ln × List UInt8)) (ls : List Ln) (r0 : List UInt8) (k : Nat) (r : List UInt8) (fs : List (List UInt8)) : Prop :=
  gather kept ls r0 = (gather kept (ls.drop k) r).map (fun q => (fs ++ q.1, q.2))

theorem GInv.start (kept : List (Ln × List UInt8)) (ls : List Ln) (r : List UInt8) : GInv kept ls r 0 r [] := by
  unfold GInv
  simp

theorem GInv.done {kept : List (Ln × List UInt8)} {ls : List Ln} {r0 r : List UInt8} {fs : List (List UInt8)} (h : GInv kept ls r0 ls.length r fs) : gather kept ls r0 = some (fs, r) := by
  unfold GInv at h
  rw [h, List.drop_length, gather]
  simp

theorem drop_at {α : Type} {l : List α} {k : Nat} {x : α} (h : l[k]? = some x) : l.drop k = x :: l.drop (k + 1) := by
  have hk : k < l.length := by
    rcases Nat.lt_or_ge k l.length with h' | h'
    · exact h'
    · rw [List.getElem?_eq_none h'] at h; cases h
  rw [List.drop_eq_getElem_cons hk]
  rw [List.getElem?_eq_getElem hk] at h
  rw [Option.some.inj h]

theorem GInv.has {kept : List (Ln × List UInt8)} {ls : List Ln} {r0 r : List UInt8} {fs : List (List UInt8)} {k : Nat} {l : Ln} {f : List UInt8} (h : GInv kept ls r0 k r fs) (hl : ls[k]? = some l) (hf : look kept l = some f) : GInv kept ls r0 (k + 1) r (fs ++ [f]) := by
  unfold GInv at h ⊢
  rw [h, drop_at hl, gather, hf]
  simp only
  cases gather kept (ls.drop (k + 1)) r with
  | none => rfl
  | some q => simp

theorem GInv.part {kept : List (Ln × List UInt8)} {ls : List Ln} {r0 r r1 : List UInt8} {fs : List (List UInt8)} {k : Nat} {l : Ln} {f : List UInt8} (h : GInv kept ls r0 k r fs) (hl : ls[k]? = some l) (hn : look kept l = none) (hp : partR r = some (f, r1)) (hf : fileIs l f = true) : GInv kept ls r0 (k + 1) r1 (fs ++ [f]) := by
  unfold GInv at h ⊢
  rw [h, drop_at hl, gather, hn]
  simp only [hp]
  rw [if_pos hf]
  cases gather kept (ls.drop (k + 1)) r1 with
  | none => rfl
  | some q => simp

theorem GInv.noPart {kept : List (Ln × List UInt8)} {ls : List Ln} {r0 r : List UInt8} {fs : List (List UInt8)} {k : Nat} {l : Ln} (h : GInv kept ls r0 k r fs) (hl : ls[k]? = some l) (hn : look kept l = none) (hp : partR r = none) : gather kept ls r0 = none := by
  unfold GInv at h
  rw [h, drop_at hl, gather, hn]
  simp only [hp]
  rfl

theorem GInv.noFit {kept : List (Ln × List UInt8)} {ls : List Ln} {r0 r r1 : List UInt8} {fs : List (List UInt8)} {k : Nat} {l : Ln} {f : List UInt8} (h : GInv kept ls r0 k r fs) (hl : ls[k]? = some l) (hn : look kept l = none) (hp : partR r = some (f, r1)) (hf : fileIs l f = false) : gather kept ls r0 = none := by
  unfold GInv at h
  rw [h, drop_at hl, gather, hn]
  simp only [hp]
  rw [if_neg (by rw [hf]; decide)]
  rfl

theorem look_none {kept : List (Ln × List UInt8)} {l : Ln} (h : ∀ p ∈ kept, p.1 ≠ l) : look kept l = none := by
  unfold look
  rw [List.find?_eq_none.2 (fun p hp => by simpa using h p hp)]

theorem look_take {kept : List (Ln × List UInt8)} {j : Nat} {p : Ln × List UInt8} (l : Ln) (hd : (kept.map Prod.fst).Nodup) (hj : kept[j]? = some p) : look (kept.take (j + 1)) l = if p.1 = l then some p.2 else look (kept.take j) l := by
  have hjl : j < kept.length := by
    rcases Nat.lt_or_ge j kept.length with h' | h'
    · exact h'
    · rw [List.getElem?_eq_none h'] at hj; cases hj
  have ht : kept.take (j + 1) = kept.take j ++ [p] := by rw [List.take_add_one, hj]; rfl
  rw [ht]
  unfold look
  rw [List.find?_append]
  by_cases hp : p.1 = l
  · rw [if_pos hp]
    have hno : (kept.take j).find? (fun q => decide (q.1 = l)) = none := by
      rw [List.find?_eq_none]
      intro q hq
      have hsub : List.Sublist ((kept.take j ++ [p]).map Prod.fst) (kept.map Prod.fst) := by rw [← ht]; exact (List.take_sublist _ _).map _
      have hd2 := hd.sublist hsub
      rw [List.map_append, List.nodup_append] at hd2
      have h3 := hd2.2.2 q.1 (List.mem_map_of_mem hq) p.1 (by simp)
      simp only [decide_eq_true_eq]
      intro hql
      exact h3 (hql.trans hp.symm)
    rw [hno]
    simp [hp]
  · rw [if_neg hp]
    simp [hp]

theorem stepR_short {c : Ch} {s : List UInt8} (h : ¬ 17 ≤ s.length) : stepR c s = none := by
  unfold stepR arcBody
  rw [if_neg (fun x => h x.1)]

theorem stepR_mark {c : Ch} {s : List UInt8} (h : s.head? ≠ some 65) : stepR c s = none := by
  unfold stepR arcBody
  rw [if_neg (fun x => h x.2.2)]

theorem stepR_seal {c : Ch} {s : List UInt8} (h : s ≠ sealed (s.take (s.length - 8))) : stepR c s = none := by
  unfold stepR arcBody
  rw [if_neg (fun x => h x.2.1)]

theorem stepR_open {c : Ch} {s body : List UInt8} (h17 : 17 ≤ s.length) (hb : s.take (s.length - 8) = body) (hs : s = sealed body) (hh : s.head? = some 65) : stepR c s = if (s.drop 1).take 8 = baseOf c.man then match partR (body.drop 9) with
      | none => none
      | some (m, r) => match manOf m with
        | none => none
        | some ls => match gather c.kept ls r with
          | some (fs, []) => some ⟨m, ls.zip fs⟩
          | _ => none
    else none := by
  subst hb
  have e1 : ((s.take (s.length - 8)).drop 1).take 8 = (s.drop 1).take 8 := by
    rw [List.drop_take, List.take_take]
    congr 1
    omega
  have e2 : ((s.take (s.length - 8)).drop 1).drop 8 = (s.take (s.length - 8)).drop 9 := by rw [List.drop_drop]
  unfold stepR arcBody
  rw [if_pos ⟨h17, hs, hh⟩]
  simp only [e1, e2]
  rfl

theorem partR_suffix {l p r : List UInt8} (h : partR l = some (p, r)) : (∃ k, l.drop k = r) ∧ p.length ≤ l.length := by
  unfold partR at h
  cases hc : rdCode l with
  | none => rw [hc] at h; cases h
  | some q =>
    obtain ⟨n, r0⟩ := q
    rw [hc] at h
    simp only at h
    split at h
    · simp only [Option.some.injEq, Prod.mk.injEq] at h
      obtain ⟨e1, _⟩ := rdCode_some hc
      refine ⟨⟨(leb n).length + n, ?_⟩, ?_⟩
      · rw [← h.2, e1, ← List.drop_drop, List.drop_left]
      · rw [← h.1, e1]
        simp
        omega
    · cases h

end Silo

namespace Go.Proofs.YtbimkgmhfcgpmaaGreatDoor
open Go.RowKit Go.Shelf

/-- What next leaves. -/
def NextRes (c : Silo.Ch) (s : List UInt8) (base : Nat) (e : Ending) (w' : World) : Prop := match Silo.stepR c s with
  | some c' => ∃ v, e = .returned (.tuple #[.string (S c'.man), v, .bool true]) ∧ World.strsAt w' base v (c'.kept.map Prod.snd)
  | none => ∃ m a n cp, e = .returned (.tuple #[.string m, .slice a n cp, .bool false])

theorem NextRes.bad {c : Silo.Ch} {s : List UInt8} {base : Nat} {w' : World} (h : Silo.stepR c s = none) (m : ByteArray) (a : Option Addr) (n cp : Nat) : NextRes c s base (.returned (.tuple #[.string m, .slice a n cp, .bool false])) w' := by
  unfold NextRes; rw [h]; exact ⟨m, a, n, cp, rfl⟩

theorem NextRes.ok {c c' : Silo.Ch} {s : List UInt8} {base : Nat} {w' : World} {v : Value} (h : Silo.stepR c s = some c') (hr : World.strsAt w' base v (c'.kept.map Prod.snd)) : NextRes c s base (.returned (.tuple #[.string (S c'.man), v, .bool true])) w' := by
  unfold NextRes; rw [h]; exact ⟨v, rfl, hr⟩

theorem lnsAt_cell {w : World} {base g cap n k j : Nat} {ls : List Silo.Ln} {l : Silo.Ln} {u : Value} (h : w.ownsRow base 46 5 (.slice (some ⟨g, 0, none⟩) n cap) n (lnCells ls)) (hk : ls[k]? = some l) (hj : (lnC l)[j]? = some u) : w.cell? ⟨g, k * 5 + j, none⟩ = some u := by
  have hjl : j < 5 := by
    rcases Nat.lt_or_ge j 5 with h' | h'
    · exact h'
    · rw [List.getElem?_eq_none (by simpa [lnC] using h')] at hj; cases hj
  have hx : (lnCells ls)[k * 5 + j]? = some u := by
    have e := List.take_append_drop k ls
    have hkl : k < ls.length := by
      rcases Nat.lt_or_ge k ls.length with h' | h'
      · exact h'
      · rw [List.getElem?_eq_none h'] at hk; cases hk
    rw [← e, lnCells_append, List.getElem?_append_right (by rw [lnCells_length, List.length_take]; omega), lnCells_length, List.length_take, Silo.drop_at hk]
    have : k * 5 + j - min k ls.length * 5 = j := by rw [Nat.min_eq_left (by omega)]; omega
    rw [this, show lnCells (l :: ls.drop (k + 1)) = lnC l ++ lnCells (ls.drop (k + 1)) from rfl, List.getElem?_append_left (by simpa [lnC] using hjl)]
    exact hj
  have h1 := World.ownsRow.cells h (g := g) rfl (k * 5 + j) _ hx
  simp only [Addr.add] at h1
  by_cases h0 : k * 5 + j = 0
  · rw [h0] at h1 ⊢; simpa using h1
  · rw [if_neg h0] at h1
    simpa using h1

theorem part_place {body m r : List UInt8} {i0 : Nat} (h9 : i0 ≤ body.length) (h : Silo.partR (body.drop i0) = some (m, r)) : ∃ i, body.length - r.length = i ∧ i ≤ body.length ∧ m.length ≤ body.length ∧ body.drop i = r := by
  refine ⟨_, rfl, Nat.sub_le _ _, ?_, ?_⟩
  · have := (Silo.partR_suffix h).2
    simp at this
    omega
  · obtain ⟨⟨k, hk⟩, _⟩ := Silo.partR_suffix h
    rw [List.drop_drop] at hk
    by_cases hb : i0 + k ≤ body.length
    · rw [← hk]
      congr 1
      simp
      omega
    · rw [List.drop_eq_nil_of_le (by omega)] at hk
      subst hk
      simp

theorem lines_old {c : Silo.Ch} {NF base : Nat} {e : Ending} {w' : World} (hc : c.Ok) (hN : (c.kept.map Prod.snd).length = NF) (h : LinesRes c.man base e w') : ∃ a cp b, e = .returned (.tuple #[.slice a NF cp, .bool b]) ∧ World.ownsRow w' base 46 5 (.slice a NF cp) NF (lnCells (c.kept.map Prod.fst)) := by
  have hN' : (c.kept.map Prod.fst).length = NF := by rw [← hN]; simp
  unfold LinesRes at h
  rcases hc.lines with ⟨h1, h2⟩ | h1
  · rw [h1, Silo.manOf_nil] at h
    subst h
    rw [h2] at hN' ⊢
    subst hN'
    exact ⟨none, 0, false, rfl, rfl, .inl ⟨rfl, rfl⟩⟩
  · rw [h1] at h
    obtain ⟨v, rfl, hr⟩ := h
    unfold World.lnsAt at hr
    rw [hN'] at hr
    obtain ⟨a, cp, rfl⟩ := ownsRow_form hr
    exact ⟨a, cp, true, rfl, hr⟩

theorem kept_nodup {c : Silo.Ch} (h : c.Ok) : (c.kept.map Prod.fst).Nodup := by
  rcases h.lines with ⟨_, h2⟩ | h1
  · rw [h2]; simp
  · exact Silo.manOf_nodup h1

theorem kept_ok {c : Silo.Ch} {p : Silo.Ln × List UInt8} (h : c.Ok) (hp : p ∈ c.kept) : p.1.Ok := by
  rcases h.lines with ⟨_, h2⟩ | h1
  · rw [h2] at hp; cases hp
  · exact (Silo.manOf_some h1).1 p.1 (List.mem_map_of_mem hp)

theorem kept_len {c : Silo.Ch} (h : c.Ok) : c.kept.length ≤ c.man.length := by
  rcases h.lines with ⟨_, h2⟩ | h1
  · rw [h2]; simp
  · have := Silo.manOf_len h1
    simpa using this

theorem lnTextInj {l l' : Silo.Ln} (h : l.Ok) (h' : l'.Ok) (e : l.text = l'.text) : l = l' := by
  have h1 := (Silo.lineOf_iff l.text l).2 ⟨rfl, h⟩
  have h2 := (Silo.lineOf_iff l.text l').2 ⟨e, h'⟩
  rw [h1] at h2
  exact Option.some.inj h2

theorem elemStr : ElemOk 22 9 1 16 := ElemOk.mk' (z := .string ByteArray.empty) Tryz.underlying22 Tryz.infoStr rfl (by decide) (by decide)

/-- One text more in a row of the call's own. -/
theorem str_next {w4 wi w5 : World} {a : Option Addr} {k cp g cap : Nat} {fs : List (List UInt8)} {f : List UInt8} {o : Obj} (hk : fs.length = k) (hF : Fp (fun _ => False) w4 wi) (hrow : World.strsAt wi w4.heap.size (.slice a k cp) fs)
    (h5 : RowAppended 9 1 (wi.alloc o) w5 w4.heap.size (.slice a k cp) k (strCells fs) [.string (S f)] g cap) :
    (fs ++ [f]).length = k + 1 ∧ World.strsAt w5 w4.heap.size (.slice (some ⟨g, 0, none⟩) (k + 1) cap) (fs ++ [f]) ∧ Fp (fun _ => False) w4 w5 := by
  refine ⟨by simp [hk], ?_, ?_⟩
  · have h := h5.row
    unfold World.strsAt
    rw [strCells_append, List.length_append, hk]
    exact h
  · exact (hF.trans' (Fp.alloc _ _ _)).trans h5.foot (fun _ h => h) (fun j hj e => by
      have := (World.ownsRow.lt hrow j e).1
      omega)

set_option maxHeartbeats 4000000 in
set_option maxRecDepth 100000 in
theorem Refnext_any (c : Silo.Ch) (hc : c.Ok) (s : List UInt8) (fv : Value) (w : World) (B : Nat) (hrow : World.strsAt w B fv (c.kept.map Prod.snd)) (hl : s.length ≤ 16777216) (hm : c.man.length ≤ 1099511627775) :
    Calls Tryz.prog 25 #[.string (S s), .string (S c.man), fv] w fun e w' => NextRes c s w.heap.size e w' ∧ Fp (fun _ => False) w w' := by
  have hs : (S s).size = s.length := rfl
  obtain ⟨fa, fc, rfl⟩ := strsAt_form hrow
  obtain ⟨NF, hNF⟩ : ∃ NF, (c.kept.map Prod.snd).length = NF := ⟨_, rfl⟩
  rw [hNF] at hrow ⊢
  have hNFl : NF ≤ 1099511627775 := by have := kept_len hc; simp at hNF; omega
  have HC : Hid _ := And.intro hc (And.intro hrow hNF)
  clear hc hrow hNF
  by_cases h17 : 17 ≤ s.length
  · obtain ⟨b0, hb0⟩ : ∃ b0, (S s)[0]'(by rw [hs]; omega) = b0 := ⟨_, rfl⟩
    have hf0 : s.head? = some b0 := by
      rw [← hb0]
      cases s with
      | nil => simp at h17
      | cons x t => rfl
    by_cases h65 : b0 = 65
    · have q65 : ((b0.toNat : Int) != 65) = false := by rw [h65]; rfl
      have HH : Hid (s.head? = some 65) := by show _ = _; rw [hf0, h65]
      obtain ⟨body, hbody⟩ : ∃ body, s.take (s.length - 8) = body := ⟨_, rfl⟩
      have hx : (S s).extract 0 (s.length - 8) = S body := by rw [S_take, S_toList, hbody]
      have hbl : body.length = s.length - 8 := by rw [← hbody]; simp
      have HBody : Hid _ := hbody
      clear hbody hf0 h65
      go_enter Tryz.func25, Tryz.ntmps25
      go_upto_if 41 with fail
      rw [hx]
      go_cut [10] from 27 to 44 (fun bv wx => bv = .string (S (Silo.baseOf c.man)) ∧ Hid (Fp (fun _ => False) w wx))
      case first =>
        by_cases hm0 : c.man = []
        · have q : ((S c.man).toList == []) = true := by rw [hm0, bytes_toList, S_toList]; rfl
          have q' : (S c.man).toList.isEmpty = true := by rw [hm0, bytes_toList, S_toList]; rfl
          have HB : Hid (Silo.baseOf c.man = List.replicate 8 0) := by show _ = _; unfold Silo.baseOf; rw [if_pos hm0]
          clear hm0
          rw [q']
          go_wp2
          go_meet
          exact ⟨by rw [HB.out]; rfl, Fp.refl _ _⟩
        · have q : ((S c.man).toList == []) = false := by
            rw [beq_eq_false_iff_ne]
            intro e
            exact hm0 (by simpa [bytes_toList, S_toList] using e)
          have q' : (S c.man).toList.isEmpty = false := by
            rw [bytes_toList, S_toList]
            cases hcm : c.man with
            | nil => exact absurd hcm hm0
            | cons b r => rfl
          have HB : Hid (Silo.baseOf c.man = Silo.be8 (Silo.fnv c.man)) := by show _ = _; unfold Silo.baseOf; rw [if_neg hm0]
          clear hm0
          rw [q']
          go_wp2_with fail
          refine (RefHash_any (S c.man) w (by show c.man.length ≤ maxLen; unfold maxLen; omega)).mono ?_
          rintro e w1 ⟨rfl, rfl⟩
          rw [S_toList]
          go_wp2_with fail
          refine (RefWide_any (Silo.fnv c.man) w1 (Silo.fnv_lt c.man)).mono ?_
          rintro e w2 ⟨rfl, h2⟩
          have H2 : Hid _ := h2
          clear h2
          go_wp2
          go_meet
          exact ⟨by rw [HB.out], H2.out⟩
      case rest =>
        obtain ⟨rfl, HF0⟩ := hcut
        go_wp2_with fail
        refine (RefSealed_any body wc (by omega)).mono ?_
        rintro e w1 ⟨rfl, h1⟩
        have HF1 : Hid (Fp (fun _ => False) w w1) := HF0.out.trans' h1
        clear h1
        obtain ⟨bs, hbs⟩ : ∃ bs, (s.drop 1).take 8 = bs := ⟨_, rfl⟩
        have hx19 : (S s).extract 1 9 = S bs := by rw [S_extract, S_toList, ← hbs]
        by_cases hse : s = Silo.sealed body
        · have qse : ((S s).toList == (S (Silo.sealed body)).toList) = true := by rw [bytes_toList, bytes_toList, S_toList, S_toList, beq_iff_eq]; exact hse
          have HOp : Hid _ := Silo.stepR_open (c := c) h17 HBody.out hse HH.out
          rw [hbs] at HOp
          clear hse hbs
          by_cases hba : bs = Silo.baseOf c.man
          · have qba : ((S bs).toList == (S (Silo.baseOf c.man)).toList) = true := by rw [bytes_toList, bytes_toList, S_toList, S_toList, beq_iff_eq]; exact hba
            rw [if_pos hba] at HOp
            clear hba
            go_wp2_with fail
            refine (Refpart_any body 9 w1 (by omega) (by omega)).mono ?_
            rintro e w2 ⟨rfl, h2⟩
            have HF2 : Hid (Fp (fun _ => False) w w2) := HF1.out.trans' h2
            clear h2 qba qse hx19
            cases hp : Silo.partR (body.drop 9) with
            | none =>
              rw [hp] at HOp
              unfold partRes
              simp only
              go_wp2_with fail
              refine (RefLines_any [] w2 (by simp)).mono ?_
              rintro e w3 ⟨h3, h4⟩
              unfold LinesRes at h3
              rw [Silo.manOf_nil] at h3
              subst h3
              have HF3 : Hid (Fp (fun _ => False) w w3) := HF2.out.trans' h4
              clear h4 hp
              go_wp2
              exact bodyPost_ret (v := .tuple #[.string ByteArray.empty, .slice none 0 0, .bool false]) (by simp [results, Tryz.results25, go_sem]; rfl) rfl ⟨NextRes.bad HOp.out _ _ _ _, HF3.out⟩
            | some q =>
              obtain ⟨m, r⟩ := q
              rw [hp] at HOp
              obtain ⟨i0, hi0, hi9, hml, hr0⟩ := part_place (body := body) (by omega) hp
              unfold partRes
              simp only
              rw [hi0]
              have HR0 : Hid _ := hr0
              clear hi0 hp hr0
              simp only at HOp
              go_wp2_with fail
              refine (RefLines_any m w2 (by omega)).mono ?_
              rintro e w3 ⟨h3, h4⟩
              have HF3 : Hid (Fp (fun _ => False) w w3) := HF2.out.trans' h4
              have q0 : decide (((i0 : Nat) : Int) < 0) = false := decide_eq_false (by omega)
              cases hmo : Silo.manOf m with
              | none =>
                unfold LinesRes at h3
                rw [hmo] at h3 HOp
                subst h3
                clear h4 hmo
                go_wp2
                exact bodyPost_ret (v := .tuple #[.string ByteArray.empty, .slice none 0 0, .bool false]) (by simp [results, Tryz.results25, go_sem]; rfl) rfl ⟨NextRes.bad HOp.out _ _ _ _, HF3.out⟩
              | some ls =>
                unfold LinesRes at h3
                rw [hmo] at h3 HOp
                obtain ⟨lv, rfl, hlr⟩ := h3
                obtain ⟨la, lc, rfl⟩ := ownsRow_form hlr
                have HL : Hid _ := hlr
                have HLok : Hid _ := And.intro hmo (Silo.manOf_some hmo)
                clear h4 hmo hlr
                simp only at HOp
                go_wp2_with fail
                refine (RefLines_any c.man w3 hm).mono ?_
                rintro e w4 ⟨h5, h6⟩
                obtain ⟨oa, oc, ob, rfl, hor⟩ := lines_old HC.out.1 HC.out.2.2 h5
                have HOld : Hid _ := hor
                have HL4 : Hid (World.lnsAt w4 w2.heap.size (.slice la ls.length lc) ls) := Fp.ownsRow h6 HL.out (fun _ _ h => h)
                have HF4 : Hid (Fp (fun _ => False) w w4) := HF3.out.trans' h6
                have HFs : Hid (World.strsAt w4 B (.slice fa NF fc) (c.kept.map Prod.snd)) := Fp.ownsRow HF4.out HC.out.2.1 (fun _ _ h => h)
                clear h5 h6 hor HL
                have hlsl : ls.length ≤ 1099511627775 := by have h1 := Silo.manOf_len (m := m) HLok.out.1; omega
                go_wp2_with fail
                go_loopw [12, 17, 18] (fun iv ov kv wr => ∃ (k i : Nat) (fs : List (List UInt8)) (a : Option Addr) (cp : Nat), k ≤ ls.length ∧ iv = .int .i64 (i : Nat) ∧ i ≤ body.length ∧ kv = .int .i64 (k : Nat) ∧ ov = .slice a k cp ∧ Hid (fs.length = k ∧ Silo.GInv c.kept ls r k (body.drop i) fs ∧ World.strsAt wr w4.heap.size (.slice a k cp) fs ∧ Fp (fun _ => False) w4 wr)) (fun _ _ kv _ => ls.length - (intOf kv).toNat)
                case atStart => exact ⟨0, i0, [], none, 0, Nat.zero_le _, rfl, by omega, rfl, rfl, rfl, by rw [HR0.out]; exact Silo.GInv.start _ _ _, ⟨rfl, .inl ⟨rfl, rfl⟩⟩, Fp.refl _ _⟩
                case round =>
                  obtain ⟨k, i, fs, a, cp, hk, rfl, hi, rfl, rfl, HI⟩ := hrel
                  obtain ⟨wo, hwo⟩ : ∃ wo, wo = wr := ⟨_, rfl⟩
                  subst hwo
                  by_cases hlast : k = ls.length
                  · have qi : decide (((k : Nat) : Int) < ((ls.length : Nat) : Int)) = false := decide_eq_false (by omega)
                    have HG : Hid (Silo.gather c.kept ls r = some (fs, body.drop i)) := by
                      show _ = _
                      exact Silo.GInv.done (by rw [← hlast]; exact HI.out.2.1)
                    have HZ : Hid ((ls.zip fs).map Prod.snd = fs) := by
                      have := HI.out.1
                      show _ = _
                      exact List.map_snd_zip (by omega)
                    by_cases hend : i = body.length
                    · have qe : (((i : Nat) : Int) == ((body.length : Nat) : Int)) = true := by rw [hend]; simp
                      have HE : Hid (Silo.stepR c s = some ⟨m, ls.zip fs⟩) := by
                        show _ = _
                        rw [HOp.out, HG.out, hend, List.drop_length]
                      go_wp2
                      refine bodyPost_ret (v := .tuple #[.string (S m), .slice a k cp, .bool true]) (by simp [results, Tryz.results25, go_sem, S_size]; omega) rfl ⟨NextRes.ok HE.out ?_, HF4.out.trans' HI.out.2.2.2⟩
                      rw [HZ.out]
                      exact ownsRow_base HI.out.2.2.1 HF4.out.size
                    · have qe : (((i : Nat) : Int) == ((body.length : Nat) : Int)) = false := by rw [beq_eq_false_iff_ne]; omega
                      have HE : Hid (Silo.stepR c s = none) := by
                        show _ = _
                        rw [HOp.out, HG.out]
                        obtain ⟨b1, t1, hbt⟩ : ∃ b1 t1, body.drop i = b1 :: t1 := List.exists_cons_of_ne_nil (by
                          intro h
                          have := congrArg List.length h
                          simp at this
                          omega)
                        rw [hbt]
                      go_wp2
                      exact bodyPost_ret (v := .tuple #[.string (S m), .slice a k cp, .bool false]) (by simp [results, Tryz.results25, go_sem, S_size]; omega) rfl ⟨NextRes.bad HE.out _ _ _ _, HF4.out.trans' HI.out.2.2.2⟩
                  · have qi : decide (((k : Nat) : Int) < ((ls.length : Nat) : Int)) = true := decide_eq_true (by omega)
                    obtain ⟨l, hlk⟩ : ∃ l, ls[k]? = some l := ⟨ls[k]'(by omega), List.getElem?_eq_getElem (by omega)⟩
                    obtain ⟨gl, hgl⟩ : ∃ g, la = some ⟨g, 0, none⟩ := by
                      rcases HL4.out.2 with ⟨_, h2⟩ | ⟨g', cap, cur, h3, _⟩
                      · omega
                      · cases h3; exact ⟨g', rfl⟩
                    subst hgl
                    have HCell : Hid (∀ W, Fp (fun _ => False) w4 W → ∀ j u, (lnC l)[j]? = some u → W.cell? ⟨gl, k * 5 + j, none⟩ = some u) := fun W hW j u hu => lnsAt_cell (Fp.ownsRow hW HL4.out (fun _ _ h => h)) hlk hu
                    have HLk : Hid _ := And.intro hlk (HLok.out.2.1 l (List.mem_of_getElem? hlk))
                    have hkl : k < ls.length := by omega
                    clear hlk hlast
                    go_wp2_with fail
                    go_loopw [19, 20, 21] (fun fv hv jv wi => ∃ (j : Nat), j ≤ NF ∧ jv = .int .i64 (j : Nat) ∧ hv = .bool (Silo.look (c.kept.take j) l).isSome ∧ fv = .string (S ((Silo.look (c.kept.take j) l).getD [])) ∧ Hid (Fp (fun _ => False) w4 wi ∧ World.strsAt wi w4.heap.size (.slice a k cp) fs)) (fun _ _ jv _ => NF - (intOf jv).toNat)
                    case atStart => exact ⟨0, Nat.zero_le _, rfl, rfl, rfl, HI.out.2.2.2, HI.out.2.2.1⟩
                    case round =>
                      obtain ⟨j, hj, rfl, rfl, rfl, HW⟩ := hrel
                      by_cases hjl : j = NF
                      · have qj : decide (((j : Nat) : Int) < ((NF : Nat) : Int)) = false := decide_eq_false (by omega)
                        have HT : Hid (Silo.look (c.kept.take j) l = Silo.look c.kept l) := by
                          show _ = _
                          have := HC.out.2.2
                          rw [List.take_of_length_le (by simp at this; omega)]
                        rw [HT.out]
                        cases hlo : Silo.look c.kept l with
                        | some f =>
                          have HG2 : Hid _ := HI.out.2.1.has HLk.out.1 hlo
                          clear hlo
                          simp only [Option.isSome_some, Option.getD_some]
                          go_wp2_with (at_builtin; refine wpList_append_row elemStr rfl _ _ rfl w4.heap.size (.slice a k cp) k (strCells fs) [.string (S f)] rfl ?c1 ⟨wr.heap.size, 0, none⟩ rfl rfl ?c5 ?c2 ?c3 ?c4 ?_; rotate_left 5; intro g4 cap4 w5 H5)
                          case c1 => exact World.ownsRow.alloc (by have h1 := HI.out.1; have h2 := HW.out.2; unfold World.strsAt at h2; rw [h1] at h2; exact h2) _
                          case c5 => intro u hu; simp at hu; subst hu; rfl
                          case c2 => exact row_new wr [.string (S f)] _ _
                          case c3 => omega
                          case c4 => have := HW.out.1.size; simp; omega
                          go_roundw
                          case rel => exact ⟨k + 1, i, fs ++ [f], some ⟨g4, 0, none⟩, cap4, by omega, rfl, hi, by go_num, rfl, (str_next HI.out.1 HW.out.1 HW.out.2 H5.out).1, HG2.out, (str_next HI.out.1 HW.out.1 HW.out.2 H5.out).2.1, (str_next HI.out.1 HW.out.1 HW.out.2 H5.out).2.2⟩
                          case measure => simp [intOf]; omega
                        | none =>
                          have HLo : Hid _ := hlo
                          clear hlo
                          simp only [Option.isSome_none, Option.getD_none]
                          go_wp2_with fail
                          refine (Refpart_any body i wr hi (by omega)).mono ?_
                          rintro e w6 ⟨rfl, h6⟩
                          have HF6 : Hid (Fp (fun _ => False) w4 w6 ∧ World.strsAt w6 w4.heap.size (.slice a k cp) fs) := ⟨HW.out.1.trans' h6, Fp.ownsRow h6 HW.out.2 (fun _ _ h => h)⟩
                          clear h6
                          cases hp6 : Silo.partR (body.drop i) with
                          | none =>
                            have HE : Hid (Silo.stepR c s = none) := by show _ = _; rw [HOp.out, HI.out.2.1.noPart HLk.out.1 HLo.out hp6]
                            clear hp6
                            unfold partRes
                            simp only
                            go_wp2
                            exact bodyPost_ret (v := .tuple #[.string ByteArray.empty, .slice none 0 0, .bool false]) (by simp [results, Tryz.results25, go_sem]; rfl) rfl ⟨NextRes.bad HE.out _ _ _ _, HF4.out.trans' HF6.out.1⟩
                          | some q =>
                            obtain ⟨f, r1⟩ := q
                            obtain ⟨i1, hi1, hi19, hfl, hr1⟩ := part_place hi hp6
                            unfold partRes
                            simp only
                            rw [hi1]
                            have HP6 : Hid _ := And.intro hp6 hr1
                            clear hi1 hp6 hr1
                            have qi1 : decide (((i1 : Nat) : Int) < 0) = false := decide_eq_false (by omega)
                            have kc0 : w6.cell? ⟨gl, k * 5, none⟩ = some (.int .i64 (l.lo : Nat)) := HCell.out w6 HF6.out.1 0 _ rfl
                            have kc1 : w6.cell? ⟨gl, k * 5 + 1, none⟩ = some (.int .i64 (l.hi : Nat)) := HCell.out w6 HF6.out.1 1 _ rfl
                            have kc2 : w6.cell? ⟨gl, k * 5 + 2, none⟩ = some (.int .i64 (l.size : Nat)) := HCell.out w6 HF6.out.1 2 _ rfl
                            have kc3 : w6.cell? ⟨gl, k * 5 + 3, none⟩ = some (.int .u64 (l.hash : Nat)) := HCell.out w6 HF6.out.1 3 _ rfl
                            have kc4 : w6.cell? ⟨gl, k * 5 + 4, none⟩ = some (.string (S (l.text ++ [10]))) := HCell.out w6 HF6.out.1 4 _ rfl
                            go_wp2_with fail
                            refine (RefLineFits_any l f w6 (by omega)).mono ?_
                            rintro e w7 ⟨rfl, h7⟩
                            have HF7 : Hid (Fp (fun _ => False) w4 w7 ∧ World.strsAt w7 w4.heap.size (.slice a k cp) fs) := ⟨HF6.out.1.trans' h7, Fp.ownsRow h7 HF6.out.2 (fun _ _ h => h)⟩
                            clear h7 kc0 kc1 kc2 kc3 kc4
                            go_wp2_with fail
                            refine (RefSamples_any f w7 (by omega)).mono ?_
                            rintro e w8 ⟨h8, h9, h10⟩
                            have HF8 : Hid (Fp (fun _ => False) w4 w8 ∧ World.strsAt w8 w4.heap.size (.slice a k cp) fs) := ⟨HF7.out.1.trans' h8, Fp.ownsRow h8 HF7.out.2 (fun _ _ h => h)⟩
                            have kd0 : w8.cell? ⟨gl, k * 5, none⟩ = some (.int .i64 (l.lo : Nat)) := HCell.out w8 HF8.out.1 0 _ rfl
                            have kd1 : w8.cell? ⟨gl, k * 5 + 1, none⟩ = some (.int .i64 (l.hi : Nat)) := HCell.out w8 HF8.out.1 1 _ rfl
                            clear h8
                            have HNo : Hid (Silo.fileIs l f = false → Silo.stepR c s = none) := fun hff => by rw [HOp.out, HI.out.2.1.noFit HLk.out.1 HLo.out HP6.out.1 hff]
                            cases hd : Silo.decode f with
                            | none =>
                              have HE : Hid (Silo.stepR c s = none) := HNo.out (by unfold Silo.fileIs; rw [hd]; simp)
                              have e9 := h9 hd
                              subst e9
                              unfold bad4
                              clear h9 h10 hd
                              cases hfit : l.fits f
                              · go_wp2
                                exact bodyPost_ret (v := .tuple #[.string ByteArray.empty, .slice none 0 0, .bool false]) (by simp [results, Tryz.results25, go_sem]; rfl) rfl ⟨NextRes.bad HE.out _ _ _ _, HF4.out.trans' HF8.out.1⟩
                              · go_wp2
                                exact bodyPost_ret (v := .tuple #[.string ByteArray.empty, .slice none 0 0, .bool false]) (by simp [results, Tryz.results25, go_sem]; rfl) rfl ⟨NextRes.bad HE.out _ _ _ _, HF4.out.trans' HF8.out.1⟩
                            | some d =>
                              obtain ⟨da, dc, e10, _⟩ := h10 d hd
                              subst e10
                              have HFI : Hid (Silo.fileIs l f = (l.fits f && decide (d.lo = l.lo ∧ d.hi = l.hi))) := by show _ = _; unfold Silo.fileIs; rw [hd]
                              clear h9 h10 hd
                              cases hfit : l.fits f
                              · have HE : Hid (Silo.stepR c s = none) := HNo.out (by rw [HFI.out, hfit]; rfl)
                                clear hfit
                                go_wp2
                                exact bodyPost_ret (v := .tuple #[.string ByteArray.empty, .slice none 0 0, .bool false]) (by simp [results, Tryz.results25, go_sem]; rfl) rfl ⟨NextRes.bad HE.out _ _ _ _, HF4.out.trans' HF8.out.1⟩
                              · by_cases hdl : d.lo = l.lo
                                · have ql : (((d.lo : Nat) : Int) != ((l.lo : Nat) : Int)) = false := by rw [hdl]; simp
                                  by_cases hdh : d.hi = l.hi
                                  · have qh : (((d.hi : Nat) : Int) != ((l.hi : Nat) : Int)) = false := by rw [hdh]; simp
                                    have HG2 : Hid (Silo.GInv c.kept ls r (k + 1) (body.drop i1) (fs ++ [f])) := by
                                      have h1 := HI.out.2.1.part HLk.out.1 HLo.out HP6.out.1 (by rw [HFI.out, hfit]; simp [hdl, hdh])
                                      rw [← HP6.out.2] at h1
                                      exact h1
                                    clear hfit hdl hdh
                                    go_wp2_with (at_builtin; refine wpList_append_row elemStr rfl _ _ rfl w4.heap.size (.slice a k cp) k (strCells fs) [.string (S f)] rfl ?c1 ⟨w8.heap.size, 0, none⟩ rfl rfl ?c5 ?c2 ?c3 ?c4 ?_; rotate_left 5; intro g4 cap4 w5 H5)
                                    case c1 => exact World.ownsRow.alloc (by have h1 := HI.out.1; have h2 := HF8.out.2; unfold World.strsAt at h2; rw [h1] at h2; exact h2) _
                                    case c5 => intro u hu; simp at hu; subst hu; rfl
                                    case c2 => exact row_new w8 [.string (S f)] _ _
                                    case c3 => omega
                                    case c4 => have := HF8.out.1.size; simp; omega
                                    go_roundw
                                    case rel => exact ⟨k + 1, i1, fs ++ [f], some ⟨g4, 0, none⟩, cap4, by omega, rfl, hi19, by go_num, rfl, (str_next HI.out.1 HF8.out.1 HF8.out.2 H5.out).1, HG2.out, (str_next HI.out.1 HF8.out.1 HF8.out.2 H5.out).2.1, (str_next HI.out.1 HF8.out.1 HF8.out.2 H5.out).2.2⟩
                                    case measure => simp [intOf]; omega
                                  · have qh : (((d.hi : Nat) : Int) != ((l.hi : Nat) : Int)) = true := by rw [bne_iff_ne]; omega
                                    have HE : Hid (Silo.stepR c s = none) := HNo.out (by rw [HFI.out, decide_eq_false (fun h => hdh h.2)]; simp)
                                    clear hfit hdl
                                    go_wp2
                                    exact bodyPost_ret (v := .tuple #[.string ByteArray.empty, .slice none 0 0, .bool false]) (by simp [results, Tryz.results25, go_sem]; rfl) rfl ⟨NextRes.bad HE.out _ _ _ _, HF4.out.trans' HF8.out.1⟩
                                · have ql : (((d.lo : Nat) : Int) != ((l.lo : Nat) : Int)) = true := by rw [bne_iff_ne]; omega
                                  have HE : Hid (Silo.stepR c s = none) := HNo.out (by rw [HFI.out, decide_eq_false (fun h => hdl h.1)]; simp)
                                  clear hfit
                                  go_wp2
                                  exact bodyPost_ret (v := .tuple #[.string ByteArray.empty, .slice none 0 0, .bool false]) (by simp [results, Tryz.results25, go_sem]; rfl) rfl ⟨NextRes.bad HE.out _ _ _ _, HF4.out.trans' HF8.out.1⟩
                      · have qj : decide (((j : Nat) : Int) < ((NF : Nat) : Int)) = true := decide_eq_true (by omega)
                        obtain ⟨p, hpj⟩ : ∃ p, c.kept[j]? = some p := by
                          have := HC.out.2.2
                          simp at this
                          exact ⟨c.kept[j]'(by omega), List.getElem?_eq_getElem (by omega)⟩
                        obtain ⟨go', hgo⟩ : ∃ g, oa = some ⟨g, 0, none⟩ := by
                          rcases HOld.out.2 with ⟨_, h2⟩ | ⟨g', cap, cur, h3, _⟩
                          · omega
                          · cases h3; exact ⟨g', rfl⟩
                        obtain ⟨gf, hgf⟩ : ∃ g, fa = some ⟨g, 0, none⟩ := by
                          rcases HFs.out.2 with ⟨_, h2⟩ | ⟨g', cap, cur, h3, _⟩
                          · have := HC.out.2.2; omega
                          · cases h3; exact ⟨g', rfl⟩
                        subst hgo
                        subst hgf
                        have c1 : wr.cell? ⟨go', j * 5 + 4, none⟩ = some (.string (S (p.1.text ++ [10]))) := lnsAt_cell (ls := c.kept.map Prod.fst) (l := p.1) (Fp.ownsRow HW.out.1 HOld.out (fun _ _ h => h)) (by simp [hpj]) rfl
                        have c2 : wr.cell? ⟨gl, k * 5 + 4, none⟩ = some (.string (S (l.text ++ [10]))) := HCell.out wr HW.out.1 4 _ rfl
                        have c3 : wr.cell? ⟨gf, j, none⟩ = some (.string (S p.2)) := by
                          have h1 := HC.out.2.2
                          have h2 := strsAt_cell (w := wr) (base := B) (g := gf) (cap := fc) (xs := c.kept.map Prod.snd) (by rw [h1]; exact Fp.ownsRow HW.out.1 HFs.out (fun _ _ h => h)) j (by rw [h1]; omega)
                          rw [h2]
                          congr 3
                          rw [List.getElem_map]
                          congr 1
                          rw [List.getElem?_eq_getElem (by simp at h1; omega)] at hpj
                          exact Option.some.inj hpj
                        have HTk : Hid _ := Silo.look_take l (kept_nodup HC.out.1) hpj
                        have HPok : Hid (p.1.Ok) := kept_ok HC.out.1 (List.mem_of_getElem? hpj)
                        clear hpj
                        by_cases hpl : p.1 = l
                        · have qp : ((S (p.1.text ++ [10])).toList == (S (l.text ++ [10])).toList) = true := by rw [hpl]; simp
                          rw [if_pos hpl] at HTk
                          clear hpl
                          go_wp2_with fail
                          go_quiet (fail)
                          go_wp2
                          go_roundw
                          case rel => exact ⟨j + 1, by omega, by go_num, by rw [HTk.out]; rfl, by rw [HTk.out]; rfl, HW.out.1.trans' (Fp.drewN _ _ _), Fp.ownsRow (Fp.drewN (fun _ => False) _ _) HW.out.2 (fun _ _ h => h)⟩
                          case measure => simp [intOf]; omega
                        · have qp : ((S (p.1.text ++ [10])).toList == (S (l.text ++ [10])).toList) = false := by
                            rw [beq_eq_false_iff_ne]
                            intro e
                            have e' : p.1.text ++ [10] = l.text ++ [10] := by simpa [bytes_toList, S_toList] using e
                            exact hpl (lnTextInj HPok.out HLk.out.2 (List.append_cancel_right e'))
                          rw [if_neg hpl] at HTk
                          clear hpl
                          go_wp2_with fail
                          go_quiet (fail)
                          go_wp2
                          go_roundw
                          case rel => exact ⟨j + 1, by omega, by go_num, by rw [HTk.out], by rw [HTk.out], HW.out.1.trans' (Fp.drewN _ _ _), Fp.ownsRow (Fp.drewN (fun _ => False) _ _) HW.out.2 (fun _ _ h => h)⟩
                          case measure => simp [intOf]; omega
          · have qba : ((S bs).toList == (S (Silo.baseOf c.man)).toList) = false := by rw [bytes_toList, bytes_toList, S_toList, S_toList, beq_eq_false_iff_ne]; exact hba
            rw [if_neg hba] at HOp
            clear hba
            go_wp2
            exact bodyPost_ret (v := .tuple #[.string ByteArray.empty, .slice none 0 0, .bool false]) (by simp [results, Tryz.results25, go_sem]; rfl) rfl ⟨NextRes.bad HOp.out _ _ _ _, HF1.out⟩
        · have qse : ((S s).toList == (S (Silo.sealed body)).toList) = false := by rw [bytes_toList, bytes_toList, S_toList, S_toList, beq_eq_false_iff_ne]; exact hse
          have HN : Hid _ := Silo.stepR_seal (c := c) (s := s) (by rw [HBody.out]; exact hse)
          clear hse
          go_wp2
          exact bodyPost_ret (v := .tuple #[.string ByteArray.empty, .slice none 0 0, .bool false]) (by simp [results, Tryz.results25, go_sem]; rfl) rfl ⟨NextRes.bad HN.out _ _ _ _, HF1.out⟩
    · have q65 : ((b0.toNat : Int) != 65) = true := by
        rw [bne_iff_ne]
        intro e
        exact h65 (UInt8.toNat.inj (by have e' : b0.toNat = 65 := by omega
                                       rw [e']; rfl))
      have HN : Hid _ := Silo.stepR_mark (c := c) (s := s) (by rw [hf0]; simpa using h65)
      clear hf0 h65
      go_enter Tryz.func25, Tryz.ntmps25
      go_wp2
      exact bodyPost_ret (v := .tuple #[.string ByteArray.empty, .slice none 0 0, .bool false]) (by simp [results, Tryz.results25, go_sem]; rfl) rfl ⟨NextRes.bad HN.out _ _ _ _, Fp.refl _ _⟩
  · have HN : Hid _ := Silo.stepR_short (c := c) h17
    go_enter Tryz.func25, Tryz.ntmps25
    go_wp2
    exact bodyPost_ret (v := .tuple #[.string ByteArray.empty, .slice none 0 0, .bool false]) (by simp [results, Tryz.results25, go_sem]; rfl) rfl ⟨NextRes.bad HN.out _ _ _ _, Fp.refl _ _⟩

end Go.Proofs.YtbimkgmhfcgpmaaGreatDoor
