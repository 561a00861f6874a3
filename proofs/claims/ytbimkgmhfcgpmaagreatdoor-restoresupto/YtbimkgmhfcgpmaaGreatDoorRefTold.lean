/- siloref.Told. -/
import Derived.Test.YtbimkgmhfcgpmaaGreatDoorRefTold0
namespace Go.Proofs.YtbimkgmhfcgpmaaGreatDoor
open Go.RowKit Go.Shelf

set_option maxHeartbeats 4000000 in
set_option maxRecDepth 100000 in
theorem RefTold_any (lo hi : Nat) (v : Value) (l : List Silo.Smp) (w : World) (hlo : lo ≤ 999999) (hhi : hi ≤ 999999) (hin : SmpIn w w.heap.size v l) (hl : l.length ≤ 16777216) (hg : ∀ x ∈ l, Silo.goodSmp x) :
    Calls Tryz.prog 58 #[.int .i64 lo, .int .i64 hi, v] w fun e w' => e = .returned (.string (S (Silo.sealed (Silo.toldBody lo hi l)))) ∧ Fp (fun _ => False) w w' := by
  obtain ⟨ad, c, rfl, hin'⟩ := hin
  have hT := Silo.toldFrom_len l none (fun p h => by cases h) hg (by omega)
  have hlo9 : lo < Silo.M64 := by unfold Silo.M64; omega
  have hhi9 : hi < Silo.M64 := by unfold Silo.M64; omega
  have z1 := leb_size lo hlo9
  have z2 := leb_size hi hhi9
  have H : Hid _ := And.intro hin' (And.intro hg (And.intro hT (And.intro hlo9 hhi9)))
  clear hin' hg hT hlo9 hhi9
  go_enter Tryz.func58, Tryz.ntmps58
  go_wp2_with fail
  refine (RefCode_any lo w H.out.2.2.2.1).mono ?_
  rintro e w1 ⟨rfl, h1⟩
  have H1 : Hid _ := h1
  clear h1
  go_wp2_with fail
  refine (RefCode_any hi w1 H.out.2.2.2.2).mono ?_
  rintro e w2 ⟨rfl, h2⟩
  have H2 : Hid _ := H1.out.trans' h2
  clear h2 H1
  go_wp2_with fail
  go_loopw [7, 8] (fun sv iv wr => ∃ k : Nat, k ≤ l.length ∧ iv = .int .i64 k ∧ ∃ D : List UInt8, sv = .string (S D) ∧ Hid ((∃ d, D = 66 :: (Silo.leb lo ++ Silo.leb hi ++ d) ∧ Silo.toldFrom none l = d ++ Silo.toldFrom (Silo.lastOf l k) (l.drop k)) ∧ Fp (fun _ => False) w wr)) (fun _ iv _ => l.length - (intOf iv).toNat)
  case atStart => 
    refine ⟨0, by omega, rfl, 66 :: (Silo.leb lo ++ Silo.leb hi), ?_, ⟨[], by simp, rfl⟩, H2.out⟩
    have e : S (66 :: (Silo.leb lo ++ Silo.leb hi)) = S [66] ++ S (Silo.leb lo) ++ S (Silo.leb hi) := by rw [S_append, S_append]; rfl
    rw [e]
    rfl
  case round =>
    obtain ⟨k, hk, rfl, D, rfl, HR⟩ := hrel
    by_cases hlt : k < l.length
    · obtain ⟨b, off, hb⟩ : ∃ b off, ad = some ⟨b, off, none⟩ ∧ b < w.heap.size ∧ ∀ k (hk : k < l.length),
          w.cell? ⟨b, off + k * 3, none⟩ = some (.int .i64 l[k].s) ∧ w.cell? ⟨b, off + k * 3 + 1, none⟩ = some (.int .i64 l[k].t) ∧ w.cell? ⟨b, off + k * 3 + 2, none⟩ = some (.int .u64 (l[k].v : Nat)) := by
        rcases H.out.1 with h | h
        · rw [h] at hlt; simp at hlt
        · exact h
      obtain ⟨rfl, hbt, hcell⟩ := hb
      have hcells : ∀ j (hj : j < l.length), wr.cell? ⟨b, off + j * 3, none⟩ = some (.int .i64 l[j].s) ∧ wr.cell? ⟨b, off + j * 3 + 1, none⟩ = some (.int .i64 l[j].t) ∧ wr.cell? ⟨b, off + j * 3 + 2, none⟩ = some (.int .u64 (l[j].v : Nat)) := fun j hj => by
        rw [HR.out.2.cell (p := ⟨b, off + j * 3, none⟩) hbt (fun h => h), HR.out.2.cell (p := ⟨b, off + j * 3 + 1, none⟩) hbt (fun h => h), HR.out.2.cell (p := ⟨b, off + j * 3 + 2, none⟩) hbt (fun h => h)]
        exact hcell j hj
      have hbr : b < wr.heap.size := Nat.lt_of_lt_of_le hbt HR.out.2.size
      have HC : Hid _ := hcells
      obtain ⟨c0, c1, c2⟩ := hcells k hlt
      obtain ⟨x, hx⟩ : ∃ x, l[k] = x := ⟨_, rfl⟩
      rw [hx] at c0 c1 c2
      have hgx : Silo.goodSmp x := by rw [← hx]; exact H.out.2.1 _ (List.getElem_mem _)
      have HX : Hid _ := And.intro hx hgx
      clear hcell hcells hgx hx
      have kN : (k : Int) < (l.length : Int) := by omega
      have hD : D.length ≤ 671088680 := by
        obtain ⟨d, h1, h2⟩ := HR.out.1
        have h3 := H.out.2.2.1
        rw [h2] at h3
        have h4 := Silo.leb_len lo H.out.2.2.2.1
        have h5 := Silo.leb_len hi H.out.2.2.2.2
        rw [h1]
        simp only [List.length_append, List.length_cons] at h3 ⊢
        omega
      have hDs : (S D).size ≤ 671088680 := hD
      clear hD
      obtain ⟨wz, hwz⟩ : ∃ wz, wz = wr := ⟨_, rfl⟩
      subst hwz
      go_upto_region 5 with fail
      go_cut [40] from 19 to 122 (fun cv wx => cv = .bool (Silo.sameB (Silo.lastOf l k) x) ∧ Hid (Fp (fun _ => False) wz wx))
      case first =>
        by_cases hk0 : 0 < k
        · obtain ⟨j, hkj⟩ : ∃ j, k = j + 1 := ⟨k - 1, by omega⟩
          have hjl : j < l.length := by omega
          obtain ⟨p0, p1, p2⟩ := HC.out j hjl
          obtain ⟨p, hp⟩ : ∃ p, l[j] = p := ⟨_, rfl⟩
          rw [hp] at p0 p1 p2
          have hlast : Silo.lastOf l k = some p := by subst hkj; rw [Silo.lastOf_succ hjl, hp]
          have hj1 : IntKind.i64.wrap ((k : Int) - 1) = (j : Int) := by rw [show (k : Int) - 1 = (j : Int) by omega, IntKind.wrap_i64]; omega
          have hj2 : decide ((0 : Int) < (k : Int)) = true := decide_eq_true (by omega)
          have hj4 : decide (0 < k) = true := decide_eq_true hk0
          have jN : (j : Int) < (l.length : Int) := by omega
          have HP : Hid _ := hlast
          clear hp hlast hkj
          by_cases hps : p.s = x.s
          · have t1 : (p.s == x.s) = true := by simpa using hps
            have t2 : Hid (Silo.sameB (some p) x = true) := by show decide (p.s = x.s) = true; simpa using hps
            clear hps
            go_quiet (fail)
            go_wp2
            go_meet
            exact ⟨by rw [HP.out, t2.out], Fp.drewN _ _ _⟩
          · have t1 : (p.s == x.s) = false := by simpa using hps
            have t2 : Hid (Silo.sameB (some p) x = false) := by show decide (p.s = x.s) = false; simpa using hps
            clear hps
            go_quiet (fail)
            go_wp2
            go_meet
            exact ⟨by rw [HP.out, t2.out], Fp.drewN _ _ _⟩
        · have hj2 : decide ((0 : Int) < (k : Int)) = false := decide_eq_false (by omega)
          have hj4 : decide (0 < k) = false := decide_eq_false hk0
          have t2 : Hid (Silo.sameB (Silo.lastOf l k) x = false) := by show Silo.sameB (Silo.lastOf l k) x = false; rw [show k = 0 by omega]; rfl
          go_quiet (fail)
          go_wp2
          go_meet
          exact ⟨by rw [t2.out], Fp.drewN _ _ _⟩
      case rest =>
        obtain ⟨rfl, HFW⟩ := hcut
        cases hsb : Silo.sameB (Silo.lastOf l k) x with
        | true =>
          obtain ⟨p, hlast, hps⟩ : ∃ p, Silo.lastOf l k = some p ∧ p.s = x.s := by
            cases hl9 : Silo.lastOf l k with
            | none => rw [hl9] at hsb; cases hsb
            | some p => rw [hl9] at hsb; exact ⟨p, rfl, by simpa [Silo.sameB] using hsb⟩
          obtain ⟨j, hkj⟩ : ∃ j, k = j + 1 := by
            cases k with
            | zero => cases hlast
            | succ j => exact ⟨j, rfl⟩
          have hjl : j < l.length := by omega
          have hp : l[j] = p := by subst hkj; rw [Silo.lastOf_succ hjl] at hlast; simpa using hlast
          obtain ⟨p0, p1, p2⟩ := HC.out j hjl
          rw [hp] at p0 p1 p2
          have hgp : Silo.goodSmp p := by rw [← hp]; exact H.out.2.1 _ (List.getElem_mem _)
          have HP : Hid _ := And.intro hlast (And.intro hps hgp)
          have hj1 : IntKind.i64.wrap ((k : Int) - 1) = (j : Int) := by rw [show (k : Int) - 1 = (j : Int) by omega, IntKind.wrap_i64]; omega
          have jN : (j : Int) < (l.length : Int) := by omega
          clear hp hlast hps hgp hkj hsb
          have hcw : ∀ w', Fp (fun _ => False) wz w' → w'.cell? ⟨b, off + k * 3 + 1, none⟩ = some (.int .i64 x.t) ∧ w'.cell? ⟨b, off + k * 3 + 2, none⟩ = some (.int .u64 (x.v : Nat)) ∧ w'.cell? ⟨b, off + j * 3 + 1, none⟩ = some (.int .i64 p.t) ∧ w'.cell? ⟨b, off + j * 3 + 2, none⟩ = some (.int .u64 (p.v : Nat)) := fun w' h =>
            ⟨by rw [h.cell (p := ⟨b, off + k * 3 + 1, none⟩) hbr (fun h => h)]; exact c1, by rw [h.cell (p := ⟨b, off + k * 3 + 2, none⟩) hbr (fun h => h)]; exact c2, by rw [h.cell (p := ⟨b, off + j * 3 + 1, none⟩) hbr (fun h => h)]; exact p1, by rw [h.cell (p := ⟨b, off + j * 3 + 2, none⟩) hbr (fun h => h)]; exact p2⟩
          have HCW : Hid _ := hcw
          clear hcw
          obtain ⟨y1, hy1⟩ : ∃ y1, Silo.tcode x.t p.t false = y1 := ⟨_, rfl⟩
          have hy9 : y1 < Silo.M64 := by rw [← hy1]; exact Silo.tcode_lt x.t p.t false HX.out.2.2.2.1
          have g1 : IntKind.u64.wrap (IntKind.u64.wrap x.t - IntKind.u64.wrap p.t) = (y1 : Int) := by
            rw [← hy1, IntKind.wrap_u64, IntKind.wrap_u64, IntKind.wrap_u64]
            unfold Silo.tcode
            simp only [Bool.false_eq_true, if_false]
            omega
          obtain ⟨y2, hy2⟩ : ∃ y2, x.v ^^^ p.v = y2 := ⟨_, rfl⟩
          have hy29 : y2 < Silo.M64 := by rw [← hy2]; exact Silo.xor_lt _ _ HX.out.2.2.2.2 HP.out.2.2.2.2.2
          have g2 : bits BinOp.xor IntKind.u64 (x.v : Int) (p.v : Int) = (y2 : Int) := by
            have q1 := HX.out.2.2.2.2
            have q2 := HP.out.2.2.2.2.2
            unfold Silo.M64 at q1 q2
            rw [← hy2, bits_xor_u64_nat _ _ q1 q2]
          clear z1 z2
          have s1 := leb_size y1 hy9
          have s2 := leb_size y2 hy29
          have z1 : ¬ 9223372036854775807 < (S D).size + (S (Silo.leb y1)).size := by omega
          have z2 : ¬ 9223372036854775807 < (S D).size + (S (Silo.leb y1)).size + (S (Silo.leb y2)).size := by omega
          have HY : Hid _ := And.intro hy1 (And.intro hy9 (And.intro hy2 hy29))
          clear hy1 hy9 hy2 hy29 c0 c1 c2 p0 p1 p2
          go_wp2_with fail
          refine wp_region_inv (by kernel_rfl) (by kernel_rfl) (fun listed a' w' => ∃ u41 u42 u43 u44 u45 u46 u47 u48 u49 u50 u51 u52 u53 u54 u55 u56 u57 u58 u59 u60 u61 u62 u63 u64 u65 u66 u67 u68 u69 u70 u71 u7 : Value, a' = { tmps := #[.int .i64 ((lo : Nat) : Int), .int .i64 ((hi : Nat) : Int), .slice (some ⟨b, off, none⟩) l.length c, undef, undef, undef, .string { data := #[] }, u7, .int .i64 ((k : Nat) : Int), u9, u10, .int .i64 ((lo : Nat) : Int), .int .u64 ((lo : Nat) : Int), .string (S (Silo.leb lo)), .string ({ data := #[66] } ++ S (Silo.leb lo)), .int .i64 ((hi : Nat) : Int), .int .u64 ((hi : Nat) : Int), .string (S (Silo.leb hi)), .string ({ data := #[66] } ++ S (Silo.leb lo) ++ S (Silo.leb hi)), u19, u20, u21, u22, u23, u24, u25, u26, u27, u28, u29, u30, u31, u32, u33, u34, u35, u36, u37, u38, u39, .bool true, u41, u42, u43, u44, u45, u46, u47, u48, u49, u50, u51, u52, u53, u54, u55, u56, u57, u58, u59, u60, u61, u62, u63, u64, u65, u66, u67, u68, u69, u70, u71, u72, u73, u74, u75, u76, u77, u78, u79, u80, u81, u82, u83, u84, u85, u86, u87, u88, u89, u90, u91, u92, u93, u94, u95, u96, u97, u98, u99, u100, u101, u102, u103, u104, u105, u106, u107, u108, u109, u110, u111, u112, u113, u114, u115, u116, u117, u118, u119, u120, u121, u122, undef, undef, undef], defers := [] } ∧ Hid (TNext wz l b off c k j y1 y2 x p D listed u41 u42 u43 u44 u45 u46 u47 u48 u49 u50 u51 u52 u53 u54 u55 u56 u57 u58 u59 u60 u61 u62 u63 u64 u65 u66 u67 u68 u69 u70 u71 u7 w')) ?r60 ?r6end ?r6step
          case r60 => exact ⟨_, _, _, _, _, _, _, _, _, _, _, _, _, _, _, _, _, _, _, _, _, _, _, _, _, _, _, _, _, _, _, _, rfl, TNext.start (HFW.out.trans' (Fp.drew _ _))⟩
          case r6end =>
            rintro listed a' w' hall ⟨u41, u42, u43, u44, u45, u46, u47, u48, u49, u50, u51, u52, u53, u54, u55, u56, u57, u58, u59, u60, u61, u62, u63, u64, u65, u66, u67, u68, u69, u70, u71, u7, rfl, HI⟩
            obtain rfl := HI.out.e0 (hall 0 (by decide))
            obtain rfl := HI.out.e1 (hall 1 (by decide))
            obtain rfl := HI.out.e2 (hall 2 (by decide))
            obtain rfl := HI.out.e3 (hall 3 (by decide))
            obtain rfl := HI.out.e4 (hall 4 (by decide))
            obtain rfl := HI.out.e5 (hall 5 (by decide))
            obtain rfl := HI.out.e6 (hall 6 (by decide))
            obtain rfl := HI.out.e7 (hall 7 (by decide))
            obtain rfl := HI.out.e8 (hall 8 (by decide))
            obtain rfl := HI.out.e9 (hall 9 (by decide))
            obtain rfl := HI.out.e10 (hall 10 (by decide))
            obtain rfl := HI.out.e11 (hall 11 (by decide))
            obtain rfl := HI.out.e12 (hall 12 (by decide))
            obtain rfl := HI.out.e13 (hall 13 (by decide))
            obtain rfl := HI.out.e14 (hall 14 (by decide))
            obtain rfl := HI.out.e15 (hall 15 (by decide))
            obtain rfl := HI.out.e16 (hall 16 (by decide))
            obtain rfl := HI.out.e17 (hall 17 (by decide))
            obtain rfl := HI.out.e18 (hall 18 (by decide))
            obtain rfl := HI.out.e19 (hall 19 (by decide))
            obtain rfl := HI.out.e20 (hall 20 (by decide))
            obtain rfl := HI.out.e21 (hall 21 (by decide))
            obtain rfl := HI.out.e22 (hall 22 (by decide))
            obtain rfl := HI.out.e23 (hall 23 (by decide))
            obtain rfl := HI.out.e24 (hall 24 (by decide))
            obtain rfl := HI.out.e25 (hall 25 (by decide))
            obtain rfl := HI.out.e26 (hall 26 (by decide))
            obtain rfl := HI.out.e27 (hall 27 (by decide))
            obtain rfl := HI.out.e28 (hall 28 (by decide))
            obtain rfl := HI.out.e29 (hall 29 (by decide))
            obtain rfl := HI.out.e30 (hall 30 (by decide))
            obtain rfl := HI.out.e31 (hall 31 (by decide))
            have hw := HI.out.x0
            have HW9 : Hid _ := hw
            clear hw HI hall
            dsimp only
            go_wp2
            go_roundw
            case rel =>
              refine ⟨k + 1, by omega, by go_num, D ++ Silo.tNext p x, ?_, ?_, HR.out.2.trans' HW9.out⟩
              · rw [Silo.tNext, HY.out.1, HY.out.2.2.1, ← List.append_assoc, ← S_append, ← S_append]
              · obtain ⟨d, h1, h2⟩ := HR.out.1
                refine ⟨d ++ Silo.tNext p x, by rw [h1]; simp, ?_⟩
                rw [h2, Silo.told_stepA hlt HP.out.1 (by rw [HX.out.1]; exact HP.out.2.1), HX.out.1, List.append_assoc]
            case measure => simp [intOf]; omega
          case r6step =>
            rintro listed a' w' i o ho hi hd hdep hcl ⟨u41, u42, u43, u44, u45, u46, u47, u48, u49, u50, u51, u52, u53, u54, u55, u56, u57, u58, u59, u60, u61, u62, u63, u64, u65, u66, u67, u68, u69, u70, u71, u7, rfl, HI⟩ K hK
            match i, ho with
            | 0, ho =>
              cases ho
              have q31 : done listed 31 = false := nd hcl (j := 31) rfl ⟨0, .phase⟩ (by simp) rfl hd
              obtain rfl := HI.out.k7 q31
              go_simp
              refine hK _ _ ⟨_, _, _, _, _, _, _, _, _, _, _, _, _, _, _, _, _, _, _, _, _, _, _, _, _, _, _, _, _, _, _, _, rfl, ?_⟩
              exact HI.out.s0 HI.out.x0
            | 1, ho =>
              cases ho
              go_simp
              refine hK _ _ ⟨_, _, _, _, _, _, _, _, _, _, _, _, _, _, _, _, _, _, _, _, _, _, _, _, _, _, _, _, _, _, _, _, rfl, ?_⟩
              exact HI.out.s1 HI.out.x0
            | 2, ho =>
              cases ho
              go_simp
              refine hK _ _ ⟨_, _, _, _, _, _, _, _, _, _, _, _, _, _, _, _, _, _, _, _, _, _, _, _, _, _, _, _, _, _, _, _, rfl, ?_⟩
              exact HI.out.s2 HI.out.x0
            | 3, ho =>
              cases ho
              have d1 := hdep ⟨1, .data⟩ (by simp) rfl
              obtain rfl := HI.out.e1 d1
              have d2 := hdep ⟨2, .data⟩ (by simp) rfl
              obtain rfl := HI.out.e2 d2
              go_simp
              refine hK _ _ ⟨_, _, _, _, _, _, _, _, _, _, _, _, _, _, _, _, _, _, _, _, _, _, _, _, _, _, _, _, _, _, _, _, rfl, ?_⟩
              exact HI.out.s3 HI.out.x0
            | 4, ho =>
              cases ho
              have d3 := hdep ⟨3, .data⟩ (by simp) rfl
              obtain rfl := HI.out.e3 d3
              go_simp
              refine hK _ _ ⟨_, _, _, _, _, _, _, _, _, _, _, _, _, _, _, _, _, _, _, _, _, _, _, _, _, _, _, _, _, _, _, _, rfl, ?_⟩
              exact HI.out.s4 HI.out.x0
            | 5, ho =>
              cases ho
              have d4 := hdep ⟨4, .data⟩ (by simp) rfl
              obtain rfl := HI.out.e4 d4
              have hw := HI.out.x0
              obtain ⟨q1, q2, q3, q4⟩ := HCW.out _ hw
              go_simp
              refine hK _ _ ⟨_, _, _, _, _, _, _, _, _, _, _, _, _, _, _, _, _, _, _, _, _, _, _, _, _, _, _, _, _, _, _, _, rfl, ?_⟩
              exact HI.out.s5 HI.out.x0
            | 6, ho =>
              cases ho
              have d5 := hdep ⟨5, .data⟩ (by simp) rfl
              obtain rfl := HI.out.e5 d5
              go_simp
              refine hK _ _ ⟨_, _, _, _, _, _, _, _, _, _, _, _, _, _, _, _, _, _, _, _, _, _, _, _, _, _, _, _, _, _, _, _, rfl, ?_⟩
              exact HI.out.s6 HI.out.x0
            | 7, ho =>
              cases ho
              go_simp
              refine hK _ _ ⟨_, _, _, _, _, _, _, _, _, _, _, _, _, _, _, _, _, _, _, _, _, _, _, _, _, _, _, _, _, _, _, _, rfl, ?_⟩
              exact HI.out.s7 HI.out.x0
            | 8, ho =>
              cases ho
              go_simp
              refine hK _ _ ⟨_, _, _, _, _, _, _, _, _, _, _, _, _, _, _, _, _, _, _, _, _, _, _, _, _, _, _, _, _, _, _, _, rfl, ?_⟩
              exact HI.out.s8 HI.out.x0
            | 9, ho =>
              cases ho
              have d8 := hdep ⟨8, .data⟩ (by simp) rfl
              obtain rfl := HI.out.e8 d8
              go_simp
              refine hK _ _ ⟨_, _, _, _, _, _, _, _, _, _, _, _, _, _, _, _, _, _, _, _, _, _, _, _, _, _, _, _, _, _, _, _, rfl, ?_⟩
              exact HI.out.s9 HI.out.x0
            | 10, ho =>
              cases ho
              have d7 := hdep ⟨7, .data⟩ (by simp) rfl
              obtain rfl := HI.out.e7 d7
              have d9 := hdep ⟨9, .data⟩ (by simp) rfl
              obtain rfl := HI.out.e9 d9
              go_simp
              refine hK _ _ ⟨_, _, _, _, _, _, _, _, _, _, _, _, _, _, _, _, _, _, _, _, _, _, _, _, _, _, _, _, _, _, _, _, rfl, ?_⟩
              exact HI.out.s10 HI.out.x0
            | 11, ho =>
              cases ho
              have d10 := hdep ⟨10, .data⟩ (by simp) rfl
              obtain rfl := HI.out.e10 d10
              go_simp
              refine hK _ _ ⟨_, _, _, _, _, _, _, _, _, _, _, _, _, _, _, _, _, _, _, _, _, _, _, _, _, _, _, _, _, _, _, _, rfl, ?_⟩
              exact HI.out.s11 HI.out.x0
            | 12, ho =>
              cases ho
              have d11 := hdep ⟨11, .data⟩ (by simp) rfl
              obtain rfl := HI.out.e11 d11
              have hw := HI.out.x0
              obtain ⟨q1, q2, q3, q4⟩ := HCW.out _ hw
              go_simp
              refine hK _ _ ⟨_, _, _, _, _, _, _, _, _, _, _, _, _, _, _, _, _, _, _, _, _, _, _, _, _, _, _, _, _, _, _, _, rfl, ?_⟩
              exact HI.out.s12 HI.out.x0
            | 13, ho =>
              cases ho
              have d12 := hdep ⟨12, .data⟩ (by simp) rfl
              obtain rfl := HI.out.e12 d12
              go_simp
              refine hK _ _ ⟨_, _, _, _, _, _, _, _, _, _, _, _, _, _, _, _, _, _, _, _, _, _, _, _, _, _, _, _, _, _, _, _, rfl, ?_⟩
              exact HI.out.s13 HI.out.x0
            | 14, ho =>
              cases ho
              have d6 := hdep ⟨6, .data⟩ (by simp) rfl
              obtain rfl := HI.out.e6 d6
              have d13 := hdep ⟨13, .data⟩ (by simp) rfl
              obtain rfl := HI.out.e13 d13
              go_simp
              refine hK _ _ ⟨_, _, _, _, _, _, _, _, _, _, _, _, _, _, _, _, _, _, _, _, _, _, _, _, _, _, _, _, _, _, _, _, rfl, ?_⟩
              exact HI.out.s14 HI.out.x0
            | 15, ho =>
              cases ho
              have d14 := hdep ⟨14, .data⟩ (by simp) rfl
              obtain rfl := HI.out.e14 d14
              have hw := HI.out.x0
              go_simp
              refine (RefCode_any y1 _ HY.out.2.1).mono ?_
              rintro e w5 ⟨rfl, h5⟩
              have hS5 := hw.trans' h5
              refine hK _ _ ⟨_, _, _, _, _, _, _, _, _, _, _, _, _, _, _, _, _, _, _, _, _, _, _, _, _, _, _, _, _, _, _, _, rfl, ?_⟩
              exact HI.out.s15 hS5
            | 16, ho =>
              cases ho
              have d0 := hdep ⟨0, .data⟩ (by simp) rfl
              obtain rfl := HI.out.e0 d0
              have d15 := hdep ⟨15, .data⟩ (by simp) rfl
              obtain rfl := HI.out.e15 d15
              go_simp
              refine hK _ _ ⟨_, _, _, _, _, _, _, _, _, _, _, _, _, _, _, _, _, _, _, _, _, _, _, _, _, _, _, _, _, _, _, _, rfl, ?_⟩
              exact HI.out.s16 HI.out.x0
            | 17, ho =>
              cases ho
              go_simp
              refine hK _ _ ⟨_, _, _, _, _, _, _, _, _, _, _, _, _, _, _, _, _, _, _, _, _, _, _, _, _, _, _, _, _, _, _, _, rfl, ?_⟩
              exact HI.out.s17 HI.out.x0
            | 18, ho =>
              cases ho
              go_simp
              refine hK _ _ ⟨_, _, _, _, _, _, _, _, _, _, _, _, _, _, _, _, _, _, _, _, _, _, _, _, _, _, _, _, _, _, _, _, rfl, ?_⟩
              exact HI.out.s18 HI.out.x0
            | 19, ho =>
              cases ho
              have d17 := hdep ⟨17, .data⟩ (by simp) rfl
              obtain rfl := HI.out.e17 d17
              have d18 := hdep ⟨18, .data⟩ (by simp) rfl
              obtain rfl := HI.out.e18 d18
              go_simp
              refine hK _ _ ⟨_, _, _, _, _, _, _, _, _, _, _, _, _, _, _, _, _, _, _, _, _, _, _, _, _, _, _, _, _, _, _, _, rfl, ?_⟩
              exact HI.out.s19 HI.out.x0
            | 20, ho =>
              cases ho
              have d19 := hdep ⟨19, .data⟩ (by simp) rfl
              obtain rfl := HI.out.e19 d19
              go_simp
              refine hK _ _ ⟨_, _, _, _, _, _, _, _, _, _, _, _, _, _, _, _, _, _, _, _, _, _, _, _, _, _, _, _, _, _, _, _, rfl, ?_⟩
              exact HI.out.s20 HI.out.x0
            | 21, ho =>
              cases ho
              have d20 := hdep ⟨20, .data⟩ (by simp) rfl
              obtain rfl := HI.out.e20 d20
              have hw := HI.out.x0
              obtain ⟨q1, q2, q3, q4⟩ := HCW.out _ hw
              go_simp
              refine hK _ _ ⟨_, _, _, _, _, _, _, _, _, _, _, _, _, _, _, _, _, _, _, _, _, _, _, _, _, _, _, _, _, _, _, _, rfl, ?_⟩
              exact HI.out.s21 HI.out.x0
            | 22, ho =>
              cases ho
              go_simp
              refine hK _ _ ⟨_, _, _, _, _, _, _, _, _, _, _, _, _, _, _, _, _, _, _, _, _, _, _, _, _, _, _, _, _, _, _, _, rfl, ?_⟩
              exact HI.out.s22 HI.out.x0
            | 23, ho =>
              cases ho
              go_simp
              refine hK _ _ ⟨_, _, _, _, _, _, _, _, _, _, _, _, _, _, _, _, _, _, _, _, _, _, _, _, _, _, _, _, _, _, _, _, rfl, ?_⟩
              exact HI.out.s23 HI.out.x0
            | 24, ho =>
              cases ho
              have d23 := hdep ⟨23, .data⟩ (by simp) rfl
              obtain rfl := HI.out.e23 d23
              go_simp
              refine hK _ _ ⟨_, _, _, _, _, _, _, _, _, _, _, _, _, _, _, _, _, _, _, _, _, _, _, _, _, _, _, _, _, _, _, _, rfl, ?_⟩
              exact HI.out.s24 HI.out.x0
            | 25, ho =>
              cases ho
              have d22 := hdep ⟨22, .data⟩ (by simp) rfl
              obtain rfl := HI.out.e22 d22
              have d24 := hdep ⟨24, .data⟩ (by simp) rfl
              obtain rfl := HI.out.e24 d24
              go_simp
              refine hK _ _ ⟨_, _, _, _, _, _, _, _, _, _, _, _, _, _, _, _, _, _, _, _, _, _, _, _, _, _, _, _, _, _, _, _, rfl, ?_⟩
              exact HI.out.s25 HI.out.x0
            | 26, ho =>
              cases ho
              have d25 := hdep ⟨25, .data⟩ (by simp) rfl
              obtain rfl := HI.out.e25 d25
              go_simp
              refine hK _ _ ⟨_, _, _, _, _, _, _, _, _, _, _, _, _, _, _, _, _, _, _, _, _, _, _, _, _, _, _, _, _, _, _, _, rfl, ?_⟩
              exact HI.out.s26 HI.out.x0
            | 27, ho =>
              cases ho
              have d26 := hdep ⟨26, .data⟩ (by simp) rfl
              obtain rfl := HI.out.e26 d26
              have hw := HI.out.x0
              obtain ⟨q1, q2, q3, q4⟩ := HCW.out _ hw
              go_simp
              refine hK _ _ ⟨_, _, _, _, _, _, _, _, _, _, _, _, _, _, _, _, _, _, _, _, _, _, _, _, _, _, _, _, _, _, _, _, rfl, ?_⟩
              exact HI.out.s27 HI.out.x0
            | 28, ho =>
              cases ho
              have d21 := hdep ⟨21, .data⟩ (by simp) rfl
              obtain rfl := HI.out.e21 d21
              have d27 := hdep ⟨27, .data⟩ (by simp) rfl
              obtain rfl := HI.out.e27 d27
              go_simp
              refine hK _ _ ⟨_, _, _, _, _, _, _, _, _, _, _, _, _, _, _, _, _, _, _, _, _, _, _, _, _, _, _, _, _, _, _, _, rfl, ?_⟩
              exact HI.out.s28 HI.out.x0
            | 29, ho =>
              cases ho
              have d28 := hdep ⟨28, .data⟩ (by simp) rfl
              obtain rfl := HI.out.e28 d28
              have hw := HI.out.x0
              go_simp
              refine (RefCode_any y2 _ HY.out.2.2.2).mono ?_
              rintro e w5 ⟨rfl, h5⟩
              have hS5 := hw.trans' h5
              refine hK _ _ ⟨_, _, _, _, _, _, _, _, _, _, _, _, _, _, _, _, _, _, _, _, _, _, _, _, _, _, _, _, _, _, _, _, rfl, ?_⟩
              exact HI.out.s29 hS5
            | 30, ho =>
              cases ho
              have d16 := hdep ⟨16, .data⟩ (by simp) rfl
              obtain rfl := HI.out.e16 d16
              have d29 := hdep ⟨29, .data⟩ (by simp) rfl
              obtain rfl := HI.out.e29 d29
              go_simp
              refine hK _ _ ⟨_, _, _, _, _, _, _, _, _, _, _, _, _, _, _, _, _, _, _, _, _, _, _, _, _, _, _, _, _, _, _, _, rfl, ?_⟩
              exact HI.out.s30 HI.out.x0
            | 31, ho =>
              cases ho
              have d30 := hdep ⟨30, .data⟩ (by simp) rfl
              obtain rfl := HI.out.e30 d30
              go_simp
              refine hK _ _ ⟨_, _, _, _, _, _, _, _, _, _, _, _, _, _, _, _, _, _, _, _, _, _, _, _, _, _, _, _, _, _, _, _, rfl, ?_⟩
              exact HI.out.s31 hi HI.out.x0
        | false =>
          have HSB : Hid _ := hsb
          clear hsb
          go_wp2_with fail
          go_loopw [9, 10] (fun nv iv wr => ∃ i : Nat, k ≤ i ∧ i ≤ l.length ∧ iv = .int .i64 i ∧ nv = .int .i64 ((i - k : Nat) : Int) ∧ Hid ((∀ q (hq : q < l.length), k ≤ q → q < i → l[q].s = x.s) ∧ Fp (fun _ => False) wz wr)) (fun _ iv _ => l.length - (intOf iv).toNat)
          case atStart => exact ⟨k, by omega, by omega, rfl, by simp, fun q _ h1 h2 => by omega, HFW.out⟩
          case round =>
            obtain ⟨i, hki, hil, rfl, rfl, HQ⟩ := hrel
            obtain ⟨n, hn⟩ : ∃ n, i - k = n := ⟨_, rfl⟩
            rw [hn]
            have HN : Hid _ := hn
            have hn9 : n ≤ 16777216 := by omega
            clear hn
            have hwr : ∀ w', Fp (fun _ => False) wz w' → b < w'.heap.size := fun w' h => Nat.lt_of_lt_of_le hbr h.size
            have e0 : wr.cell? ⟨b, off + k * 3, none⟩ = some (.int .i64 x.s) := by rw [HQ.out.2.cell (p := ⟨b, off + k * 3, none⟩) hbr (fun h => h)]; exact c0
            go_upto_region 9 with fail
            go_cut [89] from 73 to 93 (fun cv wx => cv = .bool (Silo.goesOn l i x) ∧ Hid (Fp (fun _ => False) wz wx))
            case first =>
              by_cases hi9 : i < l.length
              · obtain ⟨r0, r1, r2⟩ := HC.out i hi9
                have f0 : wr.cell? ⟨b, off + i * 3, none⟩ = some (.int .i64 (l[i]).s) := by rw [HQ.out.2.cell (p := ⟨b, off + i * 3, none⟩) hbr (fun h => h)]; exact r0
                obtain ⟨y, hy⟩ : ∃ y, l[i] = y := ⟨_, rfl⟩
                rw [hy] at f0
                have hgo : Silo.goesOn l i x = Silo.sameB (some y) x := by unfold Silo.goesOn; rw [List.getElem?_eq_getElem hi9, hy]
                have HG : Hid _ := hgo
                clear hy hgo r0 r1 r2
                have iN : (i : Int) < (l.length : Int) := by omega
                have iD : decide ((i : Int) < (l.length : Int)) = true := decide_eq_true iN
                by_cases hps : y.s = x.s
                · have t1 : (y.s == x.s) = true := by simpa using hps
                  have t2 : Hid (Silo.sameB (some y) x = true) := by show decide (y.s = x.s) = true; simpa using hps
                  clear hps
                  go_quiet (fail)
                  go_wp2
                  go_meet
                  exact ⟨by rw [HG.out, t2.out], HQ.out.2.trans' (Fp.drewN _ _ _)⟩
                · have t1 : (y.s == x.s) = false := by simpa using hps
                  have t2 : Hid (Silo.sameB (some y) x = false) := by show decide (y.s = x.s) = false; simpa using hps
                  clear hps
                  go_quiet (fail)
                  go_wp2
                  go_meet
                  exact ⟨by rw [HG.out, t2.out], HQ.out.2.trans' (Fp.drewN _ _ _)⟩
              · have hgo : Hid (Silo.goesOn l i x = false) := by show Silo.sameB l[i]? x = false; rw [List.getElem?_eq_none (by omega)]; rfl
                have iD : decide ((i : Int) < (l.length : Int)) = false := decide_eq_false (by omega)
                go_quiet (fail)
                go_wp2
                go_meet
                exact ⟨by rw [hgo.out], HQ.out.2.trans' (Fp.drewN _ _ _)⟩
            case rest =>
              obtain ⟨rfl, HF2⟩ := hcut
              cases hgo : Silo.goesOn l i x with
              | true =>
                have hi9 : i < l.length ∧ ∀ (h : i < l.length), l[i].s = x.s := by
                  unfold Silo.goesOn at hgo
                  by_cases h : i < l.length
                  · rw [List.getElem?_eq_getElem h] at hgo
                    exact ⟨h, fun _ => by simpa [Silo.sameB] using hgo⟩
                  · rw [List.getElem?_eq_none (by omega)] at hgo; cases hgo
                have HG : Hid _ := hi9
                have hi8 := hi9.1
                clear hgo hi9
                go_wp2
                go_roundw
                case rel =>
                  refine ⟨i + 1, by omega, by omega, by go_num, ?_, ?_, HF2.out⟩
                  · have := HN.out; congr 1; omega
                  · intro q hq h1 h2
                    by_cases e : q = i
                    · subst e; exact HG.out.2 hq
                    · exact HQ.out.1 q hq h1 (by omega)
                case measure => simp [intOf]; omega
              | false =>
                have hend : ∀ (h : i < l.length), l[i].s ≠ x.s := fun h => by
                  unfold Silo.goesOn at hgo
                  rw [List.getElem?_eq_getElem h] at hgo
                  simpa [Silo.sameB] using hgo
                have hrun : Silo.runLen x.s (x :: l.drop (k + 1)) = n := by
                  have h := Silo.runLen_at (l := l) (k := k) (i := i) hlt hki hil (fun q hq h1 h2 => by rw [HQ.out.1 q hq h1 h2, HX.out.1]) (fun hq => by rw [HX.out.1]; exact hend hq)
                  rw [HX.out.1] at h
                  rw [h, HN.out]
                clear hgo hend
                have hcw : ∀ w', Fp (fun _ => False) wz w' → w'.cell? ⟨b, off + k * 3, none⟩ = some (.int .i64 x.s) ∧ w'.cell? ⟨b, off + k * 3 + 1, none⟩ = some (.int .i64 x.t) ∧ w'.cell? ⟨b, off + k * 3 + 2, none⟩ = some (.int .u64 (x.v : Nat)) := fun w' h =>
                  ⟨by rw [h.cell (p := ⟨b, off + k * 3, none⟩) hbr (fun h => h)]; exact c0, by rw [h.cell (p := ⟨b, off + k * 3 + 1, none⟩) hbr (fun h => h)]; exact c1, by rw [h.cell (p := ⟨b, off + k * 3 + 2, none⟩) hbr (fun h => h)]; exact c2⟩
                have HCW : Hid _ := hcw
                clear hcw
                obtain ⟨y1, hy1⟩ : ∃ y1, (x.s + 1).toNat = y1 := ⟨_, rfl⟩
                have hx0 : 0 ≤ x.s := HX.out.2.1
                have hx1 : x.s < 16 := HX.out.2.2.1
                have hy9 : y1 < Silo.M64 := by unfold Silo.M64; omega
                have g1 : IntKind.u64.wrap (x.s + 1) = (y1 : Int) := by rw [IntKind.wrap_u64]; omega
                have g2 : IntKind.u64.wrap x.s = x.s := by rw [IntKind.wrap_u64]; omega
                have g3 : IntKind.u64.wrap (n : Int) = (n : Int) := by rw [IntKind.wrap_u64]; omega
                obtain ⟨y3, hy3⟩ : ∃ y3, Silo.zig x.t = y3 := ⟨_, rfl⟩
                have hy39 : y3 < Silo.M64 := by rw [← hy3]; exact Silo.zig_lt x.t HX.out.2.2.2.1.1 HX.out.2.2.2.1.2
                have hnM : n < Silo.M64 := by unfold Silo.M64; omega
                clear z1 z2
                have s1 := leb_size y1 hy9
                have s2 := leb_size n hnM
                have s3 := leb_size y3 hy39
                have s4 := leb_size x.v HX.out.2.2.2.2
                have z1 : ¬ 9223372036854775807 < (S D).size + (S (Silo.leb y1)).size := by omega
                have z2 : ¬ 9223372036854775807 < (S D).size + (S (Silo.leb y1)).size + (S (Silo.leb n)).size := by omega
                have z3 : ¬ 9223372036854775807 < (S D).size + (S (Silo.leb y1)).size + (S (Silo.leb n)).size + (S (Silo.leb y3)).size := by omega
                have z4 : ¬ 9223372036854775807 < (S D).size + (S (Silo.leb y1)).size + (S (Silo.leb n)).size + (S (Silo.leb y3)).size + (S (Silo.leb x.v)).size := by omega
                have HY : Hid _ := And.intro hy1 (And.intro hy9 (And.intro hnM (And.intro HX.out.2.2.2.1 (And.intro hy3 (And.intro hy39 HX.out.2.2.2.2)))))
                have HRN : Hid _ := hrun
                clear hy1 hy9 hnM hy3 hy39 hrun c0 c1 c2 e0 hwr
                go_wp2_with fail
                refine wp_region_inv (by kernel_rfl) (by kernel_rfl) (fun listed a' w' => ∃ u94 u95 u96 u97 u98 u99 u100 u101 u102 u103 u104 u105 u106 u107 u108 u109 u110 u111 u112 u113 u114 u115 u116 u117 u118 u119 u120 u121 u122 u7 : Value, a' = { tmps := #[.int .i64 ((lo : Nat) : Int), .int .i64 ((hi : Nat) : Int), .slice (some ⟨b, off, none⟩) l.length c, undef, undef, undef, .string { data := #[] }, u7, .int .i64 ((k : Nat) : Int), .int .i64 ((n : Nat) : Int), .int .i64 ((i : Nat) : Int), .int .i64 ((lo : Nat) : Int), .int .u64 ((lo : Nat) : Int), .string (S (Silo.leb lo)), .string ({ data := #[66] } ++ S (Silo.leb lo)), .int .i64 ((hi : Nat) : Int), .int .u64 ((hi : Nat) : Int), .string (S (Silo.leb hi)), .string ({ data := #[66] } ++ S (Silo.leb lo) ++ S (Silo.leb hi)), u19, u20, u21, u22, u23, u24, u25, u26, u27, u28, u29, u30, u31, u32, u33, u34, u35, u36, u37, u38, u39, .bool false, u41, u42, u43, u44, u45, u46, u47, u48, u49, u50, u51, u52, u53, u54, u55, u56, u57, u58, u59, u60, u61, u62, u63, u64, u65, u66, u67, u68, u69, u70, u71, .int .i64 ((k : Nat) : Int), u73, u74, u75, u76, u77, u78, u79, u80, u81, u82, u83, u84, u85, u86, u87, u88, .bool false, u90, u91, u92, u93, u94, u95, u96, u97, u98, u99, u100, u101, u102, u103, u104, u105, u106, u107, u108, u109, u110, u111, u112, u113, u114, u115, u116, u117, u118, u119, u120, u121, u122, undef, undef, undef], defers := [] } ∧ Hid (THead wz l b off c k n y1 y3 x D listed u94 u95 u96 u97 u98 u99 u100 u101 u102 u103 u104 u105 u106 u107 u108 u109 u110 u111 u112 u113 u114 u115 u116 u117 u118 u119 u120 u121 u122 u7 w')) ?r120 ?r12end ?r12step
                case r120 => exact ⟨_, _, _, _, _, _, _, _, _, _, _, _, _, _, _, _, _, _, _, _, _, _, _, _, _, _, _, _, _, _, rfl, THead.start (HF2.out.trans' (Fp.drew _ _))⟩
                case r12end =>
                  rintro listed a' w' hall ⟨u94, u95, u96, u97, u98, u99, u100, u101, u102, u103, u104, u105, u106, u107, u108, u109, u110, u111, u112, u113, u114, u115, u116, u117, u118, u119, u120, u121, u122, u7, rfl, HI⟩
                  obtain rfl := HI.out.e0 (hall 0 (by decide))
                  obtain rfl := HI.out.e1 (hall 1 (by decide))
                  obtain rfl := HI.out.e2 (hall 2 (by decide))
                  obtain rfl := HI.out.e3 (hall 3 (by decide))
                  obtain rfl := HI.out.e4 (hall 4 (by decide))
                  obtain rfl := HI.out.e5 (hall 5 (by decide))
                  obtain rfl := HI.out.e6 (hall 6 (by decide))
                  obtain rfl := HI.out.e7 (hall 7 (by decide))
                  obtain rfl := HI.out.e8 (hall 8 (by decide))
                  obtain rfl := HI.out.e9 (hall 9 (by decide))
                  obtain rfl := HI.out.e10 (hall 10 (by decide))
                  obtain rfl := HI.out.e11 (hall 11 (by decide))
                  obtain rfl := HI.out.e12 (hall 12 (by decide))
                  obtain rfl := HI.out.e13 (hall 13 (by decide))
                  obtain rfl := HI.out.e14 (hall 14 (by decide))
                  obtain rfl := HI.out.e15 (hall 15 (by decide))
                  obtain rfl := HI.out.e16 (hall 16 (by decide))
                  obtain rfl := HI.out.e17 (hall 17 (by decide))
                  obtain rfl := HI.out.e18 (hall 18 (by decide))
                  obtain rfl := HI.out.e19 (hall 19 (by decide))
                  obtain rfl := HI.out.e20 (hall 20 (by decide))
                  obtain rfl := HI.out.e21 (hall 21 (by decide))
                  obtain rfl := HI.out.e22 (hall 22 (by decide))
                  obtain rfl := HI.out.e23 (hall 23 (by decide))
                  obtain rfl := HI.out.e24 (hall 24 (by decide))
                  obtain rfl := HI.out.e25 (hall 25 (by decide))
                  obtain rfl := HI.out.e26 (hall 26 (by decide))
                  obtain rfl := HI.out.e27 (hall 27 (by decide))
                  obtain rfl := HI.out.e28 (hall 28 (by decide))
                  obtain rfl := HI.out.e29 (hall 29 (by decide))
                  have hw := HI.out.x0
                  have HW9 : Hid _ := hw
                  clear hw HI hall
                  dsimp only
                  go_wp2
                  go_roundw
                  case rel =>
                    refine ⟨k + 1, by omega, by go_num, D ++ Silo.tHead x (l.drop (k + 1)), ?_, ?_, HR.out.2.trans' HW9.out⟩
                    · rw [Silo.tHead, HRN.out, HY.out.1, HY.out.2.2.2.2.1, ← List.append_assoc, ← List.append_assoc, ← List.append_assoc, ← S_append, ← S_append, ← S_append, ← S_append]
                    · obtain ⟨d, h1, h2⟩ := HR.out.1
                      refine ⟨d ++ Silo.tHead x (l.drop (k + 1)), by rw [h1]; simp, ?_⟩
                      rw [h2, Silo.told_stepB hlt (by rw [HX.out.1]; exact HSB.out), HX.out.1, List.append_assoc]
                  case measure => simp [intOf]; omega
                case r12step =>
                  rintro listed a' w' i o ho hi hd hdep hcl ⟨u94, u95, u96, u97, u98, u99, u100, u101, u102, u103, u104, u105, u106, u107, u108, u109, u110, u111, u112, u113, u114, u115, u116, u117, u118, u119, u120, u121, u122, u7, rfl, HI⟩ K hK
                  match i, ho with
                  | 0, ho =>
                    cases ho
                    have q29 : done listed 29 = false := nd hcl (j := 29) rfl ⟨0, .phase⟩ (by simp) rfl hd
                    obtain rfl := HI.out.k7 q29
                    go_simp
                    refine hK _ _ ⟨_, _, _, _, _, _, _, _, _, _, _, _, _, _, _, _, _, _, _, _, _, _, _, _, _, _, _, _, _, _, rfl, ?_⟩
                    exact HI.out.s0 HI.out.x0
                  | 1, ho =>
                    cases ho
                    go_simp
                    refine hK _ _ ⟨_, _, _, _, _, _, _, _, _, _, _, _, _, _, _, _, _, _, _, _, _, _, _, _, _, _, _, _, _, _, rfl, ?_⟩
                    exact HI.out.s1 HI.out.x0
                  | 2, ho =>
                    cases ho
                    go_simp
                    refine hK _ _ ⟨_, _, _, _, _, _, _, _, _, _, _, _, _, _, _, _, _, _, _, _, _, _, _, _, _, _, _, _, _, _, rfl, ?_⟩
                    exact HI.out.s2 HI.out.x0
                  | 3, ho =>
                    cases ho
                    have d1 := hdep ⟨1, .data⟩ (by simp) rfl
                    obtain rfl := HI.out.e1 d1
                    have d2 := hdep ⟨2, .data⟩ (by simp) rfl
                    obtain rfl := HI.out.e2 d2
                    go_simp
                    refine hK _ _ ⟨_, _, _, _, _, _, _, _, _, _, _, _, _, _, _, _, _, _, _, _, _, _, _, _, _, _, _, _, _, _, rfl, ?_⟩
                    exact HI.out.s3 HI.out.x0
                  | 4, ho =>
                    cases ho
                    have d3 := hdep ⟨3, .data⟩ (by simp) rfl
                    obtain rfl := HI.out.e3 d3
                    go_simp
                    refine hK _ _ ⟨_, _, _, _, _, _, _, _, _, _, _, _, _, _, _, _, _, _, _, _, _, _, _, _, _, _, _, _, _, _, rfl, ?_⟩
                    exact HI.out.s4 HI.out.x0
                  | 5, ho =>
                    cases ho
                    have d4 := hdep ⟨4, .data⟩ (by simp) rfl
                    obtain rfl := HI.out.e4 d4
                    have hw := HI.out.x0
                    obtain ⟨q0, q1, q2⟩ := HCW.out _ hw
                    go_simp
                    refine hK _ _ ⟨_, _, _, _, _, _, _, _, _, _, _, _, _, _, _, _, _, _, _, _, _, _, _, _, _, _, _, _, _, _, rfl, ?_⟩
                    exact HI.out.s5 HI.out.x0
                  | 6, ho =>
                    cases ho
                    have d5 := hdep ⟨5, .data⟩ (by simp) rfl
                    obtain rfl := HI.out.e5 d5
                    go_simp
                    refine hK _ _ ⟨_, _, _, _, _, _, _, _, _, _, _, _, _, _, _, _, _, _, _, _, _, _, _, _, _, _, _, _, _, _, rfl, ?_⟩
                    exact HI.out.s6 HI.out.x0
                  | 7, ho =>
                    cases ho
                    have d6 := hdep ⟨6, .data⟩ (by simp) rfl
                    obtain rfl := HI.out.e6 d6
                    go_simp
                    refine hK _ _ ⟨_, _, _, _, _, _, _, _, _, _, _, _, _, _, _, _, _, _, _, _, _, _, _, _, _, _, _, _, _, _, rfl, ?_⟩
                    exact HI.out.s7 HI.out.x0
                  | 8, ho =>
                    cases ho
                    have d7 := hdep ⟨7, .data⟩ (by simp) rfl
                    obtain rfl := HI.out.e7 d7
                    have hw := HI.out.x0
                    go_simp
                    refine (RefCode_any y1 _ HY.out.2.1).mono ?_
                    rintro e w5 ⟨rfl, h5⟩
                    have hS5 := hw.trans' h5
                    refine hK _ _ ⟨_, _, _, _, _, _, _, _, _, _, _, _, _, _, _, _, _, _, _, _, _, _, _, _, _, _, _, _, _, _, rfl, ?_⟩
                    exact HI.out.s8 hS5
                  | 9, ho =>
                    cases ho
                    have d0 := hdep ⟨0, .data⟩ (by simp) rfl
                    obtain rfl := HI.out.e0 d0
                    have d8 := hdep ⟨8, .data⟩ (by simp) rfl
                    obtain rfl := HI.out.e8 d8
                    go_simp
                    refine hK _ _ ⟨_, _, _, _, _, _, _, _, _, _, _, _, _, _, _, _, _, _, _, _, _, _, _, _, _, _, _, _, _, _, rfl, ?_⟩
                    exact HI.out.s9 HI.out.x0
                  | 10, ho =>
                    cases ho
                    go_simp
                    refine hK _ _ ⟨_, _, _, _, _, _, _, _, _, _, _, _, _, _, _, _, _, _, _, _, _, _, _, _, _, _, _, _, _, _, rfl, ?_⟩
                    exact HI.out.s10 HI.out.x0
                  | 11, ho =>
                    cases ho
                    have d10 := hdep ⟨10, .data⟩ (by simp) rfl
                    obtain rfl := HI.out.e10 d10
                    go_simp
                    refine hK _ _ ⟨_, _, _, _, _, _, _, _, _, _, _, _, _, _, _, _, _, _, _, _, _, _, _, _, _, _, _, _, _, _, rfl, ?_⟩
                    exact HI.out.s11 HI.out.x0
                  | 12, ho =>
                    cases ho
                    have d11 := hdep ⟨11, .data⟩ (by simp) rfl
                    obtain rfl := HI.out.e11 d11
                    have hw := HI.out.x0
                    go_simp
                    refine (RefCode_any n _ HY.out.2.2.1).mono ?_
                    rintro e w5 ⟨rfl, h5⟩
                    have hS5 := hw.trans' h5
                    refine hK _ _ ⟨_, _, _, _, _, _, _, _, _, _, _, _, _, _, _, _, _, _, _, _, _, _, _, _, _, _, _, _, _, _, rfl, ?_⟩
                    exact HI.out.s12 hS5
                  | 13, ho =>
                    cases ho
                    have d9 := hdep ⟨9, .data⟩ (by simp) rfl
                    obtain rfl := HI.out.e9 d9
                    have d12 := hdep ⟨12, .data⟩ (by simp) rfl
                    obtain rfl := HI.out.e12 d12
                    go_simp
                    refine hK _ _ ⟨_, _, _, _, _, _, _, _, _, _, _, _, _, _, _, _, _, _, _, _, _, _, _, _, _, _, _, _, _, _, rfl, ?_⟩
                    exact HI.out.s13 HI.out.x0
                  | 14, ho =>
                    cases ho
                    go_simp
                    refine hK _ _ ⟨_, _, _, _, _, _, _, _, _, _, _, _, _, _, _, _, _, _, _, _, _, _, _, _, _, _, _, _, _, _, rfl, ?_⟩
                    exact HI.out.s14 HI.out.x0
                  | 15, ho =>
                    cases ho
                    go_simp
                    refine hK _ _ ⟨_, _, _, _, _, _, _, _, _, _, _, _, _, _, _, _, _, _, _, _, _, _, _, _, _, _, _, _, _, _, rfl, ?_⟩
                    exact HI.out.s15 HI.out.x0
                  | 16, ho =>
                    cases ho
                    have d14 := hdep ⟨14, .data⟩ (by simp) rfl
                    obtain rfl := HI.out.e14 d14
                    have d15 := hdep ⟨15, .data⟩ (by simp) rfl
                    obtain rfl := HI.out.e15 d15
                    go_simp
                    refine hK _ _ ⟨_, _, _, _, _, _, _, _, _, _, _, _, _, _, _, _, _, _, _, _, _, _, _, _, _, _, _, _, _, _, rfl, ?_⟩
                    exact HI.out.s16 HI.out.x0
                  | 17, ho =>
                    cases ho
                    have d16 := hdep ⟨16, .data⟩ (by simp) rfl
                    obtain rfl := HI.out.e16 d16
                    go_simp
                    refine hK _ _ ⟨_, _, _, _, _, _, _, _, _, _, _, _, _, _, _, _, _, _, _, _, _, _, _, _, _, _, _, _, _, _, rfl, ?_⟩
                    exact HI.out.s17 HI.out.x0
                  | 18, ho =>
                    cases ho
                    have d17 := hdep ⟨17, .data⟩ (by simp) rfl
                    obtain rfl := HI.out.e17 d17
                    have hw := HI.out.x0
                    obtain ⟨q0, q1, q2⟩ := HCW.out _ hw
                    go_simp
                    refine hK _ _ ⟨_, _, _, _, _, _, _, _, _, _, _, _, _, _, _, _, _, _, _, _, _, _, _, _, _, _, _, _, _, _, rfl, ?_⟩
                    exact HI.out.s18 HI.out.x0
                  | 19, ho =>
                    cases ho
                    have d18 := hdep ⟨18, .data⟩ (by simp) rfl
                    obtain rfl := HI.out.e18 d18
                    have hw := HI.out.x0
                    go_simp
                    refine (RefSigned_any x.t _ HY.out.2.2.2.1.1 HY.out.2.2.2.1.2).mono ?_
                    rintro e w5 ⟨rfl, rfl⟩
                    have hS5 := hw
                    rw [HY.out.2.2.2.2.1]
                    refine hK _ _ ⟨_, _, _, _, _, _, _, _, _, _, _, _, _, _, _, _, _, _, _, _, _, _, _, _, _, _, _, _, _, _, rfl, ?_⟩
                    exact HI.out.s19 hS5
                  | 20, ho =>
                    cases ho
                    have d19 := hdep ⟨19, .data⟩ (by simp) rfl
                    obtain rfl := HI.out.e19 d19
                    have hw := HI.out.x0
                    go_simp
                    refine (RefCode_any y3 _ HY.out.2.2.2.2.2.1).mono ?_
                    rintro e w5 ⟨rfl, h5⟩
                    have hS5 := hw.trans' h5
                    refine hK _ _ ⟨_, _, _, _, _, _, _, _, _, _, _, _, _, _, _, _, _, _, _, _, _, _, _, _, _, _, _, _, _, _, rfl, ?_⟩
                    exact HI.out.s20 hS5
                  | 21, ho =>
                    cases ho
                    have d13 := hdep ⟨13, .data⟩ (by simp) rfl
                    obtain rfl := HI.out.e13 d13
                    have d20 := hdep ⟨20, .data⟩ (by simp) rfl
                    obtain rfl := HI.out.e20 d20
                    go_simp
                    refine hK _ _ ⟨_, _, _, _, _, _, _, _, _, _, _, _, _, _, _, _, _, _, _, _, _, _, _, _, _, _, _, _, _, _, rfl, ?_⟩
                    exact HI.out.s21 HI.out.x0
                  | 22, ho =>
                    cases ho
                    go_simp
                    refine hK _ _ ⟨_, _, _, _, _, _, _, _, _, _, _, _, _, _, _, _, _, _, _, _, _, _, _, _, _, _, _, _, _, _, rfl, ?_⟩
                    exact HI.out.s22 HI.out.x0
                  | 23, ho =>
                    cases ho
                    go_simp
                    refine hK _ _ ⟨_, _, _, _, _, _, _, _, _, _, _, _, _, _, _, _, _, _, _, _, _, _, _, _, _, _, _, _, _, _, rfl, ?_⟩
                    exact HI.out.s23 HI.out.x0
                  | 24, ho =>
                    cases ho
                    have d22 := hdep ⟨22, .data⟩ (by simp) rfl
                    obtain rfl := HI.out.e22 d22
                    have d23 := hdep ⟨23, .data⟩ (by simp) rfl
                    obtain rfl := HI.out.e23 d23
                    go_simp
                    refine hK _ _ ⟨_, _, _, _, _, _, _, _, _, _, _, _, _, _, _, _, _, _, _, _, _, _, _, _, _, _, _, _, _, _, rfl, ?_⟩
                    exact HI.out.s24 HI.out.x0
                  | 25, ho =>
                    cases ho
                    have d24 := hdep ⟨24, .data⟩ (by simp) rfl
                    obtain rfl := HI.out.e24 d24
                    go_simp
                    refine hK _ _ ⟨_, _, _, _, _, _, _, _, _, _, _, _, _, _, _, _, _, _, _, _, _, _, _, _, _, _, _, _, _, _, rfl, ?_⟩
                    exact HI.out.s25 HI.out.x0
                  | 26, ho =>
                    cases ho
                    have d25 := hdep ⟨25, .data⟩ (by simp) rfl
                    obtain rfl := HI.out.e25 d25
                    have hw := HI.out.x0
                    obtain ⟨q0, q1, q2⟩ := HCW.out _ hw
                    go_simp
                    refine hK _ _ ⟨_, _, _, _, _, _, _, _, _, _, _, _, _, _, _, _, _, _, _, _, _, _, _, _, _, _, _, _, _, _, rfl, ?_⟩
                    exact HI.out.s26 HI.out.x0
                  | 27, ho =>
                    cases ho
                    have d26 := hdep ⟨26, .data⟩ (by simp) rfl
                    obtain rfl := HI.out.e26 d26
                    have hw := HI.out.x0
                    go_simp
                    refine (RefCode_any x.v _ HY.out.2.2.2.2.2.2).mono ?_
                    rintro e w5 ⟨rfl, h5⟩
                    have hS5 := hw.trans' h5
                    refine hK _ _ ⟨_, _, _, _, _, _, _, _, _, _, _, _, _, _, _, _, _, _, _, _, _, _, _, _, _, _, _, _, _, _, rfl, ?_⟩
                    exact HI.out.s27 hS5
                  | 28, ho =>
                    cases ho
                    have d21 := hdep ⟨21, .data⟩ (by simp) rfl
                    obtain rfl := HI.out.e21 d21
                    have d27 := hdep ⟨27, .data⟩ (by simp) rfl
                    obtain rfl := HI.out.e27 d27
                    go_simp
                    refine hK _ _ ⟨_, _, _, _, _, _, _, _, _, _, _, _, _, _, _, _, _, _, _, _, _, _, _, _, _, _, _, _, _, _, rfl, ?_⟩
                    exact HI.out.s28 HI.out.x0
                  | 29, ho =>
                    cases ho
                    have d28 := hdep ⟨28, .data⟩ (by simp) rfl
                    obtain rfl := HI.out.e28 d28
                    go_simp
                    refine hK _ _ ⟨_, _, _, _, _, _, _, _, _, _, _, _, _, _, _, _, _, _, _, _, _, _, _, _, _, _, _, _, _, _, rfl, ?_⟩
                    exact HI.out.s29 hi HI.out.x0
    · obtain rfl : k = l.length := by omega
      have hd : S D ++ S [0] = S (Silo.toldBody lo hi l) := by
        obtain ⟨d, h1, h2⟩ := HR.out.1
        rw [List.drop_length] at h2
        have h3 : Silo.toldFrom none l = d := by rw [h2]; cases Silo.lastOf l l.length <;> simp [Silo.toldFrom]
        rw [S_append, h1]
        unfold Silo.toldBody
        rw [h3]
        simp
      have hlen : (Silo.toldBody lo hi l).length ≤ 1099511627776 := by
        have h4 := Silo.leb_len lo H.out.2.2.2.1
        have h5 := Silo.leb_len hi H.out.2.2.2.2
        have h3 := H.out.2.2.1
        unfold Silo.toldBody
        simp only [List.length_append, List.length_cons, List.length_nil]
        omega
      have hds : (S D).size + 1 = (Silo.toldBody lo hi l).length := by
        have := congrArg ByteArray.size hd
        rw [ByteArray.size_append] at this
        exact this
      have HD : Hid _ := And.intro hd hlen
      have hds9 : (S D).size ≤ 1099511627776 := by omega
      clear hd hlen hds
      go_wp2_with fail
      rw [show S D ++ { data := #[0] } = S (Silo.toldBody lo hi l) from HD.out.1]
      refine (RefSealed_any _ wr HD.out.2).mono ?_
      rintro e w3 ⟨rfl, h3⟩
      have H3 : Hid _ := h3
      clear h3
      go_wp2
      go_ret
      exact ⟨ret_val (by simp), HR.out.2.trans' H3.out⟩

end Go.Proofs.YtbimkgmhfcgpmaaGreatDoor
