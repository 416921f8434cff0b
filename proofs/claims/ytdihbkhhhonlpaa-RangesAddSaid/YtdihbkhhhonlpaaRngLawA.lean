/- The walk of the law RangesAdd, upon the program's functions (Impl). -/
import Derived.Test.YtdihbkhhhonlpaaRngLawC
namespace Go.Proofs.Ytdihbkhhhonlpaa
open Go.RowKit Go.Sort

attribute [local go_sem ↓] Go.wp_at_zero Go.wp_at_succ

/-! ### What adding makes -/
theorem addZ_is {za : List (Int × Int)} (h : Ok (-1) za) (zb : List (Int × Int)) : Is (addZ za zb) (fun n => decide (1 ≤ n) && decide (n ≤ 1000000) && (inB za n || inB zb n)) := by
  have := ofL_is (za ++ zb) []
  rw [show addZ za zb = ofL (za ++ zb) [] from if_pos h]
  refine ⟨this.1, fun n => (this.2 n).trans ?_⟩
  unfold setOf
  rw [inB_app, inB_nil, Bool.not_false, Bool.and_true]
theorem inB_rev (l : List (Int × Int)) (n : Int) : inB l.reverse n = inB l n := by unfold inB; rw [List.any_reverse]
theorem addZ_rev {za : List (Int × Int)} (h : Ok (-1) za) (zb : List (Int × Int)) : addZ za zb.reverse = addZ za zb :=
  is_one (addZ_is h _) (addZ_is h _) fun n => by rw [inB_rev]
theorem addZ_again {za : List (Int × Int)} (h : Ok (-1) za) (zb : List (Int × Int)) : addZ (addZ za zb) zb = addZ za zb := by
  refine is_one (addZ_is (addZ_is h zb).1 zb) (addZ_is h zb) fun n => ?_
  rw [(addZ_is h zb).2 n]
  show (_ && _ && (_ && _ && _ || _)) = _
  cases decide (1 ≤ n) <;> cases decide (n ≤ 1000000) <;> cases inB za n <;> cases inB zb n <;> rfl
theorem addZ_chk {za : List (Int × Int)} (h : Ok (-1) za) (zb : List (Int × Int)) : chkZ (addZ za zb) = 0 := chk_yes (addZ_is h zb).1
theorem addZ_has {za : List (Int × Int)} (h : Ok (-1) za) (zb : List (Int × Int)) (n : Int) : hasB (addZ za zb) n = (decide (1 ≤ n) && decide (n ≤ 1000000) && (inB za n || inB zb n)) := by
  unfold hasB; rw [decide_eq_true (addZ_is h zb).1, (addZ_is h zb).2 n]; rfl
theorem back_snoc (zb : List (Int × Int)) (m : Nat) (h : m < zb.length) : (zb.drop m).reverse = (zb.drop (m + 1)).reverse ++ [zb.getD m (0, 0)] := by
  rw [List.drop_eq_getElem_cons h, List.reverse_cons]; simp [List.getD, h]

set_option maxHeartbeats 1600000 in
theorem within_any (sa : Option Addr) (len cap : Nat) (zs : List (Int × Int)) (n : Int) (w : World) (hm : len ≤ 10000) (hr : ReadsA w sa len zs) :
    Calls Try.prog 24 #[.slice sa len cap, .int .i64 n] w fun e w' => e = .returned (.bool (inB zs n)) ∧ Grew w w' := by
  have hmix := mixed
  have HZ := Lib.hid hr.1
  have HR := Lib.hid hr; clear hr
  go_enter Try.func24, Try.ntmps24
  go_wp2
  go_loopg [5] len (fun gg i wr => ∃ k : Nat, k + gg = len ∧ i = .int .i64 k ∧ Hid (inB (zs.take k) n = false) ∧ Hid (Grew w wr))
  case atStart => exact ⟨0, by omega, rfl, Lib.hid rfl, Lib.hid (Grew.refl _)⟩
  case round =>
    obtain ⟨k, hk, rfl, HN, HG⟩ := hrel
    by_cases hlt : k < len
    · obtain ⟨b, off, rfl, g⟩ := (HR.out.later HG.out.below).2 (by omega)
      obtain ⟨l0, l1⟩ := g k hlt
      have HT := Lib.hid (inB_take zs k (by rw [← HZ.out]; exact hlt) n)
      have HH := Lib.hid (inB_here zs k (by rw [← HZ.out]; exact hlt) n)
      clear g
      generalize zs.getD k (0, 0) = x at *
      have i1 : (0 : Int) ≤ (k : Int) := by omega
      have i2 : (k : Int) < (len : Int) := by omega
      by_cases q1 : x.1 ≤ n
      · have d1 : decide (n ≥ x.1) = true := decide_eq_true q1
        by_cases q2 : n ≤ x.2
        · have d2 : decide (n ≤ x.2) = true := decide_eq_true q2
          have e := HH.out q1 q2
          have HE := Lib.hid e
          clear e q1 q2
          go_wp2
          go_ret
          exact ⟨ret_bool HE.out.symm, HG.out⟩
        · have d2 : decide (n ≤ x.2) = false := decide_eq_false q2
          have HE := Lib.hid (show inB (zs.take (k + 1)) n = false by rw [HT.out, HN.out, d2, Bool.and_false]; rfl)
          clear q1 q2
          go_wp2
          go_roundg (gk - 1)
          case measure => omega
          case rel => exact ⟨k + 1, by omega, by go_num, HE, HG⟩
      · have d1 : decide (n ≥ x.1) = false := decide_eq_false q1
        have HE := Lib.hid (show inB (zs.take (k + 1)) n = false by rw [HT.out, HN.out, show decide (x.1 ≤ n) = false from d1]; rfl)
        clear q1
        go_wp2
        go_roundg (gk - 1)
        case measure => omega
        case rel => exact ⟨k + 1, by omega, by go_num, HE, HG⟩
    · obtain rfl : k = len := by omega
      have HE := Lib.hid (show inB zs n = false by have := HN.out; rw [List.take_of_length_le (by rw [HZ.out]; exact Nat.le_refl _)] at this; exact this)
      go_wp2
      go_ret
      exact ⟨ret_bool HE.out.symm, HG.out⟩

theorem add_long (I : Impl) (sa : Option Addr) (na ca : Nat) (sb : Option Addr) (nb cb : Nat) (n : Int) (w : World) (hm : 200 < na ∨ 200 < nb) :
    Calls Try.prog 5 #[.slice sa na ca, .slice sb nb cb, .int .i64 n] w fun e w' => e = .returned (.bool true) ∧ RowKit.Below w.heap.size w w' := by
  have HI := Lib.hid I; clear I
  by_cases q : 200 < na
  · have hm3 : decide ((na : Int) > 200) = true := decide_eq_true (by omega)
    clear hm q
    go_enter Try.func5, Try.ntmps5
    go_wp2_with (go_at_call 7; refine (awake_any HI.out _).mono ?_; rintro e w1 ⟨rfl, hb⟩)
    go_ret
    exact ⟨rfl, hb⟩
  · have hm3 : decide ((na : Int) > 200) = false := decide_eq_false (by omega)
    have hm4 : decide ((nb : Int) > 200) = true := decide_eq_true (by omega)
    clear hm q
    go_enter Try.func5, Try.ntmps5
    go_wp2_with (go_at_call 7; refine (awake_any HI.out _).mono ?_; rintro e w1 ⟨rfl, hb⟩)
    go_ret
    exact ⟨rfl, hb⟩
theorem add_none (I : Impl) (sa : Option Addr) (na ca : Nat) (za : List (Int × Int)) (sb : Option Addr) (nb cb : Nat) (n : Int) (w : World) (hna : na ≤ 200) (hnb : nb ≤ 200) (hA : ArgA w sa na ca za) (ok : ¬ Ok (-1) za) :
    Calls Try.prog 5 #[.slice sa na ca, .slice sb nb cb, .int .i64 n] w fun e w' => e = .returned (.bool true) ∧ RowKit.Below w.heap.size w w' := by
  have hm3 : decide ((na : Int) > 200) = false := decide_eq_false (by omega)
  have hm4 : decide ((nb : Int) > 200) = false := decide_eq_false (by omega)
  have HI := Lib.hid I; clear I
  have HA := Lib.hid hA; clear hA
  have N1 := Lib.hid (show na ≤ 1000 by omega)
  have HC := Lib.hid (show chkZ za = 2 from if_neg ok)
  clear ok
  go_enter Try.func5, Try.ntmps5
  go_wp2_with (first
    | (go_at_call 8; refine (HI.out.check sa na ca za _ N1.out HA.out).mono ?_; rintro e w1 ⟨rfl, hb⟩; rw [HC.out]; have HB1 := Lib.hid hb; clear hb)
    | (go_at_call 7; refine (awake_any HI.out _).mono ?_; rintro e w2 ⟨rfl, hb⟩))
  go_ret
  exact ⟨rfl, HB1.out.trans (hb.mono HB1.out.size)⟩

set_option maxRecDepth 100000 in
set_option maxHeartbeats 6400000 in
theorem add_walk (I : Impl) (sa : Option Addr) (na ca : Nat) (za : List (Int × Int)) (sb : Option Addr) (nb cb : Nat) (zb : List (Int × Int)) (n : Int) (w : World) (hna : na ≤ 200) (hnb : nb ≤ 200) (hA : ArgA w sa na ca za) (hB : ArgA w sb nb cb zb) (ok : Ok (-1) za) :
    Calls Try.prog 5 #[.slice sa na ca, .slice sb nb cb, .int .i64 n] w fun e w' => e = .returned (.bool true) ∧ RowKit.Below w.heap.size w w' := by
  have hm3 : decide ((na : Int) > 200) = false := decide_eq_false (by omega)
  have hm4 : decide ((nb : Int) > 200) = false := decide_eq_false (by omega)
  have HI := Lib.hid I; clear I
  have hla := hA.1.1
  have hlb := hB.1.1
  have HC := Lib.hid (chk_yes ok)
  have HREV := Lib.hid (addZ_rev ok zb)
  have HAG := Lib.hid (addZ_again ok zb)
  have HCK := Lib.hid (addZ_chk ok zb)
  have HHAS := Lib.hid (addZ_has ok zb n)
  have hz := addZ_le za zb (by omega)
  have NZ1 := Lib.hid hz
  have NZ2 := Lib.hid (show (addZ za zb.reverse).length ≤ 1000 by rw [HREV.out]; exact hz)
  have NZ3 := Lib.hid (show (addZ (addZ za zb) zb).length ≤ 1000 by rw [HAG.out]; exact hz)
  have N1 := Lib.hid (show na ≤ 1000 by omega)
  have N2 := Lib.hid (show nb ≤ 1000 by omega)
  have N3 := Lib.hid (show na ≤ 10000 by omega)
  have N4 := Lib.hid (show nb ≤ 10000 by omega)
  have N5 := Lib.hid (show (addZ za zb).length ≤ 10000 by omega)
  have HLA := Lib.hid hla
  have HLB := Lib.hid hlb
  clear ok hla hlb hz
  have HA := Lib.hid hA; clear hA
  have HB := Lib.hid hB; clear hB
  go_enter Try.func5, Try.ntmps5
  go_wp2_with (first
    | (go_at_call 8; refine (HI.out.check sa na ca za _ N1.out HA.out).mono ?_; rintro e w1 ⟨rfl, hb⟩; rw [HC.out]; have HB1 := Lib.hid hb; clear hb)
    | (at_builtin; refine wpList_append_att rfl _ _ rfl w.heap.size _ [] rfl ?c0 sa na ca za rfl ?c1 ?c2 ?c3 ?_))
  case c0 => exact own_made w1 _ HB1.out.size
  case c1 => exact HA.out.1.later (HB1.out.alloc HB1.out.size _)
  case c2 => simp; omega
  case c3 => exact Nat.le_trans HB1.out.size (by simp)
  intro vw w2 how _ hb2
  have HB2 := Lib.hid ((HB1.out.alloc HB1.out.size _).trans hb2)
  clear hb2
  obtain ⟨sw, kw, rfl, hw⟩ := how.reads
  have hlw : za.length = na := HLA.out.symm
  rw [hlw] at hw ⊢
  have HWAS := Lib.hid hw
  clear hw how hlw
  go_wp2_with (go_at_call 19; refine (HI.out.add sa na ca za sb nb cb zb _ N1.out N2.out NZ1.out (HA.out.later HB2.out) (HB.out.later HB2.out)).mono ?_; rintro e w3 ⟨v, rfl, h, hb⟩; obtain ⟨sm, km, rfl, h⟩ := h; have HM := Lib.hid h; have HWAS3 := Lib.hid (HWAS.out.later hb); have HB3 := Lib.hid (HB2.out.trans (hb.mono HB2.out.size)); clear h hb)
  have HBR := Lib.hid (HB.out.later HB3.out)
  go_wp2_with fail
  go_loopg [9, 10] nb (fun gg v i wr => ∃ k : Nat, k = gg ∧ k ≤ nb ∧ i = .int .i64 ((k : Int) - 1) ∧ Hid (OwnA wr w3.heap.size v (zb.drop k).reverse) ∧ Hid (RowKit.Below w3.heap.size w3 wr))
  case atStart => exact ⟨nb, rfl, Nat.le_refl _, rfl, Lib.hid (by rw [List.drop_of_length_le (by rw [← HLB.out]; exact Nat.le_refl _)]; exact own_nil _ _), Lib.hid (Below.refl _ _)⟩
  case round =>
    obtain ⟨k, hk, hkn, rfl, HO, HW3⟩ := hrel
    cases k with
    | zero =>
      simp only [List.drop_zero] at HO
      obtain ⟨sr, kr, rfl, hr⟩ := HO.out.reads
      have hrl : zb.reverse.length = nb := by rw [List.length_reverse]; exact HLB.out.symm
      have hres := HO.out.res
      rw [hrl] at hr ⊢
      obtain ⟨sr', kr', er, har⟩ := hres
      rw [hrl] at er har
      simp only [Value.slice.injEq, true_and] at er
      obtain ⟨rfl, rfl⟩ := er
      have HBA := Lib.hid har
      have HB4 := Lib.hid (HB3.out.trans (HW3.out.mono HB3.out.size))
      have HMR := Lib.hid (HM.out.later HW3.out)
      have HWR := Lib.hid (HWAS3.out.later HW3.out)
      clear hr har hrl HO
      go_upto_region 12 with (first
        | (go_at_call 16; (with_reducible refine (same_yes sa sw na ca kw za _ N3.out (ArgA.reads (HA.out.later HB4.out)) HWR.out).mono ?_); rintro e w5 ⟨rfl, hg⟩; have hb := hg.below; have HB5 := Lib.hid (HB4.out.trans (hb.mono HB4.out.size)); have HBA5 := Lib.hid (HBA.out.later hb); have HM5 := Lib.hid (HMR.out.later hb); clear hg hb)
        | (go_at_call 19; (with_reducible refine (HI.out.add sa na ca za sr nb kr zb.reverse _ N1.out N2.out NZ2.out (HA.out.later HB5.out) HBA5.out).mono ?_); rintro e w6 ⟨v, rfl, h, hb⟩; rw [HREV.out] at h; obtain ⟨s6, k6, rfl, h⟩ := h; have H6 := Lib.hid h; have HB6 := Lib.hid (HB5.out.trans (hb.mono HB5.out.size)); have HM6 := Lib.hid (HM5.out.later hb); clear h hb)
        | (go_at_call 16; (with_reducible refine (same_yes s6 sm _ k6 km (addZ za zb) _ N5.out (ArgA.reads H6.out) (ArgA.reads HM6.out)).mono ?_); rintro e w7 ⟨rfl, hg⟩; have hb := hg.below; have HB7 := Lib.hid (HB6.out.trans (hb.mono HB6.out.size)); have HM7 := Lib.hid (HM6.out.later hb); clear hg hb)
        | (go_at_call 19; (with_reducible refine (HI.out.add sm _ km (addZ za zb) sb nb cb zb _ NZ1.out N2.out NZ3.out HM7.out (HB.out.later HB7.out)).mono ?_); rintro e w8 ⟨v, rfl, h, hb⟩; rw [HAG.out] at h; obtain ⟨s8, k8, rfl, h⟩ := h; have H8 := Lib.hid h; have HB8 := Lib.hid (HB7.out.trans (hb.mono HB7.out.size)); have HM8 := Lib.hid (HM7.out.later hb); clear h hb)
        | (go_at_call 16; (with_reducible refine (same_yes s8 sm _ k8 km (addZ za zb) _ N5.out (ArgA.reads H8.out) (ArgA.reads HM8.out)).mono ?_); rintro e w9 ⟨rfl, hg⟩; have hb := hg.below; have HB9 := Lib.hid (HB8.out.trans (hb.mono HB8.out.size)); have HM9 := Lib.hid (HM8.out.later hb); clear hg hb)
        | (go_at_call 8; (with_reducible refine (HI.out.check sm _ km (addZ za zb) _ NZ1.out HM9.out).mono ?_); rintro e w10 ⟨rfl, hb⟩; rw [HCK.out]; have HB10 := Lib.hid (HB9.out.trans (hb.mono HB9.out.size)); have HM10 := Lib.hid (HM9.out.later hb); clear hb))
      by_cases q1 : 1 ≤ n
      · have d1 : decide (n ≥ 1) = true := decide_eq_true q1
        by_cases q2 : n ≤ 1000000
        · have d2 : decide (n ≤ 1000000) = true := decide_eq_true q2
          cases ina : inB za n with
          | true =>
            have HE := Lib.hid (show hasB (addZ za zb) n = true by rw [HHAS.out, decide_eq_true q1, d2, ina]; rfl)
            have INA := Lib.hid ina
            clear q1 q2 ina
            go_wp2_with (first
              | (go_at_call 10; (with_reducible refine (HI.out.has sm _ km (addZ za zb) n _ NZ1.out HM10.out).mono ?_); rintro e w11 ⟨rfl, hb⟩; rw [HE.out]; have HB11 := Lib.hid (HB10.out.trans (hb.mono HB10.out.size)); clear hb)
              | (go_at_call 24; (with_reducible refine (within_any sa na ca za n _ N3.out (ArgA.reads (HA.out.later HB11.out))).mono ?_); rintro e w12 ⟨rfl, hg⟩; rw [INA.out]; have HB12 := Lib.hid (HB11.out.trans (hg.below.mono HB11.out.size)); clear hg)
              | (go_at_call 7; refine (awake_any HI.out _).mono ?_; rintro e w14 ⟨rfl, hb⟩; have HB14 := Lib.hid (HB12.out.trans (hb.mono HB12.out.size)); clear hb))
            go_ret
            exact ⟨rfl, HB14.out⟩
          | false =>
            obtain ⟨c, hc⟩ : ∃ c, inB zb n = c := ⟨_, rfl⟩
            have HE := Lib.hid (show hasB (addZ za zb) n = c by rw [HHAS.out, decide_eq_true q1, d2, ina, hc]; rfl)
            have INA := Lib.hid ina
            have INB := Lib.hid hc
            clear q1 q2 ina hc
            go_wp2_with (first
              | (go_at_call 10; (with_reducible refine (HI.out.has sm _ km (addZ za zb) n _ NZ1.out HM10.out).mono ?_); rintro e w11 ⟨rfl, hb⟩; rw [HE.out]; have HB11 := Lib.hid (HB10.out.trans (hb.mono HB10.out.size)); clear hb)
              | (go_at_call 24; (with_reducible refine (within_any sa na ca za n _ N3.out (ArgA.reads (HA.out.later HB11.out))).mono ?_); rintro e w12 ⟨rfl, hg⟩; rw [INA.out]; have HB12 := Lib.hid (HB11.out.trans (hg.below.mono HB11.out.size)); clear hg)
              | (go_at_call 24; (with_reducible refine (within_any sb nb cb zb n _ N4.out (ArgA.reads (HB.out.later HB12.out))).mono ?_); rintro e w13 ⟨rfl, hg⟩; rw [INB.out]; have HB13 := Lib.hid (HB12.out.trans (hg.below.mono HB12.out.size)); clear hg)
              | (go_at_call 7; refine (awake_any HI.out _).mono ?_; rintro e w14 ⟨rfl, hb⟩; have HB14 := Lib.hid (HB13.out.trans (hb.mono HB13.out.size)); clear hb))
            go_ret
            exact ⟨rfl, HB14.out⟩
        · have d2 : decide (n ≤ 1000000) = false := decide_eq_false q2
          have HE := Lib.hid (show hasB (addZ za zb) n = false by rw [HHAS.out, d2, Bool.and_false]; rfl)
          clear q1 q2
          go_wp2_with (first
            | (go_at_call 10; (with_reducible refine (HI.out.has sm _ km (addZ za zb) n _ NZ1.out HM10.out).mono ?_); rintro e w11 ⟨rfl, hb⟩; rw [HE.out]; have HB11 := Lib.hid (HB10.out.trans (hb.mono HB10.out.size)); clear hb)
            | (go_at_call 7; refine (awake_any HI.out _).mono ?_; rintro e w14 ⟨rfl, hb⟩; have HB14 := Lib.hid (HB11.out.trans (hb.mono HB11.out.size)); clear hb))
          go_ret
          exact ⟨rfl, HB14.out⟩
      · have d1 : decide (n ≥ 1) = false := decide_eq_false q1
        have HE := Lib.hid (show hasB (addZ za zb) n = false by rw [HHAS.out, decide_eq_false q1]; rfl)
        clear q1
        go_wp2_with (first
          | (go_at_call 10; (with_reducible refine (HI.out.has sm _ km (addZ za zb) n _ NZ1.out HM10.out).mono ?_); rintro e w11 ⟨rfl, hb⟩; rw [HE.out]; have HB11 := Lib.hid (HB10.out.trans (hb.mono HB10.out.size)); clear hb)
          | (go_at_call 7; refine (awake_any HI.out _).mono ?_; rintro e w14 ⟨rfl, hb⟩; have HB14 := Lib.hid (HB11.out.trans (hb.mono HB11.out.size)); clear hb))
        go_ret
        exact ⟨rfl, HB14.out⟩
    | succ m =>
      have e1 : ((m + 1 : Nat) : Int) - 1 = (m : Int) := by omega
      have HS := Lib.hid (back_snoc zb m (by rw [← HLB.out]; omega))
      obtain ⟨b, off, rfl, g⟩ := (HBR.out.later HW3.out).1.2 (by omega)
      obtain ⟨l0, l1⟩ := g m (by omega)
      clear g
      obtain ⟨x, hx⟩ : ∃ x, x = zb.getD m (0, 0) := ⟨_, rfl⟩
      rw [← hx] at l0 l1 HS
      clear hx
      obtain ⟨back, hback⟩ : ∃ back, back = (zb.drop (m + 1)).reverse := ⟨_, rfl⟩
      have hbl : back.length ≤ 200 := by rw [hback, List.length_reverse, List.length_drop, ← HLB.out]; omega
      rw [← hback] at HO HS
      clear hback
      have i1 : (0 : Int) ≤ (m : Int) := by omega
      have i2 : (m : Int) < (nb : Int) := by omega
      simp only [e1]
      clear e1
      go_wp2_with (at_builtin; refine wpList_append_att rfl _ _ rfl w3.heap.size _ back rfl ?b0 _ 1 1 [x] rfl ?b1 ?b2 ?b3 ?_)
      case b0 => exact HO.out.alloc _
      case b1 => exact one_lit wr x
      case b2 => omega
      case b3 => exact Nat.le_trans HW3.out.size (by simp)
      intro v7 w7 ho7 _ hb7
      have HW7 := Lib.hid ((HW3.out.alloc HW3.out.size _).trans hb7)
      have HO7 := Lib.hid ho7
      clear ho7 hb7
      go_wp2_with fail
      go_roundg (gk - 1)
      case measure => omega
      case rel => exact ⟨m, by omega, by omega, by go_num, Lib.hid (by rw [HS.out]; exact HO7.out), HW7⟩
end Go.Proofs.Ytdihbkhhhonlpaa
