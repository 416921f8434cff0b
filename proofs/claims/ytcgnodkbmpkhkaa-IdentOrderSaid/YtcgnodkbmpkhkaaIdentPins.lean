/- The contract of the library's partial insertion sort at a row of commands. Written by a generator of mine (wip/gen). -/
import Derived.Test.YtcgnodkbmpkhkaaIdentHeap2
import Derived.Sort.WalkA6
namespace Go.Proofs.Ytcgnodkbmpkhkaa
open Go.RowKit Go.Sort

set_option maxRecDepth 100000 in
set_option maxHeartbeats 40000000 in
theorem pins_any (w0 W : World) (b a e cap : Nat) (d : Array (Int × Int)) (S : RowAt w0 b d W) (hae : a < e) (hed : e ≤ d.size) (hsz : d.size ≤ 1000) :
    Calls Try.prog 42 #[.slice (some ⟨b, 0, none⟩) d.size cap, .int .i64 a, .int .i64 e, .func (.func 30) #[.func (.func 18) #[] #[]] #[]] W fun r w' => r = .returned (.bool (partialInsertionSort lessB d a e).2) ∧ RowAt w0 b (partialInsertionSort lessB d a e).1 w' := by
  have hmix := mixed
  have S0 := Lib.hid S; clear S
  go_enter Try.func42, Try.ntmps42
  go_wp2_with fail
  go_loopw [9, 10] (fun u v wr => ∃ (i s : Nat) (dk : Array (Int × Int)), u = .int .i64 i ∧ v = .int .i64 s ∧ s ≤ 5 ∧ a < i ∧ i ≤ e ∧ dk.size = d.size ∧ Hid (RowAt w0 b dk wr) ∧ Hid (partialIns lessB a e (5 - s) i dk = partialIns lessB a e 5 (a + 1) d)) (fun _ v _ => 5 - (intOf v).toNat)
  case atStart => exact ⟨a + 1, 0, d, by go_num, rfl, by omega, by omega, by omega, rfl, S0, rfl⟩
  case round =>
    clear S0
    obtain ⟨i, s, dk, rfl, rfl, hs5, hai, hie, hsk, S1, HO⟩ := hrel
    by_cases hs : s < 5
    · have zs : (s : Int) < 5 := by omega
      go_wp2_with fail
      go_loopw [9] (fun v wr => ∃ pk0 : Nat, v = .int .i64 ((pk0 : Int) + 1) ∧ i ≤ pk0 + 1 ∧ pk0 + 1 ≤ e ∧ Hid (RowAt w0 b dk wr) ∧ Hid (scanSorted lessB dk e (pk0 + 1) = scanSorted lessB dk e i)) (fun v _ => e + 1 - (intOf v).toNat)
      case atStart => exact ⟨i - 1, by rw [show ((i - 1 : Nat) : Int) + 1 = (i : Int) by omega], by omega, by omega, S1, by rw [show i - 1 + 1 = i by omega]; rfl⟩
      case round =>
        clear S1
        obtain ⟨pk0, rfl, hik, hke, SC, HS⟩ := hrel
        by_cases hlt : pk0 + 1 < e
        · have zl : (pk0 : Int) + 1 < (e : Int) := by omega
          have eca : (((pk0 : Int) + 1)).toNat = pk0 + 1 := by omega
          have pca : (0 : Int) ≤ ((pk0 : Int) + 1) := by omega
          have bca : ((pk0 : Int) + 1) < (d.size : Int) := by omega
          have rca : IntKind.i64.wrap (((pk0 : Int) + 1)) = ((pk0 : Int) + 1) := by rw [IntKind.wrap_i64]; omega
          have ecb : ((pk0 : Int)).toNat = pk0 := by omega
          have pcb : (0 : Int) ≤ (pk0 : Int) := by omega
          have bcb : (pk0 : Int) < (d.size : Int) := by omega
          have rcb : IntKind.i64.wrap ((pk0 : Int)) = (pk0 : Int) := by rw [IntKind.wrap_i64]; omega
          obtain ⟨xc, hxc⟩ : ∃ x, x = dk[pk0 + 1]! := ⟨_, rfl⟩
          obtain ⟨yc, hyc⟩ : ∃ y, y = dk[pk0]! := ⟨_, rfl⟩
          have lc0 := fun n os => (SC.out.grown n os).c0 (pk0 + 1) (by omega)
          have lc1 := fun n os => (SC.out.grown n os).c1 (pk0 + 1) (by omega)
          have lc2 := fun n os => (SC.out.grown n os).c0 (pk0) (by omega)
          have lc3 := fun n os => (SC.out.grown n os).c1 (pk0) (by omega)
          rw [← hxc] at lc0 lc1
          rw [← hyc] at lc2 lc3
          have hcc := compare_grown xc yc
          have hdc := cmp_neg xc yc
          cases hlc : lessB xc yc with
          | true =>
            rw [hlc] at hdc
            rw [hxc, hyc] at hlc
            have Hc := Lib.hid hlc; clear hlc hxc hyc
            have hdc' := of_decide_eq_true hdc
            go_wp2_with fail
            go_quiet_grown (first | (go_at_call 30; refine Calls.grown_of (hcc _ _ _)))
            have Sc := Lib.hid (SC.out.grown nq osq)
            clear lc0 lc1 lc2 lc3 hcc hdc hdc' SC
            generalize grow (wr.drewN nq) osq = wc at Sc ⊢
            clear nq osq
            have HK : Hid (scanSorted lessB dk e i = pk0 + 1) := HS.out.symm.trans (scanSorted_stop lessB dk e (pk0 + 1) (Or.inr (by simp only [Nat.add_sub_cancel]; exact Hc.out)))
            clear HS Hc
            obtain ⟨k, hkk⟩ : ∃ k, k = pk0 + 1 := ⟨_, rfl⟩
            rw [← hkk] at HK
            have hck : ((pk0 : Int) + 1) = (k : Int) := by omega
            have hik' : i ≤ k := by omega
            have hkb' : k ≤ e := by omega
            have hka : a < k := by omega
            clear hkk
            simp only [hck]
            by_cases hke : k = e
            · subst hke
              have HR : Hid (partialInsertionSort lessB d a k = (dk, true)) := by
                show partialIns lessB a k 5 (a + 1) d = _
                rw [← HO.out, pi_true lessB a k s i dk hs HK.out]
              have zk : ((k : Int) == (k : Int)) = true := by simp
              go_wp2_with fail
              go_ret
              exact ⟨by rw [HR.out]; rfl, by rw [HR.out]; exact Sc.out⟩
            have zk : ((k : Int) == (e : Int)) = false := by simp; omega
            by_cases h50 : e - a < 50
            · have z5 : (e : Int) - (a : Int) < 50 := by omega
              have HR : Hid (partialInsertionSort lessB d a e = (dk, false)) := by
                show partialIns lessB a e 5 (a + 1) d = _
                rw [← HO.out, pi_short lessB a e s i dk hs (by rw [HK.out]; exact hke) h50]
              go_wp2_with fail
              go_ret
              exact ⟨by rw [HR.out]; rfl, by rw [HR.out]; exact Sc.out⟩
            have z5 : decide ((e : Int) - (a : Int) < 50) = false := decide_eq_false (by omega)
            go_wp2_with fail
            have eqa : ((k : Int)).toNat = k := by omega
            have pqa : (0 : Int) ≤ (k : Int) := by omega
            have bqa : (k : Int) < (d.size : Int) := by omega
            have rqa : IntKind.i64.wrap ((k : Int)) = (k : Int) := by rw [IntKind.wrap_i64]; omega
            have eqb : (((k : Int) - 1)).toNat = k - 1 := by omega
            have pqb : (0 : Int) ≤ ((k : Int) - 1) := by omega
            have bqb : ((k : Int) - 1) < (d.size : Int) := by omega
            have rqb : IntKind.i64.wrap (((k : Int) - 1)) = ((k : Int) - 1) := by rw [IntKind.wrap_i64]; omega
            obtain ⟨xq, hxq⟩ : ∃ x, x = dk[k]! := ⟨_, rfl⟩
            obtain ⟨yq, hyq⟩ : ∃ y, y = dk[k - 1]! := ⟨_, rfl⟩
            have lq0 := Sc.out.c0 (k) (by omega)
            have lq1 := Sc.out.c1 (k) (by omega)
            have lq2 := Sc.out.c0 (k - 1) (by omega)
            have lq3 := Sc.out.c1 (k - 1) (by omega)
            have gq0 := Sc.out.f0 (k) (by omega)
            have gq1 := Sc.out.f1 (k) (by omega)
            have gq2 := Sc.out.f0 (k - 1) (by omega)
            have gq3 := Sc.out.f1 (k - 1) (by omega)
            have Sq := Lib.hid ((Sc.out.swapped (k) (k - 1) (by omega) (by omega) xq yq hxq hyq).drew)
            obtain ⟨mq1, mq2, mq3⟩ := Sc.out.meet (k) (k - 1) (by omega) (by omega) (by omega) (.int .i64 yq.1) (.int .i64 yq.2) (.int .i64 xq.1)
            rw [← hxq] at lq0 lq1 mq1
            rw [← hyq] at lq2 lq3 mq2 mq3
            clear Sc hxq hyq
            go_wp2_with fail
            go_big_region_o
            clear lq0 lq1 lq2 lq3 gq0 gq1 gq2 gq3 mq1 mq2 mq3
            generalize ((((wc.setCell ⟨b, (k) * 2, none⟩ (.int .i64 yq.1)).setCell ⟨b, (k) * 2 + 1, none⟩ (.int .i64 yq.2)).setCell ⟨b, (k - 1) * 2, none⟩ (.int .i64 xq.1)).setCell ⟨b, (k - 1) * 2 + 1, none⟩ (.int .i64 xq.2)).drew = wq at Sq ⊢
            obtain ⟨dq, hdq⟩ : ∃ dq, dq = swp dk k (k - 1) := ⟨_, rfl⟩
            have hsq : dq.size = d.size := by rw [hdq, size_swp]; exact hsk
            rw [← hdq] at Sq
            have HDQ := Lib.hid hdq; clear hdq
            by_cases hdn : k - a ≥ 2
            · have zd : (k : Int) - (a : Int) ≥ 2 := by omega
              go_wp2_with fail
              (try simp only [show decide ((2 : Int) ≤ (k : Int) - (a : Int)) = true from decide_eq_true (by omega)])
              go_loopw [11] (fun v wr => ∃ (jd : Nat) (dd : Array (Int × Int)), v = .int .i64 jd ∧ jd < k ∧ dd.size = d.size ∧ Hid (RowAt w0 b dd wr) ∧ Hid (shiftDown lessB jd dd = shiftDown lessB (k - 1) dq)) (fun v _ => (intOf v).toNat)
              case atStart => exact ⟨k - 1, dq, by rw [show ((k - 1 : Nat) : Int) = (k : Int) - 1 by omega], by omega, hsq, Sq, rfl⟩
              case round =>
                clear Sq zd
                obtain ⟨jd, dd, rfl, hjd, hsd, SD, HD⟩ := hrel
                by_cases hj0 : 1 ≤ jd
                · obtain ⟨pd, rfl⟩ : ∃ pd, jd = pd + 1 := ⟨jd - 1, by omega⟩
                  have zj : (pd : Int) + 1 ≥ 1 := by omega
                  go_wp2_with fail
                  have etda : (((pd : Int) + 1)).toNat = pd + 1 := by omega
                  have ptda : (0 : Int) ≤ ((pd : Int) + 1) := by omega
                  have btda : ((pd : Int) + 1) < (d.size : Int) := by omega
                  have rtda : IntKind.i64.wrap (((pd : Int) + 1)) = ((pd : Int) + 1) := by rw [IntKind.wrap_i64]; omega
                  have etdb : ((pd : Int)).toNat = pd := by omega
                  have ptdb : (0 : Int) ≤ (pd : Int) := by omega
                  have btdb : (pd : Int) < (d.size : Int) := by omega
                  have rtdb : IntKind.i64.wrap ((pd : Int)) = (pd : Int) := by rw [IntKind.wrap_i64]; omega
                  obtain ⟨xtd, hxtd⟩ : ∃ x, x = dd[pd + 1]! := ⟨_, rfl⟩
                  obtain ⟨ytd, hytd⟩ : ∃ y, y = dd[pd]! := ⟨_, rfl⟩
                  have ltd0 := fun n os => (SD.out.grown n os).c0 (pd + 1) (by omega)
                  have ltd1 := fun n os => (SD.out.grown n os).c1 (pd + 1) (by omega)
                  have ltd2 := fun n os => (SD.out.grown n os).c0 (pd) (by omega)
                  have ltd3 := fun n os => (SD.out.grown n os).c1 (pd) (by omega)
                  rw [← hxtd] at ltd0 ltd1
                  rw [← hytd] at ltd2 ltd3
                  have hctd := compare_grown xtd ytd
                  have hdtd := cmp_neg xtd ytd
                  cases hltd : lessB xtd ytd with
                  | true =>
                    rw [hltd] at hdtd
                    rw [hxtd, hytd] at hltd
                    have Htd := Lib.hid hltd; clear hltd hxtd hytd
                    have hdtd' := of_decide_eq_true hdtd
                    go_wp2_with fail
                    go_quiet_grown (first | (go_at_call 30; refine Calls.grown_of (hctd _ _ _)))
                    have Std := Lib.hid (SD.out.grown nq osq)
                    clear ltd0 ltd1 ltd2 ltd3 hctd hdtd hdtd' SD
                    generalize grow (wr.drewN nq) osq = wtd at Std ⊢
                    clear nq osq
                    go_wp2_with fail
                    have esda : (((pd : Int) + 1)).toNat = pd + 1 := by omega
                    have psda : (0 : Int) ≤ ((pd : Int) + 1) := by omega
                    have bsda : ((pd : Int) + 1) < (d.size : Int) := by omega
                    have rsda : IntKind.i64.wrap (((pd : Int) + 1)) = ((pd : Int) + 1) := by rw [IntKind.wrap_i64]; omega
                    have esdb : ((pd : Int)).toNat = pd := by omega
                    have psdb : (0 : Int) ≤ (pd : Int) := by omega
                    have bsdb : (pd : Int) < (d.size : Int) := by omega
                    have rsdb : IntKind.i64.wrap ((pd : Int)) = (pd : Int) := by rw [IntKind.wrap_i64]; omega
                    obtain ⟨xsd, hxsd⟩ : ∃ x, x = dd[pd + 1]! := ⟨_, rfl⟩
                    obtain ⟨ysd, hysd⟩ : ∃ y, y = dd[pd]! := ⟨_, rfl⟩
                    have lsd0 := Std.out.c0 (pd + 1) (by omega)
                    have lsd1 := Std.out.c1 (pd + 1) (by omega)
                    have lsd2 := Std.out.c0 (pd) (by omega)
                    have lsd3 := Std.out.c1 (pd) (by omega)
                    have gsd0 := Std.out.f0 (pd + 1) (by omega)
                    have gsd1 := Std.out.f1 (pd + 1) (by omega)
                    have gsd2 := Std.out.f0 (pd) (by omega)
                    have gsd3 := Std.out.f1 (pd) (by omega)
                    have Ssd := Lib.hid ((Std.out.swapped (pd + 1) (pd) (by omega) (by omega) xsd ysd hxsd hysd).drew)
                    obtain ⟨msd1, msd2, msd3⟩ := Std.out.meet (pd + 1) (pd) (by omega) (by omega) (by omega) (.int .i64 ysd.1) (.int .i64 ysd.2) (.int .i64 xsd.1)
                    rw [← hxsd] at lsd0 lsd1 msd1
                    rw [← hysd] at lsd2 lsd3 msd2 msd3
                    clear Std hxsd hysd
                    go_wp2_with fail
                    go_big_region_o
                    clear lsd0 lsd1 lsd2 lsd3 gsd0 gsd1 gsd2 gsd3 msd1 msd2 msd3
                    generalize ((((wtd.setCell ⟨b, (pd + 1) * 2, none⟩ (.int .i64 ysd.1)).setCell ⟨b, (pd + 1) * 2 + 1, none⟩ (.int .i64 ysd.2)).setCell ⟨b, (pd) * 2, none⟩ (.int .i64 xsd.1)).setCell ⟨b, (pd) * 2 + 1, none⟩ (.int .i64 xsd.2)).drew = wsd at Ssd ⊢
                    go_wp2
                    go_roundw
                    case rel =>
                      refine ⟨pd, swp dd (pd + 1) pd, by go_num, by omega, by rw [size_swp]; exact hsd, Ssd, (?_ : _ = _)⟩
                      have g := shiftDown_go lessB (pd + 1) dd (by omega) (by simp only [Nat.add_sub_cancel]; exact Htd.out)
                      simp only [Nat.add_sub_cancel] at g
                      rw [← HD.out, g]
                    case measure => simp [intOf]
                  | false =>
                    rw [hltd] at hdtd
                    rw [hxtd, hytd] at hltd
                    have Htd := Lib.hid hltd; clear hltd hxtd hytd
                    have hdtd' := of_decide_eq_false hdtd
                    go_wp2_with fail
                    go_quiet_grown (first | (go_at_call 30; refine Calls.grown_of (hctd _ _ _)))
                    have Std := Lib.hid (SD.out.grown nq osq)
                    clear ltd0 ltd1 ltd2 ltd3 hctd hdtd hdtd' SD
                    generalize grow (wr.drewN nq) osq = wtd at Std ⊢
                    clear nq osq
                    have HE : Hid (fixDown lessB a k dq = dd) := by
                      show _ = _
                      rw [show fixDown lessB a k dq = shiftDown lessB (k - 1) dq from if_pos (by omega), ← HD.out, shiftDown_stop lessB (pd + 1) dd (Or.inr (by simp only [Nat.add_sub_cancel]; exact Htd.out))]
                    clear HD Htd
                    by_cases huv1 : e - k ≥ 2
                    · have zuv1 : (e : Int) - (k : Int) ≥ 2 := by omega
                      go_wp2_with fail
                      (try simp only [show decide ((2 : Int) ≤ (e : Int) - (k : Int)) = true from decide_eq_true (by omega)])
                      (try simp only [show decide ((1 : Int) ≤ 0) = false from rfl])
                      (try simp only [show decide ((0 : Int) ≥ 1) = false from rfl])
                      (try simp only [show ((0 : Nat) : Int) = 0 from rfl])
                      go_loopw [12] (fun v wr => ∃ (p : Nat) (du : Array (Int × Int)), v = .int .i64 ((p : Int) + 1) ∧ k ≤ p ∧ p + 1 ≤ e ∧ du.size = d.size ∧ Hid (RowAt w0 b du wr) ∧ Hid (shiftUp lessB e (p + 1) du = shiftUp lessB e (k + 1) (dd))) (fun v _ => e + 1 - (intOf v).toNat)
                      case atStart => exact ⟨k, dd, by go_num, Nat.le_refl _, by omega, hsd, Std, rfl⟩
                      case round =>
                        clear Std zuv1
                        obtain ⟨pv1, du, rfl, hpv1, hpev1, hsuv1, SUv1, HUv1⟩ := hrel
                        by_cases hltv1 : pv1 + 1 < e
                        · have zv1 : (pv1 : Int) + 1 < (e : Int) := by omega
                          go_wp2_with fail
                          have etv1a : (((pv1 : Int) + 1)).toNat = pv1 + 1 := by omega
                          have ptv1a : (0 : Int) ≤ ((pv1 : Int) + 1) := by omega
                          have btv1a : ((pv1 : Int) + 1) < (d.size : Int) := by omega
                          have rtv1a : IntKind.i64.wrap (((pv1 : Int) + 1)) = ((pv1 : Int) + 1) := by rw [IntKind.wrap_i64]; omega
                          have etv1b : ((pv1 : Int)).toNat = pv1 := by omega
                          have ptv1b : (0 : Int) ≤ (pv1 : Int) := by omega
                          have btv1b : (pv1 : Int) < (d.size : Int) := by omega
                          have rtv1b : IntKind.i64.wrap ((pv1 : Int)) = (pv1 : Int) := by rw [IntKind.wrap_i64]; omega
                          obtain ⟨xtv1, hxtv1⟩ : ∃ x, x = du[pv1 + 1]! := ⟨_, rfl⟩
                          obtain ⟨ytv1, hytv1⟩ : ∃ y, y = du[pv1]! := ⟨_, rfl⟩
                          have ltv10 := fun n os => (SUv1.out.grown n os).c0 (pv1 + 1) (by omega)
                          have ltv11 := fun n os => (SUv1.out.grown n os).c1 (pv1 + 1) (by omega)
                          have ltv12 := fun n os => (SUv1.out.grown n os).c0 (pv1) (by omega)
                          have ltv13 := fun n os => (SUv1.out.grown n os).c1 (pv1) (by omega)
                          rw [← hxtv1] at ltv10 ltv11
                          rw [← hytv1] at ltv12 ltv13
                          have hctv1 := compare_grown xtv1 ytv1
                          have hdtv1 := cmp_neg xtv1 ytv1
                          cases hltv1 : lessB xtv1 ytv1 with
                          | true =>
                            rw [hltv1] at hdtv1
                            rw [hxtv1, hytv1] at hltv1
                            have Htv1 := Lib.hid hltv1; clear hltv1 hxtv1 hytv1
                            have hdtv1' := of_decide_eq_true hdtv1
                            go_wp2_with fail
                            go_quiet_grown (first | (go_at_call 30; refine Calls.grown_of (hctv1 _ _ _)))
                            have Stv1 := Lib.hid (SUv1.out.grown nq osq)
                            clear ltv10 ltv11 ltv12 ltv13 hctv1 hdtv1 hdtv1' SUv1
                            generalize grow (wr.drewN nq) osq = wtv1 at Stv1 ⊢
                            clear nq osq
                            go_wp2_with fail
                            have esv1a : (((pv1 : Int) + 1)).toNat = pv1 + 1 := by omega
                            have psv1a : (0 : Int) ≤ ((pv1 : Int) + 1) := by omega
                            have bsv1a : ((pv1 : Int) + 1) < (d.size : Int) := by omega
                            have rsv1a : IntKind.i64.wrap (((pv1 : Int) + 1)) = ((pv1 : Int) + 1) := by rw [IntKind.wrap_i64]; omega
                            have esv1b : ((pv1 : Int)).toNat = pv1 := by omega
                            have psv1b : (0 : Int) ≤ (pv1 : Int) := by omega
                            have bsv1b : (pv1 : Int) < (d.size : Int) := by omega
                            have rsv1b : IntKind.i64.wrap ((pv1 : Int)) = (pv1 : Int) := by rw [IntKind.wrap_i64]; omega
                            obtain ⟨xsv1, hxsv1⟩ : ∃ x, x = du[pv1 + 1]! := ⟨_, rfl⟩
                            obtain ⟨ysv1, hysv1⟩ : ∃ y, y = du[pv1]! := ⟨_, rfl⟩
                            have lsv10 := Stv1.out.c0 (pv1 + 1) (by omega)
                            have lsv11 := Stv1.out.c1 (pv1 + 1) (by omega)
                            have lsv12 := Stv1.out.c0 (pv1) (by omega)
                            have lsv13 := Stv1.out.c1 (pv1) (by omega)
                            have gsv10 := Stv1.out.f0 (pv1 + 1) (by omega)
                            have gsv11 := Stv1.out.f1 (pv1 + 1) (by omega)
                            have gsv12 := Stv1.out.f0 (pv1) (by omega)
                            have gsv13 := Stv1.out.f1 (pv1) (by omega)
                            have Ssv1 := Lib.hid ((Stv1.out.swapped (pv1 + 1) (pv1) (by omega) (by omega) xsv1 ysv1 hxsv1 hysv1).drew)
                            obtain ⟨msv11, msv12, msv13⟩ := Stv1.out.meet (pv1 + 1) (pv1) (by omega) (by omega) (by omega) (.int .i64 ysv1.1) (.int .i64 ysv1.2) (.int .i64 xsv1.1)
                            rw [← hxsv1] at lsv10 lsv11 msv11
                            rw [← hysv1] at lsv12 lsv13 msv12 msv13
                            clear Stv1 hxsv1 hysv1
                            go_wp2_with fail
                            go_big_region_o
                            clear lsv10 lsv11 lsv12 lsv13 gsv10 gsv11 gsv12 gsv13 msv11 msv12 msv13
                            generalize ((((wtv1.setCell ⟨b, (pv1 + 1) * 2, none⟩ (.int .i64 ysv1.1)).setCell ⟨b, (pv1 + 1) * 2 + 1, none⟩ (.int .i64 ysv1.2)).setCell ⟨b, (pv1) * 2, none⟩ (.int .i64 xsv1.1)).setCell ⟨b, (pv1) * 2 + 1, none⟩ (.int .i64 xsv1.2)).drew = wsv1 at Ssv1 ⊢
                            go_wp2
                            go_roundw
                            case rel =>
                              refine ⟨pv1 + 1, swp du (pv1 + 1) pv1, by go_num, by omega, by omega, by rw [size_swp]; exact hsuv1, Ssv1, (?_ : _ = _)⟩
                              have g := shiftUp_go lessB e (pv1 + 1) du (by omega) (by simp only [Nat.add_sub_cancel]; exact Htv1.out)
                              simp only [Nat.add_sub_cancel] at g
                              rw [← HUv1.out, g]
                            case measure => simp [intOf]; omega
                          | false =>
                            rw [hltv1] at hdtv1
                            rw [hxtv1, hytv1] at hltv1
                            have Htv1 := Lib.hid hltv1; clear hltv1 hxtv1 hytv1
                            have hdtv1' := of_decide_eq_false hdtv1
                            go_wp2_with fail
                            go_quiet_grown (first | (go_at_call 30; refine Calls.grown_of (hctv1 _ _ _)))
                            have Stv1 := Lib.hid (SUv1.out.grown nq osq)
                            clear ltv10 ltv11 ltv12 ltv13 hctv1 hdtv1 hdtv1' SUv1
                            generalize grow (wr.drewN nq) osq = wtv1 at Stv1 ⊢
                            clear nq osq
                            have HVv1 : Hid (shiftUp lessB e (k + 1) (dd) = du) := by
                              show _ = _
                              rw [← HUv1.out, shiftUp_stop lessB e (pv1 + 1) du (Or.inr (by simp only [Nat.add_sub_cancel]; exact Htv1.out))]
                            have HZ : Hid (partialIns lessB a e (5 - (s + 1)) k (du) = partialIns lessB a e 5 (a + 1) d) := by
                              show _ = _
                              rw [← HO.out, pi_go lessB a e s i k dk hs HK.out (by omega) h50, ← HDQ.out, HE.out, show fixUp lessB e k (dd) = shiftUp lessB e (k + 1) (dd) from if_pos (by omega), HVv1.out]
                            go_wp2
                            go_roundw
                            case rel => exact ⟨k, s + 1, du, by go_num, by go_num, by omega, by omega, by omega, hsuv1, Stv1, HZ⟩
                            case measure => simp [intOf]; omega
                        · have zv1 : ¬ (pv1 : Int) + 1 < (e : Int) := by omega
                          have HVv1 : Hid (shiftUp lessB e (k + 1) (dd) = du) := by
                            show _ = _
                            rw [← HUv1.out, shiftUp_stop lessB e (pv1 + 1) du (Or.inl (by omega))]
                          have HZ : Hid (partialIns lessB a e (5 - (s + 1)) k (du) = partialIns lessB a e 5 (a + 1) d) := by
                            show _ = _
                            rw [← HO.out, pi_go lessB a e s i k dk hs HK.out (by omega) h50, ← HDQ.out, HE.out, show fixUp lessB e k (dd) = shiftUp lessB e (k + 1) (dd) from if_pos (by omega), HVv1.out]
                          go_wp2
                          go_roundw
                          case rel => exact ⟨k, s + 1, du, by go_num, by go_num, by omega, by omega, by omega, hsuv1, SUv1, HZ⟩
                          case measure => simp [intOf]; omega
                    · have zuv1 : decide ((e : Int) - (k : Int) ≥ 2) = false := decide_eq_false (by omega)
                      have yuv1 : ¬ (2 : Int) ≤ (e : Int) - (k : Int) := by omega
                      have HZ : Hid (partialIns lessB a e (5 - (s + 1)) k (dd) = partialIns lessB a e 5 (a + 1) d) := by
                        show _ = _
                        rw [← HO.out, pi_go lessB a e s i k dk hs HK.out (by omega) h50, ← HDQ.out, HE.out, show fixUp lessB e k (dd) = dd from if_neg (by omega)]
                      go_wp2
                      go_roundw
                      case rel => exact ⟨k, s + 1, dd, by go_num, by go_num, by omega, by omega, by omega, hsd, Std, HZ⟩
                      case measure => simp [intOf]; omega
                · obtain rfl : jd = 0 := by omega
                  have HE : Hid (fixDown lessB a k dq = dd) := by
                    show _ = _
                    rw [show fixDown lessB a k dq = shiftDown lessB (k - 1) dq from if_pos (by omega), ← HD.out, shiftDown_stop lessB 0 dd (Or.inl rfl)]
                  clear HD
                  by_cases huv2 : e - k ≥ 2
                  · have zuv2 : (e : Int) - (k : Int) ≥ 2 := by omega
                    go_wp2_with fail
                    (try simp only [show decide ((2 : Int) ≤ (e : Int) - (k : Int)) = true from decide_eq_true (by omega)])
                    (try simp only [show decide ((1 : Int) ≤ 0) = false from rfl])
                    (try simp only [show decide ((0 : Int) ≥ 1) = false from rfl])
                    (try simp only [show ((0 : Nat) : Int) = 0 from rfl])
                    go_loopw [12] (fun v wr => ∃ (p : Nat) (du : Array (Int × Int)), v = .int .i64 ((p : Int) + 1) ∧ k ≤ p ∧ p + 1 ≤ e ∧ du.size = d.size ∧ Hid (RowAt w0 b du wr) ∧ Hid (shiftUp lessB e (p + 1) du = shiftUp lessB e (k + 1) (dd))) (fun v _ => e + 1 - (intOf v).toNat)
                    case atStart => exact ⟨k, dd, by go_num, Nat.le_refl _, by omega, hsd, SD, rfl⟩
                    case round =>
                      clear SD zuv2
                      obtain ⟨pv2, du, rfl, hpv2, hpev2, hsuv2, SUv2, HUv2⟩ := hrel
                      by_cases hltv2 : pv2 + 1 < e
                      · have zv2 : (pv2 : Int) + 1 < (e : Int) := by omega
                        go_wp2_with fail
                        have etv2a : (((pv2 : Int) + 1)).toNat = pv2 + 1 := by omega
                        have ptv2a : (0 : Int) ≤ ((pv2 : Int) + 1) := by omega
                        have btv2a : ((pv2 : Int) + 1) < (d.size : Int) := by omega
                        have rtv2a : IntKind.i64.wrap (((pv2 : Int) + 1)) = ((pv2 : Int) + 1) := by rw [IntKind.wrap_i64]; omega
                        have etv2b : ((pv2 : Int)).toNat = pv2 := by omega
                        have ptv2b : (0 : Int) ≤ (pv2 : Int) := by omega
                        have btv2b : (pv2 : Int) < (d.size : Int) := by omega
                        have rtv2b : IntKind.i64.wrap ((pv2 : Int)) = (pv2 : Int) := by rw [IntKind.wrap_i64]; omega
                        obtain ⟨xtv2, hxtv2⟩ : ∃ x, x = du[pv2 + 1]! := ⟨_, rfl⟩
                        obtain ⟨ytv2, hytv2⟩ : ∃ y, y = du[pv2]! := ⟨_, rfl⟩
                        have ltv20 := fun n os => (SUv2.out.grown n os).c0 (pv2 + 1) (by omega)
                        have ltv21 := fun n os => (SUv2.out.grown n os).c1 (pv2 + 1) (by omega)
                        have ltv22 := fun n os => (SUv2.out.grown n os).c0 (pv2) (by omega)
                        have ltv23 := fun n os => (SUv2.out.grown n os).c1 (pv2) (by omega)
                        rw [← hxtv2] at ltv20 ltv21
                        rw [← hytv2] at ltv22 ltv23
                        have hctv2 := compare_grown xtv2 ytv2
                        have hdtv2 := cmp_neg xtv2 ytv2
                        cases hltv2 : lessB xtv2 ytv2 with
                        | true =>
                          rw [hltv2] at hdtv2
                          rw [hxtv2, hytv2] at hltv2
                          have Htv2 := Lib.hid hltv2; clear hltv2 hxtv2 hytv2
                          have hdtv2' := of_decide_eq_true hdtv2
                          go_wp2_with fail
                          go_quiet_grown (first | (go_at_call 30; refine Calls.grown_of (hctv2 _ _ _)))
                          have Stv2 := Lib.hid (SUv2.out.grown nq osq)
                          clear ltv20 ltv21 ltv22 ltv23 hctv2 hdtv2 hdtv2' SUv2
                          generalize grow (wr.drewN nq) osq = wtv2 at Stv2 ⊢
                          clear nq osq
                          go_wp2_with fail
                          have esv2a : (((pv2 : Int) + 1)).toNat = pv2 + 1 := by omega
                          have psv2a : (0 : Int) ≤ ((pv2 : Int) + 1) := by omega
                          have bsv2a : ((pv2 : Int) + 1) < (d.size : Int) := by omega
                          have rsv2a : IntKind.i64.wrap (((pv2 : Int) + 1)) = ((pv2 : Int) + 1) := by rw [IntKind.wrap_i64]; omega
                          have esv2b : ((pv2 : Int)).toNat = pv2 := by omega
                          have psv2b : (0 : Int) ≤ (pv2 : Int) := by omega
                          have bsv2b : (pv2 : Int) < (d.size : Int) := by omega
                          have rsv2b : IntKind.i64.wrap ((pv2 : Int)) = (pv2 : Int) := by rw [IntKind.wrap_i64]; omega
                          obtain ⟨xsv2, hxsv2⟩ : ∃ x, x = du[pv2 + 1]! := ⟨_, rfl⟩
                          obtain ⟨ysv2, hysv2⟩ : ∃ y, y = du[pv2]! := ⟨_, rfl⟩
                          have lsv20 := Stv2.out.c0 (pv2 + 1) (by omega)
                          have lsv21 := Stv2.out.c1 (pv2 + 1) (by omega)
                          have lsv22 := Stv2.out.c0 (pv2) (by omega)
                          have lsv23 := Stv2.out.c1 (pv2) (by omega)
                          have gsv20 := Stv2.out.f0 (pv2 + 1) (by omega)
                          have gsv21 := Stv2.out.f1 (pv2 + 1) (by omega)
                          have gsv22 := Stv2.out.f0 (pv2) (by omega)
                          have gsv23 := Stv2.out.f1 (pv2) (by omega)
                          have Ssv2 := Lib.hid ((Stv2.out.swapped (pv2 + 1) (pv2) (by omega) (by omega) xsv2 ysv2 hxsv2 hysv2).drew)
                          obtain ⟨msv21, msv22, msv23⟩ := Stv2.out.meet (pv2 + 1) (pv2) (by omega) (by omega) (by omega) (.int .i64 ysv2.1) (.int .i64 ysv2.2) (.int .i64 xsv2.1)
                          rw [← hxsv2] at lsv20 lsv21 msv21
                          rw [← hysv2] at lsv22 lsv23 msv22 msv23
                          clear Stv2 hxsv2 hysv2
                          go_wp2_with fail
                          go_big_region_o
                          clear lsv20 lsv21 lsv22 lsv23 gsv20 gsv21 gsv22 gsv23 msv21 msv22 msv23
                          generalize ((((wtv2.setCell ⟨b, (pv2 + 1) * 2, none⟩ (.int .i64 ysv2.1)).setCell ⟨b, (pv2 + 1) * 2 + 1, none⟩ (.int .i64 ysv2.2)).setCell ⟨b, (pv2) * 2, none⟩ (.int .i64 xsv2.1)).setCell ⟨b, (pv2) * 2 + 1, none⟩ (.int .i64 xsv2.2)).drew = wsv2 at Ssv2 ⊢
                          go_wp2
                          go_roundw
                          case rel =>
                            refine ⟨pv2 + 1, swp du (pv2 + 1) pv2, by go_num, by omega, by omega, by rw [size_swp]; exact hsuv2, Ssv2, (?_ : _ = _)⟩
                            have g := shiftUp_go lessB e (pv2 + 1) du (by omega) (by simp only [Nat.add_sub_cancel]; exact Htv2.out)
                            simp only [Nat.add_sub_cancel] at g
                            rw [← HUv2.out, g]
                          case measure => simp [intOf]; omega
                        | false =>
                          rw [hltv2] at hdtv2
                          rw [hxtv2, hytv2] at hltv2
                          have Htv2 := Lib.hid hltv2; clear hltv2 hxtv2 hytv2
                          have hdtv2' := of_decide_eq_false hdtv2
                          go_wp2_with fail
                          go_quiet_grown (first | (go_at_call 30; refine Calls.grown_of (hctv2 _ _ _)))
                          have Stv2 := Lib.hid (SUv2.out.grown nq osq)
                          clear ltv20 ltv21 ltv22 ltv23 hctv2 hdtv2 hdtv2' SUv2
                          generalize grow (wr.drewN nq) osq = wtv2 at Stv2 ⊢
                          clear nq osq
                          have HVv2 : Hid (shiftUp lessB e (k + 1) (dd) = du) := by
                            show _ = _
                            rw [← HUv2.out, shiftUp_stop lessB e (pv2 + 1) du (Or.inr (by simp only [Nat.add_sub_cancel]; exact Htv2.out))]
                          have HZ : Hid (partialIns lessB a e (5 - (s + 1)) k (du) = partialIns lessB a e 5 (a + 1) d) := by
                            show _ = _
                            rw [← HO.out, pi_go lessB a e s i k dk hs HK.out (by omega) h50, ← HDQ.out, HE.out, show fixUp lessB e k (dd) = shiftUp lessB e (k + 1) (dd) from if_pos (by omega), HVv2.out]
                          go_wp2
                          go_roundw
                          case rel => exact ⟨k, s + 1, du, by go_num, by go_num, by omega, by omega, by omega, hsuv2, Stv2, HZ⟩
                          case measure => simp [intOf]; omega
                      · have zv2 : ¬ (pv2 : Int) + 1 < (e : Int) := by omega
                        have HVv2 : Hid (shiftUp lessB e (k + 1) (dd) = du) := by
                          show _ = _
                          rw [← HUv2.out, shiftUp_stop lessB e (pv2 + 1) du (Or.inl (by omega))]
                        have HZ : Hid (partialIns lessB a e (5 - (s + 1)) k (du) = partialIns lessB a e 5 (a + 1) d) := by
                          show _ = _
                          rw [← HO.out, pi_go lessB a e s i k dk hs HK.out (by omega) h50, ← HDQ.out, HE.out, show fixUp lessB e k (dd) = shiftUp lessB e (k + 1) (dd) from if_pos (by omega), HVv2.out]
                        go_wp2
                        go_roundw
                        case rel => exact ⟨k, s + 1, du, by go_num, by go_num, by omega, by omega, by omega, hsuv2, SUv2, HZ⟩
                        case measure => simp [intOf]; omega
                  · have zuv2 : decide ((e : Int) - (k : Int) ≥ 2) = false := decide_eq_false (by omega)
                    have yuv2 : ¬ (2 : Int) ≤ (e : Int) - (k : Int) := by omega
                    have HZ : Hid (partialIns lessB a e (5 - (s + 1)) k (dd) = partialIns lessB a e 5 (a + 1) d) := by
                      show _ = _
                      rw [← HO.out, pi_go lessB a e s i k dk hs HK.out (by omega) h50, ← HDQ.out, HE.out, show fixUp lessB e k (dd) = dd from if_neg (by omega)]
                    go_wp2
                    go_roundw
                    case rel => exact ⟨k, s + 1, dd, by go_num, by go_num, by omega, by omega, by omega, hsd, SD, HZ⟩
                    case measure => simp [intOf]; omega
            · have zd : decide ((k : Int) - (a : Int) ≥ 2) = false := decide_eq_false (by omega)
              have yd : ¬ (2 : Int) ≤ (k : Int) - (a : Int) := by omega
              have HE : Hid (fixDown lessB a k dq = dq) := if_neg (by omega)
              by_cases huv3 : e - k ≥ 2
              · have zuv3 : (e : Int) - (k : Int) ≥ 2 := by omega
                go_wp2_with fail
                (try simp only [show decide ((2 : Int) ≤ (e : Int) - (k : Int)) = true from decide_eq_true (by omega)])
                (try simp only [show decide ((1 : Int) ≤ 0) = false from rfl])
                (try simp only [show decide ((0 : Int) ≥ 1) = false from rfl])
                (try simp only [show ((0 : Nat) : Int) = 0 from rfl])
                go_loopw [12] (fun v wr => ∃ (p : Nat) (du : Array (Int × Int)), v = .int .i64 ((p : Int) + 1) ∧ k ≤ p ∧ p + 1 ≤ e ∧ du.size = d.size ∧ Hid (RowAt w0 b du wr) ∧ Hid (shiftUp lessB e (p + 1) du = shiftUp lessB e (k + 1) (dq))) (fun v _ => e + 1 - (intOf v).toNat)
                case atStart => exact ⟨k, dq, by go_num, Nat.le_refl _, by omega, hsq, Sq, rfl⟩
                case round =>
                  clear Sq zuv3
                  obtain ⟨pv3, du, rfl, hpv3, hpev3, hsuv3, SUv3, HUv3⟩ := hrel
                  by_cases hltv3 : pv3 + 1 < e
                  · have zv3 : (pv3 : Int) + 1 < (e : Int) := by omega
                    go_wp2_with fail
                    have etv3a : (((pv3 : Int) + 1)).toNat = pv3 + 1 := by omega
                    have ptv3a : (0 : Int) ≤ ((pv3 : Int) + 1) := by omega
                    have btv3a : ((pv3 : Int) + 1) < (d.size : Int) := by omega
                    have rtv3a : IntKind.i64.wrap (((pv3 : Int) + 1)) = ((pv3 : Int) + 1) := by rw [IntKind.wrap_i64]; omega
                    have etv3b : ((pv3 : Int)).toNat = pv3 := by omega
                    have ptv3b : (0 : Int) ≤ (pv3 : Int) := by omega
                    have btv3b : (pv3 : Int) < (d.size : Int) := by omega
                    have rtv3b : IntKind.i64.wrap ((pv3 : Int)) = (pv3 : Int) := by rw [IntKind.wrap_i64]; omega
                    obtain ⟨xtv3, hxtv3⟩ : ∃ x, x = du[pv3 + 1]! := ⟨_, rfl⟩
                    obtain ⟨ytv3, hytv3⟩ : ∃ y, y = du[pv3]! := ⟨_, rfl⟩
                    have ltv30 := fun n os => (SUv3.out.grown n os).c0 (pv3 + 1) (by omega)
                    have ltv31 := fun n os => (SUv3.out.grown n os).c1 (pv3 + 1) (by omega)
                    have ltv32 := fun n os => (SUv3.out.grown n os).c0 (pv3) (by omega)
                    have ltv33 := fun n os => (SUv3.out.grown n os).c1 (pv3) (by omega)
                    rw [← hxtv3] at ltv30 ltv31
                    rw [← hytv3] at ltv32 ltv33
                    have hctv3 := compare_grown xtv3 ytv3
                    have hdtv3 := cmp_neg xtv3 ytv3
                    cases hltv3 : lessB xtv3 ytv3 with
                    | true =>
                      rw [hltv3] at hdtv3
                      rw [hxtv3, hytv3] at hltv3
                      have Htv3 := Lib.hid hltv3; clear hltv3 hxtv3 hytv3
                      have hdtv3' := of_decide_eq_true hdtv3
                      go_wp2_with fail
                      go_quiet_grown (first | (go_at_call 30; refine Calls.grown_of (hctv3 _ _ _)))
                      have Stv3 := Lib.hid (SUv3.out.grown nq osq)
                      clear ltv30 ltv31 ltv32 ltv33 hctv3 hdtv3 hdtv3' SUv3
                      generalize grow (wr.drewN nq) osq = wtv3 at Stv3 ⊢
                      clear nq osq
                      go_wp2_with fail
                      have esv3a : (((pv3 : Int) + 1)).toNat = pv3 + 1 := by omega
                      have psv3a : (0 : Int) ≤ ((pv3 : Int) + 1) := by omega
                      have bsv3a : ((pv3 : Int) + 1) < (d.size : Int) := by omega
                      have rsv3a : IntKind.i64.wrap (((pv3 : Int) + 1)) = ((pv3 : Int) + 1) := by rw [IntKind.wrap_i64]; omega
                      have esv3b : ((pv3 : Int)).toNat = pv3 := by omega
                      have psv3b : (0 : Int) ≤ (pv3 : Int) := by omega
                      have bsv3b : (pv3 : Int) < (d.size : Int) := by omega
                      have rsv3b : IntKind.i64.wrap ((pv3 : Int)) = (pv3 : Int) := by rw [IntKind.wrap_i64]; omega
                      obtain ⟨xsv3, hxsv3⟩ : ∃ x, x = du[pv3 + 1]! := ⟨_, rfl⟩
                      obtain ⟨ysv3, hysv3⟩ : ∃ y, y = du[pv3]! := ⟨_, rfl⟩
                      have lsv30 := Stv3.out.c0 (pv3 + 1) (by omega)
                      have lsv31 := Stv3.out.c1 (pv3 + 1) (by omega)
                      have lsv32 := Stv3.out.c0 (pv3) (by omega)
                      have lsv33 := Stv3.out.c1 (pv3) (by omega)
                      have gsv30 := Stv3.out.f0 (pv3 + 1) (by omega)
                      have gsv31 := Stv3.out.f1 (pv3 + 1) (by omega)
                      have gsv32 := Stv3.out.f0 (pv3) (by omega)
                      have gsv33 := Stv3.out.f1 (pv3) (by omega)
                      have Ssv3 := Lib.hid ((Stv3.out.swapped (pv3 + 1) (pv3) (by omega) (by omega) xsv3 ysv3 hxsv3 hysv3).drew)
                      obtain ⟨msv31, msv32, msv33⟩ := Stv3.out.meet (pv3 + 1) (pv3) (by omega) (by omega) (by omega) (.int .i64 ysv3.1) (.int .i64 ysv3.2) (.int .i64 xsv3.1)
                      rw [← hxsv3] at lsv30 lsv31 msv31
                      rw [← hysv3] at lsv32 lsv33 msv32 msv33
                      clear Stv3 hxsv3 hysv3
                      go_wp2_with fail
                      go_big_region_o
                      clear lsv30 lsv31 lsv32 lsv33 gsv30 gsv31 gsv32 gsv33 msv31 msv32 msv33
                      generalize ((((wtv3.setCell ⟨b, (pv3 + 1) * 2, none⟩ (.int .i64 ysv3.1)).setCell ⟨b, (pv3 + 1) * 2 + 1, none⟩ (.int .i64 ysv3.2)).setCell ⟨b, (pv3) * 2, none⟩ (.int .i64 xsv3.1)).setCell ⟨b, (pv3) * 2 + 1, none⟩ (.int .i64 xsv3.2)).drew = wsv3 at Ssv3 ⊢
                      go_wp2
                      go_roundw
                      case rel =>
                        refine ⟨pv3 + 1, swp du (pv3 + 1) pv3, by go_num, by omega, by omega, by rw [size_swp]; exact hsuv3, Ssv3, (?_ : _ = _)⟩
                        have g := shiftUp_go lessB e (pv3 + 1) du (by omega) (by simp only [Nat.add_sub_cancel]; exact Htv3.out)
                        simp only [Nat.add_sub_cancel] at g
                        rw [← HUv3.out, g]
                      case measure => simp [intOf]; omega
                    | false =>
                      rw [hltv3] at hdtv3
                      rw [hxtv3, hytv3] at hltv3
                      have Htv3 := Lib.hid hltv3; clear hltv3 hxtv3 hytv3
                      have hdtv3' := of_decide_eq_false hdtv3
                      go_wp2_with fail
                      go_quiet_grown (first | (go_at_call 30; refine Calls.grown_of (hctv3 _ _ _)))
                      have Stv3 := Lib.hid (SUv3.out.grown nq osq)
                      clear ltv30 ltv31 ltv32 ltv33 hctv3 hdtv3 hdtv3' SUv3
                      generalize grow (wr.drewN nq) osq = wtv3 at Stv3 ⊢
                      clear nq osq
                      have HVv3 : Hid (shiftUp lessB e (k + 1) (dq) = du) := by
                        show _ = _
                        rw [← HUv3.out, shiftUp_stop lessB e (pv3 + 1) du (Or.inr (by simp only [Nat.add_sub_cancel]; exact Htv3.out))]
                      have HZ : Hid (partialIns lessB a e (5 - (s + 1)) k (du) = partialIns lessB a e 5 (a + 1) d) := by
                        show _ = _
                        rw [← HO.out, pi_go lessB a e s i k dk hs HK.out (by omega) h50, ← HDQ.out, HE.out, show fixUp lessB e k (dq) = shiftUp lessB e (k + 1) (dq) from if_pos (by omega), HVv3.out]
                      go_wp2
                      go_roundw
                      case rel => exact ⟨k, s + 1, du, by go_num, by go_num, by omega, by omega, by omega, hsuv3, Stv3, HZ⟩
                      case measure => simp [intOf]; omega
                  · have zv3 : ¬ (pv3 : Int) + 1 < (e : Int) := by omega
                    have HVv3 : Hid (shiftUp lessB e (k + 1) (dq) = du) := by
                      show _ = _
                      rw [← HUv3.out, shiftUp_stop lessB e (pv3 + 1) du (Or.inl (by omega))]
                    have HZ : Hid (partialIns lessB a e (5 - (s + 1)) k (du) = partialIns lessB a e 5 (a + 1) d) := by
                      show _ = _
                      rw [← HO.out, pi_go lessB a e s i k dk hs HK.out (by omega) h50, ← HDQ.out, HE.out, show fixUp lessB e k (dq) = shiftUp lessB e (k + 1) (dq) from if_pos (by omega), HVv3.out]
                    go_wp2
                    go_roundw
                    case rel => exact ⟨k, s + 1, du, by go_num, by go_num, by omega, by omega, by omega, hsuv3, SUv3, HZ⟩
                    case measure => simp [intOf]; omega
              · have zuv3 : decide ((e : Int) - (k : Int) ≥ 2) = false := decide_eq_false (by omega)
                have yuv3 : ¬ (2 : Int) ≤ (e : Int) - (k : Int) := by omega
                have HZ : Hid (partialIns lessB a e (5 - (s + 1)) k (dq) = partialIns lessB a e 5 (a + 1) d) := by
                  show _ = _
                  rw [← HO.out, pi_go lessB a e s i k dk hs HK.out (by omega) h50, ← HDQ.out, HE.out, show fixUp lessB e k (dq) = dq from if_neg (by omega)]
                go_wp2
                go_roundw
                case rel => exact ⟨k, s + 1, dq, by go_num, by go_num, by omega, by omega, by omega, hsq, Sq, HZ⟩
                case measure => simp [intOf]; omega
          | false =>
            rw [hlc] at hdc
            rw [hxc, hyc] at hlc
            have Hc := Lib.hid hlc; clear hlc hxc hyc
            have hdc' := of_decide_eq_false hdc
            go_wp2_with fail
            go_quiet_grown (first | (go_at_call 30; refine Calls.grown_of (hcc _ _ _)))
            have Sc := Lib.hid (SC.out.grown nq osq)
            clear lc0 lc1 lc2 lc3 hcc hdc hdc' SC
            generalize grow (wr.drewN nq) osq = wc at Sc ⊢
            clear nq osq
            go_wp2
            go_roundw
            case rel => exact ⟨pk0 + 1, by go_num, by omega, by omega, Sc, (scanSorted_go lessB dk e (pk0 + 1) hlt (by simp only [Nat.add_sub_cancel]; exact Hc.out)).symm.trans HS.out⟩
            case measure => simp [intOf]; omega
        · skip
          have HK : Hid (scanSorted lessB dk e i = pk0 + 1) := HS.out.symm.trans (scanSorted_stop lessB dk e (pk0 + 1) (Or.inl hlt))
          clear HS
          have hke0 : pk0 + 1 = e := by omega
          have zl : decide ((pk0 : Int) + 1 < (e : Int)) = false := decide_eq_false (by omega)
          have yl : ¬ (pk0 : Int) + 1 < (e : Int) := by omega
          have zk : (((pk0 : Int) + 1) == (e : Int)) = true := by simp; omega
          have HR : Hid (partialInsertionSort lessB d a e = (dk, true)) := by
            show partialIns lessB a e 5 (a + 1) d = _
            rw [← HO.out, pi_true lessB a e s i dk hs (by rw [HK.out]; exact hke0)]
          clear hke0
          have Sx := Lib.hid SC.out.drew
          clear SC
          go_wp2_with fail
          go_big_region_o
          generalize wr.drew = wx at Sx ⊢
          go_wp2_with fail
          go_ret
          exact ⟨by rw [HR.out]; rfl, by rw [HR.out]; exact Sx.out⟩
    · have zs : decide ((s : Int) < 5) = false := decide_eq_false (by omega)
      have HR : Hid (partialInsertionSort lessB d a e = (dk, false)) := by
        show partialIns lessB a e 5 (a + 1) d = _
        rw [← HO.out, show s = 5 by omega, pi_end]
      go_wp2_with fail
      go_ret
      exact ⟨by rw [HR.out]; rfl, by rw [HR.out]; exact S1.out⟩
end Go.Proofs.Ytcgnodkbmpkhkaa
