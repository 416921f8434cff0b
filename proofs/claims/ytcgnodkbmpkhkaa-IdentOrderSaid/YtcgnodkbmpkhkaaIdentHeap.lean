/- The contracts of the library's heap sort of a row of commands, and of its turning a part of the row round. Written by a generator of mine (wip/gen). -/
import Derived.Test.YtcgnodkbmpkhkaaIdentSmall
import Derived.Sort.WalkB2
import Derived.Sort.WalkB3
namespace Go.Proofs.Ytcgnodkbmpkhkaa
open Go.RowKit Go.Sort

set_option maxHeartbeats 8000000 in
theorem sift_any (w0 W : World) (b lo hi first cap : Nat) (d : Array (Int × Int)) (S : RowAt w0 b d W) (hf : first + hi ≤ d.size) (hsz : d.size ≤ 1000) (hlo : lo ≤ 1000) :
    Calls Try.prog 47 #[.slice (some ⟨b, 0, none⟩) d.size cap, .int .i64 lo, .int .i64 hi, .int .i64 first, .func (.func 30) #[.func (.func 18) #[] #[]] #[]] W fun r w' => r = .returned (.tuple #[]) ∧ RowAt w0 b (siftDown lessB hi first lo d) w' := by
  have hmix := mixed
  have S0 := Lib.hid S; clear S
  go_enter Try.func47, Try.ntmps47
  go_wp2
  go_loopw [10, 11] (fun v _ wr => ∃ (r : Nat) (dk : Array (Int × Int)), v = .int .i64 r ∧ r ≤ 2000 ∧ dk.size = d.size ∧ Hid (RowAt w0 b dk wr) ∧ Hid (siftDown lessB hi first r dk = siftDown lessB hi first lo d)) (fun v _ _ => hi - (intOf v).toNat)
  case atStart => exact ⟨lo, d, rfl, by omega, rfl, S0, rfl⟩
  case round =>
    clear S0
    obtain ⟨r, dk, rfl, hr, hsk, S1, HO⟩ := hrel
    by_cases hlt : 2 * r + 1 < hi
    · have z1 : decide (2 * (r : Int) + 1 ≥ (hi : Int)) = false := decide_eq_false (by omega)
      have z3 : IntKind.i64.wrap (2 * (r : Int) + 1 + 1) = 2 * (r : Int) + 1 + 1 := by rw [IntKind.wrap_i64]; omega
      by_cases h2 : 2 * r + 2 < hi
      · have z2 : 2 * (r : Int) + 1 + 1 < (hi : Int) := by omega
        have eta : (((first : Int) + (2 * (r : Int) + 1))).toNat = first + (2 * r + 1) := by omega
        have pta : (0 : Int) ≤ ((first : Int) + (2 * (r : Int) + 1)) := by omega
        have bta : ((first : Int) + (2 * (r : Int) + 1)) < (d.size : Int) := by omega
        have rta : IntKind.i64.wrap (((first : Int) + (2 * (r : Int) + 1))) = ((first : Int) + (2 * (r : Int) + 1)) := by rw [IntKind.wrap_i64]; omega
        have etb : (((first : Int) + (2 * (r : Int) + 1) + 1)).toNat = first + (2 * r + 2) := by omega
        have ptb : (0 : Int) ≤ ((first : Int) + (2 * (r : Int) + 1) + 1) := by omega
        have btb : ((first : Int) + (2 * (r : Int) + 1) + 1) < (d.size : Int) := by omega
        have rtb : IntKind.i64.wrap (((first : Int) + (2 * (r : Int) + 1) + 1)) = ((first : Int) + (2 * (r : Int) + 1) + 1) := by rw [IntKind.wrap_i64]; omega
        obtain ⟨xt, hxt⟩ : ∃ x, x = dk[first + (2 * r + 1)]! := ⟨_, rfl⟩
        obtain ⟨yt, hyt⟩ : ∃ y, y = dk[first + (2 * r + 2)]! := ⟨_, rfl⟩
        have lt0 := fun n os => (S1.out.grown n os).c0 (first + (2 * r + 1)) (by omega)
        have lt1 := fun n os => (S1.out.grown n os).c1 (first + (2 * r + 1)) (by omega)
        have lt2 := fun n os => (S1.out.grown n os).c0 (first + (2 * r + 2)) (by omega)
        have lt3 := fun n os => (S1.out.grown n os).c1 (first + (2 * r + 2)) (by omega)
        rw [← hxt] at lt0 lt1
        rw [← hyt] at lt2 lt3
        have hct := compare_grown xt yt
        have hdt := cmp_neg xt yt
        cases hlt : lessB xt yt with
        | true =>
          rw [hlt] at hdt
          rw [hxt, hyt] at hlt
          have Ht := Lib.hid hlt; clear hlt hxt hyt
          have hdt' := of_decide_eq_true hdt
          go_wp2_with fail
          go_quiet_grown (first | (go_at_call 30; refine Calls.grown_of (hct _ _ _)))
          have St := Lib.hid (S1.out.grown nq osq)
          clear lt0 lt1 lt2 lt3 hct hdt hdt' S1
          generalize grow (wr.drewN nq) osq = wt at St ⊢
          clear nq osq
          go_wp2_with fail
          have hR := show 2 * r + 2 < hi by omega
          have esa : (((first : Int) + (r : Int))).toNat = first + r := by omega
          have psa : (0 : Int) ≤ ((first : Int) + (r : Int)) := by omega
          have bsa : ((first : Int) + (r : Int)) < (d.size : Int) := by omega
          have rsa : IntKind.i64.wrap (((first : Int) + (r : Int))) = ((first : Int) + (r : Int)) := by rw [IntKind.wrap_i64]; omega
          have esb : (((first : Int) + (2 * (r : Int) + 1 + 1))).toNat = first + (2 * r + 2) := by omega
          have psb : (0 : Int) ≤ ((first : Int) + (2 * (r : Int) + 1 + 1)) := by omega
          have bsb : ((first : Int) + (2 * (r : Int) + 1 + 1)) < (d.size : Int) := by omega
          have rsb : IntKind.i64.wrap (((first : Int) + (2 * (r : Int) + 1 + 1))) = ((first : Int) + (2 * (r : Int) + 1 + 1)) := by rw [IntKind.wrap_i64]; omega
          obtain ⟨xs, hxs⟩ : ∃ x, x = dk[first + r]! := ⟨_, rfl⟩
          obtain ⟨ys, hys⟩ : ∃ y, y = dk[first + (2 * r + 2)]! := ⟨_, rfl⟩
          have ls0 := fun n os => (St.out.grown n os).c0 (first + r) (by omega)
          have ls1 := fun n os => (St.out.grown n os).c1 (first + r) (by omega)
          have ls2 := fun n os => (St.out.grown n os).c0 (first + (2 * r + 2)) (by omega)
          have ls3 := fun n os => (St.out.grown n os).c1 (first + (2 * r + 2)) (by omega)
          rw [← hxs] at ls0 ls1
          rw [← hys] at ls2 ls3
          have hcs := compare_grown xs ys
          have hds := cmp_neg xs ys
          cases hls : lessB xs ys with
          | true =>
            rw [hls] at hds
            rw [hxs, hys] at hls
            have Hs := Lib.hid hls; clear hls hxs hys
            have hds' := of_decide_eq_true hds
            go_wp2_with fail
            go_quiet_grown (first | (go_at_call 30; refine Calls.grown_of (hcs _ _ _)))
            have Ss := Lib.hid (St.out.grown nq osq)
            clear ls0 ls1 ls2 ls3 hcs hds hds' St
            generalize grow (wt.drewN nq) osq = ws at Ss ⊢
            clear nq osq
            obtain ⟨xu, hxu⟩ : ∃ x, x = dk[first + r]! := ⟨_, rfl⟩
            obtain ⟨yu, hyu⟩ : ∃ y, y = dk[first + (2 * r + 2)]! := ⟨_, rfl⟩
            have lu0 := Ss.out.c0 (first + r) (by omega)
            have lu1 := Ss.out.c1 (first + r) (by omega)
            have lu2 := Ss.out.c0 (first + (2 * r + 2)) (by omega)
            have lu3 := Ss.out.c1 (first + (2 * r + 2)) (by omega)
            have gu0 := Ss.out.f0 (first + r) (by omega)
            have gu1 := Ss.out.f1 (first + r) (by omega)
            have gu2 := Ss.out.f0 (first + (2 * r + 2)) (by omega)
            have gu3 := Ss.out.f1 (first + (2 * r + 2)) (by omega)
            have Su := Lib.hid ((Ss.out.swapped (first + r) (first + (2 * r + 2)) (by omega) (by omega) xu yu hxu hyu).drew)
            obtain ⟨mu1, mu2, mu3⟩ := Ss.out.meet (first + r) (first + (2 * r + 2)) (by omega) (by omega) (by omega) (.int .i64 yu.1) (.int .i64 yu.2) (.int .i64 xu.1)
            rw [← hxu] at lu0 lu1 mu1
            rw [← hyu] at lu2 lu3 mu2 mu3
            clear Ss hxu hyu
            go_wp2_with fail
            go_big_region_o
            clear lu0 lu1 lu2 lu3 gu0 gu1 gu2 gu3 mu1 mu2 mu3
            generalize ((((ws.setCell ⟨b, (first + r) * 2, none⟩ (.int .i64 yu.1)).setCell ⟨b, (first + r) * 2 + 1, none⟩ (.int .i64 yu.2)).setCell ⟨b, (first + (2 * r + 2)) * 2, none⟩ (.int .i64 xu.1)).setCell ⟨b, (first + (2 * r + 2)) * 2 + 1, none⟩ (.int .i64 xu.2)).drew = wu at Su ⊢
            go_wp2
            go_roundw
            case rel => exact ⟨2 * r + 2, swp dk (first + r) (first + (2 * r + 2)), by go_num, by omega, by rw [size_swp]; exact hsk, Su, (sd_right_go lessB dk hR Ht.out Hs.out).symm.trans HO.out⟩
            case measure => simp [intOf]; omega
          | false =>
            rw [hls] at hds
            rw [hxs, hys] at hls
            have Hs := Lib.hid hls; clear hls hxs hys
            have hds' := of_decide_eq_false hds
            go_wp2_with fail
            go_quiet_grown (first | (go_at_call 30; refine Calls.grown_of (hcs _ _ _)))
            have Ss := Lib.hid (St.out.grown nq osq)
            clear ls0 ls1 ls2 ls3 hcs hds hds' St
            generalize grow (wt.drewN nq) osq = ws at Ss ⊢
            clear nq osq
            go_wp2
            refine bodyPost_ret (results_none rfl _ _ _) rfl ?_
            exact ⟨rfl, by rw [← HO.out, sd_right_stop lessB dk hR Ht.out Hs.out]; exact Ss.out⟩
        | false =>
          rw [hlt] at hdt
          rw [hxt, hyt] at hlt
          have Ht := Lib.hid hlt; clear hlt hxt hyt
          have hdt' := of_decide_eq_false hdt
          go_wp2_with fail
          go_quiet_grown (first | (go_at_call 30; refine Calls.grown_of (hct _ _ _)))
          have St := Lib.hid (S1.out.grown nq osq)
          clear lt0 lt1 lt2 lt3 hct hdt hdt' S1
          generalize grow (wr.drewN nq) osq = wt at St ⊢
          clear nq osq
          have HLf : Hid (2 * r + 2 < hi → lessB dk[first + (2 * r + 1)]! dk[first + (2 * r + 2)]! = false) := fun _ => Ht.out
          have esa : (((first : Int) + (r : Int))).toNat = first + r := by omega
          have psa : (0 : Int) ≤ ((first : Int) + (r : Int)) := by omega
          have bsa : ((first : Int) + (r : Int)) < (d.size : Int) := by omega
          have rsa : IntKind.i64.wrap (((first : Int) + (r : Int))) = ((first : Int) + (r : Int)) := by rw [IntKind.wrap_i64]; omega
          have esb : (((first : Int) + (2 * (r : Int) + 1))).toNat = first + (2 * r + 1) := by omega
          have psb : (0 : Int) ≤ ((first : Int) + (2 * (r : Int) + 1)) := by omega
          have bsb : ((first : Int) + (2 * (r : Int) + 1)) < (d.size : Int) := by omega
          have rsb : IntKind.i64.wrap (((first : Int) + (2 * (r : Int) + 1))) = ((first : Int) + (2 * (r : Int) + 1)) := by rw [IntKind.wrap_i64]; omega
          obtain ⟨xs, hxs⟩ : ∃ x, x = dk[first + r]! := ⟨_, rfl⟩
          obtain ⟨ys, hys⟩ : ∃ y, y = dk[first + (2 * r + 1)]! := ⟨_, rfl⟩
          have ls0 := fun n os => (St.out.grown n os).c0 (first + r) (by omega)
          have ls1 := fun n os => (St.out.grown n os).c1 (first + r) (by omega)
          have ls2 := fun n os => (St.out.grown n os).c0 (first + (2 * r + 1)) (by omega)
          have ls3 := fun n os => (St.out.grown n os).c1 (first + (2 * r + 1)) (by omega)
          rw [← hxs] at ls0 ls1
          rw [← hys] at ls2 ls3
          have hcs := compare_grown xs ys
          have hds := cmp_neg xs ys
          cases hls : lessB xs ys with
          | true =>
            rw [hls] at hds
            rw [hxs, hys] at hls
            have Hs := Lib.hid hls; clear hls hxs hys
            have hds' := of_decide_eq_true hds
            go_wp2_with fail
            go_quiet_grown (first | (go_at_call 30; refine Calls.grown_of (hcs _ _ _)))
            have Ss := Lib.hid (St.out.grown nq osq)
            clear ls0 ls1 ls2 ls3 hcs hds hds' St
            generalize grow (wt.drewN nq) osq = ws at Ss ⊢
            clear nq osq
            obtain ⟨xu, hxu⟩ : ∃ x, x = dk[first + r]! := ⟨_, rfl⟩
            obtain ⟨yu, hyu⟩ : ∃ y, y = dk[first + (2 * r + 1)]! := ⟨_, rfl⟩
            have lu0 := Ss.out.c0 (first + r) (by omega)
            have lu1 := Ss.out.c1 (first + r) (by omega)
            have lu2 := Ss.out.c0 (first + (2 * r + 1)) (by omega)
            have lu3 := Ss.out.c1 (first + (2 * r + 1)) (by omega)
            have gu0 := Ss.out.f0 (first + r) (by omega)
            have gu1 := Ss.out.f1 (first + r) (by omega)
            have gu2 := Ss.out.f0 (first + (2 * r + 1)) (by omega)
            have gu3 := Ss.out.f1 (first + (2 * r + 1)) (by omega)
            have Su := Lib.hid ((Ss.out.swapped (first + r) (first + (2 * r + 1)) (by omega) (by omega) xu yu hxu hyu).drew)
            obtain ⟨mu1, mu2, mu3⟩ := Ss.out.meet (first + r) (first + (2 * r + 1)) (by omega) (by omega) (by omega) (.int .i64 yu.1) (.int .i64 yu.2) (.int .i64 xu.1)
            rw [← hxu] at lu0 lu1 mu1
            rw [← hyu] at lu2 lu3 mu2 mu3
            clear Ss hxu hyu
            go_wp2_with fail
            go_big_region_o
            clear lu0 lu1 lu2 lu3 gu0 gu1 gu2 gu3 mu1 mu2 mu3
            generalize ((((ws.setCell ⟨b, (first + r) * 2, none⟩ (.int .i64 yu.1)).setCell ⟨b, (first + r) * 2 + 1, none⟩ (.int .i64 yu.2)).setCell ⟨b, (first + (2 * r + 1)) * 2, none⟩ (.int .i64 xu.1)).setCell ⟨b, (first + (2 * r + 1)) * 2 + 1, none⟩ (.int .i64 xu.2)).drew = wu at Su ⊢
            go_wp2
            go_roundw
            case rel => exact ⟨2 * r + 1, swp dk (first + r) (first + (2 * r + 1)), by go_num, by omega, by rw [size_swp]; exact hsk, Su, (sd_left_go lessB dk hlt HLf.out Hs.out).symm.trans HO.out⟩
            case measure => simp [intOf]; omega
          | false =>
            rw [hls] at hds
            rw [hxs, hys] at hls
            have Hs := Lib.hid hls; clear hls hxs hys
            have hds' := of_decide_eq_false hds
            go_wp2_with fail
            go_quiet_grown (first | (go_at_call 30; refine Calls.grown_of (hcs _ _ _)))
            have Ss := Lib.hid (St.out.grown nq osq)
            clear ls0 ls1 ls2 ls3 hcs hds hds' St
            generalize grow (wt.drewN nq) osq = ws at Ss ⊢
            clear nq osq
            go_wp2
            refine bodyPost_ret (results_none rfl _ _ _) rfl ?_
            exact ⟨rfl, by rw [← HO.out, sd_left_stop lessB dk hlt HLf.out Hs.out]; exact Ss.out⟩
      · skip
        have HLf : Hid (2 * r + 2 < hi → lessB dk[first + (2 * r + 1)]! dk[first + (2 * r + 2)]! = false) := fun q => absurd q h2
        have z2 : decide (2 * (r : Int) + 1 + 1 < (hi : Int)) = false := decide_eq_false (by omega)
        have St := Lib.hid S1.out.drew
        clear S1
        go_wp2_with fail
        go_big_region_o
        generalize wr.drew = wt at St ⊢
        have esa : (((first : Int) + (r : Int))).toNat = first + r := by omega
        have psa : (0 : Int) ≤ ((first : Int) + (r : Int)) := by omega
        have bsa : ((first : Int) + (r : Int)) < (d.size : Int) := by omega
        have rsa : IntKind.i64.wrap (((first : Int) + (r : Int))) = ((first : Int) + (r : Int)) := by rw [IntKind.wrap_i64]; omega
        have esb : (((first : Int) + (2 * (r : Int) + 1))).toNat = first + (2 * r + 1) := by omega
        have psb : (0 : Int) ≤ ((first : Int) + (2 * (r : Int) + 1)) := by omega
        have bsb : ((first : Int) + (2 * (r : Int) + 1)) < (d.size : Int) := by omega
        have rsb : IntKind.i64.wrap (((first : Int) + (2 * (r : Int) + 1))) = ((first : Int) + (2 * (r : Int) + 1)) := by rw [IntKind.wrap_i64]; omega
        obtain ⟨xs, hxs⟩ : ∃ x, x = dk[first + r]! := ⟨_, rfl⟩
        obtain ⟨ys, hys⟩ : ∃ y, y = dk[first + (2 * r + 1)]! := ⟨_, rfl⟩
        have ls0 := fun n os => (St.out.grown n os).c0 (first + r) (by omega)
        have ls1 := fun n os => (St.out.grown n os).c1 (first + r) (by omega)
        have ls2 := fun n os => (St.out.grown n os).c0 (first + (2 * r + 1)) (by omega)
        have ls3 := fun n os => (St.out.grown n os).c1 (first + (2 * r + 1)) (by omega)
        rw [← hxs] at ls0 ls1
        rw [← hys] at ls2 ls3
        have hcs := compare_grown xs ys
        have hds := cmp_neg xs ys
        cases hls : lessB xs ys with
        | true =>
          rw [hls] at hds
          rw [hxs, hys] at hls
          have Hs := Lib.hid hls; clear hls hxs hys
          have hds' := of_decide_eq_true hds
          go_wp2_with fail
          go_quiet_grown (first | (go_at_call 30; refine Calls.grown_of (hcs _ _ _)))
          have Ss := Lib.hid (St.out.grown nq osq)
          clear ls0 ls1 ls2 ls3 hcs hds hds' St
          generalize grow (wt.drewN nq) osq = ws at Ss ⊢
          clear nq osq
          obtain ⟨xu, hxu⟩ : ∃ x, x = dk[first + r]! := ⟨_, rfl⟩
          obtain ⟨yu, hyu⟩ : ∃ y, y = dk[first + (2 * r + 1)]! := ⟨_, rfl⟩
          have lu0 := Ss.out.c0 (first + r) (by omega)
          have lu1 := Ss.out.c1 (first + r) (by omega)
          have lu2 := Ss.out.c0 (first + (2 * r + 1)) (by omega)
          have lu3 := Ss.out.c1 (first + (2 * r + 1)) (by omega)
          have gu0 := Ss.out.f0 (first + r) (by omega)
          have gu1 := Ss.out.f1 (first + r) (by omega)
          have gu2 := Ss.out.f0 (first + (2 * r + 1)) (by omega)
          have gu3 := Ss.out.f1 (first + (2 * r + 1)) (by omega)
          have Su := Lib.hid ((Ss.out.swapped (first + r) (first + (2 * r + 1)) (by omega) (by omega) xu yu hxu hyu).drew)
          obtain ⟨mu1, mu2, mu3⟩ := Ss.out.meet (first + r) (first + (2 * r + 1)) (by omega) (by omega) (by omega) (.int .i64 yu.1) (.int .i64 yu.2) (.int .i64 xu.1)
          rw [← hxu] at lu0 lu1 mu1
          rw [← hyu] at lu2 lu3 mu2 mu3
          clear Ss hxu hyu
          go_wp2_with fail
          go_big_region_o
          clear lu0 lu1 lu2 lu3 gu0 gu1 gu2 gu3 mu1 mu2 mu3
          generalize ((((ws.setCell ⟨b, (first + r) * 2, none⟩ (.int .i64 yu.1)).setCell ⟨b, (first + r) * 2 + 1, none⟩ (.int .i64 yu.2)).setCell ⟨b, (first + (2 * r + 1)) * 2, none⟩ (.int .i64 xu.1)).setCell ⟨b, (first + (2 * r + 1)) * 2 + 1, none⟩ (.int .i64 xu.2)).drew = wu at Su ⊢
          go_wp2
          go_roundw
          case rel => exact ⟨2 * r + 1, swp dk (first + r) (first + (2 * r + 1)), by go_num, by omega, by rw [size_swp]; exact hsk, Su, (sd_left_go lessB dk hlt HLf.out Hs.out).symm.trans HO.out⟩
          case measure => simp [intOf]; omega
        | false =>
          rw [hls] at hds
          rw [hxs, hys] at hls
          have Hs := Lib.hid hls; clear hls hxs hys
          have hds' := of_decide_eq_false hds
          go_wp2_with fail
          go_quiet_grown (first | (go_at_call 30; refine Calls.grown_of (hcs _ _ _)))
          have Ss := Lib.hid (St.out.grown nq osq)
          clear ls0 ls1 ls2 ls3 hcs hds hds' St
          generalize grow (wt.drewN nq) osq = ws at Ss ⊢
          clear nq osq
          go_wp2
          refine bodyPost_ret (results_none rfl _ _ _) rfl ?_
          exact ⟨rfl, by rw [← HO.out, sd_left_stop lessB dk hlt HLf.out Hs.out]; exact Ss.out⟩
    · have z1 : (hi : Int) ≤ 2 * (r : Int) + 1 := by omega
      have z4 : decide (2 * (r : Int) + 1 ≥ (hi : Int)) = true := decide_eq_true (by omega)
      go_wp2
      go_end0
      exact ⟨rfl, by rw [← HO.out, sd_end lessB dk (by omega)]; exact S1.out⟩
end Go.Proofs.Ytcgnodkbmpkhkaa
