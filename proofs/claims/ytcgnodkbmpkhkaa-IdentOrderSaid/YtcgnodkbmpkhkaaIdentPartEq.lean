/- The contract of the library's partitionEqual at a row of commands. Written by a generator of mine (wip/gen). -/
import Derived.Test.YtcgnodkbmpkhkaaIdentHeap2
import Derived.Sort.WalkC
namespace Go.Proofs.Ytcgnodkbmpkhkaa
open Go.RowKit Go.Sort

/-- What the four stores of an exchange meet, whether or not the two places are one. -/
theorem RowAt.meetAny {w0 W : World} {b : Nat} {d : Array (Int × Int)} (h : RowAt w0 b d W) (i j : Nat) (hi : i < d.size) (hj : j < d.size) (u v w : Value) :
    (∃ x, (W.setCell ⟨b, i * 2, none⟩ u).cell? ⟨b, i * 2 + 1, none⟩ = some x) ∧
    (∃ x, ((W.setCell ⟨b, i * 2, none⟩ u).setCell ⟨b, i * 2 + 1, none⟩ v).cell? ⟨b, j * 2, none⟩ = some x) ∧
    (∃ x, (((W.setCell ⟨b, i * 2, none⟩ u).setCell ⟨b, i * 2 + 1, none⟩ v).setCell ⟨b, j * 2, none⟩ w).cell? ⟨b, j * 2 + 1, none⟩ = some x) := by
  by_cases e : i = j
  · subst e
    obtain ⟨a, b, c⟩ := h.meetSelf i hi u v w
    exact ⟨⟨_, a⟩, ⟨_, b⟩, ⟨_, c⟩⟩
  · obtain ⟨a, b, c⟩ := h.meet i j hi hj e u v w
    exact ⟨⟨_, a⟩, ⟨_, b⟩, ⟨_, c⟩⟩

set_option maxHeartbeats 16000000 in
theorem partEq_any (w0 W : World) (b a e p cap : Nat) (d : Array (Int × Int)) (S : RowAt w0 b d W) (hap : a ≤ p) (hpe : p < e) (hed : e ≤ d.size) (hsz : d.size ≤ 1000) :
    Calls Try.prog 43 #[.slice (some ⟨b, 0, none⟩) d.size cap, .int .i64 a, .int .i64 e, .int .i64 p, .func (.func 30) #[.func (.func 18) #[] #[]] #[]] W fun r w' => r = .returned (.int .i64 (partitionEqual lessB d a e p).1) ∧ RowAt w0 b (partitionEqual lessB d a e p).2 w' := by
  have hmix := mixed
  have HE : Hid (partitionEqual lessB d a e p = partEqLoop lessB a (a + 1) (e - 1) (swp d a p)) := rfl
  have S0 := Lib.hid S; clear S
  go_enter Try.func43, Try.ntmps43
  go_wp2_with fail
  have eqa : ((a : Int)).toNat = a := by omega
  have pqa : (0 : Int) ≤ (a : Int) := by omega
  have bqa : (a : Int) < (d.size : Int) := by omega
  have rqa : IntKind.i64.wrap ((a : Int)) = (a : Int) := by rw [IntKind.wrap_i64]; omega
  have eqb : ((p : Int)).toNat = p := by omega
  have pqb : (0 : Int) ≤ (p : Int) := by omega
  have bqb : (p : Int) < (d.size : Int) := by omega
  have rqb : IntKind.i64.wrap ((p : Int)) = (p : Int) := by rw [IntKind.wrap_i64]; omega
  obtain ⟨xq, hxq⟩ : ∃ x, x = d[a]! := ⟨_, rfl⟩
  obtain ⟨yq, hyq⟩ : ∃ y, y = d[p]! := ⟨_, rfl⟩
  have lq0 := S0.out.c0 (a) (by omega)
  have lq1 := S0.out.c1 (a) (by omega)
  have lq2 := S0.out.c0 (p) (by omega)
  have lq3 := S0.out.c1 (p) (by omega)
  have gq0 := S0.out.f0 (a) (by omega)
  have gq1 := S0.out.f1 (a) (by omega)
  have gq2 := S0.out.f0 (p) (by omega)
  have gq3 := S0.out.f1 (p) (by omega)
  have Sq := Lib.hid ((S0.out.swapped (a) (p) (by omega) (by omega) xq yq hxq hyq).drew)
  obtain ⟨⟨_, mq1⟩, ⟨_, mq2⟩, ⟨_, mq3⟩⟩ := S0.out.meetAny (a) (p) (by omega) (by omega) (.int .i64 yq.1) (.int .i64 yq.2) (.int .i64 xq.1)
  rw [← hxq] at lq0 lq1
  rw [← hyq] at lq2 lq3
  clear S0 hxq hyq
  go_wp2_with fail
  go_big_region_o
  clear lq0 lq1 lq2 lq3 gq0 gq1 gq2 gq3 mq1 mq2 mq3
  generalize ((((W.setCell ⟨b, (a) * 2, none⟩ (.int .i64 yq.1)).setCell ⟨b, (a) * 2 + 1, none⟩ (.int .i64 yq.2)).setCell ⟨b, (p) * 2, none⟩ (.int .i64 xq.1)).setCell ⟨b, (p) * 2 + 1, none⟩ (.int .i64 xq.2)).drew = wq at Sq ⊢
  go_wp2_with fail
  go_loopw [11, 12] (fun u v wr => ∃ (i j : Nat) (dk : Array (Int × Int)), u = .int .i64 i ∧ v = .int .i64 j ∧ a < i ∧ i ≤ j + 1 ∧ j < e ∧ dk.size = d.size ∧ Hid (RowAt w0 b dk wr) ∧ Hid (partEqLoop lessB a i j dk = partEqLoop lessB a (a + 1) (e - 1) (swp d a p))) (fun u v _ => ((intOf v).toNat + 2 - (intOf u).toNat))
  case atStart => exact ⟨a + 1, e - 1, swp d a p, by go_num, by rw [show (e : Int) - 1 = ((e - 1 : Nat) : Int) by omega], by omega, by omega, by omega, by rw [size_swp], Sq, rfl⟩
  case round =>
    clear Sq
    obtain ⟨i, j, dk, rfl, rfl, hai, hij, hje, hsk, S1, HO⟩ := hrel
    go_wp2_with fail
    go_loopw [11] (fun v wr => ∃ ii : Nat, v = .int .i64 ii ∧ i ≤ ii ∧ ii ≤ j + 1 ∧ Hid (RowAt w0 b dk wr) ∧ Hid (scanUp (fun x => !lessB dk[a]! x) dk j ii = scanUp (fun x => !lessB dk[a]! x) dk j i)) (fun v _ => j + 1 - (intOf v).toNat)
    case atStart => exact ⟨i, by go_num, Nat.le_refl _, by omega, S1, rfl⟩
    case round =>
      clear S1
      obtain ⟨iuo, rfl, hio, hijo, SUo, HSo⟩ := hrel
      by_cases hlto : iuo ≤ j
      · have zo : (iuo : Int) ≤ (j : Int) := by omega
        have euoa : ((a : Int)).toNat = a := by omega
        have puoa : (0 : Int) ≤ (a : Int) := by omega
        have buoa : (a : Int) < (d.size : Int) := by omega
        have ruoa : IntKind.i64.wrap ((a : Int)) = (a : Int) := by rw [IntKind.wrap_i64]; omega
        have euob : ((iuo : Int)).toNat = iuo := by omega
        have puob : (0 : Int) ≤ (iuo : Int) := by omega
        have buob : (iuo : Int) < (d.size : Int) := by omega
        have ruob : IntKind.i64.wrap ((iuo : Int)) = (iuo : Int) := by rw [IntKind.wrap_i64]; omega
        obtain ⟨xuo, hxuo⟩ : ∃ x, x = dk[a]! := ⟨_, rfl⟩
        obtain ⟨yuo, hyuo⟩ : ∃ y, y = dk[iuo]! := ⟨_, rfl⟩
        have luo0 := fun n os => (SUo.out.grown n os).c0 (a) (by omega)
        have luo1 := fun n os => (SUo.out.grown n os).c1 (a) (by omega)
        have luo2 := fun n os => (SUo.out.grown n os).c0 (iuo) (by omega)
        have luo3 := fun n os => (SUo.out.grown n os).c1 (iuo) (by omega)
        rw [← hxuo] at luo0 luo1
        rw [← hyuo] at luo2 luo3
        have hcuo := compare_grown xuo yuo
        have hduo := cmp_neg xuo yuo
        cases hluo : lessB xuo yuo with
        | true =>
          rw [hluo] at hduo
          rw [hxuo, hyuo] at hluo
          have Huo := Lib.hid hluo; clear hluo hxuo hyuo
          have hduo' := of_decide_eq_true hduo
          go_wp2_with fail
          go_quiet_grown (first | (go_at_call 30; refine Calls.grown_of (hcuo _ _ _)))
          have Suo := Lib.hid (SUo.out.grown nq osq)
          clear luo0 luo1 luo2 luo3 hcuo hduo hduo' SUo
          generalize grow (wr.drewN nq) osq = wuo at Suo ⊢
          clear nq osq
          have HUUo : Hid (iuo = scanUp (fun x => !lessB dk[a]! x) dk j i) := (scanUp_end (fun x => !lessB dk[a]! x) dk j iuo (Or.inr (by rw [Huo.out]; rfl))).symm.trans HSo.out
          clear HSo Huo
          have SCo := Suo
          clear Suo
          have HUo : Hid (iuo = scanUp (fun x => !lessB dk[a]! x) dk j i) := HUUo
          clear HUUo
          go_wp2_with fail
          go_loopw [12] (fun v wr => ∃ jj : Nat, v = .int .i64 jj ∧ jj ≤ j ∧ iuo ≤ jj + 1 ∧ Hid (RowAt w0 b dk wr) ∧ Hid (scanDown (fun x => lessB dk[a]! x) dk iuo jj = scanDown (fun x => lessB dk[a]! x) dk iuo j)) (fun v _ => (intOf v).toNat)
          case atStart => exact ⟨j, by go_num, Nat.le_refl _, by omega, SCo, rfl⟩
          case round =>
            clear SCo
            obtain ⟨jdo, rfl, hjo, hjio, SDo, HSo⟩ := hrel
            by_cases hlto : iuo ≤ jdo
            · have zo : (iuo : Int) ≤ (jdo : Int) := by omega
              have edoa : ((a : Int)).toNat = a := by omega
              have pdoa : (0 : Int) ≤ (a : Int) := by omega
              have bdoa : (a : Int) < (d.size : Int) := by omega
              have rdoa : IntKind.i64.wrap ((a : Int)) = (a : Int) := by rw [IntKind.wrap_i64]; omega
              have edob : ((jdo : Int)).toNat = jdo := by omega
              have pdob : (0 : Int) ≤ (jdo : Int) := by omega
              have bdob : (jdo : Int) < (d.size : Int) := by omega
              have rdob : IntKind.i64.wrap ((jdo : Int)) = (jdo : Int) := by rw [IntKind.wrap_i64]; omega
              obtain ⟨xdo, hxdo⟩ : ∃ x, x = dk[a]! := ⟨_, rfl⟩
              obtain ⟨ydo, hydo⟩ : ∃ y, y = dk[jdo]! := ⟨_, rfl⟩
              have ldo0 := fun n os => (SDo.out.grown n os).c0 (a) (by omega)
              have ldo1 := fun n os => (SDo.out.grown n os).c1 (a) (by omega)
              have ldo2 := fun n os => (SDo.out.grown n os).c0 (jdo) (by omega)
              have ldo3 := fun n os => (SDo.out.grown n os).c1 (jdo) (by omega)
              rw [← hxdo] at ldo0 ldo1
              rw [← hydo] at ldo2 ldo3
              have hcdo := compare_grown xdo ydo
              have hddo := cmp_neg xdo ydo
              cases hldo : lessB xdo ydo with
              | true =>
                rw [hldo] at hddo
                rw [hxdo, hydo] at hldo
                have Hdo := Lib.hid hldo; clear hldo hxdo hydo
                have hddo' := of_decide_eq_true hddo
                go_wp2_with fail
                go_quiet_grown (first | (go_at_call 30; refine Calls.grown_of (hcdo _ _ _)))
                have Sdo := Lib.hid (SDo.out.grown nq osq)
                clear ldo0 ldo1 ldo2 ldo3 hcdo hddo hddo' SDo
                generalize grow (wr.drewN nq) osq = wdo at Sdo ⊢
                clear nq osq
                go_wp2
                go_roundw
                case rel => exact ⟨jdo - 1, by go_num, by omega, by omega, Sdo, (scanDown_go (fun x => lessB dk[a]! x) dk iuo jdo hlto (by omega) (Hdo.out)).symm.trans HSo.out⟩
                case measure => simp [intOf]; omega
              | false =>
                rw [hldo] at hddo
                rw [hxdo, hydo] at hldo
                have Hdo := Lib.hid hldo; clear hldo hxdo hydo
                have hddo' := of_decide_eq_false hddo
                go_wp2_with fail
                go_quiet_grown (first | (go_at_call 30; refine Calls.grown_of (hcdo _ _ _)))
                have Sdo := Lib.hid (SDo.out.grown nq osq)
                clear ldo0 ldo1 ldo2 ldo3 hcdo hddo hddo' SDo
                generalize grow (wr.drewN nq) osq = wdo at Sdo ⊢
                clear nq osq
                have HDo : Hid (jdo = scanDown (fun x => lessB dk[a]! x) dk iuo j) := (scanDown_end (fun x => lessB dk[a]! x) dk iuo jdo (Or.inr (Hdo.out))).symm.trans HSo.out
                clear HSo Hdo
                go_wp2_with fail
                have hlt3 := scans_lt lessB a i j dk (by omega) HUo.out HDo.out (by omega)
                have zz : decide ((iuo : Int) > (jdo : Int)) = false := decide_eq_false (by omega)
                go_wp2_with fail
                have esa : ((iuo : Int)).toNat = iuo := by omega
                have psa : (0 : Int) ≤ (iuo : Int) := by omega
                have bsa : (iuo : Int) < (d.size : Int) := by omega
                have rsa : IntKind.i64.wrap ((iuo : Int)) = (iuo : Int) := by rw [IntKind.wrap_i64]; omega
                have esb : ((jdo : Int)).toNat = jdo := by omega
                have psb : (0 : Int) ≤ (jdo : Int) := by omega
                have bsb : (jdo : Int) < (d.size : Int) := by omega
                have rsb : IntKind.i64.wrap ((jdo : Int)) = (jdo : Int) := by rw [IntKind.wrap_i64]; omega
                obtain ⟨xs, hxs⟩ : ∃ x, x = dk[iuo]! := ⟨_, rfl⟩
                obtain ⟨ys, hys⟩ : ∃ y, y = dk[jdo]! := ⟨_, rfl⟩
                have ls0 := Sdo.out.c0 (iuo) (by omega)
                have ls1 := Sdo.out.c1 (iuo) (by omega)
                have ls2 := Sdo.out.c0 (jdo) (by omega)
                have ls3 := Sdo.out.c1 (jdo) (by omega)
                have gs0 := Sdo.out.f0 (iuo) (by omega)
                have gs1 := Sdo.out.f1 (iuo) (by omega)
                have gs2 := Sdo.out.f0 (jdo) (by omega)
                have gs3 := Sdo.out.f1 (jdo) (by omega)
                have Ss := Lib.hid ((Sdo.out.swapped (iuo) (jdo) (by omega) (by omega) xs ys hxs hys).drew)
                obtain ⟨ms1, ms2, ms3⟩ := Sdo.out.meet (iuo) (jdo) (by omega) (by omega) (by omega) (.int .i64 ys.1) (.int .i64 ys.2) (.int .i64 xs.1)
                rw [← hxs] at ls0 ls1 ms1
                rw [← hys] at ls2 ls3 ms2 ms3
                clear Sdo hxs hys
                go_wp2_with fail
                go_big_region_o
                clear ls0 ls1 ls2 ls3 gs0 gs1 gs2 gs3 ms1 ms2 ms3
                generalize ((((wdo.setCell ⟨b, (iuo) * 2, none⟩ (.int .i64 ys.1)).setCell ⟨b, (iuo) * 2 + 1, none⟩ (.int .i64 ys.2)).setCell ⟨b, (jdo) * 2, none⟩ (.int .i64 xs.1)).setCell ⟨b, (jdo) * 2 + 1, none⟩ (.int .i64 xs.2)).drew = ws at Ss ⊢
                go_wp2
                go_roundw
                case rel => exact ⟨iuo + 1, jdo - 1, swp dk iuo jdo, by go_num, by go_num, by omega, by omega, by omega, by rw [size_swp]; exact hsk, Ss, (partEq_go lessB a i j dk HUo.out HDo.out (by omega)).symm.trans HO.out⟩
                case measure => simp [intOf]; omega
            · skip
              have HDo : Hid (jdo = scanDown (fun x => lessB dk[a]! x) dk iuo j) := (scanDown_end (fun x => lessB dk[a]! x) dk iuo jdo (Or.inl hlto)).symm.trans HSo.out
              clear HSo
              have zo : decide ((iuo : Int) ≤ (jdo : Int)) = false := decide_eq_false (by omega)
              have yo : ¬ (iuo : Int) ≤ (jdo : Int) := by omega
              have Seo := Lib.hid SDo.out.drew
              clear SDo
              go_wp2_with fail
              go_big_region_o
              generalize wr.drew = weo at Seo ⊢
              go_wp2_with fail
              go_ret
              refine ⟨?_, ?_⟩
              · rw [HE.out, ← HO.out, partEq_break lessB a i j dk HUo.out HDo.out (by omega)]; rfl
              · rw [HE.out, ← HO.out, partEq_break lessB a i j dk HUo.out HDo.out (by omega)]; exact Seo.out
        | false =>
          rw [hluo] at hduo
          rw [hxuo, hyuo] at hluo
          have Huo := Lib.hid hluo; clear hluo hxuo hyuo
          have hduo' := of_decide_eq_false hduo
          go_wp2_with fail
          go_quiet_grown (first | (go_at_call 30; refine Calls.grown_of (hcuo _ _ _)))
          have Suo := Lib.hid (SUo.out.grown nq osq)
          clear luo0 luo1 luo2 luo3 hcuo hduo hduo' SUo
          generalize grow (wr.drewN nq) osq = wuo at Suo ⊢
          clear nq osq
          go_wp2
          go_roundw
          case rel => exact ⟨iuo + 1, by go_num, by omega, by omega, Suo, (scanUp_go (fun x => !lessB dk[a]! x) dk j iuo hlto (by rw [Huo.out]; rfl)).symm.trans HSo.out⟩
          case measure => simp [intOf]; omega
      · skip
        have HUUo : Hid (iuo = scanUp (fun x => !lessB dk[a]! x) dk j i) := (scanUp_end (fun x => !lessB dk[a]! x) dk j iuo (Or.inl hlto)).symm.trans HSo.out
        clear HSo
        have zo : decide ((iuo : Int) ≤ (j : Int)) = false := decide_eq_false (by omega)
        have yo : ¬ (iuo : Int) ≤ (j : Int) := by omega
        have SCo := Lib.hid SUo.out.drew
        clear SUo
        go_wp2_with fail
        go_big_region_o
        generalize wr.drew = wco at SCo ⊢
        have HUo : Hid (iuo = scanUp (fun x => !lessB dk[a]! x) dk j i) := HUUo
        clear HUUo
        go_wp2_with fail
        go_loopw [12] (fun v wr => ∃ jj : Nat, v = .int .i64 jj ∧ jj ≤ j ∧ iuo ≤ jj + 1 ∧ Hid (RowAt w0 b dk wr) ∧ Hid (scanDown (fun x => lessB dk[a]! x) dk iuo jj = scanDown (fun x => lessB dk[a]! x) dk iuo j)) (fun v _ => (intOf v).toNat)
        case atStart => exact ⟨j, by go_num, Nat.le_refl _, by omega, SCo, rfl⟩
        case round =>
          clear SCo
          obtain ⟨jdo, rfl, hjo, hjio, SDo, HSo⟩ := hrel
          have hlto : ¬ iuo ≤ jdo := by omega
          have HDo : Hid (jdo = scanDown (fun x => lessB dk[a]! x) dk iuo j) := (scanDown_end (fun x => lessB dk[a]! x) dk iuo jdo (Or.inl hlto)).symm.trans HSo.out
          clear HSo
          have zo : decide ((iuo : Int) ≤ (jdo : Int)) = false := decide_eq_false (by omega)
          have yo : ¬ (iuo : Int) ≤ (jdo : Int) := by omega
          have Seo := Lib.hid SDo.out.drew
          clear SDo
          go_wp2_with fail
          go_big_region_o
          generalize wr.drew = weo at Seo ⊢
          go_wp2_with fail
          go_ret
          refine ⟨?_, ?_⟩
          · rw [HE.out, ← HO.out, partEq_break lessB a i j dk HUo.out HDo.out (by omega)]; rfl
          · rw [HE.out, ← HO.out, partEq_break lessB a i j dk HUo.out HDo.out (by omega)]; exact Seo.out
end Go.Proofs.Ytcgnodkbmpkhkaa
