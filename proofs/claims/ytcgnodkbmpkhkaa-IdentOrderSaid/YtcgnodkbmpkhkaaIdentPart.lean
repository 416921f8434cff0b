/- The contract of the library's partition at a row of commands. Written by a generator of mine (wip/gen). -/
import Derived.Test.YtcgnodkbmpkhkaaIdentPartEq
import Derived.Sort.WalkC4
namespace Go.Proofs.Ytcgnodkbmpkhkaa
open Go.RowKit Go.Sort

set_option maxRecDepth 100000 in
set_option maxHeartbeats 40000000 in
theorem part_any (w0 W : World) (b a e p cap : Nat) (d : Array (Int × Int)) (S : RowAt w0 b d W) (hap : a ≤ p) (hpe : p < e) (hed : e ≤ d.size) (hsz : d.size ≤ 1000) :
    Calls Try.prog 44 #[.slice (some ⟨b, 0, none⟩) d.size cap, .int .i64 a, .int .i64 e, .int .i64 p, .func (.func 30) #[.func (.func 18) #[] #[]] #[]] W fun r w' => r = .returned (.tuple #[.int .i64 (Sort.partition lessB d a e p).1, .bool (Sort.partition lessB d a e p).2.1]) ∧ RowAt w0 b (Sort.partition lessB d a e p).2.2 w' := by
  have hmix := mixed
  have S0 := Lib.hid S; clear S
  obtain ⟨m, hm⟩ : ∃ m, e = m + 1 := ⟨e - 1, by omega⟩
  have hm1 : (e : Int) - 1 = (m : Int) := by omega
  have hpm : p ≤ m := by omega
  have hmd : m < d.size := by omega
  have HM := Lib.hid hm; clear hm
  go_enter Try.func44, Try.ntmps44
  go_wp2_with fail
  have eqa : ((a : Int)).toNat = a := by omega
  have pqa : (0 : Int) ≤ (a : Int) := by omega
  have bqa : (a : Int) < (d.size : Int) := by omega
  have rqa : IntKind.i64.wrap ((a : Int)) = (a : Int) := by rw [IntKind.wrap_i64]; omega
  have eqb : ((p : Int)).toNat = p := by omega
  have pqb : (0 : Int) ≤ (p : Int) := by omega
  have bqb : (p : Int) < (d.size : Int) := by omega
  have rqb : IntKind.i64.wrap ((p : Int)) = (p : Int) := by rw [IntKind.wrap_i64]; omega
  obtain ⟨xq, hxq⟩ : ∃ x, x = d[a]! := ⟨_, rfl⟩
  obtain ⟨yq, hyq⟩ : ∃ y, y = d[p]! := ⟨_, rfl⟩
  have lq0 := S0.out.c0 (a) (by omega)
  have lq1 := S0.out.c1 (a) (by omega)
  have lq2 := S0.out.c0 (p) (by omega)
  have lq3 := S0.out.c1 (p) (by omega)
  have gq0 := S0.out.f0 (a) (by omega)
  have gq1 := S0.out.f1 (a) (by omega)
  have gq2 := S0.out.f0 (p) (by omega)
  have gq3 := S0.out.f1 (p) (by omega)
  have Sq := Lib.hid ((S0.out.swapped (a) (p) (by omega) (by omega) xq yq hxq hyq).drew)
  obtain ⟨⟨_, mq1⟩, ⟨_, mq2⟩, ⟨_, mq3⟩⟩ := S0.out.meetAny (a) (p) (by omega) (by omega) (.int .i64 yq.1) (.int .i64 yq.2) (.int .i64 xq.1)
  rw [← hxq] at lq0 lq1
  rw [← hyq] at lq2 lq3
  clear S0 hxq hyq
  go_wp2_with fail
  go_big_region_o
  clear lq0 lq1 lq2 lq3 gq0 gq1 gq2 gq3 mq1 mq2 mq3
  generalize ((((W.setCell ⟨b, (a) * 2, none⟩ (.int .i64 yq.1)).setCell ⟨b, (a) * 2 + 1, none⟩ (.int .i64 yq.2)).setCell ⟨b, (p) * 2, none⟩ (.int .i64 xq.1)).setCell ⟨b, (p) * 2 + 1, none⟩ (.int .i64 xq.2)).drew = wq at Sq ⊢
  go_wp2_with fail
  (try simp only [hm1])
  obtain ⟨dk, hdk⟩ : ∃ dk, dk = swp d a p := ⟨_, rfl⟩
  have hsk : dk.size = d.size := by rw [hdk, size_swp]
  rw [← hdk] at Sq
  have HDK := Lib.hid hdk; clear hdk
  go_loopw [12] (fun v wr => ∃ ii : Nat, v = .int .i64 ii ∧ (a + 1) ≤ ii ∧ ii ≤ m + 1 ∧ Hid (RowAt w0 b dk wr) ∧ Hid (scanUp (fun x => lessB x dk[a]!) dk m ii = scanUp (fun x => lessB x dk[a]!) dk m (a + 1))) (fun v _ => m + 1 - (intOf v).toNat)
  case atStart => exact ⟨(a + 1), by go_num, Nat.le_refl _, by omega, Sq, rfl⟩
  case round =>
    clear Sq
    obtain ⟨iuf, rfl, hif, hijf, SUf, HSf⟩ := hrel
    by_cases hltf : iuf ≤ m
    · have zf : (iuf : Int) ≤ (m : Int) := by omega
      have eufa : ((iuf : Int)).toNat = iuf := by omega
      have pufa : (0 : Int) ≤ (iuf : Int) := by omega
      have bufa : (iuf : Int) < (d.size : Int) := by omega
      have rufa : IntKind.i64.wrap ((iuf : Int)) = (iuf : Int) := by rw [IntKind.wrap_i64]; omega
      have eufb : ((a : Int)).toNat = a := by omega
      have pufb : (0 : Int) ≤ (a : Int) := by omega
      have bufb : (a : Int) < (d.size : Int) := by omega
      have rufb : IntKind.i64.wrap ((a : Int)) = (a : Int) := by rw [IntKind.wrap_i64]; omega
      obtain ⟨xuf, hxuf⟩ : ∃ x, x = dk[iuf]! := ⟨_, rfl⟩
      obtain ⟨yuf, hyuf⟩ : ∃ y, y = dk[a]! := ⟨_, rfl⟩
      have luf0 := fun n os => (SUf.out.grown n os).c0 (iuf) (by omega)
      have luf1 := fun n os => (SUf.out.grown n os).c1 (iuf) (by omega)
      have luf2 := fun n os => (SUf.out.grown n os).c0 (a) (by omega)
      have luf3 := fun n os => (SUf.out.grown n os).c1 (a) (by omega)
      rw [← hxuf] at luf0 luf1
      rw [← hyuf] at luf2 luf3
      have hcuf := compare_grown xuf yuf
      have hduf := cmp_neg xuf yuf
      cases hluf : lessB xuf yuf with
      | true =>
        rw [hluf] at hduf
        rw [hxuf, hyuf] at hluf
        have Huf := Lib.hid hluf; clear hluf hxuf hyuf
        have hduf' := of_decide_eq_true hduf
        go_wp2_with fail
        go_quiet_grown (first | (go_at_call 30; refine Calls.grown_of (hcuf _ _ _)))
        have Suf := Lib.hid (SUf.out.grown nq osq)
        clear luf0 luf1 luf2 luf3 hcuf hduf hduf' SUf
        generalize grow (wr.drewN nq) osq = wuf at Suf ⊢
        clear nq osq
        go_wp2
        go_roundw
        case rel => exact ⟨iuf + 1, by go_num, by omega, by omega, Suf, (scanUp_go (fun x => lessB x dk[a]!) dk m iuf hltf (Huf.out)).symm.trans HSf.out⟩
        case measure => simp [intOf]; omega
      | false =>
        rw [hluf] at hduf
        rw [hxuf, hyuf] at hluf
        have Huf := Lib.hid hluf; clear hluf hxuf hyuf
        have hduf' := of_decide_eq_false hduf
        go_wp2_with fail
        go_quiet_grown (first | (go_at_call 30; refine Calls.grown_of (hcuf _ _ _)))
        have Suf := Lib.hid (SUf.out.grown nq osq)
        clear luf0 luf1 luf2 luf3 hcuf hduf hduf' SUf
        generalize grow (wr.drewN nq) osq = wuf at Suf ⊢
        clear nq osq
        have HUUf : Hid (iuf = scanUp (fun x => lessB x dk[a]!) dk m (a + 1)) := (scanUp_end (fun x => lessB x dk[a]!) dk m iuf (Or.inr (Huf.out))).symm.trans HSf.out
        clear HSf Huf
        have SCf := Suf
        clear Suf
        have HUf : Hid (iuf = scanUp (fun x => lessB x dk[a]!) dk m (a + 1)) := HUUf
        clear HUUf
        go_wp2_with fail
        go_loopw [13] (fun v wr => ∃ jj : Nat, v = .int .i64 jj ∧ jj ≤ m ∧ iuf ≤ jj + 1 ∧ Hid (RowAt w0 b dk wr) ∧ Hid (scanDown (fun x => !lessB x dk[a]!) dk iuf jj = scanDown (fun x => !lessB x dk[a]!) dk iuf m)) (fun v _ => (intOf v).toNat)
        case atStart => exact ⟨m, by go_num, Nat.le_refl _, by omega, SCf, rfl⟩
        case round =>
          clear SCf
          obtain ⟨jdf, rfl, hjf, hjif, SDf, HSf⟩ := hrel
          by_cases hltf : iuf ≤ jdf
          · have zf : (iuf : Int) ≤ (jdf : Int) := by omega
            have edfa : ((jdf : Int)).toNat = jdf := by omega
            have pdfa : (0 : Int) ≤ (jdf : Int) := by omega
            have bdfa : (jdf : Int) < (d.size : Int) := by omega
            have rdfa : IntKind.i64.wrap ((jdf : Int)) = (jdf : Int) := by rw [IntKind.wrap_i64]; omega
            have edfb : ((a : Int)).toNat = a := by omega
            have pdfb : (0 : Int) ≤ (a : Int) := by omega
            have bdfb : (a : Int) < (d.size : Int) := by omega
            have rdfb : IntKind.i64.wrap ((a : Int)) = (a : Int) := by rw [IntKind.wrap_i64]; omega
            obtain ⟨xdf, hxdf⟩ : ∃ x, x = dk[jdf]! := ⟨_, rfl⟩
            obtain ⟨ydf, hydf⟩ : ∃ y, y = dk[a]! := ⟨_, rfl⟩
            have ldf0 := fun n os => (SDf.out.grown n os).c0 (jdf) (by omega)
            have ldf1 := fun n os => (SDf.out.grown n os).c1 (jdf) (by omega)
            have ldf2 := fun n os => (SDf.out.grown n os).c0 (a) (by omega)
            have ldf3 := fun n os => (SDf.out.grown n os).c1 (a) (by omega)
            rw [← hxdf] at ldf0 ldf1
            rw [← hydf] at ldf2 ldf3
            have hcdf := compare_grown xdf ydf
            have hddf := cmp_neg xdf ydf
            cases hldf : lessB xdf ydf with
            | true =>
              rw [hldf] at hddf
              rw [hxdf, hydf] at hldf
              have Hdf := Lib.hid hldf; clear hldf hxdf hydf
              have hddf' := of_decide_eq_true hddf
              go_wp2_with fail
              go_quiet_grown (first | (go_at_call 30; refine Calls.grown_of (hcdf _ _ _)))
              have Sdf := Lib.hid (SDf.out.grown nq osq)
              clear ldf0 ldf1 ldf2 ldf3 hcdf hddf hddf' SDf
              generalize grow (wr.drewN nq) osq = wdf at Sdf ⊢
              clear nq osq
              have HDf : Hid (jdf = scanDown (fun x => !lessB x dk[a]!) dk iuf m) := (scanDown_end (fun x => !lessB x dk[a]!) dk iuf jdf (Or.inr (by rw [Hdf.out]; rfl))).symm.trans HSf.out
              clear HSf Hdf
              go_wp2_with fail
              have hlt3 := part_scans_lt lessB a (a + 1) m dk (by omega) HUf.out HDf.out (by omega)
              have zz : decide ((iuf : Int) > (jdf : Int)) = false := decide_eq_false (by omega)
              have HP := Lib.hid (part_first_go lessB d a e p (i := a + 1) (j := m) rfl (by have := HM.out; omega) HDK.out HUf.out HDf.out (by omega))
              clear HUf HDf HDK
              go_wp2_with fail
              have eta : ((iuf : Int)).toNat = iuf := by omega
              have pta : (0 : Int) ≤ (iuf : Int) := by omega
              have bta : (iuf : Int) < (d.size : Int) := by omega
              have rta : IntKind.i64.wrap ((iuf : Int)) = (iuf : Int) := by rw [IntKind.wrap_i64]; omega
              have etb : ((jdf : Int)).toNat = jdf := by omega
              have ptb : (0 : Int) ≤ (jdf : Int) := by omega
              have btb : (jdf : Int) < (d.size : Int) := by omega
              have rtb : IntKind.i64.wrap ((jdf : Int)) = (jdf : Int) := by rw [IntKind.wrap_i64]; omega
              obtain ⟨xt, hxt⟩ : ∃ x, x = dk[iuf]! := ⟨_, rfl⟩
              obtain ⟨yt, hyt⟩ : ∃ y, y = dk[jdf]! := ⟨_, rfl⟩
              have lt0 := Sdf.out.c0 (iuf) (by omega)
              have lt1 := Sdf.out.c1 (iuf) (by omega)
              have lt2 := Sdf.out.c0 (jdf) (by omega)
              have lt3 := Sdf.out.c1 (jdf) (by omega)
              have gt0 := Sdf.out.f0 (iuf) (by omega)
              have gt1 := Sdf.out.f1 (iuf) (by omega)
              have gt2 := Sdf.out.f0 (jdf) (by omega)
              have gt3 := Sdf.out.f1 (jdf) (by omega)
              have St := Lib.hid ((Sdf.out.swapped (iuf) (jdf) (by omega) (by omega) xt yt hxt hyt).drew)
              obtain ⟨mt1, mt2, mt3⟩ := Sdf.out.meet (iuf) (jdf) (by omega) (by omega) (by omega) (.int .i64 yt.1) (.int .i64 yt.2) (.int .i64 xt.1)
              rw [← hxt] at lt0 lt1 mt1
              rw [← hyt] at lt2 lt3 mt2 mt3
              clear Sdf hxt hyt
              go_wp2_with fail
              go_big_region_o
              clear lt0 lt1 lt2 lt3 gt0 gt1 gt2 gt3 mt1 mt2 mt3
              generalize ((((wdf.setCell ⟨b, (iuf) * 2, none⟩ (.int .i64 yt.1)).setCell ⟨b, (iuf) * 2 + 1, none⟩ (.int .i64 yt.2)).setCell ⟨b, (jdf) * 2, none⟩ (.int .i64 xt.1)).setCell ⟨b, (jdf) * 2 + 1, none⟩ (.int .i64 xt.2)).drew = wt at St ⊢
              go_wp2_with fail
              simp only [show decide (jdf < iuf) = false from decide_eq_false (by omega)]
              go_loopw [12, 13] (fun u v wr => ∃ (i j : Nat) (dj : Array (Int × Int)), u = .int .i64 i ∧ v = .int .i64 j ∧ a < i ∧ i ≤ j + 1 ∧ j ≤ m ∧ dj.size = d.size ∧ Hid (RowAt w0 b dj wr) ∧ Hid (partLoop lessB a i j dj = partLoop lessB a (iuf + 1) (jdf - 1) (swp dk iuf jdf))) (fun u v _ => ((intOf v).toNat + 2 - (intOf u).toNat))
              case atStart => exact ⟨iuf + 1, jdf - 1, swp dk iuf jdf, by go_num, by go_num, by omega, by omega, by omega, by rw [size_swp]; exact hsk, St, rfl⟩
              case round =>
                clear St
                obtain ⟨i, j, dj, rfl, rfl, hai, hij, hje, hsj, S1, HO⟩ := hrel
                go_wp2_with fail
                go_loopw [12] (fun v wr => ∃ ii : Nat, v = .int .i64 ii ∧ i ≤ ii ∧ ii ≤ j + 1 ∧ Hid (RowAt w0 b dj wr) ∧ Hid (scanUp (fun x => lessB x dj[a]!) dj j ii = scanUp (fun x => lessB x dj[a]!) dj j i)) (fun v _ => j + 1 - (intOf v).toNat)
                case atStart => exact ⟨i, by go_num, Nat.le_refl _, by omega, S1, rfl⟩
                case round =>
                  clear S1
                  obtain ⟨iul, rfl, hil, hijl, SUl, HSl⟩ := hrel
                  by_cases hltl : iul ≤ j
                  · have zl : (iul : Int) ≤ (j : Int) := by omega
                    have eula : ((iul : Int)).toNat = iul := by omega
                    have pula : (0 : Int) ≤ (iul : Int) := by omega
                    have bula : (iul : Int) < (d.size : Int) := by omega
                    have rula : IntKind.i64.wrap ((iul : Int)) = (iul : Int) := by rw [IntKind.wrap_i64]; omega
                    have eulb : ((a : Int)).toNat = a := by omega
                    have pulb : (0 : Int) ≤ (a : Int) := by omega
                    have bulb : (a : Int) < (d.size : Int) := by omega
                    have rulb : IntKind.i64.wrap ((a : Int)) = (a : Int) := by rw [IntKind.wrap_i64]; omega
                    obtain ⟨xul, hxul⟩ : ∃ x, x = dj[iul]! := ⟨_, rfl⟩
                    obtain ⟨yul, hyul⟩ : ∃ y, y = dj[a]! := ⟨_, rfl⟩
                    have lul0 := fun n os => (SUl.out.grown n os).c0 (iul) (by omega)
                    have lul1 := fun n os => (SUl.out.grown n os).c1 (iul) (by omega)
                    have lul2 := fun n os => (SUl.out.grown n os).c0 (a) (by omega)
                    have lul3 := fun n os => (SUl.out.grown n os).c1 (a) (by omega)
                    rw [← hxul] at lul0 lul1
                    rw [← hyul] at lul2 lul3
                    have hcul := compare_grown xul yul
                    have hdul := cmp_neg xul yul
                    cases hlul : lessB xul yul with
                    | true =>
                      rw [hlul] at hdul
                      rw [hxul, hyul] at hlul
                      have Hul := Lib.hid hlul; clear hlul hxul hyul
                      have hdul' := of_decide_eq_true hdul
                      go_wp2_with fail
                      go_quiet_grown (first | (go_at_call 30; refine Calls.grown_of (hcul _ _ _)))
                      have Sul := Lib.hid (SUl.out.grown nq osq)
                      clear lul0 lul1 lul2 lul3 hcul hdul hdul' SUl
                      generalize grow (wr.drewN nq) osq = wul at Sul ⊢
                      clear nq osq
                      go_wp2
                      go_roundw
                      case rel => exact ⟨iul + 1, by go_num, by omega, by omega, Sul, (scanUp_go (fun x => lessB x dj[a]!) dj j iul hltl (Hul.out)).symm.trans HSl.out⟩
                      case measure => simp [intOf]; omega
                    | false =>
                      rw [hlul] at hdul
                      rw [hxul, hyul] at hlul
                      have Hul := Lib.hid hlul; clear hlul hxul hyul
                      have hdul' := of_decide_eq_false hdul
                      go_wp2_with fail
                      go_quiet_grown (first | (go_at_call 30; refine Calls.grown_of (hcul _ _ _)))
                      have Sul := Lib.hid (SUl.out.grown nq osq)
                      clear lul0 lul1 lul2 lul3 hcul hdul hdul' SUl
                      generalize grow (wr.drewN nq) osq = wul at Sul ⊢
                      clear nq osq
                      have HUUl : Hid (iul = scanUp (fun x => lessB x dj[a]!) dj j i) := (scanUp_end (fun x => lessB x dj[a]!) dj j iul (Or.inr (Hul.out))).symm.trans HSl.out
                      clear HSl Hul
                      have SCl := Sul
                      clear Sul
                      have HUl : Hid (iul = scanUp (fun x => lessB x dj[a]!) dj j i) := HUUl
                      clear HUUl
                      go_wp2_with fail
                      go_loopw [13] (fun v wr => ∃ jj : Nat, v = .int .i64 jj ∧ jj ≤ j ∧ iul ≤ jj + 1 ∧ Hid (RowAt w0 b dj wr) ∧ Hid (scanDown (fun x => !lessB x dj[a]!) dj iul jj = scanDown (fun x => !lessB x dj[a]!) dj iul j)) (fun v _ => (intOf v).toNat)
                      case atStart => exact ⟨j, by go_num, Nat.le_refl _, by omega, SCl, rfl⟩
                      case round =>
                        clear SCl
                        obtain ⟨jdl, rfl, hjl, hjil, SDl, HSl⟩ := hrel
                        by_cases hltl : iul ≤ jdl
                        · have zl : (iul : Int) ≤ (jdl : Int) := by omega
                          have edla : ((jdl : Int)).toNat = jdl := by omega
                          have pdla : (0 : Int) ≤ (jdl : Int) := by omega
                          have bdla : (jdl : Int) < (d.size : Int) := by omega
                          have rdla : IntKind.i64.wrap ((jdl : Int)) = (jdl : Int) := by rw [IntKind.wrap_i64]; omega
                          have edlb : ((a : Int)).toNat = a := by omega
                          have pdlb : (0 : Int) ≤ (a : Int) := by omega
                          have bdlb : (a : Int) < (d.size : Int) := by omega
                          have rdlb : IntKind.i64.wrap ((a : Int)) = (a : Int) := by rw [IntKind.wrap_i64]; omega
                          obtain ⟨xdl, hxdl⟩ : ∃ x, x = dj[jdl]! := ⟨_, rfl⟩
                          obtain ⟨ydl, hydl⟩ : ∃ y, y = dj[a]! := ⟨_, rfl⟩
                          have ldl0 := fun n os => (SDl.out.grown n os).c0 (jdl) (by omega)
                          have ldl1 := fun n os => (SDl.out.grown n os).c1 (jdl) (by omega)
                          have ldl2 := fun n os => (SDl.out.grown n os).c0 (a) (by omega)
                          have ldl3 := fun n os => (SDl.out.grown n os).c1 (a) (by omega)
                          rw [← hxdl] at ldl0 ldl1
                          rw [← hydl] at ldl2 ldl3
                          have hcdl := compare_grown xdl ydl
                          have hddl := cmp_neg xdl ydl
                          cases hldl : lessB xdl ydl with
                          | true =>
                            rw [hldl] at hddl
                            rw [hxdl, hydl] at hldl
                            have Hdl := Lib.hid hldl; clear hldl hxdl hydl
                            have hddl' := of_decide_eq_true hddl
                            go_wp2_with fail
                            go_quiet_grown (first | (go_at_call 30; refine Calls.grown_of (hcdl _ _ _)))
                            have Sdl := Lib.hid (SDl.out.grown nq osq)
                            clear ldl0 ldl1 ldl2 ldl3 hcdl hddl hddl' SDl
                            generalize grow (wr.drewN nq) osq = wdl at Sdl ⊢
                            clear nq osq
                            have HDl : Hid (jdl = scanDown (fun x => !lessB x dj[a]!) dj iul j) := (scanDown_end (fun x => !lessB x dj[a]!) dj iul jdl (Or.inr (by rw [Hdl.out]; rfl))).symm.trans HSl.out
                            clear HSl Hdl
                            go_wp2_with fail
                            have hlt4 := part_scans_lt lessB a i j dj (by omega) HUl.out HDl.out (by omega)
                            have zz2 : decide ((iul : Int) > (jdl : Int)) = false := decide_eq_false (by omega)
                            go_wp2_with fail
                            have esa : ((iul : Int)).toNat = iul := by omega
                            have psa : (0 : Int) ≤ (iul : Int) := by omega
                            have bsa : (iul : Int) < (d.size : Int) := by omega
                            have rsa : IntKind.i64.wrap ((iul : Int)) = (iul : Int) := by rw [IntKind.wrap_i64]; omega
                            have esb : ((jdl : Int)).toNat = jdl := by omega
                            have psb : (0 : Int) ≤ (jdl : Int) := by omega
                            have bsb : (jdl : Int) < (d.size : Int) := by omega
                            have rsb : IntKind.i64.wrap ((jdl : Int)) = (jdl : Int) := by rw [IntKind.wrap_i64]; omega
                            obtain ⟨xs, hxs⟩ : ∃ x, x = dj[iul]! := ⟨_, rfl⟩
                            obtain ⟨ys, hys⟩ : ∃ y, y = dj[jdl]! := ⟨_, rfl⟩
                            have ls0 := Sdl.out.c0 (iul) (by omega)
                            have ls1 := Sdl.out.c1 (iul) (by omega)
                            have ls2 := Sdl.out.c0 (jdl) (by omega)
                            have ls3 := Sdl.out.c1 (jdl) (by omega)
                            have gs0 := Sdl.out.f0 (iul) (by omega)
                            have gs1 := Sdl.out.f1 (iul) (by omega)
                            have gs2 := Sdl.out.f0 (jdl) (by omega)
                            have gs3 := Sdl.out.f1 (jdl) (by omega)
                            have Ss := Lib.hid ((Sdl.out.swapped (iul) (jdl) (by omega) (by omega) xs ys hxs hys).drew)
                            obtain ⟨ms1, ms2, ms3⟩ := Sdl.out.meet (iul) (jdl) (by omega) (by omega) (by omega) (.int .i64 ys.1) (.int .i64 ys.2) (.int .i64 xs.1)
                            rw [← hxs] at ls0 ls1 ms1
                            rw [← hys] at ls2 ls3 ms2 ms3
                            clear Sdl hxs hys
                            go_wp2_with fail
                            go_big_region_o
                            clear ls0 ls1 ls2 ls3 gs0 gs1 gs2 gs3 ms1 ms2 ms3
                            generalize ((((wdl.setCell ⟨b, (iul) * 2, none⟩ (.int .i64 ys.1)).setCell ⟨b, (iul) * 2 + 1, none⟩ (.int .i64 ys.2)).setCell ⟨b, (jdl) * 2, none⟩ (.int .i64 xs.1)).setCell ⟨b, (jdl) * 2 + 1, none⟩ (.int .i64 xs.2)).drew = ws at Ss ⊢
                            go_wp2
                            go_roundw
                            case rel => exact ⟨iul + 1, jdl - 1, swp dj iul jdl, by go_num, by go_num, by omega, by omega, by omega, by rw [size_swp]; exact hsj, Ss, (part_go lessB a i j dj HUl.out HDl.out (by omega)).symm.trans HO.out⟩
                            case measure => simp [intOf]; omega
                          | false =>
                            rw [hldl] at hddl
                            rw [hxdl, hydl] at hldl
                            have Hdl := Lib.hid hldl; clear hldl hxdl hydl
                            have hddl' := of_decide_eq_false hddl
                            go_wp2_with fail
                            go_quiet_grown (first | (go_at_call 30; refine Calls.grown_of (hcdl _ _ _)))
                            have Sdl := Lib.hid (SDl.out.grown nq osq)
                            clear ldl0 ldl1 ldl2 ldl3 hcdl hddl hddl' SDl
                            generalize grow (wr.drewN nq) osq = wdl at Sdl ⊢
                            clear nq osq
                            go_wp2
                            go_roundw
                            case rel => exact ⟨jdl - 1, by go_num, by omega, by omega, Sdl, (scanDown_go (fun x => !lessB x dj[a]!) dj iul jdl hltl (by omega) (by rw [Hdl.out]; rfl)).symm.trans HSl.out⟩
                            case measure => simp [intOf]; omega
                        · skip
                          have HDl : Hid (jdl = scanDown (fun x => !lessB x dj[a]!) dj iul j) := (scanDown_end (fun x => !lessB x dj[a]!) dj iul jdl (Or.inl hltl)).symm.trans HSl.out
                          clear HSl
                          have zl : decide ((iul : Int) ≤ (jdl : Int)) = false := decide_eq_false (by omega)
                          have yl : ¬ (iul : Int) ≤ (jdl : Int) := by omega
                          have Sel := Lib.hid SDl.out.drew
                          clear SDl
                          go_wp2_with fail
                          go_big_region_o
                          generalize wr.drew = wel at Sel ⊢
                          go_wp2_with fail
                          have e2 : partLoop lessB a (iuf + 1) (jdf - 1) (swp dk iuf jdf) = (jdl, dj) := HO.out.symm.trans (part_break lessB a i j dj HUl.out HDl.out (by omega))
                          have HP2 := Lib.hid (HP.out.trans (by rw [e2]))
                          clear e2 HO HUl HDl HP
                          have eva : ((jdl : Int)).toNat = jdl := by omega
                          have pva : (0 : Int) ≤ (jdl : Int) := by omega
                          have bva : (jdl : Int) < (d.size : Int) := by omega
                          have rva : IntKind.i64.wrap ((jdl : Int)) = (jdl : Int) := by rw [IntKind.wrap_i64]; omega
                          have evb : ((a : Int)).toNat = a := by omega
                          have pvb : (0 : Int) ≤ (a : Int) := by omega
                          have bvb : (a : Int) < (d.size : Int) := by omega
                          have rvb : IntKind.i64.wrap ((a : Int)) = (a : Int) := by rw [IntKind.wrap_i64]; omega
                          obtain ⟨xv, hxv⟩ : ∃ x, x = dj[jdl]! := ⟨_, rfl⟩
                          obtain ⟨yv, hyv⟩ : ∃ y, y = dj[a]! := ⟨_, rfl⟩
                          have lv0 := Sel.out.c0 (jdl) (by omega)
                          have lv1 := Sel.out.c1 (jdl) (by omega)
                          have lv2 := Sel.out.c0 (a) (by omega)
                          have lv3 := Sel.out.c1 (a) (by omega)
                          have gv0 := Sel.out.f0 (jdl) (by omega)
                          have gv1 := Sel.out.f1 (jdl) (by omega)
                          have gv2 := Sel.out.f0 (a) (by omega)
                          have gv3 := Sel.out.f1 (a) (by omega)
                          have Sv := Lib.hid ((Sel.out.swapped (jdl) (a) (by omega) (by omega) xv yv hxv hyv).drew)
                          obtain ⟨⟨_, mv1⟩, ⟨_, mv2⟩, ⟨_, mv3⟩⟩ := Sel.out.meetAny (jdl) (a) (by omega) (by omega) (.int .i64 yv.1) (.int .i64 yv.2) (.int .i64 xv.1)
                          rw [← hxv] at lv0 lv1
                          rw [← hyv] at lv2 lv3
                          clear Sel hxv hyv
                          go_wp2_with fail
                          go_big_region_o
                          clear lv0 lv1 lv2 lv3 gv0 gv1 gv2 gv3 mv1 mv2 mv3
                          generalize ((((wel.setCell ⟨b, (jdl) * 2, none⟩ (.int .i64 yv.1)).setCell ⟨b, (jdl) * 2 + 1, none⟩ (.int .i64 yv.2)).setCell ⟨b, (a) * 2, none⟩ (.int .i64 xv.1)).setCell ⟨b, (a) * 2 + 1, none⟩ (.int .i64 xv.2)).drew = wv at Sv ⊢
                          go_wp2
                          go_ret2
                          rw [HP2.out]
                          exact ⟨rfl, Sv.out⟩
                  · skip
                    have HUUl : Hid (iul = scanUp (fun x => lessB x dj[a]!) dj j i) := (scanUp_end (fun x => lessB x dj[a]!) dj j iul (Or.inl hltl)).symm.trans HSl.out
                    clear HSl
                    have zl : decide ((iul : Int) ≤ (j : Int)) = false := decide_eq_false (by omega)
                    have yl : ¬ (iul : Int) ≤ (j : Int) := by omega
                    have SCl := Lib.hid SUl.out.drew
                    clear SUl
                    go_wp2_with fail
                    go_big_region_o
                    generalize wr.drew = wcl at SCl ⊢
                    have HUl : Hid (iul = scanUp (fun x => lessB x dj[a]!) dj j i) := HUUl
                    clear HUUl
                    go_wp2_with fail
                    go_loopw [13] (fun v wr => ∃ jj : Nat, v = .int .i64 jj ∧ jj ≤ j ∧ iul ≤ jj + 1 ∧ Hid (RowAt w0 b dj wr) ∧ Hid (scanDown (fun x => !lessB x dj[a]!) dj iul jj = scanDown (fun x => !lessB x dj[a]!) dj iul j)) (fun v _ => (intOf v).toNat)
                    case atStart => exact ⟨j, by go_num, Nat.le_refl _, by omega, SCl, rfl⟩
                    case round =>
                      clear SCl
                      obtain ⟨jdl, rfl, hjl, hjil, SDl, HSl⟩ := hrel
                      have hltl : ¬ iul ≤ jdl := by omega
                      have HDl : Hid (jdl = scanDown (fun x => !lessB x dj[a]!) dj iul j) := (scanDown_end (fun x => !lessB x dj[a]!) dj iul jdl (Or.inl hltl)).symm.trans HSl.out
                      clear HSl
                      have zl : decide ((iul : Int) ≤ (jdl : Int)) = false := decide_eq_false (by omega)
                      have yl : ¬ (iul : Int) ≤ (jdl : Int) := by omega
                      have Sel := Lib.hid SDl.out.drew
                      clear SDl
                      go_wp2_with fail
                      go_big_region_o
                      generalize wr.drew = wel at Sel ⊢
                      go_wp2_with fail
                      have e2 : partLoop lessB a (iuf + 1) (jdf - 1) (swp dk iuf jdf) = (jdl, dj) := HO.out.symm.trans (part_break lessB a i j dj HUl.out HDl.out (by omega))
                      have HP2 := Lib.hid (HP.out.trans (by rw [e2]))
                      clear e2 HO HUl HDl HP
                      have eva : ((jdl : Int)).toNat = jdl := by omega
                      have pva : (0 : Int) ≤ (jdl : Int) := by omega
                      have bva : (jdl : Int) < (d.size : Int) := by omega
                      have rva : IntKind.i64.wrap ((jdl : Int)) = (jdl : Int) := by rw [IntKind.wrap_i64]; omega
                      have evb : ((a : Int)).toNat = a := by omega
                      have pvb : (0 : Int) ≤ (a : Int) := by omega
                      have bvb : (a : Int) < (d.size : Int) := by omega
                      have rvb : IntKind.i64.wrap ((a : Int)) = (a : Int) := by rw [IntKind.wrap_i64]; omega
                      obtain ⟨xv, hxv⟩ : ∃ x, x = dj[jdl]! := ⟨_, rfl⟩
                      obtain ⟨yv, hyv⟩ : ∃ y, y = dj[a]! := ⟨_, rfl⟩
                      have lv0 := Sel.out.c0 (jdl) (by omega)
                      have lv1 := Sel.out.c1 (jdl) (by omega)
                      have lv2 := Sel.out.c0 (a) (by omega)
                      have lv3 := Sel.out.c1 (a) (by omega)
                      have gv0 := Sel.out.f0 (jdl) (by omega)
                      have gv1 := Sel.out.f1 (jdl) (by omega)
                      have gv2 := Sel.out.f0 (a) (by omega)
                      have gv3 := Sel.out.f1 (a) (by omega)
                      have Sv := Lib.hid ((Sel.out.swapped (jdl) (a) (by omega) (by omega) xv yv hxv hyv).drew)
                      obtain ⟨⟨_, mv1⟩, ⟨_, mv2⟩, ⟨_, mv3⟩⟩ := Sel.out.meetAny (jdl) (a) (by omega) (by omega) (.int .i64 yv.1) (.int .i64 yv.2) (.int .i64 xv.1)
                      rw [← hxv] at lv0 lv1
                      rw [← hyv] at lv2 lv3
                      clear Sel hxv hyv
                      go_wp2_with fail
                      go_big_region_o
                      clear lv0 lv1 lv2 lv3 gv0 gv1 gv2 gv3 mv1 mv2 mv3
                      generalize ((((wel.setCell ⟨b, (jdl) * 2, none⟩ (.int .i64 yv.1)).setCell ⟨b, (jdl) * 2 + 1, none⟩ (.int .i64 yv.2)).setCell ⟨b, (a) * 2, none⟩ (.int .i64 xv.1)).setCell ⟨b, (a) * 2 + 1, none⟩ (.int .i64 xv.2)).drew = wv at Sv ⊢
                      go_wp2
                      go_ret2
                      rw [HP2.out]
                      exact ⟨rfl, Sv.out⟩
            | false =>
              rw [hldf] at hddf
              rw [hxdf, hydf] at hldf
              have Hdf := Lib.hid hldf; clear hldf hxdf hydf
              have hddf' := of_decide_eq_false hddf
              go_wp2_with fail
              go_quiet_grown (first | (go_at_call 30; refine Calls.grown_of (hcdf _ _ _)))
              have Sdf := Lib.hid (SDf.out.grown nq osq)
              clear ldf0 ldf1 ldf2 ldf3 hcdf hddf hddf' SDf
              generalize grow (wr.drewN nq) osq = wdf at Sdf ⊢
              clear nq osq
              go_wp2
              go_roundw
              case rel => exact ⟨jdf - 1, by go_num, by omega, by omega, Sdf, (scanDown_go (fun x => !lessB x dk[a]!) dk iuf jdf hltf (by omega) (by rw [Hdf.out]; rfl)).symm.trans HSf.out⟩
              case measure => simp [intOf]; omega
          · skip
            have HDf : Hid (jdf = scanDown (fun x => !lessB x dk[a]!) dk iuf m) := (scanDown_end (fun x => !lessB x dk[a]!) dk iuf jdf (Or.inl hltf)).symm.trans HSf.out
            clear HSf
            have zf : decide ((iuf : Int) ≤ (jdf : Int)) = false := decide_eq_false (by omega)
            have yf : ¬ (iuf : Int) ≤ (jdf : Int) := by omega
            have Sef := Lib.hid SDf.out.drew
            clear SDf
            go_wp2_with fail
            go_big_region_o
            generalize wr.drew = wef at Sef ⊢
            go_wp2_with fail
            have HP := Lib.hid (part_first_break lessB d a e p (i := a + 1) (j := m) rfl (by have := HM.out; omega) HDK.out HUf.out HDf.out (by omega))
            clear HUf HDf HDK
            go_wp2_with fail
            have era : ((jdf : Int)).toNat = jdf := by omega
            have pra : (0 : Int) ≤ (jdf : Int) := by omega
            have bra : (jdf : Int) < (d.size : Int) := by omega
            have rra : IntKind.i64.wrap ((jdf : Int)) = (jdf : Int) := by rw [IntKind.wrap_i64]; omega
            have erb : ((a : Int)).toNat = a := by omega
            have prb : (0 : Int) ≤ (a : Int) := by omega
            have brb : (a : Int) < (d.size : Int) := by omega
            have rrb : IntKind.i64.wrap ((a : Int)) = (a : Int) := by rw [IntKind.wrap_i64]; omega
            obtain ⟨xr, hxr⟩ : ∃ x, x = dk[jdf]! := ⟨_, rfl⟩
            obtain ⟨yr, hyr⟩ : ∃ y, y = dk[a]! := ⟨_, rfl⟩
            have lr0 := Sef.out.c0 (jdf) (by omega)
            have lr1 := Sef.out.c1 (jdf) (by omega)
            have lr2 := Sef.out.c0 (a) (by omega)
            have lr3 := Sef.out.c1 (a) (by omega)
            have gr0 := Sef.out.f0 (jdf) (by omega)
            have gr1 := Sef.out.f1 (jdf) (by omega)
            have gr2 := Sef.out.f0 (a) (by omega)
            have gr3 := Sef.out.f1 (a) (by omega)
            have Sr := Lib.hid ((Sef.out.swapped (jdf) (a) (by omega) (by omega) xr yr hxr hyr).drew)
            obtain ⟨⟨_, mr1⟩, ⟨_, mr2⟩, ⟨_, mr3⟩⟩ := Sef.out.meetAny (jdf) (a) (by omega) (by omega) (.int .i64 yr.1) (.int .i64 yr.2) (.int .i64 xr.1)
            rw [← hxr] at lr0 lr1
            rw [← hyr] at lr2 lr3
            clear Sef hxr hyr
            go_wp2_with fail
            go_big_region_o
            clear lr0 lr1 lr2 lr3 gr0 gr1 gr2 gr3 mr1 mr2 mr3
            generalize ((((wef.setCell ⟨b, (jdf) * 2, none⟩ (.int .i64 yr.1)).setCell ⟨b, (jdf) * 2 + 1, none⟩ (.int .i64 yr.2)).setCell ⟨b, (a) * 2, none⟩ (.int .i64 xr.1)).setCell ⟨b, (a) * 2 + 1, none⟩ (.int .i64 xr.2)).drew = wr at Sr ⊢
            go_wp2
            go_ret2
            rw [HP.out]
            exact ⟨rfl, Sr.out⟩
    · skip
      have HUUf : Hid (iuf = scanUp (fun x => lessB x dk[a]!) dk m (a + 1)) := (scanUp_end (fun x => lessB x dk[a]!) dk m iuf (Or.inl hltf)).symm.trans HSf.out
      clear HSf
      have zf : decide ((iuf : Int) ≤ (m : Int)) = false := decide_eq_false (by omega)
      have yf : ¬ (iuf : Int) ≤ (m : Int) := by omega
      have SCf := Lib.hid SUf.out.drew
      clear SUf
      go_wp2_with fail
      go_big_region_o
      generalize wr.drew = wcf at SCf ⊢
      have HUf : Hid (iuf = scanUp (fun x => lessB x dk[a]!) dk m (a + 1)) := HUUf
      clear HUUf
      go_wp2_with fail
      go_loopw [13] (fun v wr => ∃ jj : Nat, v = .int .i64 jj ∧ jj ≤ m ∧ iuf ≤ jj + 1 ∧ Hid (RowAt w0 b dk wr) ∧ Hid (scanDown (fun x => !lessB x dk[a]!) dk iuf jj = scanDown (fun x => !lessB x dk[a]!) dk iuf m)) (fun v _ => (intOf v).toNat)
      case atStart => exact ⟨m, by go_num, Nat.le_refl _, by omega, SCf, rfl⟩
      case round =>
        clear SCf
        obtain ⟨jdf, rfl, hjf, hjif, SDf, HSf⟩ := hrel
        have hltf : ¬ iuf ≤ jdf := by omega
        have HDf : Hid (jdf = scanDown (fun x => !lessB x dk[a]!) dk iuf m) := (scanDown_end (fun x => !lessB x dk[a]!) dk iuf jdf (Or.inl hltf)).symm.trans HSf.out
        clear HSf
        have zf : decide ((iuf : Int) ≤ (jdf : Int)) = false := decide_eq_false (by omega)
        have yf : ¬ (iuf : Int) ≤ (jdf : Int) := by omega
        have Sef := Lib.hid SDf.out.drew
        clear SDf
        go_wp2_with fail
        go_big_region_o
        generalize wr.drew = wef at Sef ⊢
        go_wp2_with fail
        have HP := Lib.hid (part_first_break lessB d a e p (i := a + 1) (j := m) rfl (by have := HM.out; omega) HDK.out HUf.out HDf.out (by omega))
        clear HUf HDf HDK
        go_wp2_with fail
        have era : ((jdf : Int)).toNat = jdf := by omega
        have pra : (0 : Int) ≤ (jdf : Int) := by omega
        have bra : (jdf : Int) < (d.size : Int) := by omega
        have rra : IntKind.i64.wrap ((jdf : Int)) = (jdf : Int) := by rw [IntKind.wrap_i64]; omega
        have erb : ((a : Int)).toNat = a := by omega
        have prb : (0 : Int) ≤ (a : Int) := by omega
        have brb : (a : Int) < (d.size : Int) := by omega
        have rrb : IntKind.i64.wrap ((a : Int)) = (a : Int) := by rw [IntKind.wrap_i64]; omega
        obtain ⟨xr, hxr⟩ : ∃ x, x = dk[jdf]! := ⟨_, rfl⟩
        obtain ⟨yr, hyr⟩ : ∃ y, y = dk[a]! := ⟨_, rfl⟩
        have lr0 := Sef.out.c0 (jdf) (by omega)
        have lr1 := Sef.out.c1 (jdf) (by omega)
        have lr2 := Sef.out.c0 (a) (by omega)
        have lr3 := Sef.out.c1 (a) (by omega)
        have gr0 := Sef.out.f0 (jdf) (by omega)
        have gr1 := Sef.out.f1 (jdf) (by omega)
        have gr2 := Sef.out.f0 (a) (by omega)
        have gr3 := Sef.out.f1 (a) (by omega)
        have Sr := Lib.hid ((Sef.out.swapped (jdf) (a) (by omega) (by omega) xr yr hxr hyr).drew)
        obtain ⟨⟨_, mr1⟩, ⟨_, mr2⟩, ⟨_, mr3⟩⟩ := Sef.out.meetAny (jdf) (a) (by omega) (by omega) (.int .i64 yr.1) (.int .i64 yr.2) (.int .i64 xr.1)
        rw [← hxr] at lr0 lr1
        rw [← hyr] at lr2 lr3
        clear Sef hxr hyr
        go_wp2_with fail
        go_big_region_o
        clear lr0 lr1 lr2 lr3 gr0 gr1 gr2 gr3 mr1 mr2 mr3
        generalize ((((wef.setCell ⟨b, (jdf) * 2, none⟩ (.int .i64 yr.1)).setCell ⟨b, (jdf) * 2 + 1, none⟩ (.int .i64 yr.2)).setCell ⟨b, (a) * 2, none⟩ (.int .i64 xr.1)).setCell ⟨b, (a) * 2 + 1, none⟩ (.int .i64 xr.2)).drew = wr at Sr ⊢
        go_wp2
        go_ret2
        rw [HP.out]
        exact ⟨rfl, Sr.out⟩
end Go.Proofs.Ytcgnodkbmpkhkaa
