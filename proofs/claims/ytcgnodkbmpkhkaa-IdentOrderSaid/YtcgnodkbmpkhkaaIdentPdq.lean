/- The contract of the library's own sort of a row of commands: it puts every row in order. Written by a generator of mine (wip/gen/pdq2.py). -/
import Derived.Test.YtcgnodkbmpkhkaaIdentPdqA
import Derived.Deep.DeepCutAuto
import Derived.Deep.LoopGhost
namespace Go.Proofs.Ytcgnodkbmpkhkaa
open Go.RowKit Go.Sort

set_option maxRecDepth 100000 in
set_option maxHeartbeats 80000000 in
theorem pdq_all : ∀ (N : Nat) (w0 W : World) (b a e l cap : Nat) (d : Array (Int × Int)) (za ze zl : Int) (zn : Nat), za = a → ze = e → zl = l → zn = d.size → e - a < N → RowAt w0 b d W → a ≤ e → e ≤ d.size → d.size ≤ 1000 → l ≤ 2000 → Go.Sort.Below lessB a e d →
    Calls Try.prog 34 #[.slice (some ⟨b, 0, none⟩) zn cap, .int .i64 za, .int .i64 ze, .int .i64 zl, .func (.func 30) #[.func (.func 18) #[] #[]] #[]] W fun r w' => r = .returned (.tuple #[]) ∧ ∃ d', PermIn a e d d' ∧ SortedIn lessB a e d' ∧ RowAt w0 b d' w' := by
  intro N
  induction N with
  | zero => intros; omega
  | succ N ih =>
    intro w0 W b a e l cap d za ze zl zn ea ee el en hN S hae hed hsz hl hB
    subst ea ee el en
    have hmix := mixed
    have S0 := Lib.hid S; clear S
    have HC : Hid (Cont a e d a e d) := ⟨hB, fun R h1 h2 => ⟨h1, h2⟩⟩
    clear hB
    have IHH := Lib.hid ih; clear ih
    go_enter Try.func34, Try.ntmps34
    go_wp2_with fail
    go_loopg [1, 2, 3, 10, 11] (e - a) (fun k va ve vl vb vp wr => ∃ (a1 e1 l1 : Nat) (bal part : Bool) (dk : Array (Int × Int)), va = .int .i64 a1 ∧ ve = .int .i64 e1 ∧ vl = .int .i64 l1 ∧ vb = .bool bal ∧ vp = .bool part ∧ e1 - a1 = k ∧ a ≤ a1 ∧ a1 ≤ e1 ∧ e1 ≤ e ∧ l1 ≤ 2000 ∧ dk.size = d.size ∧ Hid (RowAt w0 b dk wr) ∧ Hid (Cont a e d a1 e1 dk))
    case atStart => exact ⟨a, e, l, true, true, d, rfl, rfl, rfl, rfl, rfl, rfl, Nat.le_refl _, hae, Nat.le_refl _, hl, rfl, S0, HC⟩
    case round =>
      clear S0 HC
      obtain ⟨a1, e1, l1, bal, part, dk, rfl, rfl, rfl, rfl, rfl, hgk, haa, hae1, hee, hl1, hsk, S1, C0⟩ := hrel
      by_cases h12 : e1 - a1 ≤ 12
      · have z12 : (e1 : Int) - (a1 : Int) ≤ 12 := by omega
        go_wp2_with fail
        refine (ins_z w0 _ b a1 e1 cap d.size dk hsk.symm S1.out hae1 (by omega) (by omega)).mono ?_
        rintro r1 w1 ⟨rfl, S2⟩
        have S2 := Lib.hid S2
        go_wp2_with fail
        refine bodyPost_ret (results_none rfl _ _ _) rfl ?_
        exact ⟨rfl, _, (C0.out.insertion hae1 (by omega)).1, (C0.out.insertion hae1 (by omega)).2, S2.out⟩
      have z12 : decide ((e1 : Int) - (a1 : Int) ≤ 12) = false := decide_eq_false (by omega)
      by_cases hl0 : l1 = 0
      · have zl0 : ((l1 : Int) == 0) = true := by simp; omega
        go_wp2_with fail
        refine (heap_z w0 _ b a1 e1 cap d.size dk hsk.symm S1.out hae1 (by omega) (by omega)).mono ?_
        rintro r1 w1 ⟨rfl, S2⟩
        have S2 := Lib.hid S2
        go_wp2_with fail
        refine bodyPost_ret (results_none rfl _ _ _) rfl ?_
        exact ⟨rfl, _, (C0.out.heap hae1 (by omega)).1, (C0.out.heap hae1 (by omega)).2, S2.out⟩
      have zl0 : ((l1 : Int) == 0) = false := by simp; omega
      go_upto_if 39 with (fail)
      go_cut [3] (fun vl w => ∃ (l2 : Nat) (d1 : Array (Int × Int)), vl = .int .i64 l2 ∧ l2 ≤ 2000 ∧ d1.size = d.size ∧ Hid (RowAt w0 b d1 w) ∧ Hid (Cont a e d a1 e1 d1))
      case first =>
        cases bal with
        | true =>
          go_wp2_with fail
          go_meet
          case rel => exact ⟨l1, dk, rfl, hl1, hsk, S1, C0⟩
        | false =>
          go_wp2_with fail
          refine (break_z w0 _ b a1 e1 cap d.size dk hsk.symm S1.out (by omega) (by omega) (by omega)).mono ?_
          rintro r0 w0b ⟨rfl, d1, hp1, S1b⟩
          have S1b := Lib.hid S1b
          have C1 := Lib.hid (C0.out.perm (by omega) hp1)
          have hsb : d1.size = d.size := by have := hp1.1; omega
          clear hp1
          obtain ⟨l2, hl2⟩ : ∃ x, l1 = x + 1 := ⟨l1 - 1, by omega⟩
          have zl2 : (l1 : Int) - 1 = (l2 : Int) := by omega
          have hl2' : l2 ≤ 2000 := by omega
          clear hl2
          go_wp2_with fail
          go_meet
          case rel => exact ⟨l2, d1, rfl, hl2', hsb, S1b, C1⟩
      case rest =>
        clear S1 C0 hsk
        obtain ⟨l2, d1, rfl, hl2, hs1, S1, C1⟩ := hcut
        clear hl1 hl0 zl0
        go_wp2_with fail
        refine (pivot_z w0 _ b a1 e1 cap d.size d1 hs1.symm S1.out (by omega) (by omega) (by omega)).mono ?_
        rintro r1 w1p ⟨p, h, rfl, lo1, lo2, hh2, S1p⟩
        have S1p := Lib.hid S1p
        clear S1
        go_upto_if 56 with (fail)
        go_cut [13, 14] (fun vp vh w => ∃ (p h : Nat) (d2 : Array (Int × Int)), vp = .int .i64 p ∧ vh = .int .i64 h ∧ a1 ≤ p ∧ p < e1 ∧ d2.size = d.size ∧ Hid (RowAt w0 b d2 w) ∧ Hid (Cont a e d a1 e1 d2))
        case first =>
          have hh : h = 0 ∨ h = 1 ∨ h = 2 := by omega
          rcases hh with rfl | rfl | rfl
          · go_wp2_with fail
            go_meet
            case rel => exact ⟨p, 0, d1, rfl, rfl, lo1, lo2, hs1, S1p, C1⟩
          · go_wp2_with fail
            go_meet
            case rel => exact ⟨p, 1, d1, rfl, rfl, lo1, lo2, hs1, S1p, C1⟩
          · go_wp2_with fail
            refine (reverse_z w0 _ b a1 e1 cap d.size d1 hs1.symm S1p.out (by omega) (by omega) (by omega)).mono ?_
            rintro r2 w2r ⟨rfl, S2r⟩
            have S2r := Lib.hid S2r
            have C2 := Lib.hid (C1.out.reverse (by omega) (by omega))
            obtain ⟨d2r, hd2⟩ : ∃ x, x = reverseRange d1 a1 e1 := ⟨_, rfl⟩
            have hs2 : d2r.size = d.size := by rw [hd2, ← hs1]; exact (reverseRange_holds d1 a1 e1 (by omega) (by omega)).1
            rw [← hd2] at S2r C2
            clear hd2 C1 S1p
            obtain ⟨p2, hp2⟩ : ∃ x, x = e1 - 1 - (p - a1) := ⟨_, rfl⟩
            have zp : (e1 : Int) - 1 - ((p : Int) - (a1 : Int)) = (p2 : Int) := by omega
            have lo1' : a1 ≤ p2 := by omega
            have lo2' : p2 < e1 := by omega
            clear hp2
            go_wp2_with fail
            go_meet
            case rel => exact ⟨p2, 1, d2r, by first | rfl | rw [zp], rfl, lo1', lo2', hs2, S2r, C2⟩
        case rest =>
          clear S1p C1 hs1 lo1 lo2 hh2
          obtain ⟨p, h, d2, rfl, rfl, lo1, lo2, hs2, S2, C2⟩ := hcut
          go_upto_region 15 with (fail)
          go_cut [75] (fun v w => ∃ t : Bool, v = .bool t ∧ Hid (RowAt w0 b d2 w))
          case first =>
            cases bal with
            | true =>
              cases part with
              | true =>
                by_cases h1 : h = 1
                · have zh : ((h : Int) == 1) = true := by simp; omega
                  go_wp2_with fail
                  go_meet
                  case rel => exact ⟨_, rfl, S2⟩
                · have zh : ((h : Int) == 1) = false := by simp; omega
                  go_wp2_with fail
                  go_meet
                  case rel => exact ⟨_, rfl, S2⟩
              | false =>
                go_wp2_with fail
                go_meet
                case rel => exact ⟨_, rfl, S2⟩
            | false =>
              go_wp2_with fail
              go_meet
              case rel => exact ⟨_, rfl, S2⟩
          case rest =>
            clear S2
            obtain ⟨t, rfl, S2⟩ := hcut
            go_upto_if 75 with (fail)
            go_cut [75] (fun v w => ∃ (t : Bool) (d3 : Array (Int × Int)), v = .bool t ∧ d3.size = d.size ∧ Hid (RowAt w0 b d3 w) ∧ Hid (Cont a e d a1 e1 d3))
            case first =>
              cases t with
              | false =>
                go_wp2_with fail
                go_meet
                case rel => exact ⟨_, d2, rfl, hs2, S2, C2⟩
              | true =>
                go_wp2_with fail
                refine (pins_z w0 _ b a1 e1 cap d.size d2 hs2.symm S2.out (by omega) (by omega) (by omega)).mono ?_
                rintro r3 w3 ⟨rfl, S4⟩
                have S4 := Lib.hid S4
                obtain ⟨c3, c3t⟩ := C2.out.pins (by omega) (by omega)
                obtain ⟨ok, hok⟩ : ∃ x, x = (partialInsertionSort lessB d2 a1 e1).2 := ⟨_, rfl⟩
                obtain ⟨d3, hd3⟩ : ∃ x, x = (partialInsertionSort lessB d2 a1 e1).1 := ⟨_, rfl⟩
                have hs3 : d3.size = d.size := by rw [hd3, ← hs2]; exact (partialInsertionSort_holds lessB_swo d2 a1 e1 (by omega) (by omega) C2.out.1).1.1
                rw [← hok, ← hd3] at c3t
                rw [← hok]
                rw [← hd3] at c3 S4
                clear hok hd3
                have C3 := Lib.hid c3
                have CT := Lib.hid c3t
                clear c3 c3t
                cases ok with
                | true =>
                  go_wp2_with fail
                  refine bodyPost_ret (results_none rfl _ _ _) rfl ?_
                  exact ⟨rfl, d3, (CT.out trivial).1, (CT.out trivial).2, S4.out⟩
                | false =>
                  go_wp2_with fail
                  go_meet
                  case rel => exact ⟨_, d3, rfl, hs3, S4, C3⟩
            case rest =>
              clear S2 C2 hs2
              obtain ⟨t2, d3, rfl, hs3, S3, C3⟩ := hcut
              go_upto_region 17 with (fail)
              go_cut [97] (fun v w => ∃ t : Bool, v = .bool t ∧ Hid (RowAt w0 b d3 w) ∧ Hid (t = true → 0 < a1 ∧ lessB d3[a1 - 1]! d3[p]! = false))
              case first =>
                by_cases ha0 : 0 < a1
                · have za : (a1 : Int) > 0 := by omega
                  have s1n : (1 : Int) ≤ (a1 : Int) := by omega
                  have s2n : (a1 : Int) ≤ (d.size : Int) := by omega
                  go_wp2_with fail
                  have ena : (((a1 : Int) - 1)).toNat = a1 - 1 := by omega
                  have pna : (0 : Int) ≤ ((a1 : Int) - 1) := by omega
                  have bna : ((a1 : Int) - 1) < (d.size : Int) := by omega
                  have rna : IntKind.i64.wrap (((a1 : Int) - 1)) = ((a1 : Int) - 1) := by rw [IntKind.wrap_i64]; omega
                  have enb : ((p : Int)).toNat = p := by omega
                  have pnb : (0 : Int) ≤ (p : Int) := by omega
                  have bnb : (p : Int) < (d.size : Int) := by omega
                  have rnb : IntKind.i64.wrap ((p : Int)) = (p : Int) := by rw [IntKind.wrap_i64]; omega
                  obtain ⟨xn, hxn⟩ : ∃ x, x = d3[a1 - 1]! := ⟨_, rfl⟩
                  obtain ⟨yn, hyn⟩ : ∃ y, y = d3[p]! := ⟨_, rfl⟩
                  have ln0 := fun n os => (S3.out.grown n os).c0 (a1 - 1) (by omega)
                  have ln1 := fun n os => (S3.out.grown n os).c1 (a1 - 1) (by omega)
                  have ln2 := fun n os => (S3.out.grown n os).c0 (p) (by omega)
                  have ln3 := fun n os => (S3.out.grown n os).c1 (p) (by omega)
                  rw [← hxn] at ln0 ln1
                  rw [← hyn] at ln2 ln3
                  have hcn := compare_grown xn yn
                  have hdn := cmp_neg xn yn
                  cases hln : lessB xn yn with
                  | true =>
                    rw [hln] at hdn
                    rw [hxn, hyn] at hln
                    have Hn := Lib.hid hln; clear hln hxn hyn
                    have hdn' := of_decide_eq_true hdn
                    go_wp2_with fail
                    go_quiet_grown (first | (go_at_call 30; refine Calls.grown_of (hcn _ _ _)))
                    have Sn := Lib.hid (S3.out.grown nq osq)
                    clear ln0 ln1 ln2 ln3 hcn hdn hdn' 
                    generalize grow (wc.drewN nq) osq = wn at Sn ⊢
                    clear nq osq
                    go_wp2_with fail
                    go_meet
                    case rel => exact ⟨false, rfl, Sn, Lib.hid (fun q => by cases q)⟩
                  | false =>
                    rw [hln] at hdn
                    rw [hxn, hyn] at hln
                    have Hn := Lib.hid hln; clear hln hxn hyn
                    have hdn' := of_decide_eq_false hdn
                    go_wp2_with fail
                    go_quiet_grown (first | (go_at_call 30; refine Calls.grown_of (hcn _ _ _)))
                    have Sn := Lib.hid (S3.out.grown nq osq)
                    clear ln0 ln1 ln2 ln3 hcn hdn hdn' 
                    generalize grow (wc.drewN nq) osq = wn at Sn ⊢
                    clear nq osq
                    go_wp2_with fail
                    go_meet
                    case rel => exact ⟨true, rfl, Sn, Lib.hid (fun _ => ⟨ha0, Hn.out⟩)⟩
                · have za : decide ((a1 : Int) > 0) = false := decide_eq_false (by omega)
                  have ya : ¬ (0 : Int) < (a1 : Int) := by omega
                  have Sn := Lib.hid S3.out.drew
                  go_wp2_with fail
                  go_big_region_o
                  generalize wc.drew = wn at Sn ⊢
                  go_wp2_with fail
                  go_meet
                  case rel => exact ⟨false, rfl, Sn, Lib.hid (fun q => by cases q)⟩
              case rest =>
                clear S3
                obtain ⟨t, rfl, S4, HT⟩ := hcut
                cases t with
                | true =>
                  go_wp2_with fail
                  refine (partEq_z w0 _ b a1 e1 p cap d.size d3 hs3.symm S4.out lo1 lo2 (by omega) (by omega)).mono ?_
                  rintro r4 w4 ⟨rfl, S5⟩
                  have S5 := Lib.hid S5
                  obtain ⟨hn1, hn2⟩ := HT.out trivial
                  obtain ⟨m1, m2, m3, c4⟩ := C3.out.eq p hn1 lo1 lo2 (by omega) hn2
                  obtain ⟨m, hm⟩ : ∃ m, m = (partitionEqual lessB d3 a1 e1 p).1 := ⟨_, rfl⟩
                  obtain ⟨d4, hd4⟩ : ∃ x, x = (partitionEqual lessB d3 a1 e1 p).2 := ⟨_, rfl⟩
                  rw [← hm, ← hd4] at c4
                  rw [← hm] at m1 m2 ⊢
                  rw [← hd4] at m3 S5
                  clear hm hd4 hn2
                  have C4 := Lib.hid c4
                  have hs4 : d4.size = d.size := by omega
                  clear c4 m3 C3 HT S4
                  go_wp2_with fail
                  go_roundg (e1 - m)
                  case measure => omega
                  case rel => exact ⟨m, e1, l2, _, _, d4, rfl, rfl, rfl, rfl, rfl, rfl, by omega, by omega, by omega, by omega, hs4, S5, C4⟩
                | false =>
                  clear HT
                  go_wp2_with fail
                  refine (part_z w0 _ b a1 e1 p cap d.size d3 hs3.symm S4.out lo1 lo2 (by omega) (by omega)).mono ?_
                  rintro r4 w4 ⟨rfl, S5⟩
                  have S5 := Lib.hid S5
                  obtain ⟨m1, m2, m3, b1, b2, cl, cr⟩ := C3.out.part p lo1 lo2 (by omega)
                  obtain ⟨m, hm⟩ : ∃ m, m = (Sort.partition lessB d3 a1 e1 p).1 := ⟨_, rfl⟩
                  obtain ⟨al, hal⟩ : ∃ x, x = (Sort.partition lessB d3 a1 e1 p).2.1 := ⟨_, rfl⟩
                  obtain ⟨d4, hd4⟩ : ∃ x, x = (Sort.partition lessB d3 a1 e1 p).2.2 := ⟨_, rfl⟩
                  rw [← hm, ← hd4] at b1 b2 cl cr
                  rw [← hm] at m1 m2 ⊢
                  rw [← hd4] at m3 S5
                  rw [← hal]
                  clear hm hal hd4
                  have hs4 : d4.size = d.size := by rw [m3]; exact hs3
                  have B1 := Lib.hid b1; have B2 := Lib.hid b2; have CL := Lib.hid cl; have CR := Lib.hid cr
                  clear b1 b2 cl cr m3 C3 S4
                  by_cases hc : m - a1 < e1 - m
                  · have zc : (m : Int) - (a1 : Int) < (e1 : Int) - (m : Int) := by omega
                    go_wp2_with fail
                    refine (IHH.out w0 _ b a1 m l2 cap d4 _ _ _ _ rfl rfl rfl (by rw [hs4]) (by omega) S5.out (by omega) (by omega) (by omega) (by omega) B1.out).mono ?_
                    rintro r5 w5 ⟨rfl, d5, q1, q2, S6⟩
                    have S6 := Lib.hid S6
                    have C6 := Lib.hid (CL.out d5 q1 q2)
                    have hs5 : d5.size = d.size := by have := q1.1; omega
                    clear q1 q2 S5 CL CR B1 B2
                    go_wp2_with fail
                    go_roundg (e1 - (m + 1))
                    case measure => omega
                    case rel => exact ⟨m + 1, e1, l2, _, _, d5, by go_num, rfl, rfl, rfl, rfl, rfl, by omega, by omega, by omega, by omega, hs5, S6, C6⟩
                  · have zc : decide ((m : Int) - (a1 : Int) < (e1 : Int) - (m : Int)) = false := decide_eq_false (by omega)
                    go_wp2_with fail
                    refine (IHH.out w0 _ b (m + 1) e1 l2 cap d4 _ _ _ _ (by omega) rfl rfl (by rw [hs4]) (by omega) S5.out (by omega) (by omega) (by omega) (by omega) B2.out).mono ?_
                    rintro r5 w5 ⟨rfl, d5, q1, q2, S6⟩
                    have S6 := Lib.hid S6
                    have C6 := Lib.hid (CR.out d5 q1 q2)
                    have hs5 : d5.size = d.size := by have := q1.1; omega
                    clear q1 q2 S5 CL CR B1 B2
                    go_wp2_with fail
                    go_roundg (m - a1)
                    case measure => omega
                    case rel => exact ⟨a1, m, l2, _, _, d5, rfl, rfl, rfl, rfl, rfl, rfl, by omega, by omega, by omega, by omega, hs5, S6, C6⟩

theorem pdq_ok (n : Nat) (hn : n ≤ 1000) : PdqOk n := fun w0 W b cap l d hd hl S => by
  subst hd
  have h := pdq_all (d.size + 1) w0 W b 0 d.size l cap d 0 d.size l d.size rfl rfl rfl rfl (by omega) S (Nat.zero_le _) (Nat.le_refl _) hn (by omega) (Or.inl rfl)
  exact h.mono fun _ _ ⟨h1, d', h2, h3, h4⟩ => ⟨h1, d', ⟨h2, h3⟩, h4⟩
end Go.Proofs.Ytcgnodkbmpkhkaa
