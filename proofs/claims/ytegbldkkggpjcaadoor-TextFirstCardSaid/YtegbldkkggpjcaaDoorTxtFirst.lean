/- The law TextFirst, upon Impl. -/
import Derived.Test.YtegbldkkggpjcaaDoorTxtFirst0
namespace Go.Proofs.YtegbldkkggpjcaaDoor
open Go.RowKit Go.Sort

attribute [local go_sem ↓] Go.wp_at_zero Go.wp_at_succ

theorem dead {u : InS} (h : u.e ≠ 0) (n : Int) : numS u n = u ∧ numN u n = 0 ∧ textS u n = u ∧ textT u n = ⟨#[]⟩ ∧ rowS u n = u ∧ rowI u n = [] ∧ flagS u = u ∧ flagB u = false ∧ endS u = u := by
  refine ⟨if_neg h, if_neg h, if_neg h, if_neg (fun q => h q.1), if_neg h, if_neg h, if_neg h, ?_, if_neg (fun q => h q.1)⟩
  unfold flagB
  rw [decide_eq_false h]
  rfl
theorem OwnI.res' {w : World} {base : Nat} {sa : Option Addr} {cap : Nat} {l : List Int} (h : OwnI w base (.slice sa l.length cap) l) : ArgI w sa l.length cap l := by
  obtain ⟨sa', cap', e, h⟩ := h.res
  simp only [Value.slice.injEq, true_and] at e
  obtain ⟨rfl, rfl⟩ := e
  exact h
theorem one_pc {w : World} {la : Option Addr} {lc : Nat} {p : PcS} (h : ArgI w la p.l.length lc p.l) (hw : p.n ≤ 9223372036854775807 ∧ p.s.size ≤ 9223372036854775807 ∧ p.l.length ≤ 9223372036854775807 ∧ ∀ x ∈ p.l, x ≤ 9223372036854775807) :
    ReadsP (w.alloc (.cells #[.int .i64 p.k, .int .i64 p.n, .string p.s, .slice la p.l.length lc] 29)) (some ⟨w.heap.size, 0, none⟩) 1 [p] ∧ WfP [p] := by
  refine ⟨⟨rfl, fun _ => ⟨_, 0, rfl, fun i hi => ?_⟩⟩, fun q hq => by rw [List.mem_singleton.1 hq]; exact hw⟩
  obtain rfl : i = 0 := by simp at hi; omega
  have h4 := pc4_of (w := w.alloc (.cells #[.int .i64 p.k, .int .i64 p.n, .string p.s, .slice la p.l.length lc] 29)) (B := w.heap.size) (p := p) (la := la) (lc := lc) (heap_alloc_new _ _)
  exact ⟨h4.1, h4.2.1, h4.2.2.1, la, lc, h4.2.2.2, h.later ((Below.refl _ _).alloc (Nat.le_refl _) _)⟩
set_option maxRecDepth 20000 in
set_option maxHeartbeats 6400000 in
theorem first_law (I : Impl) (s : ByteArray) (sa : Option Addr) (len cap : Nat) (ps : List PcS) (p : PcS) (la : Option Addr) (lc : Nat) (w : World) (hr : ReadsP w sa len ps) (hwf : WfP ps) (hm : len ≤ 9223372036854775807) (hsz : s.size ≤ 9223372036854775807)
    (hla : ArgI w la p.l.length lc p.l) (hpw : p.n ≤ 9223372036854775807 ∧ p.s.size ≤ 9223372036854775807 ∧ p.l.length ≤ 9223372036854775807 ∧ ∀ x ∈ p.l, x ≤ 9223372036854775807) (hg : Laid w) :
    Calls Tryd.prog 4 #[.string s, .slice sa len cap, .agg #[.int .i64 p.k, .int .i64 p.n, .string p.s, .slice la p.l.length lc]] w fun e w' => e = .returned (.bool true) ∧ RowKit.Below w.heap.size w w' := by
  have HF := Lib.hid (fun W (hb : RowKit.Below w.heap.size w W) => few_any sa len cap ps W (hr.later hb) hwf hm)
  have HF1 := Lib.hid (fun W (hb : RowKit.Below w.heap.size w W) => few_any (some ⟨W.heap.size, 0, none⟩) 1 1 [p] _ (one_pc (hla.later hb) hpw).1 (one_pc (hla.later hb) hpw).2 (by decide))
  have HA := Lib.hid (fun W (hb : RowKit.Below w.heap.size w W) => awake_any I W (hg.below hb hg.pos))
  have HG := Lib.hid hg
  have hpos := hg.pos
  have HR := Lib.hid hr
  have HWF := Lib.hid hwf
  clear hr hwf hg hla
  by_cases qs : 3000 < s.size
  · have d1 : decide ((s.size : Int) > 3000) = true := decide_eq_true (by omega)
    clear qs
    go_enter Tryd.func4, Tryd.ntmps4
    go_wp2_with fail
    refine (HA.out _ (by first | exact Below.refl _ _ | exact (Below.refl _ _).alloc (Nat.le_refl _) _)).mono ?_
    rintro y w2 ⟨rfl, hb⟩
    have HB2 := Lib.hid (show RowKit.Below w.heap.size w w2 from ((Below.refl _ _).alloc (Nat.le_refl _) _).trans (hb.mono (by simp)))
    clear hb
    go_wp2_with fail
    go_ret
    exact ⟨rfl, HB2.out⟩
  have d1 : decide ((s.size : Int) > 3000) = false := decide_eq_false (by omega)
  have hs3 : s.size ≤ 3000 := by omega
  by_cases q : fewP ps = true
  · rw [q] at HF
    obtain ⟨hm1, hm2⟩ := fewP_yes q
    have hlen : len ≤ 40 := by rw [HR.out.1]; exact hm1
    clear q hm hm2 hsz qs
    by_cases qp : fewP [p] = true
    · rw [qp] at HF1
      clear qp
      go_enter Tryd.func4, Tryd.ntmps4
      go_wp2_with fail
      have hb0 : RowKit.Below w.heap.size w (w.alloc (.cells #[.int .i64 p.k, .int .i64 p.n, .string p.s, .slice la p.l.length lc] 29)) := (Below.refl _ _).alloc (Nat.le_refl _) _
      refine (HF.out _ hb0).mono ?_
      rintro y w1 ⟨rfl, hb⟩
      have HP1 := Lib.hid (show w1.heap[w.heap.size]? = some (.cells #[.int .i64 p.k, .int .i64 p.n, .string p.s, .slice la p.l.length lc] 29 (0, 0)) from (hb.below.block _ (by simp)).trans (heap_alloc_new _ _))
      have HB1 := Lib.hid (hb0.trans (hb.below.mono (by simp)))
      clear hb hb0
      obtain ⟨x0, x1, x2, x3⟩ := pc4_of HP1.out
      simp only [Nat.zero_add] at x1 x2 x3
      go_wp2_with fail
      refine (HF1.out _ HB1.out).mono ?_
      rintro y w2 ⟨rfl, hb⟩
      have hb2 : RowKit.Below w1.heap.size w1 w2 := ((Below.refl _ _).alloc (Nat.le_refl _) _).trans (hb.below.mono (by simp))
      have HP2 := Lib.hid ((hb2.block _ (lt_of_block HP1.out)).trans HP1.out)
      have HB2 := Lib.hid (HB1.out.trans (hb2.mono HB1.out.size))
      clear hb hb2 x0 x1 x2 x3 HP1 HB1 HF HF1
      go_wp2_with fail
      refine (I.new s w2 (HG.out.below HB2.out hpos) (by omega)).mono ?_
      rintro y w3 ⟨B, S, rfl, k, hge, hb⟩
      have HP3 := Lib.hid ((hb.block _ (lt_of_block HP2.out)).trans HP2.out)
      have HB3 := Lib.hid (HB2.out.trans (hb.mono HB2.out.size))
      have HK := Lib.hid k
      have HGE := Lib.hid (show ∀ k, S k → w2.heap.size ≤ k from hge)
      have HB23 := Lib.hid hb
      clear k hge hb
      go_wp2_with fail
      -- loop
      have HST := Lib.hid (show FSt I w2 (w3.alloc (.cells #[.pointer none, .string ⟨#[]⟩, .int .i64 0] 37)) S B (fun k => k = w3.heap.size) w3.heap.size ⟨s, 0, ⟨#[]⟩, 0⟩ ⟨⟨#[]⟩, ⟨#[]⟩, 0⟩ from
        ⟨I.rlater HK.out ((Below.refl _ _).alloc (Nat.le_refl _) _), I.wzero w3, fun k q1 q2 => by have := (I.rold HK.out).2 k q1; have : k = w3.heap.size := q2; omega, HGE.out, fun k q => by have : k = w3.heap.size := q; have := HB23.out.size; omega, Nat.lt_of_lt_of_le hpos HB2.out.size, (HG.out.below HB3.out hpos).alloc _, HB23.out.alloc HB23.out.size _⟩)
      generalize w3.heap.size = Bw at *
      clear HK HGE HB3 HB23 HP3
      have HV0 := Lib.hid (show FInv s 0 ⟨s, 0, ⟨#[]⟩, 0⟩ ⟨⟨#[]⟩, ⟨#[]⟩, 0⟩ from ⟨rfl, Int.le_refl 0, Int.natCast_nonneg _, .inl ⟨rfl, by
        have : s.extract 0 (0 : Int).toNat = ⟨#[]⟩ := by
          apply ByteArray.ext
          simp
        rw [this]⟩⟩)
      go_loopg [9] len (fun gg i wr => ∃ (k : Nat) (Sr Sw : Nat → Prop) (u : InS) (t : OutS), k + gg = len ∧ i = .int .i64 k ∧ Hid (FInv s k u t) ∧ Hid (FSt I w2 wr Sr B Sw Bw u t))
      case atStart => exact ⟨0, S, _, _, _, by omega, rfl, HV0, HST⟩
      case round =>
        obtain ⟨k, Sr, Sw, u, t, hk, rfl, HV, HS⟩ := hrel
        have htsz := HV.out.size hs3
        have husz : u.s.size ≤ 100000 := by rw [HV.out.1]; omega
        by_cases hlt : k < len
        · have hkl : k < ps.length := by rw [← HR.out.1]; exact hlt
          obtain ⟨b, off, rfl, gw⟩ := (HR.out.later (HB2.out.trans (HS.out.below.mono HB2.out.size))).2 (by omega)
          obtain ⟨c0, c1, _, _, _, _, _⟩ := gw k hkl
          clear gw
          generalize ps[k] = pp at *
          obtain ⟨pk, pn, psx, pl⟩ := pp
          simp only at c0 c1
          have i1 : (0 : Int) ≤ (k : Int) := by omega
          have i2 : (k : Int) < (len : Int) := by omega
          by_cases q0 : pk = 0
          · have e0 : (pk == 0) = true := by simpa using q0
            clear q0
            have hv := first_num HV.out hs3 pn
            have HCR := Lib.hid (I.rnum pn HS.out.R HS.out.laid husz)
            generalize numS u pn = u' at *
            generalize numN u pn = x at *
            have HV := Lib.hid hv.1
            have hx := hv.2
            clear hv
            go_wp2_with fail
            refine HCR.out.mono ?_
            rintro y w5 ⟨rfl, Sr', k1, k2, k3⟩
            have HS5 := Lib.hid (HS.out.reads k1 k2 k3)
            clear k1 k2 k3
            have HS5' := Lib.hid (HS5.out.later ((Below.refl _ _).alloc (Nat.le_refl _) (.cells #[.int .i64 x] 3)))
            go_wp2_with fail
            refine (I.wnum (some ⟨w5.heap.size, 0, none⟩) 1 1 [x] HS5'.out.W HS5'.out.laid (one_int w5 x) (by decide) (fun z hz => by rw [List.mem_singleton.1 hz]; exact hx) (fun _ b o s e q => by
              simp only [Option.some.injEq, Addr.mk.injEq] at e
              have := (I.wold HS5.out.W).2 b q
              omega) (by omega)).mono ?_
            rintro y w6 ⟨rfl, Sw', k1, k2, k3⟩
            have HS6 := Lib.hid (HS5'.out.lays k1 k2 k3)
            clear k1 k2 k3
            go_wp2_with fail
            go_roundg (gk - 1)
            case measure => omega
            case rel => exact ⟨k + 1, Sr', Sw', u', _, by omega, by go_num, HV, HS6⟩
          have e0 : (pk == 0) = false := by simpa using q0
          by_cases q1 : pk = 1
          · have e1 : (pk == 1) = true := by simpa using q1
            clear q1
            have hv := first_text HV.out hs3 pn
            have HCR := Lib.hid (I.rtext pn HS.out.R HS.out.laid husz)
            generalize textS u pn = u' at *
            generalize textT u pn = x at *
            have HV := Lib.hid hv.1
            have hx := hv.2
            clear hv
            go_wp2_with fail
            refine HCR.out.mono ?_
            rintro y w5 ⟨rfl, Sr', k1, k2, k3⟩
            have HS5 := Lib.hid (HS.out.reads k1 k2 k3)
            clear k1 k2 k3
            have HS5' := HS5
            go_wp2_with fail
            refine (I.wtext x HS5'.out.W HS5'.out.laid (by omega) (by omega)).mono ?_
            rintro y w6 ⟨rfl, Sw', k1, k2, k3⟩
            have HS6 := Lib.hid (HS5'.out.lays k1 k2 k3)
            clear k1 k2 k3
            go_wp2_with fail
            go_roundg (gk - 1)
            case measure => omega
            case rel => exact ⟨k + 1, Sr', Sw', u', _, by omega, by go_num, HV, HS6⟩
          have e1 : (pk == 1) = false := by simpa using q1
          by_cases q2 : pk = 2
          · have e2 : (pk == 2) = true := by simpa using q2
            clear q2
            have hv := first_row HV.out hs3 pn
            have hrl := rowI_len u pn
            have HCR := Lib.hid (I.rrow pn HS.out.R HS.out.laid husz)
            generalize rowS u pn = u' at *
            generalize rowI u pn = x at *
            have HV := Lib.hid hv.1
            have hx := hv.2
            clear hv
            go_wp2_with fail
            refine HCR.out.mono ?_
            rintro y w5 ⟨v3, hv3, rfl, Sr', k1, k2, k3⟩
            have hup := OwnI.up hv3
            obtain ⟨s3, c3, rfl, hc3, hge3, hr3⟩ := hup
            have HA3 := Lib.hid (hv3.res')
            have HGE3 := Lib.hid hge3
            have hsz5 : ∀ b, Sw b → b < wr.heap.size := (I.wold HS.out.W).2
            have HS5 := Lib.hid (HS.out.reads k1 k2 k3)
            clear k1 k2 k3 hv3 hr3 hc3 hge3
            have HS5' := HS5
            go_wp2_with fail
            refine (I.wrow s3 x.length c3 x HS5'.out.W HS5'.out.laid HA3.out hrl hx (fun _ b o s e q => by
              have q1 := HGE3.out b o s e
              have q2 := hsz5 b q
              omega) (by omega)).mono ?_
            rintro y w6 ⟨rfl, Sw', k1, k2, k3⟩
            have HS6 := Lib.hid (HS5'.out.lays k1 k2 k3)
            clear k1 k2 k3
            go_wp2_with fail
            go_roundg (gk - 1)
            case measure => omega
            case rel => exact ⟨k + 1, Sr', Sw', u', _, by omega, by go_num, HV, HS6⟩
          have e2 : (pk == 2) = false := by simpa using q2
          by_cases q3 : pk = 3
          · have e3 : (pk == 3) = true := by simpa using q3
            clear q3
            have hv := first_flag HV.out hs3
            have HCR := Lib.hid (I.rflag HS.out.R HS.out.laid husz HV.out.2.1)
            generalize flagS u = u' at *
            generalize flagB u = x at *
            have HV := Lib.hid hv
            clear hv
            go_wp2_with fail
            refine HCR.out.mono ?_
            rintro y w5 ⟨rfl, Sr', k1, k2, k3⟩
            have HS5 := Lib.hid (HS.out.reads k1 k2 k3)
            clear k1 k2 k3
            have HS5' := HS5
            go_wp2_with fail
            refine (I.wflag x HS5'.out.W HS5'.out.laid (by omega)).mono ?_
            rintro y w6 ⟨rfl, Sw', k1, k2, k3⟩
            have HS6 := Lib.hid (HS5'.out.lays k1 k2 k3)
            clear k1 k2 k3
            go_wp2_with fail
            go_roundg (gk - 1)
            case measure => omega
            case rel => exact ⟨k + 1, Sr', Sw', u', _, by omega, by go_num, HV, HS6⟩
          have e3 : (pk == 3) = false := by simpa using q3
          clear q0 q1 q2 q3
          go_wp2_with fail
          go_roundg (gk - 1)
          case measure => omega
          case rel => exact ⟨k + 1, Sr, Sw, u, t, by omega, by go_num, Lib.hid HV.out.next, HS⟩
        · obtain rfl : k = len := by omega
          have HEN := Lib.hid (I.rend HS.out.R HS.out.laid husz)
          clear hlt
          go_wp2_with fail
          refine HEN.out.mono ?_
          rintro y w5 ⟨rfl, Sr5, k1, k2, k3⟩
          have HS5 := Lib.hid (HS.out.reads k1 k2 k3)
          clear k1 k2 k3 HEN
          by_cases qe : (endS u).e = 0
          · have hu0 : u.e = 0 := by
              unfold endS at qe
              split at qe
              · rename_i h; exact h.1
              · exact qe
            obtain ⟨q1, q2⟩ := end_least hu0 qe
            have ht : t = ⟨s, ⟨#[]⟩, 0⟩ := by
              obtain ⟨h1, h2, h3, h4⟩ := HV.out
              rcases h4 with ⟨_, h4⟩ | ⟨h4, _⟩
              · rw [h4]
                rw [h1] at q1
                have : u.pos.toNat = s.size := by omega
                rw [this]
                simp
              · exact absurd hu0 h4
            subst ht
            generalize endS u = u2 at *
            go_wp2_with fail
            refine (I.rdone HS5.out.R HS5.out.laid).mono ?_
            rintro y w6 ⟨v, rfl, he, hb⟩
            have HS6 := Lib.hid (HS5.out.later hb)
            have HE6 := Lib.hid he
            rw [qe] at HE6
            clear he hb
            go_wp2_with fail
            refine (HE6.out.code HS6.out.laid).mono ?_
            rintro y w7 ⟨rfl, hb⟩
            have HS7 := Lib.hid (HS6.out.later hb)
            clear hb
            go_wp2_with fail
            refine (I.rat HS7.out.R HS7.out.laid).mono ?_
            rintro y w8 ⟨rfl, hb⟩
            have HS8 := Lib.hid (HS7.out.later hb)
            clear hb
            go_wp2_with fail
            refine (I.wdone HS8.out.W HS8.out.laid (by simp only; omega)).mono ?_
            rintro y w9 ⟨v2, rfl, he, hb⟩
            obtain rfl : v2 = .nilIface := by
              rcases he with ⟨_, h⟩ | ⟨h, _⟩
              · exact h
              · exact absurd rfl h
            have HS9 := Lib.hid (HS8.out.later hb)
            clear he hb
            go_wp2_with fail
            refine (code_nil2 _).mono ?_
            rintro y w10 ⟨rfl, hw⟩
            obtain rfl := hw
            go_wp2_with fail
            refine (HA.out _ (HB2.out.trans (HS9.out.below.mono HB2.out.size))).mono ?_
            rintro y w11 ⟨rfl, hb⟩
            have HB11 := Lib.hid (HB2.out.trans ((HS9.out.below.trans (hb.mono HS9.out.below.size)).mono HB2.out.size))
            clear hb
            go_wp2_with fail
            go_ret
            exact ⟨rfl, HB11.out⟩
          · have hd := dead qe (p.n)
            have hds : (endS u).s.size ≤ 100000 := by
              have : (endS u).s = u.s := by unfold endS; split <;> first | exact movedS_s _ _ _ _ | rfl
              rw [this]; exact husz
            have hdp : 0 ≤ (endS u).pos := by
              have : (endS u).pos = u.pos := by unfold endS; split <;> first | rfl | (rw [movedS_pos _ _ _ _ (by decide)])
              rw [this]; exact HV.out.2.1
            obtain ⟨u2, hu2⟩ : ∃ u2, u2 = endS u := ⟨_, rfl⟩
            rw [← hu2] at HS5 qe hd hds hdp
            have e0 : (u2.e == 0) = false := by simpa using qe
            clear hu2
            go_wp2_with fail
            refine (I.rdone HS5.out.R HS5.out.laid).mono ?_
            rintro y w6 ⟨v, rfl, he, hb⟩
            have HS6 := Lib.hid (HS5.out.later hb)
            have HE6 := Lib.hid he
            clear he hb
            go_wp2_with fail
            refine (HE6.out.code HS6.out.laid).mono ?_
            rintro y w7 ⟨rfl, hb⟩
            have HS7 := Lib.hid (HS6.out.later hb)
            clear hb
            go_wp2_with fail
            refine (I.rat HS7.out.R HS7.out.laid).mono ?_
            rintro y w8 ⟨rfl, hb⟩
            have HS8 := Lib.hid (HS7.out.later hb)
            clear hb
            go_wp2_with fail
            refine (I.wdone HS8.out.W HS8.out.laid (by omega)).mono ?_
            rintro y w9 ⟨v2, rfl, _, hb⟩
            have HS9 := Lib.hid (HS8.out.later hb)
            clear hb HS5 HS6 HS7 HS8 HE6
            have HPP := Lib.hid (show ∀ W, RowKit.Below w2.heap.size w2 W → W.cell? ⟨w.heap.size, 1, none⟩ = some (.int .i64 p.n) from fun W h => (pc4_of ((h.block _ (lt_of_block HP2.out)).trans HP2.out)).2.1)
            have x := HPP.out _ HS9.out.below
            obtain ⟨d1', d2', d3', d4', d5', d6', d7', d8', d9'⟩ := hd
            go_wp2_with fail
            have hc := I.rnum p.n HS9.out.R HS9.out.laid hds
            rw [d1', d2'] at hc
            refine hc.mono ?_
            rintro y w10 ⟨rfl, S10, k1, k2, k3⟩
            have HS10 := Lib.hid (HS9.out.reads k1 k2 k3)
            clear k1 k2 k3 hc x
            have x := HPP.out _ HS10.out.below
            go_wp2_with fail
            have hc := I.rtext p.n HS10.out.R HS10.out.laid hds
            rw [d3', d4'] at hc
            refine hc.mono ?_
            rintro y w11 ⟨rfl, S11, k1, k2, k3⟩
            have HS11 := Lib.hid (HS10.out.reads k1 k2 k3)
            clear k1 k2 k3 hc x
            have x := HPP.out _ HS11.out.below
            go_wp2_with fail
            have hc := I.rrow p.n HS11.out.R HS11.out.laid hds
            rw [d5', d6'] at hc
            refine hc.mono ?_
            rintro y w12 ⟨v3, hv3, rfl, S12, k1, k2, k3⟩
            have HS12 := Lib.hid (HS11.out.reads k1 k2 k3)
            obtain ⟨s3, c3, hv3e, _, _, _⟩ := hv3.reads
            rw [List.length_nil] at hv3e
            subst hv3e
            clear k1 k2 k3 hc x hv3
            go_wp2_with fail
            have hc := I.rflag HS12.out.R HS12.out.laid hds hdp
            rw [d7', d8'] at hc
            refine hc.mono ?_
            rintro y w13 ⟨rfl, S13, k1, k2, k3⟩
            have HS13 := Lib.hid (HS12.out.reads k1 k2 k3)
            clear k1 k2 k3 hc
            go_wp2_with fail
            have hc := I.rend HS13.out.R HS13.out.laid hds
            rw [d9'] at hc
            refine hc.mono ?_
            rintro y w14 ⟨rfl, S14, k1, k2, k3⟩
            have HS14 := Lib.hid (HS13.out.reads k1 k2 k3)
            clear k1 k2 k3 hc
            go_wp2_with fail
            refine (I.rdone HS14.out.R HS14.out.laid).mono ?_
            rintro y w15 ⟨v4, rfl, he, hb⟩
            have HS15 := Lib.hid (HS14.out.later hb)
            have HE15 := Lib.hid he
            clear he hb
            go_wp2_with fail
            refine (HE15.out.code HS15.out.laid).mono ?_
            rintro y w16 ⟨rfl, hb⟩
            have HS16 := Lib.hid (HS15.out.later hb)
            clear hb
            go_wp2_with fail
            refine (I.rat HS16.out.R HS16.out.laid).mono ?_
            rintro y w17 ⟨rfl, hb⟩
            have HS17 := Lib.hid (HS16.out.later hb)
            clear hb
            go_wp2_with fail
            refine (HA.out _ (HB2.out.trans (HS17.out.below.mono HB2.out.size))).mono ?_
            rintro y w18 ⟨rfl, hb⟩
            have HB18 := Lib.hid (HB2.out.trans ((HS17.out.below.trans (hb.mono HS17.out.below.size)).mono HB2.out.size))
            clear hb
            go_wp2_with fail
            go_ret
            exact ⟨rfl, HB18.out⟩
    · have qp' : fewP [p] = false := by simpa using qp
      rw [qp'] at HF1
      clear qp qp'
      go_enter Tryd.func4, Tryd.ntmps4
      go_wp2_with fail
      have hb0 : RowKit.Below w.heap.size w (w.alloc (.cells #[.int .i64 p.k, .int .i64 p.n, .string p.s, .slice la p.l.length lc] 29)) := (Below.refl _ _).alloc (Nat.le_refl _) _
      refine (HF.out _ hb0).mono ?_
      rintro y w1 ⟨rfl, hb⟩
      have HP1 := Lib.hid (show w1.heap[w.heap.size]? = some (.cells #[.int .i64 p.k, .int .i64 p.n, .string p.s, .slice la p.l.length lc] 29 (0, 0)) from (hb.below.block _ (by simp)).trans (heap_alloc_new _ _))
      have HB1 := Lib.hid (hb0.trans (hb.below.mono (by simp)))
      clear hb hb0
      obtain ⟨x0, x1, x2, x3⟩ := pc4_of HP1.out
      simp only [Nat.zero_add] at x1 x2 x3
      go_wp2_with fail
      refine (HF1.out _ HB1.out).mono ?_
      rintro y w2 ⟨rfl, hb⟩
      have hb2 : RowKit.Below w1.heap.size w1 w2 := ((Below.refl _ _).alloc (Nat.le_refl _) _).trans (hb.below.mono (by simp))
      have HB2 := Lib.hid (HB1.out.trans (hb2.mono HB1.out.size))
      clear hb hb2 x0 x1 x2 x3 HP1 HB1
      go_wp2_with fail
      refine (HA.out _ HB2.out).mono ?_
      rintro y w3 ⟨rfl, hb⟩
      have HB3 := Lib.hid (HB2.out.trans (hb.mono HB2.out.size))
      clear hb
      go_wp2_with fail
      go_ret
      exact ⟨rfl, HB3.out⟩
  · have q' : fewP ps = false := by simpa using q
    rw [q'] at HF
    clear q q' qs hm hsz
    go_enter Tryd.func4, Tryd.ntmps4
    go_wp2_with fail
    have hb0 : RowKit.Below w.heap.size w (w.alloc (.cells #[.int .i64 p.k, .int .i64 p.n, .string p.s, .slice la p.l.length lc] 29)) := (Below.refl _ _).alloc (Nat.le_refl _) _
    refine (HF.out _ hb0).mono ?_
    rintro y w1 ⟨rfl, hb⟩
    have HB1 := Lib.hid (hb0.trans (hb.below.mono (by simp)))
    clear hb hb0
    go_wp2_with fail
    refine (HA.out _ HB1.out).mono ?_
    rintro y w2 ⟨rfl, hb⟩
    have HB2 := Lib.hid (HB1.out.trans (hb.mono HB1.out.size))
    clear hb
    go_wp2_with fail
    go_ret
    exact ⟨rfl, HB2.out⟩
end Go.Proofs.YtegbldkkggpjcaaDoor
