/- The law TextBack, upon Impl. -/
import Derived.Test.YtegbldkkggpjcaaGreatDoorTxtLawR
namespace Go.Proofs.YtegbldkkggpjcaaGreatDoor
open Go.RowKit Go.Sort

attribute [local go_sem ↓] Go.wp_at_zero Go.wp_at_succ

/-- What a law keeps of a reader. -/
structure RSt (I : Impl) (w wr : World) (S : Nat → Prop) (B : Nat) (a : InS) : Prop where
  R : I.R wr S B a
  ge : ∀ k, S k → w.heap.size ≤ k
  pos : 0 < w.heap.size
  laid : Laid wr
  below : RowKit.Below w.heap.size w wr
theorem RSt.later {I : Impl} {w wr w2 : World} {S : Nat → Prop} {B : Nat} {a : InS} (h : RSt I w wr S B a) (k : RowKit.Below wr.heap.size wr w2) : RSt I w w2 S B a :=
  ⟨I.rlater h.R k, h.ge, h.pos, h.laid.below k h.laid.pos, h.below.trans (k.mono h.below.size)⟩
theorem RSt.zero {I : Impl} {w wr : World} {S : Nat → Prop} {B : Nat} {a : InS} (h : RSt I w wr S B a) : ¬ S 0 := fun q => by have := h.ge 0 q; have := h.pos; omega
theorem RSt.moves {I : Impl} {w wr w2 : World} {S S' : Nat → Prop} {B : Nat} {a a' : InS} (h : RSt I w wr S B a) (k1 : I.R w2 S' B a') (k2 : Ext S S' wr) (k3 : Chg S wr w2) : RSt I w w2 S' B a' :=
  ⟨k1, k2.ge h.ge h.below.size, h.pos, k3.laid h.laid h.zero, h.below.trans (k3.below h.ge h.below.size)⟩

theorem back_0 {p : PcS} {s a b c q : ByteArray} (hk : p.k = 0) (he : errP p = 0) (hn : p.n ≤ 9223372036854775807) (hs : s = a ++ chunk p ++ b) (hc : c = a ++ chunk p) : numS ⟨s, (a.size : Nat), q, 0⟩ p.n = ⟨s, (c.size : Nat), q, 0⟩ ∧ numN ⟨s, (a.size : Nat), q, 0⟩ p.n = p.n := by
  have e : chunk p = bs (putZ p.n) := if_pos hk
  have h0 : 0 ≤ p.n := by
    unfold errP putE at he
    rw [if_pos hk] at he
    split at he
    · omega
    · omega
  rw [e] at hs hc
  subst hs hc
  have := num_back a b q p.n p.n h0 hn (Int.le_refl _)
  rw [ByteArray.size_append, bs_size]
  simpa using this
theorem back_1 {p : PcS} {s a b c q : ByteArray} (hk : p.k = 1) (_he : errP p = 0) (hn : p.s.size ≤ 100000) (hs : s = a ++ chunk p ++ b) (hc : c = a ++ chunk p) : textS ⟨s, (a.size : Nat), q, 0⟩ (p.s.size : Nat) = ⟨s, (c.size : Nat), q, 0⟩ ∧ textT ⟨s, (a.size : Nat), q, 0⟩ (p.s.size : Nat) = p.s := by
  have e : chunk p = bs (putZ p.s.size) ++ p.s := by unfold chunk; rw [if_neg (by omega), if_pos hk]
  have hs2 : s = a ++ bs (putZ p.s.size) ++ (p.s ++ b) := by rw [hs, e]; simp only [ByteArray.append_assoc]
  have hc2 : (c.size : Int) = (a.size : Int) + ((putZ p.s.size).length : Nat) + p.s.size := by
    rw [hc, e, ByteArray.size_append, ByteArray.size_append, bs_size]; omega
  rw [hs2, hc2]
  exact text_back a p.s b q p.s.size hn (Int.le_refl _)
theorem back_2 {p : PcS} {s a b c q : ByteArray} (hk : p.k = 2) (he : errP p = 0) (hn : p.l.length ≤ 1000 ∧ ∀ x ∈ p.l, x ≤ 9223372036854775807) (hs : s = a ++ chunk p ++ b) (hc : c = a ++ chunk p) : rowS ⟨s, (a.size : Nat), q, 0⟩ (p.l.length : Nat) = ⟨s, (c.size : Nat), q, 0⟩ ∧ rowI ⟨s, (a.size : Nat), q, 0⟩ (p.l.length : Nat) = p.l := by
  have hok : okL p.l = true := by
    unfold errP rowE at he
    rw [if_neg (by omega), if_pos hk] at he
    split at he
    · assumption
    · omega
  have e : chunk p = bs (rowP p.l) := by unfold chunk rowZ; rw [if_neg (by omega), if_neg (by omega), if_pos hk, if_pos hok]
  rw [e] at hs hc
  subst hs hc
  have := row_back a b q p.l hok hn.1 hn.2
  rw [ByteArray.size_append, bs_size]
  simpa using this
theorem back_3 {p : PcS} {s a b c q : ByteArray} (hk : p.k = 3) (_he : errP p = 0) (_hn : True) (hs : s = a ++ chunk p ++ b) (hc : c = a ++ chunk p) : flagS ⟨s, (a.size : Nat), q, 0⟩ = ⟨s, (c.size : Nat), q, 0⟩ ∧ flagB ⟨s, (a.size : Nat), q, 0⟩ = decide (0 < p.n) := by
  have e : chunk p = bitB (decide (0 < p.n)) := by unfold chunk; rw [if_neg (by omega), if_neg (by omega), if_neg (by omega), if_pos hk]
  have h1 : (bitB (decide (0 < p.n))).size = 1 := by cases decide (0 < p.n) <;> rfl
  rw [e] at hs hc
  subst hs hc
  have := flag_back a b q (decide (0 < p.n))
  rw [ByteArray.size_append, h1]
  simpa using this
theorem back_4 {p : PcS} {a c : ByteArray} (h0 : p.k ≠ 0) (h1 : p.k ≠ 1) (h2 : p.k ≠ 2) (h3 : p.k ≠ 3) (hc : c = a ++ chunk p) : c = a := by
  have e : chunk p = ⟨#[]⟩ := by unfold chunk; rw [if_neg h0, if_neg h1, if_neg h2, if_neg h3]
  rw [hc, e, empty_app]
theorem pc4_of {w : World} {B : Nat} {p : PcS} {la : Option Addr} {lc : Nat} (h : w.heap[B]? = some (.cells #[.int .i64 p.k, .int .i64 p.n, .string p.s, .slice la p.l.length lc] 33 (0, 0))) : PcAt4 w B 0 p la lc := by
  refine ⟨?_, ?_, ?_, ?_⟩ <;> simp [World.cell?, h]
theorem emptyB {s : ByteArray} (h : s ≠ ⟨#[]⟩) : s.toList.isEmpty = false := by
  rw [ByteArray.toList_eq]
  cases q : s.data.toList with
  | cons x t => rfl
  | nil =>
    refine absurd (ByteArray.ext ?_) h
    show s.data = #[]
    rw [← Array.toList_inj, q]
set_option maxRecDepth 20000 in
set_option maxHeartbeats 6400000 in
theorem back_law (I : Impl) (sa : Option Addr) (len cap : Nat) (ps : List PcS) (w : World) (hr : ReadsP w sa len ps) (hwf : WfP ps) (hm : len ≤ 9223372036854775807) (hg : Laid w) :
    Calls Tryz.prog 4 #[.slice sa len cap] w fun e w' => e = .returned (.bool true) ∧ RowKit.Below w.heap.size w w' := by
  have HF := Lib.hid (few_any sa len cap ps w hr hwf hm)
  have HA := Lib.hid (fun W (hb : RowKit.Below w.heap.size w W) => awake_any I W (hg.below hb hg.pos))
  have HG := Lib.hid hg
  have hpos := hg.pos
  have HR := Lib.hid hr
  have HWF := Lib.hid hwf
  by_cases q : fewP ps = true
  · have HP := Lib.hid (fun W (hb : RowKit.Below w.heap.size w W) => plays_any I sa len cap ps W (hr.later hb) hwf q (hg.below hb hg.pos))
    rw [q] at HF
    obtain ⟨hm1, hm2⟩ := fewP_yes q
    have HM2 := Lib.hid hm2
    have hlen : len ≤ 40 := by rw [HR.out.1]; exact hm1
    have hsz := layAll_size ps hm2 hwf hm1
    clear hr hwf hg q hm hm2
    by_cases qe : (layAll ps).s = ⟨#[]⟩
    · rw [qe] at HP
      clear qe
      go_enter Tryz.func4, Tryz.ntmps4
      go_wp2_with fail
      refine HF.out.mono ?_
      rintro y w1 ⟨rfl, hb⟩
      have HB1 := Lib.hid hb.below
      clear hb
      go_wp2_with fail
      refine (HP.out _ HB1.out).mono ?_
      rintro y w2 ⟨rfl, hb⟩
      have HB2 := Lib.hid (HB1.out.trans (hb.mono HB1.out.size))
      clear hb
      go_wp2_with fail
      refine (HA.out _ HB2.out).mono ?_
      rintro y w3 ⟨rfl, hb⟩
      have HB3 := Lib.hid (HB2.out.trans (hb.mono HB2.out.size))
      clear hb
      go_wp2_with fail
      go_ret
      exact ⟨rfl, HB3.out⟩
    · have hsay : (∀ p ∈ ps, errP p = 0) ∧ (layAll ps).s = chunks ps := by
        rcases layAll_says ps with h | h
        · exact ⟨h.2.1, h.2.2⟩
        · exact absurd h.2 qe
      obtain ⟨hsay1, hsay2⟩ := hsay
      rw [hsay2] at HP hsz qe
      have HC := Lib.hid (show ∀ k, k ≤ ps.length → ∃ b, chunks ps = chunks (ps.take k) ++ b from fun k _ => ⟨chunks (ps.drop k), by rw [← chunks_app, List.take_append_drop]⟩)
      obtain ⟨s, hs⟩ : ∃ s, s = chunks ps := ⟨_, rfl⟩
      rw [← hs] at HP hsz qe
      have hne : s.toList.isEmpty = false := emptyB qe
      have HS := Lib.hid hs
      have HSAY := Lib.hid hsay1
      clear hs hsay1 hsay2 qe
      go_enter Tryz.func4, Tryz.ntmps4
      go_wp2_with fail
      refine HF.out.mono ?_
      rintro y w1 ⟨rfl, hb⟩
      have HB1 := Lib.hid hb.below
      clear hb
      go_wp2_with fail
      refine (HP.out _ HB1.out).mono ?_
      rintro y w2 ⟨rfl, hb⟩
      have HB2 := Lib.hid (HB1.out.trans (hb.mono HB1.out.size))
      clear hb
      go_wp2_with fail
      refine (I.new s w2 (HG.out.below HB2.out hpos) (by omega)).mono ?_
      rintro y w3 ⟨B, S, rfl, k, hge, hb⟩
      have HST := Lib.hid (show RSt I w w3 S B ⟨s, 0, ⟨#[]⟩, 0⟩ from ⟨k, fun k q => Nat.le_trans HB2.out.size (hge k q), hpos, HG.out.below (HB2.out.trans (hb.mono HB2.out.size)) hpos, HB2.out.trans (hb.mono HB2.out.size)⟩)
      clear k hge hb HB1 HB2 HF HP
      go_wp2_with fail
      go_loopg [4, 6] len (fun gg ok i wr => ∃ (k : Nat) (S : Nat → Prop), k + gg = len ∧ ok = .bool true ∧ i = .int .i64 k ∧ Hid (RSt I w wr S B ⟨s, ((chunks (ps.take k)).size : Nat), ⟨#[]⟩, 0⟩))
      case atStart => exact ⟨0, S, by omega, rfl, rfl, HST⟩
      case round =>
        obtain ⟨k, S, hk, rfl, rfl, HR1⟩ := hrel
        by_cases hlt : k < len
        · have hkl : k < ps.length := by rw [← HR.out.1]; exact hlt
          obtain ⟨b, off, rfl, gw⟩ := HR.out.2 (by omega)
          obtain ⟨c0, c1, c2, la, lc, c3, hla⟩ := gw k hkl
          have HPC := Lib.hid ((show PcAt4 w b (off + k * 4) ps[k] la lc from ⟨c0, c1, c2, c3⟩).later HR1.out.below)
          have i1 : (0 : Int) ≤ (k : Int) := by omega
          have i2 : (k : Int) < (len : Int) := by omega
          obtain ⟨c0, c1, c2, c3⟩ := HPC.out
          -- loop
          have HSE := Lib.hid (HS.out.trans (chunks_at ps k hkl))
          have HCE := Lib.hid (chunks_next ps k hkl)
          have herr := HSAY.out _ (List.getElem_mem hkl)
          have hw := HWF.out _ (List.getElem_mem hkl)
          have hsm := HM2.out _ (List.getElem_mem hkl)
          have HLA := Lib.hid (show ∀ W, RowKit.Below w.heap.size w W → ReadsI W la ps[k].l.length ps[k].l from fun W h => (hla.later h).1)
          obtain ⟨c, hck⟩ : ∃ c, c = chunks (ps.take (k + 1)) := ⟨_, rfl⟩
          rw [← hck] at HCE
          have HCK := Lib.hid hck.symm
          clear hck
          generalize chunks (ps.take k) = a at *
          generalize chunks (ps.drop (k + 1)) = bb at *
          clear gw hla
          generalize ps[k] = p at *
          go_upto_block 2 with fail
          have HR2 := Lib.hid (HR1.out.later ((Below.refl _ _).alloc (Nat.le_refl _) (.cells #[.int .i64 p.k, .int .i64 p.n, .string p.s, .slice la p.l.length lc] 33)))
          have HP2 := Lib.hid (show (wr.alloc (.cells #[.int .i64 p.k, .int .i64 p.n, .string p.s, .slice la p.l.length lc] 33)).heap[wr.heap.size]? = some (.cells #[.int .i64 p.k, .int .i64 p.n, .string p.s, .slice la p.l.length lc] 33) from heap_alloc_new _ _)
          have HFP := Lib.hid (show ¬ S wr.heap.size from fun q => by have := (I.rold HR1.out.R).2 _ q; omega)
          have HP4 := Lib.hid (show PcAt4 (wr.alloc (.cells #[.int .i64 p.k, .int .i64 p.n, .string p.s, .slice la p.l.length lc] 33)) wr.heap.size 0 p la lc from pc4_of HP2.out)
          clear c0 c1 c2 c3 HPC HP2
          generalize wr.alloc (.cells #[.int .i64 p.k, .int .i64 p.n, .string p.s, .slice la p.l.length lc] 33) = W1 at *
          generalize wr.heap.size = Bp at *
          go_cut [4] (fun v4 wx => v4 = .bool true ∧ ∃ S', Hid (RSt I w wx S' B ⟨s, (c.size : Nat), ⟨#[]⟩, 0⟩))
          case first =>
            have z0 := HP4.out.1
            by_cases q0 : p.k = 0
            · have e0 : (p.k == 0) = true := by simpa using q0
              have hbk := back_0 (p := p) (s := s) (a := a) (b := bb) (c := c) (q := ⟨#[]⟩) q0 herr hw.1 HSE.out HCE.out
              clear q0
              have HRX := Lib.hid (show Calls Tryz.prog 10 #[.pointer (some ⟨B, 0, none⟩), .int .i64 p.n] W1.drew (Does I.R S B ⟨s, (c.size : Nat), ⟨#[]⟩, 0⟩ (.int .i64 p.n) W1.drew) from by
                have h := I.rnum p.n (HR2.out.later (Below.refl _ _).drew).R (HR2.out.later (Below.refl _ _).drew).laid (show s.size ≤ 100000 by omega)
                rw [hbk.1, hbk.2] at h
                exact h)
              have x : W1.cell? ⟨Bp, 1, none⟩ = some (.int .i64 p.n) := HP4.out.2.1
              go_wp2_with fail
              go_region_held3 (fun w' => w'.cell? ⟨Bp, 1, none⟩ = some (.int .i64 p.n))
                (first | exact x)
                (first | (go_at_call 10; refine HRX.out.mono ?_; rintro y w3 ⟨rfl, S', k1, k2, k3⟩; have HR3 := Lib.hid ((HR2.out.later (Below.refl _ _).drew).moves k1 k2 k3); have x : w3.cell? ⟨Bp, 1, none⟩ = some (.int .i64 p.n) := k3.cell x HFP.out;  clear k1 k2 k3))
              go_wp2_with fail
              go_meet
              case rel => exact ⟨rfl, S', HR3⟩
            have e0 : (p.k == 0) = false := by simpa using q0
            by_cases q1 : p.k = 1
            · have e1 : (p.k == 1) = true := by simpa using q1
              have hbk := back_1 (p := p) (s := s) (a := a) (b := bb) (c := c) (q := ⟨#[]⟩) q1 herr (by omega) HSE.out HCE.out
              clear q1
              have HRX := Lib.hid (show Calls Tryz.prog 11 #[.pointer (some ⟨B, 0, none⟩), .int .i64 (p.s.size : Nat)] W1.drew (Does I.R S B ⟨s, (c.size : Nat), ⟨#[]⟩, 0⟩ (.string p.s) W1.drew) from by
                have h := I.rtext (p.s.size : Nat) (HR2.out.later (Below.refl _ _).drew).R (HR2.out.later (Below.refl _ _).drew).laid (show s.size ≤ 100000 by omega)
                rw [hbk.1, hbk.2] at h
                exact h)
              have x : W1.cell? ⟨Bp, 2, none⟩ = some (.string p.s) := HP4.out.2.2.1
              go_wp2_with fail
              go_region_held3 (fun w' => w'.cell? ⟨Bp, 2, none⟩ = some (.string p.s))
                (first | exact x)
                (first | (go_at_call 11; refine HRX.out.mono ?_; rintro y w3 ⟨rfl, S', k1, k2, k3⟩; have HR3 := Lib.hid ((HR2.out.later (Below.refl _ _).drew).moves k1 k2 k3); have x : w3.cell? ⟨Bp, 2, none⟩ = some (.string p.s) := k3.cell x HFP.out;  clear k1 k2 k3))
              go_wp2_with fail
              go_meet
              case rel => exact ⟨rfl, S', HR3⟩
            have e1 : (p.k == 1) = false := by simpa using q1
            by_cases q2 : p.k = 2
            · have e2 : (p.k == 2) = true := by simpa using q2
              have hbk := back_2 (p := p) (s := s) (a := a) (b := bb) (c := c) (q := ⟨#[]⟩) q2 herr ⟨by omega, hw.2.2.2⟩ HSE.out HCE.out
              clear q2
              have HRX := Lib.hid (show Calls Tryz.prog 13 #[.pointer (some ⟨B, 0, none⟩), .int .i64 (p.l.length : Nat)] W1.drew (fun e w' => ∃ v, OwnI w' W1.drew.heap.size v p.l ∧ Does I.R S B ⟨s, (c.size : Nat), ⟨#[]⟩, 0⟩ v W1.drew e w') from by
                have h := I.rrow (p.l.length : Nat) (HR2.out.later (Below.refl _ _).drew).R (HR2.out.later (Below.refl _ _).drew).laid (show s.size ≤ 100000 by omega)
                rw [hbk.1, hbk.2] at h
                exact h)
              have x : W1.cell? ⟨Bp, 3, none⟩ = some (.slice la p.l.length lc) := HP4.out.2.2.2
              go_wp2_with fail
              go_region_held3 (fun w' => w'.cell? ⟨Bp, 3, none⟩ = some (.slice la p.l.length lc))
                (first | exact x)
                (first | (go_at_call 13; refine HRX.out.mono ?_; rintro y w3 ⟨v3, hv3, rfl, S', k1, k2, k3⟩; have HR3 := Lib.hid ((HR2.out.later (Below.refl _ _).drew).moves k1 k2 k3); have x : w3.cell? ⟨Bp, 3, none⟩ = some (.slice la p.l.length lc) := k3.cell x HFP.out; obtain ⟨s3, c3, hv3e, _, _, hr3⟩ := hv3.reads; subst hv3e; have HV3 := Lib.hid hr3; clear hv3 hr3; clear k1 k2 k3) | (go_at_call 12; refine (same_ints s3 la p.l.length c3 lc p.l _ (by omega) HV3.out (HLA.out _ HR3.out.below)).mono ?_; rintro y w4 ⟨rfl, hg⟩; have HR4 := Lib.hid (HR3.out.later hg.below); have x : w4.cell? ⟨Bp, 3, none⟩ = some (.slice la p.l.length lc) := hg.below.cell (p := ⟨Bp, 3, none⟩) (World.block_lt_of_cell? _ _ x) |>.trans x; clear hg))
              go_wp2_with fail
              go_meet
              case rel => exact ⟨rfl, S', HR4⟩
            have e2 : (p.k == 2) = false := by simpa using q2
            by_cases q3 : p.k = 3
            · have e3 : (p.k == 3) = true := by simpa using q3
              have hbk := back_3 (p := p) (s := s) (a := a) (b := bb) (c := c) (q := ⟨#[]⟩) q3 herr trivial HSE.out HCE.out
              clear q3
              have HRX := Lib.hid (show Calls Tryz.prog 14 #[.pointer (some ⟨B, 0, none⟩)] W1.drew (Does I.R S B ⟨s, (c.size : Nat), ⟨#[]⟩, 0⟩ (.bool (decide (0 < p.n))) W1.drew) from by
                have h := I.rflag (HR2.out.later (Below.refl _ _).drew).R (HR2.out.later (Below.refl _ _).drew).laid (show s.size ≤ 100000 by omega) (Int.natCast_nonneg _)
                rw [hbk.1, hbk.2] at h
                exact h)
              have x : W1.cell? ⟨Bp, 1, none⟩ = some (.int .i64 p.n) := HP4.out.2.1
              go_wp2_with fail
              go_region_held3 (fun w' => w'.cell? ⟨Bp, 1, none⟩ = some (.int .i64 p.n))
                (first | exact x)
                (first | (go_at_call 14; refine HRX.out.mono ?_; rintro y w3 ⟨rfl, S', k1, k2, k3⟩; have HR3 := Lib.hid ((HR2.out.later (Below.refl _ _).drew).moves k1 k2 k3); have x : w3.cell? ⟨Bp, 1, none⟩ = some (.int .i64 p.n) := k3.cell x HFP.out;  clear k1 k2 k3))
              go_wp2_with fail
              go_meet
              case rel => exact ⟨rfl, S', HR3⟩
            have e3 : (p.k == 3) = false := by simpa using q3
            have hbk := back_4 (p := p) (a := a) (c := c) q0 q1 q2 q3 HCE.out
            subst hbk
            clear q0 q1 q2 q3
            go_wp2_with fail
            go_meet
            case rel => exact ⟨rfl, S, HR2⟩
          case rest =>
            obtain ⟨rfl, S2, HS2⟩ := hcut
            clear HP4
            go_wp2_with fail
            go_roundg (gk - 1)
            case measure => omega
            case rel => exact ⟨k + 1, S2, by omega, rfl, by go_num, Lib.hid (by rw [HCK.out]; exact HS2.out)⟩
        · obtain rfl : k = len := by omega
          have ht : ps.take k = ps := List.take_of_length_le (by rw [HR.out.1]; exact Nat.le_refl _)
          rw [ht, ← HS.out] at HR1
          have HEN := Lib.hid (show Calls Tryz.prog 15 #[.pointer (some ⟨B, 0, none⟩)] wr (Does I.R S B ⟨s, (s.size : Nat), ⟨#[]⟩, 0⟩ (.tuple #[]) wr) from by
            have h := I.rend HR1.out.R HR1.out.laid (show s.size ≤ 100000 by omega)
            rw [end_back] at h
            exact h)
          clear hlt ht
          go_wp2_with fail
          refine HEN.out.mono ?_
          rintro y w4 ⟨rfl, S', k1, k2, k3⟩
          have HR4 := Lib.hid (HR1.out.moves k1 k2 k3)
          clear k1 k2 k3 HEN
          go_wp2_with fail
          refine (I.rdone HR4.out.R HR4.out.laid).mono ?_
          rintro y w5 ⟨v, rfl, he, hb⟩
          obtain rfl : v = .nilIface := by
            rcases he with ⟨_, h⟩ | ⟨h, _⟩
            · exact h
            · exact absurd rfl h
          have HR5 := Lib.hid (HR4.out.later hb)
          clear he hb HR4
          go_wp2_with fail
          refine (code_nil2 _).mono ?_
          rintro y w6 ⟨rfl, hw⟩
          obtain rfl := hw
          go_wp2_with fail
          refine (I.rat HR5.out.R HR5.out.laid).mono ?_
          rintro y w7 ⟨rfl, hb⟩
          have HR7 := Lib.hid (HR5.out.later hb)
          clear hb HR5
          go_wp2_with fail
          refine (HA.out _ HR7.out.below).mono ?_
          rintro y w8 ⟨rfl, hb⟩
          have HB8 := Lib.hid (HR7.out.below.trans (hb.mono HR7.out.below.size))
          clear hb
          go_wp2_with fail
          go_ret
          exact ⟨rfl, HB8.out⟩
  · have q' : fewP ps = false := by simpa using q
    rw [q'] at HF
    clear hr hwf hg q q' hm
    go_enter Tryz.func4, Tryz.ntmps4
    go_wp2_with fail
    refine HF.out.mono ?_
    rintro y w1 ⟨rfl, hb⟩
    have HB1 := Lib.hid hb.below
    clear hb
    go_wp2_with fail
    refine (HA.out _ HB1.out).mono ?_
    rintro y w2 ⟨rfl, hb⟩
    have HB2 := Lib.hid (HB1.out.trans (hb.mono HB1.out.size))
    clear hb
    go_wp2_with fail
    go_ret
    exact ⟨rfl, HB2.out⟩
end Go.Proofs.YtegbldkkggpjcaaGreatDoor
