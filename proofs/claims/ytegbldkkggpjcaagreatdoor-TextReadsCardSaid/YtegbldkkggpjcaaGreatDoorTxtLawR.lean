/- The law TextReads, upon Impl. -/
import Derived.Test.YtegbldkkggpjcaaGreatDoorTxtLaws
import Derived.Test.YtegbldkkggpjcaaGreatDoorTxtRdW
namespace Go.Proofs.YtegbldkkggpjcaaGreatDoor
open Go.RowKit Go.Sort

attribute [local go_sem ↓] Go.wp_at_zero Go.wp_at_succ

theorem getZ_nn (s : ByteArray) (a : Int) (h : 0 ≤ a) : 0 ≤ (getZ s a).1 ∧ 0 ≤ (getZ s a).2.1 := by
  unfold getZ
  split
  · exact ⟨by decide, by decide⟩
  · split
    · exact ⟨Int.natCast_nonneg _, by simp only; omega⟩
    · exact ⟨Int.le_refl 0, Int.le_refl 0⟩
theorem unrowZ_nn (s : ByteArray) (a most : Int) (h : 0 ≤ a) : 0 ≤ (unrowZ s a most).2.1 := by
  have := (getZ_nn s a h).2
  unfold unrowZ
  repeat' split
  all_goals first | decide | (simp only; omega)
theorem movedS_nn (u : InS) (p : ByteArray) (x e : Int) (h : 0 ≤ u.pos) (hx : 0 ≤ x) : 0 ≤ (movedS u p x e).pos := by unfold movedS; split <;> assumption
theorem readP_nn (u : InS) (p : PcS) (h : 0 ≤ u.pos) : 0 ≤ (readP u p).pos := by
  have h1 := getZ_nn u.s u.pos h
  have h2 := unrowZ_nn u.s u.pos p.n h
  unfold readP numS textS rowS flagS endS
  repeat' split
  all_goals first | exact h | exact movedS_nn _ _ _ _ h (by first | omega | exact h1.2 | exact h2)
def readAll (u : InS) (ps : List PcS) : InS := ps.foldl readP u
theorem readAll_take (u : InS) (ps : List PcS) (k : Nat) (h : k < ps.length) : readAll u (ps.take (k + 1)) = readP (readAll u (ps.take k)) ps[k] := by
  unfold readAll
  rw [List.take_add_one, List.foldl_append]
  simp [h]
theorem readAll_s (ps : List PcS) : ∀ (u : InS), (readAll u ps).s = u.s := by
  induction ps with
  | nil => intro u; rfl
  | cons p ps ih => intro u; show (readAll (readP u p) ps).s = _; rw [ih, readP_s]
theorem readAll_nn (ps : List PcS) : ∀ (u : InS), 0 ≤ u.pos → 0 ≤ (readAll u ps).pos := by
  induction ps with
  | nil => intro u h; exact h
  | cons p ps ih => intro u h; exact ih _ (readP_nn u p h)

theorem InAt.chg {S : Nat → Prop} {w w' : World} {B : Nat} {t : InS} (h : InAt w B t) (k : Chg S w w') (hS : ¬ S B) : InAt w' B t := (k.block _ h.lt hS).trans h
/-- What the law keeps: the reader stands for a, its own variable for b. -/
structure RlSt (I : Impl) (w wr : World) (S : Nat → Prop) (B Bt : Nat) (a b : InS) : Prop where
  R : I.R wr S B a
  T : InAt wr Bt b
  far : ¬ S Bt
  ge : ∀ k, S k → w.heap.size ≤ k
  bt : w.heap.size ≤ Bt
  pos : 0 < w.heap.size
  laid : Laid wr
  below : RowKit.Below w.heap.size w wr
theorem RlSt.later {I : Impl} {w wr w2 : World} {S : Nat → Prop} {B Bt : Nat} {a b : InS} (h : RlSt I w wr S B Bt a b) (k : RowKit.Below wr.heap.size wr w2) : RlSt I w w2 S B Bt a b :=
  ⟨I.rlater h.R k, (k.block _ h.T.lt).trans h.T, h.far, h.ge, h.bt, h.pos, h.laid.below k h.laid.pos, h.below.trans (k.mono h.below.size)⟩
theorem RlSt.zero {I : Impl} {w wr : World} {S : Nat → Prop} {B Bt : Nat} {a b : InS} (h : RlSt I w wr S B Bt a b) : ¬ S 0 := fun q => by have := h.ge 0 q; have := h.pos; omega
theorem RlSt.moves {I : Impl} {w wr w2 : World} {S S' : Nat → Prop} {B Bt : Nat} {a b a' : InS} (h : RlSt I w wr S B Bt a b) (k1 : I.R w2 S' B a') (k2 : Ext S S' wr) (k3 : Chg S wr w2) : RlSt I w w2 S' B Bt a' b :=
  ⟨k1, (k3.block _ h.T.lt h.far).trans h.T, k2.not h.far h.T.lt, k2.ge h.ge h.below.size, h.bt, h.pos, k3.laid h.laid h.zero, h.below.trans (k3.below h.ge h.below.size)⟩
theorem RlSt.put {I : Impl} {w wr : World} {S : Nat → Prop} {B Bt : Nat} {a b z : InS} (h : RlSt I w wr S B Bt a b) (C : Nat) (hz : InAt wr C z) (hC : ¬ S C) (hw : w.heap.size ≤ C) (hne : C ≠ Bt) (u : InS) : RlSt I w (put4W wr C (.string u.s) (.int .i64 u.pos) (.string u.p) (.int .i64 u.e)) S B Bt a b ∧ InAt (put4W wr C (.string u.s) (.int .i64 u.pos) (.string u.p) (.int .i64 u.e)) C u := by
  have hp := h.pos
  have e : ∀ k, k ≠ C → (put4W wr C (.string u.s) (.int .i64 u.pos) (.string u.p) (.int .i64 u.e)).heap[k]? = wr.heap[k]? := fun k hk => put4_heap wr _ _ _ _ _ k hk
  have hb := put4_below h.below hw (.string u.s) (.int .i64 u.pos) (.string u.p) (.int .i64 u.e)
  have hT := hz.put u
  have hs := put4_size wr C (.string u.s) (.int .i64 u.pos) (.string u.p) (.int .i64 u.e)
  generalize put4W wr C (.string u.s) (.int .i64 u.pos) (.string u.p) (.int .i64 u.e) = W2 at *
  exact ⟨⟨I.rcells C _ h.R hz hC ⟨_, _, rfl⟩ _ e hs, (e _ (Ne.symm hne)).trans h.T, h.far, h.ge, h.bt, h.pos, (World.cell?_of_block (e 0 (by omega))).trans h.laid, hb⟩, hT⟩
theorem RlSt.own {I : Impl} {w wr : World} {S : Nat → Prop} {B Bt : Nat} {a b : InS} (h : RlSt I w wr S B Bt a b) (u : InS) : RlSt I w (put4W wr Bt (.string u.s) (.int .i64 u.pos) (.string u.p) (.int .i64 u.e)) S B Bt a u := by
  have hp := h.pos
  have hbt := h.bt
  have e : ∀ k, k ≠ Bt → (put4W wr Bt (.string u.s) (.int .i64 u.pos) (.string u.p) (.int .i64 u.e)).heap[k]? = wr.heap[k]? := fun k hk => put4_heap wr _ _ _ _ _ k hk
  have hb := put4_below h.below h.bt (.string u.s) (.int .i64 u.pos) (.string u.p) (.int .i64 u.e)
  have hT := h.T.put u
  have hs := put4_size wr Bt (.string u.s) (.int .i64 u.pos) (.string u.p) (.int .i64 u.e)
  generalize put4W wr Bt (.string u.s) (.int .i64 u.pos) (.string u.p) (.int .i64 u.e) = W2 at *
  exact ⟨I.rcells Bt _ h.R h.T h.far ⟨_, _, rfl⟩ _ e hs, hT, h.far, h.ge, h.bt, h.pos, (World.cell?_of_block (e 0 (by omega))).trans h.laid, hb⟩
/-- The cells of a piece, its row's address said. -/
def PcAt4 (w : World) (b o : Nat) (p : PcS) (la : Option Addr) (lc : Nat) : Prop :=
  w.cell? ⟨b, o, none⟩ = some (.int .i64 p.k) ∧ w.cell? ⟨b, o + 1, none⟩ = some (.int .i64 p.n) ∧ w.cell? ⟨b, o + 2, none⟩ = some (.string p.s) ∧ w.cell? ⟨b, o + 3, none⟩ = some (.slice la p.l.length lc)
theorem PcAt4.later {w w' : World} {b o : Nat} {p : PcS} {la : Option Addr} {lc : Nat} (h : PcAt4 w b o p la lc) (k : RowKit.Below w.heap.size w w') : PcAt4 w' b o p la lc := by
  obtain ⟨h0, h1, h2, h3⟩ := h
  have t : ∀ {j : Nat} {v : Value}, w.cell? ⟨b, j, none⟩ = some v → w'.cell? ⟨b, j, none⟩ = some v := fun {j v} h => (k.cell (p := ⟨b, j, none⟩) (World.block_lt_of_cell? _ _ h)).trans h
  exact ⟨t h0, t h1, t h2, t h3⟩
theorem cells8 {I : Impl} {w wr : World} {S : Nat → Prop} {B Bt : Nat} {a u : InS} {b o : Nat} {p : PcS} {la : Option Addr} {lc : Nat} (h : RlSt I w wr S B Bt a u) (k : PcAt4 w b o p la lc) :
    wr.cell? ⟨Bt, 0, none⟩ = some (.string u.s) ∧ wr.cell? ⟨Bt, 1, none⟩ = some (.int .i64 u.pos) ∧ wr.cell? ⟨Bt, 2, none⟩ = some (.string u.p) ∧ wr.cell? ⟨Bt, 3, none⟩ = some (.int .i64 u.e) ∧
    wr.cell? ⟨b, o, none⟩ = some (.int .i64 p.k) ∧ wr.cell? ⟨b, o + 1, none⟩ = some (.int .i64 p.n) ∧ wr.cell? ⟨b, o + 2, none⟩ = some (.string p.s) ∧ wr.cell? ⟨b, o + 3, none⟩ = some (.slice la p.l.length lc) :=
  ⟨h.T.four.c0, h.T.four.c1, h.T.four.c2, h.T.four.c3, k.later h.below⟩
theorem rdP_agg (I : Impl) {w : World} {S : Nat → Prop} {B : Nat} {u : InS} (p : PcS) (la : Option Addr) (lc : Nat) (hr : I.R w S B u) (hg : Laid w) (h0 : ¬ S 0) (hs : u.s.size ≤ 100000) (hp : 0 ≤ u.pos) :
    Calls Tryz.prog 8 #[.pointer (some ⟨B, 0, none⟩), .agg #[.string u.s, .int .i64 u.pos, .string u.p, .int .i64 u.e], .agg #[.int .i64 p.k, .int .i64 p.n, .string p.s, .slice la p.l.length lc]] w fun e w' => e = .returned (.tuple #[.agg #[.string (readP u p).s, .int .i64 (readP u p).pos, .string (readP u p).p, .int .i64 (readP u p).e], .bool true]) ∧ ∃ S', I.R w' S' B (readP u p) ∧ Ext S S' w ∧ Chg S w w' := rdP_any I p la lc hr hg h0 hs hp

set_option maxRecDepth 20000 in
set_option maxHeartbeats 3200000 in
theorem reads_law (I : Impl) (s : ByteArray) (sa : Option Addr) (len cap : Nat) (ps : List PcS) (w : World) (hr : ReadsP w sa len ps) (hwf : WfP ps) (hm : len ≤ 9223372036854775807) (hsz : s.size ≤ 9223372036854775807) (hg : Laid w) :
    Calls Tryz.prog 3 #[.string s, .slice sa len cap] w fun e w' => e = .returned (.bool true) ∧ RowKit.Below w.heap.size w w' := by
  have HF := Lib.hid (fun W (hb : RowKit.Below w.heap.size w W) => few_any sa len cap ps W (hr.later hb) hwf hm)
  have HA := Lib.hid (fun W (hb : RowKit.Below w.heap.size w W) => awake_any I W (hg.below hb hg.pos))
  have HG := Lib.hid hg
  have hpos := hg.pos
  have HR := Lib.hid hr
  have HWF := Lib.hid hwf
  clear hr hwf hg
  by_cases qs : 3000 < s.size
  · have d1 : decide ((s.size : Int) > 3000) = true := decide_eq_true (by omega)
    clear qs
    go_enter Tryz.func3, Tryz.ntmps3
    go_wp2_with fail
    refine (HA.out _ (Below.refl _ _)).mono ?_
    rintro y w2 ⟨rfl, hb⟩
    have HB2 := Lib.hid hb
    clear hb
    go_wp2_with fail
    go_ret
    exact ⟨rfl, HB2.out⟩
  have d1 : decide ((s.size : Int) > 3000) = false := decide_eq_false (by omega)
  by_cases q : fewP ps = true
  · rw [q] at HF
    obtain ⟨hm1, hm2⟩ := fewP_yes q
    have hlen : len ≤ 40 := by rw [HR.out.1]; exact hm1
    have hs2 : s.size ≤ 3000 := by omega
    clear q qs hm hm1 hm2 hsz
    go_enter Tryz.func3, Tryz.ntmps3
    go_wp2_with fail
    refine (HF.out _ (Below.refl _ _)).mono ?_
    rintro y w1 ⟨rfl, hb⟩
    have HB1 := Lib.hid hb.below
    clear hb
    go_wp2_with fail
    refine (I.new s w1 (HG.out.below HB1.out hpos) (by omega)).mono ?_
    rintro y w2 ⟨B, S, rfl, k, hge, hb⟩
    have HK := Lib.hid k
    have HGE := Lib.hid (show ∀ k, S k → w.heap.size ≤ k from fun k q => Nat.le_trans HB1.out.size (hge k q))
    have HB2 := Lib.hid (HB1.out.trans (hb.mono HB1.out.size))
    clear k hge hb
    go_wp2_with fail
    have HST := Lib.hid (show RlSt I w (w2.alloc (.cells #[.string s, .int .i64 0, .string ⟨#[]⟩, .int .i64 0] 28)) S B w2.heap.size ⟨s, 0, ⟨#[]⟩, 0⟩ ⟨s, 0, ⟨#[]⟩, 0⟩ from
      ⟨I.rlater HK.out ((Below.refl _ _).alloc (Nat.le_refl _) _), heap_alloc_new _ _, fun q => by have := (I.rold HK.out).2 _ q; omega, HGE.out, HB2.out.size, hpos, (HG.out.below HB2.out hpos).alloc _, HB2.out.alloc HB2.out.size _⟩)
    generalize w2.heap.size = Bt at *
    clear HK HGE HB1 HB2
    go_loopg [7] len (fun gg i wr => ∃ (k : Nat) (S : Nat → Prop) (u : InS), k + gg = len ∧ i = .int .i64 k ∧ Hid (u = readAll ⟨s, 0, ⟨#[]⟩, 0⟩ (ps.take k)) ∧ Hid (RlSt I w wr S B Bt u u))
    case atStart => exact ⟨0, S, _, by omega, rfl, Lib.hid rfl, HST⟩
    case round =>
      obtain ⟨k, S, u, hk, rfl, HU, HS⟩ := hrel
      by_cases hlt : k < len
      · have hkl : k < ps.length := by rw [← HR.out.1]; exact hlt
        obtain ⟨b, off, rfl, gw⟩ := HR.out.2 (by omega)
        obtain ⟨c0, c1, c2, la, lc, c3, _⟩ := gw k hkl
        have HPC := Lib.hid (show PcAt4 w b (off + k * 4) ps[k] la lc from ⟨c0, c1, c2, c3⟩)
        have HNX := Lib.hid (readAll_take ⟨s, 0, ⟨#[]⟩, 0⟩ ps k hkl)
        have hus : u.s = s := by rw [HU.out]; exact readAll_s _ _
        have hup : 0 ≤ u.pos := by rw [HU.out]; exact readAll_nn _ _ (Int.le_refl 0)
        rw [← HU.out] at HNX
        have hsz2 : u.s.size ≤ 100000 := by rw [hus]; omega
        clear gw c0 c1 c2 c3 hus
        generalize ps[k] = p at *
        have HRD := Lib.hid (show ∀ W, RlSt I w W S B Bt u u → _ from fun W h => rdP_agg I p la lc h.R h.laid h.zero hsz2 hup)
        have HSS := Lib.hid (HS.out.later (Below.refl _ _).drew)
        have HSA := Lib.hid (show RlSt I w (wr.alloc (.cells #[.string ⟨#[]⟩, .int .i64 0, .string ⟨#[]⟩, .int .i64 0] 28)).drew S B Bt u u from (HS.out.later ((Below.refl _ _).alloc (Nat.le_refl _) _)).later (Below.refl _ _).drew)
        have HZA := Lib.hid (show InAt (wr.alloc (.cells #[.string ⟨#[]⟩, .int .i64 0, .string ⟨#[]⟩, .int .i64 0] 28)).drew wr.heap.size ⟨⟨#[]⟩, 0, ⟨#[]⟩, 0⟩ from heap_alloc_new _ _)
        have HFA := Lib.hid (show ¬ S wr.heap.size from fun q => by have := (I.rold HS.out.R).2 _ q; omega)
        have n1 : Bt < wr.heap.size := HS.out.T.lt
        have n2 : w.heap.size ≤ wr.heap.size := HS.out.below.size
        have i1 : (0 : Int) ≤ (k : Int) := by omega
        have i2 : (k : Int) < (len : Int) := by omega
        have x := cells8 HS.out HPC.out
        obtain ⟨x0, x1, x2, x3, x4, x5, x6, x7⟩ := x
        go_upto_region 10 with fail
        go_cut [8, 9] (fun v8 v9 wx => ∃ (Bu : Nat) (S' : Nat → Prop), v8 = .pointer (some ⟨Bu, 0, none⟩) ∧ v9 = .bool true ∧ Bu ≠ Bt ∧ Hid (RlSt I w wx S' B Bt (readP u p) u) ∧ Hid (InAt wx Bu (readP u p)))
        case first =>
          go_region_held3 (fun w' => w'.cell? ⟨Bt, 0, none⟩ = some (.string u.s) ∧ w'.cell? ⟨Bt, 1, none⟩ = some (.int .i64 u.pos) ∧ w'.cell? ⟨Bt, 2, none⟩ = some (.string u.p) ∧ w'.cell? ⟨Bt, 3, none⟩ = some (.int .i64 u.e) ∧ w'.cell? ⟨b, off + k * 4, none⟩ = some (.int .i64 p.k) ∧ w'.cell? ⟨b, off + k * 4 + 1, none⟩ = some (.int .i64 p.n) ∧ w'.cell? ⟨b, off + k * 4 + 2, none⟩ = some (.string p.s) ∧ w'.cell? ⟨b, off + k * 4 + 3, none⟩ = some (.slice la p.l.length lc))
            (first | exact cells8 HSS.out HPC.out | exact cells8 HSA.out HPC.out | exact cells8 HFIN.out.1 HPC.out | exact cells8 (HSS.out.later ((Below.refl _ _).alloc (Nat.le_refl _) _)) HPC.out)
            (first | (go_at_call 8; with_reducible refine (HRD.out _ HSS.out).mono ?_; rintro y w3 ⟨rfl, S', k1, k2, k3⟩; have HSS := Lib.hid (HSS.out.moves k1 k2 k3); clear k1 k2 k3) | (go_at_call 8; with_reducible refine (HRD.out _ HSA.out).mono ?_; rintro y w3 ⟨rfl, S', k1, k2, k3⟩; have HSS := Lib.hid (HSA.out.moves k1 k2 k3); have HZ3 := Lib.hid (show InAt w3 wr.heap.size ⟨⟨#[]⟩, 0, ⟨#[]⟩, 0⟩ from HZA.out.chg k3 HFA.out); have HFIN := Lib.hid (HSS.out.put wr.heap.size HZ3.out (k2.not HFA.out HZA.out.lt) n2 (Nat.ne_of_gt n1) (readP u p)); have y0 := HZ3.out.four.c0; have y1 := HZ3.out.four.c1; have y2 := HZ3.out.four.c2; have y3 := HZ3.out.four.c3; have z0 := HZ3.out.four.f0; have z1 := HZ3.out.four.f1; have z2 := HZ3.out.four.f2; have z3 := HZ3.out.four.f3; clear k1 k2 k3))
          all_goals
            go_wp2_with fail
            go_meet
            case rel => first | exact ⟨_, S', rfl, rfl, Nat.ne_of_gt n1, Lib.hid HFIN.out.1, Lib.hid HFIN.out.2⟩ | exact ⟨_, S', rfl, rfl, Nat.ne_of_gt HSS.out.T.lt, Lib.hid (HSS.out.later ((Below.refl _ _).alloc (Nat.le_refl _) _)), Lib.hid (heap_alloc_new _ _)⟩
        case rest =>
          obtain ⟨Bu, S2, rfl, rfl, hne, HS2, HU2⟩ := hcut
          clear x0 x1 x2 x3 x4 x5 x6 x7
          have x0 := HU2.out.four.c0
          have x1 := HU2.out.four.c1
          have x2 := HU2.out.four.c2
          have x3 := HU2.out.four.c3
          have y0 := HS2.out.T.four.c0
          have y1 := HS2.out.T.four.c1
          have y2 := HS2.out.T.four.c2
          have y3 := HS2.out.T.four.c3
          have z0 := HS2.out.T.four.f0
          have z1 := HS2.out.T.four.f1
          have z2 := HS2.out.T.four.f2
          have z3 := HS2.out.T.four.f3
          go_wp2_with fail
          go_roundg (gk - 1)
          case measure => omega
          case rel => exact ⟨k + 1, S2, readP u p, by omega, by go_num, Lib.hid HNX.out.symm, Lib.hid (HS2.out.own (readP u p))⟩
      · obtain rfl : k = len := by omega
        clear hlt
        go_wp2_with fail
        refine (HA.out _ HS.out.below).mono ?_
        rintro y w4 ⟨rfl, hb⟩
        have HB4 := Lib.hid (HS.out.below.trans (hb.mono HS.out.below.size))
        clear hb
        go_wp2_with fail
        go_ret
        exact ⟨rfl, HB4.out⟩
  · have q' : fewP ps = false := by simpa using q
    rw [q'] at HF
    clear q q' qs hm hsz
    go_enter Tryz.func3, Tryz.ntmps3
    go_wp2_with fail
    refine (HF.out _ (Below.refl _ _)).mono ?_
    rintro y w1 ⟨rfl, hb⟩
    have HB1 := Lib.hid hb.below
    clear hb
    go_wp2_with fail
    refine (HA.out _ HB1.out).mono ?_
    rintro y w2 ⟨rfl, hb⟩
    have HB2 := Lib.hid (HB1.out.trans (hb.mono HB1.out.size))
    clear hb
    go_wp2_with fail
    go_ret
    exact ⟨rfl, HB2.out⟩
end Go.Proofs.YtegbldkkggpjcaaGreatDoor
