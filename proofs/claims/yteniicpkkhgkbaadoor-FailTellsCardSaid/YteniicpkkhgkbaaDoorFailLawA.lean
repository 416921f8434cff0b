/- The walk of the law FailTells. -/
import Derived.Test.YteniicpkkhgkbaaDoorFailEst
import Derived.Deep.DrawnRows
namespace Go.Proofs.YteniicpkkhgkbaaDoor
open Go.RowKit

attribute [local go_sem ↓] Go.wp_at_zero Go.wp_at_succ
theorem keepc {w w' : World} {a : Addr} {z : Value} (hb : RowKit.Below w.heap.size w w') (h : w.cell? a = some z) : w'.cell? a = some z :=
  (hb.cell (World.block_lt_of_cell? _ _ h)).trans h
theorem keepf {w w' : World} {a : Addr} {z : Value} (hb : RowKit.Below w.heap.size w w') (h : w.cell? a = some z) (hf : w.frozen? a = false) : w'.frozen? a = false :=
  (hb.frozen (World.block_lt_of_cell? _ _ h)).trans hf

/-- The document's error in the call's own variable (block g), beside the program's. -/
structure Pair (w0 w : World) (g : Nat) (v : Value) (l : List ByteArray) (c : Int) (sa : Option Addr) (cap : Nat) : Prop where
  est : Est w v l c
  c0 : w.cell? ⟨g, 0, none⟩ = some (.slice sa l.length cap)
  c1 : w.cell? ⟨g, 1, none⟩ = some (.int .i64 c)
  f0 : w.frozen? ⟨g, 0, none⟩ = false
  f1 : w.frozen? ⟨g, 1, none⟩ = false
  reads : ReadsS w (.slice sa l.length cap) l
  nil : l = [] → sa = none ∧ cap = 0
  lo : w0.heap.size ≤ g
  below : RowKit.Below w0.heap.size w0 w
  short : ∀ s ∈ l, s.size ≤ 100
theorem Pair.step {w0 w w' : World} {g : Nat} {v : Value} {l : List ByteArray} {c : Int} {sa : Option Addr} {cap : Nat} (h : Pair w0 w g v l c sa cap) (hb : RowKit.Below w.heap.size w w') : Pair w0 w' g v l c sa cap :=
  ⟨h.est.step hb, keepc hb h.c0, keepc hb h.c1, keepf hb h.c0 h.f0, keepf hb h.c1 h.f1, h.reads.later hb, h.nil, h.lo, h.below.trans (hb.mono h.below.size), h.short⟩

theorem Pair.stored {w0 wr w4 w5 : World} {g : Nat} {u v4 : Value} {lv : List ByteArray} {c : Int} {sv sa5 : Option Addr} {cv cap5 : Nat} {s : ByteArray} (h : Pair w0 wr g u lv c sv cv) (hg : 0 < g)
    (hb4 : RowKit.Below wr.drew.heap.size wr.drew w4) (he4 : Est w4 v4 (consC c s lv) c) (hb5 : RowKit.Below w4.heap.size w4 w5)
    (hu5 : ReadsS w5 (.slice sa5 (consC c s lv).length cap5) (consC c s lv)) (hn5 : consC c s lv = [] → sa5 = none ∧ cap5 = 0) (hs : s.size ≤ 100) :
    Pair w0 ((w5.setCell ⟨g, 0, none⟩ (.slice sa5 (consC c s lv).length cap5)).setCell ⟨g, 1, none⟩ (.int .i64 c)) g v4 (consC c s lv) c sa5 cap5 := by
  have hd : RowKit.Below wr.heap.size wr w5 := ((Below.refl _ _).drew.trans hb4).trans (hb5.mono hb4.size)
  have P5 := h.step hd
  have e5 := he4.step hb5
  have n0 : (⟨g, 1, none⟩ : Addr) ≠ ⟨g, 0, none⟩ := by simp
  have k0 : (w5.setCell ⟨g, 0, none⟩ (.slice sa5 (consC c s lv).length cap5)).cell? ⟨g, 0, none⟩ = some (.slice sa5 (consC c s lv).length cap5) := World.cell?_setCell_same _ _ _ P5.c0
  have k1 : (w5.setCell ⟨g, 0, none⟩ (.slice sa5 (consC c s lv).length cap5)).cell? ⟨g, 1, none⟩ = some (.int .i64 c) := (World.cell?_setCell_other _ _ _ _ n0.symm).trans P5.c1
  have q1 : ∀ x, Value.slice sv lv.length cv ≠ .string x := fun x e => by cases e
  have q2 : ∀ x, Value.slice sa5 (consC c s lv).length cap5 ≠ .string x := fun x e => by cases e
  have q3 : ∀ x, Value.int .i64 c ≠ .string x := fun x e => by cases e
  exact ⟨(e5.setCell P5.c0 q1 hg).setCell k0 q2 hg, (World.cell?_setCell_other _ _ _ _ n0).trans k0, World.cell?_setCell_same _ _ _ k1,
    by rw [World.frozen?_setCell, World.frozen?_setCell]; exact P5.f0, by rw [World.frozen?_setCell, World.frozen?_setCell]; exact P5.f1,
    (hu5.setCell P5.c0 q1).setCell k1 q3, hn5, h.lo, (P5.below.setCell (p := ⟨g, 0, none⟩) h.lo _).setCell (p := ⟨g, 1, none⟩) h.lo _,
    fun t ht => by
      rcases consC_mem ht with rfl | ht
      · exact hs
      · exact h.short t ht⟩

set_option maxRecDepth 100000 in
set_option maxHeartbeats 4000000 in
theorem tells_not (c : Int) (l : List ByteArray) (v : Value) (op : ByteArray) (w : World) (hg : Laid w) (hr : ReadsS w v l) (hl : l.length ≤ 9223372036854775807) (hsz : ∀ s ∈ l, s.size ≤ 9223372036854775807) (hop : op.size ≤ 9223372036854775807) (hf : fewB l = false ∨ 100 < op.size) :
    Calls Tryd.prog 3 #[.int .i64 c, v, .string op] w fun e w' => e = .returned (.bool true) ∧ RowKit.Below w.heap.size w w' := by
  have H := few_any l v w hr hl hsz
  by_cases hf' : fewB l = false
  · rw [hf'] at H
    have HF := Lib.hid H
    have HA := Lib.hid (awake_any w hg)
    clear H hg hr hsz hf hf'
    go_enter Tryd.func3, Tryd.ntmps3
    go_wp2_with (first | (go_at_call 7; refine (HF.out).mono ?_; rintro e w1 ⟨rfl, rfl⟩) | (go_at_call 8; refine (HA.out).mono ?_; rintro e w1 ⟨rfl, hb⟩))
    go_ret
    exact ⟨rfl, hb⟩
  · have hf2 : fewB l = true := by simpa using hf'
    have hop2 : 100 < op.size := by rcases hf with h | h; · exact absurd h hf'
                                    · exact h
    rw [hf2] at H
    have HF := Lib.hid H
    have HA := Lib.hid (awake_any w hg)
    clear H hg hr hsz hf hf' hf2
    go_enter Tryd.func3, Tryd.ntmps3
    go_wp2_with (first | (go_at_call 7; refine (HF.out).mono ?_; rintro e w1 ⟨rfl, rfl⟩) | (go_at_call 8; refine (HA.out).mono ?_; rintro e w1 ⟨rfl, hb⟩))
    go_ret
    exact ⟨rfl, hb⟩

set_option maxRecDepth 100000 in
set_option maxHeartbeats 40000000 in
theorem tells_few (c : Int) (hcm : c ≤ 9223372036854775807) (l : List ByteArray) (v : Value) (op : ByteArray) (w : World) (hg : Laid w) (hr : ReadsS w v l) (hf : fewB l = true) (hop : op.size ≤ 100) :
    Calls Tryd.prog 3 #[.int .i64 c, v, .string op] w fun e w' => e = .returned (.bool true) ∧ RowKit.Below w.heap.size w w' := by
  obtain ⟨hl, hs⟩ := fewB_yes hf
  have H := few_any l v w hr (by omega) (fun s h => by have := hs s h; omega)
  rw [hf] at H
  have HF := Lib.hid H
  have HR := Lib.hid hr
  have HG := Lib.hid hg
  have HS := Lib.hid hs
  have HM := Lib.hid hcm
  clear H hg hs hf hcm
  obtain ⟨sa, cap, b, off, rfl, hx⟩ := hr
  clear hx
  generalize hn : l.length = n at *
  have HN := Lib.hid hn
  clear hn
  go_enter Tryd.func3, Tryd.ntmps3
  go_wp2_with fail
  refine (HF.out).mono ?_; rintro e w1 ⟨rfl, rfl⟩
  go_wp2_with fail
  refine (newC op c _ HG.out).mono ?_; rintro e w2 ⟨v2, rfl, he, hb⟩
  have HE2 := Lib.hid he
  have HB2 := Lib.hid hb
  clear he hb
  go_wp2_with fail
  refine (rnewC op c _).mono ?_; rintro e w3 ⟨sa3, cap3, rfl, hu, hn3, hb⟩
  have HE3 := Lib.hid (HE2.out.step hb)
  have HB3 := Lib.hid (HB2.out.trans (hb.mono HB2.out.size))
  have HU3 := Lib.hid hu
  have HN3 := Lib.hid hn3
  clear hb hu hn3
  go_wp2_with fail
  have HP0 : Hid (Pair w (w3.alloc (.cells #[.slice sa3 (consC c op []).length cap3, .int .i64 c] 30)) w3.heap.size v2 (consC c op []) c sa3 cap3) := Lib.hid (by
    have hb : RowKit.Below w3.heap.size w3 (w3.alloc (.cells #[.slice sa3 (consC c op []).length cap3, .int .i64 c] 30)) := (Below.refl _ _).alloc (Nat.le_refl _) _
    exact ⟨HE3.out.step hb, by simp, by simp, by simp, by simp, HU3.out.later hb, HN3.out, HB3.out.size, HB3.out.trans (hb.mono HB3.out.size), fun s h => by
      rcases consC_mem h with rfl | h
      · exact hop
      · simp at h⟩)
  have hlen0 : (consC c op []).length ≤ 1 := consC_len c op []
  have HL0 := Lib.hid hlen0
  clear HE2 HB2 HE3 HB3 HU3 HN3 hlen0
  have hgs : w3.heap.size = w3.heap.size := rfl
  clear hgs
  generalize hWg : w3.alloc (.cells #[.slice sa3 (consC c op []).length cap3, .int .i64 c] 30) = W0 at *
  generalize w3.heap.size = g at *
  clear hWg
  generalize consC c op [] = l0 at *
  have e100 : decide (100 < (op.size : Int)) = false := by simp; omega
  simp only [e100]
  go_loopg [7, 9] n (fun k u i wr => ∃ (m : Nat) (lv : List ByteArray) (sv : Option Addr) (cv : Nat), m + k = n ∧ i = .int .i64 m ∧ lv.length ≤ m + 1 ∧ Hid (Pair w wr g u lv c sv cv))
  case atStart => exact ⟨0, l0, sa3, cap3, by omega, rfl, HL0.out, HP0⟩
  case round =>
    obtain ⟨m, lv, sv, cv, hk, rfl, hlv, HP⟩ := hrel
    clear HP0 HL0
    have hgp : 0 < g := Nat.lt_of_lt_of_le HG.out.pos HP.out.lo
    by_cases hlt : m < n
    · obtain ⟨b', off', cap', e, hcell⟩ := HR.out.cellAt HP.out.below (m := m) (by rw [HN.out]; exact hlt)
      rw [HN.out] at e
      simp only [Value.slice.injEq, true_and] at e
      obtain ⟨rfl, rfl⟩ := e
      have HSZ := Lib.hid (HS.out (l.getD m ByteArray.empty) (by simp [List.getD, (by rw [HN.out]; exact hlt : m < l.length)]))
      generalize l.getD m ByteArray.empty = s at *
      have i1 : (0 : Int) ≤ (m : Int) := by omega
      have i2 : (m : Int) < (n : Int) := by omega
      have c0 := HP.out.c0
      have c1 := HP.out.c1
      have f0 := HP.out.f0
      have f1 := HP.out.f1
      have HD : RowKit.Below wr.heap.size wr wr.drew := (Below.refl _ _).drew
      have HWr := Lib.hid ((HP.out.step HD).est.wrap s)
      have hlv2 : lv.length ≤ 1000 := by omega
      have HRW := Lib.hid (fun (W : World) (hb : RowKit.Below wr.drew.heap.size wr.drew W) => rwrapC ((HP.out.step HD).reads.later hb) HP.out.est.2 HP.out.nil hlv2 s)
      clear HD
      go_wp2_with fail
      go_region_with (first
        | (go_at_call 11; refine (HWr.out).mono ?_; rintro e w4 ⟨v4, rfl, he4, hb4⟩; have k0 := keepc hb4 c0; have k1 := keepc hb4 c1; have k2 := keepc hb4 hcell; have q0 := keepf hb4 c0 f0; have q1 := keepf hb4 c1 f1; have HE4 := Lib.hid he4; have HB4 := Lib.hid hb4; clear he4 hb4)
        | (go_at_call 12; refine (HRW.out _ HB4.out).mono ?_; rintro e w5 ⟨sa5, cap5, rfl, hu5, hn5, hb5⟩; have j0 := keepc hb5 k0; have j1 := keepc hb5 k1; have p0 := keepf hb5 k0 q0; have p1 := keepf hb5 k1 q1; have HU5 := Lib.hid hu5; have HN5 := Lib.hid hn5; have HB5 := Lib.hid hb5; clear hu5 hn5 hb5))
      all_goals
        go_wp2_with fail
        go_roundg (gk - 1)
        case measure => omega
        case rel => exact ⟨m + 1, consC c s lv, sa5, cap5, by omega, by go_num, by have := consC_len c s lv; omega, Lib.hid (HP.out.stored hgp HB4.out HE4.out HB5.out HU5.out HN5.out HSZ.out)⟩
    · obtain rfl : m = n := by omega
      have hnil := HP.out.est.isNil
      have hgd := HP.out.est.guard
      have hlv2 : lv.length ≤ 1000 := by omega
      have hs2 : ∀ s ∈ lv, s.size ≤ 1000 := fun s h => by have := HP.out.short s h; omega
      have HS2 := Lib.hid hs2
      have c0 := HP.out.c0
      have c1 := HP.out.c1
      have HPd : Hid (Pair w wr.drew g u7 lv c sv cv) := Lib.hid (HP.out.step (Below.refl _ _).drew)
      have HR0 := Lib.hid (fun (h : 0 < m) => HR.out.cellAt HP.out.below (m := 0) (by rw [HN.out]; exact h))
      clear hs2 hlv hk HR HS hlt
      by_cases h0 : 0 < m
      · obtain ⟨b', off', cap', e, hcell⟩ := HR0.out h0
        rw [HN.out] at e
        simp only [Value.slice.injEq, true_and] at e
        obtain ⟨rfl, rfl⟩ := e
        rw [Nat.add_zero] at hcell
        generalize l.getD 0 ByteArray.empty = x at *
        have i1 : (0 : Int) < (m : Int) := by omega
        clear HR0
        go_wp2_with fail
        go_region_held3 (fun w' => w'.cell? ⟨g, 0, none⟩ = some (.slice sv lv.length cv) ∧ w'.cell? ⟨g, 1, none⟩ = some (.int .i64 c) ∧ Hid (Pair w w' g u7 lv c sv cv))
          (first
            | exact ⟨c0, c1, HPd⟩
            | (go_split_ands; exact ⟨keepc hb (by assumption), keepc hb (by assumption), Lib.hid ((Hid.out (p := Pair w _ g u7 lv c sv cv) (by assumption)).step hb)⟩))
          (first
            | (go_at_call 13; go_split_ands; refine ((Hid.out (p := Pair w _ g u7 lv c sv cv) (by assumption)).est.code).mono ?_; rintro e w4 ⟨rfl, hb⟩)
            | (go_at_call 15; go_split_ands; refine ((Hid.out (p := Pair w _ g u7 lv c sv cv) (by assumption)).est.trace hlv2).mono ?_; rintro e w4 ⟨ut, rfl, hu, hb⟩)
            | (go_at_call 14; go_split_ands; refine (same_yes _ _ lv _ hu (Hid.out (p := Pair w _ g u7 lv c sv cv) (by assumption)).reads hlv2).mono ?_; rintro e w4 ⟨rfl, hb⟩)
            | (go_at_call 16; go_split_ands; refine ((Hid.out (p := Pair w _ g u7 lv c sv cv) (by assumption)).est.text HM.out hlv2 HS2.out).mono ?_; rintro e w4 ⟨rfl, hb⟩)
            | (go_at_call 17; go_split_ands; refine (rtextC (Hid.out (p := Pair w _ g u7 lv c sv cv) (by assumption)).reads HM.out hlv2 HS2.out).mono ?_; rintro e w4 ⟨rfl, hb⟩)
            | (go_at_call 18; go_split_ands; refine ((Hid.out (p := Pair w _ g u7 lv c sv cv) (by assumption)).est.deep hlv2).mono ?_; rintro e w4 ⟨rfl, hb⟩)
            | (go_at_call 19; go_split_ands; refine ((Hid.out (p := Pair w _ g u7 lv c sv cv) (by assumption)).est.at hlv2 _).mono ?_; rintro e w4 ⟨rfl, hb⟩)
            | (go_at_call 20; go_split_ands; refine (rat_any lv _ _ c _ (Hid.out (p := Pair w _ g u7 lv c sv cv) (by assumption)).reads hlv2).mono ?_; rintro e w4 ⟨rfl, hb⟩)
            | (go_at_call 8; go_split_ands; refine (awake_any _ (Hid.out (p := Pair w _ g u7 lv c sv cv) (by assumption)).est.1.1).mono ?_; rintro e w4 ⟨rfl, hb⟩))
        all_goals
          go_split_ands
          go_wp2_with fail
          go_ret
          exact ⟨rfl, (Hid.out (p := Pair w _ g u7 lv c sv cv) (by assumption)).below⟩
      · obtain rfl : m = 0 := by omega
        clear HR0 h0
        go_wp2_with fail
        go_region_held3 (fun w' => w'.cell? ⟨g, 0, none⟩ = some (.slice sv lv.length cv) ∧ w'.cell? ⟨g, 1, none⟩ = some (.int .i64 c) ∧ Hid (Pair w w' g u7 lv c sv cv))
          (first
            | exact ⟨c0, c1, HPd⟩
            | (go_split_ands; exact ⟨keepc hb (by assumption), keepc hb (by assumption), Lib.hid ((Hid.out (p := Pair w _ g u7 lv c sv cv) (by assumption)).step hb)⟩))
          (first
            | (go_at_call 13; go_split_ands; refine ((Hid.out (p := Pair w _ g u7 lv c sv cv) (by assumption)).est.code).mono ?_; rintro e w4 ⟨rfl, hb⟩)
            | (go_at_call 15; go_split_ands; refine ((Hid.out (p := Pair w _ g u7 lv c sv cv) (by assumption)).est.trace hlv2).mono ?_; rintro e w4 ⟨ut, rfl, hu, hb⟩)
            | (go_at_call 14; go_split_ands; refine (same_yes _ _ lv _ hu (Hid.out (p := Pair w _ g u7 lv c sv cv) (by assumption)).reads hlv2).mono ?_; rintro e w4 ⟨rfl, hb⟩)
            | (go_at_call 16; go_split_ands; refine ((Hid.out (p := Pair w _ g u7 lv c sv cv) (by assumption)).est.text HM.out hlv2 HS2.out).mono ?_; rintro e w4 ⟨rfl, hb⟩)
            | (go_at_call 17; go_split_ands; refine (rtextC (Hid.out (p := Pair w _ g u7 lv c sv cv) (by assumption)).reads HM.out hlv2 HS2.out).mono ?_; rintro e w4 ⟨rfl, hb⟩)
            | (go_at_call 18; go_split_ands; refine ((Hid.out (p := Pair w _ g u7 lv c sv cv) (by assumption)).est.deep hlv2).mono ?_; rintro e w4 ⟨rfl, hb⟩)
            | (go_at_call 19; go_split_ands; refine ((Hid.out (p := Pair w _ g u7 lv c sv cv) (by assumption)).est.at hlv2 _).mono ?_; rintro e w4 ⟨rfl, hb⟩)
            | (go_at_call 20; go_split_ands; refine (rat_any lv _ _ c _ (Hid.out (p := Pair w _ g u7 lv c sv cv) (by assumption)).reads hlv2).mono ?_; rintro e w4 ⟨rfl, hb⟩)
            | (go_at_call 8; go_split_ands; refine (awake_any _ (Hid.out (p := Pair w _ g u7 lv c sv cv) (by assumption)).est.1.1).mono ?_; rintro e w4 ⟨rfl, hb⟩))
        all_goals
          go_split_ands
          go_wp2_with fail
          go_ret
          exact ⟨rfl, (Hid.out (p := Pair w _ g u7 lv c sv cv) (by assumption)).below⟩
theorem tells_walk (c : Int) (hcm : c ≤ 9223372036854775807) (l : List ByteArray) (v : Value) (op : ByteArray) (w : World) (hg : Laid w) (hr : ReadsS w v l) (hl : l.length ≤ 9223372036854775807) (hsz : ∀ s ∈ l, s.size ≤ 9223372036854775807) (hop : op.size ≤ maxLen) :
    Calls Tryd.prog 3 #[.int .i64 c, v, .string op] w fun e w' => e = .returned (.bool true) ∧ RowKit.Below w.heap.size w w' := by
  unfold maxLen at hop
  by_cases hf : fewB l = true ∧ op.size ≤ 100
  · exact tells_few c hcm l v op w hg hr hf.1 hf.2
  · exact tells_not c l v op w hg hr hl hsz hop (by
      by_cases h : fewB l = true
      · right; have : ¬ op.size ≤ 100 := fun q => hf ⟨h, q⟩
        omega
      · left; simpa using h)
end Go.Proofs.YteniicpkkhgkbaaDoor
