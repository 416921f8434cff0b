/- The walk of the law IdentOrder, upon the probe and upon the library's own sort of a row. -/
import Derived.Test.YtcgnodkbmpkhkaaIdentTimes
import Derived.Test.YtcgnodkbmpkhkaaIdentLawS
import Derived.BigQuiet
namespace Go.Proofs.Ytcgnodkbmpkhkaa
open Go.RowKit Go.Sort

attribute [local go_sem ↓] Go.wp_at_zero Go.wp_at_succ

theorem order_long (sa : Option Addr) (len cap : Nat) (x y z : Int × Int) (w : World) (hm : 300 < len) :
    Calls Try.prog 6 #[.slice sa len cap, .agg #[.int .i64 x.1, .int .i64 x.2, .int .i64 y.1, .int .i64 y.2, .int .i64 z.1, .int .i64 z.2]] w fun e w' => e = .returned (.bool true) ∧ RowKit.Below w.heap.size w w' := by
  have hm3 : decide ((len : Int) > 300) = true := decide_eq_true (by omega)
  go_enter Try.func6, Try.ntmps6
  go_wp2_with fail
  refine (awake_any _).mono ?_; rintro e w1 ⟨rfl, hb⟩
  go_wp2_with fail
  go_ret
  exact ⟨rfl, ((Below.refl w.heap.size w).alloc (Nat.le_refl _) _).trans (hb.mono (by simp))⟩

/-- What lies in the call's own three variables. -/
structure Three (w wc : World) (x y z : Int × Int) (b5 b6 b7 : Nat) : Prop where
  x0 : wc.cell? ⟨b5, 0, none⟩ = some (.int .i64 x.1)
  x1 : wc.cell? ⟨b5, 1, none⟩ = some (.int .i64 x.2)
  y0 : wc.cell? ⟨b6, 0, none⟩ = some (.int .i64 y.1)
  y1 : wc.cell? ⟨b6, 1, none⟩ = some (.int .i64 y.2)
  z0 : wc.cell? ⟨b7, 0, none⟩ = some (.int .i64 z.1)
  z1 : wc.cell? ⟨b7, 1, none⟩ = some (.int .i64 z.2)
  below : RowKit.Below w.heap.size w wc
theorem Three.later {w wc w' : World} {x y z : Int × Int} {b5 b6 b7 : Nat} (h : Three w wc x y z b5 b6 b7) (hb : RowKit.Below wc.heap.size wc w') : Three w w' x y z b5 b6 b7 :=
  ⟨(hb.cell (World.block_lt_of_cell? _ _ h.x0)).trans h.x0, (hb.cell (World.block_lt_of_cell? _ _ h.x1)).trans h.x1, (hb.cell (World.block_lt_of_cell? _ _ h.y0)).trans h.y0, (hb.cell (World.block_lt_of_cell? _ _ h.y1)).trans h.y1,
    (hb.cell (World.block_lt_of_cell? _ _ h.z0)).trans h.z0, (hb.cell (World.block_lt_of_cell? _ _ h.z1)).trans h.z1, h.below.trans (hb.mono h.below.size)⟩

theorem Three.xzy {w wc : World} {x y z : Int × Int} {a b c : Nat} (h : Three w wc x y z a b c) : Three w wc x z y a c b := ⟨h.x0, h.x1, h.z0, h.z1, h.y0, h.y1, h.below⟩
theorem Three.yxz {w wc : World} {x y z : Int × Int} {a b c : Nat} (h : Three w wc x y z a b c) : Three w wc y x z b a c := ⟨h.y0, h.y1, h.x0, h.x1, h.z0, h.z1, h.below⟩
theorem less_other {x y : Int × Int} (q : x ≠ y) : (lessB x y = true ∧ lessB y x = false) ∨ (lessB x y = false ∧ lessB y x = true) := by
  cases h1 : lessB x y with
  | true =>
    left
    refine ⟨rfl, ?_⟩
    cases h2 : lessB y x with
    | false => rfl
    | true => have := lessB_swo.trans x y x h1 h2; rw [lessB_swo.irrefl] at this; exact this.symm
  | false =>
    right
    refine ⟨rfl, ?_⟩
    cases h2 : lessB y x with
    | true => rfl
    | false => exact absurd (lessB_one x y h1 h2) q
theorem wpList_append_att {ops : Array Oper} {rest : List Oper} {o : Oper} {a : Act} {w : World} {Q : Exit → Act → World → Prop} (hgd : o.guard = none) (s x : Operand)
    (ho : o.op = .call { callee := .builtin .append, args := #[s, x], argTypes := #[32, 32] })
    (base : Nat) (v : Value) (l1 : List (Int × Int)) (hs : a.eval s = v) (hown : OwnA w base v l1) (sa : Option Addr) (m c : Nat) (l2 : List (Int × Int)) (hx : a.eval x = .slice sa m c) (hr : ReadsA w sa m l2)
    (hm : l1.length + m ≤ 10000) (hbase : base ≤ w.heap.size)
    (h : ∀ v' w', OwnA w' base v' (l1 ++ l2) → w.grownBy w' v.ownBlock → RowKit.Below base w w' → wpList Try.prog ops Q rest (a.put o.dst v') w') : wpList Try.prog ops Q (o :: rest) a w := by
  refine wpList_plain hgd fun K hK => ?_
  obtain ⟨v', w', hrun, h1, h2, h3⟩ := run_append_own_att w 32 o.type Try.underlying32 base v l1 hown sa m c l2 hr hm hbase
  unfold Oper.wp execOp
  simp only [ho, resolve, invoke, builtin, Sem.run_bind, Sem.run_pure, Result.andThen_ok, List.map_toArray, List.map_cons, List.map_nil, hs, hx, hrun]
  exact hK _ _ (h v' w' h1 h2 h3)
theorem times_grown {W : World} {sa : Option Addr} {len : Nat} {zs : List (Int × Int)} (hr : ReadsA W sa len zs) (hm : len ≤ 1000) (cap : Nat) (x : Int × Int) (n : Nat) (os : Array Obj) :
    Calls Try.prog 25 #[.slice sa len cap, .agg #[.int .i64 x.1, .int .i64 x.2]] (grow (W.drewN n) os) fun e w' => e = .returned (.int .i64 (zs.count x : Nat)) ∧ ∃ q os', w' = grow ((grow (W.drewN n) os).drewN q) os' :=
  times_any sa len cap zs x _ hm (hr.later (Grew.below ⟨n, os, rfl⟩))
theorem asc_at {l : List (Int × Int)} (h : Asc l) (j i : Nat) (hj : j < i) (hi : i < l.length) : lessB (l.getD i (0, 0)) (l.getD j (0, 0)) = false := by
  have := List.pairwise_iff_getElem.1 h j i (by omega) hi hj
  simpa [List.getD, hi, (by omega : j < l.length)] using this
theorem less_grown (x y : Int × Int) (W : World) (n : Nat) (os : Array Obj) : Calls Try.prog 18 #[.agg #[.int .i64 x.1, .int .i64 x.2], .agg #[.int .i64 y.1, .int .i64 y.2]] (grow (W.drewN n) os) fun e w' => e = .returned (.bool (lessB x y)) ∧ ∃ q os', w' = grow ((grow (W.drewN n) os).drewN q) os' :=
  less_any x y _
theorem new_cells (W : World) (p : Int × Int) (n : Nat) (h : W.heap.size = n) : (W.alloc (.cells #[.int .i64 p.1, .int .i64 p.2] 34)).cell? ⟨n, 0, none⟩ = some (.int .i64 p.1) ∧ (W.alloc (.cells #[.int .i64 p.1, .int .i64 p.2] 34)).cell? ⟨n, 1, none⟩ = some (.int .i64 p.2) := by
  subst h; exact ⟨by simp, by simp⟩
theorem old_cell {W : World} {a : Addr} {v : Value} (o : Obj) (h : W.cell? a = some v) : (W.alloc o).cell? a = some v := (World.cell?_alloc_old _ _ _ (Nat.ne_of_lt (World.block_lt_of_cell? _ _ h))).trans h
theorem three_new (w : World) (o : Obj) (x y z : Int × Int) : Three w ((((w.alloc o).alloc (.cells #[.int .i64 x.1, .int .i64 x.2] 34)).alloc (.cells #[.int .i64 y.1, .int .i64 y.2] 34)).alloc (.cells #[.int .i64 z.1, .int .i64 z.2] 34)).drew x y z (w.heap.size + 1) (w.heap.size + 1 + 1) (w.heap.size + 1 + 1 + 1) := by
  have A := new_cells (w.alloc o) x (w.heap.size + 1) (by simp)
  have B := new_cells ((w.alloc o).alloc (.cells #[.int .i64 x.1, .int .i64 x.2] 34)) y (w.heap.size + 1 + 1) (by simp)
  have C := new_cells (((w.alloc o).alloc (.cells #[.int .i64 x.1, .int .i64 x.2] 34)).alloc (.cells #[.int .i64 y.1, .int .i64 y.2] 34)) z (w.heap.size + 1 + 1 + 1) (by simp)
  exact ⟨old_cell _ (old_cell _ A.1), old_cell _ (old_cell _ A.2), old_cell _ B.1, old_cell _ B.2, C.1, C.2, (((((Below.refl w.heap.size w).alloc (Nat.le_refl _) _).alloc (by simp) _).alloc (by simp; omega) _).alloc (by simp; omega) _).drew⟩

set_option maxRecDepth 100000 in
set_option maxHeartbeats 6400000 in
theorem order_walk (sa : Option Addr) (len cap : Nat) (zs : List (Int × Int)) (x y z : Int × Int) (w : World) (hm : len ≤ 300) (hn : sa = none → len = 0 ∧ cap = 0) (hr : ReadsA w sa len zs) :
    Calls Try.prog 6 #[.slice sa len cap, .agg #[.int .i64 x.1, .int .i64 x.2, .int .i64 y.1, .int .i64 y.2, .int .i64 z.1, .int .i64 z.2]] w fun e w' => e = .returned (.bool true) ∧ RowKit.Below w.heap.size w w' := by
  have hmix := mixed
  have HR := Lib.hid hr; clear hr
  have HN := Lib.hid hn; clear hn
  have hm3 : decide ((len : Int) > 300) = false := decide_eq_false (by omega)
  go_enter Try.func6, Try.ntmps6
  go_wp2_with fail
  go_cut [5, 6, 7] (fun v5 v6 v7 wc => ∃ b5 b6 b7 : Nat, v5 = .pointer (some ⟨b5, 0, none⟩) ∧ v6 = .pointer (some ⟨b6, 0, none⟩) ∧ v7 = .pointer (some ⟨b7, 0, none⟩) ∧ Hid (Three w wc x y z b5 b6 b7))
  case first =>
    go_region
    all_goals (go_wp2_with fail; go_meet)
    · exact ⟨_, _, _, rfl, rfl, rfl, Lib.hid (three_new w _ x y z)⟩
    · exact ⟨_, _, _, rfl, rfl, rfl, Lib.hid (three_new w _ x z y).xzy⟩
    · exact ⟨_, _, _, rfl, rfl, rfl, Lib.hid (three_new w _ y x z).yxz⟩
    · exact ⟨_, _, _, rfl, rfl, rfl, Lib.hid (three_new w _ y z x).xzy.yxz⟩
    · exact ⟨_, _, _, rfl, rfl, rfl, Lib.hid (three_new w _ z x y).yxz.xzy⟩
    · exact ⟨_, _, _, rfl, rfl, rfl, Lib.hid (three_new w _ z y x).yxz.xzy.yxz⟩
  case rest =>
  obtain ⟨b5, b6, b7, rfl, rfl, rfl, HT⟩ := hcut
  have hlx := less_grown x x
  have hxy := less_grown x y
  have hyx := less_grown y x
  have hyz := less_grown y z
  have hxz := less_grown x z
  rw [lessB_swo.irrefl] at hlx
  go_wp2_with fail
  go_cut [53] (fun v wx => v = .bool false ∧ Hid (Three w wx x y z b5 b6 b7))
  case first =>
    -- region 4
    by_cases q : x = y
    · subst q
      obtain ⟨x1, x2⟩ := x
      simp only at *
      have HLX := Lib.hid hlx
      clear hlx hxy hyx hyz hxz
      have g0 := cell_grown (World.block_lt_of_cell? _ _ HT.out.x0) HT.out.x0
      have g1 := cell_grown (World.block_lt_of_cell? _ _ HT.out.x1) HT.out.x1
      have g2 := cell_grown (World.block_lt_of_cell? _ _ HT.out.y0) HT.out.y0
      have g3 := cell_grown (World.block_lt_of_cell? _ _ HT.out.y1) HT.out.y1
      have g4 := cell_grown (World.block_lt_of_cell? _ _ HT.out.z0) HT.out.z0
      have g5 := cell_grown (World.block_lt_of_cell? _ _ HT.out.z1) HT.out.z1
      simp only at g0 g1 g2 g3
      refine wp_region_quiet_grown (by assumption) (by kernel_rfl) ?_
      repeat (go_big_quiet_step (first
        | (go_at_call 18; with_reducible refine Calls.grown_of (HLX.out _ _ _))))
      refine wpQuiet_nil ?_
      intro _ hw'
      obtain ⟨⟨nq, osq⟩, hw''⟩ := hw'
      subst hw''
      clear g0 g1 g2 g3 g4 g5
      go_wp2_with fail
      go_meet
      case rel => exact ⟨rfl, Lib.hid (HT.out.later (Grew.below ⟨nq, osq, rfl⟩))⟩
    · have ht : (lessB x y = true ∧ lessB y x = false) ∨ (lessB x y = false ∧ lessB y x = true) := less_other q
      have hq : x.1 ≠ y.1 ∨ (x.1 = y.1 ∧ x.2 ≠ y.2) := by
        by_cases h : x.1 = y.1
        · exact Or.inr ⟨h, fun h2 => q (Prod.ext h h2)⟩
        · exact Or.inl h
      clear q
      rcases ht with ⟨t1, t2⟩ | ⟨t1, t2⟩
      · rw [t1] at hxy
        rw [t2] at hyx
        cases t3 : lessB y z with
        | false =>
          rw [t3] at hyz
          have HLX := Lib.hid hlx
          have HXY := Lib.hid hxy
          have HYX := Lib.hid hyx
          have HYZ := Lib.hid hyz
          have HXZ := Lib.hid hxz
          clear hlx hxy hyx hyz hxz t1 t2 t3
          rcases hq with hq | ⟨hq1, hq⟩
          · obtain ⟨x1, x2⟩ := x
            obtain ⟨y1, y2⟩ := y
            simp only at *
            have e1 : (x1 == y1) = false := by simpa using hq
            clear hq
            have g0 := cell_grown (World.block_lt_of_cell? _ _ HT.out.x0) HT.out.x0
            have g1 := cell_grown (World.block_lt_of_cell? _ _ HT.out.x1) HT.out.x1
            have g2 := cell_grown (World.block_lt_of_cell? _ _ HT.out.y0) HT.out.y0
            have g3 := cell_grown (World.block_lt_of_cell? _ _ HT.out.y1) HT.out.y1
            have g4 := cell_grown (World.block_lt_of_cell? _ _ HT.out.z0) HT.out.z0
            have g5 := cell_grown (World.block_lt_of_cell? _ _ HT.out.z1) HT.out.z1
            simp only at g0 g1 g2 g3
            refine wp_region_quiet_grown (by assumption) (by kernel_rfl) ?_
            repeat (go_big_quiet_step (first
              | (go_at_call 18; with_reducible refine Calls.grown_of (HLX.out _ _ _))
              | (go_at_call 18; with_reducible refine Calls.grown_of (HXY.out _ _ _))
              | (go_at_call 18; with_reducible refine Calls.grown_of (HYX.out _ _ _))
              | (go_at_call 18; with_reducible refine Calls.grown_of (HYZ.out _ _ _))))
            refine wpQuiet_nil ?_
            intro _ hw'
            obtain ⟨⟨nq, osq⟩, hw''⟩ := hw'
            subst hw''
            clear g0 g1 g2 g3 g4 g5
            go_wp2_with fail
            go_meet
            case rel => exact ⟨rfl, Lib.hid (HT.out.later (Grew.below ⟨nq, osq, rfl⟩))⟩
          · obtain ⟨x1, x2⟩ := x
            obtain ⟨y1, y2⟩ := y
            simp only at *
            subst hq1
            have e1 : (x2 == y2) = false := by simpa using hq
            clear hq
            have g0 := cell_grown (World.block_lt_of_cell? _ _ HT.out.x0) HT.out.x0
            have g1 := cell_grown (World.block_lt_of_cell? _ _ HT.out.x1) HT.out.x1
            have g2 := cell_grown (World.block_lt_of_cell? _ _ HT.out.y0) HT.out.y0
            have g3 := cell_grown (World.block_lt_of_cell? _ _ HT.out.y1) HT.out.y1
            have g4 := cell_grown (World.block_lt_of_cell? _ _ HT.out.z0) HT.out.z0
            have g5 := cell_grown (World.block_lt_of_cell? _ _ HT.out.z1) HT.out.z1
            simp only at g0 g1 g2 g3
            refine wp_region_quiet_grown (by assumption) (by kernel_rfl) ?_
            repeat (go_big_quiet_step (first
              | (go_at_call 18; with_reducible refine Calls.grown_of (HLX.out _ _ _))
              | (go_at_call 18; with_reducible refine Calls.grown_of (HXY.out _ _ _))
              | (go_at_call 18; with_reducible refine Calls.grown_of (HYX.out _ _ _))
              | (go_at_call 18; with_reducible refine Calls.grown_of (HYZ.out _ _ _))))
            refine wpQuiet_nil ?_
            intro _ hw'
            obtain ⟨⟨nq, osq⟩, hw''⟩ := hw'
            subst hw''
            clear g0 g1 g2 g3 g4 g5
            go_wp2_with fail
            go_meet
            case rel => exact ⟨rfl, Lib.hid (HT.out.later (Grew.below ⟨nq, osq, rfl⟩))⟩
        | true =>
          rw [t3] at hyz
          rw [lessB_swo.trans _ _ _ t1 t3] at hxz
          have HLX := Lib.hid hlx
          have HXY := Lib.hid hxy
          have HYX := Lib.hid hyx
          have HYZ := Lib.hid hyz
          have HXZ := Lib.hid hxz
          clear hlx hxy hyx hyz hxz t1 t2 t3
          rcases hq with hq | ⟨hq1, hq⟩
          · obtain ⟨x1, x2⟩ := x
            obtain ⟨y1, y2⟩ := y
            simp only at *
            have e1 : (x1 == y1) = false := by simpa using hq
            clear hq
            have g0 := cell_grown (World.block_lt_of_cell? _ _ HT.out.x0) HT.out.x0
            have g1 := cell_grown (World.block_lt_of_cell? _ _ HT.out.x1) HT.out.x1
            have g2 := cell_grown (World.block_lt_of_cell? _ _ HT.out.y0) HT.out.y0
            have g3 := cell_grown (World.block_lt_of_cell? _ _ HT.out.y1) HT.out.y1
            have g4 := cell_grown (World.block_lt_of_cell? _ _ HT.out.z0) HT.out.z0
            have g5 := cell_grown (World.block_lt_of_cell? _ _ HT.out.z1) HT.out.z1
            simp only at g0 g1 g2 g3
            refine wp_region_quiet_grown (by assumption) (by kernel_rfl) ?_
            repeat (go_big_quiet_step (first
              | (go_at_call 18; with_reducible refine Calls.grown_of (HLX.out _ _ _))
              | (go_at_call 18; with_reducible refine Calls.grown_of (HXY.out _ _ _))
              | (go_at_call 18; with_reducible refine Calls.grown_of (HYX.out _ _ _))
              | (go_at_call 18; with_reducible refine Calls.grown_of (HYZ.out _ _ _))
              | (go_at_call 18; with_reducible refine Calls.grown_of (HXZ.out _ _ _))))
            refine wpQuiet_nil ?_
            intro _ hw'
            obtain ⟨⟨nq, osq⟩, hw''⟩ := hw'
            subst hw''
            clear g0 g1 g2 g3 g4 g5
            go_wp2_with fail
            go_meet
            case rel => exact ⟨rfl, Lib.hid (HT.out.later (Grew.below ⟨nq, osq, rfl⟩))⟩
          · obtain ⟨x1, x2⟩ := x
            obtain ⟨y1, y2⟩ := y
            simp only at *
            subst hq1
            have e1 : (x2 == y2) = false := by simpa using hq
            clear hq
            have g0 := cell_grown (World.block_lt_of_cell? _ _ HT.out.x0) HT.out.x0
            have g1 := cell_grown (World.block_lt_of_cell? _ _ HT.out.x1) HT.out.x1
            have g2 := cell_grown (World.block_lt_of_cell? _ _ HT.out.y0) HT.out.y0
            have g3 := cell_grown (World.block_lt_of_cell? _ _ HT.out.y1) HT.out.y1
            have g4 := cell_grown (World.block_lt_of_cell? _ _ HT.out.z0) HT.out.z0
            have g5 := cell_grown (World.block_lt_of_cell? _ _ HT.out.z1) HT.out.z1
            simp only at g0 g1 g2 g3
            refine wp_region_quiet_grown (by assumption) (by kernel_rfl) ?_
            repeat (go_big_quiet_step (first
              | (go_at_call 18; with_reducible refine Calls.grown_of (HLX.out _ _ _))
              | (go_at_call 18; with_reducible refine Calls.grown_of (HXY.out _ _ _))
              | (go_at_call 18; with_reducible refine Calls.grown_of (HYX.out _ _ _))
              | (go_at_call 18; with_reducible refine Calls.grown_of (HYZ.out _ _ _))
              | (go_at_call 18; with_reducible refine Calls.grown_of (HXZ.out _ _ _))))
            refine wpQuiet_nil ?_
            intro _ hw'
            obtain ⟨⟨nq, osq⟩, hw''⟩ := hw'
            subst hw''
            clear g0 g1 g2 g3 g4 g5
            go_wp2_with fail
            go_meet
            case rel => exact ⟨rfl, Lib.hid (HT.out.later (Grew.below ⟨nq, osq, rfl⟩))⟩
      · rw [t1] at hxy
        rw [t2] at hyx
        have HLX := Lib.hid hlx
        have HXY := Lib.hid hxy
        have HYX := Lib.hid hyx
        have HYZ := Lib.hid hyz
        have HXZ := Lib.hid hxz
        clear hlx hxy hyx hyz hxz t1 t2
        rcases hq with hq | ⟨hq1, hq⟩
        · obtain ⟨x1, x2⟩ := x
          obtain ⟨y1, y2⟩ := y
          simp only at *
          have e1 : (x1 == y1) = false := by simpa using hq
          clear hq
          have g0 := cell_grown (World.block_lt_of_cell? _ _ HT.out.x0) HT.out.x0
          have g1 := cell_grown (World.block_lt_of_cell? _ _ HT.out.x1) HT.out.x1
          have g2 := cell_grown (World.block_lt_of_cell? _ _ HT.out.y0) HT.out.y0
          have g3 := cell_grown (World.block_lt_of_cell? _ _ HT.out.y1) HT.out.y1
          have g4 := cell_grown (World.block_lt_of_cell? _ _ HT.out.z0) HT.out.z0
          have g5 := cell_grown (World.block_lt_of_cell? _ _ HT.out.z1) HT.out.z1
          simp only at g0 g1 g2 g3
          refine wp_region_quiet_grown (by assumption) (by kernel_rfl) ?_
          repeat (go_big_quiet_step (first
            | (go_at_call 18; with_reducible refine Calls.grown_of (HLX.out _ _ _))
            | (go_at_call 18; with_reducible refine Calls.grown_of (HXY.out _ _ _))
            | (go_at_call 18; with_reducible refine Calls.grown_of (HYX.out _ _ _))))
          refine wpQuiet_nil ?_
          intro _ hw'
          obtain ⟨⟨nq, osq⟩, hw''⟩ := hw'
          subst hw''
          clear g0 g1 g2 g3 g4 g5
          go_wp2_with fail
          go_meet
          case rel => exact ⟨rfl, Lib.hid (HT.out.later (Grew.below ⟨nq, osq, rfl⟩))⟩
        · obtain ⟨x1, x2⟩ := x
          obtain ⟨y1, y2⟩ := y
          simp only at *
          subst hq1
          have e1 : (x2 == y2) = false := by simpa using hq
          clear hq
          have g0 := cell_grown (World.block_lt_of_cell? _ _ HT.out.x0) HT.out.x0
          have g1 := cell_grown (World.block_lt_of_cell? _ _ HT.out.x1) HT.out.x1
          have g2 := cell_grown (World.block_lt_of_cell? _ _ HT.out.y0) HT.out.y0
          have g3 := cell_grown (World.block_lt_of_cell? _ _ HT.out.y1) HT.out.y1
          have g4 := cell_grown (World.block_lt_of_cell? _ _ HT.out.z0) HT.out.z0
          have g5 := cell_grown (World.block_lt_of_cell? _ _ HT.out.z1) HT.out.z1
          simp only at g0 g1 g2 g3
          refine wp_region_quiet_grown (by assumption) (by kernel_rfl) ?_
          repeat (go_big_quiet_step (first
            | (go_at_call 18; with_reducible refine Calls.grown_of (HLX.out _ _ _))
            | (go_at_call 18; with_reducible refine Calls.grown_of (HXY.out _ _ _))
            | (go_at_call 18; with_reducible refine Calls.grown_of (HYX.out _ _ _))))
          refine wpQuiet_nil ?_
          intro _ hw'
          obtain ⟨⟨nq, osq⟩, hw''⟩ := hw'
          subst hw''
          clear g0 g1 g2 g3 g4 g5
          go_wp2_with fail
          go_meet
          case rel => exact ⟨rfl, Lib.hid (HT.out.later (Grew.below ⟨nq, osq, rfl⟩))⟩
    -- behind region 4
  case rest =>
  obtain ⟨rfl, HT2⟩ := hcut
  clear HT hlx hxy hyx hyz hxz
  go_wp2_with (at_builtin; refine wpList_append_att rfl _ _ rfl w.heap.size _ [] rfl ?c0 sa len cap zs rfl ?c1 ?c2 ?c3 ?_)
  case c0 => exact own_made wc _ HT2.out.below.size
  case c1 => exact HR.out.later (HT2.out.below.alloc HT2.out.below.size _)
  case c2 => simp; omega
  case c3 => exact Nat.le_trans HT2.out.below.size (by simp)
  intro v1 w1 ho1 hg1 hb1
  obtain ⟨so, oc, rfl, hro⟩ := ho1.reads
  have hz := HR.out.1
  rw [← hz] at hro ⊢
  have HW := Lib.hid hro
  have HB1 := Lib.hid ((HT2.out.below.alloc HT2.out.below.size _).trans hb1)
  clear hg1 hb1 hro HT2 hz ho1
  go_wp2_with fail
  refine (sort_any sa len cap zs _ hm HN.out (HR.out.later HB1.out)).mono ?_; rintro e w2 ⟨sm, cm, rfl, hrm, hb2⟩
  have HB2 := Lib.hid (HB1.out.trans (hb2.mono HB1.out.size))
  have HM := Lib.hid hrm
  have HW2 := Lib.hid (HW.out.later hb2)
  clear hrm hb2
  go_wp2_with fail
  refine (same_yes sa so len cap oc zs _ (by omega) (HR.out.later HB2.out) HW2.out).mono ?_; rintro e w3 ⟨rfl, hg3⟩
  have e0 : ((len : Int) != (len : Int)) = false := by simp
  have HB3 := Lib.hid (HB2.out.trans (hg3.below.mono HB2.out.size))
  have HM3 := Lib.hid (HM.out.later hg3.below)
  clear hg3 HW HW2 HB1 HB2 HM
  go_wp2_with fail
  go_loopg [10] len (fun gg iv wr => ∃ i : Nat, i + gg = len ∧ iv = .int .i64 i ∧ Hid (RowKit.Below w3.heap.size w3 wr))
  case atStart => exact ⟨0, by omega, rfl, Lib.hid (Below.refl _ _)⟩
  case round =>
    obtain ⟨i, hgi, rfl, HB⟩ := hrel
    have HRl := Lib.hid ((HR.out.later HB3.out).later HB.out)
    have HMl := Lib.hid (HM3.out.later HB.out)
    by_cases hlt : i < len
    · obtain ⟨b, off, rfl, hc⟩ := HMl.out.2 (by omega)
      obtain ⟨x, hx⟩ : ∃ p, p = (sortL zs).getD i (0, 0) := ⟨_, rfl⟩
      obtain ⟨l0, l1⟩ := hc i hlt
      rw [← hx] at l0 l1
      have g0 := cell_grown (World.block_lt_of_cell? _ _ l0) l0
      have g1 := cell_grown (World.block_lt_of_cell? _ _ l1) l1
      have t1 := times_grown HMl.out (by omega) cm x
      have t2 := times_grown HRl.out (by omega) cap x
      rw [(sortL_perm zs).count_eq x] at t1
      generalize zs.count x = cnt at t1 t2
      have e1 : ((cnt : Int) != (cnt : Int)) = false := by simp
      have i1 : (0 : Int) ≤ (i : Int) := by omega
      have i2 : (i : Int) < (len : Int) := by omega
      have T1 := Lib.hid t1
      have T2 := Lib.hid t2
      clear t1 t2 l0 l1
      by_cases hi0 : i = 0
      · have h0 : ¬ 0 < i := by omega
        clear hc hx hi0
        go_wp2_with fail
        refine wp_region_quiet_grown (by assumption) (by kernel_rfl) ?_
        repeat (go_big_quiet_step (first
          | (go_at_call 25; with_reducible refine Calls.grown_of (T1.out _ _))
          | (go_at_call 25; with_reducible refine Calls.grown_of (T2.out _ _))))
        refine wpQuiet_nil ?_
        intro _ hw'
        obtain ⟨⟨nq, osq⟩, hw''⟩ := hw'
        subst hw''
        go_wp2_with fail
        go_roundg (gk - 1)
        case measure => omega
        case rel => exact ⟨i + 1, by omega, by go_num, Lib.hid (HB.out.trans ((Grew.below ⟨nq, osq, rfl⟩).mono HB.out.size))⟩
      · obtain ⟨l0, l1⟩ := hc (i - 1) (by omega)
        obtain ⟨y, hy⟩ : ∃ p, p = (sortL zs).getD (i - 1) (0, 0) := ⟨_, rfl⟩
        rw [← hy] at l0 l1
        have hl := less_grown x y
        rw [show lessB x y = false by rw [hx, hy]; exact asc_at (sortL_asc zs) (i - 1) i (by omega) (by rw [sortL_len, ← HR.out.1]; exact hlt)] at hl
        clear hc hx hy
        have g2 := cell_grown (World.block_lt_of_cell? _ _ l0) l0
        have g3 := cell_grown (World.block_lt_of_cell? _ _ l1) l1
        clear l0 l1
        have L := Lib.hid hl
        clear hl
        have i3 : (1 : Int) ≤ (i : Int) := by omega
        have i4 : (i : Int) ≤ (len : Int) := by omega
        have i5 : (0 : Int) < (i : Int) := by omega
        have i6 : 0 < i := by omega
        go_wp2_with fail
        refine wp_region_quiet_grown (by assumption) (by kernel_rfl) ?_
        repeat (go_big_quiet_step (first
          | (go_at_call 18; with_reducible refine Calls.grown_of (L.out _ _ _))
          | (go_at_call 25; with_reducible refine Calls.grown_of (T1.out _ _))
          | (go_at_call 25; with_reducible refine Calls.grown_of (T2.out _ _))))
        refine wpQuiet_nil ?_
        intro _ hw'
        obtain ⟨⟨nq, osq⟩, hw''⟩ := hw'
        subst hw''
        go_wp2_with fail
        go_roundg (gk - 1)
        case measure => omega
        case rel => exact ⟨i + 1, by omega, by go_num, Lib.hid (HB.out.trans ((Grew.below ⟨nq, osq, rfl⟩).mono HB.out.size))⟩
    · obtain rfl : i = len := by omega
      clear hlt HRl HMl
      go_wp2_with fail
      refine (awake_any _).mono ?_; rintro e w5 ⟨rfl, hb⟩
      have HB5 := Lib.hid (HB3.out.trans ((HB.out.trans (hb.mono HB.out.size)).mono HB3.out.size))
      clear hb
      go_wp2_with fail
      go_ret
      exact ⟨rfl, HB5.out⟩
end Go.Proofs.Ytcgnodkbmpkhkaa
