/- The walk of the law IdentSorts. -/
import Derived.Test.YtcgnodkbmpkhkaaIdentRSort2
namespace Go.Proofs.Ytcgnodkbmpkhkaa
open Go.RowKit Go.Sort

attribute [local go_sem ↓] Go.wp_at_zero Go.wp_at_succ

theorem ReadsA.plain {w : World} {ad : Addr} {len : Nat} {zs : List (Int × Int)} (h : ReadsA w (some ad) len zs) (h0 : 0 < len) : ∃ b off, ad = ⟨b, off, none⟩ := by
  obtain ⟨b, off, e, _⟩ := h.2 h0
  exact ⟨b, off, Option.some.inj e⟩
theorem clone_zero (ad : Addr) (cap : Nat) (w : World) :
    Calls Try.prog 28 #[.slice (some ad) 0 cap] w fun e w' => ∃ g cap', e = .returned (.slice (some ⟨g, 0, none⟩) 0 cap') ∧ w.heap.size ≤ g ∧ RowKit.Below w.heap.size w w' ∧ RowAt w' g #[] w' := by
  obtain ⟨i0, hi, hz0, hz1, hz2⟩ := info_parts infoAtt
  have hq := fun w => Lib.run_eql_slice_nil (P := Try.prog) w 32 34 (some ad) 0 cap 0 0 Try.underlying32
  go_enter Try.func28, Try.ntmps28
  go_wp2_with (at_builtin; refine wpList_append_own _ rfl _ _ 32 rfl w.heap.size 34 i0 (.agg #[.int .i64 0, .int .i64 0]) 2 16 Try.underlying32 hi hz0 hz1 hz2 rfl (by decide) _ 0 [] rfl ?c0 ad 0 cap (flat []) rfl ?c1 ?c2 ?c3 ?c4 ?c5 ?c6 ?_)
  case c0 => exact World.ownsRow_made w #[] 0 (Nat.le_refl _) (Nat.zero_le _) rfl
  case c1 => rfl
  case c2 => intro j u hj; simp [flat] at hj
  case c3 => exact flat_one []
  case c4 => unfold maxLen; omega
  case c5 => omega
  case c6 => simp
  intro v' w1 hown hgrow hnil
  have hb : RowKit.Below w.heap.size w w1 := ((RowKit.Below.refl w.heap.size w).alloc (Nat.le_refl _) _).grown hgrow (by simp) (fun k hk => by simp [Value.ownBlock] at hk; omega)
  have hform : ∃ g cap', v' = .slice (some ⟨g, 0, none⟩) 0 cap' ∧ w.heap.size ≤ g := by
    rcases hown.2 with ⟨e, _⟩ | ⟨g, cap', _, e, hg, _⟩
    · exact (hnil e).elim
    · exact ⟨g, cap', e, hg⟩
  obtain ⟨g, cap', rfl, hg⟩ := hform
  have hrow : RowAt w1 g ([] : List (Int × Int)).toArray w1 := rowAt_owns rfl hown
  clear hown hgrow hnil hq
  go_wp2
  go_ret
  exact ⟨g, cap', rfl, hg, hb, hrow⟩
theorem sort_zero (ad : Addr) (cap : Nat) (w : World) :
    Calls Try.prog 16 #[.slice (some ad) 0 cap] w fun e w' => ∃ sa' cap', e = .returned (.slice sa' 0 cap') ∧ ReadsA w' sa' 0 (sortL []) ∧ RowKit.Below w.heap.size w w' := by
  have HC := Lib.hid (clone_zero ad cap w)
  have HP := Lib.hid (fun w0 W b cap => sortFunc_any 0 (by omega) (pdq_ok 0 (by omega)) w0 W b cap #[] rfl)
  simp only [List.size_toArray] at HP
  go_enter Try.func16, Try.ntmps16
  go_wp2_with fail
  refine (HC.out).mono ?_; rintro e w1 ⟨g, cap1, rfl, hg, hb, hrow⟩
  go_wp2_with fail
  refine (HP.out w1 w1 g cap1 hrow).mono ?_; rintro e w2 ⟨rfl, d', hd, hrow2⟩
  go_wp2_with fail
  go_ret
  exact ⟨_, cap1, rfl, reads_zero (by simp [sortL]), hb.trans (hrow2.base.mono hg)⟩
theorem sort_any (sa : Option Addr) (len cap : Nat) (zs : List (Int × Int)) (w : World) (hm : len ≤ 300) (hn : sa = none → len = 0 ∧ cap = 0) (hr : ReadsA w sa len zs) :
    Calls Try.prog 16 #[.slice sa len cap] w fun e w' => ∃ sa' cap', e = .returned (.slice sa' len cap') ∧ ReadsA w' sa' len (sortL zs) ∧ RowKit.Below w.heap.size w w' := by
  cases sa with
  | none =>
    obtain ⟨rfl, rfl⟩ := hn rfl
    obtain rfl : zs = [] := List.length_eq_zero_iff.1 hr.1.symm
    exact (sort_none w).mono fun e w' ⟨h1, h2⟩ => ⟨none, 0, h1, reads_zero (by simp [sortL]), by subst h2; exact Below.refl _ _⟩
  | some ad =>
    by_cases h0 : len = 0
    · subst h0
      obtain rfl : zs = [] := List.length_eq_zero_iff.1 hr.1.symm
      exact sort_zero ad cap w
    · obtain ⟨b, off, rfl⟩ := hr.plain (by omega)
      exact sort_some b off len cap zs w (by omega) (pdq_ok len (by omega)) hr

theorem sorts_long (sa : Option Addr) (len cap : Nat) (x y : Int × Int) (w : World) (hm : 300 < len) :
    Calls Try.prog 4 #[.slice sa len cap, .agg #[.int .i64 x.1, .int .i64 x.2], .agg #[.int .i64 y.1, .int .i64 y.2]] w fun e w' => e = .returned (.bool true) ∧ RowKit.Below w.heap.size w w' := by
  have hm3 : decide ((len : Int) > 300) = true := decide_eq_true (by omega)
  go_enter Try.func4, Try.ntmps4
  go_wp2_with fail
  refine (awake_any _).mono ?_; rintro e w1 ⟨rfl, hb⟩
  go_wp2_with fail
  go_ret
  exact ⟨rfl, (((Below.refl w.heap.size w).alloc (Nat.le_refl _) _).alloc (by simp) _).trans (hb.mono (by simp; omega))⟩

set_option maxHeartbeats 4000000 in
theorem sorts_walk (sa : Option Addr) (len cap : Nat) (zs : List (Int × Int)) (x y : Int × Int) (w : World) (hm : len ≤ 300) (hn : sa = none → len = 0 ∧ cap = 0) (hr : ReadsA w sa len zs) :
    Calls Try.prog 4 #[.slice sa len cap, .agg #[.int .i64 x.1, .int .i64 x.2], .agg #[.int .i64 y.1, .int .i64 y.2]] w fun e w' => e = .returned (.bool true) ∧ RowKit.Below w.heap.size w w' := by
  have HR := Lib.hid hr; clear hr
  have HN := Lib.hid hn; clear hn
  have hm3 : decide ((len : Int) > 300) = false := decide_eq_false (by omega)
  go_enter Try.func4, Try.ntmps4
  go_wp2_with fail
  have hl1 := less_any x y
  have hl2 := rless_any x y
  simp only [attV] at hl1 hl2
  have HB0 : RowKit.Below w.heap.size w ((w.alloc (.cells #[.int .i64 x.1, .int .i64 x.2] 34)).alloc (.cells #[.int .i64 y.1, .int .i64 y.2] 34)) := ((Below.refl w.heap.size w).alloc (Nat.le_refl _) _).alloc (by simp) _
  have c0 : ((w.alloc (.cells #[.int .i64 x.1, .int .i64 x.2] 34)).alloc (.cells #[.int .i64 y.1, .int .i64 y.2] 34)).cell? ⟨w.heap.size, 0, none⟩ = some (.int .i64 x.1) := by simp
  have c1 : ((w.alloc (.cells #[.int .i64 x.1, .int .i64 x.2] 34)).alloc (.cells #[.int .i64 y.1, .int .i64 y.2] 34)).cell? ⟨w.heap.size, 1, none⟩ = some (.int .i64 x.2) := by simp
  have c2 : ((w.alloc (.cells #[.int .i64 x.1, .int .i64 x.2] 34)).alloc (.cells #[.int .i64 y.1, .int .i64 y.2] 34)).cell? ⟨w.heap.size + 1, 0, none⟩ = some (.int .i64 y.1) := by simp
  have c3 : ((w.alloc (.cells #[.int .i64 x.1, .int .i64 x.2] 34)).alloc (.cells #[.int .i64 y.1, .int .i64 y.2] 34)).cell? ⟨w.heap.size + 1, 1, none⟩ = some (.int .i64 y.2) := by simp
  generalize ((w.alloc (.cells #[.int .i64 x.1, .int .i64 x.2] 34)).alloc (.cells #[.int .i64 y.1, .int .i64 y.2] 34)) = W0 at *
  have HB := Lib.hid HB0; clear HB0
  have KR := Lib.hid (fun (W' : World) (hB : RowKit.Below W0.heap.size W0 W') => (⟨(hB.cell (World.block_lt_of_cell? _ _ c0)).trans c0, (hB.cell (World.block_lt_of_cell? _ _ c1)).trans c1, (hB.cell (World.block_lt_of_cell? _ _ c2)).trans c2, (hB.cell (World.block_lt_of_cell? _ _ c3)).trans c3, Lib.hid hB⟩ : W'.cell? ⟨w.heap.size, 0, none⟩ = some (.int .i64 x.1) ∧ W'.cell? ⟨w.heap.size, 1, none⟩ = some (.int .i64 x.2) ∧ W'.cell? ⟨w.heap.size + 1, 0, none⟩ = some (.int .i64 y.1) ∧ W'.cell? ⟨w.heap.size + 1, 1, none⟩ = some (.int .i64 y.2) ∧ Hid (RowKit.Below W0.heap.size W0 W')))
  clear c0 c1 c2 c3
  have HL1 := Lib.hid hl1
  have HL2 := Lib.hid hl2
  clear hl1 hl2
  go_region_held3 (fun w' => w'.cell? ⟨w.heap.size, 0, none⟩ = some (.int .i64 x.1) ∧ w'.cell? ⟨w.heap.size, 1, none⟩ = some (.int .i64 x.2) ∧ w'.cell? ⟨w.heap.size + 1, 0, none⟩ = some (.int .i64 y.1) ∧ w'.cell? ⟨w.heap.size + 1, 1, none⟩ = some (.int .i64 y.2) ∧ Hid (RowKit.Below W0.heap.size W0 w'))
    (first
      | exact KR.out _ (Below.refl _ _).drew
      | (go_split_ands; exact KR.out _ ((Hid.out (p := RowKit.Below W0.heap.size W0 _) (by assumption)).trans (hb.mono (Hid.out (p := RowKit.Below W0.heap.size W0 _) (by assumption)).size))))
    (first
      | (go_at_call 16; go_split_ands; refine (sort_any sa len cap zs _ hm HN.out ((HR.out.later HB.out).later (Hid.out (p := RowKit.Below W0.heap.size W0 _) (by assumption)))).mono ?_; rintro e w1 ⟨sa1, cap1, rfl, hr1, hb⟩)
      | (go_at_call 17; go_split_ands; refine (rsort_any sa len cap zs _ hm ((HR.out.later HB.out).later (Hid.out (p := RowKit.Below W0.heap.size W0 _) (by assumption)))).mono ?_; rintro e w2 ⟨sa2, cap2, rfl, hr2, hb⟩; have hr1b := hr1.later hb)
      | (go_at_call 15; go_split_ands; refine (same_yes _ _ len _ _ _ _ (by omega) hr1b hr2).mono ?_; rintro e w3 ⟨rfl, hg⟩; have hb := hg.below)
      | (go_at_call 18; go_split_ands; refine (HL1.out _).mono ?_; rintro e w4 ⟨rfl, hg⟩; have hb := hg.below)
      | (go_at_call 19; go_split_ands; refine (HL2.out _).mono ?_; rintro e w5 ⟨rfl, hg⟩; have hb := hg.below)
      | (go_at_call 14; go_split_ands; refine (awake_any _).mono ?_; rintro e w6 ⟨rfl, hb⟩))
  all_goals
    go_split_ands
    go_wp2_with fail
    go_ret
    exact ⟨rfl, HB.out.trans ((Hid.out (p := RowKit.Below W0.heap.size W0 _) (by assumption)).mono HB.out.size)⟩
end Go.Proofs.Ytcgnodkbmpkhkaa
