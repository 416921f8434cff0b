/- The contracts of slices.Clone at commands and of package ident's Sort, for as many commands as the library's own sort is known to put in order. -/
import Derived.Test.YtcgnodkbmpkhkaaIdentSmall
import Derived.Lib.SliceRun
namespace Go.Proofs.Ytcgnodkbmpkhkaa
open Go.RowKit Go.Sort

theorem infoAtt : (Try.prog.info? 34).map (fun i => (i.zero, i.size, i.bytes)) = some (some (.agg #[.int .i64 0, .int .i64 0]), 2, 16) := by kernel_rfl

theorem getBang (zs : List (Int × Int)) (i : Nat) (h : i < zs.length) : zs.toArray[i]! = zs.getD i (0, 0) := by
  simp [List.getD, h]

theorem flat_cells {w : World} {b off len : Nat} {zs : List (Int × Int)} (h : ReadsA w (some ⟨b, off, none⟩) len zs) (j : Nat) (u : Value) (hj : (flat zs)[j]? = some u) : w.cell? ⟨b, off + j, none⟩ = some u := by
  have hl := (List.getElem?_eq_some_iff.1 hj).1
  rw [flat_len] at hl
  have e := h.1
  obtain ⟨b', off', e1, g⟩ := h.2 (by omega)
  simp only [Option.some.injEq, Addr.mk.injEq] at e1
  obtain ⟨rfl, rfl, _⟩ := e1
  have f := flat_at zs (j / 2) (by omega)
  have c := g (j / 2) (by omega)
  by_cases q : j % 2 = 0
  · rw [show j / 2 * 2 = j by omega] at f c
    rw [f.1] at hj
    rw [c.1, hj]
  · have e2 : j / 2 * 2 + 1 = j := by omega
    have e3 : off + j / 2 * 2 + 1 = off + j := by omega
    rw [e2, hj] at f
    rw [e3] at c
    rw [c.2, f.2]
theorem flat_one (zs : List (Int × Int)) (u : Value) (h : u ∈ flat zs) : u.oneCell' = true := by
  simp only [flat, attV, List.mem_flatMap] at h
  obtain ⟨z, _, h⟩ := h
  simp at h
  rcases h with rfl | rfl <;> rfl
theorem rowAt_owns {w : World} {base g len cap : Nat} {zs : List (Int × Int)} (hz : len = zs.length) (h : w.ownsRow base 34 2 (.slice (some ⟨g, 0, none⟩) len cap) len (flat zs)) : RowAt w g zs.toArray w := by
  have hl := (World.ownsRow.lt h g rfl).2
  refine ⟨hl, RowKit.Below.refl _ _, fun i hi => ?_, fun i hi => ?_, fun i _ => World.ownsRow.frozenAt h _, fun i _ => World.ownsRow.frozenAt h _⟩
  · simp only [List.size_toArray] at hi
    rw [World.ownsRow.cellAt h _ (by omega), (flat_at zs i hi).1, getBang zs i hi]
  · simp only [List.size_toArray] at hi
    rw [World.ownsRow.cellAt h _ (by omega), (flat_at zs i hi).2, getBang zs i hi]

set_option maxHeartbeats 1000000 in
theorem clone_some (b off len cap : Nat) (zs : List (Int × Int)) (w : World) (hm : len ≤ 1000) (hr : ReadsA w (some ⟨b, off, none⟩) len zs) :
    Calls Try.prog 28 #[.slice (some ⟨b, off, none⟩) len cap] w fun e w' => ∃ g cap', e = .returned (.slice (some ⟨g, 0, none⟩) len cap') ∧ w.heap.size ≤ g ∧ RowKit.Below w.heap.size w w' ∧ RowAt w' g zs.toArray w' := by
  obtain ⟨i0, hi, hz0, hz1, hz2⟩ := info_parts infoAtt
  have HR := Lib.hid hr; clear hr
  have hq := fun w => Lib.run_eql_slice_nil (P := Try.prog) w 32 34 (some ⟨b, off, none⟩) len cap 0 0 Try.underlying32
  go_enter Try.func28, Try.ntmps28
  go_wp2_with (at_builtin; refine wpList_append_own _ rfl _ _ 32 rfl w.heap.size 34 i0 (.agg #[.int .i64 0, .int .i64 0]) 2 16 Try.underlying32 hi hz0 hz1 hz2 rfl (by decide) _ 0 [] rfl ?c0 ⟨b, off, none⟩ len cap (flat zs) rfl ?c1 ?c2 ?c3 ?c4 ?c5 ?c6 ?_)
  case c0 => exact World.ownsRow_made w #[] 0 (Nat.le_refl _) (Nat.zero_le _) rfl
  case c1 => rw [flat_len, HR.out.1]
  case c2 =>
    intro j u hj
    have h := flat_cells HR.out j u hj
    rw [show (⟨b, off, none⟩ : Addr).add j = ⟨b, off + j, none⟩ by unfold Addr.add; split <;> simp_all, World.cell?_alloc_old _ _ _ (Nat.ne_of_lt (World.block_lt_of_cell? _ _ h))]
    exact h
  case c3 => exact flat_one zs
  case c4 => unfold maxLen; omega
  case c5 => omega
  case c6 => simp
  intro v' w1 hown hgrow hnil
  have hb : RowKit.Below w.heap.size w w1 := ((RowKit.Below.refl w.heap.size w).alloc (Nat.le_refl _) _).grown hgrow (by simp) (fun k hk => by simp [Value.ownBlock] at hk; omega)
  have hform : ∃ g cap', v' = .slice (some ⟨g, 0, none⟩) len cap' ∧ w.heap.size ≤ g := by
    rcases hown.2 with ⟨e, _⟩ | ⟨g, cap', _, e, hg, _⟩
    · exact (hnil e).elim
    · exact ⟨g, cap', e, hg⟩
  obtain ⟨g, cap', rfl, hg⟩ := hform
  have hrow := rowAt_owns HR.out.1 hown
  clear hown hgrow hnil hq
  go_wp2
  go_ret
  exact ⟨g, cap', rfl, hg, hb, hrow⟩
theorem clone_none (w : World) : Calls Try.prog 28 #[.slice none 0 0] w fun e w' => e = .returned (.slice none 0 0) ∧ w = w' := by
  have hq := fun w => Lib.run_eql_slice_nil (P := Try.prog) w 32 34 none 0 0 0 0 Try.underlying32
  go_enter Try.func28, Try.ntmps28
  go_wp2
  go_ret
  exact ⟨rfl, rfl⟩

set_option maxHeartbeats 1000000 in
theorem insertion_none (w : World) : Calls Try.prog 37 #[.slice none 0 0, .int .i64 0, .int .i64 0, .func (.func 30) #[.func (.func 18) #[] #[]] #[]] w fun r w' => r = .returned (.tuple #[]) ∧ w = w' := by
  go_enter Try.func37, Try.ntmps37
  go_wp2
  go_loopw [8] (fun v wr => v = .int .i64 1 ∧ wr = w) (fun _ _ => 0)
  case atStart => exact ⟨rfl, rfl⟩
  case round =>
    obtain ⟨rfl, rfl⟩ := hrel
    go_wp2
    go_end0
    exact ⟨rfl, rfl⟩
theorem pdq_none (w : World) : Calls Try.prog 34 #[.slice none 0 0, .int .i64 0, .int .i64 0, .int .i64 0, .func (.func 30) #[.func (.func 18) #[] #[]] #[]] w fun r w' => r = .returned (.tuple #[]) ∧ w = w' := by
  go_enter Try.func34, Try.ntmps34
  go_wp2
  go_loopw [1, 2, 3, 10, 11] (fun u v _ _ _ wr => u = .int .i64 0 ∧ v = .int .i64 0 ∧ wr = w) (fun _ _ _ _ _ _ => 0)
  case atStart => exact ⟨rfl, rfl, rfl⟩
  case round =>
    obtain ⟨rfl, rfl, rfl⟩ := hrel
    go_wp2_with (go_at_call 37; refine (insertion_none _).mono ?_; rintro e w' ⟨rfl, rfl⟩)
    refine bodyPost_ret (results_none rfl _ _ _) rfl ?_
    exact ⟨rfl, rfl⟩
theorem sortFunc_none (w : World) : Calls Try.prog 29 #[.slice none 0 0, .func (.func 30) #[.func (.func 18) #[] #[]] #[]] w fun r w' => r = .returned (.tuple #[]) ∧ w = w' := by
  have hc := len_any 0 (by omega) (by omega) w
  rw [show (Lib.bitLen (Int.toNat 0) : Int) = 0 by decide] at hc
  have HC := Lib.hid hc; clear hc
  go_enter Try.func29, Try.ntmps29
  go_wp2_with (first | (go_at_call 35; refine (HC.out).mono ?_; rintro e w' ⟨rfl, rfl⟩) | (go_at_call 34; refine (pdq_none _).mono ?_; rintro e w' ⟨rfl, rfl⟩))
  go_end0
  exact ⟨rfl, rfl⟩

/-- The commands in their order. -/
def sortL (zs : List (Int × Int)) : List (Int × Int) := zs.mergeSort (fun x y => !lessB y x)
theorem sortL_len (zs : List (Int × Int)) : (sortL zs).length = zs.length := List.length_mergeSort zs
theorem sorted_is {zs : List (Int × Int)} {d' : Array (Int × Int)} (h : SortsTo zs.toArray d') : d'.toList = sortL zs := by
  have := sorted_unique_holds (lt := lessB) lessB_swo lessB_one zs.toArray d' h.1 h.2
  simpa [sortL] using this
theorem reads_row {w0 w : World} {g : Nat} {d : Array (Int × Int)} {zs : List (Int × Int)} (h : RowAt w0 g d w) (e : d.toList = zs) : ReadsA w (some ⟨g, 0, none⟩) zs.length zs := by
  subst e
  refine ⟨rfl, fun _ => ⟨g, 0, rfl, fun i hi => ?_⟩⟩
  have hi' : i < d.size := by simpa using hi
  have e : d[i]! = d.toList.getD i (0, 0) := by simp [List.getD, hi']
  have c := h.c0 i hi'
  have c' := h.c1 i hi'
  rw [e] at c c'
  rw [Nat.zero_add]
  exact ⟨c, c'⟩

theorem sort_some (b off len cap : Nat) (zs : List (Int × Int)) (w : World) (hm : len ≤ 1000) (hp : PdqOk len) (hr : ReadsA w (some ⟨b, off, none⟩) len zs) :
    Calls Try.prog 16 #[.slice (some ⟨b, off, none⟩) len cap] w fun e w' => ∃ sa' cap', e = .returned (.slice sa' len cap') ∧ ReadsA w' sa' len (sortL zs) ∧ RowKit.Below w.heap.size w w' := by
  have hz := hr.1
  have HC := Lib.hid (clone_some b off len cap zs w hm hr)
  clear hr
  have HZ := Lib.hid hz
  have HP := Lib.hid (fun w0 W b cap => sortFunc_any len hm hp w0 W b cap zs.toArray (by simp [hz]))
  simp only [List.size_toArray, ← hz] at HP
  clear hp hz
  go_enter Try.func16, Try.ntmps16
  go_wp2_with fail
  refine (HC.out).mono ?_; rintro e w1 ⟨g, cap1, rfl, hg, hb, hrow⟩
  go_wp2_with fail
  refine (HP.out w1 w1 g cap1 hrow).mono ?_; rintro e w2 ⟨rfl, d', hd, hrow2⟩
  go_wp2_with fail
  go_ret
  have hs := sorted_is hd
  have hrd := reads_row hrow2 hs
  rw [sortL_len, ← HZ.out] at hrd
  exact ⟨_, cap1, rfl, hrd, hb.trans (hrow2.base.mono hg)⟩
theorem sort_none (w : World) : Calls Try.prog 16 #[.slice none 0 0] w fun e w' => e = .returned (.slice none 0 0) ∧ w = w' := by
  go_enter Try.func16, Try.ntmps16
  go_wp2_with fail
  refine (clone_none _).mono ?_; rintro e w1 ⟨rfl, rfl⟩
  go_wp2_with fail
  refine (sortFunc_none _).mono ?_; rintro e w1 ⟨rfl, rfl⟩
  go_wp2_with fail
  go_ret
  exact ⟨rfl, rfl⟩
end Go.Proofs.Ytcgnodkbmpkhkaa
