/- The contracts of the order of commands: package ident's Less, the document's own, and compare (bound to Less, as the sort calls it). What memory they make is new. -/
import Derived.Test.YtcgnodkbmpkhkaaIdentBallot
namespace Go.Proofs.Ytcgnodkbmpkhkaa
open Go.RowKit Go.Sort

/-- A command at a time, as a value. -/
def attV (x : Int × Int) : List Value := [.int .i64 x.1, .int .i64 x.2]
/-- The order of commands. -/
def lessB (x y : Int × Int) : Bool := if x.1 = y.1 then decide (x.2 < y.2) else decide (x.1 < y.1)
/-- The order, as the library's sort asks for it. -/
def cmpZ (x y : Int × Int) : Int := if lessB x y then -1 else if lessB y x then 1 else 0

theorem less_any (x y : Int × Int) (w : World) : Calls Try.prog 18 #[.agg (attV x).toArray, .agg (attV y).toArray] w fun e w' => e = .returned (.bool (lessB x y)) ∧ Grew w w' := by
  obtain ⟨a, b⟩ := x
  obtain ⟨c, d⟩ := y
  simp only [attV, lessB]
  by_cases q : a = c
  · subst q
    rw [if_pos rfl]
    go_enter Try.func18, Try.ntmps18
    go_wp2
    go_ret
    exact ⟨rfl, ((Grew.refl w).alloc _).alloc _⟩
  · rw [if_neg q]
    have e : (a != c) = true := by simpa using q
    clear q
    go_enter Try.func18, Try.ntmps18
    go_wp2
    go_ret
    exact ⟨rfl, ((Grew.refl w).alloc _).alloc _⟩
theorem rless_any (x y : Int × Int) (w : World) : Calls Try.prog 19 #[.agg (attV x).toArray, .agg (attV y).toArray] w fun e w' => e = .returned (.bool (lessB x y)) ∧ Grew w w' := by
  obtain ⟨a, b⟩ := x
  obtain ⟨c, d⟩ := y
  simp only [attV, lessB]
  by_cases q : a = c
  · subst q
    rw [if_pos rfl]
    go_enter Try.func19, Try.ntmps19
    go_wp2
    go_ret
    exact ⟨rfl, ((Grew.refl w).alloc _).alloc _⟩
  · rw [if_neg q]
    have e : (a != c) = true := by simpa using q
    clear q
    go_enter Try.func19, Try.ntmps19
    go_wp2
    go_ret
    exact ⟨rfl, ((Grew.refl w).alloc _).alloc _⟩

theorem compare_any (x y : Int × Int) (w : World) : Calls Try.prog 30 #[.func (.func 18) #[] #[], .agg (attV x).toArray, .agg (attV y).toArray] w fun e w' => e = .returned (.int .i64 (cmpZ x y)) ∧ Grew w w' := by
  have hl := less_any x y
  have hr := less_any y x
  unfold cmpZ
  simp only [attV] at *
  cases h1 : lessB x y with
  | true =>
    rw [h1] at hl
    have HL := Lib.hid hl; clear hl hr h1
    go_enter Try.func30, Try.ntmps30
    go_wp2_with fail
    refine (HL.out _).mono ?_; rintro e w1 ⟨rfl, hg⟩
    go_wp2_with fail
    go_ret
    exact ⟨rfl, (((Grew.refl w).alloc _).alloc _).trans hg⟩
  | false =>
    rw [h1] at hl
    cases h2 : lessB y x with
    | true => 
      rw [h2] at hr
      have HL := Lib.hid hl
      have HR := Lib.hid hr
      clear hl hr h1 h2
      obtain ⟨a, b⟩ := x
      obtain ⟨c, d⟩ := y
      go_enter Try.func30, Try.ntmps30
      go_wp2_with fail
      refine (HL.out _).mono ?_; rintro e w1 ⟨rfl, hg⟩
      have hb := hg.below
      have k1 : w1.cell? ⟨w.heap.size, 0, none⟩ = some (.int .i64 a) := (hb.cell (p := ⟨w.heap.size, 0, none⟩) (by simp; omega)).trans (by simp)
      have k2 : w1.cell? ⟨w.heap.size, 1, none⟩ = some (.int .i64 b) := (hb.cell (p := ⟨w.heap.size, 1, none⟩) (by simp; omega)).trans (by simp)
      have k3 : w1.cell? ⟨w.heap.size + 1, 0, none⟩ = some (.int .i64 c) := (hb.cell (p := ⟨w.heap.size + 1, 0, none⟩) (by simp)).trans (by simp)
      have k4 : w1.cell? ⟨w.heap.size + 1, 1, none⟩ = some (.int .i64 d) := (hb.cell (p := ⟨w.heap.size + 1, 1, none⟩) (by simp)).trans (by simp)
      have HG := Lib.hid hg
      clear hb hg
      go_wp2_with fail
      refine (HR.out _).mono ?_; rintro e w2 ⟨rfl, hg2⟩
      go_wp2_with fail
      go_ret
      exact ⟨rfl, ((((Grew.refl w).alloc _).alloc _).trans HG.out).trans hg2⟩
    | false => 
      rw [h2] at hr
      have HL := Lib.hid hl
      have HR := Lib.hid hr
      clear hl hr h1 h2
      obtain ⟨a, b⟩ := x
      obtain ⟨c, d⟩ := y
      go_enter Try.func30, Try.ntmps30
      go_wp2_with fail
      refine (HL.out _).mono ?_; rintro e w1 ⟨rfl, hg⟩
      have hb := hg.below
      have k1 : w1.cell? ⟨w.heap.size, 0, none⟩ = some (.int .i64 a) := (hb.cell (p := ⟨w.heap.size, 0, none⟩) (by simp; omega)).trans (by simp)
      have k2 : w1.cell? ⟨w.heap.size, 1, none⟩ = some (.int .i64 b) := (hb.cell (p := ⟨w.heap.size, 1, none⟩) (by simp; omega)).trans (by simp)
      have k3 : w1.cell? ⟨w.heap.size + 1, 0, none⟩ = some (.int .i64 c) := (hb.cell (p := ⟨w.heap.size + 1, 0, none⟩) (by simp)).trans (by simp)
      have k4 : w1.cell? ⟨w.heap.size + 1, 1, none⟩ = some (.int .i64 d) := (hb.cell (p := ⟨w.heap.size + 1, 1, none⟩) (by simp)).trans (by simp)
      have HG := Lib.hid hg
      clear hb hg
      go_wp2_with fail
      refine (HR.out _).mono ?_; rintro e w2 ⟨rfl, hg2⟩
      go_wp2_with fail
      go_ret
      exact ⟨rfl, ((((Grew.refl w).alloc _).alloc _).trans HG.out).trans hg2⟩
end Go.Proofs.Ytcgnodkbmpkhkaa
