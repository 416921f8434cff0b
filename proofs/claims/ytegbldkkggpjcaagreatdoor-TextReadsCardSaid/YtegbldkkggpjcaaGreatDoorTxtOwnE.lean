/- The landed writer's and reader's fault: an error out of a piece's name and a code; what fail.Is tells of it. -/
import Derived.Test.YtegbldkkggpjcaaGreatDoorTxtErr
namespace Go.Proofs.YtegbldkkggpjcaaGreatDoor
open Go.RowKit Go.Sort

attribute [local go_sem ↓] Go.wp_at_zero Go.wp_at_succ

theorem ErrIs.is {w : World} {v : Value} {l : List ByteArray} {e : Int} (h : ErrIs w v l e) (hg : Laid w) : Calls Tryz.prog 63 #[v, .int .i64 0] w fun x w' => x = .returned (.bool (decide (e = 0))) ∧ RowKit.Below w.heap.size w w' :=
  is_of v e 0 w (h.code hg)
theorem newE (p : ByteArray) (e : Int) (w : World) : Calls Tryz.prog 45 #[.string p, .int .i64 e] w fun x w' => ∃ v, x = .returned v ∧ ErrIs w' v [p] e ∧ RowKit.Below w.heap.size w w' := by
  by_cases q : e = 0
  · subst q
    refine (new_ok p w).mono ?_
    rintro _ _ ⟨rfl, rfl⟩
    exact ⟨_, rfl, .inl ⟨rfl, rfl⟩, Below.refl _ _⟩
  · refine (new_err p e q w).mono ?_
    rintro _ w1 ⟨v, rfl, h, b⟩
    exact ⟨v, rfl, .inr ⟨q, h⟩, b⟩
theorem wrapE (op : ByteArray) (l : List ByteArray) (v : Value) (e : Int) (w : World) (h : ErrIs w v l e) : Calls Tryz.prog 69 #[.string op, v] w fun x w' => ∃ v', x = .returned v' ∧ ErrIs w' v' (op :: l) e ∧ RowKit.Below w.heap.size w w' := by
  rcases h with ⟨rfl, rfl⟩ | ⟨q, h⟩
  · refine (wrap_nil op w).mono ?_
    rintro _ _ ⟨rfl, rfl⟩
    exact ⟨_, rfl, .inl ⟨rfl, rfl⟩, Below.refl _ _⟩
  · refine (wrap_err op l _ _ v w h).mono ?_
    rintro _ w1 ⟨v', rfl, h', b⟩
    exact ⟨v', rfl, .inr ⟨q, h'⟩, b⟩
theorem behind_alloc {w w1 : World} (o : Obj) (b : RowKit.Below (w.alloc o).heap.size (w.alloc o) w1) : RowKit.Below w.heap.size w w1 :=
  ((Below.refl w.heap.size w).alloc (Nat.le_refl _) o).trans (b.mono (by simp))
theorem wrapped_any (op p : ByteArray) (e : Int) (w : World) : Calls Tryz.prog 46 #[.agg #[.string p, .int .i64 e], .string op] w fun x w' => ∃ v, x = .returned v ∧ ErrIs w' v [op, p] e ∧ RowKit.Below w.heap.size w w' := by
  have N := Lib.hid (fun w => newE p e w)
  have W := Lib.hid (fun v w (h : ErrIs w v [p] e) => wrapE op [p] v e w h)
  go_enter Tryz.func46, Tryz.ntmps46
  go_wp2_with (first
    | (go_at_call 45; refine (N.out _).mono ?_; rintro _ w1 ⟨v1, rfl, h1, b1⟩; have H1 := Lib.hid h1; have B1 := Lib.hid b1; clear h1 b1)
    | (go_at_call 69; refine (W.out _ _ H1.out).mono ?_; rintro _ w2 ⟨v2, rfl, h2, b2⟩))
  go_ret
  exact ⟨v2, rfl, h2, (behind_alloc _ B1.out).trans (b2.mono (behind_alloc _ B1.out).size)⟩
end Go.Proofs.YtegbldkkggpjcaaGreatDoor
