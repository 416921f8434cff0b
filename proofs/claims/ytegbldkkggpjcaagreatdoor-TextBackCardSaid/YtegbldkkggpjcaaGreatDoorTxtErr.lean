/- fail.New and fail.Wrap at the level of objects; a fault in a fault as whole objects (so that they are told from other blocks by their type). -/
import Derived.Test.YtegbldkkggpjcaaGreatDoorTxtImpl
import Derived.Test.YtegbldkkggpjcaaGreatDoorNumPg
namespace Go.Proofs.YtegbldkkggpjcaaGreatDoor
open Go.RowKit Go.Sort

attribute [local go_sem ↓] Go.wp_at_zero Go.wp_at_succ

theorem new_obj (op : ByteArray) (c : Int) (hc : c ≠ 0) (w : World) : Calls Tryz.prog 45 #[.string op, .int .i64 c] w fun e w' => e = .returned (.iface 118 (.pointer (some ⟨w.heap.size, 0, none⟩))) ∧ w' = w.alloc (.cells #[.string op, .iface 41 (.int .i64 c)] 120) := by
  have e0 : (c == 0) = false := by simpa using hc
  go_enter Tryz.func45, Tryz.ntmps45
  go_wp2
  go_ret
  exact ⟨rfl, rfl⟩
theorem wrap_obj (op : ByteArray) (d : TypeId) (x : Value) (w : World) : Calls Tryz.prog 69 #[.string op, .iface d x] w fun e w' => e = .returned (.iface 118 (.pointer (some ⟨w.heap.size, 0, none⟩))) ∧ w' = w.alloc (.cells #[.string op, .iface d x] 120) := by
  go_enter Tryz.func69, Tryz.ntmps69
  go_wp2
  go_ret
  exact ⟨rfl, rfl⟩
/-- No error, or a fault in a fault, each in a block of its own. -/
def ErrObj (w : World) (v : Value) (op p : ByteArray) (e : Int) : Prop := (e = 0 ∧ v = .nilIface) ∨ (e ≠ 0 ∧ ∃ b1 b2, v = .iface 118 (.pointer (some ⟨b1, 0, none⟩)) ∧
  w.heap[b1]? = some (.cells #[.string op, .iface 118 (.pointer (some ⟨b2, 0, none⟩))] 120 (0, 0)) ∧ w.heap[b2]? = some (.cells #[.string p, .iface 41 (.int .i64 e)] 120 (0, 0)))
theorem ErrObj.moves {w w' : World} {v : Value} {op p : ByteArray} {e : Int} (h : ErrObj w v op p e) (k : ∀ (b : Nat) (x : Array Value) (f : Nat × Nat), w.heap[b]? = some (Obj.cells x 120 f) → w'.heap[b]? = w.heap[b]?) : ErrObj w' v op p e := by
  rcases h with h | ⟨h0, b1, b2, h1, h2, h3⟩
  · exact .inl h
  · exact .inr ⟨h0, b1, b2, h1, (k _ _ _ h2).trans h2, (k _ _ _ h3).trans h3⟩
theorem ErrObj.err {w : World} {v : Value} {op p : ByteArray} {e : Int} (h : ErrObj w v op p e) : ErrIs w v [op, p] e := by
  rcases h with h | ⟨h0, b1, b2, rfl, h2, h3⟩
  · exact .inl h
  · refine .inr ⟨h0, b1, .iface 118 (.pointer (some ⟨b2, 0, none⟩)), lt_of_block h2, rfl, by simp [World.cell?, h2], by simp [World.cell?, h2], b2, .iface 41 (.int .i64 e), lt_of_block h3, rfl, by simp [World.cell?, h3], by simp [World.cell?, h3], rfl⟩
theorem ErrObj.later {w w' : World} {v : Value} {op p : ByteArray} {e : Int} (h : ErrObj w v op p e) (k : RowKit.Below w.heap.size w w') : ErrObj w' v op p e :=
  h.moves fun b _ _ q => k.block b (lt_of_block q)
theorem ErrObj.chg {S : Nat → Prop} {w w' : World} {v : Value} {op p : ByteArray} {e : Int} (h : ErrObj w v op p e) (k : Chg S w w') (hS : ∀ (b : Nat) (x : Array Value) (f : Nat × Nat), w.heap[b]? = some (Obj.cells x 120 f) → ¬ S b) : ErrObj w' v op p e :=
  h.moves fun b x f q => k.block b (lt_of_block q) (hS b x f q)
/-- All blocks are as they were but one, and this one is no fault. -/
theorem ErrObj.but {w w' : World} {v : Value} {op p : ByteArray} {e : Int} (h : ErrObj w v op p e) (C : Nat) (k : ∀ b, b ≠ C → w'.heap[b]? = w.heap[b]?) (hC : ∀ (x : Array Value) (f : Nat × Nat), w.heap[C]? ≠ some (Obj.cells x 120 f)) : ErrObj w' v op p e :=
  h.moves fun b x f q => k b (fun z => hC x f (z ▸ q))
end Go.Proofs.YtegbldkkggpjcaaGreatDoor
