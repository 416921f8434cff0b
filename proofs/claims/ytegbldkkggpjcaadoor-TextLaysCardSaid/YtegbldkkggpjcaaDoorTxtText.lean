/- The document's Text of a reader. -/
import Derived.Test.YtegbldkkggpjcaaDoorTxtFlag
namespace Go.Proofs.YtegbldkkggpjcaaDoor
open Go.RowKit Go.Sort

attribute [local go_sem ↓] Go.wp_at_zero Go.wp_at_succ

theorem w64b (v n : Nat) (h : (v : Int) + (n : Int) ≤ 100000) : IntKind.i64.wrap ((v : Int) + (n : Int)) = (v : Int) + (n : Int) := by
  simp [IntKind.wrap, IntKind.bits, IntKind.signed]
  omega
def textE (r : InS) (most : Int) : Int := if (getZ r.s r.pos).2.2 = 0 then (if most < (getZ r.s r.pos).1 then 3 else if (r.s.size : Int) - (getZ r.s r.pos).2.1 < (getZ r.s r.pos).1 then 4 else 0) else (getZ r.s r.pos).2.2
def textS (r : InS) (most : Int) : InS := if r.e = 0 then (if textE r most = 0 then movedS r pText ((getZ r.s r.pos).2.1 + (getZ r.s r.pos).1) 0 else movedS r pText 0 (textE r most)) else r
def textT (r : InS) (most : Int) : ByteArray := if r.e = 0 ∧ textE r most = 0 then r.s.extract (getZ r.s r.pos).2.1.toNat ((getZ r.s r.pos).2.1 + (getZ r.s r.pos).1).toNat else ⟨#[]⟩
end Go.Proofs.YtegbldkkggpjcaaDoor
