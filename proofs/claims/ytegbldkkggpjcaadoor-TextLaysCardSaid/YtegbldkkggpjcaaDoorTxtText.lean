/- The document's Flag of a reader. The document's Text of a reader. -/
import Derived.Test.YtegbldkkggpjcaaDoorTxtRef
import Derived.Deep.RegionHeld3
namespace Go.Proofs.YtegbldkkggpjcaaDoor
open Go.RowKit Go.Sort

attribute [local go_sem ↓] Go.wp_at_zero Go.wp_at_succ

theorem w64 (k : Nat) (h : (k : Int) < 100000) : IntKind.i64.wrap ((k : Int) + 1) = (k : Int) + 1 := by
  simp [IntKind.wrap, IntKind.bits, IntKind.signed]
  omega
theorem far4 {w : World} {B C : Nat} {a b c d : Value} (h0 : w.cell? ⟨B, 0, none⟩ = some a) (h1 : w.cell? ⟨B, 1, none⟩ = some b) (h2 : w.cell? ⟨B, 2, none⟩ = some c) (h3 : w.cell? ⟨B, 3, none⟩ = some d) (hne : B ≠ C) (x y z t : Value) :
    (put4W w C x y z t).cell? ⟨B, 0, none⟩ = some a ∧ (put4W w C x y z t).cell? ⟨B, 1, none⟩ = some b ∧ (put4W w C x y z t).cell? ⟨B, 2, none⟩ = some c ∧ (put4W w C x y z t).cell? ⟨B, 3, none⟩ = some d := by
  have e := put4_heap w C x y z t B hne
  generalize put4W w C x y z t = W at *
  exact ⟨(World.cell?_of_block e).trans h0, (World.cell?_of_block e).trans h1, (World.cell?_of_block e).trans h2, (World.cell?_of_block e).trans h3⟩

/-! ### Flag -/
def byteAt (r : InS) : Nat := (r.s.data.toList.getD r.pos.toNat 0).toNat
def flagS (r : InS) : InS := if r.e = 0 then (if (r.s.size : Int) ≤ r.pos then movedS r pFlag 0 4 else if 1 < byteAt r then movedS r pFlag 0 5 else movedS r pFlag (r.pos + 1) 0) else r
def flagB (r : InS) : Bool := decide (r.e = 0) && decide (r.pos < (r.s.size : Int)) && decide (byteAt r = 1)
end Go.Proofs.YtegbldkkggpjcaaDoor
namespace Go.Proofs.YtegbldkkggpjcaaDoor
open Go.RowKit Go.Sort

attribute [local go_sem ↓] Go.wp_at_zero Go.wp_at_succ

theorem w64b (v n : Nat) (h : (v : Int) + (n : Int) ≤ 100000) : IntKind.i64.wrap ((v : Int) + (n : Int)) = (v : Int) + (n : Int) := by
  simp [IntKind.wrap, IntKind.bits, IntKind.signed]
  omega
def textE (r : InS) (most : Int) : Int := if (getZ r.s r.pos).2.2 = 0 then (if most < (getZ r.s r.pos).1 then 3 else if (r.s.size : Int) - (getZ r.s r.pos).2.1 < (getZ r.s r.pos).1 then 4 else 0) else (getZ r.s r.pos).2.2
def textS (r : InS) (most : Int) : InS := if r.e = 0 then (if textE r most = 0 then movedS r pText ((getZ r.s r.pos).2.1 + (getZ r.s r.pos).1) 0 else movedS r pText 0 (textE r most)) else r
def textT (r : InS) (most : Int) : ByteArray := if r.e = 0 ∧ textE r most = 0 then r.s.extract (getZ r.s r.pos).2.1.toNat ((getZ r.s r.pos).2.1 + (getZ r.s r.pos).1).toNat else ⟨#[]⟩
end Go.Proofs.YtegbldkkggpjcaaDoor
