/- The law TextLays, upon Impl. -/
import Derived.Test.YtegbldkkggpjcaaGreatDoorTxtLayW
import Derived.Test.YtegbldkkggpjcaaGreatDoorTxtAwake
import Derived.Test.YtegbldkkggpjcaaGreatDoorTxtRd
namespace Go.Proofs.YtegbldkkggpjcaaGreatDoor
open Go.RowKit Go.Sort

attribute [local go_sem ↓] Go.wp_at_zero Go.wp_at_succ

theorem movedS_s (u : InS) (p : ByteArray) (x e : Int) : (movedS u p x e).s = u.s := by unfold movedS; split <;> rfl
theorem readP_s (u : InS) (p : PcS) : (readP u p).s = u.s := by
  unfold readP numS textS rowS flagS endS
  repeat' split
  all_goals first | rfl | exact movedS_s _ _ _ _
end Go.Proofs.YtegbldkkggpjcaaGreatDoor
