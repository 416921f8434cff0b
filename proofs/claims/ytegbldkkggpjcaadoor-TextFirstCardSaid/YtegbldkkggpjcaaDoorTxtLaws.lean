/- The law TextLays, upon Impl. -/
import Derived.Test.YtegbldkkggpjcaaDoorTxtLayW
import Derived.Test.YtegbldkkggpjcaaDoorTxtAwake
import Derived.Test.YtegbldkkggpjcaaDoorTxtRd
namespace Go.Proofs.YtegbldkkggpjcaaDoor
open Go.RowKit Go.Sort

attribute [local go_sem ↓] Go.wp_at_zero Go.wp_at_succ

theorem lays_law (I : Impl) (sa : Option Addr) (len cap : Nat) (ps : List PcS) (w : World) (hr : ReadsP w sa len ps) (hwf : WfP ps) (hm : len ≤ 9223372036854775807) (hg : Laid w) :
    Calls Tryd.prog 3 #[.slice sa len cap] w fun e w' => e = .returned (.bool true) ∧ RowKit.Below w.heap.size w w' := by
  have HF := Lib.hid (few_any sa len cap ps w hr hwf hm)
  have HA := Lib.hid (fun W (hb : RowKit.Below w.heap.size w W) => awake_any I W (hg.below hb hg.pos))
  by_cases q : fewP ps = true
  · have HP := Lib.hid (fun W (hb : RowKit.Below w.heap.size w W) => plays_any I sa len cap ps W (hr.later hb) hwf q (hg.below hb hg.pos))
    rw [q] at HF
    clear hr hwf hg q
    go_enter Tryd.func3, Tryd.ntmps3
    go_wp2_with fail
    refine HF.out.mono ?_
    rintro y w1 ⟨rfl, hb⟩
    have HB1 := Lib.hid hb.below
    clear hb
    go_wp2_with fail
    refine (HP.out _ HB1.out).mono ?_
    rintro y w2 ⟨rfl, hb⟩
    have HB2 := Lib.hid (HB1.out.trans (hb.mono HB1.out.size))
    clear hb
    go_wp2_with fail
    refine (HA.out _ HB2.out).mono ?_
    rintro y w3 ⟨rfl, hb⟩
    have HB3 := Lib.hid (HB2.out.trans (hb.mono HB2.out.size))
    clear hb
    go_wp2_with fail
    go_ret
    exact ⟨rfl, HB3.out⟩
  · have q' : fewP ps = false := by simpa using q
    rw [q'] at HF
    clear hr hwf hg q q'
    go_enter Tryd.func3, Tryd.ntmps3
    go_wp2_with fail
    refine HF.out.mono ?_
    rintro y w1 ⟨rfl, hb⟩
    have HB1 := Lib.hid hb.below
    clear hb
    go_wp2_with fail
    refine (HA.out _ HB1.out).mono ?_
    rintro y w2 ⟨rfl, hb⟩
    have HB2 := Lib.hid (HB1.out.trans (hb.mono HB1.out.size))
    clear hb
    go_wp2_with fail
    go_ret
    exact ⟨rfl, HB2.out⟩

theorem movedS_s (u : InS) (p : ByteArray) (x e : Int) : (movedS u p x e).s = u.s := by unfold movedS; split <;> rfl
theorem readP_s (u : InS) (p : PcS) : (readP u p).s = u.s := by
  unfold readP numS textS rowS flagS endS
  repeat' split
  all_goals first | rfl | exact movedS_s _ _ _ _
end Go.Proofs.YtegbldkkggpjcaaDoor
