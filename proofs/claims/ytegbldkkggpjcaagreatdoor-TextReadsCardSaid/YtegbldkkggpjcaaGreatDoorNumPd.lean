/- The contracts of the program's own Put, Size, Row. -/
import Derived.Test.YtegbldkkggpjcaaGreatDoorNumPc
import Derived.Test.YtegbldkkggpjcaaGreatDoorNumImpl
namespace Go.Proofs.YtegbldkkggpjcaaGreatDoor
open Go.RowKit Go.Sort

attribute [local go_sem ↓] Go.wp_at_zero Go.wp_at_succ

theorem putZ_nat (n : Nat) : putZ (n : Int) = putL n := by unfold putZ; rw [if_neg (by omega), Int.toNat_natCast]
theorem putE_nat (n : Nat) : putE (n : Int) = 0 := if_neg (by omega)
theorem put_any (n : Int) (w : World) (hm : n ≤ 9223372036854775807) : Calls Tryz.prog 47 #[.int .i64 n] w fun e w' => e = .returned (.tuple #[.string (bs (putZ n)), .int .i64 (putE n)]) ∧ RowKit.Below w.heap.size w w' := by
  by_cases h : n < 0
  · have d1 : decide (n < 0) = true := decide_eq_true h
    have HE := Lib.hid (show putE n = 2 from if_pos h)
    have HZ := Lib.hid (show putZ n = [] from if_pos h)
    clear h
    go_enter Tryz.func47, Tryz.ntmps47
    go_wp2
    go_ret2
    exact ⟨by rw [HE.out, HZ.out]; rfl, Below.refl _ _⟩
  · obtain ⟨m, rfl⟩ : ∃ m : Nat, n = m := ⟨n.toNat, by omega⟩
    have d1 : decide ((m : Int) < 0) = false := decide_eq_false h
    have HL := Lib.hid (fun W' (hw : w.heap.size ≤ W'.heap.size) => lay_any m (by omega) w.heap.size _ [] W' (ownB_nil _ _) (by simp) hw)
    have HP := Lib.hid (putL_pos m)
    have HZ := Lib.hid (putZ_nat m)
    have HE := Lib.hid (putE_nat m)
    clear h hm
    go_enter Tryz.func47, Tryz.ntmps47
    go_wp2_with (go_at_call 70; (with_reducible refine (HL.out _ (Nat.le_refl _)).mono ?_); rintro e w1 ⟨v1, rfl, ho, hb⟩; rw [List.nil_append] at ho; have cv := conv_own ho HP.out; have HB := Lib.hid hb; clear hb ho)
    go_ret2
    exact ⟨row_ret (by rw [HZ.out]) (by rw [HE.out]), HB.out⟩
set_option maxHeartbeats 3200000 in
theorem row_any (sa : Option Addr) (len cap : Nat) (l : List Int) (w : World) (hm : len ≤ 10000) (hwf : ∀ x ∈ l, x ≤ 9223372036854775807) (hr : ReadsI w sa len l) :
    Calls Tryz.prog 61 #[.slice sa len cap] w fun e w' => e = .returned (.tuple #[.string (bs (rowZ l)), .int .i64 (rowE l)]) ∧ RowKit.Below w.heap.size w w' := by
  have HZ := Lib.hid hr.1
  have HR := Lib.hid hr; clear hr
  have HWF := Lib.hid hwf; clear hwf
  have HL0 := Lib.hid (fun W' (hw : w.heap.size ≤ W'.heap.size) => lay_any len (by omega) w.heap.size _ [] W' (ownB_nil _ _) (by simp) hw)
  go_enter Tryz.func61, Tryz.ntmps61
  go_wp2_with (go_at_call 70; (with_reducible refine (HL0.out _ (Nat.le_refl _)).mono ?_); rintro e w1 ⟨v1, rfl, ho, hb⟩; rw [List.nil_append] at ho; have HO1 := Lib.hid ho; have HB1 := Lib.hid hb; clear hb ho)
  go_loopg [4, 12] len (fun gg o i wr => ∃ k : Nat, k + gg = len ∧ i = .int .i64 k ∧ Hid (OwnB wr w.heap.size o (putL len ++ (l.take k).flatMap putZ)) ∧ Hid (∀ j, j < k → 0 ≤ l.getD j 0) ∧ Hid (RowKit.Below w.heap.size w wr))
  case atStart => exact ⟨0, by omega, rfl, Lib.hid (by simpa using HO1.out), Lib.hid (fun j hj => absurd hj (by omega)), HB1⟩
  case round =>
    obtain ⟨k, hk, rfl, HO, HK, HB⟩ := hrel
    by_cases hlt : k < len
    · obtain ⟨b, off, rfl, g⟩ := (HR.out.later HB.out).2 (by omega)
      have l0 := g k hlt
      clear g
      have hkl : k < l.length := by rw [← HZ.out]; exact hlt
      have HT := Lib.hid (flat_take l k hkl)
      have hxm := HWF.out (l.getD k 0) (by rw [List.getD_eq_getElem?_getD, List.getElem?_eq_getElem hkl]; exact List.getElem_mem hkl)
      have hfl := flat_len (l.take k) (fun y hy => HWF.out y (List.mem_of_mem_take hy))
      have hpl := putL_len len (by omega)
      rw [List.length_take] at hfl
      have HNO := Lib.hid (fun (h : l.getD k 0 < 0) => okL_no k hkl h)
      have HYE := Lib.hid (fun (h : 0 ≤ l.getD k 0) (j : Nat) (hj : j < k + 1) => (show 0 ≤ l.getD j 0 by
        by_cases e : j = k
        · rw [e]; exact h
        · exact HK.out j (by omega)))
      generalize l.getD k 0 = x at *
      have hsum : (putL len ++ (l.take k).flatMap putZ).length ≤ 100000 := by
        rw [List.length_append]; have : min k l.length ≤ k := Nat.min_le_left _ _; omega
      have i1 : (0 : Int) ≤ (k : Int) := by omega
      have i2 : (k : Int) < (len : Int) := by omega
      clear hfl hpl
      by_cases q : x < 0
      · have d1 : decide (x < 0) = true := decide_eq_true q
        have HR1 := Lib.hid (HNO.out q)
        clear q hxm
        go_wp2
        go_ret2
        exact ⟨row_ret (by rw [show rowZ l = [] by unfold rowZ; rw [HR1.out]; rfl]; rfl) (by unfold rowE; rw [HR1.out]; rfl), HB.out⟩
      · obtain ⟨y, rfl⟩ : ∃ y : Nat, x = y := ⟨x.toNat, by omega⟩
        have d1 : decide ((y : Int) < 0) = false := decide_eq_false q
        have HKK := Lib.hid (HYE.out (by omega))
        have HPN := Lib.hid (putZ_nat y)
        have HL := Lib.hid (lay_any y (by omega) w.heap.size _ _ wr HO.out hsum HB.out.size)
        clear q hxm hsum
        go_wp2_with (go_at_call 70; (with_reducible refine HL.out.mono ?_); rintro e w2 ⟨v2, rfl, ho, hb⟩; have HO2 := Lib.hid ho; have HB2 := Lib.hid (HB.out.trans hb); clear hb ho)
        go_roundg (gk - 1)
        case measure => omega
        case rel => exact ⟨k + 1, by omega, by go_num, Lib.hid (by rw [HT.out, ← List.append_assoc, HPN.out]; exact HO2.out), HKK, HB2⟩
    · obtain rfl : k = len := by omega
      have ht : l.take k = l := List.take_of_length_le (by rw [HZ.out]; exact Nat.le_refl _)
      have HOK := Lib.hid (okL_of l (fun j hj => HK.out j (by rw [HZ.out]; exact hj)))
      have HTT := Lib.hid ht
      have HPP := Lib.hid (show 0 < (putL k ++ (l.take k).flatMap putZ).length by rw [List.length_append]; have := putL_pos k; omega)
      have cv := conv_own HO.out HPP.out
      clear hlt ht
      go_wp2
      go_ret2
      exact ⟨row_ret (by rw [HTT.out, show rowZ l = rowP l by unfold rowZ; rw [HOK.out]; rfl, HZ.out]; rfl) (by unfold rowE; rw [HOK.out]; rfl), HB.out⟩
end Go.Proofs.YtegbldkkggpjcaaGreatDoor
