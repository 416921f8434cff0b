/- The contracts of the document's Get at any place, Row, Unrow, SameInts. -/
import Derived.Test.YtegbldkkggpjcaaGreatDoorNumRow
namespace Go.Proofs.YtegbldkkggpjcaaGreatDoor
open Go.RowKit Go.Sort

attribute [local go_sem ↓] Go.wp_at_zero Go.wp_at_succ

theorem rget_any (s : ByteArray) (a : Int) (hs : s.size ≤ 100000) (w : World) :
    Calls Tryz.prog 56 #[.string s, .int .i64 a] w fun e w' => e = .returned (.tuple #[.int .i64 (getZ s a).1, .int .i64 (getZ s a).2.1, .int .i64 (getZ s a).2.2]) ∧ w' = w := by
  by_cases q1 : a < 0
  · have d0 : decide (a < 0) = true := decide_eq_true q1
    have HE := Lib.hid (getZ_out (s := s) (Or.inl q1))
    clear q1
    go_enter Tryz.func56, Tryz.ntmps56
    go_wp2
    go_ret3
    exact ⟨get_ret HE.out, rfl⟩
  have d0 : decide (a < 0) = false := decide_eq_false q1
  by_cases q2 : (s.size : Int) < a
  · have d1 : decide (a > (s.size : Int)) = true := decide_eq_true q2
    have HE := Lib.hid (getZ_out (s := s) (Or.inr q2))
    clear q1 q2
    go_enter Tryz.func56, Tryz.ntmps56
    go_wp2
    go_ret3
    exact ⟨get_ret HE.out, rfl⟩
  obtain ⟨m, rfl⟩ : ∃ m : Nat, a = m := ⟨a.toNat, by omega⟩
  by_cases q3 : m = s.size
  · have d1 : decide (s.size < m) = false := decide_eq_false (by omega)
    have d2 : ((m : Int) == (s.size : Int)) = true := by simp; omega
    have HE := Lib.hid (getZ_err (s := s) (a := m) (n := 0) (u := 0) (e := 3) (by omega) (by rw [List.drop_of_length_le (by rw [list_len]; omega)]; rfl))
    clear q1 q2 q3 d0
    have d0 : decide ((m : Int) < 0) = false := decide_eq_false (by omega)
    go_enter Tryz.func56, Tryz.ntmps56
    go_wp2
    go_ret3
    exact ⟨get_ret HE.out, rfl⟩
  · exact rget_in s m (by omega) hs w

/-! ### Row -/
def okL (l : List Int) : Bool := l.all fun x => decide (0 ≤ x)
def rowP (l : List Int) : List UInt8 := putL l.length ++ l.flatMap putZ
def rowZ (l : List Int) : List UInt8 := if okL l = true then rowP l else []
def rowE (l : List Int) : Int := if okL l = true then 0 else 2
theorem putZ_len (n : Int) (h : n ≤ 9223372036854775807) : (putZ n).length ≤ 9 := by
  unfold putZ; split
  · simp
  · exact putL_len _ (by omega)
theorem flat_len (l : List Int) (h : ∀ x ∈ l, x ≤ 9223372036854775807) : (l.flatMap putZ).length ≤ 9 * l.length := by
  induction l with
  | nil => simp
  | cons x t ih =>
    have := ih (fun y hy => h y (by simp [hy]))
    have := putZ_len x (h x (by simp))
    rw [List.flatMap_cons, List.length_append, List.length_cons]; omega
theorem flat_take (l : List Int) (k : Nat) (h : k < l.length) : (l.take (k + 1)).flatMap putZ = (l.take k).flatMap putZ ++ putZ (l.getD k 0) := by
  rw [List.take_succ_eq_append_getElem h, List.flatMap_append]; simp [List.getD, h]
theorem okL_at {l : List Int} (h : okL l = true) (k : Nat) (hk : k < l.length) : 0 ≤ l.getD k 0 := by
  have := List.all_eq_true.1 h (l[k]) (List.getElem_mem hk)
  simpa [List.getD, hk] using this
theorem okL_no {l : List Int} (k : Nat) (hk : k < l.length) (h : l.getD k 0 < 0) : okL l = false := by
  cases q : okL l with
  | false => rfl
  | true => have := okL_at q k hk; omega
theorem row_ret {a b : ByteArray} {c d : Int} (h : a = b) (h2 : c = d) : Ending.returned (Value.tuple #[.string a, .int .i64 c]) = .returned (.tuple #[.string b, .int .i64 d]) := by rw [h, h2]
theorem okL_of (l : List Int) (h : ∀ k, k < l.length → 0 ≤ l.getD k 0) : okL l = true := by
  refine List.all_eq_true.2 fun x hx => ?_
  obtain ⟨k, hk, rfl⟩ := List.getElem_of_mem hx
  have := h k hk
  simpa [List.getD, hk] using this

set_option maxHeartbeats 3200000 in
theorem rrow_any (sa : Option Addr) (len cap : Nat) (l : List Int) (w : World) (hm : len ≤ 10000) (hwf : ∀ x ∈ l, x ≤ 9223372036854775807) (hr : ReadsI w sa len l) :
    Calls Tryz.prog 62 #[.slice sa len cap] w fun e w' => e = .returned (.tuple #[.string (bs (rowZ l)), .int .i64 (rowE l)]) ∧ RowKit.Below w.heap.size w w' := by
  have HZ := Lib.hid hr.1
  have HR := Lib.hid hr; clear hr
  have HWF := Lib.hid hwf; clear hwf
  have HL0 := Lib.hid (show putZ (len : Int) = putL l.length by unfold putZ; rw [if_neg (by omega), Int.toNat_natCast, HZ.out])
  have N0 := Lib.hid (show (len : Int) ≤ 9223372036854775807 by omega)
  go_enter Tryz.func62, Tryz.ntmps62
  go_wp2_with (go_at_call 59; (with_reducible refine (rput_any _ N0.out _).mono ?_); rintro e w1 ⟨rfl, hb⟩; rw [HL0.out]; have HB1 := Lib.hid hb; clear hb)
  go_loopg [4, 6] len (fun gg o i wr => ∃ k : Nat, k + gg = len ∧ i = .int .i64 k ∧ o = .string (bs (putL l.length ++ (l.take k).flatMap putZ)) ∧ Hid (∀ j, j < k → 0 ≤ l.getD j 0) ∧ Hid (RowKit.Below w.heap.size w wr))
  case atStart => exact ⟨0, by omega, rfl, by simp, Lib.hid (fun j hj => absurd hj (by omega)), HB1⟩
  case round =>
    obtain ⟨k, hk, rfl, rfl, HK, HB⟩ := hrel
    by_cases hlt : k < len
    · obtain ⟨b, off, rfl, g⟩ := (HR.out.later HB.out).2 (by omega)
      have l0 := g k hlt
      clear g
      have hkl : k < l.length := by rw [← HZ.out]; exact hlt
      have HT := Lib.hid (flat_take l k hkl)
      have hx9 := putZ_len (l.getD k 0) (HWF.out _ (by rw [List.getD_eq_getElem?_getD, List.getElem?_eq_getElem hkl]; exact List.getElem_mem hkl))
      have hxm := HWF.out (l.getD k 0) (by rw [List.getD_eq_getElem?_getD, List.getElem?_eq_getElem hkl]; exact List.getElem_mem hkl)
      have hfl := flat_len (l.take k) (fun y hy => HWF.out y (List.mem_of_mem_take hy))
      have hpl := putL_len l.length (by have := HZ.out; omega)
      rw [List.length_take] at hfl
      have HNO := Lib.hid (fun (h : l.getD k 0 < 0) => okL_no k hkl h)
      have HYE := Lib.hid (fun (h : 0 ≤ l.getD k 0) (j : Nat) (hj : j < k + 1) => (show 0 ≤ l.getD j 0 by
        by_cases e : j = k
        · rw [e]; exact h
        · exact HK.out j (by omega)))
      generalize l.getD k 0 = x at *
      have N1 := Lib.hid hxm
      have hsz := bs_size (putL l.length ++ (l.take k).flatMap putZ)
      have hs2 := bs_size (putZ x)
      rw [List.length_append] at hsz
      have hsum : (bs (putL l.length ++ (l.take k).flatMap putZ)).size + (bs (putZ x)).size ≤ 200000 := by rw [hsz, hs2]; have : min k l.length ≤ k := Nat.min_le_left _ _; omega
      have i1 : (0 : Int) ≤ (k : Int) := by omega
      have i2 : (k : Int) < (len : Int) := by omega
      have hs3 : ¬ ((bs (putL l.length ++ (l.take k).flatMap putZ)).size + (bs (putZ x)).size > 9223372036854775807) := by omega
      clear hsz hs2 hfl hx9 hpl
      by_cases q : x < 0
      · have HE := Lib.hid (show putE x = 2 from if_pos q)
        have HR1 := Lib.hid (HNO.out q)
        clear q hxm
        go_wp2_with (go_at_call 59; (with_reducible refine (rput_any x N1.out _).mono ?_); rintro e w2 ⟨rfl, hb⟩; rw [HE.out]; have HB2 := Lib.hid (HB.out.trans (hb.mono HB.out.size)); clear hb)
        go_ret2
        exact ⟨row_ret (by rw [show rowZ l = [] by unfold rowZ; rw [HR1.out]; rfl]; rfl) (by unfold rowE; rw [HR1.out]; rfl), HB2.out⟩
      · have HE := Lib.hid (show putE x = 0 from if_neg q)
        have HKK := Lib.hid (HYE.out (by omega))
        clear q hxm
        go_wp2_with (go_at_call 59; (with_reducible refine (rput_any x N1.out _).mono ?_); rintro e w2 ⟨rfl, hb⟩; rw [HE.out]; have HB2 := Lib.hid (HB.out.trans (hb.mono HB.out.size)); clear hb)
        go_roundg (gk - 1)
        case measure => omega
        case rel => exact ⟨k + 1, by omega, by go_num, by rw [HT.out, bs_app, List.append_assoc], HKK, HB2⟩
    · obtain rfl : k = len := by omega
      have ht : l.take k = l := List.take_of_length_le (by rw [HZ.out]; exact Nat.le_refl _)
      have HOK := Lib.hid (okL_of l (fun j hj => HK.out j (by rw [HZ.out]; exact hj)))
      have HTT := Lib.hid ht
      clear hlt ht
      go_wp2
      go_ret2
      exact ⟨row_ret (by rw [HTT.out, show rowZ l = rowP l by unfold rowZ; rw [HOK.out]; rfl]; rfl) (by unfold rowE; rw [HOK.out]; rfl), HB.out⟩
end Go.Proofs.YtegbldkkggpjcaaGreatDoor
