/- The contract of the document's Get. -/
import Derived.Test.YtegbldkkggpjcaaGreatDoorNumRefA
namespace Go.Proofs.YtegbldkkggpjcaaGreatDoor
open Go.RowKit

/-- What is got at a place. -/
def getZ (s : ByteArray) (a : Int) : Int × Int × Int :=
  if a < 0 ∨ (s.size : Int) < a then (0, 0, 2)
  else if (parse (s.data.toList.drop a.toNat)).2.2 = 0 then (((parse (s.data.toList.drop a.toNat)).1 : Nat), a + ((parse (s.data.toList.drop a.toNat)).2.1 : Nat), 0)
  else (0, 0, ((parse (s.data.toList.drop a.toNat)).2.2 : Nat))
theorem getZ_out {s : ByteArray} {a : Int} (h : a < 0 ∨ (s.size : Int) < a) : getZ s a = (0, 0, 2) := if_pos h
theorem getZ_ok {s : ByteArray} {a n u : Nat} (h : a ≤ s.size) (hp : parse (s.data.toList.drop a) = (n, u, 0)) : getZ s a = ((n : Int), (a : Int) + u, 0) := by
  unfold getZ
  rw [if_neg (by omega), Int.toNat_natCast, hp]; rfl
theorem getZ_err {s : ByteArray} {a n u e : Nat} (h : a ≤ s.size) (hp : parse (s.data.toList.drop a) = (n, u, e + 1)) : getZ s a = (0, 0, ((e + 1 : Nat) : Int)) := by
  unfold getZ
  rw [if_neg (by omega), Int.toNat_natCast, hp, if_neg (by simp)]
theorem drop_at (s : ByteArray) (a : Nat) (h : a < s.size) : s.data.toList.drop a = s[a] :: s.data.toList.drop (a + 1) := by
  rw [List.drop_eq_getElem_cons (by simpa using h)]; rfl
theorem list_len (s : ByteArray) : s.data.toList.length = s.size := by rw [Array.length_toList]; rfl
theorem parse_small {x : UInt8} {r : List UInt8} (h : x.toNat < 128) : parse (x :: r) = (x.toNat, 1, 0) := by unfold parse; simp only; rw [if_pos h]
theorem parse_form {x : UInt8} {r : List UInt8} (h1 : ¬ x.toNat < 128) (h : x.toNat = 128 ∨ 136 < x.toNat) : parse (x :: r) = (0, 0, 4 + 1) := by unfold parse; simp only; rw [if_neg h1, if_pos h]
theorem parse_short {x : UInt8} {r : List UInt8} (h1 : ¬ x.toNat < 128) (h2 : ¬ (x.toNat = 128 ∨ 136 < x.toNat)) (h : r.length < x.toNat - 128) : parse (x :: r) = (0, 0, 3 + 1) := by unfold parse; simp only; rw [if_neg h1, if_neg h2, if_pos h]
theorem parse_lead {x y : UInt8} {r : List UInt8} (h1 : ¬ x.toNat < 128) (h2 : ¬ (x.toNat = 128 ∨ 136 < x.toNat)) (h3 : ¬ (y :: r).length < x.toNat - 128) (h : y.toNat = 0 ∨ (x.toNat = 129 ∧ y.toNat < 128)) : parse (x :: y :: r) = (0, 0, 4 + 1) := by
  unfold parse; simp only; rw [if_neg h1, if_neg h2, if_neg h3]; exact if_pos h
theorem parse_big {x y : UInt8} {r : List UInt8} (h1 : ¬ x.toNat < 128) (h2 : ¬ (x.toNat = 128 ∨ 136 < x.toNat)) (h3 : ¬ (y :: r).length < x.toNat - 128) (h4 : ¬ (y.toNat = 0 ∨ (x.toNat = 129 ∧ y.toNat < 128))) (h : x.toNat = 136 ∧ 127 < y.toNat) : parse (x :: y :: r) = (0, 0, 2 + 1) := by
  unfold parse; simp only; rw [if_neg h1, if_neg h2, if_neg h3]; exact (if_neg h4).trans (if_pos h)
theorem parse_ok {x y : UInt8} {r : List UInt8} (h1 : ¬ x.toNat < 128) (h2 : ¬ (x.toNat = 128 ∨ 136 < x.toNat)) (h3 : ¬ (y :: r).length < x.toNat - 128) (h4 : ¬ (y.toNat = 0 ∨ (x.toNat = 129 ∧ y.toNat < 128))) (h5 : ¬ (x.toNat = 136 ∧ 127 < y.toNat)) : parse (x :: y :: r) = (val ((y :: r).take (x.toNat - 128)), 1 + (x.toNat - 128), 0) := by
  unfold parse; simp only; rw [if_neg h1, if_neg h2, if_neg h3]; exact (if_neg h4).trans (if_neg h5)
theorem val_take (l : List UInt8) (j : Nat) (h : j < l.length) : val (l.take (j + 1)) = 256 * val (l.take j) + (l[j]).toNat := by
  rw [List.take_succ_eq_append_getElem h, val_snoc]
theorem val_mono (l : List UInt8) : ∀ (d j : Nat), j + d ≤ l.length → val (l.take j) ≤ val (l.take (j + d)) := by
  intro d
  induction d with
  | zero => intro j _; exact Nat.le_refl _
  | succ d ih =>
    intro j h
    have := ih j (by omega)
    rw [show j + (d + 1) = (j + d) + 1 by omega, val_take l (j + d) (by omega)]
    omega
theorem get_ret {a b c : Int} {p : Int × Int × Int} (h : p = (a, b, c)) : Ending.returned (Value.tuple #[.int .i64 a, .int .i64 b, .int .i64 c]) = .returned (.tuple #[.int .i64 p.1, .int .i64 p.2.1, .int .i64 p.2.2]) := by rw [h]

set_option maxRecDepth 20000 in
set_option maxHeartbeats 3200000 in
theorem rget_in (s : ByteArray) (a : Nat) (h : a < s.size) (hs : s.size ≤ 100000) (w : World) :
    Calls Tryz.prog 56 #[.string s, .int .i64 a] w fun e w' => e = .returned (.tuple #[.int .i64 (getZ s a).1, .int .i64 (getZ s a).2.1, .int .i64 (getZ s a).2.2]) ∧ w' = w := by
  have d0 : decide ((a : Int) < 0) = false := decide_eq_false (by omega)
  have d1 : decide (s.size < a) = false := decide_eq_false (by omega)
  have d2 : ((a : Int) == (s.size : Int)) = false := by simp; omega
  have i0 : (0 : Int) ≤ (a : Int) := by omega
  have i1 : (a : Int) < (s.size : Int) := by omega
  have i2 : (s.size : Int) ≤ 100000 := by omega
  have HD := Lib.hid (drop_at s a h)
  obtain ⟨x, hx0⟩ : ∃ x, x = s[a] := ⟨_, rfl⟩
  rw [← hx0] at HD
  obtain ⟨b, hb⟩ : ∃ b : Nat, b = x.toNat := ⟨_, rfl⟩
  have hbl := byte_lt x
  have hx : (s[a]'h).toNat = b := by rw [hb, hx0]
  rw [← hb] at hbl
  have HX := Lib.hid hb
  have i3 : (b : Int) < 256 := by omega
  have i4 : (0 : Int) ≤ (b : Int) := by omega
  have HA := Lib.hid (show a ≤ s.size by omega)
  clear hb hx0
  by_cases q1 : b < 128
  · have e1 : decide ((b : Int) < 128) = true := decide_eq_true (by omega)
    have HE := Lib.hid (getZ_ok HA.out (by rw [HD.out]; exact parse_small (by rw [← HX.out]; exact q1)))
    have HX2 := Lib.hid (show (x.toNat : Int) = (b : Int) by rw [HX.out])
    clear q1
    go_enter Tryz.func56, Tryz.ntmps56
    go_wp2
    go_ret3
    exact ⟨get_ret (HE.out.trans (by rw [HX2.out]; rfl)), rfl⟩
  -- cases
  have e1 : decide ((b : Int) < 128) = false := decide_eq_false (by omega)
  by_cases q2 : b = 128
  · have e2 : ((b : Int) == 128) = true := by simp; omega
    have HE := Lib.hid (getZ_err HA.out (by rw [HD.out]; exact parse_form (by rw [← HX.out]; exact q1) (Or.inl (by rw [← HX.out]; exact q2))))
    clear q1 q2
    go_enter Tryz.func56, Tryz.ntmps56
    go_wp2
    go_ret3
    exact ⟨get_ret HE.out, rfl⟩
  have e2 : ((b : Int) == 128) = false := by simp; omega
  by_cases q3 : 136 < b
  · have e3 : decide ((b : Int) > 136) = true := decide_eq_true (by omega)
    have HE := Lib.hid (getZ_err HA.out (by rw [HD.out]; exact parse_form (by rw [← HX.out]; exact q1) (Or.inr (by rw [← HX.out]; exact q3))))
    clear q1 q2 q3
    go_enter Tryz.func56, Tryz.ntmps56
    go_wp2
    go_ret3
    exact ⟨get_ret HE.out, rfl⟩
  have e3 : decide ((b : Int) > 136) = false := decide_eq_false (by omega)
  have HQ1 := Lib.hid (show ¬ x.toNat < 128 by rw [← HX.out]; exact q1)
  have HQ2 := Lib.hid (show ¬ (x.toNat = 128 ∨ 136 < x.toNat) by rw [← HX.out]; omega)
  have i5 : 128 < (b : Int) := by omega
  have i6 : (b : Int) ≤ 136 := by omega
  obtain ⟨R, hR⟩ : ∃ R, R = s.data.toList.drop (a + 1) := ⟨_, rfl⟩
  have hRl : R.length = s.size - (a + 1) := by rw [hR, List.length_drop, list_len]
  have HRE := Lib.hid hR
  rw [← hR] at HD
  by_cases q4 : s.size < a + 1 + b - 128
  · have e4 : decide ((s.size : Int) < (a : Int) + 1 + (b : Int) - 128) = true := decide_eq_true (by omega)
    have HE := Lib.hid (getZ_err HA.out (by rw [HD.out]; exact parse_short HQ1.out HQ2.out (by rw [hRl, ← HX.out]; omega)))
    clear q1 q2 q3 q4 hR hRl
    go_enter Tryz.func56, Tryz.ntmps56
    go_wp2
    go_ret3
    exact ⟨get_ret HE.out, rfl⟩
  have e4 : decide ((s.size : Int) < (a : Int) + 1 + (b : Int) - 128) = false := decide_eq_false (by omega)
  have hy0 : a + 1 < s.size := by omega
  have hR2 := hR.trans (drop_at s (a + 1) hy0)
  obtain ⟨y, hy1⟩ : ∃ y, y = s[a + 1] := ⟨_, rfl⟩
  rw [← hy1] at hR2
  obtain ⟨c, hc⟩ : ∃ c : Nat, c = y.toNat := ⟨_, rfl⟩
  have hcl := byte_lt y
  have hy : (s[a + 1]'hy0).toNat = c := by rw [hc, hy1]
  rw [← hc] at hcl
  have HY := Lib.hid hc
  have HR2 := Lib.hid hR2
  have i7 : (c : Int) < 256 := by omega
  have i8 : (0 : Int) ≤ (c : Int) := by omega
  have i9 : (a : Int) + 1 < (s.size : Int) := by omega
  have HQ3 := Lib.hid (show ¬ R.length < x.toNat - 128 by rw [hRl, ← HX.out]; omega)
  clear hc hy1 hR hR2
  by_cases q5 : c = 0
  · have e5 : ((c : Int) == 0) = true := by simp; omega
    have HE := Lib.hid (getZ_err HA.out (by rw [HD.out, HR2.out]; exact parse_lead HQ1.out HQ2.out (by rw [← HR2.out]; exact HQ3.out) (Or.inl (by rw [← HY.out]; exact q5))))
    clear q1 q2 q3 q4 q5 hRl
    go_enter Tryz.func56, Tryz.ntmps56
    go_wp2
    go_ret3
    exact ⟨get_ret HE.out, rfl⟩
  have e5 : ((c : Int) == 0) = false := by simp; omega
  by_cases q6 : b = 129 ∧ c < 128
  · have e6 : ((b : Int) == 129) = true := by simp; omega
    have e7 : decide ((c : Int) < 128) = true := decide_eq_true (by omega)
    have HE := Lib.hid (getZ_err HA.out (by rw [HD.out, HR2.out]; exact parse_lead HQ1.out HQ2.out (by rw [← HR2.out]; exact HQ3.out) (Or.inr (by rw [← HY.out, ← HX.out]; exact q6))))
    clear q1 q2 q3 q4 q5 q6 hRl
    go_enter Tryz.func56, Tryz.ntmps56
    go_wp2
    go_ret3
    exact ⟨get_ret HE.out, rfl⟩
  have HQ4 := Lib.hid (show ¬ (y.toNat = 0 ∨ (x.toNat = 129 ∧ y.toNat < 128)) by rw [← HY.out, ← HX.out]; omega)
  by_cases q7 : b = 136 ∧ 127 < c
  · have e6 : ((b : Int) == 129) = false := by simp; omega
    have e8 : ((b : Int) == 136) = true := by simp; omega
    have e9 : decide ((c : Int) > 127) = true := decide_eq_true (by omega)
    have HE := Lib.hid (getZ_err HA.out (by rw [HD.out, HR2.out]; exact parse_big HQ1.out HQ2.out (by rw [← HR2.out]; exact HQ3.out) HQ4.out (by rw [← HY.out, ← HX.out]; exact q7)))
    clear q1 q2 q3 q4 q5 q6 q7 hRl
    go_enter Tryz.func56, Tryz.ntmps56
    go_wp2
    go_ret3
    exact ⟨get_ret HE.out, rfl⟩
  have HQ5 := Lib.hid (show ¬ (x.toNat = 136 ∧ 127 < y.toNat) by rw [← HY.out, ← HX.out]; omega)
  have hpar : parse (s.data.toList.drop a) = (val (R.take (b - 128)), 1 + (b - 128), 0) := by
    rw [HD.out, HR2.out, HX.out]; exact parse_ok HQ1.out HQ2.out (by rw [← HR2.out]; exact HQ3.out) HQ4.out HQ5.out
  have HE := Lib.hid (getZ_ok HA.out hpar)
  have hmax := (parse_least hpar).2.2.2
  obtain ⟨k, hk⟩ : ∃ k, k = b - 128 := ⟨_, rfl⟩
  rw [← hk] at HE hmax
  have hk8 : k ≤ 8 := by omega
  have hkR : k ≤ R.length := by omega
  have HMX := Lib.hid (fun (j : Nat) (hj : j ≤ k) => Nat.lt_of_le_of_lt (show val (R.take j) ≤ val (R.take k) by have := val_mono R (k - j) j (by omega); rwa [show j + (k - j) = k by omega] at this) hmax)
  have HRJ := Lib.hid (show ∀ j, (hj : a + 1 + j < s.size) → ∃ hj' : j < R.length, R[j] = s[a + 1 + j] from fun j hj => ⟨by omega, by simp only [HRE.out, List.getElem_drop]; rfl⟩)
  have hkb : (b : Int) = 128 + (k : Int) := by omega
  have HKB := Lib.hid hkb
  have HKR := Lib.hid hkR
  have HBK := Lib.hid (show a + 1 + k ≤ s.size by omega)
  clear hpar hmax hk hkR hkb
  by_cases q8 : b = 129
  · have e6 : ((b : Int) == 129) = true := by simp; omega
    have e7 : decide ((c : Int) < 128) = false := decide_eq_false (by omega)
    have e8 : ((b : Int) == 136) = false := by simp; omega
    clear q1 q2 q3 q4 q5 q6 q7 q8 hRl
    go_enter Tryz.func56, Tryz.ntmps56
    go_wp2
    go_loopg [9, 10] k (fun gg n i wr => wr = w ∧ ∃ j : Nat, j + gg = k ∧ i = .int .i64 ((a : Int) + 1 + (j : Int)) ∧ n = .int .i64 (val (R.take j) : Nat))
    case atStart => exact ⟨rfl, 0, by omega, by go_num, rfl⟩
    case round =>
      obtain ⟨rfl, j, hj, rfl, rfl⟩ := hrel
      by_cases hlt : j < k
      · have hj1 : a + 1 + j < s.size := by have := HBK.out; omega
        obtain ⟨hj2, hj3⟩ := HRJ.out j hj1
        have hv := val_take R j hj2
        rw [hj3] at hv
        obtain ⟨z, hz⟩ : ∃ z : Nat, (s[a + 1 + j]'hj1).toNat = z := ⟨_, rfl⟩
        have hzl := byte_lt (s[a + 1 + j]'hj1)
        rw [hz] at hv hzl
        have hb1 := HMX.out (j + 1) (by omega)
        have hb2 := HMX.out j (by omega)
        have HV := Lib.hid hv
        rw [hv] at hb1
        clear hv hj3 hj2
        generalize val (R.take j) = m at *
        have u1 : (0 : Int) ≤ (m : Int) := by omega
        have u2 : 256 * (m : Int) + (z : Int) ≤ 9223372036854775807 := by omega
        have u3 : (z : Int) < 256 := by omega
        have u4 : (0 : Int) ≤ (j : Int) := by omega
        have u5 : (a : Int) + 1 + (j : Int) < (s.size : Int) := by omega
        have u6 : (j : Int) ≤ 8 := by omega
        have dl : decide ((a : Int) + 1 + (j : Int) < (a : Int) + 1 + (b : Int) - 128) = true := decide_eq_true (by have := HKB.out; omega)
        clear hb1 hb2
        go_wp2
        go_roundg (gk - 1)
        case measure => omega
        case rel => exact ⟨rfl, j + 1, by omega, by go_num, by rw [HV.out]; go_num⟩
      · obtain rfl : j = k := by omega
        have dl : decide ((a : Int) + 1 + (j : Int) < (a : Int) + 1 + (b : Int) - 128) = false := decide_eq_false (by have := HKB.out; omega)
        have HE2 := Lib.hid (show getZ s a = (((val (R.take j) : Nat) : Int), (a : Int) + 1 + (b : Int) - 128, 0) by rw [HE.out, HKB.out]; simp only [Prod.mk.injEq, true_and, and_true]; omega)
        clear hlt
        go_wp2
        go_ret3
        exact ⟨get_ret HE2.out, rfl⟩
  have e6 : ((b : Int) == 129) = false := by simp; omega
  by_cases q9 : b = 136
  · have e8 : ((b : Int) == 136) = true := by simp; omega
    have e9 : decide ((c : Int) > 127) = false := decide_eq_false (by omega)
    clear q1 q2 q3 q4 q5 q6 q7 q8 q9 hRl
    go_enter Tryz.func56, Tryz.ntmps56
    go_wp2
    go_loopg [9, 10] k (fun gg n i wr => wr = w ∧ ∃ j : Nat, j + gg = k ∧ i = .int .i64 ((a : Int) + 1 + (j : Int)) ∧ n = .int .i64 (val (R.take j) : Nat))
    case atStart => exact ⟨rfl, 0, by omega, by go_num, rfl⟩
    case round =>
      obtain ⟨rfl, j, hj, rfl, rfl⟩ := hrel
      by_cases hlt : j < k
      · have hj1 : a + 1 + j < s.size := by have := HBK.out; omega
        obtain ⟨hj2, hj3⟩ := HRJ.out j hj1
        have hv := val_take R j hj2
        rw [hj3] at hv
        obtain ⟨z, hz⟩ : ∃ z : Nat, (s[a + 1 + j]'hj1).toNat = z := ⟨_, rfl⟩
        have hzl := byte_lt (s[a + 1 + j]'hj1)
        rw [hz] at hv hzl
        have hb1 := HMX.out (j + 1) (by omega)
        have hb2 := HMX.out j (by omega)
        have HV := Lib.hid hv
        rw [hv] at hb1
        clear hv hj3 hj2
        generalize val (R.take j) = m at *
        have u1 : (0 : Int) ≤ (m : Int) := by omega
        have u2 : 256 * (m : Int) + (z : Int) ≤ 9223372036854775807 := by omega
        have u3 : (z : Int) < 256 := by omega
        have u4 : (0 : Int) ≤ (j : Int) := by omega
        have u5 : (a : Int) + 1 + (j : Int) < (s.size : Int) := by omega
        have u6 : (j : Int) ≤ 8 := by omega
        have dl : decide ((a : Int) + 1 + (j : Int) < (a : Int) + 1 + (b : Int) - 128) = true := decide_eq_true (by have := HKB.out; omega)
        clear hb1 hb2
        go_wp2
        go_roundg (gk - 1)
        case measure => omega
        case rel => exact ⟨rfl, j + 1, by omega, by go_num, by rw [HV.out]; go_num⟩
      · obtain rfl : j = k := by omega
        have dl : decide ((a : Int) + 1 + (j : Int) < (a : Int) + 1 + (b : Int) - 128) = false := decide_eq_false (by have := HKB.out; omega)
        have HE2 := Lib.hid (show getZ s a = (((val (R.take j) : Nat) : Int), (a : Int) + 1 + (b : Int) - 128, 0) by rw [HE.out, HKB.out]; simp only [Prod.mk.injEq, true_and, and_true]; omega)
        clear hlt
        go_wp2
        go_ret3
        exact ⟨get_ret HE2.out, rfl⟩
  · have e8 : ((b : Int) == 136) = false := by simp; omega
    clear q1 q2 q3 q4 q5 q6 q7 q8 q9 hRl
    go_enter Tryz.func56, Tryz.ntmps56
    go_wp2
    go_loopg [9, 10] k (fun gg n i wr => wr = w ∧ ∃ j : Nat, j + gg = k ∧ i = .int .i64 ((a : Int) + 1 + (j : Int)) ∧ n = .int .i64 (val (R.take j) : Nat))
    case atStart => exact ⟨rfl, 0, by omega, by go_num, rfl⟩
    case round =>
      obtain ⟨rfl, j, hj, rfl, rfl⟩ := hrel
      by_cases hlt : j < k
      · have hj1 : a + 1 + j < s.size := by have := HBK.out; omega
        obtain ⟨hj2, hj3⟩ := HRJ.out j hj1
        have hv := val_take R j hj2
        rw [hj3] at hv
        obtain ⟨z, hz⟩ : ∃ z : Nat, (s[a + 1 + j]'hj1).toNat = z := ⟨_, rfl⟩
        have hzl := byte_lt (s[a + 1 + j]'hj1)
        rw [hz] at hv hzl
        have hb1 := HMX.out (j + 1) (by omega)
        have hb2 := HMX.out j (by omega)
        have HV := Lib.hid hv
        rw [hv] at hb1
        clear hv hj3 hj2
        generalize val (R.take j) = m at *
        have u1 : (0 : Int) ≤ (m : Int) := by omega
        have u2 : 256 * (m : Int) + (z : Int) ≤ 9223372036854775807 := by omega
        have u3 : (z : Int) < 256 := by omega
        have u4 : (0 : Int) ≤ (j : Int) := by omega
        have u5 : (a : Int) + 1 + (j : Int) < (s.size : Int) := by omega
        have u6 : (j : Int) ≤ 8 := by omega
        have dl : decide ((a : Int) + 1 + (j : Int) < (a : Int) + 1 + (b : Int) - 128) = true := decide_eq_true (by have := HKB.out; omega)
        clear hb1 hb2
        go_wp2
        go_roundg (gk - 1)
        case measure => omega
        case rel => exact ⟨rfl, j + 1, by omega, by go_num, by rw [HV.out]; go_num⟩
      · obtain rfl : j = k := by omega
        have dl : decide ((a : Int) + 1 + (j : Int) < (a : Int) + 1 + (b : Int) - 128) = false := decide_eq_false (by have := HKB.out; omega)
        have HE2 := Lib.hid (show getZ s a = (((val (R.take j) : Nat) : Int), (a : Int) + 1 + (b : Int) - 128, 0) by rw [HE.out, HKB.out]; simp only [Prod.mk.injEq, true_and, and_true]; omega)
        clear hlt
        go_wp2
        go_ret3
        exact ⟨get_ret HE2.out, rfl⟩
end Go.Proofs.YtegbldkkggpjcaaGreatDoor
