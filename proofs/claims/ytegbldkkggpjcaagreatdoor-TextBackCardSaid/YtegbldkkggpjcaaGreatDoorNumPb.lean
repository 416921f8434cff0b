/- The contracts of the program's own read and Get. -/
import Derived.Test.YtegbldkkggpjcaaGreatDoorNumPa
namespace Go.Proofs.YtegbldkkggpjcaaGreatDoor
open Go.RowKit Go.Sort

attribute [local go_sem ↓] Go.wp_at_zero Go.wp_at_succ

/-- What is read of the bytes that follow. -/
def readZ (l : List UInt8) : Int × Int :=
  if (l.getD 0 0).toNat = 0 ∨ val l < 128 then (0, 5) else if 9223372036854775807 < val l then (0, 3) else ((val l : Nat), 0)
theorem two_ret {a b : Int} {p : Int × Int} (h : p = (a, b)) : Ending.returned (Value.tuple #[.int .i64 a, .int .i64 b]) = .returned (.tuple #[.int .i64 p.1, .int .i64 p.2]) := by rw [h]
theorem or_low (m z : Nat) (h : z < 256) : 256 * m ||| z = 256 * m + z := by
  rw [show 256 * m = m <<< 8 by rw [Nat.shiftLeft_eq]; omega, Nat.shiftLeft_add_eq_or_of_lt (by omega : z < 2 ^ 8)]
set_option maxRecDepth 20000 in
set_option maxHeartbeats 1600000 in
theorem read_any (s : ByteArray) (h1 : 1 ≤ s.size) (h8 : s.size ≤ 8) (w : World) :
    Calls Tryz.prog 79 #[.string s] w fun e w' => e = .returned (.tuple #[.int .i64 (readZ s.data.toList).1, .int .i64 (readZ s.data.toList).2]) ∧ w' = w := by
  obtain ⟨L, hL⟩ : ∃ L, L = s.data.toList := ⟨_, rfl⟩
  have hLl : L.length = s.size := by rw [hL, list_len]
  have HLJ := Lib.hid (show ∀ j, (hj : j < s.size) → ∃ hj' : j < L.length, L[j] = s[j] from fun j hj => ⟨by omega, by subst hL; rfl⟩)
  have HVL := Lib.hid (fun j => val_lt (L.take j))
  have HL := Lib.hid hL
  have HLL := Lib.hid hLl
  rw [← hL]
  clear hL hLl
  obtain ⟨n, hn⟩ : ∃ n, n = s.size := ⟨_, rfl⟩
  have HN := Lib.hid hn
  have i2 : (s.size : Int) ≤ 8 := by omega
  have i3 : 0 < (s.size : Int) := by omega
  clear hn
  go_enter Tryz.func79, Tryz.ntmps79
  go_wp2
  go_loopg [4, 8] n (fun gg m i wr => wr = w ∧ ∃ j : Nat, j + gg = n ∧ i = .int .i64 (j : Int) ∧ m = .int .u64 (val (L.take j) : Nat))
  case atStart => exact ⟨rfl, 0, by omega, rfl, rfl⟩
  case round =>
    obtain ⟨rfl, j, hj, rfl, rfl⟩ := hrel
    by_cases hlt : j < n
    · have hj1 : j < s.size := by rw [← HN.out]; exact hlt
      obtain ⟨hj2, hj3⟩ := HLJ.out j hj1
      have hv := val_take L j hj2
      rw [hj3] at hv
      obtain ⟨z, hz⟩ : ∃ z : Nat, (s[j]'hj1).toNat = z := ⟨_, rfl⟩
      have hzl := byte_lt (s[j]'hj1)
      rw [hz] at hv hzl
      have hb2 := HVL.out j
      have hb3 : 256 ^ (L.take j).length ≤ 256 ^ 7 := Nat.pow_le_pow_right (by decide) (by rw [List.length_take]; have : min j L.length ≤ j := Nat.min_le_left _ _; omega)
      have HV := Lib.hid hv
      clear hv hj3 hj2
      generalize val (L.take j) = m at *
      have HOR := Lib.hid (or_low m z hzl)
      have u1 : (0 : Int) ≤ (m : Int) := by omega
      have u2 : (m : Int) < 72057594037927936 := by omega
      have u3 : (z : Int) < 256 := by omega
      have u4 : (0 : Int) ≤ (j : Int) := by omega
      have u5 : (j : Int) < (s.size : Int) := by omega
      have u6 : (j : Int) ≤ 8 := by omega
      have HBO := Lib.hid (show bits .or .u64 ((m : Int) * 256) (z : Int) = ((256 * m + z : Nat) : Int) by
        rw [show (m : Int) * 256 = ((256 * m : Nat) : Int) by omega, u64_or_nat _ _ (by omega) (by omega), HOR.out])
      clear hb2 hb3
      go_wp2
      go_roundg (gk - 1)
      case measure => omega
      case rel => exact ⟨rfl, j + 1, by omega, by go_num, by rw [HV.out, HBO.out]⟩
    · obtain rfl : j = n := by omega
      have hte : L.take j = L := List.take_of_length_le (by rw [HLL.out, HN.out]; exact Nat.le_refl _)
      have hvl := HVL.out j
      rw [hte] at hvl ⊢
      have hb3 : 256 ^ L.length ≤ 256 ^ 8 := Nat.pow_le_pow_right (by decide) (by rw [HLL.out]; omega)
      obtain ⟨hy2, hy3⟩ := HLJ.out 0 (by omega)
      have HR := Lib.hid (show readZ L = if (L.getD 0 0).toNat = 0 ∨ val L < 128 then (0, 5) else if 9223372036854775807 < val L then (0, 3) else (((val L : Nat) : Int), 0) from rfl)
      have hgd : L.getD 0 0 = s[0] := by simp [List.getD, hy2, hy3]
      rw [hgd] at HR
      obtain ⟨c, hc⟩ : ∃ c : Nat, (s[0]'(by omega)).toNat = c := ⟨_, rfl⟩
      have hcl := byte_lt (s[0]'(by omega))
      rw [hc] at HR hcl
      have hy0 : (s[0]'(by omega)).toNat = c := hc
      clear hgd hy3 hte
      generalize val L = v at *
      have u1 : (0 : Int) ≤ (v : Int) := by omega
      have u2 : (v : Int) < 18446744073709551616 := by omega
      have u3 : (0 : Int) ≤ (c : Int) := by omega
      have u4 : (c : Int) < 256 := by omega
      have dl : decide (j < s.size) = false := decide_eq_false (by have := HN.out; omega)
      clear hvl hb3 hlt hc
      by_cases q1 : c = 0
      · have e1 : ((c : Int) == 0) = true := by simp; omega
        have HE := Lib.hid (HR.out.trans (if_pos (Or.inl q1)))
        clear q1
        go_wp2
        go_ret2
        exact ⟨two_ret HE.out, rfl⟩
      have e1 : ((c : Int) == 0) = false := by simp; omega
      by_cases q2 : v < 128
      · have e2 : decide ((v : Int) < 128) = true := decide_eq_true (by omega)
        have HE := Lib.hid (HR.out.trans (if_pos (Or.inr q2)))
        clear q1 q2
        go_wp2
        go_ret2
        exact ⟨two_ret HE.out, rfl⟩
      have e2 : decide ((v : Int) < 128) = false := decide_eq_false (by omega)
      have HR2 := Lib.hid (HR.out.trans (if_neg (by omega)))
      by_cases q3 : 9223372036854775807 < v
      · have e3 : decide ((v : Int) > 9223372036854775807) = true := decide_eq_true (by omega)
        have HE := Lib.hid (HR2.out.trans (if_pos q3))
        clear q1 q2 q3
        go_wp2
        go_ret2
        exact ⟨two_ret HE.out, rfl⟩
      · have e3 : decide ((v : Int) > 9223372036854775807) = false := decide_eq_false (by omega)
        have HE := Lib.hid (HR2.out.trans (if_neg q3))
        have u5 : (v : Int) ≤ 9223372036854775807 := by omega
        clear q1 q2 q3
        go_wp2
        go_ret2
        exact ⟨two_ret HE.out, rfl⟩

/-! ### Get -/
theorem readZ_one (y : UInt8) : readZ [y] = if y.toNat < 128 then (0, 5) else (((y.toNat : Nat) : Int), 0) := by
  have hv : val [y] = y.toNat := by simp [val]
  have hy := byte_lt y
  have e0 : (([y] : List UInt8).getD 0 0) = y := rfl
  unfold readZ
  rw [hv, e0]
  by_cases h : y.toNat < 128
  · rw [if_pos (Or.inr h), if_pos h]
  · rw [if_neg (by rintro (h1 | h1) <;> omega), if_neg (by omega), if_neg h]
theorem readZ_more {y : UInt8} {t : List UInt8} (h1 : 1 ≤ t.length) (h7 : t.length ≤ 7) :
    readZ (y :: t) = if y.toNat = 0 then (0, 5) else if t.length = 7 ∧ 127 < y.toNat then (0, 3) else (((val (y :: t) : Nat) : Int), 0) := by
  have hy := byte_lt y
  have hvc := val_cons y t
  have hvt := val_lt t
  have e0 : ((y :: t).getD 0 0) = y := rfl
  unfold readZ
  rw [e0]
  by_cases q0 : y.toNat = 0
  · rw [if_pos (Or.inl q0), if_pos q0]
  have hge : ¬ val (y :: t) < 128 := by
    have : 256 ^ 1 ≤ 256 ^ t.length := Nat.pow_le_pow_right (by decide) h1
    have : 1 * 256 ^ t.length ≤ y.toNat * 256 ^ t.length := Nat.mul_le_mul_right _ (by omega)
    omega
  rw [if_neg (by rintro (h | h) <;> omega), if_neg q0]
  by_cases q1 : t.length = 7 ∧ 127 < y.toNat
  · rw [if_pos q1, if_pos]
    rw [q1.1] at hvc
    omega
  · rw [if_neg q1, if_neg]
    by_cases h8 : t.length = 7
    · rw [h8] at hvc hvt
      have : y.toNat ≤ 127 := Nat.not_lt.1 fun q => q1 ⟨h8, q⟩
      omega
    · have hq : 256 ^ t.length ≤ 256 ^ 6 := Nat.pow_le_pow_right (by decide) (by omega)
      have : y.toNat * 256 ^ t.length ≤ 255 * 256 ^ t.length := Nat.mul_le_mul_right _ (by omega)
      omega
theorem parse_read {x : UInt8} {r : List UInt8} (h1 : ¬ x.toNat < 128) (h2 : ¬ (x.toNat = 128 ∨ 136 < x.toNat)) (h3 : ¬ r.length < x.toNat - 128) :
    parse (x :: r) = if (readZ (r.take (x.toNat - 128))).2 = 0 then ((readZ (r.take (x.toNat - 128))).1.toNat, 1 + (x.toNat - 128), 0) else (0, 0, (readZ (r.take (x.toNat - 128))).2.toNat) := by
  cases r with
  | nil => simp at h3; omega
  | cons y t =>
    obtain ⟨k, hk⟩ : ∃ k, x.toNat - 128 = k + 1 := ⟨x.toNat - 129, by omega⟩
    have hk7 : k ≤ 7 := by omega
    have hlt : (t.take k).length = k := by rw [List.length_take]; rw [hk] at h3; simp at h3; omega
    rw [hk, List.take_succ_cons]
    have hpl := parse_lead (x := x) (y := y) (r := t) h1 h2 h3
    have hpb := parse_big (x := x) (y := y) (r := t) h1 h2 h3
    have hpo := parse_ok (x := x) (y := y) (r := t) h1 h2 h3
    rw [hk, List.take_succ_cons] at hpo
    by_cases q0 : k = 0
    · subst q0
      rw [List.take_zero, readZ_one]; rw [List.take_zero] at hpo
      by_cases q1 : y.toNat < 128
      · rw [if_pos q1, hpl (Or.inr ⟨by omega, q1⟩)]; rfl
      · rw [if_neg q1, hpo (by omega) (by omega)]; simp [val]
    · rw [readZ_more (by omega) (by omega), hlt]
      by_cases q1 : y.toNat = 0
      · rw [if_pos q1, hpl (Or.inl q1)]; rfl
      · rw [if_neg q1]
        by_cases q2 : k = 7 ∧ 127 < y.toNat
        · rw [if_pos q2, hpb (by omega) (by omega)]; rfl
        · rw [if_neg q2, hpo (by omega) (by omega)]; simp
theorem getZ_read {s : ByteArray} {a : Nat} (h : a ≤ s.size) {x : UInt8} {r : List UInt8} (hd : s.data.toList.drop a = x :: r) (h1 : ¬ x.toNat < 128) (h2 : ¬ (x.toNat = 128 ∨ 136 < x.toNat)) (h3 : ¬ r.length < x.toNat - 128) :
    getZ s a = if (readZ (r.take (x.toNat - 128))).2 = 0 then ((readZ (r.take (x.toNat - 128))).1, (a : Int) + 1 + ((x.toNat : Int) - 128), 0) else (0, 0, (readZ (r.take (x.toNat - 128))).2) := by
  have hp := parse_read h1 h2 h3
  rw [← hd] at hp
  have hz : 0 ≤ (readZ (r.take (x.toNat - 128))).1 ∧ 0 ≤ (readZ (r.take (x.toNat - 128))).2 := by
    unfold readZ; split
    · exact ⟨by decide, by decide⟩
    · split
      · exact ⟨by decide, by decide⟩
      · exact ⟨Int.natCast_nonneg _, Int.le_refl 0⟩
  generalize readZ (r.take (x.toNat - 128)) = p at *
  obtain ⟨p1, p2⟩ := p
  simp only at hp hz ⊢
  by_cases q : p2 = 0
  · rw [if_pos q] at hp ⊢
    rw [getZ_ok h hp]
    simp only [Prod.mk.injEq]
    exact ⟨by omega, by omega, trivial⟩
  · rw [if_neg q] at hp ⊢
    obtain ⟨e, he⟩ : ∃ e : Nat, p2.toNat = e + 1 := ⟨p2.toNat - 1, by omega⟩
    rw [he] at hp
    rw [getZ_err h hp]
    simp only [Prod.mk.injEq, true_and]
    omega

set_option maxRecDepth 20000 in
set_option maxHeartbeats 3200000 in
theorem get_in (s : ByteArray) (a : Nat) (h : a < s.size) (hs : s.size ≤ 100000) (w : World) :
    Calls Tryz.prog 64 #[.string s, .int .i64 a] w fun e w' => e = .returned (.tuple #[.int .i64 (getZ s a).1, .int .i64 (getZ s a).2.1, .int .i64 (getZ s a).2.2]) ∧ Grew w w' := by
  have d0 : decide ((a : Int) < 0) = false := decide_eq_false (by omega)
  have d1 : decide (s.size < a) = false := decide_eq_false (by omega)
  have d2 : ((a : Int) == (s.size : Int)) = false := by simp; omega
  have i0 : (0 : Int) ≤ (a : Int) := by omega
  have i1 : (a : Int) < (s.size : Int) := by omega
  have i2 : (s.size : Int) ≤ 100000 := by omega
  have HD := Lib.hid (drop_at s a h)
  obtain ⟨x, hx0⟩ : ∃ x, x = s[a] := ⟨_, rfl⟩
  rw [← hx0] at HD
  obtain ⟨b, hb⟩ : ∃ b : Nat, b = x.toNat := ⟨_, rfl⟩
  have hbl := byte_lt x
  have hx : (s[a]'h).toNat = b := by rw [hb, hx0]
  rw [← hb] at hbl
  have HX := Lib.hid hb
  have i3 : (b : Int) < 256 := by omega
  have i4 : (0 : Int) ≤ (b : Int) := by omega
  have HA := Lib.hid (show a ≤ s.size by omega)
  clear hb hx0
  by_cases q1 : b < 128
  · have e1 : decide ((b : Int) < 128) = true := decide_eq_true (by omega)
    have HE := Lib.hid (getZ_ok HA.out (by rw [HD.out]; exact parse_small (by rw [← HX.out]; exact q1)))
    have HX2 := Lib.hid (show (x.toNat : Int) = (b : Int) by rw [HX.out])
    clear q1
    go_enter Tryz.func64, Tryz.ntmps64
    go_wp2
    go_quiet (fail)
    go_wp2
    go_ret3
    exact ⟨get_ret (HE.out.trans (by rw [HX2.out]; rfl)), (Grew.refl _).draws _ #[]⟩
  have e1 : decide ((b : Int) < 128) = false := decide_eq_false (by omega)
  by_cases q2 : b = 128
  · have HE := Lib.hid (getZ_err HA.out (by rw [HD.out]; exact parse_form (by rw [← HX.out]; exact q1) (Or.inl (by rw [← HX.out]; exact q2))))
    have e2 : decide ((b : Int) - 128 < 1) = true := decide_eq_true (by omega)
    clear q1 q2
    go_enter Tryz.func64, Tryz.ntmps64
    go_wp2
    go_quiet (fail)
    go_wp2
    go_ret3
    exact ⟨get_ret HE.out, (Grew.refl _).draws _ #[]⟩
  have e2 : decide ((b : Int) - 128 < 1) = false := decide_eq_false (by omega)
  by_cases q3 : 136 < b
  · have e3 : decide ((b : Int) - 128 > 8) = true := decide_eq_true (by omega)
    have HE := Lib.hid (getZ_err HA.out (by rw [HD.out]; exact parse_form (by rw [← HX.out]; exact q1) (Or.inr (by rw [← HX.out]; exact q3))))
    clear q1 q2 q3
    go_enter Tryz.func64, Tryz.ntmps64
    go_wp2
    go_quiet (fail)
    go_wp2
    go_ret3
    exact ⟨get_ret HE.out, (Grew.refl _).draws _ #[]⟩
  have e3 : decide ((b : Int) - 128 > 8) = false := decide_eq_false (by omega)
  have HQ1 := Lib.hid (show ¬ x.toNat < 128 by rw [← HX.out]; exact q1)
  have HQ2 := Lib.hid (show ¬ (x.toNat = 128 ∨ 136 < x.toNat) by rw [← HX.out]; omega)
  have i5 : 128 < (b : Int) := by omega
  have i6 : (b : Int) ≤ 136 := by omega
  obtain ⟨R, hR⟩ : ∃ R, R = s.data.toList.drop (a + 1) := ⟨_, rfl⟩
  have hRl : R.length = s.size - (a + 1) := by rw [hR, List.length_drop, list_len]
  rw [← hR] at HD
  have hxs : (s.extract (a + 1) s.size).size = s.size - (a + 1) := by rw [ByteArray.size_extract]; simp
  have HRX := Lib.hid (show (s.extract (a + 1) s.size).data.toList = R by
    rw [hR, ByteArray.data_extract, Array.toList_extract]; simp [List.extract, List.take_of_length_le])
  by_cases q4 : s.size < a + 1 + b - 128
  · have HE := Lib.hid (getZ_err HA.out (by rw [HD.out]; exact parse_short HQ1.out HQ2.out (by rw [hRl, ← HX.out]; omega)))
    have e4 : decide ((b : Int) - 128 > ((s.size - (a + 1) : Nat) : Int)) = true := decide_eq_true (by omega)
    clear q1 q2 q3 hR hRl
    go_enter Tryz.func64, Tryz.ntmps64
    go_wp2
    go_quiet (fail)
    go_wp2
    go_ret3
    exact ⟨get_ret HE.out, (Grew.refl _).draws _ #[]⟩
  have e4 : decide ((b : Int) - 128 > ((s.size - (a + 1) : Nat) : Int)) = false := decide_eq_false (by omega)
  have HG := Lib.hid (getZ_read HA.out HD.out HQ1.out HQ2.out (by rw [hRl, ← HX.out]; omega))
  obtain ⟨k, hk⟩ : ∃ k, k = b - 128 := ⟨_, rfl⟩
  have HKB := Lib.hid (show x.toNat - 128 = k by rw [← HX.out, hk])
  rw [HKB.out, show (a : Int) + 1 + ((x.toNat : Int) - 128) = (a : Int) + 1 + ((b : Int) - 128) by rw [HX.out]] at HG
  have hts : ((s.extract (a + 1) s.size).extract 0 (b - 128)).size = k := by rw [ByteArray.size_extract, hxs, hk]; omega
  have HS1 := Lib.hid (show 1 ≤ ((s.extract (a + 1) s.size).extract 0 (b - 128)).size by rw [hts]; omega)
  have HS8 := Lib.hid (show ((s.extract (a + 1) s.size).extract 0 (b - 128)).size ≤ 8 by rw [hts]; omega)
  have HTL := Lib.hid (show ((s.extract (a + 1) s.size).extract 0 (b - 128)).data.toList = R.take k by
    rw [ByteArray.data_extract, Array.toList_extract, HRX.out, hk]; simp [List.extract])
  obtain ⟨⟨p1, p2⟩, hp⟩ : ∃ p, readZ (R.take k) = p := ⟨_, rfl⟩
  rw [hp] at HG
  have HP := Lib.hid hp
  clear hp hts HKB
  have u7 : (0 : Int) ≤ (b : Int) - 128 ∧ (b : Int) - 128 ≤ ((s.size - (a + 1) : Nat) : Int) := ⟨by omega, by omega⟩
  by_cases qz : p2 = 0
  · have e5 : (p2 != 0) = false := by simp [qz]
    have HE := Lib.hid (HG.out.trans (if_pos qz))
    clear q1 q2 q3 q4 hR hRl hk qz
    go_enter Tryz.func64, Tryz.ntmps64
    go_wp2
    go_quiet (fail)
    go_wp2_with (go_at_call 79; (with_reducible refine (read_any _ HS1.out HS8.out _).mono ?_); rintro e w2 ⟨rfl, hw⟩; rw [HTL.out, HP.out]; obtain rfl := hw.symm)
    go_ret3
    exact ⟨get_ret HE.out, (Grew.refl _).draws _ #[]⟩
  · have e5 : (p2 != 0) = true := by simpa using qz
    have HE := Lib.hid (HG.out.trans (if_neg qz))
    clear q1 q2 q3 q4 hR hRl hk qz
    go_enter Tryz.func64, Tryz.ntmps64
    go_wp2
    go_quiet (fail)
    go_wp2_with (go_at_call 79; (with_reducible refine (read_any _ HS1.out HS8.out _).mono ?_); rintro e w2 ⟨rfl, hw⟩; rw [HTL.out, HP.out]; obtain rfl := hw.symm)
    go_ret3
    exact ⟨get_ret HE.out, (Grew.refl _).draws _ #[]⟩

theorem get_any (s : ByteArray) (a : Int) (hs : s.size ≤ 100000) (w : World) :
    Calls Tryz.prog 64 #[.string s, .int .i64 a] w fun e w' => e = .returned (.tuple #[.int .i64 (getZ s a).1, .int .i64 (getZ s a).2.1, .int .i64 (getZ s a).2.2]) ∧ Grew w w' := by
  by_cases q1 : a < 0
  · have d0 : decide (a < 0) = true := decide_eq_true q1
    have HE := Lib.hid (getZ_out (s := s) (Or.inl q1))
    clear q1
    go_enter Tryz.func64, Tryz.ntmps64
    go_wp2
    go_ret3
    exact ⟨get_ret HE.out, Grew.refl _⟩
  have d0 : decide (a < 0) = false := decide_eq_false q1
  by_cases q2 : (s.size : Int) < a
  · have d1 : decide (a > (s.size : Int)) = true := decide_eq_true q2
    have HE := Lib.hid (getZ_out (s := s) (Or.inr q2))
    clear q1 q2
    go_enter Tryz.func64, Tryz.ntmps64
    go_wp2
    go_ret3
    exact ⟨get_ret HE.out, Grew.refl _⟩
  obtain ⟨m, rfl⟩ : ∃ m : Nat, a = m := ⟨a.toNat, by omega⟩
  by_cases q3 : m = s.size
  · have d1 : decide (s.size < m) = false := decide_eq_false (by omega)
    have d2 : ((m : Int) == (s.size : Int)) = true := by simp; omega
    have HE := Lib.hid (getZ_err (s := s) (a := m) (n := 0) (u := 0) (e := 3) (by omega) (by rw [List.drop_of_length_le (by rw [list_len]; omega)]; rfl))
    clear q1 q2 q3 d0
    have d0 : decide ((m : Int) < 0) = false := decide_eq_false (by omega)
    go_enter Tryz.func64, Tryz.ntmps64
    go_wp2
    go_ret3
    exact ⟨get_ret HE.out, Grew.refl _⟩
  · exact get_in s m (by omega) hs w
end Go.Proofs.YtegbldkkggpjcaaGreatDoor
