/- The contracts of the program's own follow and read; Get. -/
import Derived.Test.YtegbldkkggpjcaaGreatDoorNumRefB
import Derived.Lib.BitFns
namespace Go.Proofs.YtegbldkkggpjcaaGreatDoor
open Go.RowKit Go.Sort

attribute [local go_sem ↓] Go.wp_at_zero Go.wp_at_succ

theorem ret_int {a b : Int} (h : a = b) : Ending.returned (Value.int .i64 a) = .returned (.int .i64 b) := by rw [h]
/-! ### How many bytes follow -/
set_option maxRecDepth 100000 in
set_option maxHeartbeats 4000000 in
theorem len64_all (x : Int) (h0 : 0 ≤ x) (h : x < 9223372036854775808) (w : World) : Calls Tryz.prog 95 #[.int .u64 x] w fun e w' => e = .returned (.int .i64 (Lib.bitLen x.toNat)) ∧ w = w' := by
  by_cases q0 : x ≤ 255
  · have p1 : x ≤ 4294967295 := by omega
    have p2 : x ≤ 65535 := by omega
    have p3 : x ≤ 255 := by omega
    have p4 : x ≤ 255 := by omega
    have p5 : 0 ≤ x := by omega
    go_enter Tryz.func95, Tryz.ntmps95
    go_wp2
    go_ret
    refine ⟨ret_int ?_, rfl⟩
    have l := Lib.bitLen_le8' (x) (by omega) (by omega)
    have l8 := Lib.len8_of (x) (by omega) (by omega)
    have e : (x).toNat = x.toNat := by omega
    rw [e] at l l8
    generalize Lib.bitLen (x.toNat) = m at *
    rw [l8]
    simp only [IntWalk.wrap64_in (m : Int) ⟨by omega, by omega⟩]
  by_cases q1 : x ≤ 65535
  · have p1 : x ≤ 4294967295 := by omega
    have p2 : x ≤ 65535 := by omega
    have p3 : 256 ≤ x := by omega
    have p4 : x / 256 ≤ 255 := by omega
    have p5 : 0 ≤ x / 256 := by omega
    go_enter Tryz.func95, Tryz.ntmps95
    go_wp2
    go_ret
    refine ⟨ret_int ?_, rfl⟩
    have l := Lib.bitLen_le8' (x / 256) (by omega) (by omega)
    have l8 := Lib.len8_of (x / 256) (by omega) (by omega)
    have e : (x / 256).toNat = x.toNat / 256 := by omega
    have s0 := Lib.bitLen_shift8 (x.toNat) (by omega) (by omega)
    rw [e] at l l8
    generalize Lib.bitLen (x.toNat / 256) = m at *
    rw [l8]
    simp only [IntWalk.wrap64_in (m : Int) ⟨by omega, by omega⟩]
    rw [IntWalk.wrap64_in (8 + (m : Int)) ⟨by omega, by omega⟩]
    omega
  by_cases q2 : x ≤ 16777215
  · have p1 : x ≤ 4294967295 := by omega
    have p2 : 65536 ≤ x := by omega
    have p3 : x / 65536 ≤ 255 := by omega
    have p4 : x / 65536 ≤ 255 := by omega
    have p5 : 0 ≤ x / 65536 := by omega
    go_enter Tryz.func95, Tryz.ntmps95
    go_wp2
    go_ret
    refine ⟨ret_int ?_, rfl⟩
    have l := Lib.bitLen_le8' (x / 65536) (by omega) (by omega)
    have l8 := Lib.len8_of (x / 65536) (by omega) (by omega)
    have e : (x / 65536).toNat = x.toNat / 65536 := by omega
    have s0 := Lib.bitLen_shift16 (x.toNat) (by omega) (by omega)
    rw [e] at l l8
    generalize Lib.bitLen (x.toNat / 65536) = m at *
    rw [l8]
    simp only [IntWalk.wrap64_in (m : Int) ⟨by omega, by omega⟩]
    rw [IntWalk.wrap64_in (16 + (m : Int)) ⟨by omega, by omega⟩]
    omega
  by_cases q3 : x ≤ 4294967295
  · have p1 : x ≤ 4294967295 := by omega
    have p2 : 65536 ≤ x := by omega
    have p3 : 256 ≤ x / 65536 := by omega
    have p4 : x / 65536 / 256 ≤ 255 := by omega
    have p5 : 0 ≤ x / 65536 / 256 := by omega
    go_enter Tryz.func95, Tryz.ntmps95
    go_wp2
    go_ret
    refine ⟨ret_int ?_, rfl⟩
    have l := Lib.bitLen_le8' (x / 65536 / 256) (by omega) (by omega)
    have l8 := Lib.len8_of (x / 65536 / 256) (by omega) (by omega)
    have e : (x / 65536 / 256).toNat = x.toNat / 65536 / 256 := by omega
    have s0 := Lib.bitLen_shift16 (x.toNat) (by omega) (by omega)
    have s1 := Lib.bitLen_shift8 (x.toNat / 65536) (by omega) (by omega)
    rw [e] at l l8
    generalize Lib.bitLen (x.toNat / 65536 / 256) = m at *
    rw [l8]
    simp only [IntWalk.wrap64_in (m : Int) ⟨by omega, by omega⟩]
    rw [IntWalk.wrap64_in (24 + (m : Int)) ⟨by omega, by omega⟩]
    omega
  by_cases q4 : x ≤ 1099511627775
  · have p1 : 4294967296 ≤ x := by omega
    have p2 : x / 4294967296 ≤ 65535 := by omega
    have p3 : x / 4294967296 ≤ 255 := by omega
    have p4 : x / 4294967296 ≤ 255 := by omega
    have p5 : 0 ≤ x / 4294967296 := by omega
    go_enter Tryz.func95, Tryz.ntmps95
    go_wp2
    go_ret
    refine ⟨ret_int ?_, rfl⟩
    have l := Lib.bitLen_le8' (x / 4294967296) (by omega) (by omega)
    have l8 := Lib.len8_of (x / 4294967296) (by omega) (by omega)
    have e : (x / 4294967296).toNat = x.toNat / 4294967296 := by omega
    have s0 := Lib.bitLen_shift32 (x.toNat) (by omega) (by omega)
    rw [e] at l l8
    generalize Lib.bitLen (x.toNat / 4294967296) = m at *
    rw [l8]
    simp only [IntWalk.wrap64_in (m : Int) ⟨by omega, by omega⟩]
    rw [IntWalk.wrap64_in (32 + (m : Int)) ⟨by omega, by omega⟩]
    omega
  by_cases q5 : x ≤ 281474976710655
  · have p1 : 4294967296 ≤ x := by omega
    have p2 : x / 4294967296 ≤ 65535 := by omega
    have p3 : 256 ≤ x / 4294967296 := by omega
    have p4 : x / 4294967296 / 256 ≤ 255 := by omega
    have p5 : 0 ≤ x / 4294967296 / 256 := by omega
    go_enter Tryz.func95, Tryz.ntmps95
    go_wp2
    go_ret
    refine ⟨ret_int ?_, rfl⟩
    have l := Lib.bitLen_le8' (x / 4294967296 / 256) (by omega) (by omega)
    have l8 := Lib.len8_of (x / 4294967296 / 256) (by omega) (by omega)
    have e : (x / 4294967296 / 256).toNat = x.toNat / 4294967296 / 256 := by omega
    have s0 := Lib.bitLen_shift32 (x.toNat) (by omega) (by omega)
    have s1 := Lib.bitLen_shift8 (x.toNat / 4294967296) (by omega) (by omega)
    rw [e] at l l8
    generalize Lib.bitLen (x.toNat / 4294967296 / 256) = m at *
    rw [l8]
    simp only [IntWalk.wrap64_in (m : Int) ⟨by omega, by omega⟩]
    rw [IntWalk.wrap64_in (40 + (m : Int)) ⟨by omega, by omega⟩]
    omega
  by_cases q6 : x ≤ 72057594037927935
  · have p1 : 4294967296 ≤ x := by omega
    have p2 : 65536 ≤ x / 4294967296 := by omega
    have p3 : x / 4294967296 / 65536 ≤ 255 := by omega
    have p4 : x / 4294967296 / 65536 ≤ 255 := by omega
    have p5 : 0 ≤ x / 4294967296 / 65536 := by omega
    go_enter Tryz.func95, Tryz.ntmps95
    go_wp2
    go_ret
    refine ⟨ret_int ?_, rfl⟩
    have l := Lib.bitLen_le8' (x / 4294967296 / 65536) (by omega) (by omega)
    have l8 := Lib.len8_of (x / 4294967296 / 65536) (by omega) (by omega)
    have e : (x / 4294967296 / 65536).toNat = x.toNat / 4294967296 / 65536 := by omega
    have s0 := Lib.bitLen_shift32 (x.toNat) (by omega) (by omega)
    have s1 := Lib.bitLen_shift16 (x.toNat / 4294967296) (by omega) (by omega)
    rw [e] at l l8
    generalize Lib.bitLen (x.toNat / 4294967296 / 65536) = m at *
    rw [l8]
    simp only [IntWalk.wrap64_in (m : Int) ⟨by omega, by omega⟩]
    rw [IntWalk.wrap64_in (48 + (m : Int)) ⟨by omega, by omega⟩]
    omega
  · have p1 : 4294967296 ≤ x := by omega
    have p2 : 65536 ≤ x / 4294967296 := by omega
    have p3 : 256 ≤ x / 4294967296 / 65536 := by omega
    have p4 : x / 4294967296 / 65536 / 256 ≤ 255 := by omega
    have p5 : 0 ≤ x / 4294967296 / 65536 / 256 := by omega
    go_enter Tryz.func95, Tryz.ntmps95
    go_wp2
    go_ret
    refine ⟨ret_int ?_, rfl⟩
    have l := Lib.bitLen_le8' (x / 4294967296 / 65536 / 256) (by omega) (by omega)
    have l8 := Lib.len8_of (x / 4294967296 / 65536 / 256) (by omega) (by omega)
    have e : (x / 4294967296 / 65536 / 256).toNat = x.toNat / 4294967296 / 65536 / 256 := by omega
    have s0 := Lib.bitLen_shift32 (x.toNat) (by omega) (by omega)
    have s1 := Lib.bitLen_shift16 (x.toNat / 4294967296) (by omega) (by omega)
    have s2 := Lib.bitLen_shift8 (x.toNat / 4294967296 / 65536) (by omega) (by omega)
    rw [e] at l l8
    generalize Lib.bitLen (x.toNat / 4294967296 / 65536 / 256) = m at *
    rw [l8]
    simp only [IntWalk.wrap64_in (m : Int) ⟨by omega, by omega⟩]
    rw [IntWalk.wrap64_in (56 + (m : Int)) ⟨by omega, by omega⟩]
    omega
theorem bed_bits (x : Nat) : x < 18446744073709551616 → (bed x).length = (Lib.bitLen x + 7) / 8 := by
  induction x using Nat.strongRecOn with
  | ind x ih =>
    intro h
    by_cases h0 : x = 0
    · subst h0; rw [bed_zero]; rfl
    · rw [bed_step x (by omega), List.length_append, List.length_singleton]
      by_cases h1 : x < 256
      · rw [show x / 256 = 0 by omega, bed_zero]
        have h8 := Lib.bitLen_le x 8 (by omega) h1
        have h9 := Lib.bitLen_half x h0 h
        simp only [List.length_nil]
        omega
      · rw [ih (x / 256) (by omega) (by omega), Lib.bitLen_shift8 x (by omega) h]
        omega
/-- How many bytes follow the first one. -/
def moreN (n : Nat) : Nat := if n < 128 then 0 else (bed n).length
theorem moreN_small {n : Nat} (h : n < 128) : moreN n = 0 := if_pos h
theorem moreN_great {n : Nat} (h : ¬ n < 128) : moreN n = (bed n).length := if_neg h
theorem moreN_len (n : Nat) : (putL n).length = 1 + moreN n := by
  by_cases h : n < 128
  · rw [putL_small h, moreN_small h]; rfl
  · rw [putL_great h, moreN_great h, List.length_cons]; omega
theorem follow_any (n : Nat) (h : n < 9223372036854775808) (w : World) : Calls Tryz.prog 86 #[.int .i64 n] w fun e w' => e = .returned (.int .i64 (moreN n : Nat)) ∧ w = w' := by
  by_cases q : n < 128
  · have d1 : decide ((n : Int) < 128) = true := decide_eq_true (by omega)
    have HM := Lib.hid (moreN_small q)
    clear q
    go_enter Tryz.func86, Tryz.ntmps86
    go_wp2
    go_ret
    exact ⟨ret_int (by rw [HM.out]; rfl), rfl⟩
  · have d1 : decide ((n : Int) < 128) = false := decide_eq_false (by omega)
    have HM := Lib.hid (moreN_great q)
    have HB := Lib.hid (bed_bits n (by omega))
    have hcon := fun W' => len64_all (n : Int) (by omega) (by omega) W'
    rw [Int.toNat_natCast] at hcon
    have hb := Lib.bitLen_le n 64 (by omega) (by omega)
    have HC := Lib.hid hcon
    clear hcon
    generalize Lib.bitLen n = m at *
    have i0 : (m : Int) ≤ 64 := by omega
    have i1 : (0 : Int) ≤ (m : Int) := by omega
    have i2 : (n : Int) ≤ 9223372036854775807 := by omega
    have i3 : (0 : Int) ≤ (n : Int) := by omega
    clear q hb
    go_enter Tryz.func86, Tryz.ntmps86
    go_wp2_with (go_at_call 95; refine (HC.out _).mono ?_; rintro e w1 ⟨rfl, rfl⟩)
    go_ret
    exact ⟨ret_int (by rw [HM.out, HB.out]; go_num), rfl⟩
end Go.Proofs.YtegbldkkggpjcaaGreatDoor
