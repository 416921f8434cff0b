/- The walk of SizeMeet (layer 1): it returns true, whatever it is given, and nothing that was there has turned. -/
import Derived.Test.YtnhkbiigdcgonaaSizeAwake
namespace Go.Proofs.Ytnhkbiigdcgonaa
open Go.RowKit

/-- What is left of a number under a mask of few bits is small. -/
theorem mask_i64 (x : Int) (m : Nat) (h : m < 512) : ∃ A : Nat, A ≤ m ∧ bits .and .i64 x m = (A : Int) := by
  refine ⟨(BitVec.ofInt 64 x).toNat &&& m, Nat.and_le_right, ?_⟩
  have hm : (BitVec.ofInt 64 (m : Int)).toNat = m := by
    rw [BitVec.ofInt_natCast, BitVec.toNat_ofNat]; exact Nat.mod_eq_of_lt (by omega)
  show IntKind.i64.wrap (((BitVec.ofInt 64 x &&& BitVec.ofInt 64 (m : Int)).toNat : Nat) : Int) = _
  rw [BitVec.toNat_and, hm, IntKind.wrap_i64]
  have := @Nat.and_le_right (BitVec.ofInt 64 x).toNat m
  omega

theorem below_drawn {w w' : World} {B : Nat} (n : Nat) (h : Below B w w') : Below B w (w'.drewN n) := ⟨h.os, h.tape, h.output, h.size, h.block⟩
set_option maxHeartbeats 3200000 in
theorem meet_walk (n f s0 s1 : Int) (w : World) : Calls Try.prog 5 #[.int .i64 n, .int .i64 f, .agg #[.int .i64 s0, .int .i64 s1]] w fun e w' => e = .returned (.bool true) ∧ Below w.heap.size w w' := by
  by_cases h : okB n f = true
  · obtain ⟨a, b, c, d⟩ := okB_yes h
    have H := Lib.hid h
    clear h
    obtain ⟨N, rfl⟩ := Int.eq_ofNat_of_zero_le (show 0 ≤ n by omega)
    have hp := Nat.pow_le_pow_right (n := 2) (by decide) (show N ≤ 9 by omega)
    have hp0 : 0 < 2 ^ N := Nat.two_pow_pos N
    obtain ⟨A, hA1, hA2⟩ := mask_i64 s0 (2 ^ N - 1) (by omega)
    obtain ⟨B, hB1, hB2⟩ := mask_i64 s1 (2 ^ N - 1) (by omega)
    have hA : A < 512 := by omega
    have hB : B < 512 := by omega
    have hAB := and_i64 A B hA hB
    have hABl : A &&& B < 512 := Nat.lt_of_le_of_lt Nat.and_le_left hA
    have hmeet := meet N A B (by omega) (by omega) (by omega)
    have CA := Lib.hid (fun w => count_nat A hA w)
    have CB := Lib.hid (fun w => count_nat B hB w)
    have CAB := Lib.hid (fun w => count_nat (A &&& B) hABl w)
    have cA := cnt_le A
    have cB := cnt_le B
    have cAB := cnt_le (A &&& B)
    generalize cnt A = x at *
    generalize cnt B = y at *
    generalize cnt (A &&& B) = z at *
    have L1 := Lib.hid (show x < f + 1 ∨ (f + 1 ≤ x ∧ x < N / 2 + 1) ∨ (N / 2 + 1 ≤ x ∧ x < N / 2 + f) ∨ N / 2 + f ≤ x by omega)
    have L2 := Lib.hid (show y < N / 2 + 1 ∨ (N / 2 + 1 ≤ y ∧ y < N - f) ∨ N - f ≤ y by omega)
    have hw : wrap64 (wrap64 (2 ^ N) - 1) = ((2 ^ N - 1 : Nat) : Int) := by
      have key : ∀ k : Fin 10, wrap64 (wrap64 (2 ^ k.val) - 1) = ((2 ^ k.val - 1 : Nat) : Int) := by decide +kernel
      exact key ⟨N, by omega⟩
    rw [← hw] at hA2 hB2
    have HA := Lib.hid hA2; clear hA2
    have HB := Lib.hid hB2; clear hB2
    have HAB := Lib.hid hAB; clear hAB
    clear hw hp hp0 hA1 hB1 hA hB hABl
    go_enter Try.func5, Try.ntmps5
    go_wp2_with (first
      | (go_at_call 8; refine (check_yes _ _ H.out _).mono ?_; rintro e w' ⟨rfl, rfl⟩))
    go_quiet (fail)
    have hB0 := below_drawn nq ((Below.refl w.heap.size w).alloc (Nat.le_refl _) (.cells #[.int .i64 s0, .int .i64 s1] 38))
    have HB0 := Lib.hid hB0; clear hB0
    go_wp2_with fail
    rw [HA.out, HB.out]
    refine (CA.out _).mono ?_; rintro e w' ⟨rfl, rfl⟩
    go_wp2_with fail
    refine (CB.out _).mono ?_; rintro e w' ⟨rfl, rfl⟩
    go_wp2_with fail
    rw [HAB.out]
    refine (CAB.out _).mono ?_; rintro e w' ⟨rfl, rfl⟩
    go_wp2_with (first
      | (go_at_call 9; refine (fast_yes _ _ H.out _).mono ?_; rintro e w' ⟨rfl, rfl⟩)
      | (go_at_call 11; refine (back_yes _ _ H.out _).mono ?_; rintro e w' ⟨rfl, rfl⟩)
      | (go_at_call 12; refine (most_yes _ a b _).mono ?_; rintro e w' ⟨rfl, rfl⟩))
    rcases L1.out with l1 | ⟨l1, l1'⟩ | ⟨l1, l1'⟩ | l1 <;> rcases L2.out with l2 | ⟨l2, l2'⟩ | l2
    all_goals
      go_wp2_with (first
        | (go_at_call 9; refine (fast_yes _ _ H.out _).mono ?_; rintro e w' ⟨rfl, rfl⟩)
        | (go_at_call 10; refine (slow_yes _ _ H.out _).mono ?_; rintro e w' ⟨rfl, rfl⟩)
        | (go_at_call 11; refine (back_yes _ _ H.out _).mono ?_; rintro e w' ⟨rfl, rfl⟩)
        | (go_at_call 12; refine (most_yes _ a b _).mono ?_; rintro e w' ⟨rfl, rfl⟩)
        | (go_at_call 16; refine (awake_any _).mono ?_; rintro e w3 ⟨rfl, hb3⟩))
      go_ret
      exact ⟨by first | rfl | exact ret_bool (by simp; omega), HB0.out.trans (hb3.mono HB0.out.size)⟩
  · have H := Lib.hid (Bool.eq_false_iff.2 h)
    clear h
    go_enter Try.func5, Try.ntmps5
    go_wp2_with (first
      | (go_at_call 8; refine (check_no _ _ H.out _).mono ?_; rintro e w' ⟨rfl, rfl⟩)
      | (go_at_call 16; refine (awake_any _).mono ?_; rintro e w3 ⟨rfl, hb3⟩))
    go_ret
    exact ⟨rfl, ((Below.refl _ _).alloc (Nat.le_refl _) _).trans (hb3.mono (by simp))⟩
end Go.Proofs.Ytnhkbiigdcgonaa
