/- The walk of the law IdentTurns, upon the probe. -/
import Derived.Test.YtggmonofjfmfoaaIdentLawA
import Derived.Test.YtggmonofjfmfoaaIdentRNext
namespace Go.Proofs.Ytggmonofjfmfoaa
open Go.RowKit Go.Sort
set_option maxHeartbeats 1600000 in
theorem turns_t (haw : AwakeOk) (b s n : Int) (q1 : 3 ≤ n) (q2 : n ≤ 9) (q3 : 1 ≤ b) (q4 : b ≤ n) (w : World) : Calls Try.prog 5 #[.int .i64 b, .int .i64 s, .int .i64 n] w fun e w' => e = .returned (.bool true) ∧ RowKit.Below w.heap.size w w' := by
  have hf := fun w => first_any b n w
  rw [show firstB b n = true by simp [firstB]; omega] at hf
  have HF := Lib.hid hf; clear hf
  go_enter Try.func5, Try.ntmps5
  go_wp2_with fail
  refine (next_any _ _ _ _).mono ?_; rintro e w1 ⟨rfl, g1⟩
  go_wp2_with fail
  refine (rnext_any _ _ _ _).mono ?_; rintro e w' ⟨rfl, rfl⟩
  go_wp2_with fail
  refine (owner_any _ _ _).mono ?_; rintro e w2 ⟨rfl, g2⟩
  go_wp2_with fail
  refine (rowner_any _ _ _).mono ?_; rintro e w' ⟨rfl, rfl⟩
  go_wp2_with fail
  refine (HF.out _).mono ?_; rintro e w' ⟨rfl, rfl⟩
  have G := Lib.hid (g1.trans g2).below; clear g1 g2
  go_wp2_with fail
  refine (haw _).mono ?_; rintro e w' ⟨rfl, hb⟩
  go_wp2_with fail
  go_ret
  exact ⟨rfl, G.out.trans (hb.mono G.out.size)⟩
set_option maxHeartbeats 1600000 in
theorem turns_a (haw : AwakeOk) (b s n : Int) (q1 : n < 3) (w : World) : Calls Try.prog 5 #[.int .i64 b, .int .i64 s, .int .i64 n] w fun e w' => e = .returned (.bool true) ∧ RowKit.Below w.heap.size w w' := by
  have hf := fun w => first_any b n w
  have z1 : decide (n ≥ 3) = false := decide_eq_false (by omega)
  rw [show firstB b n = false by simp [firstB]; omega] at hf
  have HF := Lib.hid hf; clear hf
  go_enter Try.func5, Try.ntmps5
  go_wp2_with fail
  refine (next_any _ _ _ _).mono ?_; rintro e w1 ⟨rfl, g1⟩
  go_wp2_with fail
  refine (rnext_any _ _ _ _).mono ?_; rintro e w' ⟨rfl, rfl⟩
  go_wp2_with fail
  refine (owner_any _ _ _).mono ?_; rintro e w2 ⟨rfl, g2⟩
  go_wp2_with fail
  refine (rowner_any _ _ _).mono ?_; rintro e w' ⟨rfl, rfl⟩
  go_wp2_with fail
  refine (HF.out _).mono ?_; rintro e w' ⟨rfl, rfl⟩
  have G := Lib.hid (g1.trans g2).below; clear g1 g2
  go_wp2_with fail
  refine (haw _).mono ?_; rintro e w' ⟨rfl, hb⟩
  go_wp2_with fail
  go_ret
  exact ⟨rfl, G.out.trans (hb.mono G.out.size)⟩
set_option maxHeartbeats 1600000 in
theorem turns_b (haw : AwakeOk) (b s n : Int) (q1 : 3 ≤ n) (q2 : 9 < n) (w : World) : Calls Try.prog 5 #[.int .i64 b, .int .i64 s, .int .i64 n] w fun e w' => e = .returned (.bool true) ∧ RowKit.Below w.heap.size w w' := by
  have hf := fun w => first_any b n w
  have z2 : decide (n ≤ 9) = false := decide_eq_false (by omega)
  rw [show firstB b n = false by simp [firstB]; omega] at hf
  have HF := Lib.hid hf; clear hf
  go_enter Try.func5, Try.ntmps5
  go_wp2_with fail
  refine (next_any _ _ _ _).mono ?_; rintro e w1 ⟨rfl, g1⟩
  go_wp2_with fail
  refine (rnext_any _ _ _ _).mono ?_; rintro e w' ⟨rfl, rfl⟩
  go_wp2_with fail
  refine (owner_any _ _ _).mono ?_; rintro e w2 ⟨rfl, g2⟩
  go_wp2_with fail
  refine (rowner_any _ _ _).mono ?_; rintro e w' ⟨rfl, rfl⟩
  go_wp2_with fail
  refine (HF.out _).mono ?_; rintro e w' ⟨rfl, rfl⟩
  have G := Lib.hid (g1.trans g2).below; clear g1 g2
  go_wp2_with fail
  refine (haw _).mono ?_; rintro e w' ⟨rfl, hb⟩
  go_wp2_with fail
  go_ret
  exact ⟨rfl, G.out.trans (hb.mono G.out.size)⟩
set_option maxHeartbeats 1600000 in
theorem turns_c (haw : AwakeOk) (b s n : Int) (q1 : 3 ≤ n) (q2 : n ≤ 9) (q3 : b < 1) (w : World) : Calls Try.prog 5 #[.int .i64 b, .int .i64 s, .int .i64 n] w fun e w' => e = .returned (.bool true) ∧ RowKit.Below w.heap.size w w' := by
  have hf := fun w => first_any b n w
  have z3 : decide (b ≥ 1) = false := decide_eq_false (by omega)
  rw [show firstB b n = false by simp [firstB]; omega] at hf
  have HF := Lib.hid hf; clear hf
  go_enter Try.func5, Try.ntmps5
  go_wp2_with fail
  refine (next_any _ _ _ _).mono ?_; rintro e w1 ⟨rfl, g1⟩
  go_wp2_with fail
  refine (rnext_any _ _ _ _).mono ?_; rintro e w' ⟨rfl, rfl⟩
  go_wp2_with fail
  refine (owner_any _ _ _).mono ?_; rintro e w2 ⟨rfl, g2⟩
  go_wp2_with fail
  refine (rowner_any _ _ _).mono ?_; rintro e w' ⟨rfl, rfl⟩
  go_wp2_with fail
  refine (HF.out _).mono ?_; rintro e w' ⟨rfl, rfl⟩
  have G := Lib.hid (g1.trans g2).below; clear g1 g2
  go_wp2_with fail
  refine (haw _).mono ?_; rintro e w' ⟨rfl, hb⟩
  go_wp2_with fail
  go_ret
  exact ⟨rfl, G.out.trans (hb.mono G.out.size)⟩
set_option maxHeartbeats 1600000 in
theorem turns_d (haw : AwakeOk) (b s n : Int) (q1 : 3 ≤ n) (q2 : n ≤ 9) (q3 : 1 ≤ b) (q4 : n < b) (w : World) : Calls Try.prog 5 #[.int .i64 b, .int .i64 s, .int .i64 n] w fun e w' => e = .returned (.bool true) ∧ RowKit.Below w.heap.size w w' := by
  have hf := fun w => first_any b n w
  have z4 : decide (b ≤ n) = false := decide_eq_false (by omega)
  rw [show firstB b n = false by simp [firstB]; omega] at hf
  have HF := Lib.hid hf; clear hf
  go_enter Try.func5, Try.ntmps5
  go_wp2_with fail
  refine (next_any _ _ _ _).mono ?_; rintro e w1 ⟨rfl, g1⟩
  go_wp2_with fail
  refine (rnext_any _ _ _ _).mono ?_; rintro e w' ⟨rfl, rfl⟩
  go_wp2_with fail
  refine (owner_any _ _ _).mono ?_; rintro e w2 ⟨rfl, g2⟩
  go_wp2_with fail
  refine (rowner_any _ _ _).mono ?_; rintro e w' ⟨rfl, rfl⟩
  go_wp2_with fail
  refine (HF.out _).mono ?_; rintro e w' ⟨rfl, rfl⟩
  have G := Lib.hid (g1.trans g2).below; clear g1 g2
  go_wp2_with fail
  refine (haw _).mono ?_; rintro e w' ⟨rfl, hb⟩
  go_wp2_with fail
  go_ret
  exact ⟨rfl, G.out.trans (hb.mono G.out.size)⟩
theorem turns_walk (haw : AwakeOk) (b s n : Int) (w : World) : Calls Try.prog 5 #[.int .i64 b, .int .i64 s, .int .i64 n] w fun e w' => e = .returned (.bool true) ∧ RowKit.Below w.heap.size w w' := by
  by_cases q1 : n < 3
  · exact turns_a haw b s n q1 w
  by_cases q2 : 9 < n
  · exact turns_b haw b s n (by omega) q2 w
  by_cases q3 : b < 1
  · exact turns_c haw b s n (by omega) (by omega) q3 w
  by_cases q4 : n < b
  · exact turns_d haw b s n (by omega) (by omega) (by omega) q4 w
  · exact turns_t haw b s n (by omega) (by omega) (by omega) (by omega) w
end Go.Proofs.Ytggmonofjfmfoaa
