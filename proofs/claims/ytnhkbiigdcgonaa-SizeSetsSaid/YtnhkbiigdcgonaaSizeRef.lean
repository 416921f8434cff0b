/- The contracts of the document's own answers for sets (Check, Sizes, Most, Bools, Has, List, Set, Ring, SameInts), and of size.List. -/
import Derived.Test.YtnhkbiigdcgonaaSizeSets
import Derived.Outline
namespace Go.Proofs.Ytnhkbiigdcgonaa
open Go.RowKit

theorem rcheck_yes (n f : Int) (h : okB n f = true) (w : World) : Calls Try.prog 25 #[.int .i64 n, .int .i64 f] w fun e w' => e = .returned (.int .i64 0) ∧ w = w' := by
  obtain ⟨a, b, c, d⟩ := okB_yes h
  have d' : 2 * f ≤ n - 1 := by omega
  clear h
  go_enter Try.func25, Try.ntmps25
  go_wp2
  go_ret
  exact ⟨rfl, rfl⟩
theorem rcheck_no (n f : Int) (h : okB n f = false) (hf : f ≤ 9) (w : World) : Calls Try.prog 25 #[.int .i64 n, .int .i64 f] w fun e w' => e = .returned (.int .i64 2) ∧ w = w' := by
  have g := okB_no h
  clear h
  by_cases q1 : n < 3
  · clear g
    go_enter Try.func25, Try.ntmps25
    go_wp2
    go_ret
    exact ⟨rfl, rfl⟩
  have p1 : 3 ≤ n := by omega
  by_cases q2 : 9 < n
  · clear g q1
    go_enter Try.func25, Try.ntmps25
    go_wp2
    go_ret
    exact ⟨rfl, rfl⟩
  have p2 : n ≤ 9 := by omega
  by_cases q3 : f < 1
  · clear g q1 q2
    go_enter Try.func25, Try.ntmps25
    go_wp2
    go_ret
    exact ⟨rfl, rfl⟩
  have p3 : 1 ≤ f := by omega
  have p4 : n - 1 < 2 * f := by omega
  clear g q1 q2 q3
  go_enter Try.func25, Try.ntmps25
  go_wp2
  go_ret
  exact ⟨rfl, rfl⟩
theorem sizes_yes (n f : Int) (h : okB n f = true) (w : World) : Calls Try.prog 7 #[.int .i64 n, .int .i64 f] w fun e w' =>
    e = .returned (.tuple #[.int .i64 (n / 2 + f), .int .i64 (f + 1), .int .i64 (n - f)]) ∧ w = w' := by
  obtain ⟨a, b, c, d⟩ := okB_yes h
  have d' : f ≤ 9 := by omega
  have H := Lib.hid h; clear h
  go_enter Try.func7, Try.ntmps7
  go_wp2_with (go_at_call 25; refine (rcheck_yes _ _ H.out _).mono ?_; rintro e w' ⟨rfl, rfl⟩)
  go_ret3
  exact ⟨rfl, rfl⟩
theorem sizes_no (n f : Int) (h : okB n f = false) (w : World) : Calls Try.prog 7 #[.int .i64 n, .int .i64 f] w fun e w' =>
    e = .returned (.tuple #[.int .i64 0, .int .i64 0, .int .i64 0]) ∧ w = w' := by
  have H := Lib.hid h; clear h
  by_cases q : 9 < f
  · go_enter Try.func7, Try.ntmps7
    go_wp2
    go_ret3
    exact ⟨rfl, rfl⟩
  · have q' : f ≤ 9 := by omega
    go_enter Try.func7, Try.ntmps7
    go_wp2_with (go_at_call 25; refine (rcheck_no _ _ H.out q' _).mono ?_; rintro e w' ⟨rfl, rfl⟩)
    go_ret3
    exact ⟨rfl, rfl⟩
theorem rmost_yes (n : Int) (a : 3 ≤ n) (b : n ≤ 9) (w : World) : Calls Try.prog 13 #[.int .i64 n] w fun e w' => e = .returned (.int .i64 (n / 2 + 1)) ∧ w = w' := by
  go_enter Try.func13, Try.ntmps13
  go_wp2
  go_ret
  exact ⟨rfl, rfl⟩
theorem rmost_no (n : Int) (h : n < 3 ∨ 9 < n) (w : World) : Calls Try.prog 13 #[.int .i64 n] w fun e w' => e = .returned (.int .i64 0) ∧ w = w' := by
  rcases h with h | h
  · go_enter Try.func13, Try.ntmps13
    go_wp2
    go_ret
    exact ⟨rfl, rfl⟩
  · have h' : 3 ≤ n := by omega
    go_enter Try.func13, Try.ntmps13
    go_wp2
    go_ret
    exact ⟨rfl, rfl⟩
/-- The ten bools of a set. -/
def boolsV (s : Int) : Array Value := #[.bool false, .bool (hasB s 1), .bool (hasB s 2), .bool (hasB s 3), .bool (hasB s 4), .bool (hasB s 5), .bool (hasB s 6), .bool (hasB s 7), .bool (hasB s 8), .bool (hasB s 9)]
theorem bools_eq (s : Int) (h0 : 0 ≤ s) (h5 : s ≤ 511) : ((#[.bool false, .bool (s % 2 == 1), .bool (s / 2 % 2 == 1), .bool (s / 2 / 2 % 2 == 1), .bool (s / 2 / 2 / 2 % 2 == 1), .bool (s / 2 / 2 / 2 / 2 % 2 == 1), .bool (s / 2 / 2 / 2 / 2 / 2 % 2 == 1), .bool (s / 2 / 2 / 2 / 2 / 2 / 2 % 2 == 1), .bool (s / 2 / 2 / 2 / 2 / 2 / 2 / 2 % 2 == 1), .bool (s / 2 / 2 / 2 / 2 / 2 / 2 / 2 / 2 % 2 == 1)] : Array Value)) = boolsV s := by
  have key : ∀ k : Fin 512, let s : Int := k.val; (s % 2 == 1) = hasB s 1 ∧ (s / 2 % 2 == 1) = hasB s 2 ∧ (s / 2 / 2 % 2 == 1) = hasB s 3 ∧ (s / 2 / 2 / 2 % 2 == 1) = hasB s 4 ∧ (s / 2 / 2 / 2 / 2 % 2 == 1) = hasB s 5 ∧ (s / 2 / 2 / 2 / 2 / 2 % 2 == 1) = hasB s 6 ∧ (s / 2 / 2 / 2 / 2 / 2 / 2 % 2 == 1) = hasB s 7 ∧ (s / 2 / 2 / 2 / 2 / 2 / 2 / 2 % 2 == 1) = hasB s 8 ∧ (s / 2 / 2 / 2 / 2 / 2 / 2 / 2 / 2 % 2 == 1) = hasB s 9 := by decide +kernel
  obtain ⟨k, rfl⟩ := Int.eq_ofNat_of_zero_le h0
  obtain ⟨e1, e2, e3, e4, e5, e6, e7, e8, e9⟩ := key ⟨k, by omega⟩
  dsimp only at e1 e2 e3 e4 e5 e6 e7 e8 e9
  unfold boolsV
  rw [← e1, ← e2, ← e3, ← e4, ← e5, ← e6, ← e7, ← e8, ← e9]
theorem bools_none (s : Int) (h : s < 0 ∨ 511 < s) : (#[.bool false, .bool false, .bool false, .bool false, .bool false, .bool false, .bool false, .bool false, .bool false, .bool false] : Array Value) = boolsV s := by
  have e : ∀ r, hasB s r = false := fun r => by
    unfold hasB; rcases h with q | q
    · rw [decide_eq_false (show ¬ 0 ≤ s by omega)]; rfl
    · rw [decide_eq_false (show ¬ s ≤ 511 by omega)]; simp
  unfold boolsV
  simp only [e]
set_option maxHeartbeats 1600000 in
theorem bools_any (s : Int) (w : World) : Calls Try.prog 28 #[.int .i64 s] w fun e w' => e = .returned (.agg (boolsV s)) ∧ Below w.heap.size w w' := by
  by_cases q : s < 0 ∨ 511 < s
  · rw [← bools_none s q]
    by_cases q1 : s < 0
    · clear q
      go_enter Try.func28, Try.ntmps28
      go_wp2
      exact bodyPost_ret (v := .agg #[.bool false, .bool false, .bool false, .bool false, .bool false, .bool false, .bool false, .bool false, .bool false, .bool false]) (by simp [results, Try.results28, go_sem]) rfl ⟨rfl, ((Below.refl _ _).alloc (Nat.le_refl _) _).alloc (by simp) _⟩
    · have q2 : 511 < s := by omega
      have q3 : 0 ≤ s := by omega
      clear q q1
      go_enter Try.func28, Try.ntmps28
      go_wp2
      exact bodyPost_ret (v := .agg #[.bool false, .bool false, .bool false, .bool false, .bool false, .bool false, .bool false, .bool false, .bool false, .bool false]) (by simp [results, Try.results28, go_sem]) rfl ⟨rfl, ((Below.refl _ _).alloc (Nat.le_refl _) _).alloc (by simp) _⟩
  have h0 : 0 ≤ s := by omega
  have h5 : s ≤ 511 := by omega
  rw [← bools_eq s h0 h5]
  clear q
  go_enter Try.func28, Try.ntmps28
  go_wp2
  refine wp_loop_rounds 10 ?_
  repeat (rw [rounds_succ]; go_wp2)
  exact bodyPost_ret (v := .agg #[.bool false, .bool (s % 2 == 1), .bool (s / 2 % 2 == 1), .bool (s / 2 / 2 % 2 == 1), .bool (s / 2 / 2 / 2 % 2 == 1), .bool (s / 2 / 2 / 2 / 2 % 2 == 1), .bool (s / 2 / 2 / 2 / 2 / 2 % 2 == 1), .bool (s / 2 / 2 / 2 / 2 / 2 / 2 % 2 == 1), .bool (s / 2 / 2 / 2 / 2 / 2 / 2 / 2 % 2 == 1), .bool (s / 2 / 2 / 2 / 2 / 2 / 2 / 2 / 2 % 2 == 1)]) (by simp [results, Try.results28, go_sem]) rfl ⟨rfl, ((Below.refl _ _).alloc (Nat.le_refl _) _).alloc (by simp) _⟩
end Go.Proofs.Ytnhkbiigdcgonaa
