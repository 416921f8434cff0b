/- The contracts of the plain functions of package ident on commands' numbers (isReplica, isSeq, Make, Check, Self, Seq), and of the document's own (Make, Split): each is told what it returns at every number, and the world stays as it is. -/
import Derived.Test.YtcgnodkbmpkhkaaRows
import Derived.WalkKit
import Derived.WalkSpells
import Derived.Lib.Hide
import Derived.Outline
namespace Go.Proofs.Ytcgnodkbmpkhkaa
open Go.RowKit

theorem ret_int {k : IntKind} {a b : Int} (h : a = b) : Ending.returned (.int k a) = .returned (.int k b) := by rw [h]
theorem ret_bool {a b : Bool} (h : a = b) : Ending.returned (.bool a) = .returned (.bool b) := by rw [h]

theorem isReplica_yes (r n : Int) (a : 1 ≤ r) (b : r ≤ n) (w : World) : Calls Try.prog 26 #[.int .i64 r, .int .i64 n] w fun e w' => e = .returned (.bool true) ∧ w = w' := by
  go_enter Try.func26, Try.ntmps26
  go_wp2
  go_ret
  exact ⟨rfl, rfl⟩
theorem isReplica_no (r n : Int) (h : r < 1 ∨ n < r) (w : World) : Calls Try.prog 26 #[.int .i64 r, .int .i64 n] w fun e w' => e = .returned (.bool false) ∧ w = w' := by
  by_cases q : r < 1
  · clear h
    go_enter Try.func26, Try.ntmps26
    go_wp2
    go_ret
    exact ⟨rfl, rfl⟩
  · have h' : 1 ≤ r := by omega
    have e : decide (r ≤ n) = false := by simp; omega
    clear h q
    go_enter Try.func26, Try.ntmps26
    go_wp2
    go_ret
    exact ⟨rfl, rfl⟩
theorem isSeq_yes (r : Int) (a : 1 ≤ r) (b : r ≤ 99999) (w : World) : Calls Try.prog 27 #[.int .i64 r] w fun e w' => e = .returned (.bool true) ∧ w = w' := by
  go_enter Try.func27, Try.ntmps27
  go_wp2
  go_ret
  exact ⟨rfl, rfl⟩
theorem isSeq_no (r : Int) (h : r < 1 ∨ 99999 < r) (w : World) : Calls Try.prog 27 #[.int .i64 r] w fun e w' => e = .returned (.bool false) ∧ w = w' := by
  by_cases q : r < 1
  · clear h
    go_enter Try.func27, Try.ntmps27
    go_wp2
    go_ret
    exact ⟨rfl, rfl⟩
  · have h' : 1 ≤ r := by omega
    have e : decide (r ≤ 99999) = false := by simp; omega
    clear h q
    go_enter Try.func27, Try.ntmps27
    go_wp2
    go_ret
    exact ⟨rfl, rfl⟩

/-- self and seq may make a number. -/
def mayB (r s : Int) : Bool := decide (1 ≤ r) && decide (r ≤ 9) && decide (1 ≤ s) && decide (s ≤ 99999)
theorem mayB_yes {r s : Int} (h : mayB r s = true) : 1 ≤ r ∧ r ≤ 9 ∧ 1 ≤ s ∧ s ≤ 99999 := by simp [mayB] at h; omega
theorem mayB_no {r s : Int} (h : mayB r s = false) : r < 1 ∨ 9 < r ∨ s < 1 ∨ 99999 < s := by simp [mayB] at h; omega

theorem make_yes (r s : Int) (h : mayB r s = true) (w : World) : Calls Try.prog 8 #[.int .i64 r, .int .i64 s] w fun e w' => e = .returned (.tuple #[.int .i64 (s * 10 + r), .int .i64 0]) ∧ w = w' := by
  obtain ⟨a, b, c, d⟩ := mayB_yes h
  clear h
  go_enter Try.func8, Try.ntmps8
  go_wp2_with (first | (go_at_call 26; refine (isReplica_yes _ _ a b _).mono ?_; rintro e w' ⟨rfl, rfl⟩) | (go_at_call 27; refine (isSeq_yes _ c d _).mono ?_; rintro e w' ⟨rfl, rfl⟩))
  go_ret2
  exact ⟨rfl, rfl⟩
theorem make_no (r s : Int) (h : mayB r s = false) (w : World) : Calls Try.prog 8 #[.int .i64 r, .int .i64 s] w fun e w' => e = .returned (.tuple #[.int .i64 0, .int .i64 2]) ∧ w = w' := by
  have g := mayB_no h
  clear h
  by_cases q : r < 1 ∨ 9 < r
  · go_enter Try.func8, Try.ntmps8
    go_wp2_with (go_at_call 26; refine (isReplica_no _ _ q _).mono ?_; rintro e w' ⟨rfl, rfl⟩)
    go_ret2
    exact ⟨rfl, rfl⟩
  · have a : 1 ≤ r := by omega
    have b : r ≤ 9 := by omega
    have c : s < 1 ∨ 99999 < s := by omega
    clear g q
    go_enter Try.func8, Try.ntmps8
    go_wp2_with (first | (go_at_call 26; refine (isReplica_yes _ _ a b _).mono ?_; rintro e w' ⟨rfl, rfl⟩) | (go_at_call 27; refine (isSeq_no _ c _).mono ?_; rintro e w' ⟨rfl, rfl⟩))
    go_ret2
    exact ⟨rfl, rfl⟩

theorem rmake_yes (r s : Int) (h : mayB r s = true) (w : World) : Calls Try.prog 9 #[.int .i64 r, .int .i64 s] w fun e w' => e = .returned (.tuple #[.int .i64 (s * 10 + r), .int .i64 0]) ∧ w = w' := by
  obtain ⟨a, b, c, d⟩ := mayB_yes h
  clear h
  have e0 : decide (r < 1) = false := by simp; omega
  have e1 : decide (r > 9) = false := by simp; omega
  have e3 : decide (s < 1) = false := by simp; omega
  have e2 : decide (s > 99999) = false := by simp; omega
  go_enter Try.func9, Try.ntmps9
  go_wp2
  go_ret2
  exact ⟨by show Ending.returned (.tuple #[.int .i64 (10 * s + r), .int .i64 0]) = _; rw [Int.mul_comm], rfl⟩
theorem rmake_no (r s : Int) (h : mayB r s = false) (w : World) : Calls Try.prog 9 #[.int .i64 r, .int .i64 s] w fun e w' => e = .returned (.tuple #[.int .i64 0, .int .i64 2]) ∧ w = w' := by
  have g := mayB_no h
  clear h
  by_cases q1 : r < 1
  · clear g
    go_enter Try.func9, Try.ntmps9
    go_wp2
    go_ret2
    exact ⟨rfl, rfl⟩
  have a : 1 ≤ r := by omega
  by_cases q2 : 9 < r
  · clear g q1
    go_enter Try.func9, Try.ntmps9
    go_wp2
    go_ret2
    exact ⟨rfl, rfl⟩
  have e2 : decide (r > 9) = false := by simp; omega
  by_cases q3 : s < 1
  · clear g q1 q2
    go_enter Try.func9, Try.ntmps9
    go_wp2
    go_ret2
    exact ⟨rfl, rfl⟩
  · have c : 1 ≤ s := by omega
    have d : 99999 < s := by omega
    clear g q1 q2 q3
    go_enter Try.func9, Try.ntmps9
    go_wp2
    go_ret2
    exact ⟨rfl, rfl⟩

/-- A number is a command's. -/
def idB (x : Int) : Bool := decide (11 ≤ x) && decide (x ≤ 999999) && !decide (x % 10 = 0)
theorem idB_yes {x : Int} (h : idB x = true) : 11 ≤ x ∧ x ≤ 999999 ∧ x % 10 ≠ 0 := by simp [idB] at h; omega
theorem idB_no {x : Int} (h : idB x = false) : x < 11 ∨ 999999 < x ∨ x % 10 = 0 := by simp [idB] at h; omega

theorem check_yes (x : Int) (h : idB x = true) (w : World) : Calls Try.prog 13 #[.int .i64 x] w fun e w' => e = .returned (.int .i64 0) ∧ w = w' := by
  obtain ⟨a, b, c⟩ := idB_yes h
  clear h
  go_enter Try.func13, Try.ntmps13
  go_wp2_with (first | (go_at_call 26; refine (isReplica_yes _ _ (by omega) (by omega) _).mono ?_; rintro e w' ⟨rfl, rfl⟩) | (go_at_call 27; refine (isSeq_yes _ (by omega) (by omega) _).mono ?_; rintro e w' ⟨rfl, rfl⟩))
  go_ret
  exact ⟨rfl, rfl⟩
theorem tmod_neg10 (x : Int) (h : x < 0) : x.tmod 10 < 1 := by
  have e : x = -(-x) := by omega
  rw [e, Int.neg_tmod, Int.tmod_eq_emod_of_nonneg (by omega)]; omega
set_option maxHeartbeats 1000000 in
theorem check_no (x : Int) (hx : x ≤ 9223372036854775807) (h : idB x = false) (w : World) : Calls Try.prog 13 #[.int .i64 x] w fun e w' => e = .returned (.int .i64 31) ∧ w = w' := by
  have g := idB_no h
  clear h
  by_cases n : x < 0
  · have q := tmod_neg10 x n
    clear g
    go_enter Try.func13, Try.ntmps13
    go_wp2_with (go_at_call 26; refine (isReplica_no _ _ (Or.inl q) _).mono ?_; rintro e w' ⟨rfl, rfl⟩)
    go_ret
    exact ⟨rfl, rfl⟩
  have n0 : 0 ≤ x := by omega
  by_cases q : x % 10 = 0
  · have q1 : x % 10 < 1 := by omega
    clear g n q
    go_enter Try.func13, Try.ntmps13
    go_wp2_with (go_at_call 26; refine (isReplica_no _ _ (Or.inl q1) _).mono ?_; rintro e w' ⟨rfl, rfl⟩)
    go_ret
    exact ⟨rfl, rfl⟩
  · have a1 : 1 ≤ x % 10 := by omega
    have a2 : x % 10 ≤ 9 := by omega
    have a3 : x / 10 < 1 ∨ 99999 < x / 10 := by omega
    clear g n q
    have A3 := Lib.hid a3; clear a3
    go_enter Try.func13, Try.ntmps13
    go_wp2_with (first | (go_at_call 26; refine (isReplica_yes _ _ a1 a2 _).mono ?_; rintro e w' ⟨rfl, rfl⟩) | (go_at_call 27; refine (isSeq_no _ A3.out _).mono ?_; rintro e w' ⟨rfl, rfl⟩))
    go_ret
    exact ⟨rfl, rfl⟩

theorem self_yes (x : Int) (h : idB x = true) (w : World) : Calls Try.prog 11 #[.int .i64 x] w fun e w' => e = .returned (.int .i64 (x % 10)) ∧ w = w' := by
  obtain ⟨a, b, c⟩ := idB_yes h
  have H := Lib.hid h; clear h
  go_enter Try.func11, Try.ntmps11
  go_wp2_with (go_at_call 13; refine (check_yes _ H.out _).mono ?_; rintro e w' ⟨rfl, rfl⟩)
  go_ret
  exact ⟨rfl, rfl⟩
theorem self_no (x : Int) (hx : x ≤ 9223372036854775807) (h : idB x = false) (w : World) : Calls Try.prog 11 #[.int .i64 x] w fun e w' => e = .returned (.int .i64 0) ∧ w = w' := by
  have H := Lib.hid h; clear h
  go_enter Try.func11, Try.ntmps11
  go_wp2_with (go_at_call 13; refine (check_no _ hx H.out _).mono ?_; rintro e w' ⟨rfl, rfl⟩)
  go_ret
  exact ⟨rfl, rfl⟩
theorem seq_yes (x : Int) (h : idB x = true) (w : World) : Calls Try.prog 12 #[.int .i64 x] w fun e w' => e = .returned (.int .i64 (x / 10)) ∧ w = w' := by
  obtain ⟨a, b, c⟩ := idB_yes h
  have H := Lib.hid h; clear h
  go_enter Try.func12, Try.ntmps12
  go_wp2_with (go_at_call 13; refine (check_yes _ H.out _).mono ?_; rintro e w' ⟨rfl, rfl⟩)
  go_ret
  exact ⟨rfl, rfl⟩
theorem seq_no (x : Int) (hx : x ≤ 9223372036854775807) (h : idB x = false) (w : World) : Calls Try.prog 12 #[.int .i64 x] w fun e w' => e = .returned (.int .i64 0) ∧ w = w' := by
  have H := Lib.hid h; clear h
  go_enter Try.func12, Try.ntmps12
  go_wp2_with (go_at_call 13; refine (check_no _ hx H.out _).mono ?_; rintro e w' ⟨rfl, rfl⟩)
  go_ret
  exact ⟨rfl, rfl⟩

theorem split_yes (x : Int) (h : idB x = true) (w : World) : Calls Try.prog 10 #[.int .i64 x] w fun e w' => e = .returned (.tuple #[.int .i64 (x % 10), .int .i64 (x / 10)]) ∧ w = w' := by
  obtain ⟨a, b, c⟩ := idB_yes h
  clear h
  have e0 : decide (x < 11) = false := by simp; omega
  have e1 : decide (x > 999999) = false := by simp; omega
  have e2 : (x % 10 == 0) = false := by simp; omega
  go_enter Try.func10, Try.ntmps10
  go_wp2
  go_ret2
  exact ⟨rfl, rfl⟩
theorem split_no (x : Int) (h : idB x = false) (w : World) : Calls Try.prog 10 #[.int .i64 x] w fun e w' => e = .returned (.tuple #[.int .i64 0, .int .i64 0]) ∧ w = w' := by
  have g := idB_no h
  clear h
  by_cases q1 : x < 11
  · clear g
    go_enter Try.func10, Try.ntmps10
    go_wp2
    go_ret2
    exact ⟨rfl, rfl⟩
  have a : 11 ≤ x := by omega
  by_cases q2 : 999999 < x
  · clear g q1
    have e0 : decide (x < 11) = false := by simp; omega
    go_enter Try.func10, Try.ntmps10
    go_wp2
    go_ret2
    exact ⟨rfl, rfl⟩
  · have e0 : decide (x < 11) = false := by simp; omega
    have e1 : decide (x > 999999) = false := by simp; omega
    have e2 : x % 10 = 0 := by omega
    clear g q1 q2
    go_enter Try.func10, Try.ntmps10
    go_wp2
    go_ret2
    exact ⟨rfl, rfl⟩
end Go.Proofs.Ytcgnodkbmpkhkaa
