/- The walk of the law IdentNumbers, upon the probe. -/
import Derived.Test.YtggmonofjfmfoaaIdentBase
namespace Go.Proofs.Ytggmonofjfmfoaa
open Go.RowKit

/-- The laws' common probe answers true, and makes new memory alone. -/
def AwakeOk : Prop := ∀ w : World, Calls Try.prog 14 #[] w fun e w' => e = .returned (.bool true) ∧ RowKit.Below w.heap.size w w'
theorem idB_pos {x : Int} (h : idB x = true) : decide (x % 10 > 0) = true := by obtain ⟨a, b, c⟩ := idB_yes h; simp; omega
set_option maxHeartbeats 1600000 in
theorem numbers_11 (haw : AwakeOk) (r s x : Int) (_hx : x ≤ 9223372036854775807) (hm : mayB r s = true) (hi : idB x = true) (w : World) : Calls Try.prog 3 #[.int .i64 r, .int .i64 s, .int .i64 x] w fun e w' => e = .returned (.bool true) ∧ RowKit.Below w.heap.size w w' := by
  have HM := Lib.hid hm; clear hm
  have hp := idB_pos hi
  have HI := Lib.hid hi; clear hi
  go_enter Try.func3, Try.ntmps3
  go_wp2_with fail
  refine (make_yes _ _ HM.out _).mono ?_; rintro e w' ⟨rfl, rfl⟩
  go_wp2_with fail
  refine (rmake_yes _ _ HM.out _).mono ?_; rintro e w' ⟨rfl, rfl⟩
  go_wp2_with fail
  refine (split_yes _ HI.out _).mono ?_; rintro e w' ⟨rfl, rfl⟩
  go_wp2_with fail
  refine (self_yes _ HI.out _).mono ?_; rintro e w' ⟨rfl, rfl⟩
  go_wp2_with fail
  refine (seq_yes _ HI.out _).mono ?_; rintro e w' ⟨rfl, rfl⟩
  go_wp2_with fail
  refine (check_yes _ HI.out _).mono ?_; rintro e w' ⟨rfl, rfl⟩
  go_wp2_with fail
  refine (check_yes _ HI.out _).mono ?_; rintro e w' ⟨rfl, rfl⟩
  go_wp2_with fail
  refine (haw _).mono ?_; rintro e w' ⟨rfl, hb⟩
  go_wp2_with fail
  go_ret
  exact ⟨rfl, hb⟩
set_option maxHeartbeats 1600000 in
theorem numbers_10 (haw : AwakeOk) (r s x : Int) (hx : x ≤ 9223372036854775807) (hm : mayB r s = true) (hi : idB x = false) (w : World) : Calls Try.prog 3 #[.int .i64 r, .int .i64 s, .int .i64 x] w fun e w' => e = .returned (.bool true) ∧ RowKit.Below w.heap.size w w' := by
  have HM := Lib.hid hm; clear hm
  have HI := Lib.hid hi; clear hi
  go_enter Try.func3, Try.ntmps3
  go_wp2_with fail
  refine (make_yes _ _ HM.out _).mono ?_; rintro e w' ⟨rfl, rfl⟩
  go_wp2_with fail
  refine (rmake_yes _ _ HM.out _).mono ?_; rintro e w' ⟨rfl, rfl⟩
  go_wp2_with fail
  refine (split_no _ HI.out _).mono ?_; rintro e w' ⟨rfl, rfl⟩
  go_wp2_with fail
  refine (self_no _ hx HI.out _).mono ?_; rintro e w' ⟨rfl, rfl⟩
  go_wp2_with fail
  refine (seq_no _ hx HI.out _).mono ?_; rintro e w' ⟨rfl, rfl⟩
  go_wp2_with fail
  refine (check_no _ hx HI.out _).mono ?_; rintro e w' ⟨rfl, rfl⟩
  go_wp2_with fail
  refine (check_no _ hx HI.out _).mono ?_; rintro e w' ⟨rfl, rfl⟩
  go_wp2_with fail
  refine (check_no _ hx HI.out _).mono ?_; rintro e w' ⟨rfl, rfl⟩
  go_wp2_with fail
  refine (haw _).mono ?_; rintro e w' ⟨rfl, hb⟩
  go_wp2_with fail
  go_ret
  exact ⟨rfl, hb⟩
set_option maxHeartbeats 1600000 in
theorem numbers_01 (haw : AwakeOk) (r s x : Int) (_hx : x ≤ 9223372036854775807) (hm : mayB r s = false) (hi : idB x = true) (w : World) : Calls Try.prog 3 #[.int .i64 r, .int .i64 s, .int .i64 x] w fun e w' => e = .returned (.bool true) ∧ RowKit.Below w.heap.size w w' := by
  have HM := Lib.hid hm; clear hm
  have hp := idB_pos hi
  have HI := Lib.hid hi; clear hi
  go_enter Try.func3, Try.ntmps3
  go_wp2_with fail
  refine (make_no _ _ HM.out _).mono ?_; rintro e w' ⟨rfl, rfl⟩
  go_wp2_with fail
  refine (rmake_no _ _ HM.out _).mono ?_; rintro e w' ⟨rfl, rfl⟩
  go_wp2_with fail
  refine (split_yes _ HI.out _).mono ?_; rintro e w' ⟨rfl, rfl⟩
  go_wp2_with fail
  refine (self_yes _ HI.out _).mono ?_; rintro e w' ⟨rfl, rfl⟩
  go_wp2_with fail
  refine (seq_yes _ HI.out _).mono ?_; rintro e w' ⟨rfl, rfl⟩
  go_wp2_with fail
  refine (check_yes _ HI.out _).mono ?_; rintro e w' ⟨rfl, rfl⟩
  go_wp2_with fail
  refine (check_yes _ HI.out _).mono ?_; rintro e w' ⟨rfl, rfl⟩
  go_wp2_with fail
  refine (haw _).mono ?_; rintro e w' ⟨rfl, hb⟩
  go_wp2_with fail
  go_ret
  exact ⟨rfl, hb⟩
set_option maxHeartbeats 1600000 in
theorem numbers_00 (haw : AwakeOk) (r s x : Int) (hx : x ≤ 9223372036854775807) (hm : mayB r s = false) (hi : idB x = false) (w : World) : Calls Try.prog 3 #[.int .i64 r, .int .i64 s, .int .i64 x] w fun e w' => e = .returned (.bool true) ∧ RowKit.Below w.heap.size w w' := by
  have HM := Lib.hid hm; clear hm
  have HI := Lib.hid hi; clear hi
  go_enter Try.func3, Try.ntmps3
  go_wp2_with fail
  refine (make_no _ _ HM.out _).mono ?_; rintro e w' ⟨rfl, rfl⟩
  go_wp2_with fail
  refine (rmake_no _ _ HM.out _).mono ?_; rintro e w' ⟨rfl, rfl⟩
  go_wp2_with fail
  refine (split_no _ HI.out _).mono ?_; rintro e w' ⟨rfl, rfl⟩
  go_wp2_with fail
  refine (self_no _ hx HI.out _).mono ?_; rintro e w' ⟨rfl, rfl⟩
  go_wp2_with fail
  refine (seq_no _ hx HI.out _).mono ?_; rintro e w' ⟨rfl, rfl⟩
  go_wp2_with fail
  refine (check_no _ hx HI.out _).mono ?_; rintro e w' ⟨rfl, rfl⟩
  go_wp2_with fail
  refine (check_no _ hx HI.out _).mono ?_; rintro e w' ⟨rfl, rfl⟩
  go_wp2_with fail
  refine (check_no _ hx HI.out _).mono ?_; rintro e w' ⟨rfl, rfl⟩
  go_wp2_with fail
  refine (haw _).mono ?_; rintro e w' ⟨rfl, hb⟩
  go_wp2_with fail
  go_ret
  exact ⟨rfl, hb⟩
theorem numbers_walk (haw : AwakeOk) (r s x : Int) (hx : x ≤ 9223372036854775807) (w : World) : Calls Try.prog 3 #[.int .i64 r, .int .i64 s, .int .i64 x] w fun e w' => e = .returned (.bool true) ∧ RowKit.Below w.heap.size w w' := by
  cases hm : mayB r s <;> cases hi : idB x
  · exact numbers_00 haw r s x hx hm hi w
  · exact numbers_01 haw r s x hx hm hi w
  · exact numbers_10 haw r s x hx hm hi w
  · exact numbers_11 haw r s x hx hm hi w
end Go.Proofs.Ytggmonofjfmfoaa
