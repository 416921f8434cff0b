/- The walks of the four laws of layer 1 (size): each returns true, whatever it is given, and nothing that was there has turned. -/
import Derived.Test.YtnhkbiigdcgonaaSizeAwake
import Derived.Outline
namespace Go.Proofs.Ytnhkbiigdcgonaa
open Go.RowKit

set_option maxHeartbeats 3200000 in
theorem tells_walk (n f x : Int) (w : World) : Calls Try.prog 3 #[.int .i64 n, .int .i64 f, .int .i64 x] w fun e w' => e = .returned (.bool true) ∧ Below w.heap.size w w' := by
  by_cases h : okB n f = true
  · obtain ⟨a, b, c, d⟩ := okB_yes h
    have H := Lib.hid h
    clear h
    by_cases hx : 1 ≤ x ∧ x ≤ n
    · obtain ⟨x1, x2⟩ := hx
      go_enter Try.func3, Try.ntmps3
      go_wp2_with (first
        | (go_at_call 7; refine (sizes_yes _ _ H.out _).mono ?_; rintro e w' ⟨rfl, rfl⟩)
        | (go_at_call 8; refine (check_yes _ _ H.out _).mono ?_; rintro e w' ⟨rfl, rfl⟩)
        | (go_at_call 9; refine (fast_yes _ _ H.out _).mono ?_; rintro e w' ⟨rfl, rfl⟩)
        | (go_at_call 10; refine (slow_yes _ _ H.out _).mono ?_; rintro e w' ⟨rfl, rfl⟩)
        | (go_at_call 11; refine (back_yes _ _ H.out _).mono ?_; rintro e w' ⟨rfl, rfl⟩)
        | (go_at_call 12; refine (most_yes _ a b _).mono ?_; rintro e w' ⟨rfl, rfl⟩)
        | (go_at_call 13; refine (rmost_yes _ a b _).mono ?_; rintro e w' ⟨rfl, rfl⟩)
        | (go_at_call 14; refine (ring_yes _ _ _ H.out x1 x2 _).mono ?_; rintro e w1 ⟨rfl, hb1⟩)
        | (go_at_call 15; refine (rring_yes _ _ _ H.out x1 x2 _).mono ?_; rintro e w2 ⟨rfl, hb2⟩)
        | (go_at_call 16; refine (awake_any _).mono ?_; rintro e w3 ⟨rfl, hb3⟩))
      go_ret
      exact ⟨rfl, (hb1.trans (hb2.mono hb1.size)).trans (hb3.mono (Nat.le_trans hb1.size hb2.size))⟩
    · have HX := Lib.hid (show okB n f = false ∨ x < 1 ∨ n < x by right; omega)
      clear hx
      go_enter Try.func3, Try.ntmps3
      go_wp2_with (first
        | (go_at_call 7; refine (sizes_yes _ _ H.out _).mono ?_; rintro e w' ⟨rfl, rfl⟩)
        | (go_at_call 8; refine (check_yes _ _ H.out _).mono ?_; rintro e w' ⟨rfl, rfl⟩)
        | (go_at_call 9; refine (fast_yes _ _ H.out _).mono ?_; rintro e w' ⟨rfl, rfl⟩)
        | (go_at_call 10; refine (slow_yes _ _ H.out _).mono ?_; rintro e w' ⟨rfl, rfl⟩)
        | (go_at_call 11; refine (back_yes _ _ H.out _).mono ?_; rintro e w' ⟨rfl, rfl⟩)
        | (go_at_call 12; refine (most_yes _ a b _).mono ?_; rintro e w' ⟨rfl, rfl⟩)
        | (go_at_call 13; refine (rmost_yes _ a b _).mono ?_; rintro e w' ⟨rfl, rfl⟩)
        | (go_at_call 14; refine (ring_no _ _ _ HX.out _).mono ?_; rintro e w' ⟨rfl, rfl⟩)
        | (go_at_call 15; refine (rring_no _ _ _ HX.out _).mono ?_; rintro e w' ⟨rfl, rfl⟩)
        | (go_at_call 16; refine (awake_any _).mono ?_; rintro e w3 ⟨rfl, hb3⟩))
      go_ret
      exact ⟨rfl, hb3⟩
  · have H := Lib.hid (Bool.eq_false_iff.2 h)
    have HX := Lib.hid (show okB n f = false ∨ x < 1 ∨ n < x from Or.inl H.out)
    clear h
    by_cases hn : n < 3 ∨ 9 < n
    · have HN := Lib.hid hn; clear hn
      go_enter Try.func3, Try.ntmps3
      go_wp2_with (first
        | (go_at_call 7; refine (sizes_no _ _ H.out _).mono ?_; rintro e w' ⟨rfl, rfl⟩)
        | (go_at_call 8; refine (check_no _ _ H.out _).mono ?_; rintro e w' ⟨rfl, rfl⟩)
        | (go_at_call 9; refine (fast_no _ _ H.out _).mono ?_; rintro e w' ⟨rfl, rfl⟩)
        | (go_at_call 10; refine (slow_no _ _ H.out _).mono ?_; rintro e w' ⟨rfl, rfl⟩)
        | (go_at_call 11; refine (back_no _ _ H.out _).mono ?_; rintro e w' ⟨rfl, rfl⟩)
        | (go_at_call 12; refine (most_no _ HN.out _).mono ?_; rintro e w' ⟨rfl, rfl⟩)
        | (go_at_call 13; refine (rmost_no _ HN.out _).mono ?_; rintro e w' ⟨rfl, rfl⟩)
        | (go_at_call 14; refine (ring_no _ _ _ HX.out _).mono ?_; rintro e w' ⟨rfl, rfl⟩)
        | (go_at_call 15; refine (rring_no _ _ _ HX.out _).mono ?_; rintro e w' ⟨rfl, rfl⟩)
        | (go_at_call 16; refine (awake_any _).mono ?_; rintro e w3 ⟨rfl, hb3⟩))
      go_ret
      exact ⟨rfl, hb3⟩
    · have a : 3 ≤ n := by omega
      have b : n ≤ 9 := by omega
      clear hn
      go_enter Try.func3, Try.ntmps3
      go_wp2_with (first
        | (go_at_call 7; refine (sizes_no _ _ H.out _).mono ?_; rintro e w' ⟨rfl, rfl⟩)
        | (go_at_call 8; refine (check_no _ _ H.out _).mono ?_; rintro e w' ⟨rfl, rfl⟩)
        | (go_at_call 9; refine (fast_no _ _ H.out _).mono ?_; rintro e w' ⟨rfl, rfl⟩)
        | (go_at_call 10; refine (slow_no _ _ H.out _).mono ?_; rintro e w' ⟨rfl, rfl⟩)
        | (go_at_call 11; refine (back_no _ _ H.out _).mono ?_; rintro e w' ⟨rfl, rfl⟩)
        | (go_at_call 12; refine (most_yes _ a b _).mono ?_; rintro e w' ⟨rfl, rfl⟩)
        | (go_at_call 13; refine (rmost_yes _ a b _).mono ?_; rintro e w' ⟨rfl, rfl⟩)
        | (go_at_call 14; refine (ring_no _ _ _ HX.out _).mono ?_; rintro e w' ⟨rfl, rfl⟩)
        | (go_at_call 15; refine (rring_no _ _ _ HX.out _).mono ?_; rintro e w' ⟨rfl, rfl⟩)
        | (go_at_call 16; refine (awake_any _).mono ?_; rintro e w3 ⟨rfl, hb3⟩))
      go_ret
      exact ⟨rfl, hb3⟩
end Go.Proofs.Ytnhkbiigdcgonaa
