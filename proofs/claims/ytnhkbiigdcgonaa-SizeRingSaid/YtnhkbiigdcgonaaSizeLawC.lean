/- The walks of SizeRing and SizeMeet (layer 1): each returns true, whatever it is given, and nothing that was there has turned. -/
import Derived.Test.YtnhkbiigdcgonaaSizeLawB
import Derived.Outline
namespace Go.Proofs.Ytnhkbiigdcgonaa
open Go.RowKit

/-- The ring of x, as a set. -/
def ringS (n f x : Int) : Nat := setN (ringL n x (n / 2 + f).toNat)
/-- In how many rings of the replicas below k x is. -/
def inRings (n f x : Int) (k : Nat) : Nat := ((List.range k).filter (fun r : Nat => decide (1 ≤ r) && hasB (ringS n f r) x)).length
theorem inRings_hit (n f x : Int) (k : Nat) (h1 : 1 ≤ k) (h : hasB (ringS n f k) x = true) : inRings n f x (k + 1) = inRings n f x k + 1 := by
  simp [inRings, List.range_succ, List.filter_append, h, h1]
theorem inRings_miss (n f x : Int) (k : Nat) (h : hasB (ringS n f k) x = false) : inRings n f x (k + 1) = inRings n f x k := by
  simp [inRings, List.range_succ, List.filter_append, h]
theorem inRings_one (n f x : Int) : inRings n f x 1 = 0 := rfl
theorem inRings_le (n f x : Int) (k : Nat) : inRings n f x k ≤ k := by
  have := List.length_filter_le (fun r : Nat => decide (1 ≤ r) && hasB (ringS n f r) x) (List.range k)
  simpa [inRings] using this
/-- What holds of all rings: there are few, so each is looked at. -/
theorem rings_all (n f x : Int) (h : okB n f = true) (h1 : 1 ≤ x) (hn : x ≤ n) :
    hasB (ringS n f x) x = true ∧ (cnt (ringS n f x) : Int) = n / 2 + f ∧ (inRings n f x (n.toNat + 1) : Int) = n / 2 + f ∧ ∀ r : Int, n < r → r ≤ 9 → hasB (ringS n f x) r = false := by
  have key : ∀ n : Fin 10, ∀ f : Fin 5, ∀ x : Fin 10, okB n.val f.val = true → 1 ≤ x.val → x.val ≤ n.val →
      (hasB (ringS n.val f.val x.val) x.val = true ∧ (cnt (ringS n.val f.val x.val) : Int) = (n.val : Int) / 2 + f.val ∧ (inRings n.val f.val x.val ((n.val : Int).toNat + 1) : Int) = (n.val : Int) / 2 + f.val ∧ ∀ r : Fin 10, n.val < r.val → hasB (ringS n.val f.val x.val) r.val = false) := by decide +kernel
  obtain ⟨a, b, c, d⟩ := okB_yes h
  obtain ⟨n, rfl⟩ := Int.eq_ofNat_of_zero_le (show 0 ≤ n by omega)
  obtain ⟨f, rfl⟩ := Int.eq_ofNat_of_zero_le (show 0 ≤ f by omega)
  obtain ⟨x, rfl⟩ := Int.eq_ofNat_of_zero_le (show 0 ≤ x by omega)
  obtain ⟨k1, k2, k3, k4⟩ := key ⟨n, by omega⟩ ⟨f, by omega⟩ ⟨x, by omega⟩ h (by show 1 ≤ x; omega) (by show x ≤ n; omega)
  refine ⟨k1, k2, k3, fun r hr hr9 => ?_⟩
  obtain ⟨r, rfl⟩ := Int.eq_ofNat_of_zero_le (show 0 ≤ r by omega)
  exact k4 ⟨r, by omega⟩ (by show n < r; omega)
theorem ringS_lt (n f x : Int) : ringS n f x < 512 := setN_lt _

set_option maxHeartbeats 3200000 in
theorem rings_walk (n f x : Int) (w : World) : Calls Try.prog 6 #[.int .i64 n, .int .i64 f, .int .i64 x] w fun e w' => e = .returned (.bool true) ∧ Below w.heap.size w w' := by
  by_cases h : okB n f = true
  · by_cases hx : 1 ≤ x ∧ x ≤ n
    · obtain ⟨a, b, c, d⟩ := okB_yes h
      obtain ⟨x1, x2⟩ := hx
      obtain ⟨q1, q2, q3, q4⟩ := rings_all n f x h x1 x2
      have H := Lib.hid h
      have Q1 := Lib.hid q1
      have Q2 := Lib.hid q2
      have Q3 := Lib.hid q3
      have Q4 := Lib.hid q4
      clear h q1 q2 q3 q4
      obtain ⟨N, rfl⟩ := Int.eq_ofNat_of_zero_le (show 0 ≤ n by omega)
      go_enter Try.func6, Try.ntmps6
      go_wp2_with (first
        | (go_at_call 14; refine (ring_yes _ _ _ H.out x1 x2 _).mono ?_; rintro e w1 ⟨rfl, hb1⟩)
        | (go_at_call 8; refine (check_yes _ _ H.out _).mono ?_; rintro e w' ⟨rfl, rfl⟩))
      go_loopw [8, 9] (fun c r wr => ∃ k : Nat, 1 ≤ k ∧ k ≤ N + 1 ∧ r = .int .i64 k ∧ c = .int .i64 (inRings N f x k : Nat) ∧ Below w.heap.size w wr) (fun _ r _ => N + 1 - (intOf r).toNat)
      case atStart => exact ⟨1, by omega, by omega, rfl, rfl, hb1⟩
      case round =>
        obtain ⟨k, hk1, hk, rfl, rfl, hbel⟩ := hrel
        have hle := inRings_le N f x k
        by_cases hlt : k < N + 1
        · have y1 : (1 : Int) ≤ k := by omega
          have y2 : (k : Int) ≤ N := by omega
          by_cases hh : hasB (ringS N f k) x = true
          · have HH := Lib.hid hh; clear hh
            go_wp2_with (first
              | (go_at_call 14; refine (ring_yes _ _ _ H.out y1 y2 _).mono ?_; rintro e w2 ⟨rfl, hb2⟩)
              | (go_at_call 20; refine (has_yes _ _ HH.out _).mono ?_; rintro e w' ⟨rfl, rfl⟩))
            go_roundw
            case rel => exact ⟨k + 1, by omega, by omega, by go_num, by rw [inRings_hit _ _ _ _ hk1 HH.out]; go_num, hbel.trans (hb2.mono hbel.size)⟩
            case measure => simp [intOf]; omega
          · have HH := Lib.hid (Bool.eq_false_iff.2 hh); clear hh
            go_wp2_with (first
              | (go_at_call 14; refine (ring_yes _ _ _ H.out y1 y2 _).mono ?_; rintro e w2 ⟨rfl, hb2⟩)
              | (go_at_call 20; refine (has_no _ _ HH.out _).mono ?_; rintro e w' ⟨rfl, rfl⟩))
            go_roundw
            case rel => exact ⟨k + 1, by omega, by omega, by go_num, by rw [inRings_miss _ _ _ _ HH.out], hbel.trans (hb2.mono hbel.size)⟩
            case measure => simp [intOf]; omega
        · obtain rfl : k = N + 1 := by omega
          clear hlt hk
          have e3 : ((inRings (N : Int) f x (N + 1) : Nat) : Int) = (N : Int) / 2 + f := Q3.out
          have e4 : ((N + 1 : Nat) : Int) = (N : Int) + 1 := by omega
          rw [e3, e4]
          clear e3 e4 hle
          go_wp2
          go_loop [10] (fun r => ∃ k : Nat, N + 1 ≤ k ∧ k ≤ 10 ∧ r = .int .i64 k) (fun r => 10 - (intOf r).toNat)
          case atStart => exact ⟨N + 1, by omega, by omega, by go_num⟩
          case round =>
            obtain ⟨k, hk1, hk, rfl⟩ := hrel
            by_cases hlt : k < 10
            · have HH := Lib.hid (Q4.out k (by omega) (by omega))
              go_wp2_with (go_at_call 20; refine (has_no _ _ HH.out _).mono ?_; rintro e w' ⟨rfl, rfl⟩)
              go_round
              case rel => exact ⟨k + 1, by omega, by omega, by go_num⟩
              case measure => simp [intOf]; omega
            · obtain rfl : k = 10 := by omega
              go_wp2_with (first
                | (go_at_call 20; refine (has_yes _ _ Q1.out _).mono ?_; rintro e w' ⟨rfl, rfl⟩)
                | (go_at_call 22; refine (ret_eq (count_nat _ (ringS_lt N f x) _) Q2.out).mono ?_; rintro e w' ⟨rfl, rfl⟩)
                | (go_at_call 9; refine (fast_yes _ _ H.out _).mono ?_; rintro e w' ⟨rfl, rfl⟩)
                | (go_at_call 16; refine (awake_any _).mono ?_; rintro e w3 ⟨rfl, hb3⟩))
              go_ret
              exact ⟨rfl, hbel.trans (hb3.mono hbel.size)⟩
    · have HX := Lib.hid (show okB n f = false ∨ x < 1 ∨ n < x by right; omega)
      obtain ⟨a, b, c, d⟩ := okB_yes h
      have H := Lib.hid h
      clear h
      by_cases g : x < 1
      · clear hx
        go_enter Try.func6, Try.ntmps6
        go_wp2_with (first
          | (go_at_call 14; refine (ring_no _ _ _ HX.out _).mono ?_; rintro e w' ⟨rfl, rfl⟩)
          | (go_at_call 8; refine (check_yes _ _ H.out _).mono ?_; rintro e w' ⟨rfl, rfl⟩)
          | (go_at_call 16; refine (awake_any _).mono ?_; rintro e w3 ⟨rfl, hb3⟩))
        go_ret
        exact ⟨rfl, hb3⟩
      · have g1 : 1 ≤ x := by omega
        have g2 : n < x := by omega
        clear hx g
        go_enter Try.func6, Try.ntmps6
        go_wp2_with (first
          | (go_at_call 14; refine (ring_no _ _ _ HX.out _).mono ?_; rintro e w' ⟨rfl, rfl⟩)
          | (go_at_call 8; refine (check_yes _ _ H.out _).mono ?_; rintro e w' ⟨rfl, rfl⟩)
          | (go_at_call 16; refine (awake_any _).mono ?_; rintro e w3 ⟨rfl, hb3⟩))
        go_ret
        exact ⟨rfl, hb3⟩
  · have H := Lib.hid (Bool.eq_false_iff.2 h)
    have HX := Lib.hid (show okB n f = false ∨ x < 1 ∨ n < x from Or.inl H.out)
    clear h
    go_enter Try.func6, Try.ntmps6
    go_wp2_with (first
      | (go_at_call 14; refine (ring_no _ _ _ HX.out _).mono ?_; rintro e w' ⟨rfl, rfl⟩)
      | (go_at_call 8; refine (check_no _ _ H.out _).mono ?_; rintro e w' ⟨rfl, rfl⟩)
      | (go_at_call 16; refine (awake_any _).mono ?_; rintro e w3 ⟨rfl, hb3⟩))
    go_ret
    exact ⟨rfl, hb3⟩
end Go.Proofs.Ytnhkbiigdcgonaa
