/- The contracts of the plain functions of package size (canBe, Check, Fast, Slow, Back, Most), and of the document's own (Check, Sizes, Most): each is told what it returns at every pair of numbers, and the world stays as it is. -/
import Derived.Test.YtnhkbiigdcgonaaRows
import Derived.WalkKit
import Derived.WalkSpells
import Derived.Lib.Hide
import Derived.Outline
import Derived.Test.YtnhkbiigdcgonaaSizeBits
namespace Go.Proofs.Ytnhkbiigdcgonaa
open Go.RowKit

/-- n and f may be. -/
def okB (n f : Int) : Bool := decide (3 ≤ n) && decide (n ≤ 9) && decide (1 ≤ f) && decide (f ≤ (n - 1) / 2)
theorem okB_yes {n f : Int} (h : okB n f = true) : 3 ≤ n ∧ n ≤ 9 ∧ 1 ≤ f ∧ f ≤ (n - 1) / 2 := by simp [okB] at h; omega
theorem okB_no {n f : Int} (h : okB n f = false) : n < 3 ∨ 9 < n ∨ f < 1 ∨ (n - 1) / 2 < f := by simp [okB] at h; omega

theorem canBe_yes (n : Int) (h3 : 3 ≤ n) (h9 : n ≤ 9) (w : World) : Calls Try.prog 26 #[.int .i64 n] w fun e w' => e = .returned (.bool true) ∧ w = w' := by
  go_enter Try.func26, Try.ntmps26
  go_wp2
  go_ret
  exact ⟨rfl, rfl⟩
theorem canBe_no (n : Int) (h : n < 3 ∨ 9 < n) (w : World) : Calls Try.prog 26 #[.int .i64 n] w fun e w' => e = .returned (.bool false) ∧ w = w' := by
  rcases h with h | h
  · go_enter Try.func26, Try.ntmps26
    go_wp2
    go_ret
    exact ⟨rfl, rfl⟩
  · have h' : 3 ≤ n := by omega
    have e : decide (n ≤ 9) = false := by simp; omega
    go_enter Try.func26, Try.ntmps26
    go_wp2
    go_ret
    exact ⟨rfl, rfl⟩

theorem check_yes (n f : Int) (h : okB n f = true) (w : World) : Calls Try.prog 8 #[.int .i64 n, .int .i64 f] w fun e w' => e = .returned (.int .i64 0) ∧ w = w' := by
  obtain ⟨a, b, c, d⟩ := okB_yes h
  clear h
  go_enter Try.func8, Try.ntmps8
  go_wp2_with (go_at_call 26; refine (canBe_yes _ a b _).mono ?_; rintro e w' ⟨rfl, rfl⟩)
  go_ret
  exact ⟨rfl, rfl⟩
theorem check_no (n f : Int) (h : okB n f = false) (w : World) : Calls Try.prog 8 #[.int .i64 n, .int .i64 f] w fun e w' => e = .returned (.int .i64 2) ∧ w = w' := by
  have g := okB_no h
  clear h
  by_cases q : n < 3 ∨ 9 < n
  · go_enter Try.func8, Try.ntmps8
    go_wp2_with (go_at_call 26; refine (canBe_no _ q _).mono ?_; rintro e w' ⟨rfl, rfl⟩)
    go_ret
    exact ⟨rfl, rfl⟩
  · have a : 3 ≤ n := by omega
    have b : n ≤ 9 := by omega
    by_cases c : f < 1
    · clear g q
      go_enter Try.func8, Try.ntmps8
      go_wp2_with (go_at_call 26; refine (canBe_yes _ a b _).mono ?_; rintro e w' ⟨rfl, rfl⟩)
      go_ret
      exact ⟨rfl, rfl⟩
    · have c' : 1 ≤ f := by omega
      have d : (n - 1) / 2 < f := by omega
      clear g q c
      go_enter Try.func8, Try.ntmps8
      go_wp2_with (go_at_call 26; refine (canBe_yes _ a b _).mono ?_; rintro e w' ⟨rfl, rfl⟩)
      go_ret
      exact ⟨rfl, rfl⟩

theorem fast_yes (n f : Int) (h : okB n f = true) (w : World) : Calls Try.prog 9 #[.int .i64 n, .int .i64 f] w fun e w' => e = .returned (.int .i64 (n / 2 + f)) ∧ w = w' := by
  obtain ⟨a, b, c, d⟩ := okB_yes h
  have H := Lib.hid h; clear h
  go_enter Try.func9, Try.ntmps9
  go_wp2_with (go_at_call 8; refine (check_yes _ _ H.out _).mono ?_; rintro e w' ⟨rfl, rfl⟩)
  go_ret
  exact ⟨rfl, rfl⟩
theorem fast_no (n f : Int) (h : okB n f = false) (w : World) : Calls Try.prog 9 #[.int .i64 n, .int .i64 f] w fun e w' => e = .returned (.int .i64 0) ∧ w = w' := by
  have H := Lib.hid h; clear h
  go_enter Try.func9, Try.ntmps9
  go_wp2_with (go_at_call 8; refine (check_no _ _ H.out _).mono ?_; rintro e w' ⟨rfl, rfl⟩)
  go_ret
  exact ⟨rfl, rfl⟩

theorem slow_yes (n f : Int) (h : okB n f = true) (w : World) : Calls Try.prog 10 #[.int .i64 n, .int .i64 f] w fun e w' => e = .returned (.int .i64 (f + 1)) ∧ w = w' := by
  obtain ⟨a, b, c, d⟩ := okB_yes h
  have H := Lib.hid h; clear h
  go_enter Try.func10, Try.ntmps10
  go_wp2_with (go_at_call 8; refine (check_yes _ _ H.out _).mono ?_; rintro e w' ⟨rfl, rfl⟩)
  go_ret
  exact ⟨rfl, rfl⟩
theorem slow_no (n f : Int) (h : okB n f = false) (w : World) : Calls Try.prog 10 #[.int .i64 n, .int .i64 f] w fun e w' => e = .returned (.int .i64 0) ∧ w = w' := by
  have H := Lib.hid h; clear h
  go_enter Try.func10, Try.ntmps10
  go_wp2_with (go_at_call 8; refine (check_no _ _ H.out _).mono ?_; rintro e w' ⟨rfl, rfl⟩)
  go_ret
  exact ⟨rfl, rfl⟩

theorem back_yes (n f : Int) (h : okB n f = true) (w : World) : Calls Try.prog 11 #[.int .i64 n, .int .i64 f] w fun e w' => e = .returned (.int .i64 (n - f)) ∧ w = w' := by
  obtain ⟨a, b, c, d⟩ := okB_yes h
  have H := Lib.hid h; clear h
  go_enter Try.func11, Try.ntmps11
  go_wp2_with (go_at_call 8; refine (check_yes _ _ H.out _).mono ?_; rintro e w' ⟨rfl, rfl⟩)
  go_ret
  exact ⟨rfl, rfl⟩
theorem back_no (n f : Int) (h : okB n f = false) (w : World) : Calls Try.prog 11 #[.int .i64 n, .int .i64 f] w fun e w' => e = .returned (.int .i64 0) ∧ w = w' := by
  have H := Lib.hid h; clear h
  go_enter Try.func11, Try.ntmps11
  go_wp2_with (go_at_call 8; refine (check_no _ _ H.out _).mono ?_; rintro e w' ⟨rfl, rfl⟩)
  go_ret
  exact ⟨rfl, rfl⟩

theorem most_yes (n : Int) (a : 3 ≤ n) (b : n ≤ 9) (w : World) : Calls Try.prog 12 #[.int .i64 n] w fun e w' => e = .returned (.int .i64 (n / 2 + 1)) ∧ w = w' := by
  go_enter Try.func12, Try.ntmps12
  go_wp2_with (go_at_call 26; refine (canBe_yes _ a b _).mono ?_; rintro e w' ⟨rfl, rfl⟩)
  go_ret
  exact ⟨rfl, rfl⟩
theorem most_no (n : Int) (h : n < 3 ∨ 9 < n) (w : World) : Calls Try.prog 12 #[.int .i64 n] w fun e w' => e = .returned (.int .i64 0) ∧ w = w' := by
  have H := Lib.hid h; clear h
  go_enter Try.func12, Try.ntmps12
  go_wp2_with (go_at_call 26; refine (canBe_no _ H.out _).mono ?_; rintro e w' ⟨rfl, rfl⟩)
  go_ret
  exact ⟨rfl, rfl⟩

theorem isSet_yes (s : Int) (a : 0 ≤ s) (b : s ≤ 511) (w : World) : Calls Try.prog 31 #[.int .i64 s] w fun e w' => e = .returned (.bool true) ∧ w = w' := by
  go_enter Try.func31, Try.ntmps31
  go_wp2
  go_ret
  exact ⟨rfl, rfl⟩
theorem isSet_no (s : Int) (h : s < 0 ∨ 511 < s) (w : World) : Calls Try.prog 31 #[.int .i64 s] w fun e w' => e = .returned (.bool false) ∧ w = w' := by
  rcases h with h | h
  · go_enter Try.func31, Try.ntmps31
    go_wp2
    go_ret
    exact ⟨rfl, rfl⟩
  · have h' : 0 ≤ s := by omega
    have e : decide (s ≤ 511) = false := by simp; omega
    go_enter Try.func31, Try.ntmps31
    go_wp2
    go_ret
    exact ⟨rfl, rfl⟩
theorem isReplica_yes (s : Int) (a : 1 ≤ s) (b : s ≤ 9) (w : World) : Calls Try.prog 29 #[.int .i64 s] w fun e w' => e = .returned (.bool true) ∧ w = w' := by
  go_enter Try.func29, Try.ntmps29
  go_wp2
  go_ret
  exact ⟨rfl, rfl⟩
theorem isReplica_no (s : Int) (h : s < 1 ∨ 9 < s) (w : World) : Calls Try.prog 29 #[.int .i64 s] w fun e w' => e = .returned (.bool false) ∧ w = w' := by
  rcases h with h | h
  · go_enter Try.func29, Try.ntmps29
    go_wp2
    go_ret
    exact ⟨rfl, rfl⟩
  · have h' : 1 ≤ s := by omega
    have e : decide (s ≤ 9) = false := by simp; omega
    go_enter Try.func29, Try.ntmps29
    go_wp2
    go_ret
    exact ⟨rfl, rfl⟩
def bitZ (r : Int) : Int := ((2 ^ (r.toNat - 1) : Nat) : Int)
theorem bitZ_wrap (r : Int) (a : 1 ≤ r) (b : r ≤ 9) : wrap64 (2 ^ (r.toNat - 1)) = bitZ r := by
  have key : ∀ k : Fin 9, wrap64 (2 ^ k.val) = ((2 ^ k.val : Nat) : Int) := by decide +kernel
  exact key ⟨r.toNat - 1, by omega⟩
theorem ret_int {k : IntKind} {a b : Int} (h : a = b) : Ending.returned (.int k a) = .returned (.int k b) := by rw [h]
theorem ret_bool {a b : Bool} (h : a = b) : Ending.returned (.bool a) = .returned (.bool b) := by rw [h]
theorem bit_any (r : Int) (a : 1 ≤ r) (b : r ≤ 9) (w : World) : Calls Try.prog 30 #[.int .i64 r] w fun e w' => e = .returned (.int .i64 (bitZ r)) ∧ w = w' := by
  have b0 : 0 ≤ r - 1 := by omega
  go_enter Try.func30, Try.ntmps30
  go_wp2
  go_ret
  exact ⟨ret_int (bitZ_wrap r a b), rfl⟩

/-- Is r in the set? -/
def hasB (s r : Int) : Bool := decide (0 ≤ s) && decide (s ≤ 511) && decide (1 ≤ r) && decide (r ≤ 9) && s.toNat.testBit (r.toNat - 1)
theorem hasB_mid (s r : Int) (h0 : 0 ≤ s) (h5 : s ≤ 511) (h1 : 1 ≤ r) (h9 : r ≤ 9) : (bits .and .i64 s (bitZ r) != 0) = hasB s r := by
  obtain ⟨k, rfl⟩ := Int.eq_ofNat_of_zero_le h0
  have key : ∀ j : Fin 9, 2 ^ j.val < 512 := by decide
  have hk : k < 512 := by omega
  unfold bitZ hasB
  rw [and_i64 k _ hk (key ⟨r.toNat - 1, by omega⟩)]
  have bit : ∀ k : Fin 512, ∀ j : Fin 9, ((k.val &&& 2 ^ j.val) != 0) = k.val.testBit j.val := by decide +kernel
  have e := bit ⟨k, hk⟩ ⟨r.toNat - 1, by omega⟩
  simp only [decide_eq_true h0, decide_eq_true h5, decide_eq_true h1, decide_eq_true h9, Bool.true_and, Int.toNat_natCast]
  rw [← e, Bool.eq_iff_iff]
  simp only [bne_iff_ne, ne_eq]
  omega
set_option maxHeartbeats 400000 in
theorem has_any (s r : Int) (w : World) : Calls Try.prog 20 #[.int .i64 s, .int .i64 r] w fun e w' => e = .returned (.bool (hasB s r)) ∧ w = w' := by
  by_cases q : s < 0 ∨ 511 < s
  · have e : hasB s r = false := by
      unfold hasB; rcases q with q | q
      · rw [decide_eq_false (show ¬ 0 ≤ s by omega)]; rfl
      · rw [decide_eq_false (show ¬ s ≤ 511 by omega)]; simp
    rw [e]; clear e
    go_enter Try.func20, Try.ntmps20
    go_wp2_with (go_at_call 31; refine (isSet_no _ q _).mono ?_; rintro e w' ⟨rfl, rfl⟩)
    go_ret
    exact ⟨rfl, rfl⟩
  have h0 : 0 ≤ s := by omega
  have h5 : s ≤ 511 := by omega
  clear q
  by_cases q : r < 1 ∨ 9 < r
  · have e : hasB s r = false := by
      unfold hasB; rcases q with q | q
      · rw [decide_eq_false (show ¬ 1 ≤ r by omega)]; simp
      · rw [decide_eq_false (show ¬ r ≤ 9 by omega)]; simp
    rw [e]; clear e
    go_enter Try.func20, Try.ntmps20
    go_wp2_with (first | (go_at_call 31; refine (isSet_yes _ h0 h5 _).mono ?_; rintro e w' ⟨rfl, rfl⟩) | (go_at_call 29; refine (isReplica_no _ q _).mono ?_; rintro e w' ⟨rfl, rfl⟩))
    go_ret
    exact ⟨rfl, rfl⟩
  have h1 : 1 ≤ r := by omega
  have h9 : r ≤ 9 := by omega
  clear q
  have H := Lib.hid (hasB_mid s r h0 h5 h1 h9)
  go_enter Try.func20, Try.ntmps20
  go_wp2_with (first | (go_at_call 31; refine (isSet_yes _ h0 h5 _).mono ?_; rintro e w' ⟨rfl, rfl⟩) | (go_at_call 29; refine (isReplica_yes _ h1 h9 _).mono ?_; rintro e w' ⟨rfl, rfl⟩) | (go_at_call 30; refine (bit_any _ h1 h9 _).mono ?_; rintro e w' ⟨rfl, rfl⟩))
  go_ret
  exact ⟨ret_bool H.out, rfl⟩
theorem has_yes (s r : Int) (h : hasB s r = true) (w : World) : Calls Try.prog 20 #[.int .i64 s, .int .i64 r] w fun e w' => e = .returned (.bool true) ∧ w = w' := by
  rw [← h]; exact has_any s r w
theorem has_no (s r : Int) (h : hasB s r = false) (w : World) : Calls Try.prog 20 #[.int .i64 s, .int .i64 r] w fun e w' => e = .returned (.bool false) ∧ w = w' := by
  rw [← h]; exact has_any s r w

/-- What OnesCount64 reckons. -/
def popA (x : Int) : Int := IntKind.u64.wrap (bits .and .u64 (x / 2) 6148914691236517205 + bits .and .u64 x 6148914691236517205)
def popB (a : Int) : Int := IntKind.u64.wrap (bits .and .u64 (a / 4) 3689348814741910323 + bits .and .u64 a 3689348814741910323)
def popC (b : Int) : Int := bits .and .u64 (IntKind.u64.wrap (b / 16 + b)) 1085102592571150095
def popD (c : Int) : Int := IntKind.u64.wrap (c + c / 256)
def popE (d : Int) : Int := IntKind.u64.wrap (d + d / 65536)
def popF (e : Int) : Int := IntKind.u64.wrap (e + e / 4294967296)
def popG (f : Int) : Int := bits .and .i64 (wrap64 f) 127
theorem pop_eq (k : Nat) (hk : k < 512) : popG (popF (popE (popD (popC (popB (popA k)))))) = (cnt k : Int) := by
  have key : ∀ k : Fin 512, popG (popF (popE (popD (popC (popB (popA (k.val : Int))))))) = (cnt k.val : Int) := by decide +kernel
  exact key ⟨k, hk⟩
set_option maxHeartbeats 400000 in
theorem ones_any (k : Nat) (hk : k < 512) (w : World) : Calls Try.prog 35 #[.int .u64 k] w fun e w' => e = .returned (.int .i64 (cnt k)) ∧ w = w' := by
  have H := Lib.hid (pop_eq k hk)
  go_enter Try.func35, Try.ntmps35
  go_wp2
  go_ret
  exact ⟨ret_int H.out, rfl⟩
end Go.Proofs.Ytnhkbiigdcgonaa
