/- The contracts of package ident's Next and of the document's own: each is told what it returns at every three numbers; the arithmetic of turns. -/
import Derived.Test.YtcgnodkbmpkhkaaIdentBallot
namespace Go.Proofs.Ytcgnodkbmpkhkaa
open Go.RowKit Go.Sort

/-- A next ballot may be asked for. -/
def askB (b s n : Int) : Bool := decide (3 ≤ n) && decide (n ≤ 9) && decide (1 ≤ s) && decide (s ≤ n) && decide (0 ≤ b) && decide (b ≤ 1000000)
theorem askB_yes {b s n : Int} (h : askB b s n = true) : 3 ≤ n ∧ n ≤ 9 ∧ 1 ≤ s ∧ s ≤ n ∧ 0 ≤ b ∧ b ≤ 1000000 := by simp [askB] at h; omega
theorem askB_no {b s n : Int} (h : askB b s n = false) : n < 3 ∨ 9 < n ∨ s < 1 ∨ n < s ∨ b < 0 ∨ 1000000 < b := by simp [askB] at h; omega
/-- The first number that may be a next ballot. -/
def aboveZ (b n : Int) : Int := max n b + 1
/-- The next ballot, were there no bound. -/
def nextZ (b s n : Int) : Int := aboveZ b n + (s + n - ((aboveZ b n - 1) % n + 1)) % n

theorem turn_at (a s n : Int) (h3 : 3 ≤ n) (h9 : n ≤ 9) (h1 : 1 ≤ s) (hs : s ≤ n) : (a + (s + n - ((a - 1) % n + 1)) % n - 1) % n + 1 = s := by
  have q : n = 3 ∨ n = 4 ∨ n = 5 ∨ n = 6 ∨ n = 7 ∨ n = 8 ∨ n = 9 := by omega
  rcases q with rfl | rfl | rfl | rfl | rfl | rfl | rfl <;> omega
theorem turn_least (a s n x : Int) (h3 : 3 ≤ n) (h9 : n ≤ 9) (hs : s ≤ n) (hx : a ≤ x) (hlt : x < a + (s + n - ((a - 1) % n + 1)) % n) : (x - 1) % n + 1 ≠ s := by
  have q : n = 3 ∨ n = 4 ∨ n = 5 ∨ n = 6 ∨ n = 7 ∨ n = 8 ∨ n = 9 := by omega
  rcases q with rfl | rfl | rfl | rfl | rfl | rfl | rfl <;> omega
theorem turn_few (t n : Int) (h3 : 3 ≤ n) : 0 ≤ t % n ∧ t % n < n := ⟨Int.emod_nonneg _ (by omega), Int.emod_lt_of_pos _ (by omega)⟩
theorem aboveZ_ge (b n : Int) : n + 1 ≤ aboveZ b n ∧ b + 1 ≤ aboveZ b n ∧ (aboveZ b n = n + 1 ∨ aboveZ b n = b + 1) := by unfold aboveZ; omega
theorem nextZ_ge (b s n : Int) (h3 : 3 ≤ n) : aboveZ b n ≤ nextZ b s n ∧ nextZ b s n < aboveZ b n + n := by
  have := turn_few (s + n - ((aboveZ b n - 1) % n + 1)) n h3
  unfold nextZ; omega

theorem next_no (b s n : Int) (h : askB b s n = false) (w : World) : Calls Try.prog 20 #[.int .i64 b, .int .i64 s, .int .i64 n] w fun e w' => e = .returned (.tuple #[.int .i64 0, .int .i64 2]) ∧ Grew w w' := by
  have g := askB_no h
  clear h
  by_cases q1 : n < 3 ∨ 9 < n
  · have Q := Lib.hid q1; clear g q1
    go_enter Try.func20, Try.ntmps20
    go_wp2_with (go_at_call 31; refine (canBe_no _ Q.out _).mono ?_; rintro e w' ⟨rfl, rfl⟩)
    go_ret2
    exact ⟨rfl, Grew.refl w⟩
  have h3 : 3 ≤ n := by omega
  have h9 : n ≤ 9 := by omega
  by_cases q2 : s < 1 ∨ n < s
  · have Q := Lib.hid q2; clear g q1 q2
    go_enter Try.func20, Try.ntmps20
    go_wp2_with (first | (go_at_call 31; refine (canBe_yes _ h3 h9 _).mono ?_; rintro e w' ⟨rfl, rfl⟩) | (go_at_call 26; refine (isReplica_no _ _ Q.out _).mono ?_; rintro e w' ⟨rfl, rfl⟩))
    go_ret2
    exact ⟨rfl, Grew.refl w⟩
  have h1 : 1 ≤ s := by omega
  have hs : s ≤ n := by omega
  have q3 : b < 1 ∨ 1000000 < b := by omega
  have e : (b != 0) = true := by simp; omega
  have Q := Lib.hid q3; clear g q1 q2 q3
  go_enter Try.func20, Try.ntmps20
  go_wp2_with (first | (go_at_call 31; refine (canBe_yes _ h3 h9 _).mono ?_; rintro e w' ⟨rfl, rfl⟩) | (go_at_call 26; refine (isReplica_yes _ _ h1 hs _).mono ?_; rintro e w' ⟨rfl, rfl⟩) | (go_at_call 32; refine (isBallot_no _ Q.out _).mono ?_; rintro e w' ⟨rfl, rfl⟩))
  go_ret2
  exact ⟨rfl, Grew.refl w⟩

theorem owns_some (x n : Int) (b : Nat) (hx1 : 1 ≤ x) (hx2 : x ≤ 1000010) (h3 : 3 ≤ n) (h9 : n ≤ 9) (w : World) (hc : w.cell? ⟨b, 0, none⟩ = some (.int .i64 n)) :
    Calls Try.prog 36 #[.int .i64 x, .pointer (some ⟨b, 0, none⟩)] w fun e w' => ∃ o : Int, e = .returned (.int .i64 o) ∧ Hid (o = (x - 1) % n + 1) ∧ 1 ≤ o ∧ o ≤ n ∧ w = w' :=
  (owns_any x n b hx1 hx2 h3 h9 w hc).mono fun _ _ ⟨he, hw⟩ => ⟨_, he, rfl, by have := turn_few (x - 1) n h3; omega, by have := turn_few (x - 1) n h3; omega, hw⟩
theorem nextZ_of (b s n a o : Int) (ha : aboveZ b n = a) (ho : o = (a - 1) % n + 1) : nextZ b s n = a + (s + n - o) % n := by
  unfold nextZ; rw [ha, ho]
theorem ret_two {k1 k2 : IntKind} {a b c d : Int} (h : a = b) (g : c = d) : Ending.returned (.tuple #[.int k1 a, .int k2 c]) = .returned (.tuple #[.int k1 b, .int k2 d]) := by rw [h, g]

set_option maxHeartbeats 1000000 in
theorem next_a (b s n : Int) (h3 : 3 ≤ n) (h9 : n ≤ 9) (h1 : 1 ≤ s) (hs : s ≤ n) (hm : b ≤ 1000000) (c0 : b = 0) (HA : Hid (aboveZ b n = n + 1)) (HL : Hid (nextZ b s n ≤ 1000000)) (w : World) : Calls Try.prog 20 #[.int .i64 b, .int .i64 s, .int .i64 n] w fun e w' => e = .returned (.tuple #[.int .i64 (nextZ b s n), .int .i64 0]) ∧ Grew w w' := by
  subst c0
  go_enter Try.func20, Try.ntmps20
  go_wp2_with fail
  refine (canBe_yes _ h3 h9 _).mono ?_; rintro e w' ⟨rfl, rfl⟩
  go_wp2_with fail
  refine (isReplica_yes _ _ h1 hs _).mono ?_; rintro e w' ⟨rfl, rfl⟩
  go_wp2_with fail
  refine (owners_any _ _).mono ?_; rintro e w' ⟨rfl, rfl⟩
  go_wp2_with fail
  refine (owns_some _ n _ (by omega) (by omega) h3 h9 _ (by rw [World.cell?_alloc_at _ _ _ _ rfl]; rfl)).mono ?_; rintro e w' ⟨o, rfl, HO, o1, o2, rfl⟩
  have t0 := turn_few (s + n - o) n h3
  go_wp2_with fail
  have hq := HL.out
  rw [nextZ_of _ _ _ _ _ HA.out HO.out] at hq
  refine (isBallot_yes _ (by omega) hq _).mono ?_; rintro e w' ⟨rfl, rfl⟩
  clear hq
  go_wp2_with fail
  go_ret2
  exact ⟨ret_two (nextZ_of _ _ _ _ _ HA.out HO.out).symm rfl, (Grew.refl w).alloc _⟩
set_option maxHeartbeats 1000000 in
theorem next_b (b s n : Int) (h3 : 3 ≤ n) (h9 : n ≤ 9) (h1 : 1 ≤ s) (hs : s ≤ n) (hm : b ≤ 1000000) (c0 : (b != 0) = true) (c1 : 1 ≤ b) (c2 : b ≤ n) (HA : Hid (aboveZ b n = n + 1)) (HL : Hid (nextZ b s n ≤ 1000000)) (w : World) : Calls Try.prog 20 #[.int .i64 b, .int .i64 s, .int .i64 n] w fun e w' => e = .returned (.tuple #[.int .i64 (nextZ b s n), .int .i64 0]) ∧ Grew w w' := by
  go_enter Try.func20, Try.ntmps20
  go_wp2_with fail
  refine (canBe_yes _ h3 h9 _).mono ?_; rintro e w' ⟨rfl, rfl⟩
  go_wp2_with fail
  refine (isReplica_yes _ _ h1 hs _).mono ?_; rintro e w' ⟨rfl, rfl⟩
  go_wp2_with fail
  refine (isBallot_yes _ c1 hm _).mono ?_; rintro e w' ⟨rfl, rfl⟩
  go_wp2_with fail
  refine (owners_any _ _).mono ?_; rintro e w' ⟨rfl, rfl⟩
  go_wp2_with fail
  refine (owns_some _ n _ (by omega) (by omega) h3 h9 _ (by rw [World.cell?_alloc_at _ _ _ _ rfl]; rfl)).mono ?_; rintro e w' ⟨o, rfl, HO, o1, o2, rfl⟩
  have t0 := turn_few (s + n - o) n h3
  go_wp2_with fail
  have hq := HL.out
  rw [nextZ_of _ _ _ _ _ HA.out HO.out] at hq
  refine (isBallot_yes _ (by omega) hq _).mono ?_; rintro e w' ⟨rfl, rfl⟩
  clear hq
  go_wp2_with fail
  go_ret2
  exact ⟨ret_two (nextZ_of _ _ _ _ _ HA.out HO.out).symm rfl, (Grew.refl w).alloc _⟩
set_option maxHeartbeats 1000000 in
theorem next_c (b s n : Int) (h3 : 3 ≤ n) (h9 : n ≤ 9) (h1 : 1 ≤ s) (hs : s ≤ n) (hm : b ≤ 1000000) (c0 : (b != 0) = true) (c1 : 1 ≤ b) (c2 : n < b) (HA : Hid (aboveZ b n = b + 1)) (HL : Hid (nextZ b s n ≤ 1000000)) (w : World) : Calls Try.prog 20 #[.int .i64 b, .int .i64 s, .int .i64 n] w fun e w' => e = .returned (.tuple #[.int .i64 (nextZ b s n), .int .i64 0]) ∧ Grew w w' := by
  go_enter Try.func20, Try.ntmps20
  go_wp2_with fail
  refine (canBe_yes _ h3 h9 _).mono ?_; rintro e w' ⟨rfl, rfl⟩
  go_wp2_with fail
  refine (isReplica_yes _ _ h1 hs _).mono ?_; rintro e w' ⟨rfl, rfl⟩
  go_wp2_with fail
  refine (isBallot_yes _ c1 hm _).mono ?_; rintro e w' ⟨rfl, rfl⟩
  go_wp2_with fail
  refine (owners_any _ _).mono ?_; rintro e w' ⟨rfl, rfl⟩
  go_wp2_with fail
  refine (owns_some _ n _ (by omega) (by omega) h3 h9 _ (by rw [World.cell?_alloc_at _ _ _ _ rfl]; rfl)).mono ?_; rintro e w' ⟨o, rfl, HO, o1, o2, rfl⟩
  have t0 := turn_few (s + n - o) n h3
  go_wp2_with fail
  have hq := HL.out
  rw [nextZ_of _ _ _ _ _ HA.out HO.out] at hq
  refine (isBallot_yes _ (by omega) hq _).mono ?_; rintro e w' ⟨rfl, rfl⟩
  clear hq
  go_wp2_with fail
  go_ret2
  exact ⟨ret_two (nextZ_of _ _ _ _ _ HA.out HO.out).symm rfl, (Grew.refl w).alloc _⟩
theorem next_ok (b s n : Int) (h : askB b s n = true) (hl : nextZ b s n ≤ 1000000) (w : World) : Calls Try.prog 20 #[.int .i64 b, .int .i64 s, .int .i64 n] w fun e w' => e = .returned (.tuple #[.int .i64 (nextZ b s n), .int .i64 0]) ∧ Grew w w' := by
  obtain ⟨h3, h9, h1, hs, h0, hm⟩ := askB_yes h
  have c : (b = 0 ∧ aboveZ b n = n + 1) ∨ ((b != 0) = true ∧ 1 ≤ b ∧ b ≤ n ∧ aboveZ b n = n + 1) ∨ ((b != 0) = true ∧ 1 ≤ b ∧ n < b ∧ aboveZ b n = b + 1) := by
    simp; have := aboveZ_ge b n; omega
  rcases c with ⟨c0, c3⟩ | ⟨c0, c1, c2, c3⟩ | ⟨c0, c1, c2, c3⟩
  · exact next_a b s n h3 h9 h1 hs hm c0 c3 hl w
  · exact next_b b s n h3 h9 h1 hs hm c0 c1 c2 c3 hl w
  · exact next_c b s n h3 h9 h1 hs hm c0 c1 c2 c3 hl w

set_option maxHeartbeats 1000000 in
theorem nlim_a (b s n : Int) (h3 : 3 ≤ n) (h9 : n ≤ 9) (h1 : 1 ≤ s) (hs : s ≤ n) (hm : b ≤ 1000000) (c0 : b = 0) (HA : Hid (aboveZ b n = n + 1)) (HL : Hid (1000000 < nextZ b s n)) (w : World) : Calls Try.prog 20 #[.int .i64 b, .int .i64 s, .int .i64 n] w fun e w' => e = .returned (.tuple #[.int .i64 0, .int .i64 8]) ∧ Grew w w' := by
  subst c0
  go_enter Try.func20, Try.ntmps20
  go_wp2_with fail
  refine (canBe_yes _ h3 h9 _).mono ?_; rintro e w' ⟨rfl, rfl⟩
  go_wp2_with fail
  refine (isReplica_yes _ _ h1 hs _).mono ?_; rintro e w' ⟨rfl, rfl⟩
  go_wp2_with fail
  refine (owners_any _ _).mono ?_; rintro e w' ⟨rfl, rfl⟩
  go_wp2_with fail
  refine (owns_some _ n _ (by omega) (by omega) h3 h9 _ (by rw [World.cell?_alloc_at _ _ _ _ rfl]; rfl)).mono ?_; rintro e w' ⟨o, rfl, HO, o1, o2, rfl⟩
  have t0 := turn_few (s + n - o) n h3
  go_wp2_with fail
  have hq := HL.out
  rw [nextZ_of _ _ _ _ _ HA.out HO.out] at hq
  refine (isBallot_no _ (Or.inr hq) _).mono ?_; rintro e w' ⟨rfl, rfl⟩
  clear hq HA HL HO
  go_wp2_with fail
  go_ret2
  exact ⟨rfl, (Grew.refl w).alloc _⟩
set_option maxHeartbeats 1000000 in
theorem nlim_b (b s n : Int) (h3 : 3 ≤ n) (h9 : n ≤ 9) (h1 : 1 ≤ s) (hs : s ≤ n) (hm : b ≤ 1000000) (c0 : (b != 0) = true) (c1 : 1 ≤ b) (c2 : b ≤ n) (HA : Hid (aboveZ b n = n + 1)) (HL : Hid (1000000 < nextZ b s n)) (w : World) : Calls Try.prog 20 #[.int .i64 b, .int .i64 s, .int .i64 n] w fun e w' => e = .returned (.tuple #[.int .i64 0, .int .i64 8]) ∧ Grew w w' := by
  go_enter Try.func20, Try.ntmps20
  go_wp2_with fail
  refine (canBe_yes _ h3 h9 _).mono ?_; rintro e w' ⟨rfl, rfl⟩
  go_wp2_with fail
  refine (isReplica_yes _ _ h1 hs _).mono ?_; rintro e w' ⟨rfl, rfl⟩
  go_wp2_with fail
  refine (isBallot_yes _ c1 hm _).mono ?_; rintro e w' ⟨rfl, rfl⟩
  go_wp2_with fail
  refine (owners_any _ _).mono ?_; rintro e w' ⟨rfl, rfl⟩
  go_wp2_with fail
  refine (owns_some _ n _ (by omega) (by omega) h3 h9 _ (by rw [World.cell?_alloc_at _ _ _ _ rfl]; rfl)).mono ?_; rintro e w' ⟨o, rfl, HO, o1, o2, rfl⟩
  have t0 := turn_few (s + n - o) n h3
  go_wp2_with fail
  have hq := HL.out
  rw [nextZ_of _ _ _ _ _ HA.out HO.out] at hq
  refine (isBallot_no _ (Or.inr hq) _).mono ?_; rintro e w' ⟨rfl, rfl⟩
  clear hq HA HL HO
  go_wp2_with fail
  go_ret2
  exact ⟨rfl, (Grew.refl w).alloc _⟩
set_option maxHeartbeats 1000000 in
theorem nlim_c (b s n : Int) (h3 : 3 ≤ n) (h9 : n ≤ 9) (h1 : 1 ≤ s) (hs : s ≤ n) (hm : b ≤ 1000000) (c0 : (b != 0) = true) (c1 : 1 ≤ b) (c2 : n < b) (HA : Hid (aboveZ b n = b + 1)) (HL : Hid (1000000 < nextZ b s n)) (w : World) : Calls Try.prog 20 #[.int .i64 b, .int .i64 s, .int .i64 n] w fun e w' => e = .returned (.tuple #[.int .i64 0, .int .i64 8]) ∧ Grew w w' := by
  go_enter Try.func20, Try.ntmps20
  go_wp2_with fail
  refine (canBe_yes _ h3 h9 _).mono ?_; rintro e w' ⟨rfl, rfl⟩
  go_wp2_with fail
  refine (isReplica_yes _ _ h1 hs _).mono ?_; rintro e w' ⟨rfl, rfl⟩
  go_wp2_with fail
  refine (isBallot_yes _ c1 hm _).mono ?_; rintro e w' ⟨rfl, rfl⟩
  go_wp2_with fail
  refine (owners_any _ _).mono ?_; rintro e w' ⟨rfl, rfl⟩
  go_wp2_with fail
  refine (owns_some _ n _ (by omega) (by omega) h3 h9 _ (by rw [World.cell?_alloc_at _ _ _ _ rfl]; rfl)).mono ?_; rintro e w' ⟨o, rfl, HO, o1, o2, rfl⟩
  have t0 := turn_few (s + n - o) n h3
  go_wp2_with fail
  have hq := HL.out
  rw [nextZ_of _ _ _ _ _ HA.out HO.out] at hq
  refine (isBallot_no _ (Or.inr hq) _).mono ?_; rintro e w' ⟨rfl, rfl⟩
  clear hq HA HL HO
  go_wp2_with fail
  go_ret2
  exact ⟨rfl, (Grew.refl w).alloc _⟩
theorem next_lim (b s n : Int) (h : askB b s n = true) (hl : 1000000 < nextZ b s n) (w : World) : Calls Try.prog 20 #[.int .i64 b, .int .i64 s, .int .i64 n] w fun e w' => e = .returned (.tuple #[.int .i64 0, .int .i64 8]) ∧ Grew w w' := by
  obtain ⟨h3, h9, h1, hs, h0, hm⟩ := askB_yes h
  have c : (b = 0 ∧ aboveZ b n = n + 1) ∨ ((b != 0) = true ∧ 1 ≤ b ∧ b ≤ n ∧ aboveZ b n = n + 1) ∨ ((b != 0) = true ∧ 1 ≤ b ∧ n < b ∧ aboveZ b n = b + 1) := by
    simp; have := aboveZ_ge b n; omega
  rcases c with ⟨c0, c3⟩ | ⟨c0, c1, c2, c3⟩ | ⟨c0, c1, c2, c3⟩
  · exact nlim_a b s n h3 h9 h1 hs hm c0 c3 hl w
  · exact nlim_b b s n h3 h9 h1 hs hm c0 c1 c2 c3 hl w
  · exact nlim_c b s n h3 h9 h1 hs hm c0 c1 c2 c3 hl w

/-- What Next hands back: the ballot, and the error's number. -/
def nxA (b s n : Int) : Int := if askB b s n then (if nextZ b s n ≤ 1000000 then nextZ b s n else 0) else 0
def nxE (b s n : Int) : Int := if askB b s n then (if nextZ b s n ≤ 1000000 then 0 else 8) else 2
theorem next_any (b s n : Int) (w : World) : Calls Try.prog 20 #[.int .i64 b, .int .i64 s, .int .i64 n] w fun e w' => e = .returned (.tuple #[.int .i64 (nxA b s n), .int .i64 (nxE b s n)]) ∧ Grew w w' := by
  unfold nxA nxE
  by_cases h : askB b s n = true
  · rw [if_pos h, if_pos h]
    by_cases g : nextZ b s n ≤ 1000000
    · rw [if_pos g, if_pos g]; exact next_ok b s n h g w
    · rw [if_neg g, if_neg g]; exact next_lim b s n h (by omega) w
  · rw [if_neg h, if_neg h]; exact next_no b s n (Bool.eq_false_iff.2 h) w

end Go.Proofs.Ytcgnodkbmpkhkaa
