/- The contract of the document's own Next: it tries each ballot, and finds the first one in turn. -/
import Derived.Test.YtggmonofjfmfoaaIdentNext
namespace Go.Proofs.Ytggmonofjfmfoaa
open Go.RowKit Go.Sort

theorem rnext_no (b s n : Int) (h : askB b s n = false) (w : World) : Calls Try.prog 21 #[.int .i64 b, .int .i64 s, .int .i64 n] w fun e w' => e = .returned (.tuple #[.int .i64 0, .int .i64 2]) ∧ w = w' := by
  have g := askB_no h
  clear h
  by_cases q1 : n < 3
  · clear g
    go_enter Try.func21, Try.ntmps21
    go_wp2
    go_ret2
    exact ⟨rfl, rfl⟩
  have e1 : decide (n < 3) = false := by simp; omega
  by_cases q2 : 9 < n
  · clear g q1
    go_enter Try.func21, Try.ntmps21
    go_wp2
    go_ret2
    exact ⟨rfl, rfl⟩
  have e2 : decide (n > 9) = false := by simp; omega
  by_cases q3 : s < 1
  · clear g q1 q2
    go_enter Try.func21, Try.ntmps21
    go_wp2
    go_ret2
    exact ⟨rfl, rfl⟩
  have e3 : decide (s < 1) = false := by simp; omega
  by_cases q4 : n < s
  · clear g q1 q2 q3
    go_enter Try.func21, Try.ntmps21
    go_wp2
    go_ret2
    exact ⟨rfl, rfl⟩
  have e4 : decide (s > n) = false := by simp; omega
  by_cases q5 : b < 0
  · clear g q1 q2 q3 q4
    go_enter Try.func21, Try.ntmps21
    go_wp2
    go_ret2
    exact ⟨rfl, rfl⟩
  have e5 : decide (b < 0) = false := by simp; omega
  have q6 : 1000000 < b := by omega
  clear g q1 q2 q3 q4 q5
  go_enter Try.func21, Try.ntmps21
  go_wp2
  go_ret2
  exact ⟨rfl, rfl⟩
theorem ownZ_in (x n : Int) (h3 : 3 ≤ n) (h9 : n ≤ 9) (h1 : 1 ≤ x) (hm : x ≤ 1000000) : ownZ x n = (x - 1) % n + 1 := ownZ_yes (by simp [ownB]; omega)
set_option maxHeartbeats 1000000 in
theorem rnext_yes (b s n : Int) (h : askB b s n = true) (w : World) : Calls Try.prog 21 #[.int .i64 b, .int .i64 s, .int .i64 n] w fun e w' => e = .returned (.tuple #[.int .i64 (nxA b s n), .int .i64 (nxE b s n)]) ∧ w = w' := by
  have G : Hid (nxA b s n = (if nextZ b s n ≤ 1000000 then nextZ b s n else 0) ∧ nxE b s n = (if nextZ b s n ≤ 1000000 then 0 else 8)) := ⟨by unfold nxA; rw [if_pos h], by unfold nxE; rw [if_pos h]⟩
  obtain ⟨h3, h9, h1, hs, h0, hm⟩ := askB_yes h
  clear h
  generalize nxA b s n = A at *
  generalize nxE b s n = E at *
  have hg := nextZ_ge b s n h3
  have ha := aboveZ_ge b n
  have HAT : Hid ((nextZ b s n - 1) % n + 1 = s) := turn_at _ _ _ h3 h9 h1 hs
  have HLE : Hid (∀ x, aboveZ b n ≤ x → x < nextZ b s n → (x - 1) % n + 1 ≠ s) := fun x a b => turn_least _ _ _ _ h3 h9 hs a b
  generalize nextZ b s n = N at *
  generalize aboveZ b n = a0 at *
  have e1 : decide (n < 3) = false := by simp; omega
  have e2 : decide (n > 9) = false := by simp; omega
  have e3 : decide (s < 1) = false := by simp; omega
  have e4 : decide (s > n) = false := by simp; omega
  have e5 : decide (b < 0) = false := by simp; omega
  have e6 : decide (b > 1000000) = false := by simp; omega
  obtain ⟨g1, g2⟩ := hg
  obtain ⟨a1, a2, a3⟩ := ha
  have A3 := Lib.hid a3; clear a3
  by_cases q : b + 1 ≤ n
  · have q0 : a0 = n + 1 := by have := A3.out; omega
    subst q0
    clear A3 a1 a2
    go_enter Try.func21, Try.ntmps21
    go_wp2
    go_loop [8] (fun v => ∃ x : Int, v = .int .i64 x ∧ n + 1 ≤ x ∧ x ≤ N) (fun v => (1000001 - intOf v).toNat)
    case atStart => exact ⟨n + 1, by go_num, by omega, by omega⟩
    case round =>
      obtain ⟨x, rfl, hx1, hx2⟩ := hrel
      by_cases hm2 : x ≤ 1000000
      · have x1 : 1 ≤ x := by omega
        have hz := ownZ_in x n h3 h9 x1 hm2
        by_cases ht : ownZ x n = s
        · have hN : N = x := by
            by_cases hlt : x < N
            · exact absurd (hz.symm.trans ht) (HLE.out x hx1 hlt)
            · omega
          subst hN
          have hA : A = N := by have := G.out.1; rw [if_pos hm2] at this; exact this
          have hE : E = 0 := by have := G.out.2; rw [if_pos hm2] at this; exact this
          clear G HLE HAT hz
          have HA := Lib.hid hA; have HE := Lib.hid hE; clear hA hE
          go_wp2_with (go_at_call 23; refine (rowner_any _ _ _).mono ?_; rintro e w' ⟨rfl, rfl⟩; rw [ht])
          go_ret2
          exact ⟨ret_two HA.out.symm HE.out.symm, rfl⟩
        · have hN : x + 1 ≤ N := by
            by_cases hlt : x = N
            · subst hlt; exact absurd (hz.trans HAT.out) ht
            · omega
          have ht' := beq_eq_false_iff_ne.2 ht
          have CT : Hid (Calls Try.prog 23 #[.int .i64 x, .int .i64 n] w fun e w' => e = .returned (.int .i64 (ownZ x n)) ∧ w = w') := rowner_any x n w
          clear hz ht
          generalize ownZ x n = o at *
          go_wp2_with (go_at_call 23; refine CT.out.mono ?_; rintro e w' ⟨rfl, rfl⟩)
          go_round
          case rel => exact ⟨x + 1, by go_num, by omega, by omega⟩
          case measure => simp [intOf]; omega
      · have hN : 1000000 < N := by omega
        have hA : A = 0 := by have := G.out.1; rw [if_neg (by omega)] at this; exact this
        have hE : E = 8 := by have := G.out.2; rw [if_neg (by omega)] at this; exact this
        clear G HLE HAT
        have HA := Lib.hid hA; have HE := Lib.hid hE; clear hA hE
        go_wp2
        go_ret2
        exact ⟨ret_two HA.out.symm HE.out.symm, rfl⟩
  · have q0 : a0 = b + 1 := by have := A3.out; omega
    have q1 : n < b + 1 := by omega
    subst q0
    clear A3 a1 a2 q
    go_enter Try.func21, Try.ntmps21
    go_wp2
    go_loop [8] (fun v => ∃ x : Int, v = .int .i64 x ∧ b + 1 ≤ x ∧ x ≤ N) (fun v => (1000001 - intOf v).toNat)
    case atStart => exact ⟨b + 1, by go_num, by omega, by omega⟩
    case round =>
      obtain ⟨x, rfl, hx1, hx2⟩ := hrel
      by_cases hm2 : x ≤ 1000000
      · have x1 : 1 ≤ x := by omega
        have hz := ownZ_in x n h3 h9 x1 hm2
        by_cases ht : ownZ x n = s
        · have hN : N = x := by
            by_cases hlt : x < N
            · exact absurd (hz.symm.trans ht) (HLE.out x hx1 hlt)
            · omega
          subst hN
          have hA : A = N := by have := G.out.1; rw [if_pos hm2] at this; exact this
          have hE : E = 0 := by have := G.out.2; rw [if_pos hm2] at this; exact this
          clear G HLE HAT hz
          have HA := Lib.hid hA; have HE := Lib.hid hE; clear hA hE
          go_wp2_with (go_at_call 23; refine (rowner_any _ _ _).mono ?_; rintro e w' ⟨rfl, rfl⟩; rw [ht])
          go_ret2
          exact ⟨ret_two HA.out.symm HE.out.symm, rfl⟩
        · have hN : x + 1 ≤ N := by
            by_cases hlt : x = N
            · subst hlt; exact absurd (hz.trans HAT.out) ht
            · omega
          have ht' := beq_eq_false_iff_ne.2 ht
          have CT : Hid (Calls Try.prog 23 #[.int .i64 x, .int .i64 n] w fun e w' => e = .returned (.int .i64 (ownZ x n)) ∧ w = w') := rowner_any x n w
          clear hz ht
          generalize ownZ x n = o at *
          go_wp2_with (go_at_call 23; refine CT.out.mono ?_; rintro e w' ⟨rfl, rfl⟩)
          go_round
          case rel => exact ⟨x + 1, by go_num, by omega, by omega⟩
          case measure => simp [intOf]; omega
      · have hN : 1000000 < N := by omega
        have hA : A = 0 := by have := G.out.1; rw [if_neg (by omega)] at this; exact this
        have hE : E = 8 := by have := G.out.2; rw [if_neg (by omega)] at this; exact this
        clear G HLE HAT
        have HA := Lib.hid hA; have HE := Lib.hid hE; clear hA hE
        go_wp2
        go_ret2
        exact ⟨ret_two HA.out.symm HE.out.symm, rfl⟩
theorem rnext_any (b s n : Int) (w : World) : Calls Try.prog 21 #[.int .i64 b, .int .i64 s, .int .i64 n] w fun e w' => e = .returned (.tuple #[.int .i64 (nxA b s n), .int .i64 (nxE b s n)]) ∧ w = w' := by
  by_cases h : askB b s n = true
  · exact rnext_yes b s n h w
  · unfold nxA nxE
    rw [if_neg h, if_neg h]; exact rnext_no b s n (Bool.eq_false_iff.2 h) w
end Go.Proofs.Ytggmonofjfmfoaa
