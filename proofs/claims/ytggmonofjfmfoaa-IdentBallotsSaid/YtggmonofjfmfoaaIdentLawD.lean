/- The walk of the law IdentBallots, upon the probe. -/
import Derived.Test.YtggmonofjfmfoaaIdentLawA
import Derived.Test.YtggmonofjfmfoaaIdentRNext
import Derived.Shelf.SlSortCmp.QuietGrown
namespace Go.Proofs.Ytggmonofjfmfoaa
open Go.RowKit Go.Sort

theorem nx_err {b s n : Int} (h : nxE b s n ≠ 0) : nxA b s n = 0 := by
  unfold nxE at h
  unfold nxA
  by_cases q : askB b s n = true
  · rw [if_pos q] at h ⊢
    by_cases q2 : nextZ b s n ≤ 1000000
    · rw [if_pos q2] at h; exact absurd rfl h
    · rw [if_neg q2]
  · rw [if_neg q]
theorem nx_ok {b s n : Int} (h : nxE b s n = 0) : askB b s n = true ∧ nextZ b s n ≤ 1000000 ∧ nxA b s n = nextZ b s n := by
  unfold nxE at h
  unfold nxA
  by_cases q : askB b s n = true
  · rw [if_pos q] at h ⊢
    by_cases q2 : nextZ b s n ≤ 1000000
    · exact ⟨q, q2, if_pos q2⟩
    · rw [if_neg q2] at h; omega
  · rw [if_neg q] at h; omega

set_option maxHeartbeats 1600000 in
theorem ballots_err0 (haw : AwakeOk) (b n s0 s1 E A B F : Int) (w : World) (hE : E ≠ 0) (N0 : Hid (∀ w, Calls Try.prog 20 #[.int .i64 b, .int .i64 s0, .int .i64 n] w fun e w' => e = .returned (.tuple #[.int .i64 A, .int .i64 E]) ∧ Grew w w')) (N1 : Hid (∀ w, Calls Try.prog 20 #[.int .i64 b, .int .i64 s1, .int .i64 n] w fun e w' => e = .returned (.tuple #[.int .i64 B, .int .i64 F]) ∧ Grew w w')) (hA : A = 0) : Calls Try.prog 7 #[.int .i64 b, .int .i64 n, .agg #[.int .i64 s0, .int .i64 s1]] w fun e w' => e = .returned (.bool true) ∧ RowKit.Below w.heap.size w w' := by
  subst hA
  have z0 : (E != 0) = true := by simpa using hE
  clear hE
  go_enter Try.func7, Try.ntmps7
  go_wp2_with fail
  refine (N0.out _).mono ?_; rintro e w1 ⟨rfl, g1⟩
  have c0 : w1.cell? ⟨w.heap.size, 0, none⟩ = some (.int .i64 s0) := (g1.below.cell (p := ⟨w.heap.size, 0, none⟩) (by simp)).trans (by simp)
  have c1 : w1.cell? ⟨w.heap.size, 1, none⟩ = some (.int .i64 s1) := (g1.below.cell (p := ⟨w.heap.size, 1, none⟩) (by simp)).trans (by simp)
  have k1 : w.heap.size < w1.heap.size := World.block_lt_of_cell? _ _ c0
  have G1 := Lib.hid g1; clear g1
  go_wp2_with fail
  refine (N1.out _).mono ?_; rintro e w2 ⟨rfl, g2⟩
  have d0 : w2.cell? ⟨w.heap.size, 0, none⟩ = some (.int .i64 s0) := (g2.below.cell (p := ⟨w.heap.size, 0, none⟩) k1).trans c0
  have d1 : w2.cell? ⟨w.heap.size, 1, none⟩ = some (.int .i64 s1) := (g2.below.cell (p := ⟨w.heap.size, 1, none⟩) k1).trans c1
  have k2 : w.heap.size < w2.heap.size := World.block_lt_of_cell? _ _ d0
  have G2 := Lib.hid ((((Grew.refl w).alloc _).trans G1.out).trans g2); clear g2 c0 c1 k1 G1
  go_wp2_with fail
  refine (haw _).mono ?_; rintro e w' ⟨rfl, hb⟩
  go_wp2_with fail
  go_ret
  exact ⟨rfl, G2.out.below.trans (hb.mono G2.out.below.size)⟩
set_option maxHeartbeats 1600000 in
theorem ballots_err1 (haw : AwakeOk) (b n s0 s1 E A B F : Int) (w : World) (hE : E = 0) (hF : F ≠ 0) (N0 : Hid (∀ w, Calls Try.prog 20 #[.int .i64 b, .int .i64 s0, .int .i64 n] w fun e w' => e = .returned (.tuple #[.int .i64 A, .int .i64 E]) ∧ Grew w w')) (N1 : Hid (∀ w, Calls Try.prog 20 #[.int .i64 b, .int .i64 s1, .int .i64 n] w fun e w' => e = .returned (.tuple #[.int .i64 B, .int .i64 F]) ∧ Grew w w')) : Calls Try.prog 7 #[.int .i64 b, .int .i64 n, .agg #[.int .i64 s0, .int .i64 s1]] w fun e w' => e = .returned (.bool true) ∧ RowKit.Below w.heap.size w w' := by
  subst hE
  have z0 : (F != 0) = true := by simpa using hF
  clear hF
  go_enter Try.func7, Try.ntmps7
  go_wp2_with fail
  refine (N0.out _).mono ?_; rintro e w1 ⟨rfl, g1⟩
  have c0 : w1.cell? ⟨w.heap.size, 0, none⟩ = some (.int .i64 s0) := (g1.below.cell (p := ⟨w.heap.size, 0, none⟩) (by simp)).trans (by simp)
  have c1 : w1.cell? ⟨w.heap.size, 1, none⟩ = some (.int .i64 s1) := (g1.below.cell (p := ⟨w.heap.size, 1, none⟩) (by simp)).trans (by simp)
  have k1 : w.heap.size < w1.heap.size := World.block_lt_of_cell? _ _ c0
  have G1 := Lib.hid g1; clear g1
  go_wp2_with fail
  refine (N1.out _).mono ?_; rintro e w2 ⟨rfl, g2⟩
  have d0 : w2.cell? ⟨w.heap.size, 0, none⟩ = some (.int .i64 s0) := (g2.below.cell (p := ⟨w.heap.size, 0, none⟩) k1).trans c0
  have d1 : w2.cell? ⟨w.heap.size, 1, none⟩ = some (.int .i64 s1) := (g2.below.cell (p := ⟨w.heap.size, 1, none⟩) k1).trans c1
  have k2 : w.heap.size < w2.heap.size := World.block_lt_of_cell? _ _ d0
  have G2 := Lib.hid ((((Grew.refl w).alloc _).trans G1.out).trans g2); clear g2 c0 c1 k1 G1
  go_wp2_with fail
  refine (haw _).mono ?_; rintro e w' ⟨rfl, hb⟩
  go_wp2_with fail
  go_ret
  exact ⟨rfl, G2.out.below.trans (hb.mono G2.out.below.size)⟩

theorem mixedI : Try.prog.follows .mixedOrders = true := by kernel_rfl
set_option maxHeartbeats 3200000 in
theorem ballots_ok (haw : AwakeOk) (b n s0 s1 A B : Int) (w : World) (N0 : Hid (∀ w, Calls Try.prog 20 #[.int .i64 b, .int .i64 s0, .int .i64 n] w fun e w' => e = .returned (.tuple #[.int .i64 A, .int .i64 0]) ∧ Grew w w')) (N1 : Hid (∀ w, Calls Try.prog 20 #[.int .i64 b, .int .i64 s1, .int .i64 n] w fun e w' => e = .returned (.tuple #[.int .i64 B, .int .i64 0]) ∧ Grew w w'))
    (h3 : 3 ≤ n) (h9 : n ≤ 9) (hb0 : 0 ≤ b) (hA1 : b < A) (hA2 : A ≤ 1000000) (hA3 : A - n ≤ max b n) (hF : firstB A n = false) (hO : ownZ A n = s0) (hAB : ((A == B) == (s0 == s1)) = true)
    (hL : Hid (∀ x, b < x → A - n < x → x < A → ownZ x n ≠ s0 ∨ firstB x n = true)) : Calls Try.prog 7 #[.int .i64 b, .int .i64 n, .agg #[.int .i64 s0, .int .i64 s1]] w fun e w' => e = .returned (.bool true) ∧ RowKit.Below w.heap.size w w' := by
  have hmix := mixedI
  have z1 : decide (A ≤ b) = false := decide_eq_false (by omega)
  have hf := fun w => first_no A n hF w
  have ho := fun w => owner_any A n w
  rw [hO] at ho
  have HF := Lib.hid hf; have HO := Lib.hid ho
  clear hf ho hF hO
  have z2 : (s0 != s0) = false := by simp
  go_enter Try.func7, Try.ntmps7
  go_wp2_with fail
  refine (N0.out _).mono ?_; rintro e w1 ⟨rfl, g1⟩
  have c0 : w1.cell? ⟨w.heap.size, 0, none⟩ = some (.int .i64 s0) := (g1.below.cell (p := ⟨w.heap.size, 0, none⟩) (by simp)).trans (by simp)
  have c1 : w1.cell? ⟨w.heap.size, 1, none⟩ = some (.int .i64 s1) := (g1.below.cell (p := ⟨w.heap.size, 1, none⟩) (by simp)).trans (by simp)
  have k1 : w.heap.size < w1.heap.size := World.block_lt_of_cell? _ _ c0
  have G1 := Lib.hid g1; clear g1
  go_wp2_with fail
  refine (N1.out _).mono ?_; rintro e w2 ⟨rfl, g2⟩
  have d0 : w2.cell? ⟨w.heap.size, 0, none⟩ = some (.int .i64 s0) := (g2.below.cell (p := ⟨w.heap.size, 0, none⟩) k1).trans c0
  have d1 : w2.cell? ⟨w.heap.size, 1, none⟩ = some (.int .i64 s1) := (g2.below.cell (p := ⟨w.heap.size, 1, none⟩) k1).trans c1
  have k2 : w.heap.size < w2.heap.size := World.block_lt_of_cell? _ _ d0
  have G2 := Lib.hid ((((Grew.refl w).alloc _).trans G1.out).trans g2); clear g2 c0 c1 k1 G1
  have l0 : ∀ m os, (grow (w2.drewN m) os).cell? ⟨w.heap.size, 0, none⟩ = some (.int .i64 s0) := fun m os => cell_grown k2 d0 m os
  have l1 : ∀ m os, (grow (w2.drewN m) os).cell? ⟨w.heap.size, 1, none⟩ = some (.int .i64 s1) := fun m os => cell_grown k2 d1 m os
  go_wp2_with fail
  go_quiet_grown (first | (go_at_call 24; refine Calls.grown_of ((HF.out _).mono fun _ _ ⟨he, hw⟩ => ⟨he, 0, #[], by rw [grow_empty]; exact hw.symm⟩)) | (go_at_call 22; refine Calls.grown_of (HO.out _)))
  have e0 := l0 nq osq
  have k3 : w.heap.size < (grow (w2.drewN nq) osq).heap.size := World.block_lt_of_cell? _ _ e0
  have G3 := Lib.hid (G2.out.draws nq osq)
  clear l0 l1 d0 d1 k2 G2
  generalize grow (w2.drewN nq) osq = w3 at e0 k3 G3 ⊢
  clear nq osq
  go_wp2_with fail
  go_loopw [11] (fun v wr => ∃ x : Int, v = .int .i64 x ∧ b ≤ x ∧ A - n ≤ x ∧ x < A ∧ Grew w wr ∧ wr.cell? ⟨w.heap.size, 0, none⟩ = some (.int .i64 s0)) (fun v _ => (intOf v - b).toNat)
  case atStart => exact ⟨A - 1, by go_num, by omega, by omega, by omega, G3.out, e0⟩
  case round =>
    clear e0 k3 G3
    obtain ⟨x, rfl, hx1, hx2, hx3, g, e0⟩ := hrel
    have G := Lib.hid g; clear g
    have k3 : w.heap.size < wr.heap.size := World.block_lt_of_cell? _ _ e0
    by_cases q1 : b < x
    · by_cases q2 : A - n < x
      · have l0 : ∀ m os, (grow (wr.drewN m) os).cell? ⟨w.heap.size, 0, none⟩ = some (.int .i64 s0) := fun m os => cell_grown k3 e0 m os
        have hx := hL.out x q1 q2 hx3
        have ho := fun w => owner_any x n w
        have hf := fun w => first_any x n w
        by_cases q3 : ownZ x n = s0
        · have hf1 : firstB x n = true := hx.resolve_left (by simpa using q3)
          rw [hf1] at hf
          rw [q3] at ho
          have HO2 := Lib.hid ho; have HF2 := Lib.hid hf
          clear ho hf hx hf1 q3
          have z5 : (s0 == s0) = true := by simp
          go_wp2_with fail
          go_quiet_grown (first | (go_at_call 24; refine Calls.grown_of ((HF2.out _).mono fun _ _ ⟨he, hw⟩ => ⟨he, 0, #[], by rw [grow_empty]; exact hw.symm⟩)) | (go_at_call 22; refine Calls.grown_of (HO2.out _)))
          have e1 := l0 nq osq
          have G4 := Lib.hid (G.out.draws nq osq)
          clear l0 e0 k3 G
          generalize grow (wr.drewN nq) osq = w4 at e1 G4 ⊢
          clear nq osq
          go_wp2
          go_roundw
          case rel => exact ⟨x - 1, by go_num, by omega, by omega, by omega, G4.out, e1⟩
          case measure => simp [intOf]; omega
        · have q4 := beq_eq_false_iff_ne.2 q3
          generalize ownZ x n = o at *
          have HO2 := Lib.hid ho
          clear ho hf hx q3
          go_wp2_with fail
          go_quiet_grown (first | (go_at_call 22; refine Calls.grown_of (HO2.out _)))
          have e1 := l0 nq osq
          have G4 := Lib.hid (G.out.draws nq osq)
          clear l0 e0 k3 G
          generalize grow (wr.drewN nq) osq = w4 at e1 G4 ⊢
          clear nq osq
          go_wp2
          go_roundw
          case rel => exact ⟨x - 1, by go_num, by omega, by omega, by omega, G4.out, e1⟩
          case measure => simp [intOf]; omega
      · have z3 : decide (x > A - n) = false := decide_eq_false (by omega)
        have m1 : b < n := by omega
        have m2 : A - n ≤ n := by omega
        go_wp2_with fail
        refine (haw _).mono ?_; rintro e w' ⟨rfl, hb⟩
        go_wp2_with fail
        go_ret
        exact ⟨rfl, G.out.below.trans (hb.mono G.out.below.size)⟩
    · have z3 : decide (x > b) = false := decide_eq_false (by omega)
      rcases (show (b < n ∧ A - n ≤ n) ∨ (n ≤ b ∧ A - n ≤ b) by omega) with ⟨m1, m2⟩ | ⟨m1, m2⟩
      · go_wp2_with fail
        refine (haw _).mono ?_; rintro e w' ⟨rfl, hb⟩
        go_wp2_with fail
        go_ret
        exact ⟨rfl, G.out.below.trans (hb.mono G.out.below.size)⟩
      · go_wp2_with fail
        refine (haw _).mono ?_; rintro e w' ⟨rfl, hb⟩
        go_wp2_with fail
        go_ret
        exact ⟨rfl, G.out.below.trans (hb.mono G.out.below.size)⟩
theorem ballots_walk (haw : AwakeOk) (b n s0 s1 : Int) (w : World) : Calls Try.prog 7 #[.int .i64 b, .int .i64 n, .agg #[.int .i64 s0, .int .i64 s1]] w fun e w' => e = .returned (.bool true) ∧ RowKit.Below w.heap.size w w' := by
  by_cases hE : nxE b s0 n = 0
  · by_cases hF : nxE b s1 n = 0
    · obtain ⟨p1, p2, p3⟩ := nx_ok hE
      obtain ⟨r1, r2, r3⟩ := nx_ok hF
      have N0 : Hid (∀ w, Calls Try.prog 20 #[.int .i64 b, .int .i64 s0, .int .i64 n] w fun e w' => e = .returned (.tuple #[.int .i64 (nextZ b s0 n), .int .i64 0]) ∧ Grew w w') := fun w => by have := next_any b s0 n w; rwa [hE, p3] at this
      have N1 : Hid (∀ w, Calls Try.prog 20 #[.int .i64 b, .int .i64 s1, .int .i64 n] w fun e w' => e = .returned (.tuple #[.int .i64 (nextZ b s1 n), .int .i64 0]) ∧ Grew w w') := fun w => by have := next_any b s1 n w; rwa [hF, r3] at this
      obtain ⟨h3, h9, h1, hs, h0, hm⟩ := askB_yes p1
      obtain ⟨_, _, h1', hs', _, _⟩ := askB_yes r1
      have ga := aboveZ_ge b n
      have gn := nextZ_ge b s0 n h3
      have gt : (nextZ b s0 n - 1) % n + 1 = s0 := turn_at _ _ _ h3 h9 h1 hs
      have gt' : (nextZ b s1 n - 1) % n + 1 = s1 := turn_at _ _ _ h3 h9 h1' hs'
      refine ballots_ok haw b n s0 s1 _ _ w N0 N1 h3 h9 h0 (by omega) p2 (by omega) ?_ ?_ ?_ (fun x x1 x2 x3 => ?_)
      · simp [firstB]; omega
      · rw [ownZ_in _ n h3 h9 (by omega) p2]; exact gt
      · by_cases q : s0 = s1
        · subst q; simp
        · have q2 : nextZ b s0 n ≠ nextZ b s1 n := fun e => q (by rw [← gt, ← gt', e])
          rw [beq_eq_false_iff_ne.2 q2, beq_eq_false_iff_ne.2 q]; rfl
      · by_cases q : aboveZ b n ≤ x
        · left
          rw [ownZ_in x n h3 h9 (by omega) (by omega)]
          exact turn_least _ _ _ _ h3 h9 hs q x3
        · right
          simp [firstB]; omega
    · exact ballots_err1 haw b n s0 s1 _ _ _ _ w hE hF (fun w => next_any b s0 n w) (fun w => next_any b s1 n w)
  · exact ballots_err0 haw b n s0 s1 _ _ _ _ w hE (fun w => next_any b s0 n w) (fun w => next_any b s1 n w) (nx_err hE)
end Go.Proofs.Ytggmonofjfmfoaa
