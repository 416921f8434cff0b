/- The contract of the library's breakPatterns at a row of commands: the part's places are permuted among themselves. Written by a generator of mine (wip/gen). -/
import Derived.Test.YtcgnodkbmpkhkaaIdentPivot2
import Derived.Laws.Bits64
import Derived.Laws.Bits64b
namespace Go.Proofs.Ytcgnodkbmpkhkaa
open Go.RowKit Go.Sort

/-- The row holds d, and a number of the call's own stands at X. -/
structure RndAt (w0 : World) (b : Nat) (d : Array (Int × Int)) (c X : Nat) (W : World) : Prop where
  row : RowAt w0 b d W
  cell : W.cell? ⟨c, 0, none⟩ = some (.int .u64 X)
  froz : W.frozen? ⟨c, 0, none⟩ = false
  apart : b < c
  lt : X < 18446744073709551616
variable {w0 W : World} {b : Nat} {d : Array (Int × Int)} {c X : Nat}
theorem RndAt.drew (h : RndAt w0 b d c X W) : RndAt w0 b d c X W.drew := ⟨h.row.drew, h.cell, h.froz, h.apart, h.lt⟩
theorem RndAt.bump (h : RndAt w0 b d c X W) (t : Nat) (ht : t < 18446744073709551616) : RndAt w0 b d c t (W.setCell ⟨c, 0, none⟩ (.int .u64 t)) :=
  ⟨h.row.far c 0 _ h.apart, cell_same _ _ _ _ _ h.cell, by rw [World.frozen?_setCell]; exact h.froz, h.apart, ht⟩
theorem cell_far (W : World) (b c i : Nat) (v : Value) (h : b < c) : (W.setCell ⟨b, i, none⟩ v).cell? ⟨c, 0, none⟩ = W.cell? ⟨c, 0, none⟩ :=
  World.cell?_setCell_other _ _ _ _ (by intro e; injection e with e1; omega)
theorem drew_cell (W : World) (p : Addr) : W.drew.cell? p = W.cell? p := rfl
theorem drew_froz (W : World) (p : Addr) : W.drew.frozen? p = W.frozen? p := rfl
theorem RndAt.four (h : RndAt w0 b d c X W) (i j k l : Nat) (v1 v2 v3 v4 : Value) {d' : Array (Int × Int)} (S : RowAt w0 b d' ((((W.setCell ⟨b, i, none⟩ v1).setCell ⟨b, j, none⟩ v2).setCell ⟨b, k, none⟩ v3).setCell ⟨b, l, none⟩ v4).drew) :
    RndAt w0 b d' c X ((((W.setCell ⟨b, i, none⟩ v1).setCell ⟨b, j, none⟩ v2).setCell ⟨b, k, none⟩ v3).setCell ⟨b, l, none⟩ v4).drew :=
  ⟨S, (drew_cell _ _).trans ((cell_far _ b c l v4 h.apart).trans ((cell_far _ b c k v3 h.apart).trans ((cell_far _ b c j v2 h.apart).trans ((cell_far W b c i v1 h.apart).trans h.cell)))),
   (drew_froz _ _).trans ((World.frozen?_setCell _ _ _ _).trans ((World.frozen?_setCell _ _ _ _).trans ((World.frozen?_setCell _ _ _ _).trans ((World.frozen?_setCell _ _ _ _).trans h.froz)))), h.apart, h.lt⟩

set_option maxHeartbeats 2000000 in
theorem xor_any (w0 W : World) (b c X : Nat) (d : Array (Int × Int)) (R : RndAt w0 b d c X W) :
    Calls Try.prog 49 #[.pointer (some ⟨c, 0, none⟩)] W fun r w' => ∃ Y : Nat, r = .returned (.int .u64 Y) ∧ RndAt w0 b d c Y w' := by
  have hmix := mixed
  have hX := R.lt
  obtain ⟨A, hA⟩ : ∃ A : Nat, A = X ^^^ (X * 8192 % 18446744073709551616) := ⟨_, rfl⟩
  obtain ⟨B, hB⟩ : ∃ B : Nat, B = A ^^^ (A / 128) := ⟨_, rfl⟩
  obtain ⟨C, hC⟩ : ∃ C : Nat, C = B ^^^ (B * 131072 % 18446744073709551616) := ⟨_, rfl⟩
  have lA : A < 18446744073709551616 := by rw [hA]; exact Nat.xor_lt_two_pow (n := 64) (by omega) (by omega)
  have lB : B < 18446744073709551616 := by rw [hB]; exact Nat.xor_lt_two_pow (n := 64) (by omega) (by omega)
  have lC : C < 18446744073709551616 := by rw [hC]; exact Nat.xor_lt_two_pow (n := 64) (by omega) (by omega)
  have e1 : bits .xor .u64 (X : Int) (IntKind.u64.wrap ((X : Int) * 8192)) = (A : Int) := by
    rw [IntKind.wrap_u64, show ((X : Int) * 8192 % 18446744073709551616) = ((X * 8192 % 18446744073709551616 : Nat) : Int) by omega, bits_xor_u64_nat _ _ hX (by omega), hA]
  have e2 : bits .xor .u64 (A : Int) ((A : Int) / 128) = (B : Int) := by
    rw [show ((A : Int) / 128) = ((A / 128 : Nat) : Int) by omega, bits_xor_u64_nat _ _ lA (by omega), hB]
  have e3 : bits .xor .u64 (B : Int) (IntKind.u64.wrap ((B : Int) * 131072)) = (C : Int) := by
    rw [IntKind.wrap_u64, show ((B : Int) * 131072 % 18446744073709551616) = ((B * 131072 % 18446744073709551616 : Nat) : Int) by omega, bits_xor_u64_nat _ _ lB (by omega), hC]
  clear hA hB hC
  have S0 := Lib.hid R; clear R
  go_enter Try.func49, Try.ntmps49
  go_wp2_with fail
  obtain ⟨_, c1, f1, _, _⟩ := S0.out
  have S1 := Lib.hid ((S0.out.bump A lA).drew)
  clear S0
  go_wp2_with fail
  go_big_region_o
  clear c1 f1
  generalize (W.setCell ⟨c, 0, none⟩ (.int .u64 A)).drew = w1 at S1 ⊢
  obtain ⟨_, c2, f2, _, _⟩ := S1.out
  have S2 := Lib.hid ((S1.out.bump B lB).drew)
  clear S1
  go_wp2_with fail
  go_big_region_o
  clear c2 f2
  generalize (w1.setCell ⟨c, 0, none⟩ (.int .u64 B)).drew = w2 at S2 ⊢
  obtain ⟨_, c3, f3, _, _⟩ := S2.out
  have S3 := Lib.hid ((S2.out.bump C lC).drew)
  clear S2
  go_wp2_with fail
  go_big_region_o
  clear c3 f3
  generalize (w2.setCell ⟨c, 0, none⟩ (.int .u64 C)).drew = w3 at S3 ⊢
  obtain ⟨_, c4, f4, _, _⟩ := S3.out
  go_wp2
  go_ret
  exact ⟨C, rfl, S3.out⟩

theorem pow_of (n : Nat) (h8 : 8 ≤ n) (hn : n ≤ 1000) : n < 2 ^ Lib.bitLen n ∧ 2 ^ Lib.bitLen n ≤ 2 * n ∧ Lib.bitLen n ≤ 10 := by
  have key : ∀ k : Fin 1001, 8 ≤ k.val → k.val < 2 ^ Lib.bitLen k.val ∧ 2 ^ Lib.bitLen k.val ≤ 2 * k.val ∧ Lib.bitLen k.val ≤ 10 := by decide +kernel
  exact key ⟨n, by omega⟩ h8
theorem pow_any (n : Nat) (z : Int) (hz : z = n) (h8 : 8 ≤ n) (hn : n ≤ 1000) (w : World) : Calls Try.prog 48 #[.int .i64 z] w fun r w' => ∃ M : Nat, r = .returned (.int .u64 M) ∧ n < M ∧ M ≤ 2 * n ∧ w = w' := by
  subst hz
  obtain ⟨p1, p2, p3⟩ := pow_of n h8 hn
  have hc := fun w => len_any (n : Int) (by omega) (by omega) w
  simp only [Int.toNat_natCast] at hc
  generalize Lib.bitLen n = l at *
  have q : l = 0 ∨ l = 1 ∨ l = 2 ∨ l = 3 ∨ l = 4 ∨ l = 5 ∨ l = 6 ∨ l = 7 ∨ l = 8 ∨ l = 9 ∨ l = 10 := by omega
  have HC := Lib.hid hc; clear hc
  rcases q with rfl | rfl | rfl | rfl | rfl | rfl | rfl | rfl | rfl | rfl | rfl
  all_goals
    go_enter Try.func48, Try.ntmps48
    go_wp2_with (go_at_call 35; refine (HC.out _).mono ?_; rintro e w' ⟨rfl, rfl⟩)
    go_ret
    exact ⟨_, rfl, p1, p2, rfl⟩
end Go.Proofs.Ytcgnodkbmpkhkaa
