/- The contracts of package ident's functions on ballots (canBe, isBallot, owners and its closure, Owner, Next, First) and of the document's own (Owner, Next): each is told what it returns at every number; what memory they make is new. -/
import Derived.Test.YtcgnodkbmpkhkaaIdentBase
import Derived.Shelf.SlSortCmp.QuietGrown
namespace Go.Proofs.Ytcgnodkbmpkhkaa
open Go.RowKit Go.Sort

/-- W is w with draws and new blocks behind it. -/
def Grew (w W : World) : Prop := ∃ q os, W = grow (w.drewN q) os
theorem Grew.refl (w : World) : Grew w w := ⟨0, #[], by rw [grow_empty]; rfl⟩
theorem Grew.trans {a b c : World} (h : Grew a b) (k : Grew b c) : Grew a c := by
  obtain ⟨q, os, rfl⟩ := h
  obtain ⟨q', os', rfl⟩ := k
  exact ⟨q + q', os ++ os', by show grow (grow ((a.drewN q).drewN q') os) os' = _; rw [grow_grow, World.drewN_drewN]⟩
theorem Grew.alloc {a b : World} (h : Grew a b) (o : Obj) : Grew a (b.alloc o) := h.trans ⟨0, #[o], by rw [alloc_eq_grow]; rfl⟩
theorem Grew.draws {a b : World} (h : Grew a b) (n : Nat) (os : Array Obj) : Grew a (grow (b.drewN n) os) := h.trans ⟨n, os, rfl⟩
theorem Grew.below {w W : World} (h : Grew w W) : Below w.heap.size w W := by
  obtain ⟨q, os, rfl⟩ := h
  exact ⟨rfl, rfl, rfl, by simp, fun k hk => heap_grow_old (w.drewN q) os hk⟩

theorem canBe_yes (n : Int) (h3 : 3 ≤ n) (h9 : n ≤ 9) (w : World) : Calls Try.prog 31 #[.int .i64 n] w fun e w' => e = .returned (.bool true) ∧ w = w' := by
  go_enter Try.func31, Try.ntmps31
  go_wp2
  go_ret
  exact ⟨rfl, rfl⟩
theorem canBe_no (n : Int) (h : n < 3 ∨ 9 < n) (w : World) : Calls Try.prog 31 #[.int .i64 n] w fun e w' => e = .returned (.bool false) ∧ w = w' := by
  by_cases q : n < 3
  · clear h
    go_enter Try.func31, Try.ntmps31
    go_wp2
    go_ret
    exact ⟨rfl, rfl⟩
  · have h' : 3 ≤ n := by omega
    have e : decide (n ≤ 9) = false := by simp; omega
    clear h q
    go_enter Try.func31, Try.ntmps31
    go_wp2
    go_ret
    exact ⟨rfl, rfl⟩
theorem isBallot_yes (n : Int) (h3 : 1 ≤ n) (h9 : n ≤ 1000000) (w : World) : Calls Try.prog 32 #[.int .i64 n] w fun e w' => e = .returned (.bool true) ∧ w = w' := by
  go_enter Try.func32, Try.ntmps32
  go_wp2
  go_ret
  exact ⟨rfl, rfl⟩
theorem isBallot_no (n : Int) (h : n < 1 ∨ 1000000 < n) (w : World) : Calls Try.prog 32 #[.int .i64 n] w fun e w' => e = .returned (.bool false) ∧ w = w' := by
  by_cases q : n < 1
  · clear h
    go_enter Try.func32, Try.ntmps32
    go_wp2
    go_ret
    exact ⟨rfl, rfl⟩
  · have h' : 1 ≤ n := by omega
    have e : decide (n ≤ 1000000) = false := by simp; omega
    clear h q
    go_enter Try.func32, Try.ntmps32
    go_wp2
    go_ret
    exact ⟨rfl, rfl⟩

/-- The closure, its captured number in block b. -/
theorem owns_any (x n : Int) (b : Nat) (hx1 : 1 ≤ x) (hx2 : x ≤ 1000010) (h3 : 3 ≤ n) (h9 : n ≤ 9) (w : World) (hc : w.cell? ⟨b, 0, none⟩ = some (.int .i64 n)) :
    Calls Try.prog 36 #[.int .i64 x, .pointer (some ⟨b, 0, none⟩)] w fun e w' => e = .returned (.int .i64 ((x - 1) % n + 1)) ∧ w = w' := by
  have r1 : 0 ≤ (x - 1) % n := Int.emod_nonneg _ (by omega)
  have r2 : (x - 1) % n < n := Int.emod_lt_of_pos _ (by omega)
  go_enter Try.func36, Try.ntmps36
  go_wp2
  go_ret
  exact ⟨rfl, rfl⟩
theorem owners_any (n : Int) (w : World) : Calls Try.prog 33 #[.int .i64 n] w fun e w' =>
    e = .returned (.func (.func 36) #[] #[.pointer (some ⟨w.heap.size, 0, none⟩)]) ∧ w' = w.alloc (.cells #[.int .i64 n] 3) := by
  go_enter Try.func33, Try.ntmps33
  go_wp2
  go_ret
  exact ⟨rfl, rfl⟩

/-- The ballot has an owner of n. -/
def ownB (b n : Int) : Bool := decide (3 ≤ n) && decide (n ≤ 9) && decide (1 ≤ b) && decide (b ≤ 1000000)
theorem ownB_yes {b n : Int} (h : ownB b n = true) : 3 ≤ n ∧ n ≤ 9 ∧ 1 ≤ b ∧ b ≤ 1000000 := by simp [ownB] at h; omega
theorem ownB_no {b n : Int} (h : ownB b n = false) : (n < 3 ∨ 9 < n) ∨ (3 ≤ n ∧ n ≤ 9 ∧ (b < 1 ∨ 1000000 < b)) := by simp [ownB] at h; omega
/-- Who it is. -/
def ownZ (b n : Int) : Int := if ownB b n then (b - 1) % n + 1 else 0
theorem ownZ_yes {b n : Int} (h : ownB b n = true) : ownZ b n = (b - 1) % n + 1 := by unfold ownZ; rw [if_pos h]
theorem ownZ_no {b n : Int} (h : ownB b n = false) : ownZ b n = 0 := by unfold ownZ; rw [h]; rfl

theorem owner_yes (b n : Int) (h : ownB b n = true) (w : World) : Calls Try.prog 22 #[.int .i64 b, .int .i64 n] w fun e w' => e = .returned (.int .i64 ((b - 1) % n + 1)) ∧ Grew w w' := by
  obtain ⟨h3, h9, h1, hm⟩ := ownB_yes h
  clear h
  go_enter Try.func22, Try.ntmps22
  go_wp2_with (first | (go_at_call 31; refine (canBe_yes _ h3 h9 _).mono ?_; rintro e w' ⟨rfl, rfl⟩) | (go_at_call 32; refine (isBallot_yes _ h1 hm _).mono ?_; rintro e w' ⟨rfl, rfl⟩) | (go_at_call 33; refine (owners_any _ _).mono ?_; rintro e w' ⟨rfl, rfl⟩) | (go_at_call 36; refine (owns_any _ _ _ h1 (by omega) h3 h9 _ (by rw [World.cell?_alloc_at _ _ _ _ rfl]; rfl)).mono ?_; rintro e w' ⟨rfl, rfl⟩))
  go_ret
  exact ⟨rfl, (Grew.refl w).alloc _⟩
theorem owner_no (b n : Int) (h : ownB b n = false) (w : World) : Calls Try.prog 22 #[.int .i64 b, .int .i64 n] w fun e w' => e = .returned (.int .i64 0) ∧ Grew w w' := by
  rcases ownB_no h with q | ⟨h3, h9, q⟩
  · have Q := Lib.hid q; clear q h
    go_enter Try.func22, Try.ntmps22
    go_wp2_with (go_at_call 31; refine (canBe_no _ Q.out _).mono ?_; rintro e w' ⟨rfl, rfl⟩)
    go_ret
    exact ⟨rfl, Grew.refl w⟩
  · have Q := Lib.hid q; clear q h
    go_enter Try.func22, Try.ntmps22
    go_wp2_with (first | (go_at_call 31; refine (canBe_yes _ h3 h9 _).mono ?_; rintro e w' ⟨rfl, rfl⟩) | (go_at_call 32; refine (isBallot_no _ Q.out _).mono ?_; rintro e w' ⟨rfl, rfl⟩))
    go_ret
    exact ⟨rfl, Grew.refl w⟩
theorem owner_any (b n : Int) (w : World) : Calls Try.prog 22 #[.int .i64 b, .int .i64 n] w fun e w' => e = .returned (.int .i64 (ownZ b n)) ∧ Grew w w' := by
  by_cases h : ownB b n = true
  · rw [ownZ_yes h]; exact owner_yes b n h w
  · have h := Bool.eq_false_iff.2 h
    rw [ownZ_no h]; exact owner_no b n h w

theorem rowner_yes (b n : Int) (h : ownB b n = true) (w : World) : Calls Try.prog 23 #[.int .i64 b, .int .i64 n] w fun e w' => e = .returned (.int .i64 ((b - 1) % n + 1)) ∧ w = w' := by
  obtain ⟨h3, h9, h1, hm⟩ := ownB_yes h
  clear h
  have r1 : 0 ≤ (b - 1) % n := Int.emod_nonneg _ (by omega)
  have r2 : (b - 1) % n < n := Int.emod_lt_of_pos _ (by omega)
  have e0 : decide (n < 3) = false := by simp; omega
  have e1 : decide (n > 9) = false := by simp; omega
  have e2 : decide (b < 1) = false := by simp; omega
  have e3 : decide (b > 1000000) = false := by simp; omega
  go_enter Try.func23, Try.ntmps23
  go_wp2
  go_ret
  exact ⟨ret_int (Int.add_comm _ _), rfl⟩
theorem rowner_no (b n : Int) (h : ownB b n = false) (w : World) : Calls Try.prog 23 #[.int .i64 b, .int .i64 n] w fun e w' => e = .returned (.int .i64 0) ∧ w = w' := by
  have g := ownB_no h
  clear h
  by_cases q1 : n < 3
  · clear g
    go_enter Try.func23, Try.ntmps23
    go_wp2
    go_ret
    exact ⟨rfl, rfl⟩
  have e0 : decide (n < 3) = false := by simp; omega
  by_cases q2 : 9 < n
  · clear g q1
    go_enter Try.func23, Try.ntmps23
    go_wp2
    go_ret
    exact ⟨rfl, rfl⟩
  have e1 : decide (n > 9) = false := by simp; omega
  by_cases q3 : b < 1
  · clear g q1 q2
    go_enter Try.func23, Try.ntmps23
    go_wp2
    go_ret
    exact ⟨rfl, rfl⟩
  have e2 : decide (b < 1) = false := by simp; omega
  have q4 : 1000000 < b := by omega
  clear g q1 q2 q3
  go_enter Try.func23, Try.ntmps23
  go_wp2
  go_ret
  exact ⟨rfl, rfl⟩
theorem rowner_any (b n : Int) (w : World) : Calls Try.prog 23 #[.int .i64 b, .int .i64 n] w fun e w' => e = .returned (.int .i64 (ownZ b n)) ∧ w = w' := by
  by_cases h : ownB b n = true
  · rw [ownZ_yes h]; exact rowner_yes b n h w
  · have h := Bool.eq_false_iff.2 h
    rw [ownZ_no h]; exact rowner_no b n h w

/-- The ballot is a first one of n. -/
def firstB (b n : Int) : Bool := decide (3 ≤ n) && decide (n ≤ 9) && decide (1 ≤ b) && decide (b ≤ n)
theorem firstB_yes {b n : Int} (h : firstB b n = true) : 3 ≤ n ∧ n ≤ 9 ∧ 1 ≤ b ∧ b ≤ n := by simp [firstB] at h; omega
theorem firstB_no {b n : Int} (h : firstB b n = false) : n < 3 ∨ 9 < n ∨ b < 1 ∨ n < b := by simp [firstB] at h; omega
theorem first_yes (b n : Int) (h : firstB b n = true) (w : World) : Calls Try.prog 24 #[.int .i64 b, .int .i64 n] w fun e w' => e = .returned (.bool true) ∧ w = w' := by
  obtain ⟨h3, h9, h1, hm⟩ := firstB_yes h
  clear h
  go_enter Try.func24, Try.ntmps24
  go_wp2_with (first | (go_at_call 31; refine (canBe_yes _ h3 h9 _).mono ?_; rintro e w' ⟨rfl, rfl⟩) | (go_at_call 32; refine (isBallot_yes _ h1 (by omega) _).mono ?_; rintro e w' ⟨rfl, rfl⟩))
  go_ret
  exact ⟨rfl, rfl⟩
theorem first_no (b n : Int) (h : firstB b n = false) (w : World) : Calls Try.prog 24 #[.int .i64 b, .int .i64 n] w fun e w' => e = .returned (.bool false) ∧ w = w' := by
  have g := firstB_no h
  clear h
  by_cases q1 : n < 3 ∨ 9 < n
  · have Q := Lib.hid q1; clear g q1
    go_enter Try.func24, Try.ntmps24
    go_wp2_with (go_at_call 31; refine (canBe_no _ Q.out _).mono ?_; rintro e w' ⟨rfl, rfl⟩)
    go_ret
    exact ⟨rfl, rfl⟩
  have h3 : 3 ≤ n := by omega
  have h9 : n ≤ 9 := by omega
  by_cases q2 : b < 1 ∨ 1000000 < b
  · have Q := Lib.hid q2; clear g q1 q2
    go_enter Try.func24, Try.ntmps24
    go_wp2_with (first | (go_at_call 31; refine (canBe_yes _ h3 h9 _).mono ?_; rintro e w' ⟨rfl, rfl⟩) | (go_at_call 32; refine (isBallot_no _ Q.out _).mono ?_; rintro e w' ⟨rfl, rfl⟩))
    go_ret
    exact ⟨rfl, rfl⟩
  have h1 : 1 ≤ b := by omega
  have hm : b ≤ 1000000 := by omega
  have e : decide (b ≤ n) = false := by simp; omega
  clear g q1 q2
  go_enter Try.func24, Try.ntmps24
  go_wp2_with (first | (go_at_call 31; refine (canBe_yes _ h3 h9 _).mono ?_; rintro e w' ⟨rfl, rfl⟩) | (go_at_call 32; refine (isBallot_yes _ h1 hm _).mono ?_; rintro e w' ⟨rfl, rfl⟩))
  go_ret
  exact ⟨rfl, rfl⟩
theorem first_any (b n : Int) (w : World) : Calls Try.prog 24 #[.int .i64 b, .int .i64 n] w fun e w' => e = .returned (.bool (firstB b n)) ∧ w = w' := by
  by_cases h : firstB b n = true
  · rw [h]; exact first_yes b n h w
  · have h := Bool.eq_false_iff.2 h
    rw [h]; exact first_no b n h w
end Go.Proofs.Ytcgnodkbmpkhkaa
