/- The contracts of the document's Has, List, Set, Ring and SameInts, and of size.List. -/
import Derived.Test.YtnhkbiigdcgonaaSizeRef
import Derived.Deep.QuietTactic
import Derived.BigQuiet
namespace Go.Proofs.Ytnhkbiigdcgonaa
open Go.RowKit

set_option maxHeartbeats 1600000 in
theorem rhas_in (s r : Int) (h1 : 1 ≤ r) (h9 : r ≤ 9) (w : World) : Calls Try.prog 21 #[.int .i64 s, .int .i64 r] w fun e w' => e = .returned (.bool (hasB s r)) ∧ Below w.heap.size w w' := by
  have q : r = 1 ∨ r = 2 ∨ r = 3 ∨ r = 4 ∨ r = 5 ∨ r = 6 ∨ r = 7 ∨ r = 8 ∨ r = 9 := by omega
  clear h1 h9
  rcases q with rfl | rfl | rfl | rfl | rfl | rfl | rfl | rfl | rfl
  all_goals
    go_enter Try.func21, Try.ntmps21
    go_wp2_with (go_at_call 28; refine (bools_any _ _).mono ?_; rintro e w1 ⟨rfl, hb⟩; unfold boolsV)
    go_ret
    exact ⟨rfl, hb.alloc hb.size _⟩
theorem rhas_any (s r : Int) (w : World) : Calls Try.prog 21 #[.int .i64 s, .int .i64 r] w fun e w' => e = .returned (.bool (hasB s r)) ∧ Below w.heap.size w w' := by
  by_cases q : r < 1 ∨ 9 < r
  · have e : hasB s r = false := by
      unfold hasB; rcases q with q | q
      · rw [decide_eq_false (show ¬ 1 ≤ r by omega)]; simp
      · rw [decide_eq_false (show ¬ r ≤ 9 by omega)]; simp
    rw [e]; clear e
    by_cases q1 : r < 1
    · clear q
      go_enter Try.func21, Try.ntmps21
      go_wp2_with (go_at_call 28; refine (bools_any _ _).mono ?_; rintro e w1 ⟨rfl, hb⟩; unfold boolsV)
      go_ret
      exact ⟨rfl, hb.alloc hb.size _⟩
    · have q2 : 9 < r := by omega
      have q3 : 1 ≤ r := by omega
      have q4 : decide (r ≤ 9) = false := by simp; omega
      clear q q1
      go_enter Try.func21, Try.ntmps21
      go_wp2_with (go_at_call 28; refine (bools_any _ _).mono ?_; rintro e w1 ⟨rfl, hb⟩; unfold boolsV)
      go_ret
      exact ⟨rfl, hb.alloc hb.size _⟩
  · exact rhas_in s r (by omega) (by omega) w

/-- Those of a set below k, rising. -/
def lstQ (s : Int) (k : Nat) : List Int := ((List.range k).filter (fun i : Nat => hasB s (i : Int))).map (fun i : Nat => (i : Int))
theorem hasB_zero (s : Int) : hasB s 0 = false := by unfold hasB; rw [decide_eq_false (show ¬ (1 : Int) ≤ 0 by decide)]; simp
theorem lstQ_one (s : Int) : lstQ s 1 = [] := by simp [lstQ, hasB_zero]
theorem lstQ_hit (s : Int) (k : Nat) (h : hasB s k = true) : lstQ s (k + 1) = lstQ s k ++ [(k : Int)] := by simp [lstQ, List.range_succ, List.filter_append, h]
theorem lstQ_miss (s : Int) (k : Nat) (h : hasB s k = false) : lstQ s (k + 1) = lstQ s k := by simp [lstQ, List.range_succ, List.filter_append, h]
theorem lstQ_len (s : Int) (k : Nat) : (lstQ s k).length ≤ k := by
  have := List.length_filter_le (fun i : Nat => hasB s (i : Int)) (List.range k)
  simpa [lstQ] using this

/-- v is a slice of the call's own, from block base on, that holds zs. -/
def Own (w : World) (base : Nat) (v : Value) (zs : List Int) : Prop := w.ownsRow base 3 1 v zs.length (zs.map (Value.int .i64))
theorem Own.snoc {w2 : World} {base : Nat} {v' : Value} {zs : List Int} {x : Int} (h : w2.ownsRow base 3 1 v' (zs.length + 1) (zs.map (Value.int .i64) ++ [.int .i64 x])) : Own w2 base v' (zs ++ [x]) := by
  unfold Own; rw [List.length_append, List.map_append]; exact h
/-- Behind an append to it nothing below its base has turned. -/
theorem Own.below {w wr w2 : World} {base B : Nat} {v : Value} {zs : List Int} (h : Own wr base v zs) (hb : Below B w wr) (hB : B ≤ base) (hs : B ≤ wr.heap.size) (o : Obj) (hg : (wr.alloc o).grownBy w2 v.ownBlock) : Below B w w2 :=
  (hb.alloc hs o).grown hg (by simp; omega) (fun k hk => Nat.le_trans hB (World.ownsRow.lt h k hk).1)

set_option maxHeartbeats 1600000 in
theorem list_any (s : Int) (w : World) : Calls Try.prog 24 #[.int .i64 s] w fun e w' => ∃ v, e = .returned v ∧ Own w' w.heap.size v (lstQ s 10) ∧ Below w.heap.size w w' := by
  obtain ⟨i0, hi, hz0, hz1, hz2⟩ := info_parts infoInt
  go_enter Try.func24, Try.ntmps24
  go_wp2
  go_loopw [3, 4] (fun v i wr => ∃ k : Nat, 1 ≤ k ∧ k ≤ 10 ∧ i = .int .i64 k ∧ Own wr w.heap.size v (lstQ s k) ∧ Below w.heap.size w wr) (fun _ i _ => 10 - (intOf i).toNat)
  case atStart => exact ⟨1, by omega, by omega, rfl, by rw [lstQ_one]; exact World.ownsRow_nil _ _ _ _, Below.refl _ _⟩
  case round =>
    obtain ⟨k, hk1, hk, rfl, hown, hbel⟩ := hrel
    by_cases hlt : k < 10
    · have hl := lstQ_len s k
      have hsz := hbel.size
      by_cases hh : hasB s k = true
      · have HH := Lib.hid hh; clear hh
        go_wp2_with (first
          | (at_builtin; refine wpList_append_own _ rfl _ _ 31 rfl w.heap.size 3 i0 (.int .i64 0) 1 8 Try.underlying31 hi hz0 hz1 hz2 rfl (by decide) _ _ _ rfl (World.ownsRow.alloc hown _) ⟨wr.heap.size, 0, none⟩ 1 1 [.int .i64 k] rfl rfl ?c1 ?c2 ?c3 ?c4 ?c5 ?_)
          | (go_at_call 20; refine (has_yes _ _ HH.out _).mono ?_; rintro e w' ⟨rfl, rfl⟩))
        case c1 =>
          intro j u hj
          match j, hj with
          | 0, hj => simp at hj; subst hj; simp [Addr.add]
        case c2 => intro u hu; simp at hu; subst hu; rfl
        case c3 => unfold maxLen; omega
        case c4 => omega
        case c5 => simp; omega
        intro v' w1 hown' hgrow _
        have hb' := Own.below hown hbel (Nat.le_refl _) hsz _ hgrow
        have ho' : Own w1 w.heap.size v' (lstQ s (k + 1)) := by rw [lstQ_hit s k HH.out]; exact Own.snoc hown'
        clear hown' hgrow hown hbel
        go_wp2
        go_roundw
        case rel => exact ⟨k + 1, by omega, by omega, by go_num, ho', hb'⟩
        case measure => simp [intOf]; omega
      · have HH := Lib.hid (Bool.eq_false_iff.2 hh); clear hh
        go_wp2_with (go_at_call 20; refine (has_no _ _ HH.out _).mono ?_; rintro e w' ⟨rfl, rfl⟩)
        go_roundw
        case rel => exact ⟨k + 1, by omega, by omega, by go_num, by rw [lstQ_miss s k HH.out]; exact hown, hbel⟩
        case measure => simp [intOf]; omega
    · obtain rfl : k = 10 := by omega
      go_wp2
      go_ret
      exact ⟨_, rfl, hown, hbel⟩
end Go.Proofs.Ytnhkbiigdcgonaa
