/- The contracts of the document's Ring, and of the laws' common probe (awake). -/
import Derived.Test.YtnhkbiigdcgonaaSizeMore
namespace Go.Proofs.Ytnhkbiigdcgonaa
open Go.RowKit

theorem ringL_succ (n x : Int) (k : Nat) : ringL n x (k + 1) = ringL n x k ++ [ringAt n x k] := by simp [ringL, List.range_succ]

theorem rring_no (n f x : Int) (h : okB n f = false ∨ x < 1 ∨ n < x) (w : World) : Calls Try.prog 15 #[.int .i64 n, .int .i64 f, .int .i64 x] w fun e w' => e = .returned (.int .i64 0) ∧ w = w' := by
  by_cases q : okB n f = true
  · have H := Lib.hid q
    have g : x < 1 ∨ n < x := by rcases h with h | h; exact absurd q (by simp [h]); exact h
    obtain ⟨a, b, c, d⟩ := okB_yes q
    have z : ((n / 2 + f == 0) : Bool) = false := by simp; omega
    clear h q
    by_cases g1 : x < 1
    · clear g
      go_enter Try.func15, Try.ntmps15
      go_wp2_with (go_at_call 7; refine (sizes_yes _ _ H.out _).mono ?_; rintro e w' ⟨rfl, rfl⟩)
      go_ret
      exact ⟨rfl, rfl⟩
    · have g2 : n < x := by omega
      have g3 : 1 ≤ x := by omega
      clear g g1
      go_enter Try.func15, Try.ntmps15
      go_wp2_with (go_at_call 7; refine (sizes_yes _ _ H.out _).mono ?_; rintro e w' ⟨rfl, rfl⟩)
      go_ret
      exact ⟨rfl, rfl⟩
  · have H := Lib.hid (Bool.eq_false_iff.2 q)
    clear h q
    go_enter Try.func15, Try.ntmps15
    go_wp2_with (go_at_call 7; refine (sizes_no _ _ H.out _).mono ?_; rintro e w' ⟨rfl, rfl⟩)
    go_ret
    exact ⟨rfl, rfl⟩

set_option maxHeartbeats 1600000 in
theorem rring_yes (n f x : Int) (h : okB n f = true) (h1 : 1 ≤ x) (hn : x ≤ n) (w : World) : Calls Try.prog 15 #[.int .i64 n, .int .i64 f, .int .i64 x] w fun e w' =>
    e = .returned (.int .i64 (setN (ringL n x (n / 2 + f).toNat))) ∧ Below w.heap.size w w' := by
  obtain ⟨i0, hi, hz0, hz1, hz2⟩ := info_parts infoInt
  obtain ⟨a, b, c, d⟩ := okB_yes h
  have H := Lib.hid h; clear h
  obtain ⟨K, hK⟩ := Int.eq_ofNat_of_zero_le (show 0 ≤ n / 2 + f by omega)
  have hK9 : K ≤ 8 := by omega
  have hK0 : 0 < K := by omega
  rw [hK]
  have HK := Lib.hid hK; clear hK
  have z : (((K : Int) == 0) : Bool) = false := by simp; omega
  go_enter Try.func15, Try.ntmps15
  go_wp2_with (go_at_call 7; refine (sizes_yes _ _ H.out _).mono ?_; rintro e w' ⟨rfl, rfl⟩; rw [HK.out])
  go_loopw [10, 11] (fun v i wr => ∃ k : Nat, k ≤ K ∧ i = .int .i64 k ∧ Own wr w.heap.size v (ringL n x k) ∧ Below w.heap.size w wr) (fun _ i _ => K - (intOf i).toNat)
  case atStart => exact ⟨0, by omega, rfl, World.ownsRow_nil _ _ _ _, Below.refl _ _⟩
  case round =>
    obtain ⟨k, hk, rfl, hown, hbel⟩ := hrel
    by_cases hlt : k < K
    · have hl := ringL_len n x k
      have hsz := hbel.size
      obtain ⟨r1, r2⟩ := ringAt_in n x k (by omega)
      have hw : wrap64 ((x - 1 + k) % n + 1) = ringAt n x k := IntWalk.wrap64_in (ringAt n x k) ⟨by omega, by omega⟩
      have hl' : (ringL n x k).length ≤ 8 := by omega
      clear hl
      go_wp2_with (at_builtin; refine wpList_append_own _ rfl _ _ 31 rfl w.heap.size 3 i0 (.int .i64 0) 1 8 Try.underlying31 hi hz0 hz1 hz2 rfl (by decide) _ _ _ rfl (World.ownsRow.alloc hown _) ⟨wr.heap.size, 0, none⟩ 1 1 [.int .i64 (ringAt n x k)] rfl rfl ?c1 ?c2 ?c3 ?c4 ?c5 ?_)
      case c1 =>
        intro j u hj
        match j, hj with
        | 0, hj => simp at hj; subst hj; simp [Addr.add]
      case c2 => intro u hu; simp at hu; subst hu; rfl
      case c3 => unfold maxLen; omega
      case c4 => omega
      case c5 => simp; omega
      intro v' w1 hown' hgrow _
      have hb' := Own.below hown hbel (Nat.le_refl _) hsz _ hgrow
      have ho' : Own w1 w.heap.size v' (ringL n x (k + 1)) := by rw [ringL_succ]; exact Own.snoc hown'
      clear hown' hgrow hown hbel hw
      go_wp2
      go_roundw
      case rel => exact ⟨k + 1, by omega, by go_num, ho', hb'⟩
      case measure => simp [intOf]; omega
    · obtain rfl : k = K := by omega
      obtain ⟨sa, cap, bb, rfl, hs1, hs2⟩ := hown.reads
      have hlen := ringL_len n x k
      rw [hlen] at hs1 hs2
      rw [hlen]
      have HL := Lib.hid hlen.symm
      clear hlen hown
      have HS2 := Lib.hid hs2; clear hs2
      have HS1 := Lib.hid hs1; clear hs1
      go_wp2_with (go_at_call 19; refine (rset_any _ bb 0 _ _ (ringL n x k) _ (by unfold maxLen; omega) HL.out HS1.out (fun j hj => by rw [Nat.zero_add]; exact HS2.out j hj)).mono ?_; rintro e w' ⟨rfl, rfl⟩)
      go_ret
      exact ⟨rfl, hbel⟩

theorem ret_eq {w : World} {a b : Int} {f : Nat} {args : Array Value} {R : World → Prop} (h : Calls Try.prog f args w fun e w' => e = .returned (.int .i64 a) ∧ R w') (e : a = b) : Calls Try.prog f args w fun e w' => e = .returned (.int .i64 b) ∧ R w' := by
  subst e; exact h
theorem reads_lit (w : World) (c : Array Value) (zs : List Int) (h : ∀ j, j < zs.length → c[j]? = some (.int .i64 (zs.getD j 0))) : Reads (w.alloc (.cells c 3)) (.slice (some ⟨w.heap.size, 0, none⟩) zs.length zs.length) zs :=
  ⟨_, _, _, rfl, fun _ => rfl, fun j hj => by
    rw [World.cell?_alloc_at _ _ _ _ rfl]
    simpa using h j hj⟩
set_option maxHeartbeats 3200000 in
theorem awake_any (w : World) : Calls Try.prog 16 #[] w fun e w' => e = .returned (.bool true) ∧ Below w.heap.size w w' := by
  go_enter Try.func16, Try.ntmps16
  go_wp2_with fail
  refine (check_yes 5 1 (by decide) _).mono ?_; rintro e w' ⟨rfl, rfl⟩
  go_wp2_with fail
  refine (check_no 2 1 (by decide) _).mono ?_; rintro e w' ⟨rfl, rfl⟩
  go_wp2_with fail
  refine (check_no 4 2 (by decide) _).mono ?_; rintro e w' ⟨rfl, rfl⟩
  go_wp2_with fail
  refine (ret_eq (fast_yes 5 1 (by decide) _) (b := 3) (by decide)).mono ?_; rintro e w' ⟨rfl, rfl⟩
  go_wp2_with fail
  refine (ret_eq (slow_yes 5 1 (by decide) _) (b := 2) (by decide)).mono ?_; rintro e w' ⟨rfl, rfl⟩
  go_wp2_with fail
  refine (ret_eq (back_yes 5 1 (by decide) _) (b := 4) (by decide)).mono ?_; rintro e w' ⟨rfl, rfl⟩
  go_wp2_with fail
  refine (ret_eq (most_yes 5 (by decide) (by decide) _) (b := 3) (by decide)).mono ?_; rintro e w' ⟨rfl, rfl⟩
  go_wp2_with fail
  refine (ret_eq (ring_yes 5 1 4 (by decide) (by decide) (by decide) _) (b := 25) (by decide +kernel)).mono ?_; rintro e w1 ⟨rfl, hb1⟩
  go_wp2_with fail
  refine (list_any 25 _).mono ?_; rintro e w2 ⟨v, rfl, hown, hb2⟩
  have hr := hown.reads
  rw [show lstQ 25 10 = [1, 4, 5] by decide +kernel] at hr
  clear hown
  have hr2 := hr.later ((Below.refl w2.heap.size w2).alloc (Nat.le_refl _) (.cells #[.int .i64 1, .int .i64 4, .int .i64 5] 3))
  have hr3 := reads_lit w2 #[.int .i64 1, .int .i64 4, .int .i64 5] [1, 4, 5] (fun j hj => by
    match j, hj with
    | 0, _ | 1, _ | 2, _ => rfl
    | n + 3, h => simp at h; omega)
  clear hr
  have HR2 := Lib.hid hr2
  have HR3 := Lib.hid hr3
  clear hr2 hr3
  go_wp2_with fail
  refine (same_yes _ _ [1, 4, 5] _ HR2.out HR3.out (by decide)).mono ?_; rintro e w3 ⟨rfl, hb3⟩
  go_wp2_with fail
  have hb23 := (hb2.alloc hb2.size (.cells #[.int .i64 1, .int .i64 4, .int .i64 5] 3)).trans (hb3.mono (by have := hb2.size; simp; omega))
  have hs4 : ∀ j, j < 4 → (w3.alloc (.cells #[.int .i64 1, .int .i64 3, .int .i64 3, .int .i64 0] 3)).cell? ⟨w3.heap.size, 0 + j, none⟩ = some (.int .i64 (([1, 3, 3, 0] : List Int).getD j 0)) := fun j hj => by
    rw [World.cell?_alloc_at _ _ _ _ rfl]
    match j, hj with
    | 0, _ | 1, _ | 2, _ | 3, _ => rfl
  have HS4 := Lib.hid hs4; clear hs4
  refine (ret_eq (set_at w3.heap.size 0 4 4 [1, 3, 3, 0] _ (by decide) rfl HS4.out) (b := 5) (by decide +kernel)).mono ?_; rintro e w' ⟨rfl, rfl⟩
  go_wp2_with fail
  refine (has_yes 5 3 (by decide +kernel) _).mono ?_; rintro e w' ⟨rfl, rfl⟩
  go_wp2_with fail
  refine (has_no 5 2 (by decide +kernel) _).mono ?_; rintro e w' ⟨rfl, rfl⟩
  go_wp2_with fail
  refine (ret_eq (count_yes 7 (by decide) (by decide) _) (b := 3) (by decide +kernel)).mono ?_; rintro e w' ⟨rfl, rfl⟩
  go_wp2_with fail
  refine (ring_no 5 1 6 (by decide) _).mono ?_; rintro e w' ⟨rfl, rfl⟩
  go_wp2_with fail
  go_ret
  exact ⟨rfl, (hb1.trans (hb23.mono hb1.size)).alloc (Nat.le_trans hb1.size hb23.size) _⟩
end Go.Proofs.Ytnhkbiigdcgonaa
