/- Unrow's ways where the count may be: the loop over the numbers. -/
import Derived.Test.YtegbldkkggpjcaaGreatDoorNumPf
namespace Go.Proofs.YtegbldkkggpjcaaGreatDoor
open Go.RowKit Go.Sort

attribute [local go_sem ↓] Go.wp_at_zero Go.wp_at_succ

set_option maxRecDepth 20000 in
set_option maxHeartbeats 6400000 in
theorem unrow_ok (s : ByteArray) (a most : Int) (hs : s.size ≤ 100000) (n t0 : Nat) (hg : getZ s a = ((n : Int), (t0 : Int), 0)) (ht1 : t0 ≤ s.size) (hsm : ¬ (1000 < (n : Int) ∨ (most < (n : Int) ∧ 0 < (n : Int)))) (w : World) :
    Calls Tryz.prog 66 #[.string s, .int .i64 a, .int .i64 most] w fun e w' => ∃ v, e = .returned (.tuple #[v, .int .i64 (unrowZ s a most).2.1, .int .i64 (unrowZ s a most).2.2]) ∧ OwnI w' w.heap.size v (unrowZ s a most).1 ∧ RowKit.Below w.heap.size w w' := by
  have hmf : ∀ (fn : Fn) (first cap : Array Value) (w : World), (Instr.makeFunc fn first cap).run Tryz.prog w = .ok (.func fn first cap) w := fun _ _ _ _ => rfl
  obtain ⟨T, hT⟩ : ∃ T, T = s.data.toList.drop t0 := ⟨_, rfl⟩
  have HUN := Lib.hid (show unrowZ s a most = if (items n T).2.2 = 0 then ((items n T).1.map Int.ofNat, (t0 : Int) + ((items n T).2.1 : Nat), 0) else ([], 0, (((items n T).2.2 : Nat) : Int)) by
    unfold unrowZ
    rw [hg]
    simp only
    rw [if_neg (by simp), if_neg hsm, Int.toNat_natCast, Int.toNat_natCast, ← hT])
  have HS := Lib.hid hs
  have HTT := Lib.hid hT
  have HT := Lib.hid (fun (t : Int) W (hb : Boxes W w.heap.size (w.heap.size + 1) (w.heap.size + 1 + 1) s t 0) => take_any s t 0 _ _ _ (by omega) (by omega) (by omega) hs W hb)
  have HG := Lib.hid hg
  have HW := Lib.hid (boxes_below w (.cells #[.string s] 9) (.cells #[.int .i64 a] 3) (.cells #[.int .i64 0] 41))
  have HN := Lib.hid (boxes_new w s a)
  have i1 : (0 : Int) ≤ (n : Int) := by omega
  have i2 : (n : Int) ≤ 1000 := by omega
  have hcase : (most < 0 ∧ decide (0 < n) = false) ∨ (0 ≤ most ∧ 1000 < most ∧ decide ((1000 : Int) < (n : Int)) = false) ∨ (0 ≤ most ∧ most ≤ 1000 ∧ decide (most < (n : Int)) = false) := by
    simp only [decide_eq_false_iff_not]; omega
  have hne1 : w.heap.size + 1 ≠ w.heap.size + 1 + 1 := by omega
  have HNE := Lib.hid hne1
  clear hg hsm hT hs hne1
  rcases hcase with ⟨m1, d1⟩ | ⟨m1, m2, d1⟩ | ⟨m1, m2, d1⟩
  all_goals
    go_enter Tryz.func66, Tryz.ntmps66
    go_wp2_with (go_at_call 81; (with_reducible refine (HT.out a _ HN.out).mono ?_); rintro r w1 ⟨rfl, hb, hk⟩; rw [HG.out] at hb ⊢; have HB1 := Lib.hid hb; have HK1 := Lib.hid (HW.out.trans (hk.below (by omega) (by omega) (by simp; omega))); have HZ1 := Lib.hid (Nat.le_trans (show w.heap.size + 1 + 1 + 1 ≤ _ by simp) hk.size); have ct1 := cell_of_one hb.t; have ft1 := free_of_one hb.t; have ce1 := cell_of_one hb.e; have fe1 := free_of_one hb.e; clear hb hk)
    clear ct1 ft1 ce1 fe1 m1 d1
    go_loopg [6] n (fun gg o wr => (∃ (k c : Nat) (xs : List Nat), k + gg = n ∧ t0 + c ≤ s.size ∧ Hid (OwnI wr (w.heap.size + 1 + 1 + 1) o (xs.map Int.ofNat)) ∧ Hid (items k T = (xs, c, 0)) ∧ Hid (Boxes wr w.heap.size (w.heap.size + 1) (w.heap.size + 1 + 1) s ((t0 : Int) + (c : Int)) 0) ∧ Hid (RowKit.Below w.heap.size w wr) ∧ Hid (w.heap.size + 1 + 1 + 1 ≤ wr.heap.size)) ∨ (∃ e : Nat, Hid (items n T = ([], 0, e + 1)) ∧ Hid (Boxes wr w.heap.size (w.heap.size + 1) (w.heap.size + 1 + 1) s 0 ((e + 1 : Nat) : Int)) ∧ Hid (RowKit.Below w.heap.size w wr)))
    case atStart => exact Or.inl ⟨0, 0, [], by omega, by omega, Lib.hid (ownI_nil _ _), Lib.hid rfl, by simpa using HB1, HK1, HZ1⟩
    case round =>
      rcases hrel with ⟨k, c, xs, hk, hc, HO, HI, HB, HK, HZ⟩ | ⟨e, HI, HB, HK⟩
      · have ct1 := cell_of_one HB.out.t
        have ft1 := free_of_one HB.out.t
        have ce1 := cell_of_one HB.out.e
        have fe1 := free_of_one HB.out.e
        have hxl := items_len k HI.out
        obtain ⟨sa, cap, ho, _, _, _⟩ := HO.out.reads
        rw [show (xs.map Int.ofNat).length = k by rw [List.length_map, hxl]] at ho
        subst ho
        by_cases hlt : k < n
        · have d9 : decide (k < n) = true := decide_eq_true hlt
          have hdr : s.data.toList.drop (t0 + c) = T.drop c := by rw [HTT.out, List.drop_drop]
          obtain ⟨⟨x, u, e⟩, hp⟩ : ∃ r, parse (T.drop c) = r := ⟨_, rfl⟩
          have HT2 := Lib.hid (HT.out ((t0 : Int) + (c : Int)) wr HB.out)
          cases e with
          | zero =>
            have HNX := Lib.hid (items_next k HI.out hp)
            have hle := (parse_least hp).2.1
            rw [← hdr, List.length_drop, list_len] at hle
            rw [← hdr] at hp
            have hg := getZ_ok hc hp
            rw [show ((t0 + c : Nat) : Int) = (t0 : Int) + (c : Int) by omega] at hg
            have HGG := Lib.hid hg
            clear hg hp hdr
            go_wp2_with (first
              | (go_at_call 81; (with_reducible refine HT2.out.mono ?_); rintro r w2 ⟨rfl, hb, hk2⟩; rw [HGG.out] at hb ⊢; have HB2 := Lib.hid hb; have HK2 := Lib.hid hk2; have HO2 := Lib.hid (HO.out.kept hk2 (by omega) (by omega)); have HZ2 := Lib.hid (Nat.le_trans HZ.out hk2.size); have HKK := Lib.hid (HK.out.trans (hk2.below (by omega) (by omega) HK.out.size)); clear hb hk2)
              | (at_builtin; refine wpList_append_int rfl _ _ rfl (w.heap.size + 1 + 1 + 1) _ (xs.map Int.ofNat) rfl ?c0 _ 1 1 [(x : Int)] rfl ?c1 ?c2 ?c3 ?_))
            case c0 => exact HO2.out.alloc _
            case c1 => exact one_int _ _
            case c2 => rw [List.length_map, hxl]; omega
            case c3 => exact Nat.le_trans HZ2.out (by simp)
            intro v7 w7 ho7 _ hb7
            have HBB := Lib.hid ((HB2.out.alloc _).behind hb7 (by omega) (by omega) (by omega))
            have HB7 := Lib.hid ((HKK.out.alloc HKK.out.size _).trans (hb7.mono (by omega)))
            have HZ7 := Lib.hid (Nat.le_trans HZ2.out (Nat.le_trans (by simp) hb7.size))
            have HO7 := Lib.hid ho7
            clear ho7 hb7
            go_wp2_with fail
            go_roundg (gk - 1)
            case measure => omega
            case rel => exact Or.inl ⟨k + 1, c + u, xs ++ [x], by omega, by omega, Lib.hid (by rw [List.map_append]; exact HO7.out), HNX, Lib.hid (by have := HBB.out; rwa [show (t0 : Int) + (c : Int) + (u : Int) = (t0 : Int) + ((c + u : Nat) : Int) by omega] at this), HB7, HZ7⟩
          | succ e =>
            have HF := Lib.hid (items_fail k HI.out hp hlt)
            rw [← hdr] at hp
            have hg := getZ_err hc hp
            rw [show ((t0 + c : Nat) : Int) = (t0 : Int) + (c : Int) by omega] at hg
            have HGG := Lib.hid hg
            clear hg hp hdr
            go_wp2_with (first
              | (go_at_call 81; (with_reducible refine HT2.out.mono ?_); rintro r w2 ⟨rfl, hb, hk2⟩; rw [HGG.out] at hb ⊢; have HB2 := Lib.hid hb; have HK2 := Lib.hid hk2; have HO2 := Lib.hid (HO.out.kept hk2 (by omega) (by omega)); have HZ2 := Lib.hid (Nat.le_trans HZ.out hk2.size); have HKK := Lib.hid (HK.out.trans (hk2.below (by omega) (by omega) HK.out.size)); clear hb hk2)
              | (at_builtin; refine wpList_append_int rfl _ _ rfl (w.heap.size + 1 + 1 + 1) _ (xs.map Int.ofNat) rfl ?c0 _ 1 1 [0] rfl ?c1 ?c2 ?c3 ?_))
            case c0 => exact HO2.out.alloc _
            case c1 => exact one_int _ _
            case c2 => rw [List.length_map, hxl]; omega
            case c3 => exact Nat.le_trans HZ2.out (by simp)
            intro v7 w7 ho7 _ hb7
            have HBB := Lib.hid ((HB2.out.alloc _).behind hb7 (by omega) (by omega) (by omega))
            have HB7 := Lib.hid ((HKK.out.alloc HKK.out.size _).trans (hb7.mono (by omega)))
            clear ho7 hb7
            go_wp2_with fail
            go_roundg (gk - 1)
            case measure => omega
            case rel => exact Or.inr ⟨e, HF, HBB, HB7⟩
        · obtain rfl : k = n := by omega
          have d9 : decide (k < k) = false := decide_eq_false (by omega)
          have HU := Lib.hid (show unrowZ s a most = (xs.map Int.ofNat, (t0 : Int) + (c : Int), 0) from HUN.out.trans (by rw [HI.out, if_pos rfl]))
          generalize (t0 : Int) + (c : Int) = p2 at *
          have hb2 := other_block HB.out.e HNE.out (.int .i64 p2)
          have ce3 := cell_of_one hb2
          have fe3 := free_of_one hb2
          have hc := box_end HB.out HNE.out p2 0
          have hc1 := hc.1
          have hc2 := hc.2.1
          have HBE := Lib.hid hc.2.2
          clear hc hb2 hlt
          go_wp2
          go_region
          go_wp2
          refine bodyPost_ret (v := .tuple #[.slice sa k cap, .int .i64 p2, .int .i64 0]) (by simp [results, Tryz.f66, go_sem, hc1, hc2]) rfl ?_
          exact ⟨_, unrow_ret HU.out, by rw [HU.out]; exact (HO.out.kept HBE.out (by omega) (by omega)).lower (by omega), HK.out.trans (HBE.out.below (by omega) (by omega) HK.out.size)⟩
      · have ct1 := cell_of_one HB.out.t
        have ft1 := free_of_one HB.out.t
        have ce1 := cell_of_one HB.out.e
        have fe1 := free_of_one HB.out.e
        have e2 : (((e + 1 : Nat) : Int) == 0) = false := by simp; omega
        have e3 : (((e + 1 : Nat) : Int) != 0) = true := by simp; omega
        have HU := Lib.hid (show unrowZ s a most = ([], 0, ((e + 1 : Nat) : Int)) from HUN.out.trans (by rw [HI.out, if_neg (by simp)]))
        generalize (((e + 1 : Nat) : Int)) = p3 at *
        have hb2 := other_block HB.out.e HNE.out (.int .i64 0)
        have ce3 := cell_of_one hb2
        have fe3 := free_of_one hb2
        have hc := box_end HB.out HNE.out 0 p3
        have hc1 := hc.1
        have hc2 := hc.2.1
        have HBE := Lib.hid hc.2.2
        clear hc hb2
        go_wp2
        go_region
        go_wp2
        refine bodyPost_ret (v := .tuple #[.slice none 0 0, .int .i64 0, .int .i64 p3]) (by simp [results, Tryz.f66, go_sem, hc1, hc2]) rfl ?_
        exact ⟨_, unrow_ret HU.out, by rw [HU.out]; exact ownI_nil _ _, HK.out.trans (HBE.out.below (by omega) (by omega) HK.out.size)⟩
theorem unrow_any (s : ByteArray) (a most : Int) (w : World) (hs : s.size ≤ 100000) :
    Calls Tryz.prog 66 #[.string s, .int .i64 a, .int .i64 most] w fun e w' => ∃ v, e = .returned (.tuple #[v, .int .i64 (unrowZ s a most).2.1, .int .i64 (unrowZ s a most).2.2]) ∧ ResI w' v (unrowZ s a most).1 ∧ RowKit.Below w.heap.size w w' := by
  have hown : Calls Tryz.prog 66 #[.string s, .int .i64 a, .int .i64 most] w fun e w' => ∃ v, e = .returned (.tuple #[v, .int .i64 (unrowZ s a most).2.1, .int .i64 (unrowZ s a most).2.2]) ∧ OwnI w' w.heap.size v (unrowZ s a most).1 ∧ RowKit.Below w.heap.size w w' := by
    by_cases q0 : (getZ s a).2.2 = 0
    · obtain ⟨m, n, u, rfl, hm, hp, hg, hmu⟩ := getZ_zero q0
      have hn9 := (parse_least hp).2.2.2
      have hg2 : getZ s (m : Int) = ((n : Int), ((m + u : Nat) : Int), 0) := by rw [hg]; simp
      by_cases q1 : 1000 < (n : Int) ∨ (most < (n : Int) ∧ 0 < (n : Int))
      · exact unrow_big s m most hs n (m + u) hg2 hn9 q1 w
      · exact unrow_ok s m most hs n (m + u) hg2 hmu q1 w
    · exact unrow_err s a most hs q0 w
  exact hown.mono fun e w' ⟨v, h1, h2, h3⟩ => ⟨v, h1, h2.res, h3⟩
end Go.Proofs.YtegbldkkggpjcaaGreatDoor
