/- The program's own join. -/
import Derived.Test.YtdihbkhhhonlpaaRngPk
namespace Go.Proofs.Ytdihbkhhhonlpaa
open Go.RowKit Go.Sort Go.Shelf

attribute [local go_sem ↓] Go.wp_at_zero Go.wp_at_succ

theorem join_take_ok {zs : List (Int × Int)} (hv : ∀ r ∈ zs, Valid r) (hp : zs.Pairwise (fun a b => a.1 ≤ b.1)) (k : Nat) : Ok (-1) (joinL (zs.take k)) :=
  (joinL_is (fun r hr => hv r (List.mem_of_mem_take hr)) (hp.sublist (List.take_sublist k zs))).1
theorem last_valid {l : List (Int × Int)} {s : Int × Int} (h : Ok (-1) (l ++ [s])) : 1 ≤ s.2 ∧ s.2 ≤ 1000000 := last_hi h

set_option maxRecDepth 100000 in
set_option maxHeartbeats 6400000 in
theorem join_any (sa : Option Addr) (len cap : Nat) (zs : List (Int × Int)) (w : World) (hm : len ≤ 2000) (hr : ReadsA w sa len zs) (hv : ∀ r ∈ zs, Valid r) (hp : zs.Pairwise (fun a b => a.1 ≤ b.1)) :
    Calls Try.prog 39 #[.slice sa len cap] w fun e w' => ∃ v, e = .returned v ∧ OwnA w' w.heap.size v (joinL zs) ∧ RowKit.Below w.heap.size w w' := by
  have hmix := mixed
  have HZ := Lib.hid hr.1
  have HR := Lib.hid hr; clear hr
  have HOK := Lib.hid (join_take_ok hv hp); clear hv hp
  go_enter Try.func39, Try.ntmps39
  go_wp2
  go_loopg [3, 9] len (fun gg u i wr => ∃ (k : Nat) (v : Value), k + gg = len ∧ i = .int .i64 k ∧ v = u ∧ Hid (OwnA wr w.heap.size v (joinL (zs.take k))) ∧ Hid (RowKit.Below w.heap.size w wr))
  case atStart => exact ⟨0, _, by omega, rfl, rfl, Lib.hid (own_nil _ _), Lib.hid (Below.refl _ _)⟩
  case round =>
    obtain ⟨k, v, hk, rfl, rfl, HO, HW⟩ := hrel
    by_cases hlt : k < len
    · have HJ := Lib.hid (joinL_take zs k (by rw [← HZ.out]; exact hlt))
      have HLE := Lib.hid (joinL_len zs k)
      have HOKk := Lib.hid (HOK.out k)
      obtain ⟨b, off, rfl, g⟩ := (HR.out.later HW.out).2 (by omega)
      obtain ⟨l0, l1⟩ := g k hlt
      clear g
      generalize zs.getD k (0, 0) = x at *
      have i1 : (0 : Int) ≤ (k : Int) := by omega
      have i2 : (k : Int) < (len : Int) := by omega
      obtain ⟨w5, hw5⟩ : ∃ w5, w5 = wr.alloc (.cells #[.int .i64 x.1, .int .i64 x.2] 33) := ⟨_, rfl⟩
      have b0 : w5.cell? ⟨wr.heap.size, 0, none⟩ = some (.int .i64 x.1) := by rw [hw5]; simp
      have b1 : w5.cell? ⟨wr.heap.size, 1, none⟩ = some (.int .i64 x.2) := by rw [hw5]; simp
      have HW5 := Lib.hid (show RowKit.Below w.heap.size w w5 by rw [hw5]; exact HW.out.alloc HW.out.size _)
      have HO5 := Lib.hid (show OwnA w5 w.heap.size v (joinL (zs.take k)) by rw [hw5]; exact HO.out.alloc _)
      generalize joinL (zs.take k) = out at *
      rcases List.eq_nil_or_concat out with hnil | ⟨l, s, hcc⟩
      · subst hnil
        rw [joinStep_nil] at HJ
        obtain ⟨so, oc, rfl, hor⟩ := HO5.out.reads
        simp only [List.length_nil] at hor ⊢
        clear hor
        go_wp2_with fail
        rw [← hw5]
        clear hw5
        go_quiet (fail)
        have HW6 := Lib.hid (HW5.out.trans ((grew_quiet (Grew.refl w5) nq).below.mono HW5.out.size))
        have HO6 := Lib.hid (HO5.out.later (grew_quiet (Grew.refl w5) nq).below)
        have p0 : (w5.drewN nq).cell? ⟨wr.heap.size, 0, none⟩ = some (.int .i64 x.1) := b0
        have p1 : (w5.drewN nq).cell? ⟨wr.heap.size, 1, none⟩ = some (.int .i64 x.2) := b1
        clear b0 b1
        generalize w5.drewN nq = w6 at *
        go_wp2_with (at_builtin; refine wpList_append_att rfl _ _ rfl w.heap.size _ [] rfl ?a0 _ 1 1 [x] rfl ?a1 ?a2 ?a3 ?_)
        case a0 => exact HO6.out.alloc _
        case a1 => exact one_lit w6 x
        case a2 => decide
        case a3 => exact Nat.le_trans HW6.out.size (by simp)
        intro v7 w7 ho7 _ hb7
        have HW7 := Lib.hid ((HW6.out.alloc HW6.out.size _).trans hb7)
        have HO7 := Lib.hid ho7
        clear ho7 hb7
        go_wp2_with fail
        go_roundg (gk - 1)
        case measure => omega
        case rel => exact ⟨k + 1, _, by omega, by go_num, rfl, Lib.hid (by rw [HJ.out]; exact HO7.out), HW7⟩
      · rw [List.concat_eq_append] at hcc
        subst hcc
        obtain ⟨g, oc, rfl⟩ := HO5.out.head
        obtain ⟨c0, c1, cf, cg, _⟩ := HO5.out.lasts
        obtain ⟨r1, r2⟩ := last_valid HOKk.out
        obtain ⟨m, hm0⟩ : ∃ m, m = l.length := ⟨_, rfl⟩
        have hmk : m ≤ 2000 := by have := HLE.out; rw [List.length_append, ← hm0] at this; simp at this; omega
        rw [← hm0] at c0 c1 cf HO5 ⊢
        have HM := Lib.hid hm0
        have CG := Lib.hid cg
        clear hm0 cg HO
        have j1 : (0 : Int) ≤ (m : Int) := by omega
        have j2 : (m : Int) < (m : Int) + 1 := by omega
        by_cases e : x.1 ≤ s.2 + 1
        · have d2 : decide (x.1 ≤ s.2 + 1) = true := decide_eq_true e
          rw [joinStep_on l s x e] at HJ
          clear e
          go_wp2_with fail
          rw [← hw5]
          clear hw5
          go_quiet (fail)
          have HW6 := Lib.hid (HW5.out.trans ((grew_quiet (Grew.refl w5) nq).below.mono HW5.out.size))
          have HO6 := Lib.hid (HO5.out.later (grew_quiet (Grew.refl w5) nq).below)
          have p0 : (w5.drewN nq).cell? ⟨wr.heap.size, 0, none⟩ = some (.int .i64 x.1) := b0
          have p1 : (w5.drewN nq).cell? ⟨wr.heap.size, 1, none⟩ = some (.int .i64 x.2) := b1
          obtain ⟨c2, c3, cf3, _, _⟩ := HO6.out.lasts
          rw [← HM.out] at c2 c3 cf3
          clear c0 c1 cf b0 b1
          generalize w5.drewN nq = w6 at *
          go_wp2_with fail
          have HQ := Lib.hid (show (if s.2 < x.2 then x.2 else s.2) = max s.2 x.2 by split <;> omega)
          go_region
          all_goals
            go_wp2_with fail
            go_roundg (gk - 1)
            case measure => omega
            case rel =>
              have ho := (OwnA.last (by simp [← HM.out]) HO6.out (max s.2 x.2)).drew
              rw [← HM.out] at ho
              exact ⟨k + 1, _, by omega, by go_num, rfl, Lib.hid (by rw [HJ.out, HQ.out]; exact ho), Lib.hid ((HW6.out.setCell (p := ⟨g, m * 2 + 1, none⟩) CG.out _).drew)⟩
        · have d2 : decide (x.1 ≤ s.2 + 1) = false := decide_eq_false e
          rw [joinStep_new l s x e] at HJ
          clear e
          go_wp2_with fail
          rw [← hw5]
          clear hw5
          go_quiet (fail)
          have HW6 := Lib.hid (HW5.out.trans ((grew_quiet (Grew.refl w5) nq).below.mono HW5.out.size))
          have HO6 := Lib.hid (HO5.out.later (grew_quiet (Grew.refl w5) nq).below)
          have p0 : (w5.drewN nq).cell? ⟨wr.heap.size, 0, none⟩ = some (.int .i64 x.1) := b0
          have p1 : (w5.drewN nq).cell? ⟨wr.heap.size, 1, none⟩ = some (.int .i64 x.2) := b1
          clear c0 c1 cf b0 b1
          generalize w5.drewN nq = w6 at *
          go_wp2_with (at_builtin; refine wpList_append_att rfl _ _ rfl w.heap.size _ (l ++ [s]) rfl ?a0 _ 1 1 [x] rfl ?a1 ?a2 ?a3 ?_)
          case a0 => exact HO6.out.alloc _
          case a1 => exact one_lit w6 x
          case a2 => rw [List.length_append, ← HM.out]; simp; omega
          case a3 => exact Nat.le_trans HW6.out.size (by simp)
          intro v7 w7 ho7 _ hb7
          have HW7 := Lib.hid ((HW6.out.alloc HW6.out.size _).trans hb7)
          have HO7 := Lib.hid ho7
          clear ho7 hb7
          go_wp2_with fail
          go_roundg (gk - 1)
          case measure => omega
          case rel => exact ⟨k + 1, _, by omega, by go_num, rfl, Lib.hid (by rw [HJ.out]; simpa using HO7.out), HW7⟩
    · obtain rfl : k = len := by omega
      have HE := Lib.hid (show OwnA wr w.heap.size v (joinL zs) by
        have := HO.out
        rw [List.take_of_length_le (by rw [HZ.out]; exact Nat.le_refl _)] at this
        exact this)
      clear HO
      obtain ⟨sv, cv, rfl, _⟩ := HE.out.reads
      go_wp2
      go_ret
      exact ⟨_, rfl, HE.out, HW.out⟩
end Go.Proofs.Ytdihbkhhhonlpaa
