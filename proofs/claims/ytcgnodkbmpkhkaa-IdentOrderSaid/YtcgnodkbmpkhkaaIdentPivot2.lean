/- The contracts of the library's choosePivot and reverseRange at a row of commands. Written by a generator of mine (wip/gen). -/
import Derived.Test.YtcgnodkbmpkhkaaIdentPivot
namespace Go.Proofs.Ytcgnodkbmpkhkaa
open Go.RowKit Go.Sort

theorem adjacent_z (w0 W : World) (b c s x cap : Nat) (d : Array (Int × Int)) (z : Int) (hz : z = x) (P : PivAt w0 b d c s W) (h1 : 1 ≤ x) (hx : x + 1 < d.size) (hs : s ≤ 900) (hsz : d.size ≤ 1000) :
    Calls Try.prog 50 #[.slice (some ⟨b, 0, none⟩) d.size cap, .int .i64 z, .pointer (some ⟨c, 0, none⟩), .func (.func 30) #[.func (.func 18) #[] #[]] #[]] W fun r w' =>
      ∃ u t : Nat, r = .returned (.int .i64 u) ∧ x ≤ u + 1 ∧ u ≤ x + 1 ∧ t ≤ s + 3 ∧ PivAt w0 b d c t w' := by
  subst hz; exact adjacent_any w0 W b c s x cap d P h1 hx hs hsz
theorem median_z (w0 W : World) (b c s x y z cap : Nat) (d : Array (Int × Int)) (zx zy zz : Int) (ex : zx = x) (ey : zy = y) (ez : zz = z) (P : PivAt w0 b d c s W) (hx : x < d.size) (hy : y < d.size) (hz : z < d.size) (hs : s ≤ 900) (hsz : d.size ≤ 1000) :
    Calls Try.prog 51 #[.slice (some ⟨b, 0, none⟩) d.size cap, .int .i64 zx, .int .i64 zy, .int .i64 zz, .pointer (some ⟨c, 0, none⟩), .func (.func 30) #[.func (.func 18) #[] #[]] #[]] W fun r w' =>
      ∃ u t : Nat, r = .returned (.int .i64 u) ∧ (u = x ∨ u = y ∨ u = z) ∧ t ≤ s + 3 ∧ PivAt w0 b d c t w' := by
  subst ex ey ez; exact median_any w0 W b c s x y z cap d P hx hy hz hs hsz

set_option maxHeartbeats 4000000 in
theorem pivot_any (w0 W : World) (b a e cap : Nat) (d : Array (Int × Int)) (S : RowAt w0 b d W) (hL : a + 13 ≤ e) (he : e ≤ d.size) (hsz : d.size ≤ 1000) :
    Calls Try.prog 40 #[.slice (some ⟨b, 0, none⟩) d.size cap, .int .i64 a, .int .i64 e, .func (.func 30) #[.func (.func 18) #[] #[]] #[]] W fun r w' =>
      ∃ p h : Nat, r = .returned (.tuple #[.int .i64 p, .int .i64 h]) ∧ a ≤ p ∧ p < e ∧ h ≤ 2 ∧ RowAt w0 b d w' := by
  have hlt := S.lt
  have S0 := Lib.hid S; clear S
  have n1 : (e : Int) - (a : Int) ≥ 8 := by omega
  have P0 : Hid (PivAt w0 b d W.heap.size 0 (W.alloc (.cells #[.int .i64 0] 3))) :=
    ⟨S0.out.grew ((Grew.refl W).alloc _), by rw [World.cell?_alloc_at _ _ _ _ rfl]; rfl, by simp, hlt⟩
  clear hlt
  by_cases hL50 : a + 50 ≤ e
  · have n2 : (e : Int) - (a : Int) ≥ 50 := by omega
    go_enter Try.func40, Try.ntmps40
    go_wp2_with fail
    refine (adjacent_z w0 _ b _ 0 (a + (e - a) / 4) cap d _ (by omega) P0.out (by omega) (by omega) (by omega) hsz).mono ?_
    rintro r w1 ⟨u1, t1, rfl, a1, b1, ht1, P1⟩
    have P1 := Lib.hid P1
    go_wp2_with fail
    refine (adjacent_z w0 _ b _ t1 (a + (e - a) / 4 * 2) cap d _ (by omega) P1.out (by omega) (by omega) (by omega) hsz).mono ?_
    rintro r w2 ⟨u2, t2, rfl, a2, b2, ht2, P2⟩
    have P2 := Lib.hid P2
    go_wp2_with fail
    refine (adjacent_z w0 _ b _ t2 (a + (e - a) / 4 * 3) cap d _ (by omega) P2.out (by omega) (by omega) (by omega) hsz).mono ?_
    rintro r w3 ⟨u3, t3, rfl, a3, b3, ht3, P3⟩
    have P3 := Lib.hid P3
    go_wp2_with fail
    refine (median_z w0 _ b _ t3 u1 u2 u3 cap d _ _ _ rfl rfl rfl P3.out (by omega) (by omega) (by omega) (by omega) hsz).mono ?_
    rintro r w4 ⟨u4, t4, rfl, hu4, ht4, P4⟩
    have P4 := Lib.hid P4
    have lo : a ≤ u4 ∧ u4 < e := by omega
    obtain ⟨lo1, lo2⟩ := lo
    clear hu4 P1 P2 P3 P0 S0
    by_cases q0 : t4 = 0
    · have e0 : (((t4 : Nat) : Int) == 0) = true := by simp; omega
      obtain ⟨_, cc, cf, cb⟩ := P4.out
      clear q0
      go_wp2
      go_ret2
      exact ⟨u4, 1, rfl, lo1, by omega, by omega, P4.out.row⟩
    have e0 : (((t4 : Nat) : Int) == 0) = false := by simp; omega
    by_cases q1 : t4 = 12
    · have e1 : (((t4 : Nat) : Int) == 12) = true := by simp; omega
      obtain ⟨_, cc, cf, cb⟩ := P4.out
      clear q0 q1
      go_wp2
      go_ret2
      exact ⟨u4, 2, rfl, lo1, by omega, by omega, P4.out.row⟩
    · have e1 : (((t4 : Nat) : Int) == 12) = false := by simp; omega
      obtain ⟨_, cc, cf, cb⟩ := P4.out
      clear q0 q1
      go_wp2
      go_ret2
      exact ⟨u4, 0, rfl, lo1, by omega, by omega, P4.out.row⟩
  · have n2 : decide ((e : Int) - (a : Int) ≥ 50) = false := decide_eq_false (by omega)
    go_enter Try.func40, Try.ntmps40
    go_wp2_with fail
    refine (median_z w0 _ b _ 0 (a + (e - a) / 4) (a + (e - a) / 4 * 2) (a + (e - a) / 4 * 3) cap d _ _ _ (by omega) (by omega) (by omega) P0.out (by omega) (by omega) (by omega) (by omega) hsz).mono ?_
    rintro r w4 ⟨u4, t4, rfl, hu4, ht4, P4⟩
    have P4 := Lib.hid P4
    have lo : a ≤ u4 ∧ u4 < e := by omega
    obtain ⟨lo1, lo2⟩ := lo
    clear hu4 P0 S0
    by_cases q0 : t4 = 0
    · have e0 : (((t4 : Nat) : Int) == 0) = true := by simp; omega
      obtain ⟨_, cc, cf, cb⟩ := P4.out
      clear q0
      go_wp2
      go_ret2
      exact ⟨u4, 1, rfl, lo1, by omega, by omega, P4.out.row⟩
    have e0 : (((t4 : Nat) : Int) == 0) = false := by simp; omega
    by_cases q1 : t4 = 12
    · have e1 : (((t4 : Nat) : Int) == 12) = true := by simp; omega
      obtain ⟨_, cc, cf, cb⟩ := P4.out
      clear q0 q1
      go_wp2
      go_ret2
      exact ⟨u4, 2, rfl, lo1, by omega, by omega, P4.out.row⟩
    · have e1 : (((t4 : Nat) : Int) == 12) = false := by simp; omega
      obtain ⟨_, cc, cf, cb⟩ := P4.out
      clear q0 q1
      go_wp2
      go_ret2
      exact ⟨u4, 0, rfl, lo1, by omega, by omega, P4.out.row⟩

set_option maxHeartbeats 4000000 in
theorem reverse_any (w0 W : World) (b a e cap : Nat) (d : Array (Int × Int)) (S : RowAt w0 b d W) (hae : a ≤ e) (hed : e ≤ d.size) (hsz : d.size ≤ 1000) :
    Calls Try.prog 41 #[.slice (some ⟨b, 0, none⟩) d.size cap, .int .i64 a, .int .i64 e, .func (.func 30) #[.func (.func 18) #[] #[]] #[]] W fun r w' => r = .returned (.tuple #[]) ∧ RowAt w0 b (reverseRange d a e) w' := by
  have hmix := mixed
  have S0 := Lib.hid S; clear S
  go_enter Try.func41, Try.ntmps41
  go_wp2
  go_loopw [8, 9] (fun u v wr => ∃ (i j : Nat) (z : Int) (dk : Array (Int × Int)), u = .int .i64 i ∧ v = .int .i64 z ∧ ((i : Int) < z → z = j ∧ j < d.size) ∧ (¬ (i : Int) < z → ¬ i < j) ∧ i ≤ 1000 ∧ z ≤ 1000 ∧ -1 ≤ z ∧ dk.size = d.size ∧ Hid (RowAt w0 b dk wr) ∧ Hid (reverseLoop i j dk = reverseRange d a e)) (fun u v _ => (intOf v - intOf u).toNat)
  case atStart => exact ⟨a, e - 1, (e : Int) - 1, d, rfl, rfl, fun h => ⟨by omega, by omega⟩, fun h => by omega, by omega, by omega, by omega, rfl, S0, rfl⟩
  case round =>
    clear S0
    obtain ⟨i, j, z, dk, rfl, rfl, h1, h2, hi, hz, hz', hsk, S1, HO⟩ := hrel
    by_cases hlt : (i : Int) < z
    · obtain ⟨rfl, hj⟩ := h1 hlt
      have hij : i < j := by omega
      clear h1 h2
      go_wp2_with fail
      have eua : ((i : Int)).toNat = i := by omega
      have pua : (0 : Int) ≤ (i : Int) := by omega
      have bua : (i : Int) < (d.size : Int) := by omega
      have rua : IntKind.i64.wrap ((i : Int)) = (i : Int) := by rw [IntKind.wrap_i64]; omega
      have eub : ((j : Int)).toNat = j := by omega
      have pub : (0 : Int) ≤ (j : Int) := by omega
      have bub : (j : Int) < (d.size : Int) := by omega
      have rub : IntKind.i64.wrap ((j : Int)) = (j : Int) := by rw [IntKind.wrap_i64]; omega
      obtain ⟨xu, hxu⟩ : ∃ x, x = dk[i]! := ⟨_, rfl⟩
      obtain ⟨yu, hyu⟩ : ∃ y, y = dk[j]! := ⟨_, rfl⟩
      have lu0 := S1.out.c0 (i) (by omega)
      have lu1 := S1.out.c1 (i) (by omega)
      have lu2 := S1.out.c0 (j) (by omega)
      have lu3 := S1.out.c1 (j) (by omega)
      have gu0 := S1.out.f0 (i) (by omega)
      have gu1 := S1.out.f1 (i) (by omega)
      have gu2 := S1.out.f0 (j) (by omega)
      have gu3 := S1.out.f1 (j) (by omega)
      have Su := Lib.hid ((S1.out.swapped (i) (j) (by omega) (by omega) xu yu hxu hyu).drew)
      obtain ⟨mu1, mu2, mu3⟩ := S1.out.meet (i) (j) (by omega) (by omega) (by omega) (.int .i64 yu.1) (.int .i64 yu.2) (.int .i64 xu.1)
      rw [← hxu] at lu0 lu1 mu1
      rw [← hyu] at lu2 lu3 mu2 mu3
      clear S1 hxu hyu
      go_wp2_with fail
      go_big_region_o
      clear lu0 lu1 lu2 lu3 gu0 gu1 gu2 gu3 mu1 mu2 mu3
      generalize ((((wr.setCell ⟨b, (i) * 2, none⟩ (.int .i64 yu.1)).setCell ⟨b, (i) * 2 + 1, none⟩ (.int .i64 yu.2)).setCell ⟨b, (j) * 2, none⟩ (.int .i64 xu.1)).setCell ⟨b, (j) * 2 + 1, none⟩ (.int .i64 xu.2)).drew = wu at Su ⊢
      go_wp2
      go_roundw
      case rel => exact ⟨i + 1, j - 1, (j : Int) - 1, swp dk i j, by go_num, by go_num, fun h => ⟨by omega, by omega⟩, fun h => by omega, by omega, by omega, by omega, by rw [size_swp]; exact hsk, Su, by have := HO.out; rw [reverseLoop, if_pos hij] at this; exact this⟩
      case measure => simp [intOf]; omega
    · have hn := h2 hlt
      clear h1 h2
      go_wp2
      go_end0
      refine ⟨rfl, ?_⟩
      have := HO.out
      rw [reverseLoop, if_neg hn] at this
      rw [← this]
      exact S1.out
end Go.Proofs.Ytcgnodkbmpkhkaa
