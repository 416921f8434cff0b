/- The contract of the library's breakPatterns at a row of commands: the part's places are permuted among themselves. Written by a generator of mine (wip/gen). -/
import Derived.Test.YtcgnodkbmpkhkaaIdentBreak
import Derived.Test.YtcgnodkbmpkhkaaIdentHeap2
namespace Go.Proofs.Ytcgnodkbmpkhkaa
open Go.RowKit Go.Sort

set_option maxHeartbeats 4000000 in
theorem break_any (w0 W : World) (b a e cap : Nat) (d : Array (Int × Int)) (S : RowAt w0 b d W) (h8 : a + 8 ≤ e) (hed : e ≤ d.size) (hsz : d.size ≤ 1000) :
    Calls Try.prog 39 #[.slice (some ⟨b, 0, none⟩) d.size cap, .int .i64 a, .int .i64 e, .func (.func 30) #[.func (.func 18) #[] #[]] #[]] W fun r w' => r = .returned (.tuple #[]) ∧ ∃ d', PermIn a e d d' ∧ RowAt w0 b d' w' := by
  have hmix := mixed
  have n1 : (e : Int) - (a : Int) ≥ 8 := by omega
  have n2 : IntKind.u64.wrap ((e : Int) - (a : Int)) = ((e - a : Nat) : Int) := by rw [IntKind.wrap_u64]; omega
  have hlt := S.lt
  have S0 := Lib.hid S; clear S
  go_enter Try.func39, Try.ntmps39
  go_wp2_with fail
  refine (pow_any (e - a) _ (by omega) (by omega) (by omega) _).mono ?_
  rintro r w' ⟨M, rfl, hM1, hM2, rfl⟩
  obtain ⟨q, hq⟩ : ∃ q, q = (e - a) / 4 := ⟨_, rfl⟩
  have hq1 : ((e : Int) - (a : Int)) / 4 = (q : Int) := by omega
  have hq2 : 4 * q ≤ e - a ∧ 2 ≤ q := by omega
  clear hq
  obtain ⟨hq2, hq3⟩ := hq2
  have R0 : Hid (RndAt w0 b d W.heap.size (e - a) (W.alloc (.cells #[.int .u64 ((e - a : Nat) : Int)] 68))) :=
    ⟨S0.out.grew ((Grew.refl W).alloc _), by rw [World.cell?_alloc_at _ _ _ _ rfl]; rfl, by simp, hlt, by omega⟩
  generalize (W.alloc (.cells #[.int .u64 ((e - a : Nat) : Int)] 68)) = w1 at R0 ⊢
  generalize W.heap.size = c at R0 ⊢
  clear S0 hlt n2
  go_wp2_with fail
  simp only [hq1]
  go_loopw [11, 12] (fun u _ wr => ∃ (k r X : Nat) (dk : Array (Int × Int)), u = .int .i64 k ∧ k + 1 = a + q * 2 + r ∧ r ≤ 3 ∧ dk.size = d.size ∧ Hid (RndAt w0 b dk c X wr) ∧ Hid (PermIn a e d dk)) (fun u _ _ => (a + q * 2 + 5 - (intOf u).toNat))
  case atStart => exact ⟨a + q * 2 - 1, 0, e - a, d, by go_num, by omega, by omega, rfl, R0, permIn_refl _ _ _⟩
  case round =>
    clear R0
    obtain ⟨k, r, X, dk, rfl, hk, hr, hsk, R, HP⟩ := hrel
    by_cases hlt : k ≤ a + q * 2 + 1
    · have z1 : (k : Int) ≤ (a : Int) + (q : Int) * 2 + 1 := by omega
      go_wp2_with fail
      refine (xor_any w0 _ b c X dk R.out).mono ?_
      rintro r1 w1 ⟨Y, rfl, R1⟩
      have R1 := Lib.hid R1
      have lY := R1.out.lt
      obtain ⟨o, ho⟩ : ∃ o, o = Y &&& (M - 1) := ⟨_, rfl⟩
      have e1 : bits .and .u64 (Y : Int) ((M : Int) - 1) = (o : Int) := by
        rw [show (M : Int) - 1 = ((M - 1 : Nat) : Int) by omega, bits_and_u64_nat _ _ lY (by omega), ho]
      have ho2 : o ≤ M - 1 := by rw [ho]; exact Nat.and_le_right
      clear ho R
      by_cases hoL : e - a ≤ o
      · obtain ⟨t, ht⟩ : ∃ t, t = o - (e - a) := ⟨_, rfl⟩
        have z2 : (o : Int) ≥ (e : Int) - (a : Int) := by omega
        have z3 : (o : Int) - ((e : Int) - (a : Int)) = (t : Int) := by omega
        have z4 : IntKind.i64.wrap ((o : Int) - ((e : Int) - (a : Int))) = (t : Int) := by rw [IntKind.wrap_i64]; omega
        have ht2 : t < e - a := by omega
        clear ht
        have SS := Lib.hid R1.out.row
        by_cases same : k = a + t
        · have hB : ((a : Int) + (t : Int)) = (k : Int) := by omega
          clear same
          go_wp2_with fail
          have eua : ((k : Int)).toNat = k := by omega
          have pua : (0 : Int) ≤ (k : Int) := by omega
          have bua : (k : Int) < (d.size : Int) := by omega
          have rua : IntKind.i64.wrap ((k : Int)) = (k : Int) := by rw [IntKind.wrap_i64]; omega
          have eub : ((k : Int)).toNat = k := by omega
          have pub : (0 : Int) ≤ (k : Int) := by omega
          have bub : (k : Int) < (d.size : Int) := by omega
          have rub : IntKind.i64.wrap ((k : Int)) = (k : Int) := by rw [IntKind.wrap_i64]; omega
          obtain ⟨xu, hxu⟩ : ∃ x, x = dk[k]! := ⟨_, rfl⟩
          have lu0 := SS.out.c0 (k) (by omega)
          have lu1 := SS.out.c1 (k) (by omega)
          have lu2 := SS.out.c0 (k) (by omega)
          have lu3 := SS.out.c1 (k) (by omega)
          have gu0 := SS.out.f0 (k) (by omega)
          have gu1 := SS.out.f1 (k) (by omega)
          have gu2 := SS.out.f0 (k) (by omega)
          have gu3 := SS.out.f1 (k) (by omega)
          have Su := Lib.hid ((SS.out.swapped (k) (k) (by omega) (by omega) xu xu hxu hxu).drew)
          obtain ⟨mu1, mu2, mu3⟩ := SS.out.meetSelf (k) (by omega) (.int .i64 xu.1) (.int .i64 xu.2) (.int .i64 xu.1)
          rw [← hxu] at lu0 lu1 mu1
          rw [← hxu] at lu2 lu3
          have R2 := Lib.hid (R1.out.four _ _ _ _ _ _ _ _ Su.out)
          clear R1
          clear SS hxu
          go_wp2_with fail
          go_big_region_o
          clear lu0 lu1 lu2 lu3 gu0 gu1 gu2 gu3 mu1 mu2 mu3
          generalize ((((w1.setCell ⟨b, (k) * 2, none⟩ (.int .i64 xu.1)).setCell ⟨b, (k) * 2 + 1, none⟩ (.int .i64 xu.2)).setCell ⟨b, (k) * 2, none⟩ (.int .i64 xu.1)).setCell ⟨b, (k) * 2 + 1, none⟩ (.int .i64 xu.2)).drew = wu at Su R2 ⊢
          go_wp2
          go_roundw
          case rel => exact ⟨k + 1, r + 1, Y, swp dk k (k), by go_num, by omega, by omega, by rw [size_swp]; exact hsk, R2, permIn_trans _ _ _ _ _ HP.out (swp_permIn dk a e k (k) (by omega) (by omega) (by omega) (by omega) (by omega))⟩
          case measure => simp [intOf]; omega
        · go_wp2_with fail
          have eua : ((k : Int)).toNat = k := by omega
          have pua : (0 : Int) ≤ (k : Int) := by omega
          have bua : (k : Int) < (d.size : Int) := by omega
          have rua : IntKind.i64.wrap ((k : Int)) = (k : Int) := by rw [IntKind.wrap_i64]; omega
          have eub : (((a : Int) + (t : Int))).toNat = a + t := by omega
          have pub : (0 : Int) ≤ ((a : Int) + (t : Int)) := by omega
          have bub : ((a : Int) + (t : Int)) < (d.size : Int) := by omega
          have rub : IntKind.i64.wrap (((a : Int) + (t : Int))) = ((a : Int) + (t : Int)) := by rw [IntKind.wrap_i64]; omega
          obtain ⟨xu, hxu⟩ : ∃ x, x = dk[k]! := ⟨_, rfl⟩
          obtain ⟨yu, hyu⟩ : ∃ y, y = dk[a + t]! := ⟨_, rfl⟩
          have lu0 := SS.out.c0 (k) (by omega)
          have lu1 := SS.out.c1 (k) (by omega)
          have lu2 := SS.out.c0 (a + t) (by omega)
          have lu3 := SS.out.c1 (a + t) (by omega)
          have gu0 := SS.out.f0 (k) (by omega)
          have gu1 := SS.out.f1 (k) (by omega)
          have gu2 := SS.out.f0 (a + t) (by omega)
          have gu3 := SS.out.f1 (a + t) (by omega)
          have Su := Lib.hid ((SS.out.swapped (k) (a + t) (by omega) (by omega) xu yu hxu hyu).drew)
          obtain ⟨mu1, mu2, mu3⟩ := SS.out.meet (k) (a + t) (by omega) (by omega) (by omega) (.int .i64 yu.1) (.int .i64 yu.2) (.int .i64 xu.1)
          rw [← hxu] at lu0 lu1 mu1
          rw [← hyu] at lu2 lu3 mu2 mu3
          have R2 := Lib.hid (R1.out.four _ _ _ _ _ _ _ _ Su.out)
          clear R1
          clear SS hxu hyu
          go_wp2_with fail
          go_big_region_o
          clear lu0 lu1 lu2 lu3 gu0 gu1 gu2 gu3 mu1 mu2 mu3
          generalize ((((w1.setCell ⟨b, (k) * 2, none⟩ (.int .i64 yu.1)).setCell ⟨b, (k) * 2 + 1, none⟩ (.int .i64 yu.2)).setCell ⟨b, (a + t) * 2, none⟩ (.int .i64 xu.1)).setCell ⟨b, (a + t) * 2 + 1, none⟩ (.int .i64 xu.2)).drew = wu at Su R2 ⊢
          go_wp2
          go_roundw
          case rel => exact ⟨k + 1, r + 1, Y, swp dk k (a + t), by go_num, by omega, by omega, by rw [size_swp]; exact hsk, R2, permIn_trans _ _ _ _ _ HP.out (swp_permIn dk a e k (a + t) (by omega) (by omega) (by omega) (by omega) (by omega))⟩
          case measure => simp [intOf]; omega
      · have z2 : decide ((o : Int) ≥ (e : Int) - (a : Int)) = false := decide_eq_false (by omega)
        have SS := Lib.hid R1.out.row
        by_cases same : k = a + o
        · have hB : ((a : Int) + (o : Int)) = (k : Int) := by omega
          clear same
          go_wp2_with fail
          have eua : ((k : Int)).toNat = k := by omega
          have pua : (0 : Int) ≤ (k : Int) := by omega
          have bua : (k : Int) < (d.size : Int) := by omega
          have rua : IntKind.i64.wrap ((k : Int)) = (k : Int) := by rw [IntKind.wrap_i64]; omega
          have eub : ((k : Int)).toNat = k := by omega
          have pub : (0 : Int) ≤ (k : Int) := by omega
          have bub : (k : Int) < (d.size : Int) := by omega
          have rub : IntKind.i64.wrap ((k : Int)) = (k : Int) := by rw [IntKind.wrap_i64]; omega
          obtain ⟨xu, hxu⟩ : ∃ x, x = dk[k]! := ⟨_, rfl⟩
          have lu0 := SS.out.c0 (k) (by omega)
          have lu1 := SS.out.c1 (k) (by omega)
          have lu2 := SS.out.c0 (k) (by omega)
          have lu3 := SS.out.c1 (k) (by omega)
          have gu0 := SS.out.f0 (k) (by omega)
          have gu1 := SS.out.f1 (k) (by omega)
          have gu2 := SS.out.f0 (k) (by omega)
          have gu3 := SS.out.f1 (k) (by omega)
          have Su := Lib.hid ((SS.out.swapped (k) (k) (by omega) (by omega) xu xu hxu hxu).drew)
          obtain ⟨mu1, mu2, mu3⟩ := SS.out.meetSelf (k) (by omega) (.int .i64 xu.1) (.int .i64 xu.2) (.int .i64 xu.1)
          rw [← hxu] at lu0 lu1 mu1
          rw [← hxu] at lu2 lu3
          have R2 := Lib.hid (R1.out.four _ _ _ _ _ _ _ _ Su.out)
          clear R1
          clear SS hxu
          go_wp2_with fail
          go_big_region_o
          clear lu0 lu1 lu2 lu3 gu0 gu1 gu2 gu3 mu1 mu2 mu3
          generalize ((((w1.setCell ⟨b, (k) * 2, none⟩ (.int .i64 xu.1)).setCell ⟨b, (k) * 2 + 1, none⟩ (.int .i64 xu.2)).setCell ⟨b, (k) * 2, none⟩ (.int .i64 xu.1)).setCell ⟨b, (k) * 2 + 1, none⟩ (.int .i64 xu.2)).drew = wu at Su R2 ⊢
          go_wp2
          go_roundw
          case rel => exact ⟨k + 1, r + 1, Y, swp dk k (k), by go_num, by omega, by omega, by rw [size_swp]; exact hsk, R2, permIn_trans _ _ _ _ _ HP.out (swp_permIn dk a e k (k) (by omega) (by omega) (by omega) (by omega) (by omega))⟩
          case measure => simp [intOf]; omega
        · go_wp2_with fail
          have eua : ((k : Int)).toNat = k := by omega
          have pua : (0 : Int) ≤ (k : Int) := by omega
          have bua : (k : Int) < (d.size : Int) := by omega
          have rua : IntKind.i64.wrap ((k : Int)) = (k : Int) := by rw [IntKind.wrap_i64]; omega
          have eub : (((a : Int) + (o : Int))).toNat = a + o := by omega
          have pub : (0 : Int) ≤ ((a : Int) + (o : Int)) := by omega
          have bub : ((a : Int) + (o : Int)) < (d.size : Int) := by omega
          have rub : IntKind.i64.wrap (((a : Int) + (o : Int))) = ((a : Int) + (o : Int)) := by rw [IntKind.wrap_i64]; omega
          obtain ⟨xu, hxu⟩ : ∃ x, x = dk[k]! := ⟨_, rfl⟩
          obtain ⟨yu, hyu⟩ : ∃ y, y = dk[a + o]! := ⟨_, rfl⟩
          have lu0 := SS.out.c0 (k) (by omega)
          have lu1 := SS.out.c1 (k) (by omega)
          have lu2 := SS.out.c0 (a + o) (by omega)
          have lu3 := SS.out.c1 (a + o) (by omega)
          have gu0 := SS.out.f0 (k) (by omega)
          have gu1 := SS.out.f1 (k) (by omega)
          have gu2 := SS.out.f0 (a + o) (by omega)
          have gu3 := SS.out.f1 (a + o) (by omega)
          have Su := Lib.hid ((SS.out.swapped (k) (a + o) (by omega) (by omega) xu yu hxu hyu).drew)
          obtain ⟨mu1, mu2, mu3⟩ := SS.out.meet (k) (a + o) (by omega) (by omega) (by omega) (.int .i64 yu.1) (.int .i64 yu.2) (.int .i64 xu.1)
          rw [← hxu] at lu0 lu1 mu1
          rw [← hyu] at lu2 lu3 mu2 mu3
          have R2 := Lib.hid (R1.out.four _ _ _ _ _ _ _ _ Su.out)
          clear R1
          clear SS hxu hyu
          go_wp2_with fail
          go_big_region_o
          clear lu0 lu1 lu2 lu3 gu0 gu1 gu2 gu3 mu1 mu2 mu3
          generalize ((((w1.setCell ⟨b, (k) * 2, none⟩ (.int .i64 yu.1)).setCell ⟨b, (k) * 2 + 1, none⟩ (.int .i64 yu.2)).setCell ⟨b, (a + o) * 2, none⟩ (.int .i64 xu.1)).setCell ⟨b, (a + o) * 2 + 1, none⟩ (.int .i64 xu.2)).drew = wu at Su R2 ⊢
          go_wp2
          go_roundw
          case rel => exact ⟨k + 1, r + 1, Y, swp dk k (a + o), by go_num, by omega, by omega, by rw [size_swp]; exact hsk, R2, permIn_trans _ _ _ _ _ HP.out (swp_permIn dk a e k (a + o) (by omega) (by omega) (by omega) (by omega) (by omega))⟩
          case measure => simp [intOf]; omega
    · have z1 : decide ((k : Int) ≤ (a : Int) + (q : Int) * 2 + 1) = false := decide_eq_false (by omega)
      go_wp2
      go_end0
      exact ⟨rfl, dk, HP.out, R.out.row⟩
end Go.Proofs.Ytcgnodkbmpkhkaa
