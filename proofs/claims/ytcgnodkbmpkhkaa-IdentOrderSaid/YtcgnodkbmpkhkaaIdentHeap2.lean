/- The contract of the library's heap sort of a row of commands. Written by a generator of mine (wip/gen). -/
import Derived.Test.YtcgnodkbmpkhkaaIdentHeap
namespace Go.Proofs.Ytcgnodkbmpkhkaa
open Go.RowKit Go.Sort

theorem RowAt.meetSelf {w0 W : World} {b : Nat} {d : Array (Int × Int)} (h : RowAt w0 b d W) (i : Nat) (hi : i < d.size) (u v w : Value) :
    (W.setCell ⟨b, i * 2, none⟩ u).cell? ⟨b, i * 2 + 1, none⟩ = some (.int .i64 d[i]!.2) ∧
    ((W.setCell ⟨b, i * 2, none⟩ u).setCell ⟨b, i * 2 + 1, none⟩ v).cell? ⟨b, i * 2, none⟩ = some u ∧
    (((W.setCell ⟨b, i * 2, none⟩ u).setCell ⟨b, i * 2 + 1, none⟩ v).setCell ⟨b, i * 2, none⟩ w).cell? ⟨b, i * 2 + 1, none⟩ = some v :=
  ⟨(cell_other _ _ _ _ _ (by omega)).trans (h.c1 i hi),
   (cell_other _ _ _ _ _ (by omega)).trans (cell_same _ _ _ _ _ (h.c0 i hi)),
   (cell_other _ _ _ _ _ (by omega)).trans (cell_same _ _ _ _ _ ((cell_other _ _ _ _ _ (by omega)).trans (h.c1 i hi)))⟩
theorem sift_z (w0 W : World) (b lo hi first cap len : Nat) (d : Array (Int × Int)) (z1 z2 z3 : Int) (e1 : z1 = lo) (e2 : z2 = hi) (e3 : z3 = first) (hl : len = d.size) (S : RowAt w0 b d W) (hf : first + hi ≤ d.size) (hsz : d.size ≤ 1000) (hlo : lo ≤ 1000) :
    Calls Try.prog 47 #[.slice (some ⟨b, 0, none⟩) len cap, .int .i64 z1, .int .i64 z2, .int .i64 z3, .func (.func 30) #[.func (.func 18) #[] #[]] #[]] W fun r w' => r = .returned (.tuple #[]) ∧ RowAt w0 b (siftDown lessB hi first lo d) w' := by
  subst e1 e2 e3 hl
  exact sift_any w0 W b lo hi first cap d S hf hsz hlo

set_option maxHeartbeats 8000000 in
theorem heap_any (w0 W : World) (b a e cap : Nat) (d : Array (Int × Int)) (S : RowAt w0 b d W) (hae : a ≤ e) (hed : e ≤ d.size) (hsz : d.size ≤ 1000) :
    Calls Try.prog 38 #[.slice (some ⟨b, 0, none⟩) d.size cap, .int .i64 a, .int .i64 e, .func (.func 30) #[.func (.func 18) #[] #[]] #[]] W fun r w' => r = .returned (.tuple #[]) ∧ RowAt w0 b (heapSort lessB d a e) w' := by
  have hmix := mixed
  have hst := half_start hae
  obtain ⟨K, hK⟩ : ∃ K, K = (e - a - 1) / 2 + 1 := ⟨_, rfl⟩
  rw [← hK] at hst
  have hK1 : K ≤ 600 := by omega
  have hK2 : 1 ≤ K := by omega
  have hw : wrap64 ((K : Int) - 1) = (K : Int) - 1 := IntWalk.wrap64_in ((K : Int) - 1) ⟨by omega, by omega⟩
  have HK : Hid (heapSort lessB d a e = heapPop lessB a (e - a) (heapBuild lessB (e - a) a K d)) := by show _ = _; rw [hK]; rfl
  clear hK
  obtain ⟨N, hN⟩ : ∃ N, N = e - a := ⟨_, rfl⟩
  rw [← hN] at HK
  have hN1 : (e : Int) - (a : Int) = (N : Int) := by omega
  have hN2 : a + N = e := by omega
  have S0 := Lib.hid S; clear S
  go_enter Try.func38, Try.ntmps38
  go_wp2
  go_loopw [11] (fun v wr => ∃ (k : Nat) (z : Int) (dk : Array (Int × Int)), v = .int .i64 z ∧ z = (k : Int) - 1 ∧ k ≤ 600 ∧ dk.size = d.size ∧ Hid (RowAt w0 b dk wr) ∧ Hid (heapBuild lessB N a k dk = heapBuild lessB N a K d)) (fun v _ => (intOf v + 1).toNat)
  case atStart => exact ⟨K, (K : Int) - 1, d, by rw [show (((e - a : Nat) : Int) - 1) = (e : Int) - (a : Int) - 1 by omega, hst], rfl, hK1, rfl, S0, rfl⟩
  case round =>
    clear S0
    obtain ⟨k, z, dk, rfl, hz, hk, hsk, S1, HO⟩ := hrel
    match k with
    | m + 1 =>
      obtain rfl : z = (m : Int) := by omega
      clear hz
      have z0 : (0 : Int) ≤ (m : Int) := by omega
      go_wp2_with (go_at_call 47; refine (sift_z w0 _ b m N a cap d.size dk _ _ _ rfl (by omega) rfl hsk.symm S1.out (by omega) (by omega) (by omega)).mono ?_; rintro e w' ⟨rfl, S3⟩)
      have S3 := Lib.hid S3
      go_roundw
      case rel => exact ⟨m, (m : Int) - 1, siftDown lessB N a m dk, by go_num, rfl, by omega, by rw [size_siftDown lessB N a N m _ (by omega)]; exact hsk, S3, HO.out⟩
      case measure => simp [intOf]
    | 0 =>
      obtain rfl : z = -1 := by omega
      clear hz
      have HB : Hid (dk = heapBuild lessB N a K d) := HO.out
      clear HO
      go_wp2
      go_loopw [12] (fun v wr => ∃ (k : Nat) (z : Int) (dk : Array (Int × Int)), v = .int .i64 z ∧ z = (k : Int) - 1 ∧ k ≤ N ∧ dk.size = d.size ∧ Hid (RowAt w0 b dk wr) ∧ Hid (heapPop lessB a k dk = heapSort lessB d a e)) (fun v _ => (intOf v + 1).toNat)
      case atStart => exact ⟨N, (N : Int) - 1, dk, by go_num, rfl, Nat.le_refl _, hsk, S1, by show _ = _; rw [HK.out, HB.out]⟩
      case round =>
        clear S1 HB
        obtain ⟨k, z, dk, rfl, hz, hk, hsk, S1, HO⟩ := hrel
        match k with
        | m + 1 =>
          by_cases q : m = 0
          · subst q
            obtain rfl : z = 0 := by omega
            clear hz
            go_wp2_with fail
            have eua : ((a : Int)).toNat = a := by omega
            have pua : (0 : Int) ≤ (a : Int) := by omega
            have bua : (a : Int) < (d.size : Int) := by omega
            have rua : IntKind.i64.wrap ((a : Int)) = (a : Int) := by rw [IntKind.wrap_i64]; omega
            have eub : ((a : Int)).toNat = a := by omega
            have pub : (0 : Int) ≤ (a : Int) := by omega
            have bub : (a : Int) < (d.size : Int) := by omega
            have rub : IntKind.i64.wrap ((a : Int)) = (a : Int) := by rw [IntKind.wrap_i64]; omega
            obtain ⟨xu, hxu⟩ : ∃ x, x = dk[a]! := ⟨_, rfl⟩
            have lu0 := S1.out.c0 (a) (by omega)
            have lu1 := S1.out.c1 (a) (by omega)
            have lu2 := S1.out.c0 (a) (by omega)
            have lu3 := S1.out.c1 (a) (by omega)
            have gu0 := S1.out.f0 (a) (by omega)
            have gu1 := S1.out.f1 (a) (by omega)
            have gu2 := S1.out.f0 (a) (by omega)
            have gu3 := S1.out.f1 (a) (by omega)
            have Su := Lib.hid ((S1.out.swapped (a) (a) (by omega) (by omega) xu xu hxu hxu).drew)
            obtain ⟨mu1, mu2, mu3⟩ := S1.out.meetSelf (a) (by omega) (.int .i64 xu.1) (.int .i64 xu.2) (.int .i64 xu.1)
            rw [← hxu] at lu0 lu1 mu1
            rw [← hxu] at lu2 lu3
            clear S1 hxu
            go_wp2_with fail
            go_big_region_o
            clear lu0 lu1 lu2 lu3 gu0 gu1 gu2 gu3 mu1 mu2 mu3
            generalize ((((wr.setCell ⟨b, (a) * 2, none⟩ (.int .i64 xu.1)).setCell ⟨b, (a) * 2 + 1, none⟩ (.int .i64 xu.2)).setCell ⟨b, (a) * 2, none⟩ (.int .i64 xu.1)).setCell ⟨b, (a) * 2 + 1, none⟩ (.int .i64 xu.2)).drew = wu at Su ⊢
            go_wp2_with fail
            refine (sift_z w0 _ b 0 0 a cap d.size _ 0 0 a rfl rfl rfl (by rw [size_swp]; exact hsk.symm) Su.out (by rw [size_swp]; omega) (by rw [size_swp]; omega) (by omega)).mono ?_
            rintro e w' ⟨rfl, S3⟩
            have S4 := Lib.hid S3; clear S3
            go_wp2
            go_roundw
            case rel => exact ⟨0, -1, siftDown lessB 0 a 0 (swp dk a a), by go_num, by omega, by omega, by rw [size_siftDown lessB 0 a 0 0 _ (by omega), size_swp]; exact hsk, S4, HO.out⟩
            case measure => simp [intOf]
          · obtain rfl : z = (m : Int) := by omega
            clear hz
            have z0 : (0 : Int) ≤ (m : Int) := by omega
            go_wp2_with fail
            have eua : ((a : Int)).toNat = a := by omega
            have pua : (0 : Int) ≤ (a : Int) := by omega
            have bua : (a : Int) < (d.size : Int) := by omega
            have rua : IntKind.i64.wrap ((a : Int)) = (a : Int) := by rw [IntKind.wrap_i64]; omega
            have eub : (((a : Int) + (m : Int))).toNat = a + m := by omega
            have pub : (0 : Int) ≤ ((a : Int) + (m : Int)) := by omega
            have bub : ((a : Int) + (m : Int)) < (d.size : Int) := by omega
            have rub : IntKind.i64.wrap (((a : Int) + (m : Int))) = ((a : Int) + (m : Int)) := by rw [IntKind.wrap_i64]; omega
            obtain ⟨xu, hxu⟩ : ∃ x, x = dk[a]! := ⟨_, rfl⟩
            obtain ⟨yu, hyu⟩ : ∃ y, y = dk[a + m]! := ⟨_, rfl⟩
            have lu0 := S1.out.c0 (a) (by omega)
            have lu1 := S1.out.c1 (a) (by omega)
            have lu2 := S1.out.c0 (a + m) (by omega)
            have lu3 := S1.out.c1 (a + m) (by omega)
            have gu0 := S1.out.f0 (a) (by omega)
            have gu1 := S1.out.f1 (a) (by omega)
            have gu2 := S1.out.f0 (a + m) (by omega)
            have gu3 := S1.out.f1 (a + m) (by omega)
            have Su := Lib.hid ((S1.out.swapped (a) (a + m) (by omega) (by omega) xu yu hxu hyu).drew)
            obtain ⟨mu1, mu2, mu3⟩ := S1.out.meet (a) (a + m) (by omega) (by omega) (by omega) (.int .i64 yu.1) (.int .i64 yu.2) (.int .i64 xu.1)
            rw [← hxu] at lu0 lu1 mu1
            rw [← hyu] at lu2 lu3 mu2 mu3
            clear S1 hxu hyu
            go_wp2_with fail
            go_big_region_o
            clear lu0 lu1 lu2 lu3 gu0 gu1 gu2 gu3 mu1 mu2 mu3
            generalize ((((wr.setCell ⟨b, (a) * 2, none⟩ (.int .i64 yu.1)).setCell ⟨b, (a) * 2 + 1, none⟩ (.int .i64 yu.2)).setCell ⟨b, (a + m) * 2, none⟩ (.int .i64 xu.1)).setCell ⟨b, (a + m) * 2 + 1, none⟩ (.int .i64 xu.2)).drew = wu at Su ⊢
            go_wp2_with fail
            refine (sift_z w0 _ b 0 m a cap d.size _ 0 m a rfl rfl rfl (by rw [size_swp]; exact hsk.symm) Su.out (by rw [size_swp]; omega) (by rw [size_swp]; omega) (by omega)).mono ?_
            rintro e w' ⟨rfl, S3⟩
            have S4 := Lib.hid S3; clear S3
            go_wp2
            go_roundw
            case rel => exact ⟨m, (m : Int) - 1, siftDown lessB m a 0 (swp dk a (a + m)), by go_num, rfl, by omega, by rw [size_siftDown lessB m a m 0 _ (by omega), size_swp]; exact hsk, S4, HO.out⟩
            case measure => simp [intOf]
        | 0 =>
          obtain rfl : z = -1 := by omega
          clear hz
          go_wp2
          go_end0
          refine ⟨rfl, ?_⟩
          rw [← HO.out]
          exact S1.out
end Go.Proofs.Ytcgnodkbmpkhkaa
