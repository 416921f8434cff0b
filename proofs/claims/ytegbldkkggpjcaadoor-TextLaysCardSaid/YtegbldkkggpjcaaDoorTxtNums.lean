/- The document's writer: Nums. -/
import Derived.Test.YtegbldkkggpjcaaDoorTxtOut
import Derived.Deep.LoopGhost
namespace Go.Proofs.YtegbldkkggpjcaaDoor
open Go.RowKit Go.Sort

attribute [local go_sem ↓] Go.wp_at_zero Go.wp_at_succ

def numL (t : OutS) (l : List Int) : OutS := l.foldl (fun t n => layS t pNum (bs (putZ n)) (putE n)) t
theorem numL_take (t : OutS) (l : List Int) (k : Nat) (h : k < l.length) : numL t (l.take (k + 1)) = layS (numL t (l.take k)) pNum (bs (putZ (l.getD k 0))) (putE (l.getD k 0)) := by
  unfold numL
  rw [List.take_add_one, List.foldl_append]
  simp [List.getD, h]
theorem layS_size (t : OutS) (pc s : ByteArray) (e : Int) : (layS t pc s e).s.size ≤ t.s.size + s.size := by
  unfold layS
  split
  · omega
  · split
    · exact Nat.zero_le _
    · exact Nat.le_of_eq ByteArray.size_append
theorem numL_size (t : OutS) (l : List Int) (hwf : ∀ x ∈ l, x ≤ 9223372036854775807) : (numL t l).s.size ≤ t.s.size + 9 * l.length := by
  induction l generalizing t with
  | nil => simp [numL]
  | cons x l ih =>
    have h := ih (layS t pNum (bs (putZ x)) (putE x)) (fun y hy => hwf y (List.mem_cons_of_mem _ hy))
    have h2 := layS_size t pNum (bs (putZ x)) (putE x)
    have h3 := putZ_len x (hwf x (List.mem_cons_self ..))
    rw [bs_size] at h2
    show (numL (layS t pNum (bs (putZ x)) (putE x)) l).s.size ≤ _
    simp only [List.length_cons]
    omega
theorem put3_heap (w : World) (B : Nat) (a b c : Value) (j : Nat) (h : j ≠ B) : (put3W w B a b c).heap[j]? = w.heap[j]? := by
  unfold put3W
  rw [Below.heap_setCell _ _ _ j h, Below.heap_setCell _ _ _ j h, Below.heap_setCell _ _ _ j h]
theorem Three.far {w : World} {B C : Nat} {a b c : Value} (k : Three w B a b c) (hne : B ≠ C) (x y z : Value) : Three (put3W w C x y z) B a b c := by
  have e := put3_heap w C x y z B hne
  generalize put3W w C x y z = W at *
  exact ⟨(World.cell?_of_block e).trans k.c0, (World.cell?_of_block e).trans k.c1, (World.cell?_of_block e).trans k.c2, (World.frozen?_of_block e).trans k.f0, (World.frozen?_of_block e).trans k.f1, (World.frozen?_of_block e).trans k.f2⟩

set_option maxHeartbeats 1600000 in
theorem nums_any (t : OutS) (sa : Option Addr) (len cap : Nat) (l : List Int) (h1 : t.s.size ≤ 900000) (w : World) (hm : len ≤ 10000) (hwf : ∀ x ∈ l, x ≤ 9223372036854775807) (hr : ReadsI w sa len l) : Calls Tryd.prog 24 #[.agg #[.string t.s, .string t.p, .int .i64 t.e], .slice sa len cap] w fun x w' => x = .returned (outV (numL t l)) ∧ RowKit.Below w.heap.size w w' := by
  have HZ := Lib.hid hr.1
  have HR := Lib.hid hr; clear hr
  have HWF := Lib.hid hwf; clear hwf
  go_enter Tryd.func24, Tryd.ntmps24
  go_wp2_with fail
  go_loopg [5] len (fun gg i wr => ∃ (k : Nat) (u : OutS), k + gg = len ∧ i = .int .i64 k ∧ Hid (u = numL t (l.take k)) ∧ Hid (Three wr w.heap.size (.string u.s) (.string u.p) (.int .i64 u.e)) ∧ Hid (Three wr (w.heap.size + 1) (.string ⟨#[]⟩) (.string ⟨#[]⟩) (.int .i64 0)) ∧ Hid (RowKit.Below w.heap.size w wr))
  case atStart => exact ⟨0, t, by omega, rfl, Lib.hid rfl, Lib.hid (three_one_b (Below.refl _ _)), Lib.hid (three_two_b (Below.refl _ _)), Lib.hid (((Grew.refl w).alloc _).alloc _).below⟩
  case round =>
    obtain ⟨k, u, hk, rfl, HU, HA, HB2, HB⟩ := hrel
    by_cases hlt : k < len
    · obtain ⟨b, off, rfl, g⟩ := (HR.out.later HB.out).2 (by omega)
      have l0 := g k hlt
      clear g
      have hkl : k < l.length := by rw [← HZ.out]; exact hlt
      have hxm := HWF.out (l.getD k 0) (by rw [List.getD_eq_getElem?_getD, List.getElem?_eq_getElem hkl]; exact List.getElem_mem hkl)
      have HN := Lib.hid (show layS u pNum (bs (putZ (l.getD k 0))) (putE (l.getD k 0)) = numL t (l.take (k + 1)) by rw [numL_take t l k hkl, HU.out])
      have hus := numL_size t (l.take k) (fun y hy => HWF.out y (List.mem_of_mem_take hy))
      rw [← HU.out, List.length_take] at hus
      have hpz := putZ_len (l.getD k 0) hxm
      have hmin : min k l.length ≤ k := Nat.min_le_left _ _
      generalize l.getD k 0 = x at *
      have G := Lib.hid (fun w => rput_any x hxm w)
      have M := Lib.hid (fun w => rlay_any u pNum (bs (putZ x)) (putE x) (by omega) (by rw [bs_size]; omega) w)
      have i1 : (0 : Int) ≤ (k : Int) := by omega
      have i2 : (k : Int) < (len : Int) := by omega
      clear hus hpz hmin hxm
      have a0 := HA.out.c0; have a1 := HA.out.c1; have a2 := HA.out.c2
      go_wp2_with (first
        | (go_at_call 50; refine (G.out _).mono ?_; rintro y w2 ⟨rfl, hb⟩; have hA := HA.out.later hb; have a0 := hA.c0; have a1 := hA.c1; have a2 := hA.c2; have HA2 := Lib.hid hA; have HC2 := Lib.hid (HB2.out.later hb); have HD2 := Lib.hid (HB.out.trans (hb.mono HB.out.size)); clear hb hA)
        | (go_at_call 51; refine (M.out _).mono ?_; rintro y w3 ⟨rfl, hg⟩; have hA := HA2.out.later hg.below; have y0 := hA.c0; have y1 := hA.c1; have y2 := hA.c2; have z0 := hA.f0; have z1 := hA.f1; have z2 := hA.f2; have HA3 := Lib.hid hA; have HC3 := Lib.hid (HC2.out.later hg.below); have HD3 := Lib.hid (HD2.out.trans (hg.below.mono HD2.out.size)); clear hA hg))
      go_roundg (gk - 1)
      case measure => omega
      case rel => exact ⟨k + 1, layS u pNum (bs (putZ x)) (putE x), by omega, by go_num, HN, Lib.hid (put3 HA3.out _ _ _), Lib.hid (HC3.out.far (by omega) _ _ _), Lib.hid (put3_below HD3.out (by omega) _ _ _)⟩
    · obtain rfl : k = len := by omega
      have ht : l.take k = l := List.take_of_length_le (by rw [HZ.out]; exact Nat.le_refl _)
      have HN := Lib.hid (show u = numL t l by rw [← ht]; exact HU.out)
      clear hlt ht
      have a0 := HA.out.c0; have a1 := HA.out.c1; have a2 := HA.out.c2
      have y0 := HB2.out.c0; have y1 := HB2.out.c1; have y2 := HB2.out.c2; have z0 := HB2.out.f0; have z1 := HB2.out.f1; have z2 := HB2.out.f2
      go_wp2
      clear y0 y1 y2 z0 z1 z2
      refine bodyPost_ret (res_out1 rfl rfl (put3 HB2.out _ _ _)) rfl ⟨ret_out HN.out, put3_below HB.out (by omega) _ _ _⟩
end Go.Proofs.YtegbldkkggpjcaaDoor
