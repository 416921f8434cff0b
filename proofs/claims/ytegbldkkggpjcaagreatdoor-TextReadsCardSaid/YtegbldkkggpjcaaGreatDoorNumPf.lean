/- The contract of the program's own Unrow. -/
import Derived.Test.YtegbldkkggpjcaaGreatDoorNumPe
namespace Go.Proofs.YtegbldkkggpjcaaGreatDoor
open Go.RowKit Go.Sort

attribute [local go_sem ↓] Go.wp_at_zero Go.wp_at_succ

theorem boxes_new (w : World) (s : ByteArray) (a : Int) : Boxes (((w.alloc (.cells #[.string s] 9)).alloc (.cells #[.int .i64 a] 3)).alloc (.cells #[.int .i64 0] 41)) w.heap.size (w.heap.size + 1) (w.heap.size + 1 + 1) s a 0 := by
  refine ⟨?_, ?_, ?_⟩
  · exact (heap_alloc_old _ _ (show w.heap.size < _ by simp; omega)).trans ((heap_alloc_old _ _ (by simp)).trans (heap_alloc_new _ _))
  · refine (heap_alloc_old _ _ (by simp)).trans ?_
    have := heap_alloc_new (w.alloc (.cells #[.string s] 9)) (.cells #[.int .i64 a] 3)
    rwa [show (w.alloc (.cells #[.string s] 9)).heap.size = w.heap.size + 1 by simp] at this
  · have := heap_alloc_new ((w.alloc (.cells #[.string s] 9)).alloc (.cells #[.int .i64 a] 3)) (.cells #[.int .i64 0] 41)
    rwa [show ((w.alloc (.cells #[.string s] 9)).alloc (.cells #[.int .i64 a] 3)).heap.size = w.heap.size + 1 + 1 by simp] at this
theorem boxes_below (w : World) (o1 o2 o3 : Obj) : RowKit.Below w.heap.size w (((w.alloc o1).alloc o2).alloc o3) :=
  (((Below.refl _ _).alloc (Nat.le_refl _) _).alloc (by simp) _).alloc (by simp; omega) _
theorem Boxes.behind {w w' : World} {Bs Bt Be B : Nat} {s : ByteArray} {t e : Int} (h : Boxes w Bs Bt Be s t e) (b : RowKit.Below B w w') (h1 : Bs < B) (h2 : Bt < B) (h3 : Be < B) : Boxes w' Bs Bt Be s t e :=
  ⟨(b.block _ h1).trans h.s, (b.block _ h2).trans h.t, (b.block _ h3).trans h.e⟩
theorem Boxes.alloc {w : World} {Bs Bt Be : Nat} {s : ByteArray} {t e : Int} (h : Boxes w Bs Bt Be s t e) (o : Obj) : Boxes (w.alloc o) Bs Bt Be s t e := h.grew ((Grew.refl w).alloc o)
theorem OwnI.kept {w w' : World} {base : Nat} {v : Value} {l : List Int} {Bt Be : Nat} (h : OwnI w base v l) (k : Kept Bt Be w w') (h1 : Bt < base) (h2 : Be < base) : OwnI w' base v l := by
  have h0 := h
  refine ⟨h.1, ?_⟩
  rcases h.2 with q | ⟨g, cap, cur, rfl, hg, hc, r⟩
  · exact Or.inl q
  · exact Or.inr ⟨g, cap, cur, rfl, hg, (k.block g (World.ownsRow.lt h0 g rfl).2 (by omega) (by omega)).trans hc, r⟩

theorem Boxes.setE {w : World} {Bs Bt Be : Nat} {s : ByteArray} {t e : Int} (h : Boxes w Bs Bt Be s t e) (h2 : Bs ≠ Be) (h3 : Bt ≠ Be) (y : Int) : Boxes (w.setCell ⟨Be, 0, none⟩ (.int .i64 y)) Bs Bt Be s t y :=
  ⟨other_block h.s (Ne.symm h2) _, other_block h.t (Ne.symm h3) _, one_setCell h.e⟩
theorem box_end {w : World} {Bs Bt Be : Nat} {s : ByteArray} {t e : Int} (h : Boxes w Bs Bt Be s t e) (h3 : Bt ≠ Be) (x y : Int) :
    ((w.setCell ⟨Bt, 0, none⟩ (.int .i64 x)).setCell ⟨Be, 0, none⟩ (.int .i64 y)).drew.cell? ⟨Bt, 0, none⟩ = some (.int .i64 x) ∧
    ((w.setCell ⟨Bt, 0, none⟩ (.int .i64 x)).setCell ⟨Be, 0, none⟩ (.int .i64 y)).drew.cell? ⟨Be, 0, none⟩ = some (.int .i64 y) ∧
    Kept Bt Be w ((w.setCell ⟨Bt, 0, none⟩ (.int .i64 x)).setCell ⟨Be, 0, none⟩ (.int .i64 y)).drew :=
  ⟨cell_of_one (w := ((w.setCell ⟨Bt, 0, none⟩ (.int .i64 x)).setCell ⟨Be, 0, none⟩ (.int .i64 y)).drew) (other_block (one_setCell h.t) (Ne.symm h3) _),
   cell_of_one (w := ((w.setCell ⟨Bt, 0, none⟩ (.int .i64 x)).setCell ⟨Be, 0, none⟩ (.int .i64 y)).drew) (one_setCell (other_block h.e h3 _)),
   (((Kept.refl Bt Be w).setT _).setE _).grew ((Grew.refl _).drew)⟩
theorem unrow_err (s : ByteArray) (a most : Int) (hs : s.size ≤ 100000) (h0 : ¬ (getZ s a).2.2 = 0) (w : World) :
    Calls Tryz.prog 66 #[.string s, .int .i64 a, .int .i64 most] w fun e w' => ∃ v, e = .returned (.tuple #[v, .int .i64 (unrowZ s a most).2.1, .int .i64 (unrowZ s a most).2.2]) ∧ OwnI w' w.heap.size v (unrowZ s a most).1 ∧ RowKit.Below w.heap.size w w' := by
  have hmf : ∀ (fn : Fn) (first cap : Array Value) (w : World), (Instr.makeFunc fn first cap).run Tryz.prog w = .ok (.func fn first cap) w := fun _ _ _ _ => rfl
  have HU := Lib.hid (show unrowZ s a most = ([], 0, (getZ s a).2.2) from if_pos h0)
  have HT := Lib.hid (fun W (hb : Boxes W w.heap.size (w.heap.size + 1) (w.heap.size + 1 + 1) s a 0) => take_any s a 0 _ _ _ (by omega) (by omega) (by omega) hs W hb)
  obtain ⟨⟨p1, p2, p3⟩, hp⟩ : ∃ p, getZ s a = p := ⟨_, rfl⟩
  rw [hp] at HU HT h0
  have e2 : (p3 == 0) = false := by simpa using h0
  have e3 : (p3 != 0) = true := by simpa using h0
  have HW := Lib.hid (boxes_below w (.cells #[.string s] 9) (.cells #[.int .i64 a] 3) (.cells #[.int .i64 0] 41))
  have HN := Lib.hid (boxes_new w s a)
  clear hp h0
  go_enter Tryz.func66, Tryz.ntmps66
  go_wp2_with (go_at_call 81; (with_reducible refine (HT.out _ HN.out).mono ?_); rintro r w1 ⟨rfl, hb, hk⟩; have HB1 := Lib.hid hb; have HK1 := Lib.hid (HW.out.trans (hk.below (by omega) (by omega) (by simp; omega))); have ct1 := cell_of_one hb.t; have ft1 := free_of_one hb.t; have ce1 := cell_of_one hb.e; have fe1 := free_of_one hb.e; clear hb hk)
  go_loopg [6] 0 (fun gg o wr => wr = w1 ∧ o = .slice none 0 0)
  case atStart => exact ⟨rfl, rfl⟩
  case round =>
    obtain ⟨rfl, rfl⟩ := hrel
    go_wp2
    have hb2 := other_block HB1.out.e (show w.heap.size + 1 ≠ w.heap.size + 1 + 1 by omega) (.int .i64 0)
    have ce2 := cell_of_one hb2
    have fe2 := free_of_one hb2
    clear hb2
    have hc := box_end HB1.out (show w.heap.size + 1 ≠ w.heap.size + 1 + 1 by omega) 0 p3
    have hc1 := hc.1
    have hc2 := hc.2.1
    have HBE := Lib.hid hc.2.2
    clear hc
    go_region
    go_wp2
    refine bodyPost_ret (v := .tuple #[.slice none 0 0, .int .i64 0, .int .i64 p3]) (by simp [results, Tryz.f66, go_sem, hc1, hc2]) rfl ?_
    exact ⟨_, unrow_ret HU.out, by rw [HU.out]; exact ownI_nil _ _, HK1.out.trans (HBE.out.below (by omega) (by omega) HK1.out.size)⟩

theorem unrow_big (s : ByteArray) (a most : Int) (hs : s.size ≤ 100000) (n t0 : Nat) (hg : getZ s a = ((n : Int), (t0 : Int), 0)) (hn : n < 9223372036854775808) (hbig : 1000 < (n : Int) ∨ (most < (n : Int) ∧ 0 < (n : Int))) (w : World) :
    Calls Tryz.prog 66 #[.string s, .int .i64 a, .int .i64 most] w fun e w' => ∃ v, e = .returned (.tuple #[v, .int .i64 (unrowZ s a most).2.1, .int .i64 (unrowZ s a most).2.2]) ∧ OwnI w' w.heap.size v (unrowZ s a most).1 ∧ RowKit.Below w.heap.size w w' := by
  have hmf : ∀ (fn : Fn) (first cap : Array Value) (w : World), (Instr.makeFunc fn first cap).run Tryz.prog w = .ok (.func fn first cap) w := fun _ _ _ _ => rfl
  have HU := Lib.hid (show unrowZ s a most = ([], 0, 3) by
    unfold unrowZ; rw [hg]; simp only; rw [if_neg (by simp), if_pos hbig])
  have HT := Lib.hid (fun W (hb : Boxes W w.heap.size (w.heap.size + 1) (w.heap.size + 1 + 1) s a 0) => take_any s a 0 _ _ _ (by omega) (by omega) (by omega) hs W hb)
  rw [hg] at HT
  have HW := Lib.hid (boxes_below w (.cells #[.string s] 9) (.cells #[.int .i64 a] 3) (.cells #[.int .i64 0] 41))
  have HN := Lib.hid (boxes_new w s a)
  have i1 : (0 : Int) ≤ (n : Int) := by omega
  have i2 : (n : Int) ≤ 9223372036854775807 := by omega
  have hcase : (most < 0 ∧ decide (0 < n) = true) ∨ (0 ≤ most ∧ 1000 < most ∧ decide ((1000 : Int) < (n : Int)) = true) ∨ (0 ≤ most ∧ most ≤ 1000 ∧ decide (most < (n : Int)) = true) := by
    simp only [decide_eq_true_eq]; omega
  clear hg hn hbig
  rcases hcase with ⟨m1, d1⟩ | ⟨m1, m2, d1⟩ | ⟨m1, m2, d1⟩
  all_goals
    go_enter Tryz.func66, Tryz.ntmps66
    go_wp2_with (go_at_call 81; (with_reducible refine (HT.out _ HN.out).mono ?_); rintro r w1 ⟨rfl, hb, hk⟩; have HB1 := Lib.hid hb; have HK1 := Lib.hid (HW.out.trans (hk.below (by omega) (by omega) (by simp; omega))); have ct1 := cell_of_one hb.t; have ft1 := free_of_one hb.t; have ce1 := cell_of_one hb.e; have fe1 := free_of_one hb.e; clear hb hk)
    have HB2 := Lib.hid (HB1.out.setE (by omega) (by omega) 3)
    have HK2 := Lib.hid (HK1.out.trans (((Kept.refl (w.heap.size + 1) (w.heap.size + 1 + 1) w1).setE (.int .i64 3)).below (by omega) (by omega) HK1.out.size))
    generalize w1.setCell ⟨w.heap.size + 1 + 1, 0, none⟩ (.int .i64 3) = w2 at *
    have ct2 := cell_of_one HB2.out.t
    have ft2 := free_of_one HB2.out.t
    have ce2 := cell_of_one HB2.out.e
    have fe2 := free_of_one HB2.out.e
    go_loopg [6] 0 (fun gg o wr => wr = w2 ∧ o = .slice none 0 0)
    case atStart => exact ⟨rfl, rfl⟩
    case round =>
      obtain ⟨rfl, rfl⟩ := hrel
      go_wp2
      have hb2 := other_block HB2.out.e (show w.heap.size + 1 ≠ w.heap.size + 1 + 1 by omega) (.int .i64 0)
      have ce3 := cell_of_one hb2
      have fe3 := free_of_one hb2
      have hc := box_end HB2.out (show w.heap.size + 1 ≠ w.heap.size + 1 + 1 by omega) 0 3
      have hc1 := hc.1
      have hc2 := hc.2.1
      have HBE := Lib.hid hc.2.2
      clear hc hb2
      go_region
      go_wp2
      refine bodyPost_ret (v := .tuple #[.slice none 0 0, .int .i64 0, .int .i64 3]) (by simp [results, Tryz.f66, go_sem, hc1, hc2]) rfl ?_
      exact ⟨_, unrow_ret HU.out, by rw [HU.out]; exact ownI_nil _ _, HK2.out.trans (HBE.out.below (by omega) (by omega) HK2.out.size)⟩
end Go.Proofs.YtegbldkkggpjcaaGreatDoor
