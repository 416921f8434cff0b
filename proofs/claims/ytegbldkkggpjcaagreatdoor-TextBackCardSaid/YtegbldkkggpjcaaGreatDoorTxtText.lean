/- The document's Flag of a reader. The document's Text of a reader. -/
import Derived.Test.YtegbldkkggpjcaaGreatDoorTxtRef
import Derived.Deep.RegionHeld3
namespace Go.Proofs.YtegbldkkggpjcaaGreatDoor
open Go.RowKit Go.Sort

attribute [local go_sem ↓] Go.wp_at_zero Go.wp_at_succ

theorem w64 (k : Nat) (h : (k : Int) < 100000) : IntKind.i64.wrap ((k : Int) + 1) = (k : Int) + 1 := by
  simp [IntKind.wrap, IntKind.bits, IntKind.signed]
  omega
theorem far4 {w : World} {B C : Nat} {a b c d : Value} (h0 : w.cell? ⟨B, 0, none⟩ = some a) (h1 : w.cell? ⟨B, 1, none⟩ = some b) (h2 : w.cell? ⟨B, 2, none⟩ = some c) (h3 : w.cell? ⟨B, 3, none⟩ = some d) (hne : B ≠ C) (x y z t : Value) :
    (put4W w C x y z t).cell? ⟨B, 0, none⟩ = some a ∧ (put4W w C x y z t).cell? ⟨B, 1, none⟩ = some b ∧ (put4W w C x y z t).cell? ⟨B, 2, none⟩ = some c ∧ (put4W w C x y z t).cell? ⟨B, 3, none⟩ = some d := by
  have e := put4_heap w C x y z t B hne
  generalize put4W w C x y z t = W at *
  exact ⟨(World.cell?_of_block e).trans h0, (World.cell?_of_block e).trans h1, (World.cell?_of_block e).trans h2, (World.cell?_of_block e).trans h3⟩

/-! ### Flag -/
def byteAt (r : InS) : Nat := (r.s.data.toList.getD r.pos.toNat 0).toNat
def flagS (r : InS) : InS := if r.e = 0 then (if (r.s.size : Int) ≤ r.pos then movedS r pFlag 0 4 else if 1 < byteAt r then movedS r pFlag 0 5 else movedS r pFlag (r.pos + 1) 0) else r
def flagB (r : InS) : Bool := decide (r.e = 0) && decide (r.pos < (r.s.size : Int)) && decide (byteAt r = 1)
set_option maxRecDepth 20000 in
set_option maxHeartbeats 3200000 in
theorem rflag_any (r : InS) (hp : 0 ≤ r.pos) (hs : r.s.size ≤ 100000) (w : World) : Calls Tryz.prog 27 #[.agg #[.string r.s, .int .i64 r.pos, .string r.p, .int .i64 r.e]] w fun x w' => x = .returned (.tuple #[inV (flagS r), .bool (flagB r)]) ∧ RowKit.Below w.heap.size w w' := by
  have hmix : Tryz.prog.follows .mixedOrders = true := by kernel_rfl
  obtain ⟨s, pos, p, e⟩ := r
  simp only at hp hs ⊢
  by_cases q : e = 0
  · have d : (e != 0) = false := by simpa using q
    by_cases q2 : (s.size : Int) ≤ pos
    · have d2 : decide ((s.size : Int) ≤ pos) = true := decide_eq_true q2
      have M := Lib.hid (fun w => moved_any ⟨s, pos, p, e⟩ pFlag 0 4 w)
      have E := Lib.hid (show flagS ⟨s, pos, p, e⟩ = movedS ⟨s, pos, p, e⟩ pFlag 0 4 by unfold flagS; rw [if_pos q, if_pos q2])
      have E2 := Lib.hid (show flagB ⟨s, pos, p, e⟩ = false by unfold flagB; rw [decide_eq_false (by omega : ¬ pos < (s.size : Int))]; simp)
      clear q q2
      go_enter Tryz.func27, Tryz.ntmps27
      go_wp2_with (go_at_call 57; refine (M.out _).mono ?_; rintro x w2 ⟨rfl, hg⟩; have hf := four_two hg; have y0 := hf.c0; have y1 := hf.c1; have y2 := hf.c2; have y3 := hf.c3; have z0 := hf.f0; have z1 := hf.f1; have z2 := hf.f2; have z3 := hf.f3; have HF := Lib.hid hf; have HG := Lib.hid (((Grew.refl w).alloc _ |>.alloc _).trans hg); clear hf hg)
      clear y0 y1 y2 y3 z0 z1 z2 z3
      refine bodyPost_ret (res_in rfl rfl (put4 HF.out _ _ _ _)) rfl ⟨two_in E.out.symm ?_, put4_below HG.out.below (by omega) _ _ _ _⟩
      rw [E2.out]; rfl
    · have d2 : decide ((s.size : Int) ≤ pos) = false := decide_eq_false q2
      obtain ⟨k, rfl⟩ : ∃ k : Nat, pos = (k : Int) := ⟨pos.toNat, by omega⟩
      have hlt : k < s.size := by omega
      have hb0 : byteAt ⟨s, (k : Int), p, e⟩ = (s[k]'hlt).toNat := by
        unfold byteAt
        simp [List.getD, hlt]
        rfl
      obtain ⟨b, hb⟩ : ∃ b : Nat, b = byteAt ⟨s, (k : Int), p, e⟩ := ⟨_, rfl⟩
      have hx : (s[k]'hlt).toNat = b := by rw [hb, hb0]
      have hbl : b < 256 := by rw [← hx]; exact byte_lt _
      have i1 : (0 : Int) ≤ (k : Int) := by omega
      have i2 : (k : Int) < (s.size : Int) := by omega
      have i3 : (b : Int) < 256 := by omega
      have i4 : (0 : Int) ≤ (b : Int) := by omega
      have i5 : (s.size : Int) ≤ 100000 := by omega
      by_cases q3 : 1 < b
      · have d3 : decide ((1 : Int) < (b : Int)) = true := decide_eq_true (by omega)
        have M := Lib.hid (fun w => moved_any ⟨s, (k : Int), p, e⟩ pFlag 0 5 w)
        have E := Lib.hid (show flagS ⟨s, (k : Int), p, e⟩ = movedS ⟨s, (k : Int), p, e⟩ pFlag 0 5 by unfold flagS; rw [if_pos q, if_neg q2, if_pos (by rw [← hb]; exact q3)])
        have E2 := Lib.hid (show flagB ⟨s, (k : Int), p, e⟩ = false by unfold flagB; rw [decide_eq_false (show ¬ byteAt ⟨s, (k : Int), p, e⟩ = 1 by omega)]; simp)
        clear q q2 q3 hb hb0 hp
        go_enter Tryz.func27, Tryz.ntmps27
        go_wp2_with (go_at_call 57; refine (M.out _).mono ?_; rintro x w2 ⟨rfl, hg⟩; have hf := four_two hg; have y0 := hf.c0; have y1 := hf.c1; have y2 := hf.c2; have y3 := hf.c3; have z0 := hf.f0; have z1 := hf.f1; have z2 := hf.f2; have z3 := hf.f3; have HF := Lib.hid hf; have HG := Lib.hid (((Grew.refl w).alloc _ |>.alloc _).trans hg); clear hf hg)
        clear y0 y1 y2 y3 z0 z1 z2 z3
        refine bodyPost_ret (res_in rfl rfl (put4 HF.out _ _ _ _)) rfl ⟨two_in E.out.symm ?_, put4_below HG.out.below (by omega) _ _ _ _⟩
        rw [E2.out]; rfl
      · have d3 : decide ((1 : Int) < (b : Int)) = false := decide_eq_false (by omega)
        have M := Lib.hid (fun w => moved_any ⟨s, (k : Int), p, e⟩ pFlag ((k : Int) + 1) 0 w)
        have E := Lib.hid (show flagS ⟨s, (k : Int), p, e⟩ = movedS ⟨s, (k : Int), p, e⟩ pFlag ((k : Int) + 1) 0 by unfold flagS; rw [if_pos q, if_neg q2, if_neg (by rw [← hb]; exact q3)])
        have E2 := Lib.hid (show flagB ⟨s, (k : Int), p, e⟩ = ((b : Int) == 1) by
          unfold flagB
          rw [decide_eq_true q, decide_eq_true (by omega : (k : Int) < (s.size : Int)), ← hb, Bool.eq_iff_iff]
          simp
          omega)
        clear q q2 q3 hb hb0 hp
        go_enter Tryz.func27, Tryz.ntmps27
        go_wp2_with fail
        generalize hW : (w.alloc (.cells #[.string s, .int .i64 (k : Int), .string p, .int .i64 e] 28)).alloc (.cells #[.string ⟨#[]⟩, .int .i64 0, .string ⟨#[]⟩, .int .i64 0] 28) = W0
        have G0 := Lib.hid (hW ▸ Grew.refl _ : Grew ((w.alloc (.cells #[.string s, .int .i64 (k : Int), .string p, .int .i64 e] 28)).alloc (.cells #[.string ⟨#[]⟩, .int .i64 0, .string ⟨#[]⟩, .int .i64 0] 28)) W0)
        have hb1 := four_one G0.out
        have x0 := hb1.c0; have x1 := hb1.c1; have x2 := hb1.c2; have x3 := hb1.c3
        clear hb1 hW
        go_region_held3 (fun w' => w'.cell? ⟨w.heap.size, 0, none⟩ = some (.string s) ∧ w'.cell? ⟨w.heap.size, 1, none⟩ = some (.int .i64 (k : Int)) ∧ w'.cell? ⟨w.heap.size, 2, none⟩ = some (.string p) ∧ w'.cell? ⟨w.heap.size, 3, none⟩ = some (.int .i64 e))
          (first | exact ⟨x0, x1, x2, x3⟩ | exact far4 x0 x1 x2 x3 (by omega) _ _ _ _)
          (first | (go_at_call 57; rw [w64 k (by omega)]; refine (M.out _).mono ?_; rintro x w2 ⟨rfl, hg0⟩; have hg := G0.out.drew.trans hg0; have hb1 := four_one hg; have x0 := hb1.c0; have x1 := hb1.c1; have x2 := hb1.c2; have x3 := hb1.c3; have hf := four_two hg; have y0 := hf.c0; have y1 := hf.c1; have y2 := hf.c2; have y3 := hf.c3; have z0 := hf.f0; have z1 := hf.f1; have z2 := hf.f2; have z3 := hf.f3; have HF := Lib.hid hf; have HG := Lib.hid (((Grew.refl w).alloc _ |>.alloc _).trans hg); clear hf hg hg0 hb1))
        all_goals go_wp2_with fail
        all_goals refine bodyPost_ret (res_in rfl rfl (put4 HF.out _ _ _ _)) rfl ⟨two_in E.out.symm ?_, put4_below HG.out.below (by omega) _ _ _ _⟩
        all_goals (rw [E2.out]; rfl)
  · have d : (e != 0) = true := by simpa using q
    have E1 := Lib.hid (show flagS ⟨s, pos, p, e⟩ = ⟨s, pos, p, e⟩ from if_neg q)
    have E2 := Lib.hid (show flagB ⟨s, pos, p, e⟩ = false by unfold flagB; rw [decide_eq_false q]; rfl)
    clear q
    go_enter Tryz.func27, Tryz.ntmps27
    go_wp2
    go_returns
    exact ⟨two_in E1.out.symm (by rw [E2.out]), (((Grew.refl w).alloc _).alloc _).below⟩
end Go.Proofs.YtegbldkkggpjcaaGreatDoor
namespace Go.Proofs.YtegbldkkggpjcaaGreatDoor
open Go.RowKit Go.Sort

attribute [local go_sem ↓] Go.wp_at_zero Go.wp_at_succ

theorem w64b (v n : Nat) (h : (v : Int) + (n : Int) ≤ 100000) : IntKind.i64.wrap ((v : Int) + (n : Int)) = (v : Int) + (n : Int) := by
  simp [IntKind.wrap, IntKind.bits, IntKind.signed]
  omega
def textE (r : InS) (most : Int) : Int := if (getZ r.s r.pos).2.2 = 0 then (if most < (getZ r.s r.pos).1 then 3 else if (r.s.size : Int) - (getZ r.s r.pos).2.1 < (getZ r.s r.pos).1 then 4 else 0) else (getZ r.s r.pos).2.2
def textS (r : InS) (most : Int) : InS := if r.e = 0 then (if textE r most = 0 then movedS r pText ((getZ r.s r.pos).2.1 + (getZ r.s r.pos).1) 0 else movedS r pText 0 (textE r most)) else r
def textT (r : InS) (most : Int) : ByteArray := if r.e = 0 ∧ textE r most = 0 then r.s.extract (getZ r.s r.pos).2.1.toNat ((getZ r.s r.pos).2.1 + (getZ r.s r.pos).1).toNat else ⟨#[]⟩
set_option maxRecDepth 20000 in
set_option maxHeartbeats 3200000 in
theorem rtext_any (r : InS) (most : Int) (hs : r.s.size ≤ 100000) (w : World) : Calls Tryz.prog 25 #[.agg #[.string r.s, .int .i64 r.pos, .string r.p, .int .i64 r.e], .int .i64 most] w fun x w' => x = .returned (.tuple #[inV (textS r most), .string (textT r most)]) ∧ RowKit.Below w.heap.size w w' := by
  have hmix : Tryz.prog.follows .mixedOrders = true := by kernel_rfl
  obtain ⟨s, pos, p, e0⟩ := r
  simp only at hs ⊢
  have i5 : (s.size : Int) ≤ 100000 := by omega
  by_cases q : e0 = 0
  · have d : (e0 != 0) = false := by simpa using q
    by_cases q2 : (getZ s pos).2.2 = 0
    · obtain ⟨m, n, u, j1, j2, j3, hg, hu⟩ := getZ_zero q2
      clear j1 j2 j3
      obtain ⟨v, hv⟩ : ∃ v : Nat, (m : Int) + (u : Int) = (v : Int) := ⟨m + u, by omega⟩
      rw [hv] at hg
      have i1 : (0 : Int) ≤ (v : Int) := by omega
      have i2 : (v : Int) ≤ (s.size : Int) := by omega
      have G0 : ∀ w, Calls Tryz.prog 56 #[.string s, .int .i64 pos] w fun x w' => x = .returned (.tuple #[.int .i64 (n : Int), .int .i64 (v : Int), .int .i64 0]) ∧ w' = w := fun w => by have := rget_any s pos hs w; rw [hg] at this; exact this
      have G := Lib.hid G0
      clear G0
      by_cases q3 : most < (n : Int)
      · have d3 : decide (most < (n : Int)) = true := decide_eq_true q3
        have EE : textE ⟨s, pos, p, e0⟩ most = 3 := by unfold textE; rw [hg]; simp only; rw [if_pos trivial, if_pos q3]
        have E1 := Lib.hid (show textS ⟨s, pos, p, e0⟩ most = movedS ⟨s, pos, p, e0⟩ pText 0 3 by unfold textS; rw [if_pos q, EE, if_neg (by decide)])
        have E2 := Lib.hid (show textT ⟨s, pos, p, e0⟩ most = ⟨#[]⟩ from if_neg (fun h => by have := h.2; omega))
        have M := Lib.hid (fun w => moved_any ⟨s, pos, p, e0⟩ pText 0 3 w)
        clear hg hv q q2 q3 EE hu
        go_enter Tryz.func25, Tryz.ntmps25
        go_wp2_with (first
          | (go_at_call 56; refine (G.out _).mono ?_; rintro x _ ⟨rfl, rfl⟩)
          | (go_at_call 57; refine (M.out _).mono ?_; rintro x w2 ⟨rfl, hg⟩; have hf := four_two hg; have y0 := hf.c0; have y1 := hf.c1; have y2 := hf.c2; have y3 := hf.c3; have z0 := hf.f0; have z1 := hf.f1; have z2 := hf.f2; have z3 := hf.f3; have HF := Lib.hid hf; have HG := Lib.hid (((Grew.refl w).alloc _ |>.alloc _).trans hg); clear hf hg))
        clear y0 y1 y2 y3 z0 z1 z2 z3
        refine bodyPost_ret (res_in rfl rfl (put4 HF.out _ _ _ _)) rfl ⟨two_in E1.out.symm ?_, put4_below HG.out.below (by omega) _ _ _ _⟩
        rw [E2.out]; rfl
      · have d3 : decide (most < (n : Int)) = false := decide_eq_false q3
        by_cases q4 : (s.size : Int) - (v : Int) < (n : Int)
        · have d4 : decide ((s.size : Int) - (v : Int) < (n : Int)) = true := decide_eq_true q4
          have EE : textE ⟨s, pos, p, e0⟩ most = 4 := by unfold textE; rw [hg]; simp only; rw [if_pos trivial, if_neg q3, if_pos q4]
          have E1 := Lib.hid (show textS ⟨s, pos, p, e0⟩ most = movedS ⟨s, pos, p, e0⟩ pText 0 4 by unfold textS; rw [if_pos q, EE, if_neg (by decide)])
          have E2 := Lib.hid (show textT ⟨s, pos, p, e0⟩ most = ⟨#[]⟩ from if_neg (fun h => by have := h.2; omega))
          have M := Lib.hid (fun w => moved_any ⟨s, pos, p, e0⟩ pText 0 4 w)
          clear hg hv q q2 q3 q4 EE hu
          go_enter Tryz.func25, Tryz.ntmps25
          go_wp2_with (first
            | (go_at_call 56; refine (G.out _).mono ?_; rintro x _ ⟨rfl, rfl⟩)
            | (go_at_call 57; refine (M.out _).mono ?_; rintro x w2 ⟨rfl, hg⟩; have hf := four_two hg; have y0 := hf.c0; have y1 := hf.c1; have y2 := hf.c2; have y3 := hf.c3; have z0 := hf.f0; have z1 := hf.f1; have z2 := hf.f2; have z3 := hf.f3; have HF := Lib.hid hf; have HG := Lib.hid (((Grew.refl w).alloc _ |>.alloc _).trans hg); clear hf hg))
          clear y0 y1 y2 y3 z0 z1 z2 z3
          refine bodyPost_ret (res_in rfl rfl (put4 HF.out _ _ _ _)) rfl ⟨two_in E1.out.symm ?_, put4_below HG.out.below (by omega) _ _ _ _⟩
          rw [E2.out]; rfl
        · have d4 : decide ((s.size : Int) - (v : Int) < (n : Int)) = false := decide_eq_false q4
          have EE : textE ⟨s, pos, p, e0⟩ most = 0 := by unfold textE; rw [hg]; simp only; rw [if_pos trivial, if_neg q3, if_neg q4]
          have E1 := Lib.hid (show textS ⟨s, pos, p, e0⟩ most = movedS ⟨s, pos, p, e0⟩ pText ((v : Int) + (n : Int)) 0 by unfold textS; rw [if_pos q, EE, if_pos rfl, hg])
          have E2 := Lib.hid (show textT ⟨s, pos, p, e0⟩ most = s.extract v (v + n) by
            unfold textT
            rw [if_pos ⟨q, EE⟩, hg]
            congr 1)
          have M := Lib.hid (fun w => moved_any ⟨s, pos, p, e0⟩ pText ((v : Int) + (n : Int)) 0 w)
          have i3 : (v : Int) + (n : Int) ≤ (s.size : Int) := by omega
          have i4 : (0 : Int) ≤ (n : Int) := by omega
          have i6 : (v : Int) ≤ (v : Int) + (n : Int) := by omega
          have i7 : (0 : Int) ≤ (v : Int) + (n : Int) := by omega
          have hwr : IntKind.i64.wrap ((v : Int) + (n : Int)) = (v : Int) + (n : Int) := w64b v n (by omega)
          clear hg hv q q2 q3 q4 EE hu
          go_enter Tryz.func25, Tryz.ntmps25
          go_wp2_with (go_at_call 56; refine (G.out _).mono ?_; rintro x _ ⟨rfl, rfl⟩)
          generalize hW : (w.alloc (.cells #[.string s, .int .i64 pos, .string p, .int .i64 e0] 28)).alloc (.cells #[.string ⟨#[]⟩, .int .i64 0, .string ⟨#[]⟩, .int .i64 0] 28) = W0
          have G0 := Lib.hid (hW ▸ Grew.refl _ : Grew ((w.alloc (.cells #[.string s, .int .i64 pos, .string p, .int .i64 e0] 28)).alloc (.cells #[.string ⟨#[]⟩, .int .i64 0, .string ⟨#[]⟩, .int .i64 0] 28)) W0)
          have hb1 := four_one G0.out
          have x0 := hb1.c0; have x1 := hb1.c1; have x2 := hb1.c2; have x3 := hb1.c3
          clear hb1 hW
          go_region_held3 (fun w' => w'.cell? ⟨w.heap.size, 0, none⟩ = some (.string s) ∧ w'.cell? ⟨w.heap.size, 1, none⟩ = some (.int .i64 pos) ∧ w'.cell? ⟨w.heap.size, 2, none⟩ = some (.string p) ∧ w'.cell? ⟨w.heap.size, 3, none⟩ = some (.int .i64 e0))
            (first | exact ⟨x0, x1, x2, x3⟩ | exact far4 x0 x1 x2 x3 (by omega) _ _ _ _)
            (first | (go_at_call 57; refine (M.out _).mono ?_; rintro x w2 ⟨rfl, hg0⟩; have hg := G0.out.drew.trans hg0; have hb1 := four_one hg; have x0 := hb1.c0; have x1 := hb1.c1; have x2 := hb1.c2; have x3 := hb1.c3; have hf := four_two hg; have y0 := hf.c0; have y1 := hf.c1; have y2 := hf.c2; have y3 := hf.c3; have z0 := hf.f0; have z1 := hf.f1; have z2 := hf.f2; have z3 := hf.f3; have HF := Lib.hid hf; have HG := Lib.hid (((Grew.refl w).alloc _ |>.alloc _).trans hg); clear hf hg hg0 hb1))
          all_goals go_wp2_with fail
          all_goals refine bodyPost_ret (res_in rfl rfl (put4 HF.out _ _ _ _)) rfl ⟨two_in E1.out.symm ?_, put4_below HG.out.below (by omega) _ _ _ _⟩
          all_goals (rw [E2.out]; rfl)
    · have G0 := fun w => rget_any s pos hs w
      have EE : textE ⟨s, pos, p, e0⟩ most = (getZ s pos).2.2 := if_neg q2
      have E10 : textS ⟨s, pos, p, e0⟩ most = movedS ⟨s, pos, p, e0⟩ pText 0 (getZ s pos).2.2 := by unfold textS; rw [if_pos q, EE, if_neg q2]
      have E2 := Lib.hid (show textT ⟨s, pos, p, e0⟩ most = ⟨#[]⟩ from if_neg (fun h => q2 (EE ▸ h.2)))
      clear EE
      generalize getZ s pos = g at *
      obtain ⟨n, v, e⟩ := g
      simp only at G0 E10 q2
      have G := Lib.hid G0
      have E1 := Lib.hid E10
      clear G0 E10
      have M := Lib.hid (fun w => moved_any ⟨s, pos, p, e0⟩ pText 0 e w)
      have d2 : (e == 0) = false := by simpa using q2
      have d3 : (e != 0) = true := by simpa using q2
      clear q q2
      go_enter Tryz.func25, Tryz.ntmps25
      go_wp2_with (first
        | (go_at_call 56; refine (G.out _).mono ?_; rintro x _ ⟨rfl, rfl⟩)
        | (go_at_call 57; refine (M.out _).mono ?_; rintro x w2 ⟨rfl, hg⟩; have hf := four_two hg; have y0 := hf.c0; have y1 := hf.c1; have y2 := hf.c2; have y3 := hf.c3; have z0 := hf.f0; have z1 := hf.f1; have z2 := hf.f2; have z3 := hf.f3; have HF := Lib.hid hf; have HG := Lib.hid (((Grew.refl w).alloc _ |>.alloc _).trans hg); clear hf hg))
      clear y0 y1 y2 y3 z0 z1 z2 z3
      refine bodyPost_ret (res_in rfl rfl (put4 HF.out _ _ _ _)) rfl ⟨two_in E1.out.symm ?_, put4_below HG.out.below (by omega) _ _ _ _⟩
      rw [E2.out]; rfl
  · have d : (e0 != 0) = true := by simpa using q
    have E1 := Lib.hid (show textS ⟨s, pos, p, e0⟩ most = ⟨s, pos, p, e0⟩ from if_neg q)
    have E2 := Lib.hid (show textT ⟨s, pos, p, e0⟩ most = ⟨#[]⟩ from if_neg (fun h => q h.1))
    clear q
    go_enter Tryz.func25, Tryz.ntmps25
    go_wp2
    go_returns
    exact ⟨two_in E1.out.symm (by rw [E2.out]), (((Grew.refl w).alloc _).alloc _).below⟩
end Go.Proofs.YtegbldkkggpjcaaGreatDoor
