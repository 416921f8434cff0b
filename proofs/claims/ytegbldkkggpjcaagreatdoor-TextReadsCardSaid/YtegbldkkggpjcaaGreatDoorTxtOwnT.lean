/- The landed reader's take, at each of its five inner readers. -/
import Derived.Test.YtegbldkkggpjcaaGreatDoorTxtOwnR
namespace Go.Proofs.YtegbldkkggpjcaaGreatDoor
open Go.RowKit Go.Sort

attribute [local go_sem ↓] Go.wp_at_zero Go.wp_at_succ

theorem RAt.moved {w B u} (h : RAt w B u) (pc : ByteArray) (zz : Int) (h0 : 0 ≤ zz) (h1 : zz ≤ (u.s.size : Int)) : RAt (w.setCell ⟨B, 2, none⟩ (.int .i64 zz)) B (movedS u pc zz 0) :=
  ⟨heap_setCell_same w B 2 _ _ _ h.1, h0, h1⟩
theorem RAt.fault {w B u} (h : RAt w B u) (pc : ByteArray) (zz c : Int) (hc : c ≠ 0) : RAt ((w.setCell ⟨B, 3, none⟩ (.string pc)).setCell ⟨B, 4, none⟩ (.int .i64 c)) B (movedS u pc zz c) := by
  rw [show movedS u pc zz c = ⟨u.s, u.pos, pc, c⟩ from if_neg hc]
  exact ⟨heap_setCell_same _ B 4 _ _ _ (heap_setCell_same w B 3 _ _ _ h.1), h.2⟩
/-- What a use of take leaves: the value; where it was read; the reader. -/
def Took (w : World) (B : Nat) (u : InS) (pc : ByteArray) (zz c : Int) (Z : Value) (Q : World → World → Value → Prop) (v : Value) (w' : World) : Prop :=
  ((u.e = 0 ∧ c = 0 ∧ ∃ w1 w2, Q w1 w2 v ∧ RowKit.Below w.heap.size w w1 ∧ RowKit.Below w1.heap.size w1 w2 ∧ Chg (fun k => k = B) w2 w') ∨ (¬ (u.e = 0 ∧ c = 0) ∧ v = Z)) ∧
  RAt w' B (if u.e = 0 then movedS u pc zz c else u) ∧ Chg (fun k => k = B) w w'
set_option maxHeartbeats 1600000 in
theorem take_num {w B u} (h : RAt w B u) (hg : Laid w) (pc : ByteArray) (most zz c : Int) (Q : World → World → Value → Prop)
    (hr : u.e = 0 → ∀ w1, RAt w1 B u → Calls Tryz.prog 36 #[.pointer (some ⟨B, 0, none⟩), .int .i64 most] w1 fun e w' => ∃ v, e = .returned (.tuple #[v, .int .i64 zz, .int .i64 c]) ∧ Q w1 w' v ∧ RowKit.Below w1.heap.size w1 w')
    (hzz : u.e = 0 → c = 0 → 0 ≤ zz ∧ zz ≤ (u.s.size : Int)) :
    Calls Tryz.prog 35 #[.pointer (some ⟨B, 0, none⟩), .string pc, .int .i64 most, .func (.func 36) #[.pointer (some ⟨B, 0, none⟩)] #[]] w fun e w' => ∃ v, e = .returned v ∧ Took w B u pc zz c (.int .i64 0) Q v w' := by
  have hpos := hg.pos
  have HG := Lib.hid hg
  have HA := Lib.hid h
  have D := Lib.hid (r_done ⟨rfl, h⟩)
  have I := Lib.hid (fun v w1 (h : ErrIs w1 v [bRead, u.p] u.e) (g : Laid w1) => h.is g)
  have R := Lib.hid hr
  have T := Lib.hid hzz
  clear h hg hr hzz
  unfold Took
  by_cases q : u.e = 0
  · have d0 : decide (u.e = 0) = true := decide_eq_true q
    have HQ := Lib.hid q
    rw [if_pos q]
    by_cases q2 : c = 0
    · have e0 : (c != 0) = false := by simpa using q2
      have HC := Lib.hid q2
      clear q q2
      go_enter Tryz.func35, Tryz.ntmps35
      go_wp2_with (first
        | (go_at_call 17; refine (D.out).mono ?_; rintro _ w1 ⟨v1, rfl, h1, b1⟩; have H1 := Lib.hid h1; have B1 := Lib.hid b1; clear h1 b1)
        | (go_at_call 63; refine (I.out _ _ H1.out (HG.out.below B1.out hpos)).mono ?_; rintro _ w2 ⟨rfl, b2⟩; rw [d0]; have B2 := Lib.hid (B1.out.trans (b2.mono B1.out.size)); have A2 := Lib.hid (HA.out.later B2.out); clear b2)
        | (go_at_call 36; refine (R.out HQ.out _ A2.out).mono ?_; rintro _ w3 ⟨v3, rfl, q3, b3⟩; have B3 := Lib.hid b3; have Q3 := Lib.hid q3; have A3 := Lib.hid (A2.out.later b3); have c2 := A3.out.c2; have f2 := A3.out.f2; clear b3 q3))
      go_ret
      have CB := (Chg.of (S := fun k => k = B) (B2.out.trans (B3.out.mono B2.out.size)))
      exact ⟨v3, rfl, .inl ⟨HQ.out, HC.out, w2, w3, Q3.out, B2.out, B3.out, (Chg.refl (fun k => k = B) _).set (B := B) rfl _ _⟩, HC.out ▸ A3.out.moved pc zz (T.out HQ.out HC.out).1 (T.out HQ.out HC.out).2, CB.set (B := B) rfl _ _⟩
    · have e0 : (c != 0) = true := by simpa using q2
      have HC := Lib.hid q2
      clear q q2
      go_enter Tryz.func35, Tryz.ntmps35
      go_wp2_with (first
        | (go_at_call 17; refine (D.out).mono ?_; rintro _ w1 ⟨v1, rfl, h1, b1⟩; have H1 := Lib.hid h1; have B1 := Lib.hid b1; clear h1 b1)
        | (go_at_call 63; refine (I.out _ _ H1.out (HG.out.below B1.out hpos)).mono ?_; rintro _ w2 ⟨rfl, b2⟩; rw [d0]; have B2 := Lib.hid (B1.out.trans (b2.mono B1.out.size)); have A2 := Lib.hid (HA.out.later B2.out); clear b2)
        | (go_at_call 36; refine (R.out HQ.out _ A2.out).mono ?_; rintro _ w3 ⟨v3, rfl, _, b3⟩; have B3 := Lib.hid b3; have A3 := Lib.hid (A2.out.later b3); have c3 := A3.out.c3; have c4 := A3.out.c4; have f3 := A3.out.f3; have f4 := A3.out.f4; clear b3))
      go_ret
      have CB := (Chg.of (S := fun k => k = B) (B2.out.trans (B3.out.mono B2.out.size)))
      exact ⟨_, rfl, .inr ⟨fun h => HC.out h.2, rfl⟩, A3.out.fault pc zz c HC.out, (CB.set (B := B) rfl _ _).set (B := B) rfl _ _⟩
  · have d0 : decide (u.e = 0) = false := decide_eq_false q
    have HQ := Lib.hid q
    rw [if_neg q]
    clear q
    go_enter Tryz.func35, Tryz.ntmps35
    go_wp2_with (first
      | (go_at_call 17; refine (D.out).mono ?_; rintro _ w1 ⟨v1, rfl, h1, b1⟩; have H1 := Lib.hid h1; have B1 := Lib.hid b1; clear h1 b1)
      | (go_at_call 63; refine (I.out _ _ H1.out (HG.out.below B1.out hpos)).mono ?_; rintro _ w2 ⟨rfl, b2⟩; rw [d0]; have B2 := Lib.hid (B1.out.trans (b2.mono B1.out.size)); have A2 := Lib.hid (HA.out.later B2.out); clear b2))
    go_ret
    exact ⟨_, rfl, .inr ⟨fun h => HQ.out h.1, rfl⟩, A2.out, Chg.of (S := fun k => k = B) B2.out⟩
set_option maxHeartbeats 1600000 in
theorem take_end {w B u} (h : RAt w B u) (hg : Laid w) (pc : ByteArray) (most zz c : Int) (Q : World → World → Value → Prop)
    (hr : u.e = 0 → ∀ w1, RAt w1 B u → Calls Tryz.prog 43 #[.pointer (some ⟨B, 0, none⟩), .int .i64 most] w1 fun e w' => ∃ v, e = .returned (.tuple #[v, .int .i64 zz, .int .i64 c]) ∧ Q w1 w' v ∧ RowKit.Below w1.heap.size w1 w')
    (hzz : u.e = 0 → c = 0 → 0 ≤ zz ∧ zz ≤ (u.s.size : Int)) :
    Calls Tryz.prog 35 #[.pointer (some ⟨B, 0, none⟩), .string pc, .int .i64 most, .func (.func 43) #[.pointer (some ⟨B, 0, none⟩)] #[]] w fun e w' => ∃ v, e = .returned v ∧ Took w B u pc zz c (.int .i64 0) Q v w' := by
  have hpos := hg.pos
  have HG := Lib.hid hg
  have HA := Lib.hid h
  have D := Lib.hid (r_done ⟨rfl, h⟩)
  have I := Lib.hid (fun v w1 (h : ErrIs w1 v [bRead, u.p] u.e) (g : Laid w1) => h.is g)
  have R := Lib.hid hr
  have T := Lib.hid hzz
  clear h hg hr hzz
  unfold Took
  by_cases q : u.e = 0
  · have d0 : decide (u.e = 0) = true := decide_eq_true q
    have HQ := Lib.hid q
    rw [if_pos q]
    by_cases q2 : c = 0
    · have e0 : (c != 0) = false := by simpa using q2
      have HC := Lib.hid q2
      clear q q2
      go_enter Tryz.func35, Tryz.ntmps35
      go_wp2_with (first
        | (go_at_call 17; refine (D.out).mono ?_; rintro _ w1 ⟨v1, rfl, h1, b1⟩; have H1 := Lib.hid h1; have B1 := Lib.hid b1; clear h1 b1)
        | (go_at_call 63; refine (I.out _ _ H1.out (HG.out.below B1.out hpos)).mono ?_; rintro _ w2 ⟨rfl, b2⟩; rw [d0]; have B2 := Lib.hid (B1.out.trans (b2.mono B1.out.size)); have A2 := Lib.hid (HA.out.later B2.out); clear b2)
        | (go_at_call 43; refine (R.out HQ.out _ A2.out).mono ?_; rintro _ w3 ⟨v3, rfl, q3, b3⟩; have B3 := Lib.hid b3; have Q3 := Lib.hid q3; have A3 := Lib.hid (A2.out.later b3); have c2 := A3.out.c2; have f2 := A3.out.f2; clear b3 q3))
      go_ret
      have CB := (Chg.of (S := fun k => k = B) (B2.out.trans (B3.out.mono B2.out.size)))
      exact ⟨v3, rfl, .inl ⟨HQ.out, HC.out, w2, w3, Q3.out, B2.out, B3.out, (Chg.refl (fun k => k = B) _).set (B := B) rfl _ _⟩, HC.out ▸ A3.out.moved pc zz (T.out HQ.out HC.out).1 (T.out HQ.out HC.out).2, CB.set (B := B) rfl _ _⟩
    · have e0 : (c != 0) = true := by simpa using q2
      have HC := Lib.hid q2
      clear q q2
      go_enter Tryz.func35, Tryz.ntmps35
      go_wp2_with (first
        | (go_at_call 17; refine (D.out).mono ?_; rintro _ w1 ⟨v1, rfl, h1, b1⟩; have H1 := Lib.hid h1; have B1 := Lib.hid b1; clear h1 b1)
        | (go_at_call 63; refine (I.out _ _ H1.out (HG.out.below B1.out hpos)).mono ?_; rintro _ w2 ⟨rfl, b2⟩; rw [d0]; have B2 := Lib.hid (B1.out.trans (b2.mono B1.out.size)); have A2 := Lib.hid (HA.out.later B2.out); clear b2)
        | (go_at_call 43; refine (R.out HQ.out _ A2.out).mono ?_; rintro _ w3 ⟨v3, rfl, _, b3⟩; have B3 := Lib.hid b3; have A3 := Lib.hid (A2.out.later b3); have c3 := A3.out.c3; have c4 := A3.out.c4; have f3 := A3.out.f3; have f4 := A3.out.f4; clear b3))
      go_ret
      have CB := (Chg.of (S := fun k => k = B) (B2.out.trans (B3.out.mono B2.out.size)))
      exact ⟨_, rfl, .inr ⟨fun h => HC.out h.2, rfl⟩, A3.out.fault pc zz c HC.out, (CB.set (B := B) rfl _ _).set (B := B) rfl _ _⟩
  · have d0 : decide (u.e = 0) = false := decide_eq_false q
    have HQ := Lib.hid q
    rw [if_neg q]
    clear q
    go_enter Tryz.func35, Tryz.ntmps35
    go_wp2_with (first
      | (go_at_call 17; refine (D.out).mono ?_; rintro _ w1 ⟨v1, rfl, h1, b1⟩; have H1 := Lib.hid h1; have B1 := Lib.hid b1; clear h1 b1)
      | (go_at_call 63; refine (I.out _ _ H1.out (HG.out.below B1.out hpos)).mono ?_; rintro _ w2 ⟨rfl, b2⟩; rw [d0]; have B2 := Lib.hid (B1.out.trans (b2.mono B1.out.size)); have A2 := Lib.hid (HA.out.later B2.out); clear b2))
    go_ret
    exact ⟨_, rfl, .inr ⟨fun h => HQ.out h.1, rfl⟩, A2.out, Chg.of (S := fun k => k = B) B2.out⟩
set_option maxHeartbeats 1600000 in
theorem take_text {w B u} (h : RAt w B u) (hg : Laid w) (pc : ByteArray) (most zz c : Int) (Q : World → World → Value → Prop)
    (hr : u.e = 0 → ∀ w1, RAt w1 B u → Calls Tryz.prog 38 #[.pointer (some ⟨B, 0, none⟩), .int .i64 most] w1 fun e w' => ∃ v, e = .returned (.tuple #[v, .int .i64 zz, .int .i64 c]) ∧ Q w1 w' v ∧ RowKit.Below w1.heap.size w1 w')
    (hzz : u.e = 0 → c = 0 → 0 ≤ zz ∧ zz ≤ (u.s.size : Int)) :
    Calls Tryz.prog 37 #[.pointer (some ⟨B, 0, none⟩), .string pc, .int .i64 most, .func (.func 38) #[.pointer (some ⟨B, 0, none⟩)] #[]] w fun e w' => ∃ v, e = .returned v ∧ Took w B u pc zz c (.string ⟨#[]⟩) Q v w' := by
  have hpos := hg.pos
  have HG := Lib.hid hg
  have HA := Lib.hid h
  have D := Lib.hid (r_done ⟨rfl, h⟩)
  have I := Lib.hid (fun v w1 (h : ErrIs w1 v [bRead, u.p] u.e) (g : Laid w1) => h.is g)
  have R := Lib.hid hr
  have T := Lib.hid hzz
  clear h hg hr hzz
  unfold Took
  by_cases q : u.e = 0
  · have d0 : decide (u.e = 0) = true := decide_eq_true q
    have HQ := Lib.hid q
    rw [if_pos q]
    by_cases q2 : c = 0
    · have e0 : (c != 0) = false := by simpa using q2
      have HC := Lib.hid q2
      clear q q2
      go_enter Tryz.func37, Tryz.ntmps37
      go_wp2_with (first
        | (go_at_call 17; refine (D.out).mono ?_; rintro _ w1 ⟨v1, rfl, h1, b1⟩; have H1 := Lib.hid h1; have B1 := Lib.hid b1; clear h1 b1)
        | (go_at_call 63; refine (I.out _ _ H1.out (HG.out.below B1.out hpos)).mono ?_; rintro _ w2 ⟨rfl, b2⟩; rw [d0]; have B2 := Lib.hid (B1.out.trans (b2.mono B1.out.size)); have A2 := Lib.hid (HA.out.later B2.out); clear b2)
        | (go_at_call 38; refine (R.out HQ.out _ A2.out).mono ?_; rintro _ w3 ⟨v3, rfl, q3, b3⟩; have B3 := Lib.hid b3; have Q3 := Lib.hid q3; have A3 := Lib.hid (A2.out.later b3); have c2 := A3.out.c2; have f2 := A3.out.f2; clear b3 q3))
      go_ret
      have CB := (Chg.of (S := fun k => k = B) (B2.out.trans (B3.out.mono B2.out.size)))
      exact ⟨v3, rfl, .inl ⟨HQ.out, HC.out, w2, w3, Q3.out, B2.out, B3.out, (Chg.refl (fun k => k = B) _).set (B := B) rfl _ _⟩, HC.out ▸ A3.out.moved pc zz (T.out HQ.out HC.out).1 (T.out HQ.out HC.out).2, CB.set (B := B) rfl _ _⟩
    · have e0 : (c != 0) = true := by simpa using q2
      have HC := Lib.hid q2
      clear q q2
      go_enter Tryz.func37, Tryz.ntmps37
      go_wp2_with (first
        | (go_at_call 17; refine (D.out).mono ?_; rintro _ w1 ⟨v1, rfl, h1, b1⟩; have H1 := Lib.hid h1; have B1 := Lib.hid b1; clear h1 b1)
        | (go_at_call 63; refine (I.out _ _ H1.out (HG.out.below B1.out hpos)).mono ?_; rintro _ w2 ⟨rfl, b2⟩; rw [d0]; have B2 := Lib.hid (B1.out.trans (b2.mono B1.out.size)); have A2 := Lib.hid (HA.out.later B2.out); clear b2)
        | (go_at_call 38; refine (R.out HQ.out _ A2.out).mono ?_; rintro _ w3 ⟨v3, rfl, _, b3⟩; have B3 := Lib.hid b3; have A3 := Lib.hid (A2.out.later b3); have c3 := A3.out.c3; have c4 := A3.out.c4; have f3 := A3.out.f3; have f4 := A3.out.f4; clear b3))
      go_ret
      have CB := (Chg.of (S := fun k => k = B) (B2.out.trans (B3.out.mono B2.out.size)))
      exact ⟨_, rfl, .inr ⟨fun h => HC.out h.2, rfl⟩, A3.out.fault pc zz c HC.out, (CB.set (B := B) rfl _ _).set (B := B) rfl _ _⟩
  · have d0 : decide (u.e = 0) = false := decide_eq_false q
    have HQ := Lib.hid q
    rw [if_neg q]
    clear q
    go_enter Tryz.func37, Tryz.ntmps37
    go_wp2_with (first
      | (go_at_call 17; refine (D.out).mono ?_; rintro _ w1 ⟨v1, rfl, h1, b1⟩; have H1 := Lib.hid h1; have B1 := Lib.hid b1; clear h1 b1)
      | (go_at_call 63; refine (I.out _ _ H1.out (HG.out.below B1.out hpos)).mono ?_; rintro _ w2 ⟨rfl, b2⟩; rw [d0]; have B2 := Lib.hid (B1.out.trans (b2.mono B1.out.size)); have A2 := Lib.hid (HA.out.later B2.out); clear b2))
    go_ret
    exact ⟨_, rfl, .inr ⟨fun h => HQ.out h.1, rfl⟩, A2.out, Chg.of (S := fun k => k = B) B2.out⟩
set_option maxHeartbeats 1600000 in
theorem take_row {w B u} (h : RAt w B u) (hg : Laid w) (pc : ByteArray) (most zz c : Int) (Q : World → World → Value → Prop)
    (hr : u.e = 0 → ∀ w1, RAt w1 B u → Calls Tryz.prog 40 #[.pointer (some ⟨B, 0, none⟩), .int .i64 most] w1 fun e w' => ∃ v, e = .returned (.tuple #[v, .int .i64 zz, .int .i64 c]) ∧ Q w1 w' v ∧ RowKit.Below w1.heap.size w1 w')
    (hzz : u.e = 0 → c = 0 → 0 ≤ zz ∧ zz ≤ (u.s.size : Int)) :
    Calls Tryz.prog 39 #[.pointer (some ⟨B, 0, none⟩), .string pc, .int .i64 most, .func (.func 40) #[.pointer (some ⟨B, 0, none⟩)] #[]] w fun e w' => ∃ v, e = .returned v ∧ Took w B u pc zz c (.slice none 0 0) Q v w' := by
  have hpos := hg.pos
  have HG := Lib.hid hg
  have HA := Lib.hid h
  have D := Lib.hid (r_done ⟨rfl, h⟩)
  have I := Lib.hid (fun v w1 (h : ErrIs w1 v [bRead, u.p] u.e) (g : Laid w1) => h.is g)
  have R := Lib.hid hr
  have T := Lib.hid hzz
  clear h hg hr hzz
  unfold Took
  by_cases q : u.e = 0
  · have d0 : decide (u.e = 0) = true := decide_eq_true q
    have HQ := Lib.hid q
    rw [if_pos q]
    by_cases q2 : c = 0
    · have e0 : (c != 0) = false := by simpa using q2
      have HC := Lib.hid q2
      clear q q2
      go_enter Tryz.func39, Tryz.ntmps39
      go_wp2_with (first
        | (go_at_call 17; refine (D.out).mono ?_; rintro _ w1 ⟨v1, rfl, h1, b1⟩; have H1 := Lib.hid h1; have B1 := Lib.hid b1; clear h1 b1)
        | (go_at_call 63; refine (I.out _ _ H1.out (HG.out.below B1.out hpos)).mono ?_; rintro _ w2 ⟨rfl, b2⟩; rw [d0]; have B2 := Lib.hid (B1.out.trans (b2.mono B1.out.size)); have A2 := Lib.hid (HA.out.later B2.out); clear b2)
        | (go_at_call 40; refine (R.out HQ.out _ A2.out).mono ?_; rintro _ w3 ⟨v3, rfl, q3, b3⟩; have B3 := Lib.hid b3; have Q3 := Lib.hid q3; have A3 := Lib.hid (A2.out.later b3); have c2 := A3.out.c2; have f2 := A3.out.f2; clear b3 q3))
      go_ret
      have CB := (Chg.of (S := fun k => k = B) (B2.out.trans (B3.out.mono B2.out.size)))
      exact ⟨v3, rfl, .inl ⟨HQ.out, HC.out, w2, w3, Q3.out, B2.out, B3.out, (Chg.refl (fun k => k = B) _).set (B := B) rfl _ _⟩, HC.out ▸ A3.out.moved pc zz (T.out HQ.out HC.out).1 (T.out HQ.out HC.out).2, CB.set (B := B) rfl _ _⟩
    · have e0 : (c != 0) = true := by simpa using q2
      have HC := Lib.hid q2
      clear q q2
      go_enter Tryz.func39, Tryz.ntmps39
      go_wp2_with (first
        | (go_at_call 17; refine (D.out).mono ?_; rintro _ w1 ⟨v1, rfl, h1, b1⟩; have H1 := Lib.hid h1; have B1 := Lib.hid b1; clear h1 b1)
        | (go_at_call 63; refine (I.out _ _ H1.out (HG.out.below B1.out hpos)).mono ?_; rintro _ w2 ⟨rfl, b2⟩; rw [d0]; have B2 := Lib.hid (B1.out.trans (b2.mono B1.out.size)); have A2 := Lib.hid (HA.out.later B2.out); clear b2)
        | (go_at_call 40; refine (R.out HQ.out _ A2.out).mono ?_; rintro _ w3 ⟨v3, rfl, _, b3⟩; have B3 := Lib.hid b3; have A3 := Lib.hid (A2.out.later b3); have c3 := A3.out.c3; have c4 := A3.out.c4; have f3 := A3.out.f3; have f4 := A3.out.f4; clear b3))
      go_ret
      have CB := (Chg.of (S := fun k => k = B) (B2.out.trans (B3.out.mono B2.out.size)))
      exact ⟨_, rfl, .inr ⟨fun h => HC.out h.2, rfl⟩, A3.out.fault pc zz c HC.out, (CB.set (B := B) rfl _ _).set (B := B) rfl _ _⟩
  · have d0 : decide (u.e = 0) = false := decide_eq_false q
    have HQ := Lib.hid q
    rw [if_neg q]
    clear q
    go_enter Tryz.func39, Tryz.ntmps39
    go_wp2_with (first
      | (go_at_call 17; refine (D.out).mono ?_; rintro _ w1 ⟨v1, rfl, h1, b1⟩; have H1 := Lib.hid h1; have B1 := Lib.hid b1; clear h1 b1)
      | (go_at_call 63; refine (I.out _ _ H1.out (HG.out.below B1.out hpos)).mono ?_; rintro _ w2 ⟨rfl, b2⟩; rw [d0]; have B2 := Lib.hid (B1.out.trans (b2.mono B1.out.size)); have A2 := Lib.hid (HA.out.later B2.out); clear b2))
    go_ret
    exact ⟨_, rfl, .inr ⟨fun h => HQ.out h.1, rfl⟩, A2.out, Chg.of (S := fun k => k = B) B2.out⟩
set_option maxHeartbeats 1600000 in
theorem take_flag {w B u} (h : RAt w B u) (hg : Laid w) (pc : ByteArray) (most zz c : Int) (Q : World → World → Value → Prop)
    (hr : u.e = 0 → ∀ w1, RAt w1 B u → Calls Tryz.prog 42 #[.pointer (some ⟨B, 0, none⟩), .int .i64 most] w1 fun e w' => ∃ v, e = .returned (.tuple #[v, .int .i64 zz, .int .i64 c]) ∧ Q w1 w' v ∧ RowKit.Below w1.heap.size w1 w')
    (hzz : u.e = 0 → c = 0 → 0 ≤ zz ∧ zz ≤ (u.s.size : Int)) :
    Calls Tryz.prog 41 #[.pointer (some ⟨B, 0, none⟩), .string pc, .int .i64 most, .func (.func 42) #[.pointer (some ⟨B, 0, none⟩)] #[]] w fun e w' => ∃ v, e = .returned v ∧ Took w B u pc zz c (.bool false) Q v w' := by
  have hpos := hg.pos
  have HG := Lib.hid hg
  have HA := Lib.hid h
  have D := Lib.hid (r_done ⟨rfl, h⟩)
  have I := Lib.hid (fun v w1 (h : ErrIs w1 v [bRead, u.p] u.e) (g : Laid w1) => h.is g)
  have R := Lib.hid hr
  have T := Lib.hid hzz
  clear h hg hr hzz
  unfold Took
  by_cases q : u.e = 0
  · have d0 : decide (u.e = 0) = true := decide_eq_true q
    have HQ := Lib.hid q
    rw [if_pos q]
    by_cases q2 : c = 0
    · have e0 : (c != 0) = false := by simpa using q2
      have HC := Lib.hid q2
      clear q q2
      go_enter Tryz.func41, Tryz.ntmps41
      go_wp2_with (first
        | (go_at_call 17; refine (D.out).mono ?_; rintro _ w1 ⟨v1, rfl, h1, b1⟩; have H1 := Lib.hid h1; have B1 := Lib.hid b1; clear h1 b1)
        | (go_at_call 63; refine (I.out _ _ H1.out (HG.out.below B1.out hpos)).mono ?_; rintro _ w2 ⟨rfl, b2⟩; rw [d0]; have B2 := Lib.hid (B1.out.trans (b2.mono B1.out.size)); have A2 := Lib.hid (HA.out.later B2.out); clear b2)
        | (go_at_call 42; refine (R.out HQ.out _ A2.out).mono ?_; rintro _ w3 ⟨v3, rfl, q3, b3⟩; have B3 := Lib.hid b3; have Q3 := Lib.hid q3; have A3 := Lib.hid (A2.out.later b3); have c2 := A3.out.c2; have f2 := A3.out.f2; clear b3 q3))
      go_ret
      have CB := (Chg.of (S := fun k => k = B) (B2.out.trans (B3.out.mono B2.out.size)))
      exact ⟨v3, rfl, .inl ⟨HQ.out, HC.out, w2, w3, Q3.out, B2.out, B3.out, (Chg.refl (fun k => k = B) _).set (B := B) rfl _ _⟩, HC.out ▸ A3.out.moved pc zz (T.out HQ.out HC.out).1 (T.out HQ.out HC.out).2, CB.set (B := B) rfl _ _⟩
    · have e0 : (c != 0) = true := by simpa using q2
      have HC := Lib.hid q2
      clear q q2
      go_enter Tryz.func41, Tryz.ntmps41
      go_wp2_with (first
        | (go_at_call 17; refine (D.out).mono ?_; rintro _ w1 ⟨v1, rfl, h1, b1⟩; have H1 := Lib.hid h1; have B1 := Lib.hid b1; clear h1 b1)
        | (go_at_call 63; refine (I.out _ _ H1.out (HG.out.below B1.out hpos)).mono ?_; rintro _ w2 ⟨rfl, b2⟩; rw [d0]; have B2 := Lib.hid (B1.out.trans (b2.mono B1.out.size)); have A2 := Lib.hid (HA.out.later B2.out); clear b2)
        | (go_at_call 42; refine (R.out HQ.out _ A2.out).mono ?_; rintro _ w3 ⟨v3, rfl, _, b3⟩; have B3 := Lib.hid b3; have A3 := Lib.hid (A2.out.later b3); have c3 := A3.out.c3; have c4 := A3.out.c4; have f3 := A3.out.f3; have f4 := A3.out.f4; clear b3))
      go_ret
      have CB := (Chg.of (S := fun k => k = B) (B2.out.trans (B3.out.mono B2.out.size)))
      exact ⟨_, rfl, .inr ⟨fun h => HC.out h.2, rfl⟩, A3.out.fault pc zz c HC.out, (CB.set (B := B) rfl _ _).set (B := B) rfl _ _⟩
  · have d0 : decide (u.e = 0) = false := decide_eq_false q
    have HQ := Lib.hid q
    rw [if_neg q]
    clear q
    go_enter Tryz.func41, Tryz.ntmps41
    go_wp2_with (first
      | (go_at_call 17; refine (D.out).mono ?_; rintro _ w1 ⟨v1, rfl, h1, b1⟩; have H1 := Lib.hid h1; have B1 := Lib.hid b1; clear h1 b1)
      | (go_at_call 63; refine (I.out _ _ H1.out (HG.out.below B1.out hpos)).mono ?_; rintro _ w2 ⟨rfl, b2⟩; rw [d0]; have B2 := Lib.hid (B1.out.trans (b2.mono B1.out.size)); have A2 := Lib.hid (HA.out.later B2.out); clear b2))
    go_ret
    exact ⟨_, rfl, .inr ⟨fun h => HQ.out h.1, rfl⟩, A2.out, Chg.of (S := fun k => k = B) B2.out⟩
/-- .. upon no reader: nothing is read. -/
theorem take_none (w : World) (hg : Laid w) (pc : ByteArray) (most : Int) (f : Value) : Calls Tryz.prog 35 #[.pointer none, .string pc, .int .i64 most, f] w fun e w' => e = .returned (.int .i64 0) ∧ RowKit.Below w.heap.size w w' := by
  have hpos := hg.pos
  have HG := Lib.hid hg
  have D := Lib.hid (r_none w)
  have I := Lib.hid (fun v w1 (h : ErrIs w1 v [bRead] 1) (g : Laid w1) => h.is g)
  have d0 : decide ((1 : Int) = 0) = false := rfl
  clear hg
  go_enter Tryz.func35, Tryz.ntmps35
  go_wp2_with (first
    | (go_at_call 17; refine (D.out).mono ?_; rintro _ w1 ⟨v1, rfl, h1, b1⟩; have H1 := Lib.hid h1; have B1 := Lib.hid b1; clear h1 b1)
    | (go_at_call 63; refine (I.out _ _ H1.out (HG.out.below B1.out hpos)).mono ?_; rintro _ w2 ⟨rfl, b2⟩; rw [d0]; have B2 := Lib.hid (B1.out.trans (b2.mono B1.out.size)); clear b2))
  go_ret
  exact ⟨rfl, B2.out⟩
end Go.Proofs.YtegbldkkggpjcaaGreatDoor
