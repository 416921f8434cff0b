/- The contracts of the library's choice of a pivot in a row of commands: it is one of the part's places, and the row stays. Written by a generator of mine (wip/gen). -/
import Derived.Test.YtcgnodkbmpkhkaaIdentSmall
namespace Go.Proofs.Ytcgnodkbmpkhkaa
open Go.RowKit Go.Sort

/-- The row holds d, and a counter of the call's own stands at s. -/
structure PivAt (w0 : World) (b : Nat) (d : Array (Int × Int)) (c s : Nat) (W : World) : Prop where
  row : RowAt w0 b d W
  cell : W.cell? ⟨c, 0, none⟩ = some (.int .i64 s)
  froz : W.frozen? ⟨c, 0, none⟩ = false
  apart : b < c
variable {w0 W : World} {b : Nat} {d : Array (Int × Int)} {c s : Nat}
theorem PivAt.grew (h : PivAt w0 b d c s W) {W' : World} (k : Grew W W') : PivAt w0 b d c s W' := by
  have hl := World.block_lt_of_cell? _ _ h.cell
  exact ⟨h.row.grew k, (k.below.cell (p := ⟨c, 0, none⟩) hl).trans h.cell, (k.below.frozen (p := ⟨c, 0, none⟩) hl).trans h.froz, h.apart⟩
theorem PivAt.grown (h : PivAt w0 b d c s W) (n : Nat) (os : Array Obj) : PivAt w0 b d c s (grow (W.drewN n) os) := h.grew ⟨n, os, rfl⟩
/-- A cell of another, later block is written: the row stays. -/
theorem RowAt.far (h : RowAt w0 b d W) (c o : Nat) (v : Value) (hc : b < c) : RowAt w0 b d (W.setCell ⟨c, o, none⟩ v) :=
  { lt := by simp [World.setCell]; exact h.lt
    base := h.base.setCell (p := ⟨c, o, none⟩) (Nat.le_of_lt hc) _
    c0 := fun i hi => by rw [World.cell?_setCell_other _ _ _ _ (by intro e; injection e with e1; omega)]; exact h.c0 i hi
    c1 := fun i hi => by rw [World.cell?_setCell_other _ _ _ _ (by intro e; injection e with e1; omega)]; exact h.c1 i hi
    f0 := fun i hi => by rw [World.frozen?_setCell]; exact h.f0 i hi
    f1 := fun i hi => by rw [World.frozen?_setCell]; exact h.f1 i hi }
theorem PivAt.bump (h : PivAt w0 b d c s W) (t : Nat) : PivAt w0 b d c t (W.setCell ⟨c, 0, none⟩ (.int .i64 t)) :=
  ⟨h.row.far c 0 _ h.apart, cell_same _ _ _ _ _ h.cell, by rw [World.frozen?_setCell]; exact h.froz, h.apart⟩

set_option maxHeartbeats 2000000 in
theorem order2_any (w0 W : World) (b c s x y cap : Nat) (d : Array (Int × Int)) (P : PivAt w0 b d c s W) (hx : x < d.size) (hy : y < d.size) (hs : s ≤ 1000) (hsz : d.size ≤ 1000) :
    Calls Try.prog 52 #[.slice (some ⟨b, 0, none⟩) d.size cap, .int .i64 x, .int .i64 y, .pointer (some ⟨c, 0, none⟩), .func (.func 30) #[.func (.func 18) #[] #[]] #[]] W fun r w' =>
      ∃ u v t : Nat, r = .returned (.tuple #[.int .i64 u, .int .i64 v]) ∧ (u = x ∨ u = y) ∧ (v = x ∨ v = y) ∧ t ≤ s + 1 ∧ PivAt w0 b d c t w' := by
  have hmix := mixed
  have S1 := Lib.hid P.row
  have P1 := Lib.hid P; clear P
  go_enter Try.func52, Try.ntmps52
  go_wp2_with fail
  have eta : ((y : Int)).toNat = y := by omega
  have pta : (0 : Int) ≤ (y : Int) := by omega
  have bta : (y : Int) < (d.size : Int) := by omega
  have rta : IntKind.i64.wrap ((y : Int)) = (y : Int) := by rw [IntKind.wrap_i64]; omega
  have etb : ((x : Int)).toNat = x := by omega
  have ptb : (0 : Int) ≤ (x : Int) := by omega
  have btb : (x : Int) < (d.size : Int) := by omega
  have rtb : IntKind.i64.wrap ((x : Int)) = (x : Int) := by rw [IntKind.wrap_i64]; omega
  obtain ⟨xt, hxt⟩ : ∃ x, x = d[y]! := ⟨_, rfl⟩
  obtain ⟨yt, hyt⟩ : ∃ y, y = d[x]! := ⟨_, rfl⟩
  have lt0 := fun n os => (S1.out.grown n os).c0 (y) (by omega)
  have lt1 := fun n os => (S1.out.grown n os).c1 (y) (by omega)
  have lt2 := fun n os => (S1.out.grown n os).c0 (x) (by omega)
  have lt3 := fun n os => (S1.out.grown n os).c1 (x) (by omega)
  rw [← hxt] at lt0 lt1
  rw [← hyt] at lt2 lt3
  have hct := compare_grown xt yt
  have hdt := cmp_neg xt yt
  cases hlt : lessB xt yt with
  | true =>
    rw [hlt] at hdt
    rw [hxt, hyt] at hlt
    have Ht := Lib.hid hlt; clear hlt hxt hyt
    have hdt' := of_decide_eq_true hdt
    go_wp2_with fail
    go_quiet_grown (first | (go_at_call 30; refine Calls.grown_of (hct _ _ _)))
    have St := Lib.hid (S1.out.grown nq osq)
    have Pt := Lib.hid (P1.out.grown nq osq)
    clear lt0 lt1 lt2 lt3 hct hdt hdt' S1 P1
    generalize grow (W.drewN nq) osq = wt at St Pt ⊢
    clear nq osq
    obtain ⟨_, cc, cf, cb⟩ := Pt.out
    clear St
    go_wp2
    go_ret2
    exact ⟨y, x, s + 1, rfl, Or.inr rfl, Or.inl rfl, by omega, Pt.out.bump (s + 1)⟩
  | false =>
    rw [hlt] at hdt
    rw [hxt, hyt] at hlt
    have Ht := Lib.hid hlt; clear hlt hxt hyt
    have hdt' := of_decide_eq_false hdt
    go_wp2_with fail
    go_quiet_grown (first | (go_at_call 30; refine Calls.grown_of (hct _ _ _)))
    have St := Lib.hid (S1.out.grown nq osq)
    have Pt := Lib.hid (P1.out.grown nq osq)
    clear lt0 lt1 lt2 lt3 hct hdt hdt' S1 P1
    generalize grow (W.drewN nq) osq = wt at St Pt ⊢
    clear nq osq
    obtain ⟨_, cc, cf, cb⟩ := Pt.out
    clear St
    go_wp2
    go_ret2
    exact ⟨x, y, s, rfl, Or.inl rfl, Or.inr rfl, by omega, Pt.out⟩

theorem order2_z (w0 W : World) (b c s x y cap len : Nat) (d : Array (Int × Int)) (P : PivAt w0 b d c s W) (hx : x < d.size) (hy : y < d.size) (hs : s ≤ 1000) (hsz : d.size ≤ 1000) (hl : len = d.size) :
    Calls Try.prog 52 #[.slice (some ⟨b, 0, none⟩) len cap, .int .i64 x, .int .i64 y, .pointer (some ⟨c, 0, none⟩), .func (.func 30) #[.func (.func 18) #[] #[]] #[]] W fun r w' =>
      ∃ u v t : Nat, r = .returned (.tuple #[.int .i64 u, .int .i64 v]) ∧ (u = x ∨ u = y) ∧ (v = x ∨ v = y) ∧ t ≤ s + 1 ∧ PivAt w0 b d c t w' := by
  subst hl; exact order2_any w0 W b c s x y cap d P hx hy hs hsz
set_option maxHeartbeats 2000000 in
theorem median_any (w0 W : World) (b c s x y z cap : Nat) (d : Array (Int × Int)) (P : PivAt w0 b d c s W) (hx : x < d.size) (hy : y < d.size) (hz : z < d.size) (hs : s ≤ 900) (hsz : d.size ≤ 1000) :
    Calls Try.prog 51 #[.slice (some ⟨b, 0, none⟩) d.size cap, .int .i64 x, .int .i64 y, .int .i64 z, .pointer (some ⟨c, 0, none⟩), .func (.func 30) #[.func (.func 18) #[] #[]] #[]] W fun r w' =>
      ∃ u t : Nat, r = .returned (.int .i64 u) ∧ (u = x ∨ u = y ∨ u = z) ∧ t ≤ s + 3 ∧ PivAt w0 b d c t w' := by
  have P0 := Lib.hid P; clear P
  go_enter Try.func51, Try.ntmps51
  go_wp2_with fail
  refine (order2_any w0 _ b c s x y cap d P0.out hx hy (by omega) hsz).mono ?_
  rintro e w1 ⟨u1, v1, t1, rfl, hu1, hv1, ht1, P1⟩
  have P1 := Lib.hid P1
  have HU1 := Lib.hid hu1; have HV1 := Lib.hid hv1
  have lu1 : u1 < d.size := by omega
  have lv1 : v1 < d.size := by omega
  clear hu1 hv1 P0
  go_wp2_with fail
  refine (order2_any w0 _ b c t1 v1 z cap d P1.out lv1 hz (by omega) hsz).mono ?_
  rintro e w2 ⟨u2, v2, t2, rfl, hu2, hv2, ht2, P2⟩
  have P2 := Lib.hid P2
  have HU2 := Lib.hid hu2
  have lu2 : u2 < d.size := by omega
  clear hu2 hv2 P1
  go_wp2_with fail
  refine (order2_any w0 _ b c t2 u1 u2 cap d P2.out lu1 lu2 (by omega) hsz).mono ?_
  rintro e w3 ⟨u3, v3, t3, rfl, hu3, hv3, ht3, P3⟩
  have P3 := Lib.hid P3
  have HV3 := Lib.hid hv3
  clear hu3 hv3 P2
  go_wp2_with fail
  go_ret
  refine ⟨v3, t3, rfl, ?_, by omega, P3.out⟩
  have h1 := HU1.out; have h2 := HV1.out; have h3 := HU2.out; have h4 := HV3.out
  omega
theorem adjacent_any (w0 W : World) (b c s x cap : Nat) (d : Array (Int × Int)) (P : PivAt w0 b d c s W) (h1 : 1 ≤ x) (hx : x + 1 < d.size) (hs : s ≤ 900) (hsz : d.size ≤ 1000) :
    Calls Try.prog 50 #[.slice (some ⟨b, 0, none⟩) d.size cap, .int .i64 x, .pointer (some ⟨c, 0, none⟩), .func (.func 30) #[.func (.func 18) #[] #[]] #[]] W fun r w' =>
      ∃ u t : Nat, r = .returned (.int .i64 u) ∧ x ≤ u + 1 ∧ u ≤ x + 1 ∧ t ≤ s + 3 ∧ PivAt w0 b d c t w' := by
  obtain ⟨p, rfl⟩ : ∃ p, x = p + 1 := ⟨x - 1, by omega⟩
  have hm := median_any w0 W b c s p (p + 1) (p + 2) cap d P (by omega) (by omega) (by omega) hs hsz
  rw [show (((p + 1 : Nat)) : Int) = (p : Int) + 1 by omega, show (((p + 2 : Nat)) : Int) = (p : Int) + 1 + 1 by omega] at hm
  have HM := Lib.hid hm
  clear hm P
  go_enter Try.func50, Try.ntmps50
  go_wp2_with fail
  refine HM.out.mono ?_
  rintro e w1 ⟨u, t, rfl, hu, ht, P1⟩
  have P1 := Lib.hid P1
  have HU := Lib.hid hu
  clear hu
  go_wp2_with fail
  go_ret
  have h1 := HU.out
  exact ⟨u, t, rfl, by omega, by omega, ht, P1.out⟩
end Go.Proofs.Ytcgnodkbmpkhkaa
