/- A row of commands in one block, as the library's sort sees it: what is asked of a world in which the row holds d, and that all below the row's block is as it was. -/
import Derived.Test.YtcgnodkbmpkhkaaIdentLess
import Derived.Shelf.SlSortCmp.KitK
import Derived.Sort.LotA
import Derived.Sort.WalkA
namespace Go.Proofs.Ytcgnodkbmpkhkaa
open Go.RowKit Go.Sort

structure RowAt (w0 : World) (b : Nat) (d : Array (Int × Int)) (W : World) : Prop where
  lt : b < W.heap.size
  base : Below b w0 W
  c0 : ∀ i, i < d.size → W.cell? ⟨b, i * 2, none⟩ = some (.int .i64 d[i]!.1)
  c1 : ∀ i, i < d.size → W.cell? ⟨b, i * 2 + 1, none⟩ = some (.int .i64 d[i]!.2)
  f0 : ∀ i, i < d.size → W.frozen? ⟨b, i * 2, none⟩ = false
  f1 : ∀ i, i < d.size → W.frozen? ⟨b, i * 2 + 1, none⟩ = false
variable {w0 W : World} {b : Nat} {d : Array (Int × Int)}

theorem RowAt.kept (h : RowAt w0 b d W) {W' : World} (k : Below W.heap.size W W') : RowAt w0 b d W' :=
  { lt := Nat.lt_of_lt_of_le h.lt k.size
    base := h.base.trans (k.mono (Nat.le_of_lt h.lt))
    c0 := fun i hi => (k.cell (p := ⟨b, i * 2, none⟩) h.lt).trans (h.c0 i hi)
    c1 := fun i hi => (k.cell (p := ⟨b, i * 2 + 1, none⟩) h.lt).trans (h.c1 i hi)
    f0 := fun i hi => (k.frozen (p := ⟨b, i * 2, none⟩) h.lt).trans (h.f0 i hi)
    f1 := fun i hi => (k.frozen (p := ⟨b, i * 2 + 1, none⟩) h.lt).trans (h.f1 i hi) }
theorem RowAt.grew (h : RowAt w0 b d W) {W' : World} (k : Grew W W') : RowAt w0 b d W' := h.kept k.below
theorem RowAt.grown (h : RowAt w0 b d W) (n : Nat) (os : Array Obj) : RowAt w0 b d (grow (W.drewN n) os) := h.grew ⟨n, os, rfl⟩
theorem RowAt.drew (h : RowAt w0 b d W) : RowAt w0 b d W.drew := h.grew ⟨1, #[], by rw [grow_empty]; rfl⟩

theorem compare_grown (x y : Int × Int) (W : World) (n : Nat) (os : Array Obj) : Calls Try.prog 30 #[.func (.func 18) #[] #[], .agg #[.int .i64 x.1, .int .i64 x.2], .agg #[.int .i64 y.1, .int .i64 y.2]] (grow (W.drewN n) os) fun e w' => e = .returned (.int .i64 (cmpZ x y)) ∧ ∃ q os', w' = grow ((grow (W.drewN n) os).drewN q) os' :=
  compare_any x y _

theorem mixed : Try.prog.follows .mixedOrders = true := by kernel_rfl

theorem get_set (d : Array (Int × Int)) (i k : Nat) (x : Int × Int) (hi : i < d.size) : (d.setIfInBounds i x)[k]! = if k = i then x else d[k]! := by
  by_cases h : k = i
  · subst h; simp [hi]
  · rw [if_neg h]
    have h' : i ≠ k := fun e => h e.symm
    simp only [getElem!_def, Array.getElem?_setIfInBounds_ne h']

theorem cell_other (W : World) (b i j : Nat) (v : Value) (h : i ≠ j) : (W.setCell ⟨b, i, none⟩ v).cell? ⟨b, j, none⟩ = W.cell? ⟨b, j, none⟩ :=
  World.cell?_setCell_other _ _ _ _ (by intro e; injection e with e1 e2; exact h e2)
theorem cell_same (W : World) (b i : Nat) (u v : Value) (h : W.cell? ⟨b, i, none⟩ = some u) : (W.setCell ⟨b, i, none⟩ v).cell? ⟨b, i, none⟩ = some v := World.cell?_setCell_same _ _ _ h
/-- One place of the row is written. -/
theorem RowAt.put (h : RowAt w0 b d W) (i : Nat) (hi : i < d.size) (x : Int × Int) : RowAt w0 b (d.setIfInBounds i x) ((W.setCell ⟨b, i * 2, none⟩ (.int .i64 x.1)).setCell ⟨b, i * 2 + 1, none⟩ (.int .i64 x.2)) :=
  { lt := by simp [World.setCell]; exact h.lt
    base := (h.base.setCell (p := ⟨b, i * 2, none⟩) (Nat.le_refl _) _).setCell (p := ⟨b, i * 2 + 1, none⟩) (Nat.le_refl _) _
    c0 := fun k hk => by
      rw [Array.size_setIfInBounds] at hk
      rw [get_set d i k x hi]
      by_cases e : k = i
      · subst e
        rw [if_pos rfl, cell_other _ _ _ _ _ (by omega)]
        exact cell_same _ _ _ _ _ (h.c0 k hk)
      · rw [if_neg e, cell_other _ _ _ _ _ (by omega), cell_other _ _ _ _ _ (by omega)]
        exact h.c0 k hk
    c1 := fun k hk => by
      rw [Array.size_setIfInBounds] at hk
      rw [get_set d i k x hi]
      by_cases e : k = i
      · subst e
        rw [if_pos rfl]
        exact cell_same _ _ _ _ _ ((cell_other _ _ _ _ _ (by omega)).trans (h.c1 k hk))
      · rw [if_neg e, cell_other _ _ _ _ _ (by omega), cell_other _ _ _ _ _ (by omega)]
        exact h.c1 k hk
    f0 := fun k hk => by rw [Array.size_setIfInBounds] at hk; rw [World.frozen?_setCell, World.frozen?_setCell]; exact h.f0 k hk
    f1 := fun k hk => by rw [Array.size_setIfInBounds] at hk; rw [World.frozen?_setCell, World.frozen?_setCell]; exact h.f1 k hk }
/-- What the four stores of an exchange meet. -/
theorem RowAt.meet (h : RowAt w0 b d W) (i j : Nat) (hi : i < d.size) (hj : j < d.size) (hne : i ≠ j) (u v : Value) (w : Value) :
    (W.setCell ⟨b, i * 2, none⟩ u).cell? ⟨b, i * 2 + 1, none⟩ = some (.int .i64 d[i]!.2) ∧
    ((W.setCell ⟨b, i * 2, none⟩ u).setCell ⟨b, i * 2 + 1, none⟩ v).cell? ⟨b, j * 2, none⟩ = some (.int .i64 d[j]!.1) ∧
    (((W.setCell ⟨b, i * 2, none⟩ u).setCell ⟨b, i * 2 + 1, none⟩ v).setCell ⟨b, j * 2, none⟩ w).cell? ⟨b, j * 2 + 1, none⟩ = some (.int .i64 d[j]!.2) :=
  ⟨(cell_other _ _ _ _ _ (by omega)).trans (h.c1 i hi),
   (cell_other _ _ _ _ _ (by omega)).trans ((cell_other _ _ _ _ _ (by omega)).trans (h.c0 j hj)),
   (cell_other _ _ _ _ _ (by omega)).trans ((cell_other _ _ _ _ _ (by omega)).trans ((cell_other _ _ _ _ _ (by omega)).trans (h.c1 j hj)))⟩
/-- Two places of the row change their elements. -/
theorem RowAt.swapped (h : RowAt w0 b d W) (i j : Nat) (hi : i < d.size) (hj : j < d.size) (x y : Int × Int) (hx : x = d[i]!) (hy : y = d[j]!) :
    RowAt w0 b (swp d i j) ((((W.setCell ⟨b, i * 2, none⟩ (.int .i64 y.1)).setCell ⟨b, i * 2 + 1, none⟩ (.int .i64 y.2)).setCell ⟨b, j * 2, none⟩ (.int .i64 x.1)).setCell ⟨b, j * 2 + 1, none⟩ (.int .i64 x.2)) := by
  subst hx hy
  exact (h.put i hi _).put j (by rw [Array.size_setIfInBounds]; exact hj) _

theorem cmp_neg (x y : Int × Int) : decide (cmpZ x y < 0) = lessB x y := by
  unfold cmpZ
  cases lessB x y
  · cases lessB y x <;> rfl
  · rfl
set_option maxHeartbeats 4000000 in
theorem insertion_any (w0 W : World) (b a e cap : Nat) (d : Array (Int × Int)) (S : RowAt w0 b d W) (hae : a ≤ e) (hed : e ≤ d.size) (hsz : d.size ≤ 1000) :
    Calls Try.prog 37 #[.slice (some ⟨b, 0, none⟩) d.size cap, .int .i64 a, .int .i64 e, .func (.func 30) #[.func (.func 18) #[] #[]] #[]] W fun r w' => r = .returned (.tuple #[]) ∧ RowAt w0 b (Sort.insertionSort lessB d a e) w' := by
  have hmix := mixed
  have S0 := Lib.hid S; clear S
  go_enter Try.func37, Try.ntmps37
  go_wp2
  go_loopw [8] (fun v wr => ∃ (i : Nat) (dk : Array (Int × Int)), v = .int .i64 i ∧ a < i ∧ i ≤ e + 1 ∧ dk.size = d.size ∧ Hid (RowAt w0 b dk wr) ∧ Hid (insOuter lessB a e i dk = insOuter lessB a e (a + 1) d)) (fun v _ => e + 1 - (intOf v).toNat)
  case atStart => exact ⟨a + 1, d, by go_num, by omega, by omega, rfl, S0, rfl⟩
  case round =>
    clear S0
    obtain ⟨i, dk, rfl, hai, hie, hsk, S1, HO⟩ := hrel
    by_cases hlt : i < e
    · go_wp2
      go_loopw [9] (fun v wr => ∃ (j : Nat) (dj : Array (Int × Int)), v = .int .i64 j ∧ a ≤ j ∧ j ≤ i ∧ dj.size = d.size ∧ Hid (RowAt w0 b dj wr) ∧ Hid (insInner lessB a j dj = insInner lessB a i dk)) (fun v _ => (intOf v).toNat)
      case atStart => exact ⟨i, dk, rfl, by omega, Nat.le_refl _, hsk, S1, rfl⟩
      case round =>
        clear S1
        obtain ⟨j, dj, rfl, haj, hji, hsj, S2, HI⟩ := hrel
        have out : (j ≤ a ∨ lessB dj[j]! dj[j - 1]! = false) → insOuter lessB a e (i + 1) dj = insOuter lessB a e (a + 1) d := fun hs => by
          rw [← HO.out, insOuter_go _ _ _ _ _ hlt, ← HI.out, insInner_stop _ _ _ _ hs]
        have OUT := Lib.hid out
        clear out
        by_cases hja : a < j
        · obtain ⟨p, rfl⟩ : ∃ p, j = p + 1 := ⟨j - 1, by omega⟩
          have hwp : IntKind.i64.wrap (p : Int) = (p : Int) := by rw [IntKind.wrap_i64]; omega
          have z1 : (p : Int) + 1 < (d.size : Int) := by omega
          have z2 : (p : Int) < (d.size : Int) := by omega
          have z3 : (a : Int) < (p : Int) + 1 := by omega
          have z4 : (0 : Int) ≤ (p : Int) + 1 := by omega
          have z5 : ((p : Int) + 1).toNat = p + 1 := by omega
          obtain ⟨x, hx⟩ : ∃ x, x = dj[p + 1]! := ⟨_, rfl⟩
          obtain ⟨y, hy⟩ : ∃ y, y = dj[p]! := ⟨_, rfl⟩
          have l0 := fun n os => (S2.out.grown n os).c0 (p + 1) (by omega)
          have l1 := fun n os => (S2.out.grown n os).c1 (p + 1) (by omega)
          have l2 := fun n os => (S2.out.grown n os).c0 p (by omega)
          have l3 := fun n os => (S2.out.grown n os).c1 p (by omega)
          rw [← hx] at l0 l1
          rw [← hy] at l2 l3
          have hc := compare_grown x y
          have hd := cmp_neg x y
          have HX := Lib.hid hx
          have HY := Lib.hid hy
          clear hx hy
          cases hl : lessB x y with
          | true =>
            rw [hl] at hd
            have HL := Lib.hid hl; clear hl
            have hd' := of_decide_eq_true hd
            go_wp2_with fail
            go_quiet_grown (first | (go_at_call 30; refine Calls.grown_of (hc _ _ _)))
            have S3 := Lib.hid (S2.out.grown nq osq)
            clear l0 l1 l2 l3 hc hd S2
            generalize grow (wr.drewN nq) osq = w2 at S3 ⊢
            clear nq osq
            have l0 := S3.out.c0 (p + 1) (by omega)
            have l1 := S3.out.c1 (p + 1) (by omega)
            have l2 := S3.out.c0 p (by omega)
            have l3 := S3.out.c1 p (by omega)
            have g0 := S3.out.f0 (p + 1) (by omega)
            have g1 := S3.out.f1 (p + 1) (by omega)
            have g2 := S3.out.f0 p (by omega)
            have g3 := S3.out.f1 p (by omega)
            have S4 := Lib.hid ((S3.out.swapped (p + 1) p (by omega) (by omega) x y HX.out HY.out).drew)
            have mt := S3.out.meet (p + 1) p (by omega) (by omega) (by omega) (.int .i64 y.1) (.int .i64 y.2) (.int .i64 x.1)
            rw [← HX.out, ← HY.out] at mt
            obtain ⟨m1, m2, m3⟩ := mt
            rw [← HX.out] at l0 l1
            rw [← HY.out] at l2 l3
            clear S3
            go_wp2_with fail
            go_big_region_o
            clear l0 l1 l2 l3 g0 g1 g2 g3 m1 m2 m3 hd'
            generalize ((((w2.setCell ⟨b, (p + 1) * 2, none⟩ (.int .i64 y.1)).setCell ⟨b, (p + 1) * 2 + 1, none⟩ (.int .i64 y.2)).setCell ⟨b, p * 2, none⟩ (.int .i64 x.1)).setCell ⟨b, p * 2 + 1, none⟩ (.int .i64 x.2)).drew = w3 at S4 ⊢
            go_wp2
            go_roundw
            case rel =>
              refine ⟨p, swp dj (p + 1) p, by go_num, by omega, by omega, by rw [size_swp]; exact hsj, S4, (?_ : _ = _)⟩
              have := insInner_go (lt := lessB) a (p + 1) dj hja (by simp only [Nat.add_sub_cancel]; rw [← HX.out, ← HY.out]; exact HL.out)
              simp only [Nat.add_sub_cancel] at this
              rw [← HI.out, this]
            case measure => simp [intOf]
          | false =>
            rw [hl] at hd
            have HL := Lib.hid hl; clear hl
            have hd' := of_decide_eq_false hd
            go_wp2_with fail
            go_quiet_grown (first | (go_at_call 30; refine Calls.grown_of (hc _ _ _)))
            have S3 := Lib.hid (S2.out.grown nq osq)
            clear l0 l1 l2 l3 hc hd hd' S2
            generalize grow (wr.drewN nq) osq = w2 at S3 ⊢
            clear nq osq
            go_wp2
            go_roundw
            case rel => exact ⟨i + 1, dj, by go_num, by omega, by omega, hsj, S3, OUT.out (Or.inr (by simp only [Nat.add_sub_cancel]; rw [← HX.out, ← HY.out]; exact HL.out))⟩
            case measure => simp [intOf]; omega
        · have z1 : decide ((j : Int) > (a : Int)) = false := decide_eq_false (by omega)
          have z2 : ¬ (a : Int) < (j : Int) := by omega
          have S3 := Lib.hid S2.out.drew
          clear S2
          go_wp2_with fail
          go_big_region_o
          generalize wr.drew = w2 at S3 ⊢
          go_wp2
          go_roundw
          case rel => exact ⟨i + 1, dj, by go_num, by omega, by omega, hsj, S3, OUT.out (Or.inl (by omega))⟩
          case measure => simp [intOf]; omega
    · go_wp2
      go_end0
      refine ⟨rfl, ?_⟩
      unfold Sort.insertionSort
      rw [← HO.out, insOuter_stop _ _ _ _ _ hlt]
      exact S1.out
end Go.Proofs.Ytcgnodkbmpkhkaa
