/- The program's own join; its comparison; slices.SortFunc at its ranges; Add. -/
import Derived.Test.YtdihbkhhhonlpaaRngPg
import Derived.Test.YtdihbkhhhonlpaaRngOf
import Derived.Test.YtdihbkhhhonlpaaShelf
namespace Go.Proofs.Ytdihbkhhhonlpaa
open Go.RowKit Go.Sort Go.Shelf

attribute [local go_sem ↓] Go.wp_at_zero Go.wp_at_succ

/-! ### The comparison -/
theorem isNaN_any (x : Int) (w : World) : Calls Try.prog 45 #[.int .i64 x] w fun e w' => e = .returned (.bool false) ∧ w = w' := by
  go_enter Try.func45, Try.ntmps45
  go_wp2
  go_ret
  exact ⟨ret_bool (by simp), rfl⟩
theorem compare_any (x y : Int) (w : World) : Calls Try.prog 38 #[.int .i64 x, .int .i64 y] w fun e w' => e = .returned (.int .i64 (Lib.compareInt x y)) ∧ w = w' := by
  have e := Lib.hid (show Lib.compareInt x y = if x < y then -1 else if x > y then 1 else 0 from rfl)
  by_cases q1 : x < y
  · have d1 : decide (x < y) = true := decide_eq_true q1
    have HE := Lib.hid (show Lib.compareInt x y = -1 by rw [e.out, if_pos q1])
    clear q1 e
    go_enter Try.func38, Try.ntmps38
    go_wp2_with (go_at_call 45; refine (isNaN_any _ _).mono ?_; rintro e w1 ⟨rfl, rfl⟩)
    go_ret
    exact ⟨ret_int HE.out.symm, rfl⟩
  · have d1 : decide (x < y) = false := decide_eq_false q1
    by_cases q2 : y < x
    · have d2 : decide (y < x) = true := decide_eq_true q2
      have HE := Lib.hid (show Lib.compareInt x y = 1 by rw [e.out, if_neg q1, if_pos q2])
      clear q1 q2 e
      go_enter Try.func38, Try.ntmps38
      go_wp2_with (go_at_call 45; refine (isNaN_any _ _).mono ?_; rintro e w1 ⟨rfl, rfl⟩)
      go_ret
      exact ⟨ret_int HE.out.symm, rfl⟩
    · have d2 : decide (y < x) = false := decide_eq_false q2
      have HE := Lib.hid (show Lib.compareInt x y = 0 by rw [e.out, if_neg q1, if_neg q2])
      clear q1 q2 e
      go_enter Try.func38, Try.ntmps38
      go_wp2_with (go_at_call 45; refine (isNaN_any _ _).mono ?_; rintro e w1 ⟨rfl, rfl⟩)
      go_ret
      exact ⟨ret_int HE.out.symm, rfl⟩
theorem lit_any (x y : Int × Int) (w : World) : Calls Try.prog 37 #[.agg #[.int .i64 x.1, .int .i64 x.2], .agg #[.int .i64 y.1, .int .i64 y.2]] w fun e w' => e = .returned (.int .i64 (Lib.compareInt x.1 y.1)) ∧ Grew w w' := by
  have hcon := fun W' => compare_any x.1 y.1 W'
  generalize Lib.compareInt x.1 y.1 = r at hcon ⊢
  go_enter Try.func37, Try.ntmps37
  go_wp2_with (go_at_call 38; refine (hcon _).mono ?_; rintro e w' ⟨rfl, rfl⟩)
  go_ret
  exact ⟨rfl, ((Grew.refl w).alloc _).alloc _⟩
theorem ltLo (x y : Int × Int) : ltOf (fun x y : Int × Int => Lib.compareInt x.1 y.1) x y = decide (x.1 < y.1) := by
  unfold ltOf Lib.compareInt
  by_cases h1 : x.1 < y.1
  · simp [h1]
  · by_cases h2 : y.1 < x.1 <;> simp [h1, h2]
theorem swoLo : SWO (ltOf fun x y : Int × Int => Lib.compareInt x.1 y.1) := {
  irrefl := fun x => by rw [ltLo]; simp
  trans := fun x y z h1 h2 => by rw [ltLo] at *; simp at *; omega
  ntrans := fun x y z h1 h2 => by rw [ltLo] at *; simp at *; omega }

/-! ### slices.SortFunc -/
theorem grownBy_sortedK {w : World} {g n : Nat} {os : Array Obj} (d : Array (Int × Int)) : w.grownBy (sortWorldK attV 2 w g 0 n d os) (some g) := by
  refine ⟨rfl, rfl, rfl, by simp [sortWorldK, putRowK, Sort.ahead], fun k hk hne => ?_⟩
  unfold sortWorldK
  rw [heap_grow_old _ _ (by simpa [putRowK, Sort.ahead] using hk)]
  have : g ≠ k := fun e => hne (by rw [e])
  simp [putRowK, putRow, mapBlock, Sort.ahead, Array.getElem?_modify, this]
theorem OwnA.holds {w : World} {base g n cap : Nat} {l : List (Int × Int)} (h : OwnA w base (.slice (some ⟨g, 0, none⟩) n cap) l) : HoldsK attV 2 w g 0 l.toArray ∧ g < w.heap.size ∧ base ≤ g ∧ n = l.length := by
  have h0 := h
  rcases h.form with ⟨e, _⟩ | ⟨g', cap', e, _, hg, hlt, hc⟩
  · cases e
  · simp only [Value.slice.injEq, Option.some.injEq, Addr.mk.injEq, and_true] at e
    obtain ⟨rfl, rfl, rfl⟩ := e
    refine ⟨fun t ht => ⟨?_, World.ownsRow.frozenAt h0 _⟩, hlt, hg, rfl⟩
    have ht' : t < l.toArray.size * 2 := by simpa using ht
    rw [get_flatK _ _ _ t ht']
    have hl : t / 2 < l.length := by simp at ht'; omega
    obtain ⟨c0, c1⟩ := hc (t / 2) hl
    have ea : l.toArray[t / 2]! = l.getD (t / 2) (0, 0) := by simp [List.getD, hl]
    rw [ea]
    by_cases q : t % 2 = 0
    · rw [q, show (⟨g, 0 + t, none⟩ : Addr) = ⟨g, t / 2 * 2, none⟩ from congrArg (fun j => (⟨g, j, none⟩ : Addr)) (by omega), c0]
      rfl
    · rw [show t % 2 = 1 by omega, show (⟨g, 0 + t, none⟩ : Addr) = ⟨g, t / 2 * 2 + 1, none⟩ from congrArg (fun j => (⟨g, j, none⟩ : Addr)) (by omega), c1]
      rfl
theorem sort_any (base : Nat) (sa : Option Addr) (n cap : Nat) (l : List (Int × Int)) (w : World) (hm : n ≤ 10000) (h : OwnA w base (.slice sa n cap) l) :
    Calls Try.prog 36 #[.slice sa n cap, .func (.func 37) #[] #[]] w fun e w' => e = .returned (.tuple #[]) ∧ ∃ l', l'.Perm l ∧ l'.Pairwise (fun a b => a.1 ≤ b.1) ∧ ReadsA w' sa n l' ∧ RowKit.Below base w w' := by
  have eg : ∀ args w, (callFunc 37 args).run Try.prog w = .ok (.enter 37 args) w := enters_of Try.func37 (by kernel_rfl) rfl
  rcases h.form with ⟨e, rfl⟩ | ⟨g, cap', e, _⟩
  · simp only [Value.slice.injEq] at e
    obtain ⟨rfl, rfl, rfl⟩ := e
    have hcon := AnyF.slices_SortFunc_none Try.sortRng none 0 (.func (.func 37) #[] #[]) w
    change Calls Try.prog 36 _ _ _ at hcon
    refine hcon.mono ?_
    rintro e w' ⟨rfl, rfl⟩
    exact ⟨rfl, [], List.Perm.refl _, List.Pairwise.nil, reads_zero rfl, Below.refl _ _⟩
  · simp only [Value.slice.injEq] at e
    obtain ⟨rfl, rfl, rfl⟩ := e
    obtain ⟨hH, hlt, hg, hn⟩ := h.holds
    have hcon := AnyQ.slices_SortFunc Try.sortRng 2 Try.isAgg33 Try.sizeOf33 attV (fun _ => rfl) (fun x v hv => by simp [attV] at hv; rcases hv with rfl | rfl <;> rfl) (fun x y => Lib.compareInt x.1 y.1) swoLo 37 #[] g 0 cap l.toArray w eg (fun _ _ _ _ x y => lit_any x y _) hH hlt (by simp; omega)
    change Calls Try.prog 36 _ _ _ at hcon
    rw [List.size_toArray] at hcon
    refine hcon.mono ?_
    rintro e w' ⟨rfl, d', k, os, hp, hs, rfl⟩
    obtain ⟨hsz, _, hperm⟩ := hp
    simp only [List.size_toArray] at hsz
    have hx : d'.toList.Perm l := by
      have e1 : d'.extract 0 l.length = d' := by rw [← hsz]; simp
      have e2 : l.toArray.extract 0 l.length = l.toArray := by simp
      rw [e1, e2] at hperm
      simpa using hperm
    have hH2 : HoldsK attV 2 (sortWorldK attV 2 w g 0 k d' os) g 0 d' := holdsK_sortWorldK attV 2 w g 0 k l.toArray d' os hlt hH (by simpa using hsz)
    refine ⟨rfl, d'.toList, hx, ?_, ⟨by simp [hsz], fun h0 => ⟨g, 0, rfl, fun i hi => ?_⟩⟩, (Below.refl base w).grown (grownBy_sortedK d') (Nat.le_trans hg (Nat.le_of_lt hlt)) (fun j e => by cases e; exact hg)⟩
    · rw [List.pairwise_iff_getElem]
      intro i j hi hj hij
      have := hs i j (Nat.zero_le _) hij (by simpa [hsz] using hj)
      rw [ltLo] at this
      simp at hi hj
      simp [hi, hj] at this ⊢
      omega
    · have g0 := (hH2 (i * 2) (by simp; omega)).1
      have g1 := (hH2 (i * 2 + 1) (by simp; omega)).1
      rw [get_flatK _ _ _ _ (by omega)] at g0 g1
      have hi' : i < d'.size := by omega
      have ea : d'[i]! = d'.toList.getD i (0, 0) := by simp [List.getD, hi']
      rw [show i * 2 / 2 = i by omega, show i * 2 % 2 = 0 by omega, ea] at g0
      rw [show (i * 2 + 1) / 2 = i by omega, show (i * 2 + 1) % 2 = 1 by omega, ea] at g1
      exact ⟨g0, by rw [Nat.add_assoc]; exact g1⟩
end Go.Proofs.Ytdihbkhhhonlpaa
