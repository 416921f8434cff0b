/- Rows of numbers, as the walks meet them. -/
import Derived.Test.YtegbldkkggpjcaaGreatDoorNumGet
import Derived.Shelf.SlSortCmp.QuietGrown
import Derived.Deep.QuietTactic
import Derived.BigQuiet
import Derived.Deep.RegionHeld3
import Derived.Deep.DrawnRows
namespace Go.Proofs.YtegbldkkggpjcaaGreatDoor
open Go.RowKit Go.Sort

theorem mixed : Tryz.prog.follows .mixedOrders = true := by kernel_rfl
/-- W is w with draws and new blocks behind it. -/
def Grew (w W : World) : Prop := ∃ q os, W = grow (w.drewN q) os
theorem Grew.refl (w : World) : Grew w w := ⟨0, #[], by rw [grow_empty]; rfl⟩
theorem Grew.trans {a b c : World} (h : Grew a b) (k : Grew b c) : Grew a c := by
  obtain ⟨q, os, rfl⟩ := h
  obtain ⟨q', os', rfl⟩ := k
  exact ⟨q + q', os ++ os', by show grow (grow ((a.drewN q).drewN q') os) os' = _; rw [grow_grow, World.drewN_drewN]⟩
theorem Grew.alloc {a b : World} (h : Grew a b) (o : Obj) : Grew a (b.alloc o) := h.trans ⟨0, #[o], by rw [alloc_eq_grow]; rfl⟩
theorem Grew.draws {a b : World} (h : Grew a b) (n : Nat) (os : Array Obj) : Grew a (grow (b.drewN n) os) := h.trans ⟨n, os, rfl⟩
theorem Grew.below {w W : World} (h : Grew w W) : Below w.heap.size w W := by
  obtain ⟨q, os, rfl⟩ := h
  exact ⟨rfl, rfl, rfl, by simp, fun k hk => heap_grow_old (w.drewN q) os hk⟩

theorem Grew.drew {w W : World} (h : Grew w W) : Grew w W.drew := h.trans ⟨1, #[], by rw [grow_empty]; rfl⟩
theorem infoInt : (Tryz.prog.info? 3).map (fun i => (i.zero, i.size, i.bytes)) = some (some (.int .i64 0), 1, 8) := by kernel_rfl

/-! ### Rows of numbers -/
def ReadsI (w : World) (sa : Option Addr) (len : Nat) (zs : List Int) : Prop :=
  len = zs.length ∧ (0 < len → ∃ b off, sa = some ⟨b, off, none⟩ ∧ ∀ i, i < len → w.cell? ⟨b, off + i, none⟩ = some (.int .i64 (zs.getD i 0)))
theorem ReadsI.later {w w' : World} {sa : Option Addr} {len : Nat} {zs : List Int} (h : ReadsI w sa len zs) (k : Below w.heap.size w w') : ReadsI w' sa len zs :=
  ⟨h.1, fun h0 => by
    obtain ⟨b, off, e, g⟩ := h.2 h0
    exact ⟨b, off, e, fun i hi => (k.cell (p := ⟨b, off + i, none⟩) (World.block_lt_of_cell? _ _ (g i hi))).trans (g i hi)⟩⟩
theorem ReadsI.take {w : World} {sa : Option Addr} {n : Nat} {l : List Int} (h : ReadsI w sa n l) (k : Nat) (hk : k ≤ n) : ReadsI w sa k (l.take k) := by
  refine ⟨by rw [List.length_take, ← h.1]; omega, fun h0 => ?_⟩
  obtain ⟨b, off, e, g⟩ := h.2 (by omega)
  refine ⟨b, off, e, fun i hi => ?_⟩
  have e2 : (l.take k).getD i 0 = l.getD i 0 := by simp [List.getD, hi]
  rw [e2]; exact g i (by omega)
theorem ReadsI.drop {w : World} {g0 : Nat} {n : Nat} {l : List Int} (h : ReadsI w (some ⟨g0, 0, none⟩) n l) (k : Nat) (hk : k ≤ n) : ReadsI w (some ⟨g0, k, none⟩) (n - k) (l.drop k) := by
  refine ⟨by rw [List.length_drop, ← h.1], fun h0 => ?_⟩
  obtain ⟨b, off, e, g⟩ := h.2 (by omega)
  simp only [Option.some.injEq, Addr.mk.injEq, and_true] at e
  obtain ⟨rfl, rfl⟩ := e
  refine ⟨_, _, rfl, fun i hi => ?_⟩
  have e2 : (l.drop k).getD i 0 = l.getD (k + i) 0 := by simp [List.getD]
  have := g (k + i) (by omega)
  rw [e2, show k + i = 0 + (k + i) by omega]
  rw [show (0 + (k + i)) = k + i by omega] at this ⊢
  exact this
theorem readsI_zero {w : World} {sa : Option Addr} {l : List Int} (h : l = []) : ReadsI w sa 0 l := ⟨by rw [h]; rfl, fun h => absurd h (by decide)⟩
/-- v is a slice of the call's own, from block base on, that holds the numbers l. -/
def OwnI (w : World) (base : Nat) (v : Value) (l : List Int) : Prop := w.ownsRow base 3 1 v l.length (l.map (Value.int .i64))
theorem OwnI.later {w w' : World} {base : Nat} {v : Value} {l : List Int} (h : OwnI w base v l) (hb : RowKit.Below w.heap.size w w') : OwnI w' base v l := by
  have h0 := h
  refine ⟨h.1, ?_⟩
  rcases h.2 with q | ⟨g, cap, cur, rfl, hg, hc, r⟩
  · exact Or.inl q
  · exact Or.inr ⟨g, cap, cur, rfl, hg, (hb.block g (World.ownsRow.lt h0 g rfl).2).trans hc, r⟩
theorem OwnI.lower {w : World} {base base' : Nat} {v : Value} {l : List Int} (h : OwnI w base v l) (hb : base' ≤ base) : OwnI w base' v l := by
  refine ⟨h.1, ?_⟩
  rcases h.2 with q | ⟨g, cap, cur, e, hg, r⟩
  · exact Or.inl q
  · exact Or.inr ⟨g, cap, cur, e, Nat.le_trans hb hg, r⟩
theorem OwnI.form {w : World} {base : Nat} {v : Value} {l : List Int} (h : OwnI w base v l) : (v = .slice none 0 0 ∧ l = []) ∨ ∃ g cap, v = .slice (some ⟨g, 0, none⟩) l.length cap ∧ l.length ≤ cap ∧ base ≤ g ∧ g < w.heap.size ∧ ∀ i, i < l.length → w.cell? ⟨g, i, none⟩ = some (.int .i64 (l.getD i 0)) := by
  have h0 := h
  rcases h.2 with ⟨e, h1⟩ | ⟨g, cap, cur, rfl, hg, _, hc, _⟩
  · exact .inl ⟨e, List.length_eq_zero_iff.1 h1⟩
  · refine .inr ⟨g, cap, rfl, by omega, hg, (World.ownsRow.lt h0 g rfl).2, fun i hi => ?_⟩
    rw [World.ownsRow.cellAt h0 _ (by omega)]; simp [List.getD, hi]
theorem OwnI.reads {w : World} {base : Nat} {v : Value} {l : List Int} (h : OwnI w base v l) : ∃ sa cap, v = .slice sa l.length cap ∧ l.length ≤ cap ∧ (0 < l.length → ∃ g, sa = some ⟨g, 0, none⟩) ∧ ReadsI w sa l.length l := by
  rcases h.form with ⟨rfl, rfl⟩ | ⟨g, cap, rfl, h1, _, _, hc⟩
  · exact ⟨none, 0, rfl, Nat.le_refl _, fun h => absurd h (by decide), rfl, fun h => absurd h (by decide)⟩
  · refine ⟨_, cap, rfl, h1, fun _ => ⟨g, rfl⟩, rfl, fun _ => ⟨g, 0, rfl, fun i hi => ?_⟩⟩
    rw [Nat.zero_add]; exact hc i hi
theorem numsI_one (l : List Int) (u : Value) (h : u ∈ l.map (Value.int .i64)) : u.oneCell' = true := by
  obtain ⟨x, _, rfl⟩ := List.mem_map.1 h; rfl
theorem ReadsI.cells {w : World} {b off len : Nat} {zs : List Int} (h : ReadsI w (some ⟨b, off, none⟩) len zs) (j : Nat) (u : Value) (hj : (zs.map (Value.int .i64))[j]? = some u) : w.cell? ⟨b, off + j, none⟩ = some u := by
  have hl := (List.getElem?_eq_some_iff.1 hj).1
  rw [List.length_map] at hl
  have e := h.1
  obtain ⟨b', off', e1, g⟩ := h.2 (by omega)
  simp only [Option.some.injEq, Addr.mk.injEq] at e1
  obtain ⟨rfl, rfl, _⟩ := e1
  rw [g j (by omega)]
  simp [hl] at hj
  rw [← hj]; simp [List.getD, hl]
theorem run_append_own_int (w : World) (t ty : TypeId) (ht : Tryz.prog.underlying t = some (.slice 3)) (base : Nat) (v : Value) (l1 : List Int) (hown : OwnI w base v l1) (sa : Option Addr) (m c : Nat) (l2 : List Int) (hr : ReadsI w sa m l2)
    (hm : l1.length + m ≤ 10000) (hbase : base ≤ w.heap.size) :
    ∃ v' w', (Builtin.append_ #[t, t] ty #[v, .slice sa m c]).run Tryz.prog w = .ok v' w' ∧ OwnI w' base v' (l1 ++ l2) ∧ w.grownBy w' v.ownBlock ∧ RowKit.Below base w w' := by
  obtain ⟨i0, hi, hz0, hz1, hz2⟩ := info_parts infoInt
  have hml := hr.1
  have hlo := World.ownsRow.lt hown
  cases sa with
  | none =>
    have m0 : m = 0 := by
      rcases Nat.eq_zero_or_pos m with h | h
      · exact h
      · obtain ⟨b, off, e, _⟩ := hr.2 h; cases e
    subst m0
    obtain rfl : l2 = [] := List.length_eq_zero_iff.1 hml.symm
    refine ⟨v, w, ?_, by simpa using hown, World.grownBy.refl w _, Below.refl _ _⟩
    rcases hown.2 with ⟨rfl, _⟩ | ⟨g, cap, cur, rfl, _, _, hnc, _⟩
    · simp [Builtin.append_, run_underlying ht, sizeOf, typeInfo, hi, Builtin.lenOf, Builtin.firstCells]
    · simp [Builtin.append_, run_underlying ht, sizeOf, typeInfo, hi, Builtin.lenOf, Builtin.firstCells, hnc, storeCells]
  | some ad =>
    have hcells : ∀ (j : Nat) (u : Value), (l2.map (Value.int .i64))[j]? = some u → w.cell? (ad.add j) = some u := by
      intro j u hj
      have hlen := (List.getElem?_eq_some_iff.1 hj).1
      rw [List.length_map] at hlen
      obtain ⟨b, off, e, _⟩ := hr.2 (by omega)
      obtain rfl := Option.some.inj e
      have := hr.cells j u hj
      rw [show (⟨b, off, none⟩ : Addr).add j = ⟨b, off + j, none⟩ by unfold Addr.add; split <;> simp_all]
      exact this
    obtain ⟨v', w', hrun, r1, r2, _⟩ := run_append_own (P := Tryz.prog) w base t ty 3 i0 (.int .i64 0) 1 8 ht hi hz0 hz1 hz2 rfl (by decide) v l1.length (l1.map (Value.int .i64)) hown ad m c (l2.map (Value.int .i64)) (by rw [List.length_map, hml]; omega) hcells (numsI_one l2) (by unfold maxLen; omega) (by omega) hbase
    refine ⟨v', w', hrun, ?_, r2, (Below.refl base w).grown r2 hbase (fun k hk => (hlo k hk).1)⟩
    unfold OwnI
    rw [List.length_append, List.map_append, ← hml]
    exact r1
theorem step_append_int {ops : Array Oper} {o : Oper} {a : Act} {w : World} {K : Act → World → Prop} {Q : Exit → Act → World → Prop} {E : Prop}
    (hw : Region.wanted o (yielded ops a.tmps) = true) (s x : Operand) (ho : o.op = Op.call { callee := Callee.builtin Builtin.append, args := #[s, x], argTypes := #[31, 31] })
    (base : Nat) (v : Value) (l1 : List Int) (hs : a.eval s = v) (hown : OwnI w base v l1) (sa : Option Addr) (m c : Nat) (l2 : List Int) (hx : a.eval x = .slice sa m c) (hr : ReadsI w sa m l2)
    (hm : l1.length + m ≤ 10000) (hbase : base ≤ w.heap.size)
    (hK : ∀ v' w', OwnI w' base v' (l1 ++ l2) → w.grownBy w' v.ownBlock → RowKit.Below base w w' → K (a.put o.dst v') w') :
    if Region.wanted o (yielded ops a.tmps) = true then Oper.wp Tryz.prog o a w K Q else E := by
  rw [if_pos hw]
  obtain ⟨v', w', hrun, h1, h2, h3⟩ := run_append_own_int w 31 o.type Tryz.underlying31 base v l1 hown sa m c l2 hr hm hbase
  unfold Oper.wp
  simp [execOp, ho, resolve, invoke, builtin, hs, hx, hrun, Result.andThen]
  exact hK v' w' h1 h2 h3
theorem one_int (w : World) (x : Int) : ReadsI (w.alloc (.cells #[.int .i64 x] 3)) (some ⟨w.heap.size, 0, none⟩) 1 [x] :=
  ⟨rfl, fun _ => ⟨_, 0, rfl, fun i hi => by
    obtain rfl : i = 0 := by omega
    rw [World.cell?_alloc_at _ _ _ _ rfl]; rfl⟩⟩
theorem ReadsI.far {W w1 : World} {row : Option Nat} {B n : Nat} {l : List Int} (h : ReadsI W (some ⟨B, 0, none⟩) n l) (hg : W.grownBy w1 row) (hne : some B ≠ row) : ReadsI w1 (some ⟨B, 0, none⟩) n l :=
  ⟨h.1, fun h0 => by
    obtain ⟨b, off, e, g⟩ := h.2 h0
    simp only [Option.some.injEq, Addr.mk.injEq, and_true] at e
    obtain ⟨rfl, rfl⟩ := e
    exact ⟨B, 0, rfl, fun i hi => (World.cell?_of_block (hg.block B (World.block_lt_of_cell? _ _ (g i hi)) hne)).trans (g i hi)⟩⟩
theorem ownI_nil (w : World) (base : Nat) : OwnI w base (.slice none 0 0) [] := World.ownsRow_nil _ _ _ _
theorem ownI_made (w : World) (base : Nat) (hb : base ≤ w.heap.size) : OwnI (w.alloc (.cells #[] 3)) base (.slice (some ⟨w.heap.size, 0, none⟩) 0 0) [] := World.ownsRow_made w #[] 0 hb (Nat.zero_le _) rfl
theorem OwnI.drew {w : World} {base : Nat} {v : Value} {l : List Int} (h : OwnI w base v l) : OwnI w.drew base v l := h.later (Below.refl _ _).drew
theorem OwnI.alloc {w : World} {base : Nat} {v : Value} {l : List Int} (h : OwnI w base v l) (o : Obj) : OwnI (w.alloc o) base v l := h.later ((Below.refl _ _).alloc (Nat.le_refl _) _)
end Go.Proofs.YtegbldkkggpjcaaGreatDoor
