/- Rows of ranges, and rows of numbers, as the walks meet them: what a slice reads as; a slice of the call's own; an append to it. -/
import Derived.Test.YtdihbkhhhonlpaaRngFacts
import Derived.Test.YtdihbkhhhonlpaaRows
import Derived.WalkKit
import Derived.WalkSpells
import Derived.Lib.Hide
import Derived.Outline
import Derived.OwnWalk
import Derived.Shelf.SlSortCmp.QuietGrown
import Derived.Deep.QuietTactic
import Derived.BigQuiet
import Derived.Deep.RegionHeld3
import Derived.Deep.DrawnRows
import Derived.Deep.LoopGhost
import Derived.Deep.DeepCutAuto
import Derived.Deep.CutBlock
namespace Go.Proofs.Ytdihbkhhhonlpaa
open Go.RowKit Go.Sort

theorem ret_int {k : IntKind} {a b : Int} (h : a = b) : Ending.returned (.int k a) = .returned (.int k b) := by rw [h]
theorem ret_bool {a b : Bool} (h : a = b) : Ending.returned (.bool a) = .returned (.bool b) := by rw [h]
theorem mixed : Try.prog.follows .mixedOrders = true := by kernel_rfl
/-- W is w with draws and new blocks behind it. -/
def Grew (w W : World) : Prop := ∃ q os, W = grow (w.drewN q) os
theorem Grew.refl (w : World) : Grew w w := ⟨0, #[], by rw [grow_empty]; rfl⟩
theorem Grew.trans {a b c : World} (h : Grew a b) (k : Grew b c) : Grew a c := by
  obtain ⟨q, os, rfl⟩ := h
  obtain ⟨q', os', rfl⟩ := k
  exact ⟨q + q', os ++ os', by show grow (grow ((a.drewN q).drewN q') os) os' = _; rw [grow_grow, World.drewN_drewN]⟩
theorem Grew.alloc {a b : World} (h : Grew a b) (o : Obj) : Grew a (b.alloc o) := h.trans ⟨0, #[o], by rw [alloc_eq_grow]; rfl⟩
theorem Grew.draws {a b : World} (h : Grew a b) (n : Nat) (os : Array Obj) : Grew a (grow (b.drewN n) os) := h.trans ⟨n, os, rfl⟩
theorem Grew.below {w W : World} (h : Grew w W) : Below w.heap.size w W := by
  obtain ⟨q, os, rfl⟩ := h
  exact ⟨rfl, rfl, rfl, by simp, fun k hk => heap_grow_old (w.drewN q) os hk⟩

theorem Grew.drew {w W : World} (h : Grew w W) : Grew w W.drew := h.trans ⟨1, #[], by rw [grow_empty]; rfl⟩
def attV (x : Int × Int) : List Value := [.int .i64 x.1, .int .i64 x.2]
def flat (zs : List (Int × Int)) : List Value := zs.flatMap attV
theorem flat_len (zs : List (Int × Int)) : (flat zs).length = zs.length * 2 := by
  induction zs with
  | nil => rfl
  | cons z r ih => simp [flat, attV] at *; omega
theorem flat_at (zs : List (Int × Int)) : ∀ (i : Nat), i < zs.length → (flat zs)[i * 2]? = some (.int .i64 (zs.getD i (0, 0)).1) ∧ (flat zs)[i * 2 + 1]? = some (.int .i64 (zs.getD i (0, 0)).2) := by
  induction zs with
  | nil => intro i h; simp at h
  | cons z r ih =>
    intro i h
    match i, h with
    | 0, _ => simp [flat, attV]
    | i + 1, h =>
      have := ih i (by simpa using h)
      rw [show flat (z :: r) = .int .i64 z.1 :: .int .i64 z.2 :: flat r from rfl, show (i + 1) * 2 = i * 2 + 1 + 1 by omega]
      simpa using this

/-- A slice reads as zs. -/
def ReadsA (w : World) (sa : Option Addr) (len : Nat) (zs : List (Int × Int)) : Prop :=
  len = zs.length ∧ (0 < len → ∃ b off, sa = some ⟨b, off, none⟩ ∧ ∀ i, i < len → w.cell? ⟨b, off + i * 2, none⟩ = some (.int .i64 (zs.getD i (0, 0)).1) ∧ w.cell? ⟨b, off + i * 2 + 1, none⟩ = some (.int .i64 (zs.getD i (0, 0)).2))
theorem ReadsA.later {w w' : World} {sa : Option Addr} {len : Nat} {zs : List (Int × Int)} (h : ReadsA w sa len zs) (k : Below w.heap.size w w') : ReadsA w' sa len zs :=
  ⟨h.1, fun h0 => by
    obtain ⟨b, off, e, g⟩ := h.2 h0
    exact ⟨b, off, e, fun i hi => ⟨(k.cell (p := ⟨b, off + i * 2, none⟩) (World.block_lt_of_cell? _ _ (g i hi).1)).trans (g i hi).1, (k.cell (p := ⟨b, off + i * 2 + 1, none⟩) (World.block_lt_of_cell? _ _ (g i hi).2)).trans (g i hi).2⟩⟩⟩
theorem infoAtt : (Try.prog.info? 33).map (fun i => (i.zero, i.size, i.bytes)) = some (some (.agg #[.int .i64 0, .int .i64 0]), 2, 16) := by kernel_rfl
theorem infoInt : (Try.prog.info? 3).map (fun i => (i.zero, i.size, i.bytes)) = some (some (.int .i64 0), 1, 8) := by kernel_rfl
theorem flat_cells {w : World} {b off len : Nat} {zs : List (Int × Int)} (h : ReadsA w (some ⟨b, off, none⟩) len zs) (j : Nat) (u : Value) (hj : (flat zs)[j]? = some u) : w.cell? ⟨b, off + j, none⟩ = some u := by
  have hl := (List.getElem?_eq_some_iff.1 hj).1
  rw [flat_len] at hl
  have e := h.1
  obtain ⟨b', off', e1, g⟩ := h.2 (by omega)
  simp only [Option.some.injEq, Addr.mk.injEq] at e1
  obtain ⟨rfl, rfl, _⟩ := e1
  have f := flat_at zs (j / 2) (by omega)
  have c := g (j / 2) (by omega)
  by_cases q : j % 2 = 0
  · rw [show j / 2 * 2 = j by omega] at f c
    rw [f.1] at hj
    rw [c.1, hj]
  · have e2 : j / 2 * 2 + 1 = j := by omega
    have e3 : off + j / 2 * 2 + 1 = off + j := by omega
    rw [e2, hj] at f
    rw [e3] at c
    rw [c.2, f.2]
theorem flat_one (zs : List (Int × Int)) (u : Value) (h : u ∈ flat zs) : u.oneCell' = true := by
  simp only [flat, attV, List.mem_flatMap] at h
  obtain ⟨z, _, h⟩ := h
  simp at h
  rcases h with rfl | rfl <;> rfl
/-- v is a slice of the call's own, from block base on, that holds the commands l. -/
def OwnA (w : World) (base : Nat) (v : Value) (l : List (Int × Int)) : Prop := w.ownsRow base 33 2 v l.length (flat l)
theorem OwnA.later {w w' : World} {base : Nat} {v : Value} {l : List (Int × Int)} (h : OwnA w base v l) (hb : RowKit.Below w.heap.size w w') : OwnA w' base v l := by
  have h0 := h
  refine ⟨h.1, ?_⟩
  rcases h.2 with q | ⟨g, cap, cur, rfl, hg, hc, r⟩
  · exact Or.inl q
  · exact Or.inr ⟨g, cap, cur, rfl, hg, (hb.block g (World.ownsRow.lt h0 g rfl).2).trans hc, r⟩
theorem OwnA.lower {w : World} {base base' : Nat} {v : Value} {l : List (Int × Int)} (h : OwnA w base v l) (hb : base' ≤ base) : OwnA w base' v l := by
  refine ⟨h.1, ?_⟩
  rcases h.2 with q | ⟨g, cap, cur, e, hg, r⟩
  · exact Or.inl q
  · exact Or.inr ⟨g, cap, cur, e, Nat.le_trans hb hg, r⟩
/-- What such a slice looks like. -/
theorem OwnA.form {w : World} {base : Nat} {v : Value} {l : List (Int × Int)} (h : OwnA w base v l) : (v = .slice none 0 0 ∧ l = []) ∨ ∃ g cap, v = .slice (some ⟨g, 0, none⟩) l.length cap ∧ l.length ≤ cap ∧ base ≤ g ∧ g < w.heap.size ∧ ∀ i, i < l.length → w.cell? ⟨g, i * 2, none⟩ = some (.int .i64 (l.getD i (0, 0)).1) ∧ w.cell? ⟨g, i * 2 + 1, none⟩ = some (.int .i64 (l.getD i (0, 0)).2) := by
  have h0 := h
  rcases h.2 with ⟨e, h1⟩ | ⟨g, cap, cur, rfl, hg, _, hc, _⟩
  · exact .inl ⟨e, List.length_eq_zero_iff.1 h1⟩
  · refine .inr ⟨g, cap, rfl, hc, hg, (World.ownsRow.lt h0 g rfl).2, fun i hi => ⟨?_, ?_⟩⟩
    · rw [World.ownsRow.cellAt h0 _ (by omega), (flat_at l i hi).1]
    · rw [World.ownsRow.cellAt h0 _ (by omega), (flat_at l i hi).2]
theorem OwnA.reads {w : World} {base : Nat} {v : Value} {l : List (Int × Int)} (h : OwnA w base v l) : ∃ sa cap, v = .slice sa l.length cap ∧ ReadsA w sa l.length l := by
  rcases h.form with ⟨rfl, rfl⟩ | ⟨g, cap, rfl, _, _, _, hc⟩
  · exact ⟨none, 0, rfl, rfl, fun h => absurd h (by decide)⟩
  · refine ⟨_, cap, rfl, rfl, fun _ => ⟨g, 0, rfl, fun i hi => ?_⟩⟩
    rw [Nat.zero_add]; exact hc i hi
theorem flat_app (a b : List (Int × Int)) : flat (a ++ b) = flat a ++ flat b := by simp [flat]

/-- An append of commands to a slice of the call's own. -/
theorem run_append_own_att (w : World) (t ty : TypeId) (ht : Try.prog.underlying t = some (.slice 33)) (base : Nat) (v : Value) (l1 : List (Int × Int)) (hown : OwnA w base v l1) (sa : Option Addr) (m c : Nat) (l2 : List (Int × Int)) (hr : ReadsA w sa m l2)
    (hm : l1.length + m ≤ 10000) (hbase : base ≤ w.heap.size) :
    ∃ v' w', (Builtin.append_ #[t, t] ty #[v, .slice sa m c]).run Try.prog w = .ok v' w' ∧ OwnA w' base v' (l1 ++ l2) ∧ w.grownBy w' v.ownBlock ∧ RowKit.Below base w w' := by
  obtain ⟨i0, hi, hz0, hz1, hz2⟩ := info_parts infoAtt
  have hml := hr.1
  have hlo := World.ownsRow.lt hown
  cases sa with
  | none =>
    have m0 : m = 0 := by
      rcases Nat.eq_zero_or_pos m with h | h
      · exact h
      · obtain ⟨b, off, e, _⟩ := hr.2 h; cases e
    subst m0
    obtain rfl : l2 = [] := List.length_eq_zero_iff.1 hml.symm
    refine ⟨v, w, ?_, by simpa using hown, World.grownBy.refl w _, Below.refl _ _⟩
    rcases hown.2 with ⟨rfl, _⟩ | ⟨g, cap, cur, rfl, _, _, hnc, _⟩
    · simp [Builtin.append_, run_underlying ht, sizeOf, typeInfo, hi, Builtin.lenOf, Builtin.firstCells]
    · simp [Builtin.append_, run_underlying ht, sizeOf, typeInfo, hi, Builtin.lenOf, Builtin.firstCells, hnc, storeCells]
  | some ad =>
    have hcells : ∀ (j : Nat) (u : Value), (flat l2)[j]? = some u → w.cell? (ad.add j) = some u := by
      intro j u hj
      have hlen := (List.getElem?_eq_some_iff.1 hj).1
      rw [flat_len] at hlen
      obtain ⟨b, off, e, _⟩ := hr.2 (by omega)
      obtain rfl := Option.some.inj e
      have := flat_cells hr j u hj
      rw [show (⟨b, off, none⟩ : Addr).add j = ⟨b, off + j, none⟩ by unfold Addr.add; split <;> simp_all]
      exact this
    obtain ⟨v', w', hrun, r1, r2, _⟩ := run_append_own (P := Try.prog) w base t ty 33 i0 (.agg #[.int .i64 0, .int .i64 0]) 2 16 ht hi hz0 hz1 hz2 rfl (by decide) v l1.length (flat l1) hown ad m c (flat l2) (by rw [flat_len, hml]) hcells (flat_one l2) (by unfold maxLen; omega) (by omega) hbase
    refine ⟨v', w', hrun, ?_, r2, (Below.refl base w).grown r2 hbase (fun k hk => (hlo k hk).1)⟩
    unfold OwnA
    rw [List.length_append, flat_app, ← hml]
    exact r1
/-- .. at a step of a region that draws its order. -/
theorem step_append_att {ops : Array Oper} {o : Oper} {a : Act} {w : World} {K : Act → World → Prop} {Q : Exit → Act → World → Prop} {E : Prop}
    (hw : Region.wanted o (yielded ops a.tmps) = true) (s x : Operand) (ho : o.op = Op.call { callee := Callee.builtin Builtin.append, args := #[s, x], argTypes := #[22, 22] })
    (base : Nat) (v : Value) (l1 : List (Int × Int)) (hs : a.eval s = v) (hown : OwnA w base v l1) (sa : Option Addr) (m c : Nat) (l2 : List (Int × Int)) (hx : a.eval x = .slice sa m c) (hr : ReadsA w sa m l2)
    (hm : l1.length + m ≤ 10000) (hbase : base ≤ w.heap.size)
    (hK : ∀ v' w', OwnA w' base v' (l1 ++ l2) → w.grownBy w' v.ownBlock → RowKit.Below base w w' → K (a.put o.dst v') w') :
    if Region.wanted o (yielded ops a.tmps) = true then Oper.wp Try.prog o a w K Q else E := by
  rw [if_pos hw]
  obtain ⟨v', w', hrun, h1, h2, h3⟩ := run_append_own_att w 22 o.type Try.underlying22 base v l1 hown sa m c l2 hr hm hbase
  unfold Oper.wp
  simp [execOp, ho, resolve, invoke, builtin, hs, hx, hrun, Result.andThen]
  exact hK v' w' h1 h2 h3
theorem own_nil (w : World) (base : Nat) : OwnA w base (.slice none 0 0) [] := World.ownsRow_nil _ _ _ _
theorem reads_lit (w : World) (c : Array Value) (zs : List (Int × Int)) (h : ∀ i, i < zs.length → c[i * 2]? = some (.int .i64 (zs.getD i (0, 0)).1) ∧ c[i * 2 + 1]? = some (.int .i64 (zs.getD i (0, 0)).2)) :
    ReadsA (w.alloc (.cells c 33)) (some ⟨w.heap.size, 0, none⟩) zs.length zs :=
  ⟨rfl, fun _ => ⟨_, 0, rfl, fun i hi => by
    rw [World.cell?_alloc_at _ _ _ _ rfl, World.cell?_alloc_at _ _ _ _ rfl]
    simpa using h i hi⟩⟩
theorem ReadsA.take {w : World} {sa : Option Addr} {n : Nat} {l : List (Int × Int)} (h : ReadsA w sa n l) (k : Nat) (hk : k ≤ n) : ReadsA w sa k (l.take k) := by
  refine ⟨by rw [List.length_take, ← h.1]; omega, fun h0 => ?_⟩
  obtain ⟨b, off, e, g⟩ := h.2 (by omega)
  refine ⟨b, off, e, fun i hi => ?_⟩
  have e2 : (l.take k).getD i (0, 0) = l.getD i (0, 0) := by simp [List.getD, hi]
  rw [e2]; exact g i (by omega)
theorem ReadsA.drop {w : World} {g0 : Nat} {n : Nat} {l : List (Int × Int)} (h : ReadsA w (some ⟨g0, 0, none⟩) n l) (k : Nat) (hk : k ≤ n) : ReadsA w (some ⟨g0, k * 2, none⟩) (n - k) (l.drop k) := by
  refine ⟨by rw [List.length_drop, ← h.1], fun h0 => ?_⟩
  obtain ⟨b, off, e, g⟩ := h.2 (by omega)
  simp only [Option.some.injEq, Addr.mk.injEq, and_true] at e
  obtain ⟨rfl, rfl⟩ := e
  refine ⟨_, _, rfl, fun i hi => ?_⟩
  have e2 : (l.drop k).getD i (0, 0) = l.getD (k + i) (0, 0) := by simp [List.getD]
  have := g (k + i) (by omega)
  rw [e2, show k * 2 + i * 2 = 0 + (k + i) * 2 by omega]
  exact this
theorem reads_zero {w : World} {sa : Option Addr} {l : List (Int × Int)} (h : l = []) : ReadsA w sa 0 l := ⟨by rw [h]; rfl, fun h => absurd h (by decide)⟩
theorem reads_none {w : World} {sa : Option Addr} {l : List (Int × Int)} {n : Nat} (h : n = 0) (hl : l = []) : ReadsA w sa n l := by rw [h]; exact reads_zero hl
theorem one_lit (w : World) (x : Int × Int) : ReadsA (w.alloc (.cells #[.int .i64 x.1, .int .i64 x.2] 33)) (some ⟨w.heap.size, 0, none⟩) 1 [x] :=
  reads_lit w _ [x] (fun i hi => by
    obtain rfl : i = 0 := by simpa using hi
    exact ⟨rfl, rfl⟩)
theorem ReadsA.far {W w1 : World} {row : Option Nat} {B n : Nat} {l : List (Int × Int)} (h : ReadsA W (some ⟨B, 0, none⟩) n l) (hg : W.grownBy w1 row) (hne : some B ≠ row) : ReadsA w1 (some ⟨B, 0, none⟩) n l :=
  ⟨h.1, fun h0 => by
    obtain ⟨b, off, e, g⟩ := h.2 h0
    simp only [Option.some.injEq, Addr.mk.injEq, and_true] at e
    obtain ⟨rfl, rfl⟩ := e
    exact ⟨B, 0, rfl, fun i hi => ⟨(World.cell?_of_block (hg.block B (World.block_lt_of_cell? _ _ (g i hi).1) hne)).trans (g i hi).1, (World.cell?_of_block (hg.block B (World.block_lt_of_cell? _ _ (g i hi).2) hne)).trans (g i hi).2⟩⟩⟩
theorem own_made (w : World) (base : Nat) (hb : base ≤ w.heap.size) : OwnA (w.alloc (.cells #[] 33)) base (.slice (some ⟨w.heap.size, 0, none⟩) 0 0) [] := World.ownsRow_made w #[] 0 hb (Nat.zero_le _) rfl
theorem own_made2 (w : World) (o : Obj) (base : Nat) (hb : base ≤ w.heap.size) : OwnA ((w.alloc o).alloc (.cells #[] 33)) base (.slice (some ⟨w.heap.size + 1, 0, none⟩) 0 0) [] := by
  have h := own_made (w.alloc o) base (by simp; omega)
  rw [show (w.alloc o).heap.size = w.heap.size + 1 by simp] at h
  exact h
theorem OwnA.drew {w : World} {base : Nat} {v : Value} {l : List (Int × Int)} (h : OwnA w base v l) : OwnA w.drew base v l := h.later (Below.refl _ _).drew
theorem OwnA.alloc {w : World} {base : Nat} {v : Value} {l : List (Int × Int)} (h : OwnA w base v l) (o : Obj) : OwnA (w.alloc o) base v l := h.later ((Below.refl _ _).alloc (Nat.le_refl _) _)

theorem wpList_append_att {ops : Array Oper} {rest : List Oper} {o : Oper} {a : Act} {w : World} {Q : Exit → Act → World → Prop} (hgd : o.guard = none) (s x : Operand)
    (ho : o.op = .call { callee := .builtin .append, args := #[s, x], argTypes := #[22, 22] })
    (base : Nat) (v : Value) (l1 : List (Int × Int)) (hs : a.eval s = v) (hown : OwnA w base v l1) (sa : Option Addr) (m c : Nat) (l2 : List (Int × Int)) (hx : a.eval x = .slice sa m c) (hr : ReadsA w sa m l2)
    (hm : l1.length + m ≤ 10000) (hbase : base ≤ w.heap.size)
    (h : ∀ v' w', OwnA w' base v' (l1 ++ l2) → w.grownBy w' v.ownBlock → RowKit.Below base w w' → wpList Try.prog ops Q rest (a.put o.dst v') w') : wpList Try.prog ops Q (o :: rest) a w := by
  refine wpList_plain hgd fun K hK => ?_
  obtain ⟨v', w', hrun, h1, h2, h3⟩ := run_append_own_att w 22 o.type Try.underlying22 base v l1 hown sa m c l2 hr hm hbase
  unfold Oper.wp execOp
  simp only [ho, resolve, invoke, builtin, Sem.run_bind, Sem.run_pure, Result.andThen_ok, List.map_toArray, List.map_cons, List.map_nil, hs, hx, hrun]
  exact hK _ _ (h v' w' h1 h2 h3)

/-! ### Rows of numbers -/
def ReadsI (w : World) (sa : Option Addr) (len : Nat) (zs : List Int) : Prop :=
  len = zs.length ∧ (0 < len → ∃ b off, sa = some ⟨b, off, none⟩ ∧ ∀ i, i < len → w.cell? ⟨b, off + i, none⟩ = some (.int .i64 (zs.getD i 0)))
theorem ReadsI.later {w w' : World} {sa : Option Addr} {len : Nat} {zs : List Int} (h : ReadsI w sa len zs) (k : Below w.heap.size w w') : ReadsI w' sa len zs :=
  ⟨h.1, fun h0 => by
    obtain ⟨b, off, e, g⟩ := h.2 h0
    exact ⟨b, off, e, fun i hi => (k.cell (p := ⟨b, off + i, none⟩) (World.block_lt_of_cell? _ _ (g i hi))).trans (g i hi)⟩⟩
theorem ReadsI.take {w : World} {sa : Option Addr} {n : Nat} {l : List Int} (h : ReadsI w sa n l) (k : Nat) (hk : k ≤ n) : ReadsI w sa k (l.take k) := by
  refine ⟨by rw [List.length_take, ← h.1]; omega, fun h0 => ?_⟩
  obtain ⟨b, off, e, g⟩ := h.2 (by omega)
  refine ⟨b, off, e, fun i hi => ?_⟩
  have e2 : (l.take k).getD i 0 = l.getD i 0 := by simp [List.getD, hi]
  rw [e2]; exact g i (by omega)
theorem ReadsI.drop {w : World} {g0 : Nat} {n : Nat} {l : List Int} (h : ReadsI w (some ⟨g0, 0, none⟩) n l) (k : Nat) (hk : k ≤ n) : ReadsI w (some ⟨g0, k, none⟩) (n - k) (l.drop k) := by
  refine ⟨by rw [List.length_drop, ← h.1], fun h0 => ?_⟩
  obtain ⟨b, off, e, g⟩ := h.2 (by omega)
  simp only [Option.some.injEq, Addr.mk.injEq, and_true] at e
  obtain ⟨rfl, rfl⟩ := e
  refine ⟨_, _, rfl, fun i hi => ?_⟩
  have e2 : (l.drop k).getD i 0 = l.getD (k + i) 0 := by simp [List.getD]
  have := g (k + i) (by omega)
  rw [e2, show k + i = 0 + (k + i) by omega]
  rw [show (0 + (k + i)) = k + i by omega] at this ⊢
  exact this
theorem readsI_zero {w : World} {sa : Option Addr} {l : List Int} (h : l = []) : ReadsI w sa 0 l := ⟨by rw [h]; rfl, fun h => absurd h (by decide)⟩
/-- v is a slice of the call's own, from block base on, that holds the numbers l. -/
def OwnI (w : World) (base : Nat) (v : Value) (l : List Int) : Prop := w.ownsRow base 3 1 v l.length (l.map (Value.int .i64))
theorem OwnI.later {w w' : World} {base : Nat} {v : Value} {l : List Int} (h : OwnI w base v l) (hb : RowKit.Below w.heap.size w w') : OwnI w' base v l := by
  have h0 := h
  refine ⟨h.1, ?_⟩
  rcases h.2 with q | ⟨g, cap, cur, rfl, hg, hc, r⟩
  · exact Or.inl q
  · exact Or.inr ⟨g, cap, cur, rfl, hg, (hb.block g (World.ownsRow.lt h0 g rfl).2).trans hc, r⟩
theorem OwnI.lower {w : World} {base base' : Nat} {v : Value} {l : List Int} (h : OwnI w base v l) (hb : base' ≤ base) : OwnI w base' v l := by
  refine ⟨h.1, ?_⟩
  rcases h.2 with q | ⟨g, cap, cur, e, hg, r⟩
  · exact Or.inl q
  · exact Or.inr ⟨g, cap, cur, e, Nat.le_trans hb hg, r⟩
theorem OwnI.form {w : World} {base : Nat} {v : Value} {l : List Int} (h : OwnI w base v l) : (v = .slice none 0 0 ∧ l = []) ∨ ∃ g cap, v = .slice (some ⟨g, 0, none⟩) l.length cap ∧ l.length ≤ cap ∧ base ≤ g ∧ g < w.heap.size ∧ ∀ i, i < l.length → w.cell? ⟨g, i, none⟩ = some (.int .i64 (l.getD i 0)) := by
  have h0 := h
  rcases h.2 with ⟨e, h1⟩ | ⟨g, cap, cur, rfl, hg, _, hc, _⟩
  · exact .inl ⟨e, List.length_eq_zero_iff.1 h1⟩
  · refine .inr ⟨g, cap, rfl, by omega, hg, (World.ownsRow.lt h0 g rfl).2, fun i hi => ?_⟩
    rw [World.ownsRow.cellAt h0 _ (by omega)]; simp [List.getD, hi]
theorem OwnI.reads {w : World} {base : Nat} {v : Value} {l : List Int} (h : OwnI w base v l) : ∃ sa cap, v = .slice sa l.length cap ∧ l.length ≤ cap ∧ (0 < l.length → ∃ g, sa = some ⟨g, 0, none⟩) ∧ ReadsI w sa l.length l := by
  rcases h.form with ⟨rfl, rfl⟩ | ⟨g, cap, rfl, h1, _, _, hc⟩
  · exact ⟨none, 0, rfl, Nat.le_refl _, fun h => absurd h (by decide), rfl, fun h => absurd h (by decide)⟩
  · refine ⟨_, cap, rfl, h1, fun _ => ⟨g, rfl⟩, rfl, fun _ => ⟨g, 0, rfl, fun i hi => ?_⟩⟩
    rw [Nat.zero_add]; exact hc i hi
theorem numsI_one (l : List Int) (u : Value) (h : u ∈ l.map (Value.int .i64)) : u.oneCell' = true := by
  obtain ⟨x, _, rfl⟩ := List.mem_map.1 h; rfl
theorem ReadsI.cells {w : World} {b off len : Nat} {zs : List Int} (h : ReadsI w (some ⟨b, off, none⟩) len zs) (j : Nat) (u : Value) (hj : (zs.map (Value.int .i64))[j]? = some u) : w.cell? ⟨b, off + j, none⟩ = some u := by
  have hl := (List.getElem?_eq_some_iff.1 hj).1
  rw [List.length_map] at hl
  have e := h.1
  obtain ⟨b', off', e1, g⟩ := h.2 (by omega)
  simp only [Option.some.injEq, Addr.mk.injEq] at e1
  obtain ⟨rfl, rfl, _⟩ := e1
  rw [g j (by omega)]
  simp [hl] at hj
  rw [← hj]; simp [List.getD, hl]
theorem run_append_own_int (w : World) (t ty : TypeId) (ht : Try.prog.underlying t = some (.slice 3)) (base : Nat) (v : Value) (l1 : List Int) (hown : OwnI w base v l1) (sa : Option Addr) (m c : Nat) (l2 : List Int) (hr : ReadsI w sa m l2)
    (hm : l1.length + m ≤ 10000) (hbase : base ≤ w.heap.size) :
    ∃ v' w', (Builtin.append_ #[t, t] ty #[v, .slice sa m c]).run Try.prog w = .ok v' w' ∧ OwnI w' base v' (l1 ++ l2) ∧ w.grownBy w' v.ownBlock ∧ RowKit.Below base w w' := by
  obtain ⟨i0, hi, hz0, hz1, hz2⟩ := info_parts infoInt
  have hml := hr.1
  have hlo := World.ownsRow.lt hown
  cases sa with
  | none =>
    have m0 : m = 0 := by
      rcases Nat.eq_zero_or_pos m with h | h
      · exact h
      · obtain ⟨b, off, e, _⟩ := hr.2 h; cases e
    subst m0
    obtain rfl : l2 = [] := List.length_eq_zero_iff.1 hml.symm
    refine ⟨v, w, ?_, by simpa using hown, World.grownBy.refl w _, Below.refl _ _⟩
    rcases hown.2 with ⟨rfl, _⟩ | ⟨g, cap, cur, rfl, _, _, hnc, _⟩
    · simp [Builtin.append_, run_underlying ht, sizeOf, typeInfo, hi, Builtin.lenOf, Builtin.firstCells]
    · simp [Builtin.append_, run_underlying ht, sizeOf, typeInfo, hi, Builtin.lenOf, Builtin.firstCells, hnc, storeCells]
  | some ad =>
    have hcells : ∀ (j : Nat) (u : Value), (l2.map (Value.int .i64))[j]? = some u → w.cell? (ad.add j) = some u := by
      intro j u hj
      have hlen := (List.getElem?_eq_some_iff.1 hj).1
      rw [List.length_map] at hlen
      obtain ⟨b, off, e, _⟩ := hr.2 (by omega)
      obtain rfl := Option.some.inj e
      have := hr.cells j u hj
      rw [show (⟨b, off, none⟩ : Addr).add j = ⟨b, off + j, none⟩ by unfold Addr.add; split <;> simp_all]
      exact this
    obtain ⟨v', w', hrun, r1, r2, _⟩ := run_append_own (P := Try.prog) w base t ty 3 i0 (.int .i64 0) 1 8 ht hi hz0 hz1 hz2 rfl (by decide) v l1.length (l1.map (Value.int .i64)) hown ad m c (l2.map (Value.int .i64)) (by rw [List.length_map, hml]; omega) hcells (numsI_one l2) (by unfold maxLen; omega) (by omega) hbase
    refine ⟨v', w', hrun, ?_, r2, (Below.refl base w).grown r2 hbase (fun k hk => (hlo k hk).1)⟩
    unfold OwnI
    rw [List.length_append, List.map_append, ← hml]
    exact r1
theorem step_append_int {ops : Array Oper} {o : Oper} {a : Act} {w : World} {K : Act → World → Prop} {Q : Exit → Act → World → Prop} {E : Prop}
    (hw : Region.wanted o (yielded ops a.tmps) = true) (s x : Operand) (ho : o.op = Op.call { callee := Callee.builtin Builtin.append, args := #[s, x], argTypes := #[54, 54] })
    (base : Nat) (v : Value) (l1 : List Int) (hs : a.eval s = v) (hown : OwnI w base v l1) (sa : Option Addr) (m c : Nat) (l2 : List Int) (hx : a.eval x = .slice sa m c) (hr : ReadsI w sa m l2)
    (hm : l1.length + m ≤ 10000) (hbase : base ≤ w.heap.size)
    (hK : ∀ v' w', OwnI w' base v' (l1 ++ l2) → w.grownBy w' v.ownBlock → RowKit.Below base w w' → K (a.put o.dst v') w') :
    if Region.wanted o (yielded ops a.tmps) = true then Oper.wp Try.prog o a w K Q else E := by
  rw [if_pos hw]
  obtain ⟨v', w', hrun, h1, h2, h3⟩ := run_append_own_int w 54 o.type Try.underlying54 base v l1 hown sa m c l2 hr hm hbase
  unfold Oper.wp
  simp [execOp, ho, resolve, invoke, builtin, hs, hx, hrun, Result.andThen]
  exact hK v' w' h1 h2 h3
theorem one_int (w : World) (x : Int) : ReadsI (w.alloc (.cells #[.int .i64 x] 3)) (some ⟨w.heap.size, 0, none⟩) 1 [x] :=
  ⟨rfl, fun _ => ⟨_, 0, rfl, fun i hi => by
    obtain rfl : i = 0 := by omega
    rw [World.cell?_alloc_at _ _ _ _ rfl]; rfl⟩⟩
theorem ReadsI.far {W w1 : World} {row : Option Nat} {B n : Nat} {l : List Int} (h : ReadsI W (some ⟨B, 0, none⟩) n l) (hg : W.grownBy w1 row) (hne : some B ≠ row) : ReadsI w1 (some ⟨B, 0, none⟩) n l :=
  ⟨h.1, fun h0 => by
    obtain ⟨b, off, e, g⟩ := h.2 h0
    simp only [Option.some.injEq, Addr.mk.injEq, and_true] at e
    obtain ⟨rfl, rfl⟩ := e
    exact ⟨B, 0, rfl, fun i hi => (World.cell?_of_block (hg.block B (World.block_lt_of_cell? _ _ (g i hi)) hne)).trans (g i hi)⟩⟩
theorem ownI_nil (w : World) (base : Nat) : OwnI w base (.slice none 0 0) [] := World.ownsRow_nil _ _ _ _
theorem ownI_made (w : World) (base : Nat) (hb : base ≤ w.heap.size) : OwnI (w.alloc (.cells #[] 3)) base (.slice (some ⟨w.heap.size, 0, none⟩) 0 0) [] := World.ownsRow_made w #[] 0 hb (Nat.zero_le _) rfl
theorem OwnI.drew {w : World} {base : Nat} {v : Value} {l : List Int} (h : OwnI w base v l) : OwnI w.drew base v l := h.later (Below.refl _ _).drew
theorem OwnI.alloc {w : World} {base : Nat} {v : Value} {l : List Int} (h : OwnI w base v l) (o : Obj) : OwnI (w.alloc o) base v l := h.later ((Below.refl _ _).alloc (Nat.le_refl _) _)
end Go.Proofs.Ytdihbkhhhonlpaa
