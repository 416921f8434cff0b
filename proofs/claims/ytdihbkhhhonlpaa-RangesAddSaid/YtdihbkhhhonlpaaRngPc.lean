/- slices.AppendSeq and slices.Collect over the parts of ranges; slices.Clone; orElse. -/
import Derived.Test.YtdihbkhhhonlpaaRngPb
namespace Go.Proofs.Ytdihbkhhhonlpaa
open Go.RowKit Go.Sort Go.Shelf

attribute [local go_sem] Oper.semAt_some

/-- A range lies in a block of its own. -/
def Lies (W : World) (B : Nat) (x : Int × Int) : Prop := W.heap[B]? = some (.cells #[.int .i64 x.1, .int .i64 x.2] 33 (0, 0))
theorem Lies.lt {W : World} {B : Nat} {x : Int × Int} (h : Lies W B x) : B < W.heap.size := (Array.getElem?_eq_some_iff.1 h).1
theorem Lies.c0 {W : World} {B : Nat} {x : Int × Int} (h : Lies W B x) : W.cell? ⟨B, 0, none⟩ = some (.int .i64 x.1) := by simp [World.cell?, show W.heap[B]? = _ from h]
theorem Lies.c1 {W : World} {B : Nat} {x : Int × Int} (h : Lies W B x) : W.cell? ⟨B, 1, none⟩ = some (.int .i64 x.2) := by simp [World.cell?, show W.heap[B]? = _ from h]
theorem Lies.new (W : World) (x : Int × Int) : Lies (W.alloc (.cells #[.int .i64 x.1, .int .i64 x.2] 33)) W.heap.size x := World.alloc_heap_new W _
theorem Lies.own (B : Nat) (x : Int × Int) : Own (fun (_ : Unit) W => Lies W B x) := by
  rintro s X Y row h hg hrow
  refine (hg.block B h.lt fun e => ?_).trans h
  obtain ⟨o, ho, hc⟩ := hrow B e.symm
  rw [show X.heap[B]? = _ from h] at ho; cases ho; cases hc

theorem news_rng (W : World) (x : Int × Int) : ∀ (j : Nat) (u : Value), [Value.int .i64 x.1, Value.int .i64 x.2][j]? = some u → (W.alloc (.cells #[.int .i64 x.1, .int .i64 x.2] 33)).cell? ((⟨W.heap.size, 0, none⟩ : Addr).add j) = some u := by
  intro j u hj
  have := flat_cells (one_lit W x) j u hj
  rw [show (⟨W.heap.size, 0, none⟩ : Addr).add j = ⟨W.heap.size, 0 + j, none⟩ by unfold Addr.add; split <;> simp_all]
  exact this
/-- What the loop's caller holds: the row that grows, in a box of its own. -/
def Grow (w : World) (base Bi S : Nat) (l1 : List (Int × Int)) (pre : List (Int × Int)) (W : World) : Prop :=
  (∃ v, Boxed W S 22 v ∧ W.ownsRow base 33 2 v (l1 ++ pre).length (flat (l1 ++ pre)) ∧ v.ownBlock ≠ some Bi) ∧ RowKit.Below base w W
theorem grow_own {w W0 : World} {base Bi S : Nat} {l1 : List (Int × Int)} (hb : base ≤ w.heap.size) (hB : base ≤ W0.heap.size) : OwnFrom W0.heap.size (Grow w base Bi S l1) :=
  OwnFrom.and (Own.from (holdsRow_own base S 22 33 2 (fun pre => (l1 ++ pre).length) (fun pre => flat (l1 ++ pre)) (fun _ v => v.ownBlock ≠ some Bi)) _) (ownFrom_below hb hB)

set_option maxRecDepth 100000 in
set_option maxHeartbeats 4000000 in
theorem appendSeq_in (n : Nat) (hn : 3 ≤ n) (base Bs Bi : Nat) (sv : Value) (l1 : List (Int × Int)) (sa : Option Addr) (len cap : Nat) (y : Int × Int) (zs : List (Int × Int)) (hm : len ≤ 1000) (hl1 : l1.length ≤ 5000) (w : World)
    (hown : OwnA w base sv l1) (hsv : ∃ a c, sv = .slice a l1.length c) (hne : sv.ownBlock ≠ some Bi) (hbase : base ≤ w.heap.size)
    (hBs : w.cell? ⟨Bs, 0, none⟩ = some (.slice sa len cap)) (hi0 : w.cell? ⟨Bi, 0, none⟩ = some (.int .i64 y.1)) (hi1 : w.cell? ⟨Bi, 1, none⟩ = some (.int .i64 y.2))
    (hz : len = zs.length) (hr : 0 < len → ∃ b off, sa = some ⟨b, off, none⟩ ∧ b < base ∧ ∀ i, i < len → w.cell? ⟨b, off + i * 2, none⟩ = some (.int .i64 (zs.getD i (0, 0)).1) ∧ w.cell? ⟨b, off + i * 2 + 1, none⟩ = some (.int .i64 (zs.getD i (0, 0)).2)) :
    CallsIn Fence.wide n Try.prog 34 #[sv, .func (.func 41) #[] #[.pointer (some ⟨Bs, 0, none⟩), .pointer (some ⟨Bi, 0, none⟩)]] w fun e W' => ∃ v, e = .returned v ∧ OwnA W' base v (l1 ++ partsL zs y) ∧ RowKit.Below base w W' := by
  have h1 : 1 ≤ n := by omega
  obtain ⟨sva, svc, rfl⟩ := hsv
  refine callsIn_of_wp_marks Try.func34 rfl trivial ?_ rfl
  simp only [Try.ntmps34, List.size_toArray, List.length_cons, List.length_nil, Nat.reduceAdd, Nat.reduceSub, Array.replicate_succ, Array.replicate_zero, List.push_toArray, List.append_toArray, List.nil_append, List.cons_append]
  obtain ⟨i0, hi, hz0, hz1, hz2⟩ := info_parts infoAtt
  have HOwn := Lib.hid hown
  have HR := Lib.hid hr
  have hBsl := World.block_lt_of_cell? _ _ hBs
  have hBil := World.block_lt_of_cell? _ _ hi0
  clear hown hr
  gi_wp2
  have bO := Boxed.new w 22 (.slice sva l1.length svc)
  have hB0 : RowKit.Below base w (w.alloc (.cells #[.slice sva l1.length svc] 22)) := (Below.refl _ w).alloc hbase _
  have old : ∀ {b j : Nat} {v : Value}, w.cell? ⟨b, j, none⟩ = some v → (w.alloc (.cells #[.slice sva l1.length svc] 22)).cell? ⟨b, j, none⟩ = some v := fun {b j v} h => (((Below.refl w.heap.size w).alloc (Nat.le_refl _) _).cell (p := ⟨b, j, none⟩) (World.block_lt_of_cell? _ _ h)).trans h
  refine wpIn_rangeFunc_ownH rfl h1 (gf := 41) (lb := #[.pointer (some ⟨Bs, 0, none⟩), .pointer (some ⟨Bi, 0, none⟩)]) rfl trivial (enters_of Try.func41 (by kernel_rfl) rfl)
    (parts_stops (n - 1) (by omega) base sa len cap y zs hm (w.alloc (.cells #[.slice sva l1.length svc] 22)) Bs Bi (old hBs) (old hi0) (old hi1) (by simp; omega) hz (fun h => by
      obtain ⟨b, off, e, hb, g⟩ := HR.out h
      exact ⟨b, off, e, hb, fun i hi => ⟨old (g i hi).1, old (g i hi).2⟩⟩)) kp_t (kp_b (by simp; omega) (by simp; omega)) (Below.refl _ _) (fun _ => rfl)
    (Grow w base Bi w.heap.size l1)
    (fun _ _ _ => False)
    (grow_own hbase (by simp; omega))
    (fun _ _ _ _ _ hs _ _ => hs)
    ⟨⟨_, bO, by rw [List.append_nil]; exact HOwn.out.alloc _, hne⟩, hB0⟩
    (fun x a' W => ∃ Bx, w.heap.size < Bx ∧ Lies W Bx x ∧ a' = { tmps := #[.slice sva l1.length svc, .func (.func 41) #[] #[.pointer (some ⟨Bs, 0, none⟩), .pointer (some ⟨Bi, 0, none⟩)], .pointer (some ⟨w.heap.size, 0, none⟩), undef, .slice none 0 0, .pointer (some ⟨Bx, 0, none⟩), .func (.func 41) #[] #[.pointer (some ⟨Bs, 0, none⟩), .pointer (some ⟨Bi, 0, none⟩)], .agg #[.int .i64 x.1, .int .i64 x.2], undef, undef, undef, undef, undef], defers := [] })
    (fun x a' s A B row ⟨Bx, h1, h2, h3⟩ hg hr => ⟨Bx, h1, Lies.own Bx x () A B row h2 hg (fun r e => (hr r e).2), h3⟩) ?assign ?body ?done ?stop
  case assign =>
    rintro l pre x W K ⟨⟨v, hv, hrow, hnv⟩, hB⟩ hK
    have hle := hB.size
    gi_wp2
    exact hK _ _ ((KeepsOthers.alloc _ _).from _) (kp_grew ((Grew.refl _).alloc _) (by omega)) ⟨⟨v, hv.alloc _, hrow.alloc _, hnv⟩, hB.alloc (by omega) _⟩ ⟨W.heap.size, hv.lt, Lies.new W x, rfl⟩
  case body =>
    rintro l pre x a' W hl ⟨r, hr⟩ ⟨⟨v, hv, hrow, hnv⟩, hB⟩ ⟨Bx, hBx, bX, rfl⟩ hlt
    have hle := hB.size
    have hc := hv.cell
    have x0 := bX.c0
    have x1 := bX.c1
    have hpl : (l1 ++ pre).length ≤ 6000 := by rw [List.length_append]; omega
    gi_wp2_with (gi_at_builtin; go_loud (refine wpListIn_append_own_at _ rfl _ _ 22 rfl base 33 i0 (.agg #[.int .i64 0, .int .i64 0]) 2 16 Try.underlying22 hi hz0 hz1 hz2 rfl (by decide) _ _ _ rfl (hrow.alloc _) ⟨W.heap.size, 0, none⟩ 1 1 [.int .i64 x.1, .int .i64 x.2] rfl rfl (news_rng W x) (flat_one [x]) (by unfold maxLen; omega) (by omega) (by simp; omega) ?_; intro v' w1 hown' hgrow _ hat; obtain ⟨g', cap', rfl⟩ := ownsRow_succ hown'; obtain ⟨hv1, hv2, hr2, hk2, hb2⟩ := hv.appended (by decide) hrow (by omega) (by omega) hown' hgrow; have hc1 := hv1.cell; have hf1 := hv1.frozen))
    have e1 : l1 ++ (pre ++ [x]) = (l1 ++ pre) ++ [x] := (List.append_assoc _ _ _).symm
    have hB1 : Bi < W.heap.size := by omega
    rw [show l1.length + pre.length = (l1 ++ pre).length from List.length_append.symm]
    refine ⟨hk2.from _, ⟨hb2, fun _ => ?_⟩, ⟨_, hv2, ?_, ?_⟩, hB.trans hb2⟩
    · have e2 : w1.heap[Bi]? = W.heap[Bi]? := (hgrow.block Bi (by simp; omega) (fun e => hnv e.symm)).trans (Below.heap_alloc _ _ _ hB1)
      have e3 : (w1.setCell ⟨w.heap.size, 0, none⟩ (.slice (some ⟨g', 0, none⟩) ((l1 ++ pre).length + 1) cap')).heap[Bi]? = w1.heap[Bi]? := Below.heap_setCell _ _ _ Bi (by show Bi ≠ w.heap.size; omega)
      exact ⟨(Array.getElem?_eq_some_iff.1 ((e3.trans e2).trans (Array.getElem?_eq_getElem hB1))).1, e3.trans e2⟩
    · rw [e1, flat_app, show ((l1 ++ pre) ++ [x]).length = (l1 ++ pre).length + 1 from List.length_append]
      exact hr2
    · rcases hat with h | h
      · rw [h]; exact hnv
      · rw [h]; simp; omega
  case done =>
    rintro D ys W hD rfl ⟨⟨v, hv, hrow, _⟩, hB⟩ hK
    have hc := hv.cell
    gi_wp2
    refine ⟨by simp, .inl ⟨_, _, rfl, run_takeDeferred hK, ?_⟩⟩
    exact ⟨_, results_tmp rfl _ _ _, v, rfl, ownsRow_putObj hrow _ hK rfl, hB.trans (belowK_b (w := w) hbase W D _ _ (by simp at hD; omega) hK rfl rfl)⟩
  case stop =>
    rintro D c pre W _ _ h _
    exact h.elim
end Go.Proofs.Ytdihbkhhhonlpaa
