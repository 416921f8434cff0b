/- The program's iterator over the parts of ranges that lie in another one: its maker, and its contract. -/
import Derived.Test.YtdihbkhhhonlpaaRngPa
import Derived.RangeFuncNested
import Derived.RangeFuncBound
import Derived.RangeFuncCalls
import Derived.RangeFuncLeaves
import Derived.RangeFuncBox
import Derived.Shelf.Abstract
import Derived.Shelf.AbstractIn
import Derived.Shelf.RegionOpen
import Derived.OwnWalkIn
import Derived.TacticsInMore
import Derived.LoopNIn
import Derived.LoopIn
import Derived.Maps.OwnIn
namespace Go.Proofs.Ytdihbkhhhonlpaa
open Go.RowKit Go.Sort Go.Shelf

attribute [local go_sem] Oper.semAt_some

/-- The parts of some ranges that lie in another one. -/
def partsL (zs : List (Int × Int)) (y : Int × Int) : List (Int × Int) := (zs.map (fun x => ovl x y)).filter (fun r => !decide (r.2 < r.1))
theorem partsL_hit {zs : List (Int × Int)} {y : Int × Int} {k : Nat} (hk : k < zs.length) (h : ¬ (ovl (zs.getD k (0, 0)) y).2 < (ovl (zs.getD k (0, 0)) y).1) : partsL (zs.take (k + 1)) y = partsL (zs.take k) y ++ [ovl (zs.getD k (0, 0)) y] := by
  unfold partsL
  rw [List.take_succ_eq_append_getElem hk, List.map_append, List.filter_append]
  congr 1
  simp only [List.getD, List.getElem?_eq_getElem hk, Option.getD_some] at h ⊢
  simp [h]
theorem partsL_miss {zs : List (Int × Int)} {y : Int × Int} {k : Nat} (hk : k < zs.length) (h : (ovl (zs.getD k (0, 0)) y).2 < (ovl (zs.getD k (0, 0)) y).1) : partsL (zs.take (k + 1)) y = partsL (zs.take k) y := by
  unfold partsL
  rw [List.take_succ_eq_append_getElem hk, List.map_append, List.filter_append]
  simp only [List.getD, List.getElem?_eq_getElem hk, Option.getD_some] at h
  simp [h]
theorem partsL_len (zs : List (Int × Int)) (y : Int × Int) : (partsL zs y).length ≤ zs.length := by
  unfold partsL
  exact Nat.le_trans (List.length_filter_le _ _) (by simp)
theorem partsL_take (zs : List (Int × Int)) (y : Int × Int) (k : Nat) : (partsL (zs.take k) y).length ≤ k := by
  refine Nat.le_trans (partsL_len _ _) ?_
  rw [List.length_take]; omega

/-- What a round that goes on keeps: all below n₀, and the iterator's own box. -/
def Kp (n₀ Bi : Nat) (W W' : World) : Prop := RowKit.Below n₀ W W' ∧ (Bi < W.heap.size → Bi < W'.heap.size ∧ W'.heap[Bi]? = W.heap[Bi]?)
theorem kp_t {n₀ Bi : Nat} {A B C : World} (h : Kp n₀ Bi A B) (k : Kp n₀ Bi B C) : Kp n₀ Bi A C := ⟨h.1.trans k.1, fun hl => ⟨(k.2 (h.2 hl).1).1, ((k.2 (h.2 hl).1).2).trans (h.2 hl).2⟩⟩
theorem kp_b {n₀ Bi : Nat} {w : World} (hn : n₀ ≤ w.heap.size) (hb : Bi < w.heap.size) (W : World) (l : Nat) (o o' : Obj) (hl : w.heap.size ≤ l) (h : W.heap[l]? = some o) (h1 : o.isCells = false) (h2 : o.isWalk = false) : Kp n₀ Bi W (W.putObj l o') :=
  ⟨belowK_b hn W l o o' hl h h1 h2, fun hB => ⟨by simpa using hB, World.putObj_heap_other (by omega)⟩⟩
theorem kp_refl (n₀ Bi : Nat) (W : World) : Kp n₀ Bi W W := ⟨Below.refl _ _, fun h => ⟨h, rfl⟩⟩
theorem Kp.cell {n₀ Bi : Nat} {W W' : World} (h : Kp n₀ Bi W W') {j : Nat} {v : Value} (hc : W.cell? ⟨Bi, j, none⟩ = some v) : W'.cell? ⟨Bi, j, none⟩ = some v :=
  (World.cell?_of_block (h.2 (World.block_lt_of_cell? _ _ hc)).2).trans hc
/-- .. is kept by what leaves all that lies. -/
theorem kp_grew {n₀ Bi : Nat} {W W' : World} (h : Grew W W') (hn : n₀ ≤ W.heap.size) : Kp n₀ Bi W W' := ⟨h.below.mono hn, fun hB => by
  obtain ⟨q, os, rfl⟩ := h
  exact ⟨by simp; omega, heap_grow_old (W.drewN q) os hB⟩⟩

theorem grew_by {W W' : World} (h : Grew W W') : W.grownBy W' none := by
  obtain ⟨q, os, rfl⟩ := h
  exact ⟨rfl, rfl, rfl, by simp, fun k hk _ => heap_grow_old (W.drewN q) os hk⟩
theorem abides {J : List (Int × Int) → World → Prop} {B : Nat} (h : AbidesFrom B J) {l : List (Int × Int)} {W W' : World} (hj : J l W) (g : Grew W W') : J l W' := h l W W' none hj (grew_by g) (fun r e => by cases e)
/-- **parts**: two boxes; the iterator's value. -/
theorem parts_any (sa : Option Addr) (len cap : Nat) (y : Int × Int) (w : World) :
    Calls Try.prog 27 #[.slice sa len cap, .agg #[.int .i64 y.1, .int .i64 y.2]] w fun e w' => e = .returned (.func (.func 41) #[] #[.pointer (some ⟨w.heap.size, 0, none⟩), .pointer (some ⟨w.heap.size + 1, 0, none⟩)]) ∧ w' = (w.alloc (.cells #[.slice sa len cap] 22)).alloc (.cells #[.int .i64 y.1, .int .i64 y.2] 33) := by
  go_enter Try.func27, Try.ntmps27
  go_wp2
  go_ret
  exact ⟨rfl, rfl⟩

set_option maxRecDepth 100000 in
set_option maxHeartbeats 4000000 in
theorem parts1_in (n : Nat) (hn : 1 ≤ n) (l Bs Bi n₀ : Nat) (sa : Option Addr) (len cap : Nat) (y : Int × Int) (zs : List (Int × Int)) (hm : len ≤ 1000) (J Jx : List (Int × Int) → World → Prop)
    (hY : ∀ pre x W, J pre W → pre.length < len → YieldAt Fence.wide (n - 1) Try.prog l #[.agg #[.int .i64 x.1, .int .i64 x.2]] W fun e W' =>
      (e = .returned (.bool true) ∧ J (pre ++ [x]) W' ∧ Kp n₀ Bi W W') ∨ (e = .returned (.bool false) ∧ Jx (pre ++ [x]) W'))
    (W : World) (hJ : AbidesFrom W.heap.size J) (hBs : W.cell? ⟨Bs, 0, none⟩ = some (.slice sa len cap)) (hi0 : W.cell? ⟨Bi, 0, none⟩ = some (.int .i64 y.1)) (hi1 : W.cell? ⟨Bi, 1, none⟩ = some (.int .i64 y.2)) (hn₀ : n₀ ≤ W.heap.size)
    (hz : len = zs.length) (hr : 0 < len → ∃ b off, sa = some ⟨b, off, none⟩ ∧ b < n₀ ∧ ∀ i, i < len → W.cell? ⟨b, off + i * 2, none⟩ = some (.int .i64 (zs.getD i (0, 0)).1) ∧ W.cell? ⟨b, off + i * 2 + 1, none⟩ = some (.int .i64 (zs.getD i (0, 0)).2)) (h0 : J [] W) :
    CallsIn Fence.wide n Try.prog 41 #[.func (.yield l) #[] #[], .pointer (some ⟨Bs, 0, none⟩), .pointer (some ⟨Bi, 0, none⟩)] W fun e W' => (∃ v, e = .returned v) ∧
      ((∃ ys, ys = partsL zs y ∧ J ys W') ∨ (∃ pre, (∃ k, k ≤ len ∧ 0 < pre.length ∧ pre = partsL (zs.take k) y) ∧ Jx pre W')) := by
  refine callsIn_of_wp Try.func41 rfl trivial ?_ rfl
  simp only [Try.ntmps41, List.size_toArray, List.length_cons, List.length_nil, Nat.reduceAdd, Nat.reduceSub, Array.replicate_succ, Array.replicate_zero, List.push_toArray, List.append_toArray, List.nil_append, List.cons_append]
  gi_wp2
  gi_loopw [9] (fun i wr => ∃ k : Nat, k ≤ len ∧ i = .int .i64 k ∧ J (partsL (zs.take k) y) wr ∧ Kp n₀ Bi W wr)
    (fun i _ => len - (intOf i).toNat)
  case atStart => exact ⟨0, Nat.zero_le _, rfl, h0, kp_t (kp_refl _ _ W) (kp_grew (Grew.refl _) hn₀)⟩
  case round =>
    obtain ⟨k, hk, rfl, hJs, hnx⟩ := hrel
    have f0 := hnx.cell hi0
    have f1 := hnx.cell hi1
    by_cases hlt : k < len
    · obtain ⟨b, off, rfl, hb, g⟩ := hr (by omega)
      obtain ⟨l0', l1'⟩ := g k hlt
      have l0 := (hnx.1.cell (p := ⟨b, off + k * 2, none⟩) hb).trans l0'
      have l1 := (hnx.1.cell (p := ⟨b, off + k * 2 + 1, none⟩) hb).trans l1'
      clear l0' l1' g
      have PH := Lib.hid (partsL_hit (zs := zs) (y := y) (k := k) (by omega))
      have PM := Lib.hid (partsL_miss (zs := zs) (y := y) (k := k) (by omega))
      have PL := Lib.hid (partsL_take zs y k)
      generalize zs.getD k (0, 0) = x at *
      obtain ⟨z, hzx⟩ : ∃ z, z = ovl x y := ⟨_, rfl⟩
      have HOV := Lib.hid hzx
      rw [← hzx] at PH PM
      have i1 : (0 : Int) ≤ (k : Int) := by omega
      have i2 : (k : Int) < (len : Int) := by omega
      have HJ := Lib.hid hJ
      have HK := Lib.hid hnx
      have HN := Lib.hid hn₀
      clear hJ hnx hn₀
      have hBi : Bi < wr.heap.size := World.block_lt_of_cell? _ _ f0
      by_cases q : z.2 < z.1
      · have d : decide (z.2 < z.1) = true := decide_eq_true q
        have HP := Lib.hid (PM.out q)
        have HJs := Lib.hid hJs
        clear q hJs hzx hY hr h0
        gi_wp2_with (first
          | (refine ⟨trivial, ?_⟩; gi_at_call 29; refine (callsIn_wide.2 (overlap_any x y _)).mono ?_; rintro e w1 ⟨rfl, hg1⟩; rw [← HOV.out]; have HG1 := Lib.hid ((Grew.refl wr).alloc _ |>.trans hg1); clear hg1)
          | (refine ⟨trivial, ?_⟩; gi_at_call 25; refine (callsIn_wide.2 (isEmpty_any z _)).mono ?_; rintro e w2 ⟨rfl, hg2⟩; have HG2 := Lib.hid ((HG1.out.alloc _).trans hg2); clear hg2))
        refine ⟨fun _ h => (by cases h), ?_⟩
        gi_wp2
        go_roundw
        case rel => exact ⟨k + 1, by omega, by simp, by rw [HP.out]; exact abides HJ.out HJs.out HG2.out, kp_t HK.out (kp_grew HG2.out (Nat.le_trans HN.out HK.out.1.size))⟩
        case measure => simp [intOf]; omega
      · have d : decide (z.2 < z.1) = false := decide_eq_false q
        have HP := Lib.hid (PH.out q)
        have HJs := Lib.hid hJs
        have HY := Lib.hid hY
        clear q hJs hzx hY hr h0
        gi_wp2_with (first
          | (refine ⟨trivial, ?_⟩; gi_at_call 29; refine (callsIn_wide.2 (overlap_any x y _)).mono ?_; rintro e w1 ⟨rfl, hg1⟩; rw [← HOV.out]; have HG1 := Lib.hid ((Grew.refl wr).alloc _ |>.trans hg1); clear hg1)
          | (refine ⟨trivial, ?_⟩; gi_at_call 25; refine (callsIn_wide.2 (isEmpty_any z _)).mono ?_; rintro e w2 ⟨rfl, hg2⟩; obtain ⟨c0, c1⟩ := kept_new hg2; have HG2 := Lib.hid ((HG1.out.alloc _).trans hg2); obtain ⟨fn, tmps, assign, body, hy, hR⟩ := HY.out _ z w2 (abides HJ.out HJs.out HG2.out) (Nat.lt_of_le_of_lt PL.out hlt); clear hg2))
        refine hR.mono ?_
        rintro e W3 (⟨rfl, hJ3, hk3⟩ | ⟨rfl, hJx3⟩)
        · have HJ3 := Lib.hid hJ3
          have HK3 := Lib.hid hk3
          clear hJ3 hk3 hR
          gi_wp2
          go_roundw
          case rel => exact ⟨k + 1, by omega, by simp, by rw [HP.out]; exact HJ3.out, kp_t HK.out (kp_t (kp_grew HG2.out (Nat.le_trans HN.out HK.out.1.size)) HK3.out)⟩
          case measure => simp [intOf]; omega
        · have HJx := Lib.hid hJx3
          clear hJx3 hR
          gi_wp2
          refine bodyPost_ret (results_none rfl _ _ _) rfl ?_
          exact ⟨⟨_, rfl⟩, .inr ⟨_, ⟨k + 1, by omega, by simp, HP.out.symm⟩, HJx.out⟩⟩
    · obtain rfl : k = len := by omega
      gi_wp2
      go_end0
      exact ⟨⟨_, rfl⟩, .inl ⟨_, rfl, by rw [List.take_of_length_le (by omega)] at hJs; exact hJs⟩⟩

/-- **The iterator's contract**: all parts, in their order; or a beginning of them, where a round has said 'no more'. -/
theorem parts_stops (n : Nat) (hn : 1 ≤ n) (n₀ : Nat) (sa : Option Addr) (len cap : Nat) (y : Int × Int) (zs : List (Int × Int)) (hm : len ≤ 1000) (w : World) (Bs Bi : Nat)
    (hBs : w.cell? ⟨Bs, 0, none⟩ = some (.slice sa len cap)) (hi0 : w.cell? ⟨Bi, 0, none⟩ = some (.int .i64 y.1)) (hi1 : w.cell? ⟨Bi, 1, none⟩ = some (.int .i64 y.2)) (hn₀ : n₀ ≤ w.heap.size)
    (hz : len = zs.length) (hr : 0 < len → ∃ b off, sa = some ⟨b, off, none⟩ ∧ b < n₀ ∧ ∀ i, i < len → w.cell? ⟨b, off + i * 2, none⟩ = some (.int .i64 (zs.getD i (0, 0)).1) ∧ w.cell? ⟨b, off + i * 2 + 1, none⟩ = some (.int .i64 (zs.getD i (0, 0)).2)) :
    SeqStopsK Fence.wide n Try.prog 41 #[.pointer (some ⟨Bs, 0, none⟩), .pointer (some ⟨Bi, 0, none⟩)] (fun x : Int × Int => #[Value.agg #[.int .i64 x.1, .int .i64 x.2]]) (Kp n₀ Bi) (fun ys => ys = partsL zs y) (fun pre => ∃ k, k ≤ len ∧ 0 < pre.length ∧ pre = partsL (zs.take k) y) len w := fun l J Jx W hW hJ _ hY h0 => by
  have k : ∀ {b j : Nat} {v : Value}, w.cell? ⟨b, j, none⟩ = some v → W.cell? ⟨b, j, none⟩ = some v := fun {b j v} h => (hW.cell (p := ⟨b, j, none⟩) (World.block_lt_of_cell? _ _ h)).trans h
  exact parts1_in n hn l Bs Bi n₀ sa len cap y zs hm J Jx hY W hJ (k hBs) (k hi0) (k hi1) (Nat.le_trans hn₀ hW.size) hz (fun h => by
    obtain ⟨b, off, e, hb, g⟩ := hr h
    exact ⟨b, off, e, hb, fun i hi => ⟨k (g i hi).1, k (g i hi).2⟩⟩) h0
end Go.Proofs.Ytdihbkhhhonlpaa
