/- The landed writer's pieces: a list in memory, the last one first; all: their bytes, in their order (slices.Backward over a row of texts; strings.Builder). -/
import Derived.Test.YtegbldkkggpjcaaDoorTxtOwnE
import Derived.Test.YtegbldkkggpjcaaDoorShelf
import Derived.RangeFuncNested
import Derived.RangeFuncBound
import Derived.RangeFuncCalls
import Derived.RangeFuncLeaves
import Derived.RangeFuncBox
import Derived.RangeFuncFrom
import Derived.Shelf.Abstract
import Derived.Shelf.AbstractIn
import Derived.Shelf.RegionOpen
import Derived.Shelf.Strings.BuilderK
import Derived.OwnWalkIn
import Derived.TacticsInMore
import Derived.LoopNIn
import Derived.LoopIn
import Derived.Maps.OwnIn
namespace Go.Proofs.YtegbldkkggpjcaaDoor
open Go.RowKit Go.Sort Go.Shelf

attribute [local go_sem] Oper.semAt_some

/-- A list of pieces, the last one first. -/
def Chain (w : World) : Option Addr → List ByteArray → Prop
  | p, [] => p = none
  | p, s :: l => ∃ b p', p = some ⟨b, 0, none⟩ ∧ w.heap[b]? = some (.cells #[.pointer p', .string s] 94 (0, 0)) ∧ Chain w p' l
theorem Chain.moves {w w' : World} {l : List ByteArray} : ∀ {p : Option Addr}, Chain w p l → (∀ (b : Nat) (x : Array Value) (f : Nat × Nat), w.heap[b]? = some (Obj.cells x 94 f) → w'.heap[b]? = w.heap[b]?) → Chain w' p l := by
  induction l with
  | nil => exact fun h _ => h
  | cons s l ih =>
    rintro p ⟨b, p', e, hb, hr⟩ k
    exact ⟨b, p', e, (k _ _ _ hb).trans hb, ih hr k⟩
theorem Chain.later {w w' : World} {p : Option Addr} {l : List ByteArray} (h : Chain w p l) (k : RowKit.Below w.heap.size w w') : Chain w' p l :=
  h.moves fun b _ _ q => k.block b (lt_of_block q)
/-- The bytes of pieces, the last one first. -/
def catB : List ByteArray → List UInt8
  | [] => []
  | s :: l => catB l ++ s.data.toList
theorem catB_reverse (l : List ByteArray) : catB l = l.reverse.flatMap (fun s => s.data.toList) := by
  induction l with
  | nil => rfl
  | cons s l ih => simp [catB, ih]

/-! ### the library's iterator over a row of texts, from its end on -/

/-- What a round that goes on keeps: all below n₀, and the iterator's own box. -/
def Kp (n₀ Bi : Nat) (W W' : World) : Prop := RowKit.Below n₀ W W' ∧ (Bi < W.heap.size → Bi < W'.heap.size ∧ W'.heap[Bi]? = W.heap[Bi]?)
theorem kp_t {n₀ Bi : Nat} {A B C : World} (h : Kp n₀ Bi A B) (k : Kp n₀ Bi B C) : Kp n₀ Bi A C := ⟨h.1.trans k.1, fun hl => ⟨(k.2 (h.2 hl).1).1, ((k.2 (h.2 hl).1).2).trans (h.2 hl).2⟩⟩
theorem kp_b {n₀ Bi : Nat} {w : World} (hn : n₀ ≤ w.heap.size) (hb : Bi < w.heap.size) (W : World) (l : Nat) (o o' : Obj) (hl : w.heap.size ≤ l) (h : W.heap[l]? = some o) (h1 : o.isCells = false) (h2 : o.isWalk = false) : Kp n₀ Bi W (W.putObj l o') :=
  ⟨belowK_b hn W l o o' hl h h1 h2, fun hB => ⟨by simpa using hB, World.putObj_heap_other (by omega)⟩⟩
theorem kp_refl (n₀ Bi : Nat) (W : World) : Kp n₀ Bi W W := ⟨Below.refl _ _, fun h => ⟨h, rfl⟩⟩
theorem Kp.cell {n₀ Bi : Nat} {W W' : World} (h : Kp n₀ Bi W W') {j : Nat} {v : Value} (hc : W.cell? ⟨Bi, j, none⟩ = some v) : W'.cell? ⟨Bi, j, none⟩ = some v :=
  (World.cell?_of_block (h.2 (World.block_lt_of_cell? _ _ hc)).2).trans hc

/-- An index, and a text of at most so many bytes. -/
abbrev Sm := { x : Int × ByteArray // x.2.size ≤ 1000000 }
/-- What has come when m are left. -/
def backL (zs : List ByteArray) (h : ∀ i, (zs.getD i ⟨#[]⟩).size ≤ 1000000) (m : Nat) : List Sm := (List.range (zs.length - m)).map fun j => ⟨(((zs.length - 1 - j : Nat) : Int), zs.getD (zs.length - 1 - j) ⟨#[]⟩), h _⟩
theorem backL_full (zs : List ByteArray) (h) : backL zs h zs.length = [] := by simp [backL]
theorem backL_step (zs : List ByteArray) (h) (j : Nat) (hj : j < zs.length) : backL zs h j = backL zs h (j + 1) ++ [⟨((j : Int), zs.getD j ⟨#[]⟩), h j⟩] := by
  unfold backL
  have e : zs.length - 1 - (zs.length - (j + 1)) = j := by omega
  rw [show zs.length - j = (zs.length - (j + 1)) + 1 by omega, List.range_succ, List.map_append]
  simp only [List.map_cons, List.map_nil, e]
theorem backL_len (zs : List ByteArray) (h) (m : Nat) : (backL zs h m).length = zs.length - m := by simp [backL]
theorem backL_all (zs : List ByteArray) (h) : (backL zs h 0).map (·.1.2) = zs.reverse := by
  unfold backL
  rw [List.map_map]
  apply List.ext_getElem
  · simp
  · intro i h1 h2
    simp at h1
    simp [List.getElem_reverse, List.getD, List.getElem?_eq_getElem (show zs.length - 1 - i < zs.length by omega)]

set_option maxRecDepth 100000 in
set_option maxHeartbeats 4000000 in
theorem back1_in (n : Nat) (hn : 1 ≤ n) (l Bs n₀ : Nat) (sa : Option Addr) (len cap : Nat) (zs : List ByteArray) (hsm : ∀ i, (zs.getD i ⟨#[]⟩).size ≤ 1000000) (hm : len ≤ 1000000) (J Jx : List Sm → World → Prop)
    (hY : ∀ pre x W, J pre W → pre.length < len → YieldAt Fence.wide (n - 1) Tryd.prog l #[.int .i64 x.1.1, .string x.1.2] W fun e W' =>
      (e = .returned (.bool true) ∧ J (pre ++ [x]) W' ∧ Kp n₀ Bs W W') ∨ (e = .returned (.bool false) ∧ Jx (pre ++ [x]) W'))
    (W : World) (hBs : W.cell? ⟨Bs, 0, none⟩ = some (.slice sa len cap)) (hz : len = zs.length)
    (hr : 0 < len → ∃ b off, sa = some ⟨b, off, none⟩ ∧ b < n₀ ∧ ∀ i, i < len → W.cell? ⟨b, off + i, none⟩ = some (.string (zs.getD i ⟨#[]⟩))) (h0 : J [] W) :
    CallsIn Fence.wide n Tryd.prog 77 #[.func (.yield l) #[] #[], .pointer (some ⟨Bs, 0, none⟩)] W fun e W' => (∃ v, e = .returned v) ∧
      ((∃ ys, ys = backL zs hsm 0 ∧ J ys W') ∨ (∃ pre, True ∧ Jx pre W')) := by
  refine callsIn_of_wp Tryd.func77 rfl trivial ?_ rfl
  simp only [Tryd.ntmps77, List.size_toArray, List.length_cons, List.length_nil, Nat.reduceAdd, Nat.reduceSub, Array.replicate_succ, Array.replicate_zero, List.push_toArray, List.append_toArray, List.nil_append, List.cons_append]
  have HZ := Lib.hid hz; clear hz
  have HR := Lib.hid hr; clear hr
  gi_wp2
  gi_loopw [3] (fun i wr => ∃ m : Nat, m ≤ len ∧ i = .int .i64 ((m : Int) - 1) ∧ J (backL zs hsm m) wr ∧ Kp n₀ Bs W wr)
    (fun i _ => (intOf i + 1).toNat)
  case atStart => exact ⟨len, Nat.le_refl _, rfl, by rw [show backL zs hsm len = [] by rw [HZ.out, backL_full]]; exact h0, kp_refl _ _ W⟩
  case round =>
    obtain ⟨m, hk, rfl, hJs, hnx⟩ := hrel
    have f0 := hnx.cell hBs
    cases m with
    | zero =>
      gi_wp2
      go_end0
      exact ⟨⟨_, rfl⟩, .inl ⟨_, rfl, hJs⟩⟩
    | succ j =>
      rw [show (((j + 1 : Nat) : Int) - 1) = (j : Int) by omega]
      obtain ⟨b, off, rfl, hb, g⟩ := HR.out (by omega)
      have l0 := (hnx.1.cell (p := ⟨b, off + j, none⟩) hb).trans (g j (by omega))
      have HP := Lib.hid (backL_step zs hsm j (by have := HZ.out; omega))
      obtain ⟨fn, tmps, assign, body, hy, hR⟩ := hY _ ⟨((j : Int), zs.getD j ⟨#[]⟩), hsm j⟩ wr hJs (by rw [backL_len]; have := HZ.out; omega)
      dsimp only at hy
      have HS := Lib.hid (hsm j)
      generalize hx : zs.getD j ⟨#[]⟩ = x at l0 hy
      clear hx
      have i1 : (0 : Int) ≤ (j : Int) := by omega
      have i2 : (j : Int) < (len : Int) := by omega
      gi_wp2
      refine hR.mono ?_
      rintro e W3 (⟨rfl, hJ3, hk3⟩ | ⟨rfl, hJx3⟩)
      · gi_wp2
        go_roundw
        case rel => exact ⟨j, by omega, rfl, by rw [HP.out]; exact hJ3, kp_t hnx hk3⟩
        case measure => simp [intOf]
      · gi_wp2
        refine bodyPost_ret (results_none rfl _ _ _) rfl ?_
        exact ⟨⟨_, rfl⟩, .inr ⟨_, trivial, hJx3⟩⟩

theorem back_stops (n : Nat) (hn : 1 ≤ n) (n₀ Bs : Nat) (sa : Option Addr) (len cap : Nat) (zs : List ByteArray) (hsm : ∀ i, (zs.getD i ⟨#[]⟩).size ≤ 1000000) (hm : len ≤ 1000000) (w : World) (hBs : w.cell? ⟨Bs, 0, none⟩ = some (.slice sa len cap)) (hz : len = zs.length)
    (hr : 0 < len → ∃ b off, sa = some ⟨b, off, none⟩ ∧ b < n₀ ∧ ∀ i, i < len → w.cell? ⟨b, off + i, none⟩ = some (.string (zs.getD i ⟨#[]⟩))) :
    SeqStopsK Fence.wide n Tryd.prog 77 #[.pointer (some ⟨Bs, 0, none⟩)] (fun x : Sm => #[Value.int .i64 x.1.1, Value.string x.1.2]) (Kp n₀ Bs) (fun ys => ys = backL zs hsm 0) (fun _ => True) len w := fun l J Jx W hW _ _ hY h0 => by
  have k : ∀ {b j : Nat} {v : Value}, w.cell? ⟨b, j, none⟩ = some v → W.cell? ⟨b, j, none⟩ = some v := fun {b j v} h => (hW.cell (p := ⟨b, j, none⟩) (World.block_lt_of_cell? _ _ h)).trans h
  exact back1_in n hn l Bs n₀ sa len cap zs hsm hm J Jx hY W (k hBs) hz (fun h => by
    obtain ⟨b, off, e, hb, g⟩ := hr h
    exact ⟨b, off, e, hb, fun i hi => k (g i hi)⟩) h0
end Go.Proofs.YtegbldkkggpjcaaDoor
