/- The landed writer's pieces: a list in memory, the last one first; all: their bytes, in their order (slices.Backward over a row of texts; strings.Builder). The landed writer's all: the bytes of its pieces. -/
import Derived.Test.YtegbldkkggpjcaaGreatDoorTxtOwnE
import Derived.Test.YtegbldkkggpjcaaGreatDoorShelf
import Derived.RangeFuncNested
import Derived.RangeFuncBound
import Derived.RangeFuncCalls
import Derived.RangeFuncLeaves
import Derived.RangeFuncBox
import Derived.RangeFuncFrom
import Derived.Shelf.Abstract
import Derived.Shelf.AbstractIn
import Derived.Shelf.RegionOpen
import Derived.Shelf.Strings.BuilderK
import Derived.OwnWalkIn
import Derived.TacticsInMore
import Derived.LoopNIn
import Derived.LoopIn
import Derived.Maps.OwnIn
namespace Go.Proofs.YtegbldkkggpjcaaGreatDoor
open Go.RowKit Go.Sort Go.Shelf

attribute [local go_sem] Oper.semAt_some

/-- A list of pieces, the last one first. -/
def Chain (w : World) : Option Addr → List ByteArray → Prop
  | p, [] => p = none
  | p, s :: l => ∃ b p', p = some ⟨b, 0, none⟩ ∧ w.heap[b]? = some (.cells #[.pointer p', .string s] 125 (0, 0)) ∧ Chain w p' l
theorem Chain.moves {w w' : World} {l : List ByteArray} : ∀ {p : Option Addr}, Chain w p l → (∀ (b : Nat) (x : Array Value) (f : Nat × Nat), w.heap[b]? = some (Obj.cells x 125 f) → w'.heap[b]? = w.heap[b]?) → Chain w' p l := by
  induction l with
  | nil => exact fun h _ => h
  | cons s l ih =>
    rintro p ⟨b, p', e, hb, hr⟩ k
    exact ⟨b, p', e, (k _ _ _ hb).trans hb, ih hr k⟩
theorem Chain.later {w w' : World} {p : Option Addr} {l : List ByteArray} (h : Chain w p l) (k : RowKit.Below w.heap.size w w') : Chain w' p l :=
  h.moves fun b _ _ q => k.block b (lt_of_block q)
/-- The bytes of pieces, the last one first. -/
def catB : List ByteArray → List UInt8
  | [] => []
  | s :: l => catB l ++ s.data.toList
theorem catB_reverse (l : List ByteArray) : catB l = l.reverse.flatMap (fun s => s.data.toList) := by
  induction l with
  | nil => rfl
  | cons s l ih => simp [catB, ih]

/-! ### the library's iterator over a row of texts, from its end on -/

/-- What a round that goes on keeps: all below n₀, and the iterator's own box. -/
def Kp (n₀ Bi : Nat) (W W' : World) : Prop := RowKit.Below n₀ W W' ∧ (Bi < W.heap.size → Bi < W'.heap.size ∧ W'.heap[Bi]? = W.heap[Bi]?)
theorem kp_t {n₀ Bi : Nat} {A B C : World} (h : Kp n₀ Bi A B) (k : Kp n₀ Bi B C) : Kp n₀ Bi A C := ⟨h.1.trans k.1, fun hl => ⟨(k.2 (h.2 hl).1).1, ((k.2 (h.2 hl).1).2).trans (h.2 hl).2⟩⟩
theorem kp_b {n₀ Bi : Nat} {w : World} (hn : n₀ ≤ w.heap.size) (hb : Bi < w.heap.size) (W : World) (l : Nat) (o o' : Obj) (hl : w.heap.size ≤ l) (h : W.heap[l]? = some o) (h1 : o.isCells = false) (h2 : o.isWalk = false) : Kp n₀ Bi W (W.putObj l o') :=
  ⟨belowK_b hn W l o o' hl h h1 h2, fun hB => ⟨by simpa using hB, World.putObj_heap_other (by omega)⟩⟩
theorem kp_refl (n₀ Bi : Nat) (W : World) : Kp n₀ Bi W W := ⟨Below.refl _ _, fun h => ⟨h, rfl⟩⟩
theorem Kp.cell {n₀ Bi : Nat} {W W' : World} (h : Kp n₀ Bi W W') {j : Nat} {v : Value} (hc : W.cell? ⟨Bi, j, none⟩ = some v) : W'.cell? ⟨Bi, j, none⟩ = some v :=
  (World.cell?_of_block (h.2 (World.block_lt_of_cell? _ _ hc)).2).trans hc

/-- An index, and a text of at most so many bytes. -/
abbrev Sm := { x : Int × ByteArray // x.2.size ≤ 1000000 }
/-- What has come when m are left. -/
def backL (zs : List ByteArray) (h : ∀ i, (zs.getD i ⟨#[]⟩).size ≤ 1000000) (m : Nat) : List Sm := (List.range (zs.length - m)).map fun j => ⟨(((zs.length - 1 - j : Nat) : Int), zs.getD (zs.length - 1 - j) ⟨#[]⟩), h _⟩
theorem backL_full (zs : List ByteArray) (h) : backL zs h zs.length = [] := by simp [backL]
theorem backL_step (zs : List ByteArray) (h) (j : Nat) (hj : j < zs.length) : backL zs h j = backL zs h (j + 1) ++ [⟨((j : Int), zs.getD j ⟨#[]⟩), h j⟩] := by
  unfold backL
  have e : zs.length - 1 - (zs.length - (j + 1)) = j := by omega
  rw [show zs.length - j = (zs.length - (j + 1)) + 1 by omega, List.range_succ, List.map_append]
  simp only [List.map_cons, List.map_nil, e]
theorem backL_len (zs : List ByteArray) (h) (m : Nat) : (backL zs h m).length = zs.length - m := by simp [backL]
theorem backL_all (zs : List ByteArray) (h) : (backL zs h 0).map (·.1.2) = zs.reverse := by
  unfold backL
  rw [List.map_map]
  apply List.ext_getElem
  · simp
  · intro i h1 h2
    simp at h1
    simp [List.getElem_reverse, List.getD, List.getElem?_eq_getElem (show zs.length - 1 - i < zs.length by omega)]

set_option maxRecDepth 100000 in
set_option maxHeartbeats 4000000 in
theorem back1_in (n : Nat) (hn : 1 ≤ n) (l Bs n₀ : Nat) (sa : Option Addr) (len cap : Nat) (zs : List ByteArray) (hsm : ∀ i, (zs.getD i ⟨#[]⟩).size ≤ 1000000) (hm : len ≤ 1000000) (J Jx : List Sm → World → Prop)
    (hY : ∀ pre x W, J pre W → pre.length < len → YieldAt Fence.wide (n - 1) Tryz.prog l #[.int .i64 x.1.1, .string x.1.2] W fun e W' =>
      (e = .returned (.bool true) ∧ J (pre ++ [x]) W' ∧ Kp n₀ Bs W W') ∨ (e = .returned (.bool false) ∧ Jx (pre ++ [x]) W'))
    (W : World) (hBs : W.cell? ⟨Bs, 0, none⟩ = some (.slice sa len cap)) (hz : len = zs.length)
    (hr : 0 < len → ∃ b off, sa = some ⟨b, off, none⟩ ∧ b < n₀ ∧ ∀ i, i < len → W.cell? ⟨b, off + i, none⟩ = some (.string (zs.getD i ⟨#[]⟩))) (h0 : J [] W) :
    CallsIn Fence.wide n Tryz.prog 87 #[.func (.yield l) #[] #[], .pointer (some ⟨Bs, 0, none⟩)] W fun e W' => (∃ v, e = .returned v) ∧
      ((∃ ys, ys = backL zs hsm 0 ∧ J ys W') ∨ (∃ pre, True ∧ Jx pre W')) := by
  refine callsIn_of_wp Tryz.func87 rfl trivial ?_ rfl
  simp only [Tryz.ntmps87, List.size_toArray, List.length_cons, List.length_nil, Nat.reduceAdd, Nat.reduceSub, Array.replicate_succ, Array.replicate_zero, List.push_toArray, List.append_toArray, List.nil_append, List.cons_append]
  have HZ := Lib.hid hz; clear hz
  have HR := Lib.hid hr; clear hr
  gi_wp2
  gi_loopw [3] (fun i wr => ∃ m : Nat, m ≤ len ∧ i = .int .i64 ((m : Int) - 1) ∧ J (backL zs hsm m) wr ∧ Kp n₀ Bs W wr)
    (fun i _ => (intOf i + 1).toNat)
  case atStart => exact ⟨len, Nat.le_refl _, rfl, by rw [show backL zs hsm len = [] by rw [HZ.out, backL_full]]; exact h0, kp_refl _ _ W⟩
  case round =>
    obtain ⟨m, hk, rfl, hJs, hnx⟩ := hrel
    have f0 := hnx.cell hBs
    cases m with
    | zero =>
      gi_wp2
      go_end0
      exact ⟨⟨_, rfl⟩, .inl ⟨_, rfl, hJs⟩⟩
    | succ j =>
      rw [show (((j + 1 : Nat) : Int) - 1) = (j : Int) by omega]
      obtain ⟨b, off, rfl, hb, g⟩ := HR.out (by omega)
      have l0 := (hnx.1.cell (p := ⟨b, off + j, none⟩) hb).trans (g j (by omega))
      have HP := Lib.hid (backL_step zs hsm j (by have := HZ.out; omega))
      obtain ⟨fn, tmps, assign, body, hy, hR⟩ := hY _ ⟨((j : Int), zs.getD j ⟨#[]⟩), hsm j⟩ wr hJs (by rw [backL_len]; have := HZ.out; omega)
      dsimp only at hy
      have HS := Lib.hid (hsm j)
      generalize hx : zs.getD j ⟨#[]⟩ = x at l0 hy
      clear hx
      have i1 : (0 : Int) ≤ (j : Int) := by omega
      have i2 : (j : Int) < (len : Int) := by omega
      gi_wp2
      refine hR.mono ?_
      rintro e W3 (⟨rfl, hJ3, hk3⟩ | ⟨rfl, hJx3⟩)
      · gi_wp2
        go_roundw
        case rel => exact ⟨j, by omega, rfl, by rw [HP.out]; exact hJ3, kp_t hnx hk3⟩
        case measure => simp [intOf]
      · gi_wp2
        refine bodyPost_ret (results_none rfl _ _ _) rfl ?_
        exact ⟨⟨_, rfl⟩, .inr ⟨_, trivial, hJx3⟩⟩

theorem back_stops (n : Nat) (hn : 1 ≤ n) (n₀ Bs : Nat) (sa : Option Addr) (len cap : Nat) (zs : List ByteArray) (hsm : ∀ i, (zs.getD i ⟨#[]⟩).size ≤ 1000000) (hm : len ≤ 1000000) (w : World) (hBs : w.cell? ⟨Bs, 0, none⟩ = some (.slice sa len cap)) (hz : len = zs.length)
    (hr : 0 < len → ∃ b off, sa = some ⟨b, off, none⟩ ∧ b < n₀ ∧ ∀ i, i < len → w.cell? ⟨b, off + i, none⟩ = some (.string (zs.getD i ⟨#[]⟩))) :
    SeqStopsK Fence.wide n Tryz.prog 87 #[.pointer (some ⟨Bs, 0, none⟩)] (fun x : Sm => #[Value.int .i64 x.1.1, Value.string x.1.2]) (Kp n₀ Bs) (fun ys => ys = backL zs hsm 0) (fun _ => True) len w := fun l J Jx W hW _ _ hY h0 => by
  have k : ∀ {b j : Nat} {v : Value}, w.cell? ⟨b, j, none⟩ = some v → W.cell? ⟨b, j, none⟩ = some v := fun {b j v} h => (hW.cell (p := ⟨b, j, none⟩) (World.block_lt_of_cell? _ _ h)).trans h
  exact back1_in n hn l Bs n₀ sa len cap zs hsm hm J Jx hY W (k hBs) hz (fun h => by
    obtain ⟨b, off, e, hb, g⟩ := hr h
    exact ⟨b, off, e, hb, fun i hi => k (g i hi)⟩) h0
end Go.Proofs.YtegbldkkggpjcaaGreatDoor
namespace Go.Proofs.YtegbldkkggpjcaaGreatDoor
open Go.RowKit Go.Sort Go.Shelf

attribute [local go_sem] Oper.semAt_some

theorem builderF_own {β : Type} (T e : TypeId) (B b : Nat) (f : β → List Value) : Own (fun s W => Lib.IsBuilderF T e B b (f s) W) := by
  have key : ∀ (p : Value) (s : β) (X Y : World) (row : Option Nat), Lib.BuilderAtF T e B b p (f s) X → X.grownBy Y row → (∀ r, row = some r → ∃ o : Obj, X.heap[r]? = some o ∧ o.isCells = false) → Lib.BuilderAtF T e B b p (f s) Y := by
    intro p s X Y row h hg hrow
    obtain ⟨hB, v, hb, hown, hne⟩ := h
    have keep : ∀ (k : Nat) (x : Array Value) (t : TypeId) (z : Nat × Nat), X.heap[k]? = some (.cells x t z) → Y.heap[k]? = some (.cells x t z) := by
      intro k x t z hk
      refine (hg.block k (Array.getElem?_eq_some_iff.1 hk).1 (fun e' => ?_)).trans hk
      obtain ⟨o, ho, hc⟩ := hrow k e'.symm
      rw [hk] at ho; cases ho; cases hc
    refine ⟨hB, v, keep _ _ _ _ hb, ⟨hown.1, ?_⟩, hne⟩
    rcases hown.2 with hn | ⟨g, cap, cur, fz, hv, hbg, hgg, rest⟩
    · exact .inl hn
    · exact .inr ⟨g, cap, cur, fz, hv, hbg, keep _ _ _ _ hgg, rest⟩
  intro s X Y row h hg hrow
  exact h.elim (fun q => .inl (key _ s X Y row q hg hrow)) (fun q => .inr (key _ s X Y row q hg hrow))
theorem keepsOthers_of {e : TypeId} {b : Nat} {W W' : World} (h : Lib.OthersKept e (some b) W W') (hs : W.heap.size ≤ W'.heap.size) (hb : ∃ x t z, W.heap[b]? = some (.cells x t z)) : KeepsOthers W W' :=
  ⟨hs, fun k o hk ho => h k o hk (fun q => by
      obtain ⟨x, t, z, hb⟩ := hb
      simp only [Option.some.injEq] at q
      subst q
      rw [hk] at hb; cases hb; cases ho) (fun c z q => by subst q; cases ho)⟩
theorem builder_cells {T e : TypeId} {B b : Nat} {bs : List Value} {W : World} (h : Lib.IsBuilderF T e B b bs W) : ∃ x t z, W.heap[b]? = some (.cells x t z) := by
  rcases h with ⟨_, v, hb, _⟩ | ⟨_, v, hb, _⟩
  · exact ⟨_, _, _, hb⟩
  · exact ⟨_, _, _, hb⟩
theorem kp_others {n₀ Bb Bi : Nat} {W W' : World} {sv : Value} (hb : RowKit.Below n₀ W W') (h : Lib.OthersKept 5 (some Bb) W W') (hi : Boxed W Bi 93 sv) (hne : Bi ≠ Bb) : Kp n₀ Bi W W' :=
  ⟨hb, fun hl => by
    have q := h Bi _ hi (fun e => hne (Option.some.inj e)) (fun c z e => by cases e)
    exact ⟨(Array.getElem?_eq_some_iff.1 q).1, q.trans (show W.heap[Bi]? = _ from hi).symm⟩⟩
theorem byteCells_app (a b : List UInt8) : Lib.byteCells (a ++ b) = Lib.byteCells a ++ Lib.byteCells b := by simp [Lib.byteCells]
theorem strCells_bytes (s : ByteArray) : Lib.strCells s = Lib.byteCells s.data.toList := rfl
def cat2 (pre : List Sm) : List UInt8 := pre.flatMap (fun x => x.1.2.data.toList)
theorem cat2_snoc (pre : List Sm) (x : Sm) : cat2 (pre ++ [x]) = cat2 pre ++ x.1.2.data.toList := by simp [cat2]
theorem cat2_all (zs : List ByteArray) (h) : cat2 (backL zs h 0) = catB zs := by
  rw [catB_reverse, ← backL_all zs h, List.flatMap_map]; rfl
theorem cat2_len (pre : List Sm) : (cat2 pre).length ≤ 1000000 * pre.length := by
  induction pre with
  | nil => exact Nat.zero_le _
  | cons x l ih =>
    have := x.2
    simp only [cat2, List.flatMap_cons, List.length_append, List.length_cons, Array.length_toList] at ih ⊢
    have e : x.1.2.data.size = x.1.2.size := rfl
    omega
theorem backward_any (sa : Option Addr) (len cap : Nat) (w : World) : Calls Tryz.prog 71 #[.slice sa len cap] w fun e w' => e = .returned (.func (.func 87) #[] #[.pointer (some ⟨w.heap.size, 0, none⟩)]) ∧ w' = w.alloc (.cells #[.slice sa len cap] 93) := by
  go_enter Tryz.func71, Tryz.ntmps71
  go_wp2
  go_ret
  exact ⟨rfl, rfl⟩
theorem write_any (B b : Nat) (bs : List UInt8) (s : ByteArray) (w : World) (h : Lib.IsBuilderF 128 5 B b (Lib.byteCells bs) w) (hlen : bs.length + s.size ≤ 140737488355328) (hBw : B ≤ w.heap.size) :
    Calls Tryz.prog 72 #[.pointer (some ⟨b, 0, none⟩), .string s] w fun e w' => e = .returned (.tuple #[.int .i64 s.size, .nilIface]) ∧ Lib.IsBuilderF 128 5 B b (Lib.byteCells (bs ++ s.data.toList)) w' ∧ RowKit.Below B w w' ∧ Lib.OthersKept 5 (some b) w w' := by
  refine (Any.Builder_WriteString_k { Tryz.lays156 with } Tryz.Builder_Extra_156 B b (Lib.byteCells bs) s w h (by rw [Lib.byteCells_length]; exact hlen) hBw).mono ?_
  rintro e w' ⟨he, h1, h2, h3⟩
  refine ⟨he, .inr ?_, h2, h3⟩
  rw [byteCells_app]
  exact h1

theorem cat_part : ∀ (l : List ByteArray) (i : Nat), (l.getD i ⟨#[]⟩).size ≤ (catB l).length
  | [], i => by simp [List.getD]; exact Nat.zero_le _
  | s :: l, 0 => by
    have e : s.data.size = s.size := rfl
    simp [catB, List.getD, e]
  | s :: l, i + 1 => by
    have := cat_part l i
    simp only [catB, List.length_append, List.getD_cons_succ]
    omega
set_option maxRecDepth 100000 in
set_option maxHeartbeats 8000000 in
theorem all_in (n : Nat) (hn : 3 ≤ n) (B : Nat) (p : Option Addr) (q : ByteArray) (e : Int) (l : List ByteArray) (w : World) (hc : w.heap[B]? = some (.cells #[.pointer p, .string q, .int .i64 e] 51 (0, 0))) (hch : Chain w p l) (hl : l.length ≤ 1000000) (hsz : (catB l).length ≤ 1000000) :
    CallsIn Fence.wide n Tryz.prog 50 #[.pointer (some ⟨B, 0, none⟩)] w fun x w' => x = .returned (.string ⟨(catB l).toArray⟩) ∧ RowKit.Below w.heap.size w w' := by
  have h1 : 1 ≤ n := by omega
  refine callsIn_of_wp_marks Tryz.func50 rfl trivial ?_ rfl
  simp only [Tryz.ntmps50, List.size_toArray, List.length_cons, List.length_nil, Nat.reduceAdd, Nat.reduceSub, Array.replicate_succ, Array.replicate_zero, List.push_toArray, List.append_toArray, List.nil_append, List.cons_append]
  obtain ⟨i0, hi, hz0, hz1, hz2⟩ := info_parts infoStr
  have c0 : w.cell? ⟨B, 0, none⟩ = some (.pointer p) := by simp [World.cell?, hc]
  have HCH := Lib.hid hch; clear hch hc
  gi_wp2
  gi_loopw [3, 4] (fun sl pt wr => ∃ (l1 l2 : List ByteArray) (p' : Option Addr), Hid (l = l1 ++ l2) ∧ pt = .pointer p' ∧ Hid (Chain w p' l2) ∧ OwnS wr w.heap.size sl l1 ∧ Hid (RowKit.Below w.heap.size w wr))
    (fun sl _ _ => l.length - (match sl with | .slice _ k _ => k | _ => 0))
  case atStart => exact ⟨[], l, p, Lib.hid rfl, rfl, HCH, World.ownsRow_nil _ _ _ _, Lib.hid (Below.refl _ _)⟩
  case round =>
    obtain ⟨l1, l2, p', HL, rfl, HU, hown, HB⟩ := hrel
    cases l2 with
    | nil =>
      obtain rfl : p' = none := HU.out
      have e2 : l = l1 := by have := HL.out; simpa using this
      subst e2
      obtain ⟨sa, cap, b, off, rfl, _, hrd1, hrd2⟩ := hown.reads
      have HR1 := Lib.hid hrd1
      have HR2 := Lib.hid hrd2
      have HS := Lib.hid (show ∀ i, (l.getD i ⟨#[]⟩).size ≤ 1000000 from fun i => Nat.le_trans (cat_part l i) hsz)
      clear hown hrd1 hrd2 HU
      gi_wp2_with (refine ⟨trivial, ?_⟩; gi_at_call 71; refine (callsIn_wide.2 (backward_any _ _ _ _)).mono ?_; rintro _ w1 ⟨rfl, rfl⟩)
      have hle := HB.out.size
      refine wpIn_rangeFunc_ownF rfl h1 (gf := 87) (lb := #[.pointer (some ⟨wr.heap.size + 1, 0, none⟩)]) rfl trivial (enters_of Tryz.func87 (by kernel_rfl) rfl)
        (back_stops (n - 1) (by omega) wr.heap.size (wr.heap.size + 1) sa l.length cap l HS.out hl _ (by simp [go_sem]) rfl (fun h => ⟨b, off, (HR1.out h).1, (HR1.out h).2, fun i hi => by
          have := HR2.out i hi
          rw [World.cell?_alloc_old _ _ _ (by simp; have := World.block_lt_of_cell? _ _ this; simp at this; omega), World.cell?_alloc_old _ _ _ (Nat.ne_of_lt (World.block_lt_of_cell? _ _ this))]
          exact this⟩)) kp_t (kp_b (by simp; omega) (by simp)) (Below.refl _ _) (fun _ => rfl)
        (fun pre W => (Lib.IsBuilderF 128 5 wr.heap.size wr.heap.size (Lib.byteCells (cat2 pre)) W ∧ Boxed W (wr.heap.size + 1) 93 (.slice sa l.length cap)) ∧ RowKit.Below w.heap.size w W ∧ RowKit.Below wr.heap.size wr W)
        (fun _ _ _ => False)
        (OwnFrom.and (Own.from (fun s A B row hs hg hr => ⟨builderF_own _ _ _ _ (fun pre => Lib.byteCells (cat2 pre)) s A B row hs.1 hg hr, boxed_own _ _ (fun _ => .slice sa l.length cap) s A B row hs.2 hg hr⟩) _) (OwnFrom.and (ownFrom_below (Nat.le_refl _) (by simp; omega)) (ownFrom_below (Nat.le_refl _) (by simp; omega))))
        (fun _ _ _ _ _ hs _ _ => hs)
        ⟨⟨(Lib.IsBuilderF.of (Lib.fresh_isBuilder 128 5 wr)).alloc _, ?box⟩, ?bel1, ?bel2⟩
        (fun x => { tmps := #[.pointer (some ⟨B, 0, none⟩), undef, .string ⟨#[]⟩, .slice sa l.length cap, .pointer none, .pointer (some ⟨wr.heap.size, 0, none⟩), undef, .string x.1.2, .pointer (some ⟨B, 0, none⟩), .pointer (some ⟨B, 0, none⟩), .pointer (some ⟨B, 0, none⟩), .pointer p, .pointer none, .bool false, u14, u15, u16, u17, u18, u19, u20, u21, u22, u23, u24, .slice sa l.length cap, .func (.func 87) #[] #[.pointer (some ⟨wr.heap.size + 1, 0, none⟩)], .int .i64 x.1.1, .string x.1.2, undef, undef, undef], defers := [] }) ?assign ?body ?done ?stop
      case box =>
        have := Boxed.new (wr.alloc (.cells #[.pointer none, .slice none 0 0] 128)) 93 (.slice sa l.length cap)
        simpa using this
      case bel1 => exact (HB.out.alloc hle _).alloc (by simp; omega) _
      case bel2 => exact ((Below.refl _ wr).alloc (Nat.le_refl _) _).alloc (by simp) _
      case assign =>
        intro l' x W K hK
        gi_wp2
        exact hK
      case body =>
        rintro l' pre x W ⟨⟨hI, hbx⟩, hb1, hb2⟩ hlt
        have hW := hb2.size
        have h12 : 1 ≤ n - 1 - 1 := by omega
        have hq := cat2_len pre
        have hx := x.2
        have HI := Lib.hid hI
        have HWr := Lib.hid (write_any wr.heap.size wr.heap.size (cat2 pre) x.1.2 W hI (by omega) hW)
        clear hI
        gi_wp2_with (refine ⟨trivial, ?_⟩; gi_at_call 72; refine (CallsIn.inRound l' (callsIn_wide.2 HWr.out)).mono ?_; rintro _ W2 ⟨rfl, g1, g2, g3⟩)
        exact ⟨keepsOthers_of g3 g2.size ((builder_cells HI.out)), kp_others g2 g3 hbx (by omega), ⟨by rw [cat2_snoc]; exact g1, g3 _ _ hbx (fun e => by simp at e) (fun c z e => by cases e)⟩, hb1.trans (g2.mono hle), hb2.trans g2⟩
      case done =>
        rintro D ys W hD rfl ⟨⟨hI, hbx⟩, hb1, hb2⟩ hK
        have hW := hb2.size
        have HSt := Lib.hid (Tryz.Builder_String_any_k wr.heap.size wr.heap.size _ W hI hW)
        clear hI
        gi_wp2_with (refine ⟨trivial, ?_⟩; gi_at_call 73; refine (callsIn_wide.2 HSt.out).mono ?_; rintro _ W2 ⟨rfl, _, g2, g3⟩)
        simp only [World.size_alloc] at hD
        have hK' := g3 _ _ hK (fun e => by simp only [Option.some.injEq] at e; omega) (fun c z e => by cases e)
        refine ⟨by simp, .inl ⟨_, _, rfl, run_takeDeferred hK', ?_⟩⟩
        refine ⟨_, results_tmp rfl _ _ _, ?_, (hb1.trans (g2.mono hle)).trans (belowK_b (w := w) (Nat.le_refl _) W2 D _ _ (by omega) hK' rfl rfl)⟩
        simp [cat2_all]
      case stop =>
        rintro D c pre W _ _ h _
        exact h.elim
    | cons s l3 =>
      obtain ⟨b, p2, rfl, hb, r⟩ := HU.out
      obtain ⟨sa, cap, _, _, rfl, _, _, _⟩ := hown.reads
      have hbs : b < w.heap.size := lt_of_block hb
      have hb2 := (HB.out.block b hbs).trans hb
      have d0 : wr.cell? ⟨b, 0, none⟩ = some (.pointer p2) := by simp [World.cell?, hb2]
      have d1 : wr.cell? ⟨b, 1, none⟩ = some (.string s) := by simp [World.cell?, hb2]
      have HR := Lib.hid r
      have H2 := Lib.hid hb
      have hsz2 := HB.out.size
      have hlen : l1.length + 1 ≤ l.length := by rw [HL.out]; simp
      clear r hb hb2 HU
      gi_wp2_with (gi_at_builtin; refine wpListIn_append_own _ rfl _ _ 93 rfl w.heap.size 9 i0 (.string ⟨#[]⟩) 1 16 Tryz.underlying93 hi hz0 hz1 hz2 rfl (by decide) _ _ _ rfl (World.ownsRow.alloc hown _) ⟨wr.heap.size, 0, none⟩ 1 1 [.string s] rfl rfl ?c1 ?c2 ?c3 ?c4 ?c5 ?_)
      case c1 =>
        intro j u hj
        match j, hj with
        | 0, hj => simp at hj; subst hj; simp [Addr.add]
      case c2 => intro u hu; simp at hu; subst hu; rfl
      case c3 => unfold maxLen; omega
      case c4 => omega
      case c5 => simp; omega
      intro v' w2 hown' hgrow _
      have hb' := OwnS.below hown HB.out (Nat.le_refl _) hsz2 _ hgrow
      have ho' : OwnS w2 w.heap.size v' (l1 ++ [s]) := OwnS.snoc hown'
      have hb3 := (hb'.block b hbs).trans H2.out
      have k0 : w2.cell? ⟨b, 0, none⟩ = some (.pointer p2) := by simp [World.cell?, hb3]
      obtain ⟨g', cap', rfl⟩ := ownsRow_succ hown'
      clear hown' hgrow hown d0 d1 hb3
      gi_wp2
      go_roundw
      case rel => exact ⟨l1 ++ [s], l3, p2, Lib.hid (by have := HL.out; simpa using this), rfl, HR, ho', Lib.hid hb'⟩
      case measure => simp; omega
theorem all_any (B : Nat) (p : Option Addr) (q : ByteArray) (e : Int) (l : List ByteArray) (w : World) (hc : w.heap[B]? = some (.cells #[.pointer p, .string q, .int .i64 e] 51 (0, 0))) (hch : Chain w p l) (hl : l.length ≤ 1000000) (hsz : (catB l).length ≤ 1000000) :
    Calls Tryz.prog 50 #[.pointer (some ⟨B, 0, none⟩)] w fun x w' => x = .returned (.string ⟨(catB l).toArray⟩) ∧ RowKit.Below w.heap.size w w' :=
  (callsIn_wide (n := 3)).1 (all_in 3 (by omega) B p q e l w hc hch hl hsz)
end Go.Proofs.YtegbldkkggpjcaaGreatDoor
