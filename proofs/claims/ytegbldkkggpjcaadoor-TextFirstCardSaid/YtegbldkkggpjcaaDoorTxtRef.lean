/- The contracts of the document's readers and writers, as plain data. -/
import Derived.Test.YtegbldkkggpjcaaDoorNumUnrow
import Derived.Handy
namespace Go.Proofs.YtegbldkkggpjcaaDoor
open Go.RowKit Go.Sort

attribute [local go_sem ↓] Go.wp_at_zero Go.wp_at_succ

/-- The names of pieces. -/
def pNum : ByteArray := ⟨#[110, 117, 109]⟩
def pText : ByteArray := ⟨#[116, 101, 120, 116]⟩
def pRow : ByteArray := ⟨#[114, 111, 119]⟩
def pFlag : ByteArray := ⟨#[102, 108, 97, 103]⟩
def pEnd : ByteArray := ⟨#[101, 110, 100]⟩

/-! ### Readers -/
structure InS where
  s : ByteArray
  pos : Int
  p : ByteArray
  e : Int
def inA (r : InS) : Array Value := #[.string r.s, .int .i64 r.pos, .string r.p, .int .i64 r.e]
def movedS (r : InS) (p : ByteArray) (u e : Int) : InS := if e = 0 then ⟨r.s, u, r.p, r.e⟩ else ⟨r.s, r.pos, p, e⟩
theorem ret_in {r t : InS} (h : r = t) : Ending.returned (.agg (inA r)) = .returned (.agg (inA t)) := by rw [h]

def inV (r : InS) : Value := .agg #[.string r.s, .int .i64 r.pos, .string r.p, .int .i64 r.e]
theorem two_in {r t : InS} {a b : Value} (h : r = t) (k : a = b) : Ending.returned (Value.tuple #[.agg #[.string r.s, .int .i64 r.pos, .string r.p, .int .i64 r.e], a]) = .returned (.tuple #[inV t, b]) := by rw [h, k]; rfl
def numE (r : InS) (most : Int) : Int := if (getZ r.s r.pos).2.2 = 0 ∧ most < (getZ r.s r.pos).1 then 3 else (getZ r.s r.pos).2.2
def numS (r : InS) (most : Int) : InS := if r.e = 0 then movedS r pNum (getZ r.s r.pos).2.1 (numE r most) else r
def numN (r : InS) (most : Int) : Int := if r.e = 0 then (if numE r most = 0 then (getZ r.s r.pos).1 else 0) else 0
/-- A block of four cells that was laid, and what came behind. -/
structure Four (w1 : World) (B : Nat) (a b c d : Value) : Prop where
  c0 : w1.cell? ⟨B, 0, none⟩ = some a
  c1 : w1.cell? ⟨B, 1, none⟩ = some b
  c2 : w1.cell? ⟨B, 2, none⟩ = some c
  c3 : w1.cell? ⟨B, 3, none⟩ = some d
  f0 : w1.frozen? ⟨B, 0, none⟩ = false
  f1 : w1.frozen? ⟨B, 1, none⟩ = false
  f2 : w1.frozen? ⟨B, 2, none⟩ = false
  f3 : w1.frozen? ⟨B, 3, none⟩ = false
theorem four_of {w : World} {B : Nat} {a b c d : Value} {t : TypeId} (k : w.heap[B]? = some (.cells #[a, b, c, d] t (0, 0))) : Four w B a b c d := by
  constructor <;> simp [World.cell?, World.frozen?, k]
theorem heap_new (w : World) (o : Obj) : (w.alloc o).heap[w.heap.size]? = some o := by simp [World.alloc, -World.alloc_eq]
theorem four_two {w w1 : World} {o : Obj} {a b c d : Value} {t : TypeId} (h : Grew ((w.alloc o).alloc (.cells #[a, b, c, d] t)) w1) : Four w1 (w.heap.size + 1) a b c d := by
  refine four_of (t := t) ((h.below.block (w.heap.size + 1) (by simp)).trans ?_)
  have := heap_new (w.alloc o) (.cells #[a, b, c, d] t)
  simpa using this
theorem four_one {w w1 : World} {o : Obj} {a b c d : Value} {t : TypeId} (h : Grew ((w.alloc (.cells #[a, b, c, d] t)).alloc o) w1) : Four w1 w.heap.size a b c d :=
  four_of (t := t) ((h.below.block w.heap.size (by simp; omega)).trans ((Below.heap_alloc _ _ _ (by simp)).trans (heap_new w _)))
def put4W (w : World) (B : Nat) (a b c d : Value) : World := (((w.setCell ⟨B, 0, none⟩ a).setCell ⟨B, 1, none⟩ b).setCell ⟨B, 2, none⟩ c).setCell ⟨B, 3, none⟩ d
theorem addr_ne {B i j : Nat} (q : i ≠ j) : (⟨B, i, none⟩ : Addr) ≠ ⟨B, j, none⟩ := fun e => q (by injection e)
theorem Four.set0 {w : World} {B : Nat} {a b c d : Value} (h : Four w B a b c d) (x : Value) : Four (w.setCell ⟨B, 0, none⟩ x) B x b c d :=
  ⟨World.cell?_setCell_same _ _ _ h.c0, (World.cell?_setCell_other _ _ _ _ (addr_ne (by decide))).trans h.c1, (World.cell?_setCell_other _ _ _ _ (addr_ne (by decide))).trans h.c2, (World.cell?_setCell_other _ _ _ _ (addr_ne (by decide))).trans h.c3, by rw [World.frozen?_setCell]; exact h.f0, by rw [World.frozen?_setCell]; exact h.f1, by rw [World.frozen?_setCell]; exact h.f2, by rw [World.frozen?_setCell]; exact h.f3⟩
theorem Four.set1 {w : World} {B : Nat} {a b c d : Value} (h : Four w B a b c d) (x : Value) : Four (w.setCell ⟨B, 1, none⟩ x) B a x c d :=
  ⟨(World.cell?_setCell_other _ _ _ _ (addr_ne (by decide))).trans h.c0, World.cell?_setCell_same _ _ _ h.c1, (World.cell?_setCell_other _ _ _ _ (addr_ne (by decide))).trans h.c2, (World.cell?_setCell_other _ _ _ _ (addr_ne (by decide))).trans h.c3, by rw [World.frozen?_setCell]; exact h.f0, by rw [World.frozen?_setCell]; exact h.f1, by rw [World.frozen?_setCell]; exact h.f2, by rw [World.frozen?_setCell]; exact h.f3⟩
theorem Four.set2 {w : World} {B : Nat} {a b c d : Value} (h : Four w B a b c d) (x : Value) : Four (w.setCell ⟨B, 2, none⟩ x) B a b x d :=
  ⟨(World.cell?_setCell_other _ _ _ _ (addr_ne (by decide))).trans h.c0, (World.cell?_setCell_other _ _ _ _ (addr_ne (by decide))).trans h.c1, World.cell?_setCell_same _ _ _ h.c2, (World.cell?_setCell_other _ _ _ _ (addr_ne (by decide))).trans h.c3, by rw [World.frozen?_setCell]; exact h.f0, by rw [World.frozen?_setCell]; exact h.f1, by rw [World.frozen?_setCell]; exact h.f2, by rw [World.frozen?_setCell]; exact h.f3⟩
theorem Four.set3 {w : World} {B : Nat} {a b c d : Value} (h : Four w B a b c d) (x : Value) : Four (w.setCell ⟨B, 3, none⟩ x) B a b c x :=
  ⟨(World.cell?_setCell_other _ _ _ _ (addr_ne (by decide))).trans h.c0, (World.cell?_setCell_other _ _ _ _ (addr_ne (by decide))).trans h.c1, (World.cell?_setCell_other _ _ _ _ (addr_ne (by decide))).trans h.c2, World.cell?_setCell_same _ _ _ h.c3, by rw [World.frozen?_setCell]; exact h.f0, by rw [World.frozen?_setCell]; exact h.f1, by rw [World.frozen?_setCell]; exact h.f2, by rw [World.frozen?_setCell]; exact h.f3⟩
theorem put4 {w : World} {B : Nat} {a' b' c' d' : Value} (h : Four w B a' b' c' d') (a b c d : Value) : Four (put4W w B a b c d) B a b c d := (((h.set0 a).set1 b).set2 c).set3 d
theorem put4_below {w w0 : World} {base B : Nat} (hb : RowKit.Below base w0 w) (hB : base ≤ B) (a b c d : Value) : RowKit.Below base w0 (put4W w B a b c d) :=
  (((hb.setCell (p := ⟨B, 0, none⟩) hB a).setCell (p := ⟨B, 1, none⟩) hB b).setCell (p := ⟨B, 2, none⟩) hB c).setCell (p := ⟨B, 3, none⟩) hB d
/-! ### Row, End -/
theorem four_two_b {w w1 : World} {o : Obj} {a b c d : Value} {t : TypeId} (h : RowKit.Below ((w.alloc o).alloc (.cells #[a, b, c, d] t)).heap.size ((w.alloc o).alloc (.cells #[a, b, c, d] t)) w1) : Four w1 (w.heap.size + 1) a b c d := by
  refine four_of (t := t) ((h.block (w.heap.size + 1) (by simp)).trans ?_)
  have := heap_new (w.alloc o) (.cells #[a, b, c, d] t)
  simpa using this
theorem four_one_b {w w1 : World} {o : Obj} {a b c d : Value} {t : TypeId} (h : RowKit.Below ((w.alloc (.cells #[a, b, c, d] t)).alloc o).heap.size ((w.alloc (.cells #[a, b, c, d] t)).alloc o) w1) : Four w1 w.heap.size a b c d :=
  four_of (t := t) ((h.block w.heap.size (by simp; omega)).trans ((Below.heap_alloc _ _ _ (by simp)).trans (heap_new w _)))
theorem Four.grew {w w1 : World} {B : Nat} {a b c d : Value} (k : Four w B a b c d) (h : Grew w w1) : Four w1 B a b c d := by
  have e := h.below.block B (World.block_lt_of_cell? _ _ k.c0)
  exact ⟨(World.cell?_of_block e).trans k.c0, (World.cell?_of_block e).trans k.c1, (World.cell?_of_block e).trans k.c2, (World.cell?_of_block e).trans k.c3, (World.frozen?_of_block e).trans k.f0, (World.frozen?_of_block e).trans k.f1, (World.frozen?_of_block e).trans k.f2, (World.frozen?_of_block e).trans k.f3⟩
theorem put4_heap (w : World) (B : Nat) (a b c d : Value) (j : Nat) (h : j ≠ B) : (put4W w B a b c d).heap[j]? = w.heap[j]? := by
  unfold put4W
  rw [Below.heap_setCell _ _ _ j h, Below.heap_setCell _ _ _ j h, Below.heap_setCell _ _ _ j h, Below.heap_setCell _ _ _ j h]
theorem put4_grown (w : World) (B : Nat) (a b c d : Value) : w.grownBy (put4W w B a b c d) (some B) :=
  ⟨rfl, rfl, rfl, by unfold put4W; simp, fun k _ hk => put4_heap w B a b c d k (fun e => hk (by rw [e]))⟩
theorem OwnI.put4 {w : World} {base B : Nat} {v : Value} {l : List Int} (h : OwnI w base v l) (hB : B < base) (a b c d : Value) : OwnI (put4W w B a b c d) base v l :=
  World.ownsRow.kept h (put4_grown w B a b c d) (by
    cases e : v.ownBlock with
    | none => exact .inl rfl
    | some k =>
      refine .inr fun e2 => ?_
      have h2 := (World.ownsRow.lt h k e).1
      simp only [Option.some.injEq] at e2
      omega)
def rowS (r : InS) (most : Int) : InS := if r.e = 0 then movedS r pRow (unrowZ r.s r.pos most).2.1 (unrowZ r.s r.pos most).2.2 else r
def rowI (r : InS) (most : Int) : List Int := if r.e = 0 then (unrowZ r.s r.pos most).1 else []
def endS (r : InS) : InS := if r.e = 0 ∧ r.pos < (r.s.size : Int) then movedS r pEnd 0 6 else r
end Go.Proofs.YtegbldkkggpjcaaDoor
