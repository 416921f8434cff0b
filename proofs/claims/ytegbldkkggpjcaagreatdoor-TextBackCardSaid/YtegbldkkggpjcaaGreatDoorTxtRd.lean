/- A piece, read of both: the laws' own read: its state. -/
import Derived.Test.YtegbldkkggpjcaaGreatDoorTxtLay
namespace Go.Proofs.YtegbldkkggpjcaaGreatDoor
open Go.RowKit Go.Sort

/-- What a piece's reading makes of the document's reader. -/
def readP (u : InS) (p : PcS) : InS :=
  if p.k = 0 then numS u p.n else if p.k = 1 then textS u p.n else if p.k = 2 then rowS u p.n else if p.k = 3 then flagS u else if p.k = 4 then endS u else u
theorem readP_0 {t : InS} {p : PcS} (h : p.k = 0) : readP t p = numS t p.n := if_pos h
theorem readP_1 {t : InS} {p : PcS} (h : p.k = 1) : readP t p = textS t p.n := by unfold readP; rw [if_neg (by omega), if_pos h]
theorem readP_2 {t : InS} {p : PcS} (h : p.k = 2) : readP t p = rowS t p.n := by unfold readP; rw [if_neg (by omega), if_neg (by omega), if_pos h]
theorem readP_3 {t : InS} {p : PcS} (h : p.k = 3) : readP t p = flagS t := by unfold readP; rw [if_neg (by omega), if_neg (by omega), if_neg (by omega), if_pos h]
theorem readP_4 {t : InS} {p : PcS} (h : p.k = 4) : readP t p = endS t := by unfold readP; rw [if_neg (by omega), if_neg (by omega), if_neg (by omega), if_neg (by omega), if_pos h]
theorem readP_5 {t : InS} {p : PcS} (h0 : p.k ≠ 0) (h1 : p.k ≠ 1) (h2 : p.k ≠ 2) (h3 : p.k ≠ 3) (h4 : p.k ≠ 4) : readP t p = t := by unfold readP; rw [if_neg h0, if_neg h1, if_neg h2, if_neg h3, if_neg h4]

/-- A variable of the law's: an In of the document's. -/
def InAt (w : World) (B : Nat) (t : InS) : Prop := w.heap[B]? = some (.cells #[.string t.s, .int .i64 t.pos, .string t.p, .int .i64 t.e] 28 (0, 0))
theorem InAt.four {w : World} {B : Nat} {t : InS} (h : InAt w B t) : Four w B (.string t.s) (.int .i64 t.pos) (.string t.p) (.int .i64 t.e) := by
  unfold InAt at h
  constructor <;> simp [World.cell?, World.frozen?, h]
theorem InAt.lt {w : World} {B : Nat} {t : InS} (h : InAt w B t) : B < w.heap.size := lt_of_block h
theorem InAt.put {w : World} {B : Nat} {t : InS} (h : InAt w B t) (u : InS) : InAt (put4W w B (.string u.s) (.int .i64 u.pos) (.string u.p) (.int .i64 u.e)) B u :=
  heap_setCell_same _ B 3 _ 28 _ (heap_setCell_same _ B 2 _ 28 _ (heap_setCell_same _ B 1 _ 28 _ (heap_setCell_same _ B 0 _ 28 _ h)))
theorem put4_size (w : World) (B : Nat) (a b c d : Value) : (put4W w B a b c d).heap.size = w.heap.size := by unfold put4W; simp
def pcV (p : PcS) (la : Option Addr) (lc : Nat) : Array Value := #[.int .i64 p.k, .int .i64 p.n, .string p.s, .slice la p.l.length lc]
/-- What read keeps: the reader stands for a, the law's variable for b; S0 was the reader's at the beginning. -/
structure RdSt (I : Impl) (w : World) (S0 : Nat → Prop) (B : Nat) (pc : Array Value) (wr : World) (S : Nat → Prop) (a b : InS) : Prop where
  R : I.R wr S B a
  T : InAt wr w.heap.size b
  P : wr.heap[w.heap.size + 1]? = some (.cells pc 33 (0, 0))
  Z : InAt wr (w.heap.size + 1 + 1) ⟨⟨#[]⟩, 0, ⟨#[]⟩, 0⟩
  old : ∀ k, S0 k → k < w.heap.size
  zero : ¬ S0 0
  pos : 0 < w.heap.size
  ext : Ext S0 S w
  far : ∀ k, w.heap.size ≤ k → k ≤ w.heap.size + 1 + 1 → ¬ S k
  laid : Laid wr
  chg : Chg S0 w wr
theorem RdSt.z {I : Impl} {w : World} {S0 : Nat → Prop} {B : Nat} {pc : Array Value} {wr : World} {S : Nat → Prop} {a b : InS} (h : RdSt I w S0 B pc wr S a b) : ¬ S 0 := fun q => by
  rcases h.ext 0 q with q | q
  · exact h.zero q
  · have := h.pos; omega
theorem RdSt.moves {I : Impl} {w : World} {S0 : Nat → Prop} {B : Nat} {pc : Array Value} {wr w2 : World} {S S' : Nat → Prop} {a b a' : InS} (h : RdSt I w S0 B pc wr S a b) (k1 : I.R w2 S' B a') (k2 : Ext S S' wr) (k3 : Chg S wr w2) : RdSt I w S0 B pc w2 S' a' b := by
  have hz := h.Z.lt
  have same : ∀ k, w.heap.size ≤ k → k ≤ w.heap.size + 1 + 1 → w2.heap[k]? = wr.heap[k]? := fun k q1 q2 => k3.block k (by omega) (h.far k q1 q2)
  refine ⟨k1, (same _ (Nat.le_refl _) (by omega)).trans h.T, (same _ (by omega) (by omega)).trans h.P, (same _ (by omega) (Nat.le_refl _)).trans h.Z, h.old, h.zero, h.pos, fun k q => ?_, fun k q1 q2 => k2.not (h.far k q1 q2) (by omega), k3.laid h.laid h.z, ⟨k3.os.trans h.chg.os, k3.tape.trans h.chg.tape, k3.output.trans h.chg.output, Nat.le_trans h.chg.size k3.size, fun k q1 q2 => (k3.block k (Nat.lt_of_lt_of_le q1 h.chg.size) (fun q => ?_)).trans (h.chg.block k q1 q2)⟩⟩
  · rcases k2 k q with q | q
    · exact h.ext k q
    · exact .inr (Nat.le_trans h.chg.size q)
  · rcases h.ext k q with q | q
    · exact q2 q
    · omega
theorem Chg.below_trans {S : Nat → Prop} {a b c : World} (h : Chg S a b) (k : RowKit.Below b.heap.size b c) : Chg S a c :=
  ⟨k.os.trans h.os, k.tape.trans h.tape, k.output.trans h.output, Nat.le_trans h.size k.size, fun j q1 q2 => (k.block j (Nat.lt_of_lt_of_le q1 h.size)).trans (h.block j q1 q2)⟩
theorem RdSt.later {I : Impl} {w : World} {S0 : Nat → Prop} {B : Nat} {pc : Array Value} {wr w2 : World} {S : Nat → Prop} {a b : InS} (h : RdSt I w S0 B pc wr S a b) (k : RowKit.Below wr.heap.size wr w2) : RdSt I w S0 B pc w2 S a b := by
  have hz := h.Z.lt
  exact ⟨I.rlater h.R k, (k.block _ (by omega)).trans h.T, (k.block _ (by omega)).trans h.P, (k.block _ (by omega)).trans h.Z, h.old, h.zero, h.pos, h.ext, h.far, h.laid.below k h.laid.pos, h.chg.below_trans k⟩
theorem rd_put_chg {S : Nat → Prop} {w wr W : World} (h : Chg S w wr) (b : RowKit.Below w.heap.size wr W) : Chg S w W :=
  ⟨b.os.trans h.os, b.tape.trans h.tape, b.output.trans h.output, Nat.le_trans h.size b.size, fun k q1 q2 => (b.block k q1).trans (h.block k q1 q2)⟩
theorem RdSt.put {I : Impl} {w : World} {S0 : Nat → Prop} {B : Nat} {pc : Array Value} {wr : World} {S : Nat → Prop} {a b : InS} (h : RdSt I w S0 B pc wr S a b) (u : InS) : RdSt I w S0 B pc (put4W wr w.heap.size (.string u.s) (.int .i64 u.pos) (.string u.p) (.int .i64 u.e)) S a u := by
  have hp := h.pos
  have e : ∀ k, k ≠ w.heap.size → (put4W wr w.heap.size (.string u.s) (.int .i64 u.pos) (.string u.p) (.int .i64 u.e)).heap[k]? = wr.heap[k]? := fun k hk => put4_heap wr _ _ _ _ _ k hk
  have hb := put4_below (Below.refl w.heap.size wr) (Nat.le_refl w.heap.size) (.string u.s) (.int .i64 u.pos) (.string u.p) (.int .i64 u.e)
  have hT := h.T.put u
  have hs := put4_size wr w.heap.size (.string u.s) (.int .i64 u.pos) (.string u.p) (.int .i64 u.e)
  generalize put4W wr w.heap.size (.string u.s) (.int .i64 u.pos) (.string u.p) (.int .i64 u.e) = W2 at *
  refine ⟨I.rcells w.heap.size _ h.R h.T (h.far _ (Nat.le_refl _) (by omega)) ⟨_, _, rfl⟩ _ e hs, hT, (e _ (by omega)).trans h.P, (e _ (by omega)).trans h.Z, h.old, h.zero, h.pos, h.ext, h.far, (World.cell?_of_block (e 0 (by omega))).trans h.laid, rd_put_chg h.chg hb⟩
theorem RdSt.fin {I : Impl} {w : World} {S0 : Nat → Prop} {B : Nat} {pc : Array Value} {wr : World} {S : Nat → Prop} {t b : InS} (h : RdSt I w S0 B pc wr S t b) (x y z v : Value) : ∃ S', I.R (put4W wr (w.heap.size + 1 + 1) x y z v) S' B t ∧ Ext S0 S' w ∧ Chg S0 w (put4W wr (w.heap.size + 1 + 1) x y z v) := by
  have e : ∀ k, k ≠ w.heap.size + 1 + 1 → (put4W wr (w.heap.size + 1 + 1) x y z v).heap[k]? = wr.heap[k]? := fun k hk => put4_heap wr _ _ _ _ _ k hk
  have hb := put4_below (Below.refl w.heap.size wr) (show w.heap.size ≤ w.heap.size + 1 + 1 by omega) x y z v
  have hs := put4_size wr (w.heap.size + 1 + 1) x y z v
  generalize put4W wr (w.heap.size + 1 + 1) x y z v = W2 at *
  exact ⟨S, I.rcells (w.heap.size + 1 + 1) _ h.R h.Z (h.far _ (by omega) (Nat.le_refl _)) ⟨_, _, rfl⟩ _ e hs, h.ext, rd_put_chg h.chg hb⟩
theorem RdSt.new {I : Impl} {w : World} {S0 : Nat → Prop} {B : Nat} {u : InS} (pc : Array Value) (hr : I.R w S0 B u) (hg : Laid w) (h0 : ¬ S0 0) :
    RdSt I w S0 B pc (((w.alloc (.cells #[.string u.s, .int .i64 u.pos, .string u.p, .int .i64 u.e] 28)).alloc (.cells pc 33)).alloc (.cells #[.string ⟨#[]⟩, .int .i64 0, .string ⟨#[]⟩, .int .i64 0] 28)) S0 u u := by
  have hz : ∀ (o1 o2 o3 : Obj), RowKit.Below w.heap.size w (((w.alloc o1).alloc o2).alloc o3) := boxes_below w
  have hb := hz (.cells #[.string u.s, .int .i64 u.pos, .string u.p, .int .i64 u.e] 28) (.cells pc 33) (.cells #[.string ⟨#[]⟩, .int .i64 0, .string ⟨#[]⟩, .int .i64 0] 28)
  have hold := (I.rold hr).2
  refine ⟨I.rlater hr hb, ?_, ?_, ?_, hold, h0, hg.pos, Ext.refl _ _, ?_, hg.below hb hg.pos, Chg.of hb⟩
  · exact (heap_alloc_old _ _ (show w.heap.size < _ by simp; omega)).trans ((heap_alloc_old _ _ (by simp)).trans (heap_alloc_new _ _))
  · refine (heap_alloc_old _ _ (by simp)).trans ?_
    have := heap_alloc_new (w.alloc (.cells #[.string u.s, .int .i64 u.pos, .string u.p, .int .i64 u.e] 28)) (.cells pc 33)
    rwa [show (w.alloc (.cells #[.string u.s, .int .i64 u.pos, .string u.p, .int .i64 u.e] 28)).heap.size = w.heap.size + 1 by simp] at this
  · have := heap_alloc_new ((w.alloc (.cells #[.string u.s, .int .i64 u.pos, .string u.p, .int .i64 u.e] 28)).alloc (.cells pc 33)) (.cells #[.string ⟨#[]⟩, .int .i64 0, .string ⟨#[]⟩, .int .i64 0] 28)
    rwa [show ((w.alloc (.cells #[.string u.s, .int .i64 u.pos, .string u.p, .int .i64 u.e] 28)).alloc (.cells pc 33)).heap.size = w.heap.size + 1 + 1 by simp] at this
  · intro k q1 _ q
    have := hold k q
    omega
end Go.Proofs.YtegbldkkggpjcaaGreatDoor
