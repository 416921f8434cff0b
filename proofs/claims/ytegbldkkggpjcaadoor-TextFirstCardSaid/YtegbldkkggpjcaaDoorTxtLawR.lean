/- The law TextReads, upon Impl. -/
import Derived.Test.YtegbldkkggpjcaaDoorTxtLaws
import Derived.Test.YtegbldkkggpjcaaDoorTxtRdW
namespace Go.Proofs.YtegbldkkggpjcaaDoor
open Go.RowKit Go.Sort

attribute [local go_sem ↓] Go.wp_at_zero Go.wp_at_succ

theorem getZ_nn (s : ByteArray) (a : Int) (h : 0 ≤ a) : 0 ≤ (getZ s a).1 ∧ 0 ≤ (getZ s a).2.1 := by
  unfold getZ
  split
  · exact ⟨by decide, by decide⟩
  · split
    · exact ⟨Int.natCast_nonneg _, by simp only; omega⟩
    · exact ⟨Int.le_refl 0, Int.le_refl 0⟩
theorem unrowZ_nn (s : ByteArray) (a most : Int) (h : 0 ≤ a) : 0 ≤ (unrowZ s a most).2.1 := by
  have := (getZ_nn s a h).2
  unfold unrowZ
  repeat' split
  all_goals first | decide | (simp only; omega)
theorem movedS_nn (u : InS) (p : ByteArray) (x e : Int) (h : 0 ≤ u.pos) (hx : 0 ≤ x) : 0 ≤ (movedS u p x e).pos := by unfold movedS; split <;> assumption
theorem readP_nn (u : InS) (p : PcS) (h : 0 ≤ u.pos) : 0 ≤ (readP u p).pos := by
  have h1 := getZ_nn u.s u.pos h
  have h2 := unrowZ_nn u.s u.pos p.n h
  unfold readP numS textS rowS flagS endS
  repeat' split
  all_goals first | exact h | exact movedS_nn _ _ _ _ h (by first | omega | exact h1.2 | exact h2)
def readAll (u : InS) (ps : List PcS) : InS := ps.foldl readP u
theorem readAll_take (u : InS) (ps : List PcS) (k : Nat) (h : k < ps.length) : readAll u (ps.take (k + 1)) = readP (readAll u (ps.take k)) ps[k] := by
  unfold readAll
  rw [List.take_add_one, List.foldl_append]
  simp [h]
theorem readAll_s (ps : List PcS) : ∀ (u : InS), (readAll u ps).s = u.s := by
  induction ps with
  | nil => intro u; rfl
  | cons p ps ih => intro u; show (readAll (readP u p) ps).s = _; rw [ih, readP_s]
theorem readAll_nn (ps : List PcS) : ∀ (u : InS), 0 ≤ u.pos → 0 ≤ (readAll u ps).pos := by
  induction ps with
  | nil => intro u h; exact h
  | cons p ps ih => intro u h; exact ih _ (readP_nn u p h)

theorem InAt.chg {S : Nat → Prop} {w w' : World} {B : Nat} {t : InS} (h : InAt w B t) (k : Chg S w w') (hS : ¬ S B) : InAt w' B t := (k.block _ h.lt hS).trans h
/-- What the law keeps: the reader stands for a, its own variable for b. -/
structure RlSt (I : Impl) (w wr : World) (S : Nat → Prop) (B Bt : Nat) (a b : InS) : Prop where
  R : I.R wr S B a
  T : InAt wr Bt b
  far : ¬ S Bt
  ge : ∀ k, S k → w.heap.size ≤ k
  bt : w.heap.size ≤ Bt
  pos : 0 < w.heap.size
  laid : Laid wr
  below : RowKit.Below w.heap.size w wr
theorem RlSt.later {I : Impl} {w wr w2 : World} {S : Nat → Prop} {B Bt : Nat} {a b : InS} (h : RlSt I w wr S B Bt a b) (k : RowKit.Below wr.heap.size wr w2) : RlSt I w w2 S B Bt a b :=
  ⟨I.rlater h.R k, (k.block _ h.T.lt).trans h.T, h.far, h.ge, h.bt, h.pos, h.laid.below k h.laid.pos, h.below.trans (k.mono h.below.size)⟩
theorem RlSt.zero {I : Impl} {w wr : World} {S : Nat → Prop} {B Bt : Nat} {a b : InS} (h : RlSt I w wr S B Bt a b) : ¬ S 0 := fun q => by have := h.ge 0 q; have := h.pos; omega
theorem RlSt.moves {I : Impl} {w wr w2 : World} {S S' : Nat → Prop} {B Bt : Nat} {a b a' : InS} (h : RlSt I w wr S B Bt a b) (k1 : I.R w2 S' B a') (k2 : Ext S S' wr) (k3 : Chg S wr w2) : RlSt I w w2 S' B Bt a' b :=
  ⟨k1, (k3.block _ h.T.lt h.far).trans h.T, k2.not h.far h.T.lt, k2.ge h.ge h.below.size, h.bt, h.pos, k3.laid h.laid h.zero, h.below.trans (k3.below h.ge h.below.size)⟩
theorem RlSt.put {I : Impl} {w wr : World} {S : Nat → Prop} {B Bt : Nat} {a b z : InS} (h : RlSt I w wr S B Bt a b) (C : Nat) (hz : InAt wr C z) (hC : ¬ S C) (hw : w.heap.size ≤ C) (hne : C ≠ Bt) (u : InS) : RlSt I w (put4W wr C (.string u.s) (.int .i64 u.pos) (.string u.p) (.int .i64 u.e)) S B Bt a b ∧ InAt (put4W wr C (.string u.s) (.int .i64 u.pos) (.string u.p) (.int .i64 u.e)) C u := by
  have hp := h.pos
  have e : ∀ k, k ≠ C → (put4W wr C (.string u.s) (.int .i64 u.pos) (.string u.p) (.int .i64 u.e)).heap[k]? = wr.heap[k]? := fun k hk => put4_heap wr _ _ _ _ _ k hk
  have hb := put4_below h.below hw (.string u.s) (.int .i64 u.pos) (.string u.p) (.int .i64 u.e)
  have hT := hz.put u
  have hs := put4_size wr C (.string u.s) (.int .i64 u.pos) (.string u.p) (.int .i64 u.e)
  generalize put4W wr C (.string u.s) (.int .i64 u.pos) (.string u.p) (.int .i64 u.e) = W2 at *
  exact ⟨⟨I.rcells C _ h.R hz hC ⟨_, _, rfl⟩ _ e hs, (e _ (Ne.symm hne)).trans h.T, h.far, h.ge, h.bt, h.pos, (World.cell?_of_block (e 0 (by omega))).trans h.laid, hb⟩, hT⟩
theorem RlSt.own {I : Impl} {w wr : World} {S : Nat → Prop} {B Bt : Nat} {a b : InS} (h : RlSt I w wr S B Bt a b) (u : InS) : RlSt I w (put4W wr Bt (.string u.s) (.int .i64 u.pos) (.string u.p) (.int .i64 u.e)) S B Bt a u := by
  have hp := h.pos
  have hbt := h.bt
  have e : ∀ k, k ≠ Bt → (put4W wr Bt (.string u.s) (.int .i64 u.pos) (.string u.p) (.int .i64 u.e)).heap[k]? = wr.heap[k]? := fun k hk => put4_heap wr _ _ _ _ _ k hk
  have hb := put4_below h.below h.bt (.string u.s) (.int .i64 u.pos) (.string u.p) (.int .i64 u.e)
  have hT := h.T.put u
  have hs := put4_size wr Bt (.string u.s) (.int .i64 u.pos) (.string u.p) (.int .i64 u.e)
  generalize put4W wr Bt (.string u.s) (.int .i64 u.pos) (.string u.p) (.int .i64 u.e) = W2 at *
  exact ⟨I.rcells Bt _ h.R h.T h.far ⟨_, _, rfl⟩ _ e hs, hT, h.far, h.ge, h.bt, h.pos, (World.cell?_of_block (e 0 (by omega))).trans h.laid, hb⟩
/-- The cells of a piece, its row's address said. -/
def PcAt4 (w : World) (b o : Nat) (p : PcS) (la : Option Addr) (lc : Nat) : Prop :=
  w.cell? ⟨b, o, none⟩ = some (.int .i64 p.k) ∧ w.cell? ⟨b, o + 1, none⟩ = some (.int .i64 p.n) ∧ w.cell? ⟨b, o + 2, none⟩ = some (.string p.s) ∧ w.cell? ⟨b, o + 3, none⟩ = some (.slice la p.l.length lc)
theorem PcAt4.later {w w' : World} {b o : Nat} {p : PcS} {la : Option Addr} {lc : Nat} (h : PcAt4 w b o p la lc) (k : RowKit.Below w.heap.size w w') : PcAt4 w' b o p la lc := by
  obtain ⟨h0, h1, h2, h3⟩ := h
  have t : ∀ {j : Nat} {v : Value}, w.cell? ⟨b, j, none⟩ = some v → w'.cell? ⟨b, j, none⟩ = some v := fun {j v} h => (k.cell (p := ⟨b, j, none⟩) (World.block_lt_of_cell? _ _ h)).trans h
  exact ⟨t h0, t h1, t h2, t h3⟩
theorem cells8 {I : Impl} {w wr : World} {S : Nat → Prop} {B Bt : Nat} {a u : InS} {b o : Nat} {p : PcS} {la : Option Addr} {lc : Nat} (h : RlSt I w wr S B Bt a u) (k : PcAt4 w b o p la lc) :
    wr.cell? ⟨Bt, 0, none⟩ = some (.string u.s) ∧ wr.cell? ⟨Bt, 1, none⟩ = some (.int .i64 u.pos) ∧ wr.cell? ⟨Bt, 2, none⟩ = some (.string u.p) ∧ wr.cell? ⟨Bt, 3, none⟩ = some (.int .i64 u.e) ∧
    wr.cell? ⟨b, o, none⟩ = some (.int .i64 p.k) ∧ wr.cell? ⟨b, o + 1, none⟩ = some (.int .i64 p.n) ∧ wr.cell? ⟨b, o + 2, none⟩ = some (.string p.s) ∧ wr.cell? ⟨b, o + 3, none⟩ = some (.slice la p.l.length lc) :=
  ⟨h.T.four.c0, h.T.four.c1, h.T.four.c2, h.T.four.c3, k.later h.below⟩
end Go.Proofs.YtegbldkkggpjcaaDoor
