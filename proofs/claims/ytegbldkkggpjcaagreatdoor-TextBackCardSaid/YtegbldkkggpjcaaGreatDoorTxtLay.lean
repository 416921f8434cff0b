/- Pieces, laid by both: the laws' own lay: its state. -/
import Derived.Test.YtegbldkkggpjcaaGreatDoorTxtImpl
namespace Go.Proofs.YtegbldkkggpjcaaGreatDoor
open Go.RowKit Go.Sort

/-- The law's own variable: an Out of the document's. -/
def TAt (w : World) (B : Nat) (t : OutS) : Prop := w.heap[B]? = some (.cells #[.string t.s, .string t.p, .int .i64 t.e] 70 (0, 0))
theorem TAt.three {w : World} {B : Nat} {t : OutS} (h : TAt w B t) : Three w B (.string t.s) (.string t.p) (.int .i64 t.e) := by
  unfold TAt at h
  constructor <;> simp [World.cell?, World.frozen?, h]
theorem TAt.lt {w : World} {B : Nat} {t : OutS} (h : TAt w B t) : B < w.heap.size := lt_of_block h
theorem TAt.put {w : World} {B : Nat} {t : OutS} (h : TAt w B t) (u : OutS) : TAt (put3W w B (.string u.s) (.string u.p) (.int .i64 u.e)) B u :=
  heap_setCell_same _ B 2 _ 70 _ (heap_setCell_same _ B 1 _ 70 _ (heap_setCell_same _ B 0 _ 70 _ h))
theorem put3_size (w : World) (B : Nat) (a b c : Value) : (put3W w B a b c).heap.size = w.heap.size := by unfold put3W; simp
/-- What lay keeps: the writer stands for a, the law's variable for b. -/
structure LaySt (I : Impl) (w wr : World) (S : Nat → Prop) (a b : OutS) : Prop where
  W : I.W wr S w.heap.size a
  T : TAt wr (w.heap.size + 1) b
  far : ¬ S (w.heap.size + 1)
  ge : ∀ j, S j → w.heap.size ≤ j
  pos : 0 < w.heap.size
  laid : Laid wr
  below : RowKit.Below w.heap.size w wr
theorem LaySt.moves {I : Impl} {w wr w2 : World} {S S' : Nat → Prop} {a b a' : OutS} (h : LaySt I w wr S a b) (k1 : I.W w2 S' w.heap.size a') (k2 : Ext S S' wr) (k3 : Chg S wr w2) : LaySt I w w2 S' a' b :=
  ⟨k1, (k3.block _ h.T.lt h.far).trans h.T, k2.not h.far h.T.lt, k2.ge h.ge h.below.size, h.pos, k3.laid h.laid (fun q => by have := h.ge 0 q; have := h.pos; omega), h.below.trans (k3.below h.ge h.below.size)⟩
theorem LaySt.later {I : Impl} {w wr w2 : World} {S : Nat → Prop} {a b : OutS} (h : LaySt I w wr S a b) (k : RowKit.Below wr.heap.size wr w2) : LaySt I w w2 S a b :=
  ⟨I.wlater h.W k, (k.block _ h.T.lt).trans h.T, h.far, h.ge, h.pos, h.laid.below k h.laid.pos, h.below.trans (k.mono h.below.size)⟩
theorem LaySt.put {I : Impl} {w wr : World} {S : Nat → Prop} {a b : OutS} (h : LaySt I w wr S a b) (u : OutS) : LaySt I w (put3W wr (w.heap.size + 1) (.string u.s) (.string u.p) (.int .i64 u.e)) S a u :=
  ⟨I.wcells (w.heap.size + 1) _ h.W h.T h.far ⟨_, _, rfl⟩ _ (fun k hk => put3_heap wr _ _ _ _ k hk) (put3_size wr _ _ _ _), h.T.put u, h.far, h.ge, h.pos,
    (World.cell?_of_block (put3_heap wr _ _ _ _ 0 (by omega))).trans h.laid, put3_below h.below (by omega) _ _ _⟩
theorem LaySt.new (I : Impl) (w : World) (hg : Laid w) : LaySt I w ((w.alloc (.cells #[.pointer none, .string ⟨#[]⟩, .int .i64 0] 51)).alloc (.cells #[.string ⟨#[]⟩, .string ⟨#[]⟩, .int .i64 0] 70)) (fun k => k = w.heap.size) ⟨⟨#[]⟩, ⟨#[]⟩, 0⟩ ⟨⟨#[]⟩, ⟨#[]⟩, 0⟩ := by
  refine ⟨I.wlater (I.wzero w) ((Below.refl _ _).alloc (Nat.le_refl _) _), ?_, by simp, by simp, hg.pos, (hg.alloc _).alloc _, ((Below.refl _ _).alloc (Nat.le_refl _) _).alloc (by simp) _⟩
  have := heap_alloc_new (w.alloc (.cells #[.pointer none, .string ⟨#[]⟩, .int .i64 0] 51)) (.cells #[.string ⟨#[]⟩, .string ⟨#[]⟩, .int .i64 0] 70)
  rw [show (w.alloc (.cells #[.pointer none, .string ⟨#[]⟩, .int .i64 0] 51)).heap.size = w.heap.size + 1 by simp] at this
  exact this
/-! ### Sizes -/
theorem layP_size (t : OutS) (p : PcS) (h1 : p.s.size ≤ 500) (h2 : p.l.length ≤ 100) (hn : p.n ≤ 9223372036854775807) (hx : ∀ x ∈ p.l, x ≤ 9223372036854775807) : (layP t p).s.size ≤ t.s.size + 1000 := by
  unfold layP
  split
  · have := numL_size t [p.n] (fun x hx => by rw [List.mem_singleton.1 hx]; exact hn)
    simp at this; omega
  · split
    · have := layS_size t pText (bs (putZ p.s.size) ++ p.s) 0
      have h3 := putZ_len p.s.size (by omega)
      rw [ByteArray.size_append, bs_size] at this
      omega
    · split
      · have := layS_size t pRow (bs (rowZ p.l)) (rowE p.l)
        have h3 := rowZ_len p.l (by omega) hx
        rw [bs_size] at this
        omega
      · split
        · have := layS_size t pFlag (bitB (decide (0 < p.n))) 0
          have : (bitB (decide (0 < p.n))).size = 1 := by cases decide (0 < p.n) <;> rfl
          omega
        · omega
theorem lays_size (ps : List PcS) (t : OutS) (h : ∀ p ∈ ps, p.s.size ≤ 500 ∧ p.l.length ≤ 100) (hw : WfP ps) : (ps.foldl layP t).s.size ≤ t.s.size + 1000 * ps.length := by
  induction ps generalizing t with
  | nil => simp
  | cons p ps ih =>
    have a := ih (layP t p) (fun q hq => h q (by simp [hq])) (fun q hq => hw q (by simp [hq]))
    have b := layP_size t p (h p (by simp)).1 (h p (by simp)).2 (hw p (by simp)).1 (hw p (by simp)).2.2.2
    simp only [List.foldl_cons, List.length_cons]
    omega
theorem layAll_size (ps : List PcS) (h : ∀ p ∈ ps, p.s.size ≤ 500 ∧ p.l.length ≤ 100) (hw : WfP ps) (hl : ps.length ≤ 40) : (layAll ps).s.size ≤ 40000 := by
  have := lays_size ps ⟨⟨#[]⟩, ⟨#[]⟩, 0⟩ h hw
  have e : (⟨#[]⟩ : ByteArray).size = 0 := rfl
  unfold layAll
  simp only [e] at this
  omega
end Go.Proofs.YtegbldkkggpjcaaGreatDoor
