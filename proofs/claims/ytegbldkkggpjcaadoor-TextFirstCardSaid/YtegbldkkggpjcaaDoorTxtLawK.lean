/- The law TextBack, upon Impl. -/
import Derived.Test.YtegbldkkggpjcaaDoorTxtLawR
namespace Go.Proofs.YtegbldkkggpjcaaDoor
open Go.RowKit Go.Sort

attribute [local go_sem ↓] Go.wp_at_zero Go.wp_at_succ

/-- What a law keeps of a reader. -/
structure RSt (I : Impl) (w wr : World) (S : Nat → Prop) (B : Nat) (a : InS) : Prop where
  R : I.R wr S B a
  ge : ∀ k, S k → w.heap.size ≤ k
  pos : 0 < w.heap.size
  laid : Laid wr
  below : RowKit.Below w.heap.size w wr
theorem RSt.later {I : Impl} {w wr w2 : World} {S : Nat → Prop} {B : Nat} {a : InS} (h : RSt I w wr S B a) (k : RowKit.Below wr.heap.size wr w2) : RSt I w w2 S B a :=
  ⟨I.rlater h.R k, h.ge, h.pos, h.laid.below k h.laid.pos, h.below.trans (k.mono h.below.size)⟩
theorem RSt.zero {I : Impl} {w wr : World} {S : Nat → Prop} {B : Nat} {a : InS} (h : RSt I w wr S B a) : ¬ S 0 := fun q => by have := h.ge 0 q; have := h.pos; omega
theorem RSt.moves {I : Impl} {w wr w2 : World} {S S' : Nat → Prop} {B : Nat} {a a' : InS} (h : RSt I w wr S B a) (k1 : I.R w2 S' B a') (k2 : Ext S S' wr) (k3 : Chg S wr w2) : RSt I w w2 S' B a' :=
  ⟨k1, k2.ge h.ge h.below.size, h.pos, k3.laid h.laid h.zero, h.below.trans (k3.below h.ge h.below.size)⟩

theorem back_0 {p : PcS} {s a b c q : ByteArray} (hk : p.k = 0) (he : errP p = 0) (hn : p.n ≤ 9223372036854775807) (hs : s = a ++ chunk p ++ b) (hc : c = a ++ chunk p) : numS ⟨s, (a.size : Nat), q, 0⟩ p.n = ⟨s, (c.size : Nat), q, 0⟩ ∧ numN ⟨s, (a.size : Nat), q, 0⟩ p.n = p.n := by
  have e : chunk p = bs (putZ p.n) := if_pos hk
  have h0 : 0 ≤ p.n := by
    unfold errP putE at he
    rw [if_pos hk] at he
    split at he
    · omega
    · omega
  rw [e] at hs hc
  subst hs hc
  have := num_back a b q p.n p.n h0 hn (Int.le_refl _)
  rw [ByteArray.size_append, bs_size]
  simpa using this
theorem back_1 {p : PcS} {s a b c q : ByteArray} (hk : p.k = 1) (_he : errP p = 0) (hn : p.s.size ≤ 100000) (hs : s = a ++ chunk p ++ b) (hc : c = a ++ chunk p) : textS ⟨s, (a.size : Nat), q, 0⟩ (p.s.size : Nat) = ⟨s, (c.size : Nat), q, 0⟩ ∧ textT ⟨s, (a.size : Nat), q, 0⟩ (p.s.size : Nat) = p.s := by
  have e : chunk p = bs (putZ p.s.size) ++ p.s := by unfold chunk; rw [if_neg (by omega), if_pos hk]
  have hs2 : s = a ++ bs (putZ p.s.size) ++ (p.s ++ b) := by rw [hs, e]; simp only [ByteArray.append_assoc]
  have hc2 : (c.size : Int) = (a.size : Int) + ((putZ p.s.size).length : Nat) + p.s.size := by
    rw [hc, e, ByteArray.size_append, ByteArray.size_append, bs_size]; omega
  rw [hs2, hc2]
  exact text_back a p.s b q p.s.size hn (Int.le_refl _)
theorem back_2 {p : PcS} {s a b c q : ByteArray} (hk : p.k = 2) (he : errP p = 0) (hn : p.l.length ≤ 1000 ∧ ∀ x ∈ p.l, x ≤ 9223372036854775807) (hs : s = a ++ chunk p ++ b) (hc : c = a ++ chunk p) : rowS ⟨s, (a.size : Nat), q, 0⟩ (p.l.length : Nat) = ⟨s, (c.size : Nat), q, 0⟩ ∧ rowI ⟨s, (a.size : Nat), q, 0⟩ (p.l.length : Nat) = p.l := by
  have hok : okL p.l = true := by
    unfold errP rowE at he
    rw [if_neg (by omega), if_pos hk] at he
    split at he
    · assumption
    · omega
  have e : chunk p = bs (rowP p.l) := by unfold chunk rowZ; rw [if_neg (by omega), if_neg (by omega), if_pos hk, if_pos hok]
  rw [e] at hs hc
  subst hs hc
  have := row_back a b q p.l hok hn.1 hn.2
  rw [ByteArray.size_append, bs_size]
  simpa using this
theorem back_3 {p : PcS} {s a b c q : ByteArray} (hk : p.k = 3) (_he : errP p = 0) (_hn : True) (hs : s = a ++ chunk p ++ b) (hc : c = a ++ chunk p) : flagS ⟨s, (a.size : Nat), q, 0⟩ = ⟨s, (c.size : Nat), q, 0⟩ ∧ flagB ⟨s, (a.size : Nat), q, 0⟩ = decide (0 < p.n) := by
  have e : chunk p = bitB (decide (0 < p.n)) := by unfold chunk; rw [if_neg (by omega), if_neg (by omega), if_neg (by omega), if_pos hk]
  have h1 : (bitB (decide (0 < p.n))).size = 1 := by cases decide (0 < p.n) <;> rfl
  rw [e] at hs hc
  subst hs hc
  have := flag_back a b q (decide (0 < p.n))
  rw [ByteArray.size_append, h1]
  simpa using this
theorem back_4 {p : PcS} {a c : ByteArray} (h0 : p.k ≠ 0) (h1 : p.k ≠ 1) (h2 : p.k ≠ 2) (h3 : p.k ≠ 3) (hc : c = a ++ chunk p) : c = a := by
  have e : chunk p = ⟨#[]⟩ := by unfold chunk; rw [if_neg h0, if_neg h1, if_neg h2, if_neg h3]
  rw [hc, e, empty_app]
theorem pc4_of {w : World} {B : Nat} {p : PcS} {la : Option Addr} {lc : Nat} (h : w.heap[B]? = some (.cells #[.int .i64 p.k, .int .i64 p.n, .string p.s, .slice la p.l.length lc] 29 (0, 0))) : PcAt4 w B 0 p la lc := by
  refine ⟨?_, ?_, ?_, ?_⟩ <;> simp [World.cell?, h]
theorem emptyB {s : ByteArray} (h : s ≠ ⟨#[]⟩) : s.toList.isEmpty = false := by
  rw [ByteArray.toList_eq]
  cases q : s.data.toList with
  | cons x t => rfl
  | nil =>
    refine absurd (ByteArray.ext ?_) h
    show s.data = #[]
    rw [← Array.toList_inj, q]
end Go.Proofs.YtegbldkkggpjcaaDoor
