/- What is read and laid again: the reader's and the writer's states, step by step. Pure but for the state. -/
import Derived.Test.YtegbldkkggpjcaaDoorTxtLawK
namespace Go.Proofs.YtegbldkkggpjcaaDoor
open Go.RowKit Go.Sort

/-- Where the law stands behind k pieces. -/
def FInv (s : ByteArray) (k : Nat) (u : InS) (t : OutS) : Prop :=
  u.s = s ∧ 0 ≤ u.pos ∧ u.pos ≤ (s.size : Int) ∧ ((u.e = 0 ∧ t = ⟨s.extract 0 u.pos.toNat, ⟨#[]⟩, 0⟩) ∨ (u.e ≠ 0 ∧ t.s.size ≤ 3000 + 10 * k))
theorem FInv.size {s : ByteArray} {k : Nat} {u : InS} {t : OutS} (h : FInv s k u t) (hs : s.size ≤ 3000) : t.s.size ≤ 3000 + 10 * k := by
  rcases h.2.2.2 with ⟨_, rfl⟩ | ⟨_, h⟩
  · simp only [ByteArray.size_extract]; omega
  · exact h
theorem movedS_pos (u : InS) (p : ByteArray) (x e : Int) (h : e ≠ 0) : movedS u p x e = ⟨u.s, u.pos, p, e⟩ := if_neg h
theorem lay_ok {t : OutS} {pc x : ByteArray} (h : t.e = 0) : layS t pc x 0 = ⟨t.s ++ x, t.p, 0⟩ := by unfold layS; rw [if_neg (fun q => q h), if_neg (fun q => q rfl), h]
theorem first_ok {s : ByteArray} {k : Nat} {u : InS} {t : OutS} {u' : InS} {pc x : ByteArray} {m n : Nat} (h : FInv s k u t) (he : u.e = 0) (hp : u.pos = m) (hu : u' = ⟨u.s, (m : Int) + n, u.p, 0⟩) (hm : m + n ≤ u.s.size) (hx : u.s.extract m (m + n) = x) : FInv s (k + 1) u' (layS t pc x 0) := by
  obtain ⟨rfl, h0, h1, h2⟩ := h
  subst hu
  refine ⟨rfl, by simp only; omega, by simp only; omega, .inl ⟨rfl, ?_⟩⟩
  rcases h2 with ⟨_, rfl⟩ | ⟨h3, _⟩
  · rw [lay_ok rfl, ← hx, hp]
    simp only [OutS.mk.injEq, and_true]
    rw [show ((m : Int)).toNat = m by omega, show ((m : Int) + (n : Nat)).toNat = m + n by omega]
    exact extract_two _ 0 m (m + n) (by omega) (by omega) hm
  · exact absurd he h3
theorem first_bad {s : ByteArray} {k : Nat} {u : InS} {t t' : OutS} {u' : InS} (h : FInv s k u t) (hs : s.size ≤ 3000) (h1 : u'.s = u.s) (h2 : u'.pos = u.pos) (h3 : u'.e ≠ 0) (h4 : t'.s.size ≤ t.s.size + 10) : FInv s (k + 1) u' t' := by
  have hsz := h.size hs
  obtain ⟨rfl, h5, h6, _⟩ := h
  exact ⟨h1, by omega, by omega, .inr ⟨h3, by omega⟩⟩
theorem putZ_0 : putZ 0 = [0] := rfl
theorem numS_bad {u : InS} {n : Int} (h : (numS u n).e ≠ 0) : numN u n = 0 ∧ (numS u n).s = u.s ∧ (numS u n).pos = u.pos := by
  unfold numS numN at *
  by_cases q : u.e = 0
  · rw [if_pos q] at h ⊢
    by_cases q2 : numE u n = 0
    · rw [q2] at h
      exact absurd q h
    · rw [if_pos q, if_neg q2, movedS_pos _ _ _ _ q2]
      exact ⟨rfl, rfl, rfl⟩
  · rw [if_neg q, if_neg q]; exact ⟨rfl, rfl, rfl⟩
theorem textS_bad {u : InS} {n : Int} (h : (textS u n).e ≠ 0) : textT u n = ⟨#[]⟩ ∧ (textS u n).s = u.s ∧ (textS u n).pos = u.pos := by
  unfold textS textT at *
  by_cases q : u.e = 0
  · rw [if_pos q] at h ⊢
    by_cases q2 : textE u n = 0
    · rw [if_pos q2] at h
      exact absurd q h
    · rw [if_neg (fun h => q2 h.2), if_neg q2, movedS_pos _ _ _ _ q2]
      exact ⟨rfl, rfl, rfl⟩
  · rw [if_neg q, if_neg (fun h => q h.1)]; exact ⟨rfl, rfl, rfl⟩
theorem unrowZ_bad {s : ByteArray} {a most : Int} (h : (unrowZ s a most).2.2 ≠ 0) : (unrowZ s a most).1 = [] := by
  unfold unrowZ at *
  split
  · rfl
  · split
    · rfl
    · split
      · rename_i h1 h2 h3
        rw [if_neg h1, if_neg h2, if_pos h3] at h
        exact absurd rfl h
      · rfl
theorem rowS_bad {u : InS} {n : Int} (h : (rowS u n).e ≠ 0) : rowI u n = [] ∧ (rowS u n).s = u.s ∧ (rowS u n).pos = u.pos := by
  unfold rowS rowI at *
  by_cases q : u.e = 0
  · rw [if_pos q] at h ⊢
    by_cases q2 : (unrowZ u.s u.pos n).2.2 = 0
    · rw [q2] at h
      exact absurd q h
    · rw [if_pos q, movedS_pos _ _ _ _ q2]
      exact ⟨unrowZ_bad q2, rfl, rfl⟩
  · rw [if_neg q, if_neg q]; exact ⟨rfl, rfl, rfl⟩
theorem flagS_bad {u : InS} (_hp : 0 ≤ u.pos) (h : (flagS u).e ≠ 0) : flagB u = false ∧ (flagS u).s = u.s ∧ (flagS u).pos = u.pos := by
  unfold flagS flagB at *
  by_cases q : u.e = 0
  · rw [if_pos q] at h ⊢
    by_cases q1 : (u.s.size : Int) ≤ u.pos
    · rw [if_pos q1, movedS_pos _ _ _ _ (by decide), decide_eq_false (show ¬ u.pos < (u.s.size : Int) by omega)]
      exact ⟨by simp, rfl, rfl⟩
    · rw [if_neg q1] at h ⊢
      by_cases q2 : 1 < byteAt u
      · rw [if_pos q2, movedS_pos _ _ _ _ (by decide), decide_eq_false (show ¬ byteAt u = 1 by omega)]
        exact ⟨by simp, rfl, rfl⟩
      · rw [if_neg q2] at h
        exact absurd q h
  · rw [if_neg q, decide_eq_false q]; exact ⟨by simp, rfl, rfl⟩
theorem numS_e {u : InS} {n : Int} (h : (numS u n).e = 0) : u.e = 0 := by
  unfold numS at h
  split at h
  · assumption
  · exact h
theorem textS_e {u : InS} {n : Int} (h : (textS u n).e = 0) : u.e = 0 := by
  unfold textS at h
  split at h
  · assumption
  · exact h
theorem rowS_e {u : InS} {n : Int} (h : (rowS u n).e = 0) : u.e = 0 := by
  unfold rowS at h
  split at h
  · assumption
  · exact h
theorem flagS_e {u : InS} (h : (flagS u).e = 0) : u.e = 0 := by
  unfold flagS at h
  split at h
  · assumption
  · exact h
theorem first_num {s : ByteArray} {k : Nat} {u : InS} {t : OutS} (h : FInv s k u t) (hs : s.size ≤ 3000) (n : Int) : FInv s (k + 1) (numS u n) (numL t [numN u n]) ∧ numN u n ≤ 9223372036854775807 := by
  by_cases q : (numS u n).e = 0
  · have h0 := numS_e q
    obtain ⟨m, uu, e1, e2, e3, e4, e5, e6⟩ := num_least h0 q
    refine ⟨?_, e6⟩
    show FInv _ _ _ (layS t pNum (bs (putZ (numN u n))) (putE (numN u n)))
    rw [show putE (numN u n) = 0 from if_neg (by omega)]
    exact first_ok h h0 e1 e2 e3 e4
  · obtain ⟨e1, e2, e3⟩ := numS_bad q
    rw [e1]
    refine ⟨first_bad h hs e2 e3 q ?_, by decide⟩
    show (layS t pNum (bs (putZ 0)) (putE 0)).s.size ≤ _
    have := layS_size t pNum (bs (putZ 0)) (putE 0)
    have e : (bs (putZ 0)).size = 1 := rfl
    omega
theorem first_text {s : ByteArray} {k : Nat} {u : InS} {t : OutS} (h : FInv s k u t) (hs : s.size ≤ 3000) (n : Int) : FInv s (k + 1) (textS u n) (layS t pText (bs (putZ (textT u n).size) ++ textT u n) 0) ∧ (textT u n).size ≤ 3000 := by
  by_cases q : (textS u n).e = 0
  · have h0 := textS_e q
    obtain ⟨m, uu, e1, e2, e3, e4⟩ := text_least h0 q
    refine ⟨first_ok h h0 e1 e2 e3 e4, ?_⟩
    have h4 := congrArg ByteArray.size e4
    rw [ByteArray.size_append, ByteArray.size_extract] at h4
    have := h.1
    subst this
    omega
  · obtain ⟨e1, e2, e3⟩ := textS_bad q
    rw [e1]
    refine ⟨first_bad h hs e2 e3 q ?_, by decide⟩
    have := layS_size t pText (bs (putZ ((⟨#[]⟩ : ByteArray).size : Nat)) ++ ⟨#[]⟩) 0
    have e : (bs (putZ ((⟨#[]⟩ : ByteArray).size : Nat)) ++ (⟨#[]⟩ : ByteArray)).size = 1 := rfl
    omega
theorem first_row {s : ByteArray} {k : Nat} {u : InS} {t : OutS} (h : FInv s k u t) (hs : s.size ≤ 3000) (n : Int) : FInv s (k + 1) (rowS u n) (layS t pRow (bs (rowZ (rowI u n))) (rowE (rowI u n))) ∧ ∀ x ∈ rowI u n, x ≤ 9223372036854775807 := by
  by_cases q : (rowS u n).e = 0
  · have h0 := rowS_e q
    obtain ⟨m, uu, e1, e2, e3, e4, e5, e6⟩ := row_least h0 q
    refine ⟨?_, e5⟩
    rw [show rowE (rowI u n) = 0 from if_pos e4, show rowZ (rowI u n) = rowP (rowI u n) from if_pos e4]
    exact first_ok h h0 e1 e2 e3 e6
  · obtain ⟨e1, e2, e3⟩ := rowS_bad q
    rw [e1]
    refine ⟨first_bad h hs e2 e3 q ?_, by simp⟩
    have := layS_size t pRow (bs (rowZ [])) (rowE [])
    have e : (bs (rowZ [])).size = 1 := rfl
    omega
theorem first_flag {s : ByteArray} {k : Nat} {u : InS} {t : OutS} (h : FInv s k u t) (hs : s.size ≤ 3000) : FInv s (k + 1) (flagS u) (layS t pFlag (bitB (flagB u)) 0) := by
  by_cases q : (flagS u).e = 0
  · have h0 := flagS_e q
    obtain ⟨m, e1, e2, e3, e4⟩ := flag_least h0 h.2.1 q
    exact first_ok (n := 1) h h0 e1 e2 e3 e4
  · obtain ⟨e1, e2, e3⟩ := flagS_bad h.2.1 q
    rw [e1]
    refine first_bad h hs e2 e3 q ?_
    have := layS_size t pFlag (bitB false) 0
    have e : (bitB false).size = 1 := rfl
    omega
theorem FInv.next {s : ByteArray} {k : Nat} {u : InS} {t : OutS} (h : FInv s k u t) : FInv s (k + 1) u t :=
  ⟨h.1, h.2.1, h.2.2.1, h.2.2.2.imp id (fun q => ⟨q.1, by omega⟩)⟩

/-- What the law keeps: a reader and a writer. -/
structure FSt (I : Impl) (w wr : World) (Sr : Nat → Prop) (Br : Nat) (Sw : Nat → Prop) (Bw : Nat) (u : InS) (t : OutS) : Prop where
  R : I.R wr Sr Br u
  W : I.W wr Sw Bw t
  apart : ∀ k, Sr k → ¬ Sw k
  gr : ∀ k, Sr k → w.heap.size ≤ k
  gw : ∀ k, Sw k → w.heap.size ≤ k
  pos : 0 < w.heap.size
  laid : Laid wr
  below : RowKit.Below w.heap.size w wr
theorem FSt.later {I : Impl} {w wr w2 : World} {Sr : Nat → Prop} {Br : Nat} {Sw : Nat → Prop} {Bw : Nat} {u : InS} {t : OutS} (h : FSt I w wr Sr Br Sw Bw u t) (k : RowKit.Below wr.heap.size wr w2) : FSt I w w2 Sr Br Sw Bw u t :=
  ⟨I.rlater h.R k, I.wlater h.W k, h.apart, h.gr, h.gw, h.pos, h.laid.below k h.laid.pos, h.below.trans (k.mono h.below.size)⟩
theorem FSt.reads {I : Impl} {w wr w2 : World} {Sr Sr' : Nat → Prop} {Br : Nat} {Sw : Nat → Prop} {Bw : Nat} {u u' : InS} {t : OutS} (h : FSt I w wr Sr Br Sw Bw u t) (k1 : I.R w2 Sr' Br u') (k2 : Ext Sr Sr' wr) (k3 : Chg Sr wr w2) : FSt I w w2 Sr' Br Sw Bw u' t :=
  ⟨k1, I.wkeep h.W h.R (fun k q1 q2 => h.apart k q2 q1) k3, fun k q1 q2 => (k2 k q1).elim (fun q => h.apart k q q2) (fun q => by have := (I.wold h.W).2 k q2; omega), k2.ge h.gr h.below.size, h.gw, h.pos,
    k3.laid h.laid (fun q => by have := h.gr 0 q; have := h.pos; omega), h.below.trans (k3.below h.gr h.below.size)⟩
theorem FSt.lays {I : Impl} {w wr w2 : World} {Sr : Nat → Prop} {Br : Nat} {Sw Sw' : Nat → Prop} {Bw : Nat} {u : InS} {t t' : OutS} (h : FSt I w wr Sr Br Sw Bw u t) (k1 : I.W w2 Sw' Bw t') (k2 : Ext Sw Sw' wr) (k3 : Chg Sw wr w2) : FSt I w w2 Sr Br Sw' Bw u t' :=
  ⟨I.rkeep h.R h.W h.apart k3, k1, fun k q1 q2 => (k2 k q2).elim (fun q => h.apart k q1 q) (fun q => by have := (I.rold h.R).2 k q1; omega), h.gr, k2.ge h.gw h.below.size, h.pos,
    k3.laid h.laid (fun q => by have := h.gw 0 q; have := h.pos; omega), h.below.trans (k3.below h.gw h.below.size)⟩
end Go.Proofs.YtegbldkkggpjcaaDoor
