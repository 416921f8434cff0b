/- What the document's reader read without a fault are the bytes that the writer lays. Pure. -/
import Derived.Test.YtegbldkkggpjcaaDoorTxtBack
namespace Go.Proofs.YtegbldkkggpjcaaDoor
open Go.RowKit Go.Sort

theorem moved_e {r : InS} {p : ByteArray} {u e : Int} (_h : r.e = 0) (k : (movedS r p u e).e = 0) : e = 0 := by
  unfold movedS at k
  split at k
  · assumption
  · exact k
theorem putZ_nn (x : Nat) : putZ (x : Int) = putL x := by unfold putZ; rw [if_neg (by omega), Int.toNat_natCast]
theorem num_least {r : InS} {most : Int} (h : r.e = 0) (k : (numS r most).e = 0) : ∃ m u : Nat, r.pos = m ∧ numS r most = ⟨r.s, (m : Int) + u, r.p, 0⟩ ∧ m + u ≤ r.s.size ∧ r.s.extract m (m + u) = bs (putZ (numN r most)) ∧ 0 ≤ numN r most ∧ numN r most ≤ 9223372036854775807 := by
  unfold numS at k
  rw [if_pos h] at k
  have hE := moved_e h k
  have h0 : (getZ r.s r.pos).2.2 = 0 := by
    unfold numE at hE
    split at hE
    · omega
    · exact hE
  obtain ⟨m, x, u, e1, e2, e3, _, e5, e6⟩ := least_get h0
  have hn : numN r most = x := by
    unfold numN
    rw [if_pos h, if_pos hE, e2]
  refine ⟨m, u, e1, ?_, e3, ?_, ?_, ?_⟩
  · unfold numS
    rw [if_pos h, hE, moved_ok, e2, h]
  · rw [hn, putZ_nn]; exact e6
  · rw [hn]; omega
  · rw [hn]; omega
theorem row_least {r : InS} {most : Int} (h : r.e = 0) (k : (rowS r most).e = 0) : ∃ m u : Nat, r.pos = m ∧ rowS r most = ⟨r.s, (m : Int) + u, r.p, 0⟩ ∧ m + u ≤ r.s.size ∧ okL (rowI r most) = true ∧ (∀ x ∈ rowI r most, x ≤ 9223372036854775807) ∧ r.s.extract m (m + u) = bs (rowP (rowI r most)) := by
  unfold rowS at k
  rw [if_pos h] at k
  have hE := moved_e h k
  obtain ⟨m, u, l, e1, e2, e3, _, e5, e6, e7⟩ := least_unrow hE
  have hn : rowI r most = l := by
    unfold rowI
    rw [if_pos h, e2]
  refine ⟨m, u, e1, ?_, e3, by rw [hn]; exact e5, by rw [hn]; exact e6, by rw [hn]; exact e7⟩
  unfold rowS
  rw [if_pos h, hE, moved_ok, e2, h]
theorem extract_two (s : ByteArray) (a b c : Nat) (h1 : a ≤ b) (h2 : b ≤ c) (h3 : c ≤ s.size) : s.extract a b ++ s.extract b c = s.extract a c := by
  have e1 := cut_bs s a (b - a) (by omega)
  have e2 := cut_bs s b (c - b) (by omega)
  have e3 := cut_bs s a (c - a) (by omega)
  rw [show a + (b - a) = b by omega] at e1
  rw [show b + (c - b) = c by omega] at e2
  rw [show a + (c - a) = c by omega] at e3
  rw [e1, e2, e3, bs_app]
  congr 1
  rw [show c - a = (b - a) + (c - b) by omega, List.take_add, List.drop_drop, show a + (b - a) = b by omega]
theorem text_least {r : InS} {most : Int} (h : r.e = 0) (k : (textS r most).e = 0) : ∃ m u : Nat, r.pos = m ∧ textS r most = ⟨r.s, (m : Int) + u, r.p, 0⟩ ∧ m + u ≤ r.s.size ∧ r.s.extract m (m + u) = bs (putZ (textT r most).size) ++ textT r most := by
  have hE : textE r most = 0 := by
    unfold textS at k
    rw [if_pos h] at k
    split at k
    · assumption
    · exact moved_e h k
  have h0 : (getZ r.s r.pos).2.2 = 0 := by
    unfold textE at hE
    split at hE
    · assumption
    · exact hE
  obtain ⟨m, x, u, e1, e2, e3, _, e5, e6⟩ := least_get h0
  have hx : (m + u) + x ≤ r.s.size := by
    unfold textE at hE
    rw [e2] at hE
    simp only [if_true] at hE
    split at hE
    · omega
    · split at hE
      · omega
      · omega
  have hT : textT r most = r.s.extract (m + u) (m + u + x) := by
    unfold textT
    rw [if_pos ⟨h, hE⟩, e2]
    congr 1
  have hs : (textT r most).size = x := by
    rw [hT, ByteArray.size_extract]
    omega
  refine ⟨m, u + x, e1, ?_, by omega, ?_⟩
  · unfold textS
    rw [if_pos h, if_pos hE, moved_ok, e2, h]
    congr 1
    simp only
    omega
  · rw [hs, putZ_nn, hT, ← e6, extract_two _ _ _ _ (by omega) (by omega) hx, Nat.add_assoc]
theorem flag_least {r : InS} (h : r.e = 0) (hp : 0 ≤ r.pos) (k : (flagS r).e = 0) : ∃ m : Nat, r.pos = m ∧ flagS r = ⟨r.s, (m : Int) + 1, r.p, 0⟩ ∧ m + 1 ≤ r.s.size ∧ r.s.extract m (m + 1) = bitB (flagB r) := by
  obtain ⟨s, pos, p, e⟩ := r
  simp only at h hp k ⊢
  subst h
  obtain ⟨m, rfl⟩ : ∃ m : Nat, pos = (m : Int) := ⟨pos.toNat, by omega⟩
  unfold flagS at k
  rw [if_pos rfl] at k
  by_cases q : (s.size : Int) ≤ (m : Int)
  · rw [if_pos q] at k
    have := moved_e (r := ⟨s, m, p, 0⟩) rfl k
    omega
  · rw [if_neg q] at k
    by_cases q2 : 1 < byteAt ⟨s, (m : Int), p, 0⟩
    · rw [if_pos q2] at k
      have := moved_e (r := ⟨s, m, p, 0⟩) rfl k
      omega
    · have hlt : m < s.data.toList.length := by rw [list_len]; omega
      have hb : byteAt ⟨s, (m : Int), p, 0⟩ = (s.data.toList[m]).toNat := by
        unfold byteAt
        simp only [Int.toNat_natCast, List.getD_eq_getElem?_getD, List.getElem?_eq_getElem hlt, Option.getD_some]
      refine ⟨m, rfl, ?_, by omega, ?_⟩
      · unfold flagS
        rw [if_pos rfl, if_neg q, if_neg q2, moved_ok]
      · rw [cut_bs _ _ _ (by omega), List.drop_eq_getElem_cons hlt]
        simp only [List.take_succ_cons, List.take_zero]
        have hB : flagB ⟨s, (m : Int), p, 0⟩ = decide (byteAt ⟨s, (m : Int), p, 0⟩ = 1) := by
          unfold flagB
          rw [decide_eq_true (rfl : (0 : Int) = 0), decide_eq_true (show (m : Int) < (s.size : Int) by omega)]
          rfl
        rw [hB, hb]
        rw [hb] at q2
        generalize s.data.toList[m] = x at *
        by_cases e1 : x.toNat = 1
        · rw [decide_eq_true e1, ← of_byte x, e1]; rfl
        · rw [decide_eq_false e1, ← of_byte x, show x.toNat = 0 by omega]; rfl
theorem end_least {r : InS} (h : r.e = 0) (k : (endS r).e = 0) : (r.s.size : Int) ≤ r.pos ∧ endS r = r := by
  unfold endS at *
  by_cases q : r.e = 0 ∧ r.pos < (r.s.size : Int)
  · rw [if_pos q] at k
    have := moved_e h k
    omega
  · rw [if_neg q]
    exact ⟨by have := fun h2 => q ⟨h, h2⟩; omega, rfl⟩
end Go.Proofs.YtegbldkkggpjcaaDoor
