/- A piece that the document's writer laid is read as it was. Pure. -/
import Derived.Test.YtegbldkkggpjcaaDoorTxtFacts
namespace Go.Proofs.YtegbldkkggpjcaaDoor
open Go.RowKit Go.Sort

theorem moved_ok (r : InS) (p : ByteArray) (u : Int) : movedS r p u 0 = ⟨r.s, u, r.p, r.e⟩ := if_pos rfl
theorem num_back (a b p : ByteArray) (x most : Int) (h : 0 ≤ x) (hm : x ≤ 9223372036854775807) (hx : x ≤ most) : numS ⟨a ++ bs (putZ x) ++ b, a.size, p, 0⟩ most = ⟨a ++ bs (putZ x) ++ b, (a.size : Int) + ((putZ x).length : Nat), p, 0⟩ ∧ numN ⟨a ++ bs (putZ x) ++ b, a.size, p, 0⟩ most = x := by
  have g := back_get a x b h hm
  have e : numE ⟨a ++ bs (putZ x) ++ b, a.size, p, 0⟩ most = 0 := by
    unfold numE
    simp only [g]
    rw [if_neg (fun h => by have := h.2; omega)]
  constructor
  · unfold numS
    rw [if_pos rfl, e, moved_ok]
    simp only [g]
  · unfold numN
    rw [if_pos rfl, if_pos e]
    simp only [g]
theorem text_back (a s b p : ByteArray) (most : Int) (hs : s.size ≤ 100000) (hx : (s.size : Int) ≤ most) : textS ⟨a ++ bs (putZ s.size) ++ (s ++ b), a.size, p, 0⟩ most = ⟨a ++ bs (putZ s.size) ++ (s ++ b), (a.size : Int) + ((putZ s.size).length : Nat) + s.size, p, 0⟩ ∧ textT ⟨a ++ bs (putZ s.size) ++ (s ++ b), a.size, p, 0⟩ most = s := by
  have g := back_get a s.size (s ++ b) (by omega) (by omega)
  have hz := mid_size a (putZ s.size) (s ++ b)
  have hsb : (s ++ b).size = s.size + b.size := ByteArray.size_append
  have e : textE ⟨a ++ bs (putZ s.size) ++ (s ++ b), a.size, p, 0⟩ most = 0 := by
    unfold textE
    simp only [g]
    rw [if_pos trivial, if_neg (by omega), if_neg (by omega)]
  constructor
  · unfold textS
    rw [if_pos rfl, if_pos e, moved_ok]
    simp only [g]
  · unfold textT
    rw [if_pos ⟨rfl, e⟩]
    simp only [g]
    have hd := mid_drop (a ++ bs (putZ s.size)) s.data.toList b
    rw [bs_of, ByteArray.append_assoc, ByteArray.size_append, bs_size] at hd
    have c := cut_bs (a ++ bs (putZ s.size) ++ (s ++ b)) (a.size + (putZ s.size).length) s.size (by omega)
    rw [hd, List.take_left' (list_len s), bs_of] at c
    rw [show ((a.size : Int) + ((putZ s.size).length : Nat)).toNat = a.size + (putZ s.size).length by omega, show ((a.size : Int) + ((putZ s.size).length : Nat) + (s.size : Int)).toNat = a.size + (putZ s.size).length + s.size by omega]
    exact c
theorem row_back (a b p : ByteArray) (l : List Int) (h : okL l = true) (hl : l.length ≤ 1000) (hm : ∀ x ∈ l, x ≤ 9223372036854775807) : rowS ⟨a ++ bs (rowP l) ++ b, a.size, p, 0⟩ l.length = ⟨a ++ bs (rowP l) ++ b, (a.size : Int) + ((rowP l).length : Nat), p, 0⟩ ∧ rowI ⟨a ++ bs (rowP l) ++ b, a.size, p, 0⟩ l.length = l := by
  have g := back_unrow a l b h hl hm
  constructor
  · unfold rowS
    rw [if_pos rfl]
    simp only [g]
    rw [moved_ok]
  · unfold rowI
    rw [if_pos rfl]
    simp only [g]
theorem end_back (s p : ByteArray) : endS ⟨s, s.size, p, 0⟩ = ⟨s, s.size, p, 0⟩ := if_neg (fun h => by have := h.2; simp at this)
theorem getD_drop (l : List UInt8) (n : Nat) : l.getD n 0 = (l.drop n).getD 0 0 := by simp [List.getD, List.getElem?_drop]
theorem flag_byte (a b : ByteArray) (c : Bool) (p : ByteArray) : byteAt ⟨a ++ bitB c ++ b, a.size, p, 0⟩ = if c then 1 else 0 := by
  unfold byteAt
  have hd := mid_drop a (bitB c).data.toList b
  rw [bs_of] at hd
  simp only [Int.toNat_natCast]
  rw [getD_drop, hd]
  cases c <;> rfl
theorem flag_back (a b p : ByteArray) (c : Bool) : flagS ⟨a ++ bitB c ++ b, a.size, p, 0⟩ = ⟨a ++ bitB c ++ b, (a.size : Int) + 1, p, 0⟩ ∧ flagB ⟨a ++ bitB c ++ b, a.size, p, 0⟩ = c := by
  have hb := flag_byte a b c p
  have hz : (a ++ bitB c ++ b).size = a.size + 1 + b.size := by
    rw [ByteArray.size_append, ByteArray.size_append]
    cases c <;> rfl
  constructor
  · unfold flagS
    rw [if_pos rfl, hb, if_neg (by simp only [hz]; omega), if_neg (by cases c <;> decide), moved_ok]
  · unfold flagB
    rw [hb, decide_eq_true (rfl : (0 : Int) = 0), decide_eq_true (show (a.size : Int) < ((a ++ bitB c ++ b).size : Int) by rw [hz]; omega)]
    cases c <;> rfl
end Go.Proofs.YtegbldkkggpjcaaDoor
