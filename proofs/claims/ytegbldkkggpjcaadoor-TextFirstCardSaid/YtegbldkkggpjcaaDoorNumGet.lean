/- The contract of the document's Get. -/
import Derived.Test.YtegbldkkggpjcaaDoorNumRefA
namespace Go.Proofs.YtegbldkkggpjcaaDoor
open Go.RowKit

/-- What is got at a place. -/
def getZ (s : ByteArray) (a : Int) : Int × Int × Int :=
  if a < 0 ∨ (s.size : Int) < a then (0, 0, 2)
  else if (parse (s.data.toList.drop a.toNat)).2.2 = 0 then (((parse (s.data.toList.drop a.toNat)).1 : Nat), a + ((parse (s.data.toList.drop a.toNat)).2.1 : Nat), 0)
  else (0, 0, ((parse (s.data.toList.drop a.toNat)).2.2 : Nat))
theorem getZ_out {s : ByteArray} {a : Int} (h : a < 0 ∨ (s.size : Int) < a) : getZ s a = (0, 0, 2) := if_pos h
theorem getZ_ok {s : ByteArray} {a n u : Nat} (h : a ≤ s.size) (hp : parse (s.data.toList.drop a) = (n, u, 0)) : getZ s a = ((n : Int), (a : Int) + u, 0) := by
  unfold getZ
  rw [if_neg (by omega), Int.toNat_natCast, hp]; rfl
theorem getZ_err {s : ByteArray} {a n u e : Nat} (h : a ≤ s.size) (hp : parse (s.data.toList.drop a) = (n, u, e + 1)) : getZ s a = (0, 0, ((e + 1 : Nat) : Int)) := by
  unfold getZ
  rw [if_neg (by omega), Int.toNat_natCast, hp, if_neg (by simp)]
theorem drop_at (s : ByteArray) (a : Nat) (h : a < s.size) : s.data.toList.drop a = s[a] :: s.data.toList.drop (a + 1) := by
  rw [List.drop_eq_getElem_cons (by simpa using h)]; rfl
theorem list_len (s : ByteArray) : s.data.toList.length = s.size := by rw [Array.length_toList]; rfl
theorem parse_small {x : UInt8} {r : List UInt8} (h : x.toNat < 128) : parse (x :: r) = (x.toNat, 1, 0) := by unfold parse; simp only; rw [if_pos h]
theorem parse_form {x : UInt8} {r : List UInt8} (h1 : ¬ x.toNat < 128) (h : x.toNat = 128 ∨ 136 < x.toNat) : parse (x :: r) = (0, 0, 4 + 1) := by unfold parse; simp only; rw [if_neg h1, if_pos h]
theorem parse_short {x : UInt8} {r : List UInt8} (h1 : ¬ x.toNat < 128) (h2 : ¬ (x.toNat = 128 ∨ 136 < x.toNat)) (h : r.length < x.toNat - 128) : parse (x :: r) = (0, 0, 3 + 1) := by unfold parse; simp only; rw [if_neg h1, if_neg h2, if_pos h]
theorem parse_lead {x y : UInt8} {r : List UInt8} (h1 : ¬ x.toNat < 128) (h2 : ¬ (x.toNat = 128 ∨ 136 < x.toNat)) (h3 : ¬ (y :: r).length < x.toNat - 128) (h : y.toNat = 0 ∨ (x.toNat = 129 ∧ y.toNat < 128)) : parse (x :: y :: r) = (0, 0, 4 + 1) := by
  unfold parse; simp only; rw [if_neg h1, if_neg h2, if_neg h3]; exact if_pos h
theorem parse_big {x y : UInt8} {r : List UInt8} (h1 : ¬ x.toNat < 128) (h2 : ¬ (x.toNat = 128 ∨ 136 < x.toNat)) (h3 : ¬ (y :: r).length < x.toNat - 128) (h4 : ¬ (y.toNat = 0 ∨ (x.toNat = 129 ∧ y.toNat < 128))) (h : x.toNat = 136 ∧ 127 < y.toNat) : parse (x :: y :: r) = (0, 0, 2 + 1) := by
  unfold parse; simp only; rw [if_neg h1, if_neg h2, if_neg h3]; exact (if_neg h4).trans (if_pos h)
theorem parse_ok {x y : UInt8} {r : List UInt8} (h1 : ¬ x.toNat < 128) (h2 : ¬ (x.toNat = 128 ∨ 136 < x.toNat)) (h3 : ¬ (y :: r).length < x.toNat - 128) (h4 : ¬ (y.toNat = 0 ∨ (x.toNat = 129 ∧ y.toNat < 128))) (h5 : ¬ (x.toNat = 136 ∧ 127 < y.toNat)) : parse (x :: y :: r) = (val ((y :: r).take (x.toNat - 128)), 1 + (x.toNat - 128), 0) := by
  unfold parse; simp only; rw [if_neg h1, if_neg h2, if_neg h3]; exact (if_neg h4).trans (if_neg h5)
theorem val_take (l : List UInt8) (j : Nat) (h : j < l.length) : val (l.take (j + 1)) = 256 * val (l.take j) + (l[j]).toNat := by
  rw [List.take_succ_eq_append_getElem h, val_snoc]
theorem val_mono (l : List UInt8) : ∀ (d j : Nat), j + d ≤ l.length → val (l.take j) ≤ val (l.take (j + d)) := by
  intro d
  induction d with
  | zero => intro j _; exact Nat.le_refl _
  | succ d ih =>
    intro j h
    have := ih j (by omega)
    rw [show j + (d + 1) = (j + d) + 1 by omega, val_take l (j + d) (by omega)]
    omega
theorem get_ret {a b c : Int} {p : Int × Int × Int} (h : p = (a, b, c)) : Ending.returned (Value.tuple #[.int .i64 a, .int .i64 b, .int .i64 c]) = .returned (.tuple #[.int .i64 p.1, .int .i64 p.2.1, .int .i64 p.2.2]) := by rw [h]

end Go.Proofs.YtegbldkkggpjcaaDoor
