/- The contracts of api.Errno's Error and of the document's Digits: a number's digits. -/
import Derived.Test.YtegbldkkggpjcaaGreatDoorFailWithin
import Derived.Test.YtegbldkkggpjcaaGreatDoorNumRefA
namespace Go.Proofs.YtegbldkkggpjcaaGreatDoor
open Go.RowKit

/-- A number's digits ahead of a text. -/
def digB (n : Nat) (acc : ByteArray) : ByteArray := if _h : n = 0 then acc else digB (n / 10) (oneB (48 + (n : Int) % 10) ++ acc)
termination_by n
decreasing_by omega
theorem digB_zero (acc : ByteArray) : digB 0 acc = acc := by unfold digB; rfl
theorem digB_step (n : Nat) (h : 0 < n) (acc : ByteArray) : digB (n / 10) (oneB (48 + (n : Int) % 10) ++ acc) = digB n acc := by
  conv => rhs; unfold digB
  rw [dif_neg (by omega)]
theorem digB_size (k : Nat) : ∀ (n : Nat) (acc : ByteArray), n < 10 ^ k → (digB n acc).size ≤ acc.size + k := by
  induction k with
  | zero => intro n acc h; obtain rfl : n = 0 := by simpa using h
            rw [digB_zero]; omega
  | succ k ih =>
    intro n acc h
    by_cases h0 : n = 0
    · subst h0; rw [digB_zero]; omega
    · rw [← digB_step n (by omega)]
      have := ih (n / 10) (oneB (48 + (n : Int) % 10) ++ acc) (by rw [Nat.pow_succ] at h; omega)
      rw [ByteArray.size_append, oneB_size] at this
      omega

theorem errnoError_no (c : Int) (h : c ≤ 0) (w : World) : Calls Tryz.prog 77 #[.int .i64 c] w fun e w' => e = .returned (.string ⟨#[101, 114, 114, 111, 114, 32, 48]⟩) ∧ w = w' := by
  go_enter Tryz.func77, Tryz.ntmps77
  go_wp2
  go_ret
  exact ⟨rfl, rfl⟩
set_option maxRecDepth 20000 in
theorem errnoError_yes (c : Nat) (h : 0 < c) (hm : c ≤ 9223372036854775807) (w : World) : Calls Tryz.prog 77 #[.int .i64 c] w fun e w' => e = .returned (.string (⟨#[101, 114, 114, 111, 114, 32]⟩ ++ digB c ByteArray.empty)) ∧ RowKit.Below w.heap.size w w' := by
  have h' : ¬ (c : Int) ≤ 0 := by omega
  have HS := Lib.hid (show c < 10 ^ 19 by omega)
  go_enter Tryz.func77, Tryz.ntmps77
  go_wp2
  go_loopg [3, 4] 19 (fun k s n wr => ∃ (m : Nat) (l : ByteArray), m ≤ c ∧ Hid (m < 10 ^ k) ∧ l.size + k ≤ 19 ∧ Hid (digB m l = digB c ByteArray.empty) ∧ n = .int .i64 m ∧ s = .string l ∧ Hid (RowKit.Below w.heap.size w wr))
  case atStart => exact ⟨c, _, Nat.le_refl _, HS, by decide, Lib.hid rfl, rfl, rfl, Lib.hid (Below.refl _ _)⟩
  case round =>
    obtain ⟨m, l, hmc, HM, hk, HD, rfl, rfl, HB⟩ := hrel
    by_cases h0 : 0 < m
    · have h0' : (0 : Int) < (m : Int) := by omega
      have cv := conv_one (wr.alloc (.cells #[.int .u8 (48 + (m : Int) % 10)] 5)) ⟨wr.heap.size, 0, none⟩ 1 (48 + (m : Int) % 10) (by simp)
      have hs1 := oneB_size (48 + (m : Int) % 10)
      have hs2 : ¬ (1 + l.size > 9223372036854775807) := by omega
      have H0 := Lib.hid h0
      have hk1 : 1 ≤ gk := by
        have := HM.out
        rcases Nat.eq_zero_or_pos gk with e | e
        · rw [e] at this; simp at this; omega
        · exact e
      clear h0
      go_wp2
      go_roundg (gk - 1)
      case measure => omega
      case rel =>
        refine ⟨m / 10, _, by omega, Lib.hid ?_, ?_, Lib.hid ?_, by go_num, rfl, Lib.hid (HB.out.alloc (HB.out.size) _)⟩
        · have hq := HM.out
          obtain ⟨j, rfl⟩ : ∃ j, gk = j + 1 := ⟨gk - 1, by omega⟩
          rw [Nat.pow_succ] at hq
          show m / 10 < 10 ^ j
          omega
        · rw [ByteArray.size_append, oneB_size]; omega
        · rw [digB_step m H0.out]; exact HD.out
    · obtain rfl : m = 0 := by omega
      have hl : l = digB c ByteArray.empty := by have := HD.out; rwa [digB_zero] at this
      have HL := Lib.hid hl
      have hs2 : ¬ (6 + l.size > 9223372036854775807) := by omega
      clear h0 hl
      go_wp2
      go_ret
      exact ⟨by rw [HL.out]; rfl, HB.out⟩
/-- A number's text. -/
def numB (c : Int) : ByteArray := if c ≤ 0 then ⟨#[48]⟩ else digB c.toNat ByteArray.empty
theorem numB_size (c : Int) (h : c ≤ 9223372036854775807) : (numB c).size ≤ 19 := by
  unfold numB
  split
  · decide
  · have := digB_size 19 c.toNat ByteArray.empty (by omega)
    simpa using this
def errorB (c : Int) : ByteArray := ⟨#[101, 114, 114, 111, 114, 32]⟩ ++ numB c
theorem errnoError_any (c : Int) (hm : c ≤ 9223372036854775807) (w : World) : Calls Tryz.prog 77 #[.int .i64 c] w fun e w' => e = .returned (.string (errorB c)) ∧ RowKit.Below w.heap.size w w' := by
  unfold errorB numB
  split
  · rename_i h
    exact (errnoError_no c h w).mono fun e w' ⟨he, hw⟩ => ⟨by rw [he]; rfl, by rw [hw]; exact Below.refl _ _⟩
  · rename_i h
    have := errnoError_yes c.toNat (by omega) (by omega) w
    rwa [show ((c.toNat : Nat) : Int) = c by omega] at this
end Go.Proofs.YtegbldkkggpjcaaGreatDoor
