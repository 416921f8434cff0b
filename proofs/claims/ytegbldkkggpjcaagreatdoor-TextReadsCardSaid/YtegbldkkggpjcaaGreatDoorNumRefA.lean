/- The contracts of the document's Put and Get. -/
import Derived.Test.YtegbldkkggpjcaaGreatDoorNumFacts
import Derived.Test.YtegbldkkggpjcaaGreatDoorRows
import Derived.WalkKit
import Derived.WalkSpells
import Derived.Lib.Hide
import Derived.Outline
import Derived.OwnWalk
import Derived.Deep.LoopGhost
import Derived.Deep.DeepCutAuto
import Derived.Deep.CutBlock
namespace Go.Proofs.YtegbldkkggpjcaaGreatDoor
open Go.RowKit

/-- A text of bytes. -/
def bs (l : List UInt8) : ByteArray := ⟨l.toArray⟩
theorem bs_size (l : List UInt8) : (bs l).size = l.length := by simp [bs, ByteArray.size]
theorem bs_list (l : List UInt8) : (bs l).data.toList = l := by simp [bs]
theorem bs_app (a b : List UInt8) : bs a ++ bs b = bs (a ++ b) := by
  apply ByteArray.ext
  simp [bs, ByteArray.data_append]
theorem bs_of (s : ByteArray) : bs s.data.toList = s := by simp [bs]
/-- A text of one byte. -/
def oneB (d : Int) : ByteArray := ByteArray.empty.push (UInt8.ofNat d.toNat)
theorem oneB_bs (d : Int) : oneB d = bs [UInt8.ofNat d.toNat] := rfl
theorem oneB_size (d : Int) : (oneB d).size = 1 := rfl
theorem conv_one (w : World) (a : Addr) (c : Nat) (d : Int) (h : w.cell? a = some (.int .u8 d)) : (convert 122 9 (.slice (some a) 1 c)).run Tryz.prog w = .ok (.string (oneB d)) w := by
  rw [run_convert_bytes_string w _ _ _ _ _ _ Tryz.underlying122 Tryz.underlying5 Tryz.underlying9]
  rw [run_bytesToString w a 1 c [d] ?_]
  · rfl
  · simp [loadCells, loadCellsFrom, Addr.add, h]

theorem put_ret {a b : ByteArray} {c : Int} (h : a = b) : Ending.returned (Value.tuple #[.string a, .int .i64 c]) = .returned (.tuple #[.string b, .int .i64 c]) := by rw [h]
theorem rput_no (n : Int) (h : n < 0) (w : World) : Calls Tryz.prog 59 #[.int .i64 n] w fun e w' => e = .returned (.tuple #[.string ⟨#[]⟩, .int .i64 2]) ∧ w' = w := by
  have d1 : decide (n < 0) = true := decide_eq_true h
  go_enter Tryz.func59, Tryz.ntmps59
  go_wp2
  go_ret2
  exact ⟨rfl, rfl⟩
theorem rput_small (n : Nat) (h : n < 128) (w : World) : Calls Tryz.prog 59 #[.int .i64 n] w fun e w' => e = .returned (.tuple #[.string (bs (putL n)), .int .i64 0]) ∧ RowKit.Below w.heap.size w w' := by
  have d1 : decide ((n : Int) < 0) = false := decide_eq_false (by omega)
  have d2 : decide ((n : Int) < 128) = true := decide_eq_true (by omega)
  have i1 : (0 : Int) ≤ (n : Int) := by omega
  have i2 : (n : Int) < 256 := by omega
  have HE := Lib.hid (show oneB (n : Int) = bs (putL n) by rw [putL_small h, oneB_bs]; rfl)
  have cv := conv_one (w.alloc (.cells #[.int .u8 (n : Int)] 5)) ⟨w.heap.size, 0, none⟩ 1 (n : Int) (by simp)
  clear h
  go_enter Tryz.func59, Tryz.ntmps59
  go_wp2
  go_ret2
  exact ⟨put_ret HE.out, (Below.refl _ _).alloc (Nat.le_refl _) _⟩
set_option maxRecDepth 20000 in
theorem rput_great (c : Nat) (h : ¬ c < 128) (hm : c < 9223372036854775808) (w : World) : Calls Tryz.prog 59 #[.int .i64 c] w fun e w' => e = .returned (.tuple #[.string (bs (putL c)), .int .i64 0]) ∧ RowKit.Below w.heap.size w w' := by
  have d1 : decide ((c : Int) < 0) = false := decide_eq_false (by omega)
  have d2 : decide ((c : Int) < 128) = false := decide_eq_false (by omega)
  have HS := Lib.hid (show c < 256 ^ 8 by omega)
  have HP := Lib.hid (putL_great h)
  have i0 : (c : Int) ≤ 9223372036854775807 := by omega
  clear h
  go_enter Tryz.func59, Tryz.ntmps59
  go_wp2
  go_loopg [0, 4] 8 (fun k n s wr => ∃ (m : Nat) (l : List UInt8), m ≤ c ∧ Hid (m < 256 ^ k) ∧ l.length + k ≤ 8 ∧ Hid (bed m ++ l = bed c) ∧ n = .int .i64 m ∧ s = .string (bs l) ∧ Hid (RowKit.Below w.heap.size w wr))
  case atStart => exact ⟨c, [], Nat.le_refl _, HS, by decide, Lib.hid (by simp), rfl, rfl, Lib.hid (Below.refl _ _)⟩
  case round =>
    obtain ⟨m, l, hmc, HM, hk, HD, rfl, rfl, HB⟩ := hrel
    by_cases h0 : 0 < m
    · have h0' : (0 : Int) < (m : Int) := by omega
      have cv := conv_one (wr.alloc (.cells #[.int .u8 ((m : Int) % 256)] 5)) ⟨wr.heap.size, 0, none⟩ 1 ((m : Int) % 256) (by simp)
      have hs1 := oneB_size ((m : Int) % 256)
      have hs3 := bs_size l
      have hs2 : ¬ (1 + l.length > 9223372036854775807) := by omega
      have H0 := Lib.hid h0
      have hk1 : 1 ≤ gk := by
        have := HM.out
        rcases Nat.eq_zero_or_pos gk with e | e
        · rw [e] at this; simp at this; omega
        · exact e
      clear h0
      go_wp2
      go_roundg (gk - 1)
      case measure => omega
      case rel =>
        refine ⟨m / 256, UInt8.ofNat (m % 256) :: l, by omega, Lib.hid ?_, ?_, Lib.hid ?_, by go_num, ?_, Lib.hid (HB.out.alloc (HB.out.size) _)⟩
        · have hq := HM.out
          obtain ⟨j, rfl⟩ : ∃ j, gk = j + 1 := ⟨gk - 1, by omega⟩
          rw [Nat.pow_succ] at hq
          show m / 256 < 256 ^ j
          omega
        · simp; omega
        · have := HD.out
          rw [bed_step m H0.out, List.append_assoc] at this
          exact this
        · rw [oneB_bs, bs_app, show ((m : Int) % 256).toNat = m % 256 by omega]; rfl
    · obtain rfl : m = 0 := by omega
      have hl : l = bed c := by have := HD.out; rwa [bed_zero] at this
      have hs3 := bs_size l
      have i1 : (l.length : Int) ≤ 8 := by omega
      have cv := conv_one (wr.alloc (.cells #[.int .u8 (128 + (l.length : Int))] 5)) ⟨wr.heap.size, 0, none⟩ 1 (128 + (l.length : Int)) (by simp)
      have hs1 := oneB_size (128 + (l.length : Int))
      have hs2 : ¬ (1 + l.length > 9223372036854775807) := by omega
      have HE := Lib.hid (show oneB (128 + (l.length : Int)) ++ bs l = bs (putL c) by
        rw [HP.out, ← hl, oneB_bs, bs_app, show (128 + (l.length : Int)).toNat = 128 + l.length by omega]; rfl)
      clear h0 hl
      go_wp2
      go_ret2
      exact ⟨put_ret HE.out, HB.out.alloc HB.out.size _⟩
def putZ (n : Int) : List UInt8 := if n < 0 then [] else putL n.toNat
def putE (n : Int) : Int := if n < 0 then 2 else 0
theorem rput_any (n : Int) (hm : n ≤ 9223372036854775807) (w : World) : Calls Tryz.prog 59 #[.int .i64 n] w fun e w' => e = .returned (.tuple #[.string (bs (putZ n)), .int .i64 (putE n)]) ∧ RowKit.Below w.heap.size w w' := by
  unfold putZ putE
  by_cases h : n < 0
  · rw [if_pos h, if_pos h]
    exact (rput_no n h w).mono fun e w' ⟨a, b⟩ => ⟨a, by rw [b]; exact Below.refl _ _⟩
  · rw [if_neg h, if_neg h]
    obtain ⟨m, rfl⟩ : ∃ m : Nat, n = m := ⟨n.toNat, by omega⟩
    by_cases q : m < 128
    · exact rput_small m q w
    · exact rput_great m q (by omega) w
end Go.Proofs.YtegbldkkggpjcaaGreatDoor
