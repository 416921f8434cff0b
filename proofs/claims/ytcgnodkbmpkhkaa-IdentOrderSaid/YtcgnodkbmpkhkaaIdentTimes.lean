/- The contract of the laws' own count of a command in a row (times). -/
import Derived.Test.YtcgnodkbmpkhkaaIdentSort
import Derived.Deep.QuietTactic
import Derived.BigQuiet
namespace Go.Proofs.Ytcgnodkbmpkhkaa
open Go.RowKit Go.Sort

theorem count_take (zs : List (Int × Int)) (x : Int × Int) (k : Nat) (hk : k < zs.length) : (zs.take (k + 1)).count x = (zs.take k).count x + if zs.getD k (0, 0) = x then 1 else 0 := by
  rw [List.take_succ_eq_append_getElem hk, List.count_append]
  simp only [List.getD_eq_getElem?_getD, List.getElem?_eq_getElem hk, Option.getD_some, List.count_cons, List.count_nil, Nat.zero_add, beq_iff_eq]
set_option maxHeartbeats 1600000 in
theorem times_any (sa : Option Addr) (len cap : Nat) (zs : List (Int × Int)) (x : Int × Int) (w : World) (hm : len ≤ 1000) (hr : ReadsA w sa len zs) :
    Calls Try.prog 25 #[.slice sa len cap, .agg #[.int .i64 x.1, .int .i64 x.2]] w fun e w' => e = .returned (.int .i64 (zs.count x : Nat)) ∧ Grew w w' := by
  have hmix := mixed
  have HZ := Lib.hid hr.1
  have HR := Lib.hid (hr.later ((RowKit.Below.refl w.heap.size w).alloc (Nat.le_refl _) (.cells #[.int .i64 x.1, .int .i64 x.2] 34)))
  clear hr
  go_enter Try.func25, Try.ntmps25
  go_wp2
  go_loopw [5, 6] (fun n i wr => ∃ k m : Nat, k ≤ len ∧ i = .int .i64 k ∧ n = .int .i64 m ∧ m ≤ k ∧ Hid (m = (zs.take k).count x) ∧ Grew (w.alloc (.cells #[.int .i64 x.1, .int .i64 x.2] 34)) wr) (fun _ i _ => len - (intOf i).toNat)
  case atStart => exact ⟨0, 0, Nat.zero_le _, rfl, rfl, Nat.le_refl _, rfl, Grew.refl _⟩
  case round =>
    obtain ⟨k, m, hk, rfl, rfl, hmk, HM, hg⟩ := hrel
    have k0 : wr.cell? ⟨w.heap.size, 0, none⟩ = some (.int .i64 x.1) := (hg.below.cell (p := ⟨w.heap.size, 0, none⟩) (by simp)).trans (by simp)
    have k1 : wr.cell? ⟨w.heap.size, 1, none⟩ = some (.int .i64 x.2) := (hg.below.cell (p := ⟨w.heap.size, 1, none⟩) (by simp)).trans (by simp)
    have G := Lib.hid hg
    by_cases hlt : k < len
    · obtain ⟨ba, oa, rfl, ga⟩ := (HR.out.later hg.below).2 (by omega)
      obtain ⟨l0, l1⟩ := ga k hlt
      have hc := count_take zs x k (by rw [← HZ.out]; exact hlt)
      clear ga hg
      obtain ⟨y, hy⟩ : ∃ y, y = zs.getD k (0, 0) := ⟨_, rfl⟩
      rw [← hy] at l0 l1 hc
      clear hy
      by_cases q : y = x
      · subst q
        rw [if_pos rfl] at hc
        have HC := Lib.hid hc; clear hc
        go_wp2_with fail
        go_quiet (fail)
        go_wp2
        go_roundw
        case rel => exact ⟨k + 1, m + 1, by omega, by go_num, by go_num, by omega, by show _ = _; rw [HC.out, ← HM.out], G.out.trans ⟨nq, #[], by rw [grow_empty]⟩⟩
        case measure => simp [intOf]; omega
      · rw [if_neg q] at hc
        have HC := Lib.hid hc; clear hc
        obtain ⟨y1, y2⟩ := y
        obtain ⟨x1, x2⟩ := x
        simp only at *
        by_cases q1 : y1 = x1
        · subst q1
          have q2 : y2 ≠ x2 := fun h => q (by rw [h])
          have e2 : (y2 == x2) = false := by simpa using q2
          clear q
          go_wp2_with fail
          go_quiet (fail)
          go_wp2
          go_roundw
          case rel => exact ⟨k + 1, m, by omega, by go_num, rfl, by omega, by show _ = _; rw [HC.out, ← HM.out]; rfl, G.out.trans ⟨nq, #[], by rw [grow_empty]⟩⟩
          case measure => simp [intOf]; omega
        · have e1 : (y1 == x1) = false := by simpa using q1
          clear q
          go_wp2_with fail
          go_quiet (fail)
          go_wp2
          go_roundw
          case rel => exact ⟨k + 1, m, by omega, by go_num, rfl, by omega, by show _ = _; rw [HC.out, ← HM.out]; rfl, G.out.trans ⟨nq, #[], by rw [grow_empty]⟩⟩
          case measure => simp [intOf]; omega
    · obtain rfl : k = len := by omega
      clear hg
      go_wp2
      go_ret
      have e1 : (zs.take k).count x = zs.count x := by rw [List.take_of_length_le (by rw [HZ.out]; exact Nat.le_refl _)]
      exact ⟨ret_int (by rw [HM.out, e1]), ((Grew.refl w).alloc _).trans G.out⟩
end Go.Proofs.Ytcgnodkbmpkhkaa
