/- The contracts of the document's List, SameInts, Set and Ring. -/
import Derived.Test.YtnhkbiigdcgonaaSizeLists
namespace Go.Proofs.Ytnhkbiigdcgonaa
open Go.RowKit

theorem boolsV_at (s : Int) (k : Nat) (h : k < 10) : (boolsV s)[k]? = some (.bool (hasB s (k : Int))) := by
  match k, h with
  | 0, _ => rw [show ((0 : Nat) : Int) = 0 from rfl, hasB_zero]; rfl
  | 1, _ | 2, _ | 3, _ | 4, _ | 5, _ | 6, _ | 7, _ | 8, _ | 9, _ => rfl
  | n + 10, h => omega

theorem boolsV_row (s : Int) (w : World) : (w.alloc (.cells (boolsV s) 44)).rowIs w.heap.size 44 10 (fun k => .bool (hasB s (k : Int))) :=
  World.rowIs_alloc w (boolsV s) 44 _ (fun i hi => boolsV_at s i hi)

theorem Own.lower {w : World} {base base' : Nat} {v : Value} {zs : List Int} (h : Own w base v zs) (hb : base' ≤ base) : Own w base' v zs := by
  refine ⟨h.1, ?_⟩
  rcases h.2 with q | ⟨g, cap, cur, e, hg, r⟩
  · exact Or.inl q
  · exact Or.inr ⟨g, cap, cur, e, Nat.le_trans hb hg, r⟩
set_option maxHeartbeats 1600000 in
theorem rlist_any (s : Int) (w : World) : Calls Try.prog 17 #[.int .i64 s] w fun e w' => ∃ v, e = .returned v ∧ Own w' w.heap.size v (lstQ s 10) ∧ Below w.heap.size w w' := by
  obtain ⟨i0, hi, hz0, hz1, hz2⟩ := info_parts infoInt
  go_enter Try.func17, Try.ntmps17
  go_wp2_with (go_at_call 28; refine (bools_any _ _).mono ?_; rintro e w1 ⟨rfl, hb⟩; unfold boolsV)
  have hrow := boolsV_row s w1
  have hs1 := hb.size
  go_loopw [3, 5] (fun v i wr => ∃ k : Nat, 1 ≤ k ∧ k ≤ 10 ∧ i = .int .i64 k ∧ Own wr (w1.heap.size + 1) v (lstQ s k) ∧ Below (w1.heap.size + 1) (w1.alloc (.cells (boolsV s) 44)) wr) (fun _ i _ => 10 - (intOf i).toNat)
  case atStart => exact ⟨1, by omega, by omega, rfl, by rw [lstQ_one]; exact World.ownsRow_nil _ _ _ _, Below.refl _ _⟩
  case round =>
    obtain ⟨k, hk1, hk, rfl, hown, hbel⟩ := hrel
    by_cases hlt : k < 10
    · have hl := lstQ_len s k
      have hsz : w1.heap.size + 1 ≤ wr.heap.size := by have := hbel.size; simp at this; exact this
      have ck : wr.cell? ⟨w1.heap.size, k, none⟩ = some (.bool (hasB s (k : Int))) := (hbel.cell (p := ⟨w1.heap.size, k, none⟩) (by simp)).trans (hrow.cell hlt)
      clear hrow
      by_cases hh : hasB s k = true
      · have HH := Lib.hid hh
        rw [hh] at ck
        clear hh
        go_wp2_with (at_builtin; refine wpList_append_own _ rfl _ _ 31 rfl (w1.heap.size + 1) 3 i0 (.int .i64 0) 1 8 Try.underlying31 hi hz0 hz1 hz2 rfl (by decide) _ _ _ rfl (World.ownsRow.alloc hown _) ⟨wr.heap.size, 0, none⟩ 1 1 [.int .i64 k] rfl rfl ?c1 ?c2 ?c3 ?c4 ?c5 ?_)
        case c1 =>
          intro j u hj
          match j, hj with
          | 0, hj => simp at hj; subst hj; simp [Addr.add]
        case c2 => intro u hu; simp at hu; subst hu; rfl
        case c3 => unfold maxLen; omega
        case c4 => omega
        case c5 => simp; omega
        intro v' w2 hown' hgrow _
        have hb' := Own.below hown hbel (Nat.le_refl _) hsz _ hgrow
        have ho' : Own w2 (w1.heap.size + 1) v' (lstQ s (k + 1)) := by rw [lstQ_hit s k HH.out]; exact Own.snoc hown'
        clear hown' hgrow hown hbel ck
        go_wp2
        go_roundw
        case rel => exact ⟨k + 1, by omega, by omega, by go_num, ho', hb'⟩
        case measure => simp [intOf]; omega
      · have hh' := Bool.eq_false_iff.2 hh
        clear hh
        have HH := Lib.hid hh'
        rw [hh'] at ck
        clear hh'
        go_wp2
        go_roundw
        case rel => exact ⟨k + 1, by omega, by omega, by go_num, by rw [lstQ_miss s k HH.out]; exact hown, hbel⟩
        case measure => simp [intOf]; omega
    · obtain rfl : k = 10 := by omega
      go_wp2
      go_ret
      exact ⟨_, rfl, Own.lower hown (by omega), (hb.alloc hs1 _).trans (hbel.mono (by omega))⟩

/-- v reads as zs. -/
def Reads (w : World) (v : Value) (zs : List Int) : Prop := ∃ sa cap b, v = .slice sa zs.length cap ∧ (0 < zs.length → sa = some ⟨b, 0, none⟩) ∧ ∀ j, j < zs.length → w.cell? ⟨b, j, none⟩ = some (.int .i64 (zs.getD j 0))
theorem Reads.later {w w' : World} {v : Value} {zs : List Int} (h : Reads w v zs) (hb : Below w.heap.size w w') : Reads w' v zs := by
  obtain ⟨sa, cap, b, e, h1, h2⟩ := h
  exact ⟨sa, cap, b, e, h1, fun j hj => (hb.cell (p := ⟨b, j, none⟩) (World.block_lt_of_cell? _ _ (h2 j hj))).trans (h2 j hj)⟩
theorem Own.reads {w : World} {base : Nat} {v : Value} {zs : List Int} (h : Own w base v zs) : Reads w v zs := by
  have h0 := h
  rcases h.2 with ⟨rfl, hn⟩ | ⟨g, cap, cur, rfl, _⟩
  · exact ⟨none, 0, 0, by rw [hn], fun q => by omega, fun j hj => by omega⟩
  · refine ⟨_, cap, g, rfl, fun _ => rfl, fun j hj => ?_⟩
    rw [World.ownsRow.cellAt h0 j (by omega)]
    simp [List.getD, hj]

set_option maxHeartbeats 1600000 in
theorem same_yes (va vb : Value) (zs : List Int) (w : World) (ha : Reads w va zs) (hb : Reads w vb zs) (hm : zs.length ≤ 1000) :
    Calls Try.prog 23 #[va, vb] w fun e w' => e = .returned (.bool true) ∧ Below w.heap.size w w' := by
  obtain ⟨sa, ca, ba, rfl, ha1, ha2⟩ := ha
  obtain ⟨sb, cb, bb, rfl, hb1, hb2⟩ := hb
  generalize hL : zs.length = L at *
  have HL := Lib.hid hL; clear hL
  have e0 : ((L : Int) != (L : Int)) = false := by simp
  go_enter Try.func23, Try.ntmps23
  go_wp2
  go_loopw [5] (fun i wr => ∃ k : Nat, k ≤ L ∧ i = .int .i64 k ∧ Below w.heap.size w wr) (fun i _ => L - (intOf i).toNat)
  case atStart => exact ⟨0, Nat.zero_le _, rfl, Below.refl _ _⟩
  case round =>
    obtain ⟨k, hk, rfl, hbel⟩ := hrel
    by_cases hlt : k < L
    · obtain rfl := ha1 (by omega)
      obtain rfl := hb1 (by omega)
      have ka := (hbel.cell (p := ⟨ba, k, none⟩) (World.block_lt_of_cell? _ _ (ha2 k hlt))).trans (ha2 k hlt)
      have kb := (hbel.cell (p := ⟨bb, k, none⟩) (World.block_lt_of_cell? _ _ (hb2 k hlt))).trans (hb2 k hlt)
      clear ha2 hb2
      generalize zs.getD k 0 = x at *
      have ex : (x != x) = false := by simp
      go_wp2
      go_quiet (fail)
      go_wp2
      go_roundw
      case rel => exact ⟨k + 1, by omega, by go_num, ⟨hbel.os, hbel.tape, hbel.output, hbel.size, hbel.block⟩⟩
      case measure => simp [intOf]; omega
    · obtain rfl : k = L := by omega
      go_wp2
      go_ret
      exact ⟨rfl, hbel⟩

/-- None of the first k is x. -/
def NotIn (zs : List Int) (k : Nat) (x : Int) : Prop := ∀ m, m < k → zs.getD m 0 ≠ x
theorem NotIn.step {zs : List Int} {k : Nat} {x : Int} (h : NotIn zs k x) (hne : zs.getD k 0 ≠ x) : NotIn zs (k + 1) x := fun m hm => by
  by_cases e : m = k
  · subst e; exact hne
  · exact h m (by omega)
theorem inB_no {zs : List Int} {j : Nat} (h : NotIn zs zs.length ((j : Int) + 1)) : inB zs j = false := by
  unfold inB
  rw [List.contains_eq_mem, decide_eq_false]
  intro hm
  obtain ⟨m, hlt, he⟩ := List.getElem_of_mem hm
  exact h m hlt (by simp [List.getD, hlt, he])
theorem inB_yes {zs : List Int} {j k : Nat} (hk : k < zs.length) (h : zs.getD k 0 = (j : Int) + 1) : inB zs j = true := by
  unfold inB
  rw [List.contains_eq_mem, decide_eq_true]
  rw [← h]; simp [List.getD, hk]
/-- The set of those of zs that are at most j. -/
def upTo (zs : List Int) (j : Nat) : Nat := ofB (fun i => inB zs i && decide (i < j))
theorem upTo_zero (zs : List Int) : upTo zs 0 = 0 := by unfold upTo; simp [ofB]
theorem upTo_nine (zs : List Int) : upTo zs 9 = setN zs := ofB_congr fun i hi => by simp [hi]
theorem upTo_lt (zs : List Int) (j : Nat) : upTo zs j < 512 := ofB_lt _
theorem upTo_hit (zs : List Int) (j : Nat) (hj : j < 9) (h : inB zs j = true) : upTo zs (j + 1) = upTo zs j + 2 ^ j := by
  unfold upTo; rw [ofB_upto _ j hj, h]; rfl
theorem upTo_miss (zs : List Int) (j : Nat) (hj : j < 9) (h : inB zs j = false) : upTo zs (j + 1) = upTo zs j := by
  unfold upTo; rw [ofB_upto _ j hj, h]; rfl
theorem pow_le (j : Nat) (h : j ≤ 9) : 2 ^ j ≤ 512 := Nat.pow_le_pow_right (n := 2) (by decide) h

set_option maxHeartbeats 1600000 in
theorem rset_any (sa : Option Addr) (b off len cap : Nat) (zs : List Int) (w : World) (hm : len ≤ maxLen) (hz : len = zs.length) (hsa : 0 < len → sa = some ⟨b, off, none⟩)
    (hc : ∀ j, j < len → w.cell? ⟨b, off + j, none⟩ = some (.int .i64 (zs.getD j 0))) :
    Calls Try.prog 19 #[.slice sa len cap] w fun e w' => e = .returned (.int .i64 (setN zs)) ∧ w = w' := by
  unfold maxLen at hm
  have HZ := Lib.hid hz; clear hz
  have HA := Lib.hid hsa; clear hsa
  have HC := Lib.hid hc; clear hc
  go_enter Try.func19, Try.ntmps19
  go_wp2
  go_loop [3, 4, 5] (fun s t r => ∃ j N B : Nat, j ≤ 9 ∧ r = .int .i64 ((j : Int) + 1) ∧ t = .int .i64 B ∧ s = .int .i64 N ∧ Hid (B = 2 ^ j) ∧ B ≤ 512 ∧ Hid (N = upTo zs j) ∧ N < 512) (fun _ _ r => 10 - (intOf r).toNat)
  case atStart => exact ⟨0, 0, 1, by omega, rfl, rfl, rfl, rfl, by omega, (upTo_zero zs).symm, by omega⟩
  case round =>
    obtain ⟨j, N, B, hj, rfl, rfl, rfl, HB, hB, HN, hN⟩ := hrel
    by_cases hlt : j < 9
    · go_wp2
      go_loop [3, 6] (fun s i => ∃ k : Nat, k ≤ len ∧ i = .int .i64 k ∧ s = .int .i64 N ∧ NotIn zs k ((j : Int) + 1)) (fun _ i => len - (intOf i).toNat)
      case atStart => exact ⟨0, Nat.zero_le _, rfl, rfl, fun m hm => by omega⟩
      case round =>
        obtain ⟨k, hk, rfl, rfl, hno⟩ := hrel
        by_cases hkl : k < len
        · obtain rfl := HA.out (by omega)
          have ck := HC.out k hkl
          by_cases hx : zs.getD k 0 = (j : Int) + 1
          · have HX := Lib.hid hx
            rw [hx] at ck
            clear hx
            have hp := pow_le (j + 1) (by omega)
            have hB2 : 2 * B ≤ 512 := by rw [Nat.pow_succ] at hp; rw [HB.out]; omega
            clear hp
            have HN2 : Hid (N + B = upTo zs (j + 1)) := by rw [upTo_hit zs j hlt (inB_yes (by rw [← HZ.out]; exact hkl) HX.out), ← HN.out, ← HB.out]; rfl
            have hN2 : N + B < 512 := by rw [HN2.out]; exact upTo_lt _ _
            go_wp2
            go_round
            case rel => exact ⟨j + 1, N + B, 2 * B, by omega, by go_num, by go_num, by go_num, by rw [Nat.pow_succ, ← HB.out]; exact Nat.mul_comm _ _, hB2, HN2, hN2⟩
            case measure => simp [intOf]; omega
          · have hst := hno.step hx
            have hx' := beq_eq_false_iff_ne.2 hx
            generalize zs.getD k 0 = x at *
            clear hx
            go_wp2
            go_round
            case rel => exact ⟨k + 1, by omega, by go_num, rfl, hst⟩
            case measure => simp [intOf]; omega
        · obtain rfl : k = len := by omega
          have hp := pow_le (j + 1) (by omega)
          have hB2 : 2 * B ≤ 512 := by rw [Nat.pow_succ] at hp; rw [HB.out]; omega
          clear hp
          have HN2 : Hid (N = upTo zs (j + 1)) := by rw [upTo_miss zs j hlt (inB_no (by rw [← HZ.out]; exact hno)), ← HN.out]; rfl
          go_wp2
          go_round
          case rel => exact ⟨j + 1, N, 2 * B, by omega, by go_num, by go_num, rfl, by rw [Nat.pow_succ, ← HB.out]; exact Nat.mul_comm _ _, hB2, HN2, hN⟩
          case measure => simp [intOf]; omega
    · obtain rfl : j = 9 := by omega
      go_wp2
      go_ret
      exact ⟨ret_int (by rw [HN.out, upTo_nine]), rfl⟩
end Go.Proofs.Ytnhkbiigdcgonaa
