/- The contracts of the document's SameTexts, New, Wrap, Text and At, and of the laws' own few. -/
import Derived.Test.YteniicpkkhgkbaaDoorFailText
import Derived.Deep.QuietTactic
import Derived.BigQuiet
import Derived.Deep.RegionHeld3
import Derived.Deep.AppendLies
import Derived.OwnWalk
namespace Go.Proofs.YteniicpkkhgkbaaDoor
open Go.RowKit

theorem strAt (l : List ByteArray) (j : Nat) (hj : j < l.length) : (l.map Value.string)[j]? = some (.string (l.getD j ByteArray.empty)) := by simp [List.getD, hj]

set_option maxHeartbeats 1600000 in
theorem same_yes (va vb : Value) (l : List ByteArray) (w : World) (ha : ReadsS w va l) (hb : ReadsS w vb l) (hm : l.length ≤ 1000) :
    Calls Tryd.prog 14 #[va, vb] w fun e w' => e = .returned (.bool true) ∧ RowKit.Below w.heap.size w w' := by
  obtain ⟨sa, ca, ba, oa, rfl, _, ha1, ha2⟩ := ha
  obtain ⟨sb, cb, bb, ob, rfl, _, hb1, hb2⟩ := hb
  generalize hL : l.length = L at *
  have HL := Lib.hid hL; clear hL
  have HA1 := Lib.hid ha1
  have HB1 := Lib.hid hb1
  have HA2 := Lib.hid ha2
  have HB2 := Lib.hid hb2
  clear ha1 ha2 hb1 hb2
  have e0 : ((L : Int) != (L : Int)) = false := by simp
  go_enter Tryd.func14, Tryd.ntmps14
  go_wp2
  go_loopg [5] L (fun k i wr => ∃ m : Nat, m + k = L ∧ i = .int .i64 m ∧ Hid (RowKit.Below w.heap.size w wr))
  case atStart => exact ⟨0, by omega, rfl, Lib.hid (Below.refl _ _)⟩
  case round =>
    obtain ⟨m, hk, rfl, HB⟩ := hrel
    by_cases hlt : m < L
    · obtain ⟨rfl, _⟩ := HA1.out (by omega)
      obtain ⟨rfl, _⟩ := HB1.out (by omega)
      have ka := (HB.out.cell (p := ⟨ba, oa + m, none⟩) (World.block_lt_of_cell? _ _ (HA2.out m hlt))).trans (HA2.out m hlt)
      have kb := (HB.out.cell (p := ⟨bb, ob + m, none⟩) (World.block_lt_of_cell? _ _ (HB2.out m hlt))).trans (HB2.out m hlt)
      generalize l.getD m ByteArray.empty = x at *
      have i1 : (0 : Int) ≤ (m : Int) := by omega
      have i2 : (m : Int) < (L : Int) := by omega
      go_wp2
      go_quiet (fail)
      go_wp2
      go_roundg (gk - 1)
      case measure => omega
      case rel => exact ⟨m + 1, by omega, by go_num, Lib.hid ⟨HB.out.os, HB.out.tape, HB.out.output, HB.out.size, HB.out.block⟩⟩
    · obtain rfl : m = L := by omega
      go_wp2
      go_ret
      exact ⟨rfl, HB.out⟩

theorem rnew_ok (op : ByteArray) (w : World) : Calls Tryd.prog 10 #[.string op, .int .i64 0] w fun e w' => e = .returned (.agg #[.slice none 0 0, .int .i64 0]) ∧ RowKit.Below w.heap.size w w' := by
  go_enter Tryd.func10, Tryd.ntmps10
  go_wp2
  refine bodyPost_ret (v := .agg #[.slice none 0 0, .int .i64 0]) (by simp [results, Tryd.results10, go_sem]) rfl ⟨rfl, ?_⟩
  exact (Below.refl _ _).alloc (Nat.le_refl _) _
theorem reads_one {w : World} {b : Nat} {s : ByteArray} (h : w.cell? ⟨b, 0, none⟩ = some (.string s)) : ReadsS w (.slice (some ⟨b, 0, none⟩) 1 1) [s] :=
  ⟨_, 1, b, 0, rfl, Nat.le_refl _, fun _ => ⟨rfl, World.block_lt_of_cell? _ _ h⟩, fun j hj => by
    obtain rfl : j = 0 := by simpa using hj
    simpa using h⟩
theorem rnew_err (op : ByteArray) (c : Int) (hc : c ≠ 0) (w : World) : Calls Tryd.prog 10 #[.string op, .int .i64 c] w fun e w' => ∃ u, e = .returned (.agg #[u, .int .i64 c]) ∧ ReadsS w' u [op] ∧ RowKit.Below w.heap.size w w' := by
  go_enter Tryd.func10, Tryd.ntmps10
  go_wp2
  refine bodyPost_ret (v := .agg #[.slice (some ⟨w.heap.size + 1, 0, none⟩) 1 1, .int .i64 c]) (by simp [results, Tryd.results10, go_sem]) rfl ⟨_, rfl, reads_one (b := w.heap.size + 1) ?_, ?_⟩
  · rw [World.cell?_alloc_at _ _ _ _ (by simp)]; rfl
  · exact ((Below.refl _ _).alloc (Nat.le_refl _) _).alloc (by simp) _

theorem rwrap_ok (op : ByteArray) (w : World) : Calls Tryd.prog 12 #[.string op, .agg #[.slice none 0 0, .int .i64 0]] w fun e w' => e = .returned (.agg #[.slice none 0 0, .int .i64 0]) ∧ RowKit.Below w.heap.size w w' := by
  go_enter Tryd.func12, Tryd.ntmps12
  go_wp2
  refine bodyPost_ret (v := .agg #[.slice none 0 0, .int .i64 0]) (by simp [results, Tryd.results12, go_sem]) rfl ⟨rfl, ?_⟩
  exact ((Below.refl _ _).alloc (Nat.le_refl _) _).alloc (by simp) _

set_option maxRecDepth 100000 in
set_option maxHeartbeats 3200000 in
theorem rwrap_err (op : ByteArray) (l : List ByteArray) (v : Value) (c : Int) (hc : c ≠ 0) (w : World) (hr : ReadsS w v l) (h0 : 0 < l.length) (hm : l.length ≤ 1000) :
    Calls Tryd.prog 12 #[.string op, .agg #[v, .int .i64 c]] w fun e w' => ∃ u, e = .returned (.agg #[u, .int .i64 c]) ∧ ReadsS w' u (op :: l) ∧ RowKit.Below w.heap.size w w' := by
  obtain ⟨i0, hi, hz0, hz1, hz2⟩ := info_parts infoStr
  obtain ⟨b, off, cap, rfl, hcap, hbk, hcells⟩ := hr.at h0
  have HC := Lib.hid hcells
  have HR := Lib.hid hr
  clear hcells hr
  generalize hn : l.length = n at *
  have HN := Lib.hid hn
  clear hn
  go_enter Tryd.func12, Tryd.ntmps12
  go_wp2
  have HB0 : RowKit.Below w.heap.size w ((w.alloc (.cells #[.slice (some ⟨b, off, none⟩) n cap, .int .i64 c] 30)).alloc (.cells #[.slice none 0 0, .int .i64 0] 30)) := ((Below.refl _ _).alloc (Nat.le_refl _) _).alloc (by simp) _
  have a0 : ((w.alloc (.cells #[.slice (some ⟨b, off, none⟩) n cap, .int .i64 c] 30)).alloc (.cells #[.slice none 0 0, .int .i64 0] 30)).cell? ⟨w.heap.size, 0, none⟩ = some (.slice (some ⟨b, off, none⟩) n cap) := by simp
  have a1 : ((w.alloc (.cells #[.slice (some ⟨b, off, none⟩) n cap, .int .i64 c] 30)).alloc (.cells #[.slice none 0 0, .int .i64 0] 30)).cell? ⟨w.heap.size, 1, none⟩ = some (.int .i64 c) := by simp
  have b0 : ((w.alloc (.cells #[.slice (some ⟨b, off, none⟩) n cap, .int .i64 c] 30)).alloc (.cells #[.slice none 0 0, .int .i64 0] 30)).cell? ⟨w.heap.size + 1, 0, none⟩ = some (.slice none 0 0) := by simp
  have b1 : ((w.alloc (.cells #[.slice (some ⟨b, off, none⟩) n cap, .int .i64 c] 30)).alloc (.cells #[.slice none 0 0, .int .i64 0] 30)).cell? ⟨w.heap.size + 1, 1, none⟩ = some (.int .i64 0) := by simp
  have f0 : ∀ o, ((w.alloc (.cells #[.slice (some ⟨b, off, none⟩) n cap, .int .i64 c] 30)).alloc (.cells #[.slice none 0 0, .int .i64 0] 30)).frozen? ⟨w.heap.size + 1, o, none⟩ = false := fun o => by simp
  have hs : ((w.alloc (.cells #[.slice (some ⟨b, off, none⟩) n cap, .int .i64 c] 30)).alloc (.cells #[.slice none 0 0, .int .i64 0] 30)).heap.size = w.heap.size + 2 := by simp
  generalize (w.alloc (.cells #[.slice (some ⟨b, off, none⟩) n cap, .int .i64 c] 30)).alloc (.cells #[.slice none 0 0, .int .i64 0] 30) = W at *
  have HB := Lib.hid HB0
  have HS := Lib.hid hs
  have HF := Lib.hid f0
  have hz : w.heap.size + 1 < W.heap.size := by omega
  clear HB0 hs f0
  have HN1 := Lib.hid (show (l.map Value.string).length = n * 1 by rw [List.length_map, HN.out]; omega)
  have HN2 : Hid (∀ (j : Nat) (u : Value), (l.map Value.string)[j]? = some u → ((W.alloc (.cells #[.string op] 9)).drew).cell? ((⟨b, off, none⟩ : Addr).add j) = some u) := Lib.hid (by
    intro j u hu
    rw [List.getElem?_map, Option.map_eq_some_iff] at hu
    obtain ⟨s, hs, rfl⟩ := hu
    obtain ⟨hj, hs⟩ := List.getElem?_eq_some_iff.1 hs
    have e : (⟨b, off, none⟩ : Addr).add j = ⟨b, off + j, none⟩ := by unfold Addr.add; split <;> simp_all
    have c := HC.out j (by rw [← HN.out]; exact hj)
    rw [show l.getD j ByteArray.empty = s by simp [List.getD, hj, hs]] at c
    have hb' := World.block_lt_of_cell? _ _ c
    have hb2 : b < W.heap.size := Nat.lt_of_lt_of_le hb' HB.out.size
    rw [e]
    show (W.alloc _).cell? ⟨b, off + j, none⟩ = _
    rw [World.cell?_alloc_lt _ _ ⟨b, off + j, none⟩ hb2, HB.out.cell (p := ⟨b, off + j, none⟩) hb']
    exact c)
  have HN3 : Hid (∀ u ∈ l.map Value.string, u.oneCell' = true) := Lib.hid (by
    intro u hu
    rw [List.mem_map] at hu
    obtain ⟨s, _, rfl⟩ := hu
    rfl)
  have HN4 : Hid ((W.alloc (.cells #[.string op] 9)).drew.ownsRow w.heap.size 9 1 (.slice (some ⟨W.heap.size, 0, none⟩) 1 1) 1 [.string op]) := Lib.hid (World.ownsRow_lit W #[.string op] 1 (by omega) (by decide) rfl).drew
  have G0 : Hid ((W.alloc (.cells #[.string op] 9)).drew.cell? ⟨w.heap.size + 1, 0, none⟩ = some (.slice none 0 0)) := Lib.hid ((World.cell?_alloc_lt _ _ ⟨w.heap.size + 1, 0, none⟩ hz).trans b0)
  have G1 : Hid ((W.alloc (.cells #[.string op] 9)).drew.cell? ⟨w.heap.size + 1, 1, none⟩ = some (.int .i64 0)) := Lib.hid ((World.cell?_alloc_lt _ _ ⟨w.heap.size + 1, 1, none⟩ hz).trans b1)
  have G2 : ∀ o, Hid ((W.alloc (.cells #[.string op] 9)).drew.frozen? ⟨w.heap.size + 1, o, none⟩ = false) := fun o => Lib.hid ((World.frozen?_alloc_old W (.cells #[.string op] 9) ⟨w.heap.size + 1, o, none⟩ (Nat.ne_of_lt hz)).trans (HF.out o))
  have hm16 : (1 + n) * 16 ≤ 140737488355328 := by omega
  have hmx : 1 + n ≤ maxLen := by unfold maxLen; omega
  go_region_held3 (fun w' => w'.cell? ⟨w.heap.size, 0, none⟩ = some (.slice (some ⟨b, off, none⟩) n cap) ∧ w'.cell? ⟨w.heap.size, 1, none⟩ = some (.int .i64 c))
    (first
      | go_keep
      | (go_split_ands
         refine ⟨?_, ?_⟩
         · (rw [hgrow.cell_far _ (by simp; omega) (by simp [Value.ownBlock]; omega)]; assumption)
         · (rw [hgrow.cell_far _ (by simp; omega) (by simp [Value.ownBlock]; omega)]; assumption)))
    ((refine step_append_lies _ (by rfl) _ _ _ (by rfl) w.heap.size 9 i0 _ 1 16 Tryd.underlying22 hi hz0 hz1 hz2 rfl (by omega) (.slice (some ⟨W.heap.size, 0, none⟩) 1 1) 1 [.string op] (by rfl) HN4.out
        ⟨b, off, none⟩ n cap (l.map Value.string) (by rfl) HN1.out HN2.out HN3.out h0 hmx hm16 (by simp; omega) (W.heap.size + 1) (by simp) ?_; intro g cp w1 hown hgrow hat hlt; have d0 := (hgrow.cell_far ⟨w.heap.size + 1, 0, none⟩ (by simp; omega) (by simp [Value.ownBlock]; omega)).trans G0.out; have d1 := (hgrow.cell_far ⟨w.heap.size + 1, 1, none⟩ (by simp; omega) (by simp [Value.ownBlock]; omega)).trans G1.out; have d2 := (hgrow.frozen_far ⟨w.heap.size + 1, 0, none⟩ (by simp; omega) (by simp [Value.ownBlock]; omega)).trans (G2 0).out; have d3 := (hgrow.frozen_far ⟨w.heap.size + 1, 1, none⟩ (by simp; omega) (by simp [Value.ownBlock]; omega)).trans (G2 1).out))
  have hg2 : w.heap.size + 2 ≤ g := by
    have := HS.out
    rcases hat with h | h
    · simp [Value.ownBlock] at h; omega
    · omega
  have hbel : RowKit.Below w.heap.size w ((w1.setCell ⟨w.heap.size + 1, 0, none⟩ (.slice (some ⟨g, 0, none⟩) (1 + n) cp)).setCell ⟨w.heap.size + 1, 1, none⟩ (.int .i64 c)) :=
    ((((HB.out.alloc HB.out.size _).drew.grown hgrow (by have := HB.out.size; simp; omega) (fun k hk => by have := HB.out.size; simp [Value.ownBlock] at hk; omega)).setCell (p := ⟨w.heap.size + 1, 0, none⟩) (by simp) _).setCell (p := ⟨w.heap.size + 1, 1, none⟩) (by simp) _)
  have hrd : ReadsS ((w1.setCell ⟨w.heap.size + 1, 0, none⟩ (.slice (some ⟨g, 0, none⟩) (1 + n) cp)).setCell ⟨w.heap.size + 1, 1, none⟩ (.int .i64 c)) (.slice (some ⟨g, 0, none⟩) (1 + n) cp) (op :: l) := by
    have hl : (op :: l).length = 1 + n := by rw [List.length_cons, HN.out]; omega
    have hcp : 1 + n ≤ cp := by
      rcases hown.2 with ⟨h, _⟩ | ⟨_, cap', _, h, _, _, hc, _⟩
      · simp at h
      · simp at h; omega
    refine ⟨some ⟨g, 0, none⟩, cp, g, 0, by rw [hl], by omega, fun _ => ⟨rfl, by simpa [World.setCell] using hlt⟩, fun j hj => ?_⟩
    rw [World.cell?_setCell_other _ _ _ _ (by simp <;> omega), World.cell?_setCell_other _ _ _ _ (by simp <;> omega), Nat.zero_add, World.ownsRow.cellAt hown j (by omega)]
    rw [show [Value.string op] ++ List.map Value.string l = List.map Value.string (op :: l) by simp]
    exact strAt _ _ hj
  have HBel := Lib.hid hbel
  have HRd := Lib.hid hrd
  have D0 := Lib.hid d0
  have D1 := Lib.hid d1
  clear hbel hrd hgrow hat hown
  go_wp2
  refine bodyPost_ret (v := .agg #[.slice (some ⟨g, 0, none⟩) (1 + n) cp, .int .i64 c]) ?_ rfl ⟨_, rfl, HRd.out, HBel.out⟩
  have e0 := D0.out
  have e1 := D1.out
  have n1 : (⟨w.heap.size + 1, 1, none⟩ : Addr) ≠ ⟨w.heap.size + 1, 0, none⟩ := by simp
  have c0 : ((w1.setCell ⟨w.heap.size + 1, 0, none⟩ (.slice (some ⟨g, 0, none⟩) (1 + n) cp)).setCell ⟨w.heap.size + 1, 1, none⟩ (.int .i64 c)).cell? ⟨w.heap.size + 1, 0, none⟩ = some (.slice (some ⟨g, 0, none⟩) (1 + n) cp) := by
    rw [World.cell?_setCell_other _ _ _ _ n1]; exact World.cell?_setCell_same _ _ _ e0
  have c1 : ((w1.setCell ⟨w.heap.size + 1, 0, none⟩ (.slice (some ⟨g, 0, none⟩) (1 + n) cp)).setCell ⟨w.heap.size + 1, 1, none⟩ (.int .i64 c)).cell? ⟨w.heap.size + 1, 1, none⟩ = some (.int .i64 c) :=
    World.cell?_setCell_same _ _ _ ((World.cell?_setCell_other _ _ _ _ n1.symm).trans e1)
  clear e0 e1
  simp [results, Tryd.results12, go_sem, c0, c1]
end Go.Proofs.YteniicpkkhgkbaaDoor
