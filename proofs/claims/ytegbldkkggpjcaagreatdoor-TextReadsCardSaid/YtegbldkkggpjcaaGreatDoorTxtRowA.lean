/- What the claims' inputs of layer 6 hold: a piece, a row of pieces. -/
import Derived.Test.YtegbldkkggpjcaaGreatDoorTxtPc
import Derived.Test.YtegbldkkggpjcaaGreatDoorFailRow
import Derived.Deep.Slices
namespace Go.Proofs.YtegbldkkggpjcaaGreatDoor
open Go.ChangeShapes Go.WideShapes Go.ChangeAt Go.RowKit

theorem cellsOfInt : Tryz.prog.cellsOf 3 = 1 := by kernel_rfl
theorem cellsOfInts : Tryz.prog.cellsOf 31 = 1 := by kernel_rfl
theorem cellsOfPc : Tryz.prog.cellsOf 33 = 4 := by kernel_rfl
theorem plain_add (b off n : Nat) : (⟨b, off, none⟩ : Addr).add n = ⟨b, off + n, none⟩ := by unfold Addr.add; split <;> simp_all
theorem l4_of {A : Type} {l : List A} (h : l.length = 4) : ∃ a b c d, l = [a, b, c, d] := by
  match l, h with
  | [a, b, c, d], _ => exact ⟨a, b, c, d, rfl⟩
instance : Inhabited PcS := ⟨⟨0, 0, ⟨#[]⟩, []⟩⟩
def WfPc (p : PcS) : Prop := p.n ≤ 9223372036854775807 ∧ p.s.size ≤ 9223372036854775807 ∧ p.l.length ≤ 9223372036854775807 ∧ ∀ x ∈ p.l, x ≤ 9223372036854775807
section
variable {H : Type} {enc : TypeId × Value → H} {w : World} {base : Nat} {held : Bool}
theorem open_nums {fuel : Nat} {cs : List Value} {x : DataW H × List MemPlace} (h : DataW.trod enc Tryz.prog w base (fun _ => true) held fuel 31 cs = some x) :
    ∃ sa cap zs, cs = [.slice sa zs.length cap] ∧ ArgI w sa zs.length cap zs ∧ zs.length ≤ 9223372036854775807 ∧ ∀ x ∈ zs, x ≤ 9223372036854775807 := by
  rcases open_ints Tryz.underlying31 Tryz.underlying3 cellsOfInt h with ⟨hcs, _⟩ | ⟨a, len, cap, zs, hcs, _, hl, hm, hz, _, hcell, hwf⟩
  · exact ⟨none, 0, [], hcs, ⟨⟨rfl, fun h => absurd h (by decide)⟩, fun _ => ⟨rfl, rfl⟩, Nat.le_refl _⟩, by decide, fun x hx => by cases hx⟩
  · simp only [if_true] at hz
    have hlen : (zs.take len).length = len := by rw [List.length_take]; omega
    unfold maxLen at hm
    have hread : ReadsI w (some a) len (zs.take len) := ⟨hlen.symm, fun h0 => by
      obtain ⟨b, off, spot⟩ := a
      have hspot : spot = none := by simpa [Addr.add] using World.cell?_spot (hcell 0 (by omega))
      subst hspot
      refine ⟨b, off, rfl, fun i hi => ?_⟩
      have e : (zs.take len).getD i 0 = zs.getD i 0 := by simp [List.getD, hi]
      rw [e, ← plain_add]
      exact hcell i (by omega)⟩
    refine ⟨some a, cap, zs.take len, by rw [hlen]; exact hcs, ?_, by omega, fun x hx => wf_range (hwf x (List.mem_of_mem_take hx))⟩
    rw [hlen]
    exact ⟨hread, (fun h => by cases h), hl⟩
theorem open_pc {fuel : Nat} {cs : List Value} {x : DataW H × List MemPlace} (h : DataW.trod enc Tryz.prog w base (fun _ => true) held fuel 33 cs = some x) :
    ∃ (p : PcS) (la : Option Addr) (lc : Nat), cs = [.int .i64 p.k, .int .i64 p.n, .string p.s, .slice la p.l.length lc] ∧ ArgI w la p.l.length lc p.l ∧ WfPc p := by
  obtain ⟨xs, n, _, _, hl, hxl, hf⟩ := DataW.trod_struct Tryz.underlying33 h
  rw [cellsOfPc] at hl
  obtain ⟨c0, c1, c2, c3, rfl⟩ := l4_of hl
  obtain ⟨y0, y1, y2, y3, rfl⟩ := l4_of (show xs.length = 4 from hxl)
  have g0 : DataW.trod enc Tryz.prog w base (fun _ => true) held n 3 (([c0, c1, c2, c3].drop 0).take (Tryz.prog.cellsOf 3)) = some y0 := hf 0 _ rfl
  rw [cellsOfInt] at g0
  replace g0 : DataW.trod enc Tryz.prog w base (fun _ => true) held n 3 [c0] = some y0 := g0
  have g1 : DataW.trod enc Tryz.prog w base (fun _ => true) held n 3 (([c0, c1, c2, c3].drop 1).take (Tryz.prog.cellsOf 3)) = some y1 := hf 1 _ rfl
  rw [cellsOfInt] at g1
  replace g1 : DataW.trod enc Tryz.prog w base (fun _ => true) held n 3 [c1] = some y1 := g1
  have g2 : DataW.trod enc Tryz.prog w base (fun _ => true) held n 9 (([c0, c1, c2, c3].drop 2).take (Tryz.prog.cellsOf 9)) = some y2 := hf 2 _ rfl
  rw [rowCellsS] at g2
  replace g2 : DataW.trod enc Tryz.prog w base (fun _ => true) held n 9 [c2] = some y2 := g2
  have g3 : DataW.trod enc Tryz.prog w base (fun _ => true) held n 31 (([c0, c1, c2, c3].drop 3).take (Tryz.prog.cellsOf 31)) = some y3 := hf 3 _ rfl
  rw [cellsOfInts] at g3
  replace g3 : DataW.trod enc Tryz.prog w base (fun _ => true) held n 31 [c3] = some y3 := g3
  obtain ⟨k, e0, _, _⟩ := DataW.trod_int Tryz.underlying3 g0
  obtain ⟨m, e1, _, w1⟩ := DataW.trod_int Tryz.underlying3 g1
  obtain ⟨s, e2, _, hs⟩ := DataW.trod_string Tryz.underlying9 g2
  obtain ⟨sa, cap, zs, e3, ha, hzl, hz⟩ := open_nums g3
  simp only [List.cons.injEq, and_true] at e0 e1 e2 e3
  unfold maxLen at hs
  exact ⟨⟨k, m, s, zs⟩, sa, cap, by rw [e0, e1, e2, e3], ha, wf_range w1, by simp only; omega, hzl, hz⟩
set_option maxRecDepth 100000 in
theorem open_pc_arg {W : World} {r : Reach} {b0 : Nat} {v : Value} {d : DataW H} {pl : List MemPlace} (hv : Value.okWide Tryz.prog W r b0 33 v) (h : DataW.Trod enc Tryz.prog w base (fun _ => true) held 33 v d pl) :
    ∃ (p : PcS) (la : Option Addr) (lc : Nat), v = .agg #[.int .i64 p.k, .int .i64 p.n, .string p.s, .slice la p.l.length lc] ∧ ArgI w la p.l.length lc p.l ∧ WfPc p := by
  obtain ⟨cs, rfl, _⟩ : ∃ cs, v = .agg cs ∧ cs.size = Tryz.prog.cellsOf 33 ∧ Row.okWide Tryz.prog W r b0 33 cs := by
    simpa [Value.okWide, Tryz.underlying33] using hv
  obtain ⟨fuel, hf⟩ := h
  obtain ⟨p, la, lc, e, ha, hw⟩ := open_pc hf
  obtain ⟨l⟩ := cs
  simp [Value.cells] at e
  exact ⟨p, la, lc, by rw [e], ha, hw⟩
set_option maxRecDepth 100000 in
theorem open_pcs_arg {W : World} {r : Reach} {b0 : Nat} {v : Value} {d : DataW H} {pl : List MemPlace} (hv : Value.okWide Tryz.prog W r b0 22 v) (h : DataW.Trod enc Tryz.prog w base (fun _ => true) held 22 v d pl) :
    ∃ sa len cap ps, v = .slice sa len cap ∧ ReadsP w sa len ps ∧ WfP ps ∧ len ≤ 9223372036854775807 := by
  obtain ⟨sa, len, cap, rfl⟩ := okWide_slice Tryz.underlying22 hv
  obtain ⟨fuel, hf⟩ := h
  rcases Deep.open_slice Tryz.underlying22 hf with ⟨hcs, _⟩ | ⟨a, len', cap', m, n, D, Pl, hcs, _, hl, hm, hmm, _, hx⟩
  · simp [Value.cells] at hcs
    obtain ⟨rfl, rfl, rfl⟩ := hcs
    exact ⟨none, 0, 0, [], rfl, ⟨rfl, fun h => absurd h (by decide)⟩, (fun p hp => by cases hp), by decide⟩
  · simp [Value.cells] at hcs
    obtain ⟨rfl, rfl, rfl⟩ := hcs
    simp only [if_true] at hmm
    subst hmm
    rw [cellsOfPc] at hx
    unfold maxLen at hm
    have each : ∀ i, i < len → ∃ p : PcS, (∃ (la : Option Addr) (lc : Nat), w.cell? (a.add (i * 4)) = some (.int .i64 p.k) ∧ w.cell? (a.add (i * 4 + 1)) = some (.int .i64 p.n) ∧ w.cell? (a.add (i * 4 + 2)) = some (.string p.s) ∧ w.cell? (a.add (i * 4 + 3)) = some (.slice la p.l.length lc) ∧ ArgI w la p.l.length lc p.l) ∧ WfPc p := by
      intro i hi
      obtain ⟨cs', h1, h2⟩ := hx i (by omega)
      obtain ⟨_, hlen, hcell⟩ := World.cells?_some h1
      obtain ⟨p, la, lc, rfl, ha, hw⟩ := open_pc h2
      have e0 := hcell 0 (by decide)
      have e1 := hcell 1 (by decide)
      have e2 := hcell 2 (by decide)
      have e3 := hcell 3 (by decide)
      rw [Deep.add_add] at e0 e1 e2 e3
      exact ⟨p, ⟨la, lc, by simpa using e0, by simpa using e1, by simpa using e2, by simpa using e3, ha⟩, hw⟩
    obtain ⟨q, hq⟩ := Deep.choose_lt (α := PcS) each
    refine ⟨some a, len, _, (List.range len).map q, rfl, ⟨by simp, fun h0 => ?_⟩, fun p hp => ?_, by omega⟩
    · obtain ⟨b, off, spot⟩ := a
      obtain ⟨⟨_, _, c0, _⟩, _⟩ := hq 0 h0
      have hspot : spot = none := by simpa [Addr.add] using World.cell?_spot c0
      subst hspot
      refine ⟨b, off, rfl, fun i hi => ?_⟩
      have hi' : i < len := by simpa using hi
      obtain ⟨⟨la, lc, e0, e1, e2, e3, ha⟩, _⟩ := hq i hi'
      simp only [plain_add] at e0 e1 e2 e3
      simp only [List.getElem_map, List.getElem_range]
      exact ⟨e0, e1, e2, la, lc, e3, ha⟩
    · obtain ⟨i, hi, rfl⟩ := List.mem_map.1 hp
      exact (hq i (List.mem_range.1 hi)).2
end
end Go.Proofs.YtegbldkkggpjcaaGreatDoor
