/- What the claims' inputs hold: a range, a row of ranges. -/
import Derived.Test.YtdihbkhhhonlpaaRngImpl
import Derived.ProofKit
import Derived.OpenShut
import Derived.Deep.SlicePairs
namespace Go.Proofs.Ytdihbkhhhonlpaa
open Go.ChangeShapes Go.WideShapes Go.ChangeAt Go.RowKit

theorem cellsOfRng : Try.prog.cellsOf 33 = 2 := by kernel_rfl
theorem cellsOfInt : Try.prog.cellsOf 3 = 1 := by kernel_rfl

theorem plain_add (b off n : Nat) : (⟨b, off, none⟩ : Addr).add n = ⟨b, off + n, none⟩ := by unfold Addr.add; split <;> simp_all
section
variable {H : Type} {enc : TypeId × Value → H} {w : World} {base : Nat} {spare : Nat → Bool} {held : Bool}
theorem open_rng {fuel : Nat} {cs : List Value} {x : DataW H × List MemPlace} (h : DataW.trod enc Try.prog w base spare held fuel 33 cs = some x) : ∃ a b : Int, cs = [.int .i64 a, .int .i64 b] := by
  obtain ⟨y0, y1, n, _, hl, h0, h1⟩ := trod_struct2 Try.underlying33 h
  rw [cellsOfRng] at hl
  match cs, hl with
  | [c0, c1], _ =>
    simp only [cellsOfInt, List.drop_zero, List.take_succ_cons, List.take_zero, List.drop_succ_cons] at h0 h1
    obtain ⟨a, e0, rfl, _⟩ := DataW.trod_int Try.underlying3 h0
    obtain ⟨b, e1, rfl, _⟩ := DataW.trod_int Try.underlying3 h1
    simp at e0 e1
    exact ⟨a, b, by rw [e0, e1]⟩
theorem open_rng_arg {W : World} {r : Reach} {b0 : Nat} {v : Value} {d : DataW H} {p : List MemPlace} (hv : Value.okWide Try.prog W r b0 33 v) (h : DataW.Trod enc Try.prog w base spare held 33 v d p) : ∃ x : Int × Int, v = .agg #[.int .i64 x.1, .int .i64 x.2] := by
  obtain ⟨cs, rfl, _⟩ : ∃ cs, v = .agg cs ∧ cs.size = Try.prog.cellsOf 33 ∧ Row.okWide Try.prog W r b0 33 cs := by
    simpa [Value.okWide, Try.underlying33] using hv
  obtain ⟨fuel, hf⟩ := h
  obtain ⟨a, b, e⟩ := open_rng hf
  obtain ⟨l⟩ := cs
  simp [Value.cells] at e
  exact ⟨(a, b), by rw [e]⟩
theorem open_rng_low {W : World} {r : Reach} {b0 : Nat} {v : Value} {d : DataW H} {p : List MemPlace} (hv : Value.okWide Try.prog W r b0 33 v) (h : DataW.Trod enc Try.prog w base spare held 33 v d p) : ∃ x : Int × Int, v = .agg #[.int .i64 x.1, .int .i64 x.2] ∧ -9223372036854775808 ≤ x.2 := by
  obtain ⟨cs, rfl, _⟩ : ∃ cs, v = .agg cs ∧ cs.size = Try.prog.cellsOf 33 ∧ Row.okWide Try.prog W r b0 33 cs := by
    simpa [Value.okWide, Try.underlying33] using hv
  obtain ⟨fuel, hf⟩ := h
  obtain ⟨y0, y1, n, _, hl, h0, h1⟩ := trod_struct2 Try.underlying33 hf
  rw [cellsOfRng] at hl
  obtain ⟨l⟩ := cs
  simp only [Value.cells] at hl h0 h1
  match l, hl with
  | [c0, c1], _ =>
    simp only [cellsOfInt, List.drop_zero, List.take_succ_cons, List.take_zero, List.drop_succ_cons] at h0 h1
    obtain ⟨a, e0, rfl, _⟩ := DataW.trod_int Try.underlying3 h0
    obtain ⟨b, e1, rfl, hw⟩ := DataW.trod_int Try.underlying3 h1
    simp at e0 e1
    exact ⟨(a, b), by rw [e0, e1], (bounds_i64 hw).1⟩
theorem open_rngs_arg {W : World} {r : Reach} {b0 : Nat} {v : Value} {d : DataW H} {p : List MemPlace} (hv : Value.okWide Try.prog W r b0 22 v) (h : DataW.Trod enc Try.prog w base (fun _ => true) held 22 v d p) :
    ∃ sa len cap zs, v = .slice sa len cap ∧ ArgA w sa len cap zs := by
  obtain ⟨sa, len, cap, rfl⟩ := okWide_slice Try.underlying22 hv
  obtain ⟨fuel, hf⟩ := h
  rcases Deep.open_slice_pairs Try.underlying22 Try.underlying33 cellsOfRng rfl rfl cellsOfInt cellsOfInt hf with ⟨hcs, _⟩ | ⟨a, len', cap', m, n, V0, V1, D0, D1, P0, P1, hcs, _, hl, hm, hmm, _, hcell⟩
  · simp [Value.cells] at hcs
    obtain ⟨rfl, rfl, rfl⟩ := hcs
    exact ⟨none, 0, 0, [], rfl, arg_nil _⟩
  · simp [Value.cells] at hcs
    obtain ⟨rfl, rfl, rfl⟩ := hcs
    simp only [if_true] at hmm
    subst hmm
    have each : ∀ i, i < len → ∃ z : Int × Int, w.cell? (a.add (i * 2)) = some (.int .i64 z.1) ∧ w.cell? (a.add (i * 2 + 1)) = some (.int .i64 z.2) := by
      intro i hi
      obtain ⟨h0, h1, t0, t1⟩ := hcell i (by omega)
      obtain ⟨x, e0, _⟩ := DataW.trod_int Try.underlying3 t0
      obtain ⟨y, e1, _⟩ := DataW.trod_int Try.underlying3 t1
      simp at e0 e1
      exact ⟨(x, y), by rw [h0, e0], by rw [h1, e1]⟩
    refine ⟨some a, len, _, (List.range len).map (fun i => if h : i < len then (each i h).choose else (0, 0)), rfl, ⟨by simp, fun h0 => ?_⟩, (fun h => by cases h), by omega⟩
    obtain ⟨b, off, spot⟩ := a
    have hspot : spot = none := by
      obtain ⟨z, hz, _⟩ := each 0 h0
      simpa [Addr.add] using World.cell?_spot hz
    subst hspot
    refine ⟨b, off, rfl, fun i hi => ?_⟩
    have e : ((List.range len).map (fun i => if h : i < len then (each i h).choose else (0, 0))).getD i (0, 0) = (each i hi).choose := by simp [List.getD, hi]
    rw [e]
    obtain ⟨z0, z1⟩ := (each i hi).choose_spec
    have p0 : (⟨b, off + i * 2, none⟩ : Addr) = (⟨b, off, none⟩ : Addr).add (i * 2) := (plain_add b off _).symm
    have p1 : (⟨b, off + i * 2 + 1, none⟩ : Addr) = (⟨b, off, none⟩ : Addr).add (i * 2 + 1) := by rw [plain_add, Nat.add_assoc]
    exact ⟨(congrArg w.cell? p0).trans z0, (congrArg w.cell? p1).trans z1⟩
end
end Go.Proofs.Ytdihbkhhhonlpaa
