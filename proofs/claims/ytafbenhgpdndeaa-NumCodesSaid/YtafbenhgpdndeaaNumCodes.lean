/- For any number, any text and any place, the law NumCodes (rubatolaw05) returns true, and its arguments read behind the call as they read before. No condition. -/
import Derived.Test.YtafbenhgpdndeaaNumLawL
import Derived.Test.YtafbenhgpdndeaaNumRowA
import Derived.Test.YtafbenhgpdndeaaNumIs
namespace Go.Proofs.Ytafbenhgpdndeaa.numCodes
open Go.ChangeShapes Go.WideShapes Go.ChangeAt Go.RowKit
open Go.ChangeMaps (open_string)

theorem laidOut : laidOutB Try.prog = true := by kernel_rfl
theorem own : ownKnob Try.prog.godebug = none := by kernel_rfl

set_option maxRecDepth 100000 in
theorem lifted (os : Os) (started : os.Started) (H : Type) (enc : TypeId × Value → H) :
    ReturnsInHanded {} Try.checked os 3 .any (Rows.numCodesSpec.pre6 enc Try.prog Try.f3 Rows.numCodesRow.domain false) (Rows.numCodesSpec.post enc Try.prog Try.f3 false true false false) := by
  refine returnsInHanded_of_change (C := Try.checked) own started (by kernel_rfl) Try.func3
    (ChangeSpec.witness6 (enc := enc) (C := Try.checked) false ⟨#[], #[.int .i64 0, .string ⟨#[]⟩, .int .i64 0], []⟩ 8 (by kernel_rfl) (by kernel_rfl) (by kernel_rfl) (by kernel_rfl)) ?_
  intro W base args ds gs before hval0 hW _ _
  have hval : ∀ (j : Nat) t v, Try.f3.params[j]? = some t → args[j]? = some v → Value.okWide Try.prog W .any base t v := hval0
  have hW' := hW
  obtain ⟨p, q, hA0, hV, rfl, _, _⟩ := hW
  have hA : DataW.TrodAll enc Try.prog W 0 (fun _ => true) true Try.f3.params.toList args.toList ds p := hA0
  rw [Try.params3] at hA hval
  obtain ⟨v0, vs0, d0, ds0, p0, q0, hargs, rfl, rfl, h0, r0⟩ := trodAll_cons hA
  obtain ⟨v1, vs1, d1, ds1, p1, q1, rfl, rfl, rfl, h1, r1⟩ := trodAll_cons r0
  obtain ⟨v2, vs2, d2, ds2, p2, q2, rfl, rfl, rfl, h2, r2⟩ := trodAll_cons r1
  obtain ⟨rfl, rfl, rfl⟩ := trodAll_nil r2
  obtain rfl : args = #[v0, v1, v2] := by cases args; simp_all
  obtain ⟨rfl, rfl⟩ := trodVars_none hV
  obtain ⟨x0, rfl, _, _, w0⟩ := open_int Try.underlying3 (hval 0 3 v0 rfl rfl) h0
  obtain ⟨x1, rfl, _, _, w1⟩ := open_string Try.underlying9 (hval 1 9 v1 rfl rfl) h1
  obtain ⟨x2, rfl, _, _, w2⟩ := open_int Try.underlying3 (hval 2 3 v2 rfl rfl) h2
  clear hA0 hval0
  have hW2 := hW'
  simp only [List.append_nil] at hW'
  have key : ∀ (j : Nat) (t : TypeId) (v : Value) (d : DataW H) (pp : List MemPlace), (t = 3 ∨ t = 9) → DataW.Trod enc Try.prog W 0 (fun _ => true) true t v d pp → (∀ z ∈ pp, z.block < W.heap.size) → ∀ (W' : World), Below W.heap.size W W' → DataW.Trod enc Try.prog W' 0 (fun b => decide (b < W.heap.size)) true t v d pp :=
    fun _ t v d pp ht h' hl W' hb => by
      rcases ht with h | h
      · obtain rfl := h
        exact Below.trod laidOut (by kernel_rfl) (of_decide_eq_true (by kernel_rfl)) h' hb hl
      · obtain rfl := h
        exact Below.trod laidOut (by kernel_rfl) (of_decide_eq_true (by kernel_rfl)) h' hb hl
  have walk : Calls Try.prog 3 #[.int .i64 x0, .string x1, .int .i64 x2] W fun e w' => e = .returned (.bool true) ∧ RowKit.Below W.heap.size W w' := by
    have z0 := wf_range w0
    by_cases h : x1.size ≤ 3000
    · exact codes_walk impl x0 x2 x1 W z0 h
    · exact codes_long impl x0 x2 x1 W (by omega)
  refine walk.mono fun e W' ⟨he, hb⟩ => ?_
  subst he
  refine ⟨_, rfl, _, _, _, [], p0 ++ (p1 ++ (p2 ++ [])), [], hW2, ?_, ?_, rfl, hb.frame _, fun h => by cases h⟩
  · exact trodAll_cons_mk (shut_bool Try.underlying4 _) trodAll_mk0
  · exact trodAll_cons_mk (key 0 _ _ _ _ (by simp) h0 (fun z hz => by simpa using hW'.lt z (by simp [hz])) _ hb) (trodAll_cons_mk (key 1 _ _ _ _ (by simp) h1 (fun z hz => by simpa using hW'.lt z (by simp [hz])) _ hb) (trodAll_cons_mk (key 2 _ _ _ _ (by simp) h2 (fun z hz => by simpa using hW'.lt z (by simp [hz])) _ hb) trodAll_mk0))

theorem proved : Rows.NumCodesSaid :=
  OpenClaim.holds_of_wide 3 Try.f3 rfl rfl rfl rfl rfl rfl rfl ⟨rfl, rfl, rfl, rfl, rfl⟩ rfl rfl rfl rfl rfl (by kernel_rfl) Try.func3 (by kernel_rfl)
    (of_decide_eq_true (by kernel_rfl)) (by unfold Func.isWrapper; first | (rw [if_pos (by decide +kernel)]; kernel_rfl) | (rw [if_neg (by decide +kernel)]; exact ⟨rfl, rfl⟩))
    (fun os started H enc _ => lifted os started H enc)
#print axioms proved
end Go.Proofs.Ytafbenhgpdndeaa.numCodes
