/- For any commands at times, and any two more, the law IdentSorts (rubatolaw02) returns true, and its arguments read behind the call as they read before. No condition. -/
import Derived.Test.YtcgnodkbmpkhkaaIdentLawS
import Derived.Test.YtcgnodkbmpkhkaaIdentRowA
namespace Go.Proofs.Ytcgnodkbmpkhkaa.identSorts
open Go.ChangeShapes Go.WideShapes Go.ChangeAt Go.RowKit

theorem laidOut : laidOutB Try.prog = true := by kernel_rfl
theorem own : ownKnob Try.prog.godebug = none := by kernel_rfl

set_option maxRecDepth 100000 in
theorem lifted (os : Os) (started : os.Started) (H : Type) (enc : TypeId × Value → H) :
    ReturnsInHanded {} Try.checked os 4 .any (Rows.identSortsSpec.pre6 enc Try.prog Try.f4 Rows.identSortsRow.domain false) (Rows.identSortsSpec.post enc Try.prog Try.f4 false true false false) := by
  refine returnsInHanded_of_change (C := Try.checked) own started (by kernel_rfl) Try.func4
    (ChangeSpec.witness6 (enc := enc) (C := Try.checked) false ⟨#[], #[.slice none 0 0, .agg #[.int .i64 0, .int .i64 0], .agg #[.int .i64 0, .int .i64 0]], []⟩ 8 (by kernel_rfl) (by kernel_rfl) (by kernel_rfl) (by kernel_rfl)) ?_
  intro W base args ds gs before hval0 hW _ _
  have hval : ∀ (j : Nat) t v, Try.f4.params[j]? = some t → args[j]? = some v → Value.okWide Try.prog W .any base t v := hval0
  have hW' := hW
  obtain ⟨p, q, hA0, hV, rfl, _, _⟩ := hW
  have hA : DataW.TrodAll enc Try.prog W 0 (fun _ => true) true Try.f4.params.toList args.toList ds p := hA0
  rw [Try.params4] at hA hval
  obtain ⟨v0, vs0, d0, ds0, p0, q0, hargs, rfl, rfl, h0, r0⟩ := trodAll_cons hA
  obtain ⟨v1, vs1, d1, ds1, p1, q1, rfl, rfl, rfl, h1, r1⟩ := trodAll_cons r0
  obtain ⟨v2, vs2, d2, ds2, p2, q2, rfl, rfl, rfl, h2, r2⟩ := trodAll_cons r1
  obtain ⟨rfl, rfl, rfl⟩ := trodAll_nil r2
  obtain rfl : args = #[v0, v1, v2] := by cases args; simp_all
  obtain ⟨rfl, rfl⟩ := trodVars_none hV
  obtain ⟨sa, len, cap, zs, rfl, hm, hn, hr⟩ := open_atts_arg (hval 0 32 v0 rfl rfl) h0
  obtain ⟨x, rfl⟩ := open_att_arg (hval 1 34 v1 rfl rfl) h1
  obtain ⟨y, rfl⟩ := open_att_arg (hval 2 34 v2 rfl rfl) h2
  clear hA0 hval0
  have hW2 := hW'
  simp only [List.append_nil] at hW'
  have key : ∀ (j : Nat) (t : TypeId) (v : Value) (d : DataW H) (pp : List MemPlace), t ∈ [32, 34] → DataW.Trod enc Try.prog W 0 (fun _ => true) true t v d pp → (∀ z ∈ pp, z.block < W.heap.size) → ∀ (W' : World), Below W.heap.size W W' → DataW.Trod enc Try.prog W' 0 (fun b => decide (b < W.heap.size)) true t v d pp :=
    fun _ t v d pp ht h hl W' hb => by
      rcases List.mem_cons.1 ht with rfl | ht
      · exact Below.trod laidOut (by kernel_rfl) (of_decide_eq_true (by kernel_rfl)) h hb hl
      · obtain rfl := List.mem_singleton.1 ht
        exact Below.trod laidOut (by kernel_rfl) (of_decide_eq_true (by kernel_rfl)) h hb hl
  have e : ∃ W0, W0 = W := ⟨_, rfl⟩
  have walk : Calls Try.prog 4 #[.slice sa len cap, .agg #[.int .i64 x.1, .int .i64 x.2], .agg #[.int .i64 y.1, .int .i64 y.2]] W fun e w' => e = .returned (.bool true) ∧ RowKit.Below W.heap.size W w' := by
    by_cases h : len ≤ 300
    · exact sorts_walk sa len cap zs x y W h hn hr
    · exact sorts_long sa len cap x y W (by omega)
  refine walk.mono fun e W' ⟨he, hb⟩ => ?_
  subst he
  refine ⟨_, rfl, _, _, _, [], p0 ++ (p1 ++ (p2 ++ [])), [], hW2, ?_, ?_, rfl, hb.frame _, fun h => by cases h⟩
  · exact trodAll_cons_mk (shut_bool Try.underlying4 _) trodAll_mk0
  · exact trodAll_cons_mk (key 0 _ _ _ _ (by simp) h0 (fun z hz => by simpa using hW'.lt z (by simp [hz])) _ hb) (trodAll_cons_mk (key 1 _ _ _ _ (by simp) h1 (fun z hz => by simpa using hW'.lt z (by simp [hz])) _ hb) (trodAll_cons_mk (key 2 _ _ _ _ (by simp) h2 (fun z hz => by simpa using hW'.lt z (by simp [hz])) _ hb) trodAll_mk0))

theorem proved : Rows.IdentSortsSaid :=
  OpenClaim.holds_of_wide 4 Try.f4 rfl rfl rfl rfl rfl rfl rfl ⟨rfl, rfl, rfl, rfl, rfl⟩ rfl rfl rfl rfl rfl (by kernel_rfl) Try.func4 (by kernel_rfl)
    (of_decide_eq_true (by kernel_rfl)) (by unfold Func.isWrapper; first | (rw [if_pos (by decide +kernel)]; kernel_rfl) | (rw [if_neg (by decide +kernel)]; exact ⟨rfl, rfl⟩))
    (fun os started H enc _ => lifted os started H enc)
#print axioms proved
end Go.Proofs.Ytcgnodkbmpkhkaa.identSorts
