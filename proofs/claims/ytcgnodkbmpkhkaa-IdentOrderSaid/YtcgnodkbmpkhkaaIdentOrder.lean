/- For any commands at times, and any three more, the law IdentOrder (rubatolaw02) returns true, and its arguments read behind the call as they read before. No condition. -/
import Derived.Test.YtcgnodkbmpkhkaaIdentLawO
import Derived.Test.YtcgnodkbmpkhkaaIdentRowA
namespace Go.Proofs.Ytcgnodkbmpkhkaa.identOrder
open Go.ChangeShapes Go.WideShapes Go.ChangeAt Go.RowKit

theorem laidOut : laidOutB Try.prog = true := by kernel_rfl
theorem cellsOfThree : Try.prog.cellsOf 43 = 6 := by kernel_rfl
theorem six_of {A : Type} {l : List A} (h : l.length = 6) : ∃ a b c d e f, l = [a, b, c, d, e, f] := by
  match l, h with
  | [a, b, c, d, e, f], _ => exact ⟨a, b, c, d, e, f, rfl⟩
theorem three_of {A : Type} {l : List A} (h : l.length = 3) : ∃ a b c, l = [a, b, c] := by
  match l, h with
  | [a, b, c], _ => exact ⟨a, b, c, rfl⟩
theorem open_three_arg {H : Type} {enc : TypeId × Value → H} {w W : World} {base b0 : Nat} {spare : Nat → Bool} {held : Bool} {r : Reach} {v : Value} {d : DataW H} {p : List MemPlace} (hv : Value.okWide Try.prog W r b0 43 v) (h : DataW.Trod enc Try.prog w base spare held 43 v d p) : ∃ x y z : Int × Int, v = .agg #[.int .i64 x.1, .int .i64 x.2, .int .i64 y.1, .int .i64 y.2, .int .i64 z.1, .int .i64 z.2] := by
  obtain ⟨cs, rfl, hsz, _⟩ : ∃ cs, v = .agg cs ∧ cs.size = Try.prog.cellsOf 43 ∧ Row.okWide Try.prog W r b0 43 cs := by
    simpa [Value.okWide, Try.underlying43] using hv
  rw [cellsOfThree] at hsz
  obtain ⟨l⟩ := cs
  obtain ⟨c0, c1, c2, c3, c4, c5, rfl⟩ := six_of hsz
  obtain ⟨fuel, hf⟩ := h
  obtain ⟨ys, m, _, _, _, hl, hy⟩ := DataW.trod_array Try.underlying43 hf
  obtain ⟨u0, u1, u2, rfl⟩ := three_of hl
  obtain ⟨a0, b0, e0⟩ := open_att (x := u0) (hy 0 (by decide))
  obtain ⟨a1, b1, e1⟩ := open_att (x := u1) (hy 1 (by decide))
  obtain ⟨a2, b2, e2⟩ := open_att (x := u2) (hy 2 (by decide))
  rw [cellsOfAtt] at e0 e1 e2
  simp [Value.cells] at e0 e1 e2
  obtain ⟨rfl, rfl⟩ := e0
  obtain ⟨rfl, rfl⟩ := e1
  obtain ⟨rfl, rfl⟩ := e2
  exact ⟨(a0, b0), (a1, b1), (a2, b2), rfl⟩
theorem own : ownKnob Try.prog.godebug = none := by kernel_rfl

set_option maxRecDepth 100000 in
theorem lifted (os : Os) (started : os.Started) (H : Type) (enc : TypeId × Value → H) :
    ReturnsInHanded {} Try.checked os 6 .any (Rows.identOrderSpec.pre6 enc Try.prog Try.f6 Rows.identOrderRow.domain false) (Rows.identOrderSpec.post enc Try.prog Try.f6 false true false false) := by
  refine returnsInHanded_of_change (C := Try.checked) own started (by kernel_rfl) Try.func6
    (ChangeSpec.witness6 (enc := enc) (C := Try.checked) false ⟨#[], #[.slice none 0 0, .agg #[.int .i64 0, .int .i64 0, .int .i64 0, .int .i64 0, .int .i64 0, .int .i64 0]], []⟩ 8 (by kernel_rfl) (by kernel_rfl) (by kernel_rfl) (by kernel_rfl)) ?_
  intro W base args ds gs before hval0 hW _ _
  have hval : ∀ (j : Nat) t v, Try.f6.params[j]? = some t → args[j]? = some v → Value.okWide Try.prog W .any base t v := hval0
  have hW' := hW
  obtain ⟨p, q, hA0, hV, rfl, _, _⟩ := hW
  have hA : DataW.TrodAll enc Try.prog W 0 (fun _ => true) true Try.f6.params.toList args.toList ds p := hA0
  rw [Try.params6] at hA hval
  obtain ⟨v0, vs0, d0, ds0, p0, q0, hargs, rfl, rfl, h0, r0⟩ := trodAll_cons hA
  obtain ⟨v1, vs1, d1, ds1, p1, q1, rfl, rfl, rfl, h1, r1⟩ := trodAll_cons r0
  obtain ⟨rfl, rfl, rfl⟩ := trodAll_nil r1
  obtain rfl : args = #[v0, v1] := by cases args; simp_all
  obtain ⟨rfl, rfl⟩ := trodVars_none hV
  obtain ⟨sa, len, cap, zs, rfl, hm, hn, hr⟩ := open_atts_arg (hval 0 32 v0 rfl rfl) h0
  obtain ⟨x, y, z, rfl⟩ := open_three_arg (hval 1 43 v1 rfl rfl) h1
  clear hA0 hval0
  have hW2 := hW'
  simp only [List.append_nil] at hW'
  have key : ∀ (j : Nat) (t : TypeId) (v : Value) (d : DataW H) (pp : List MemPlace), t ∈ [32, 43] → DataW.Trod enc Try.prog W 0 (fun _ => true) true t v d pp → (∀ z ∈ pp, z.block < W.heap.size) → ∀ (W' : World), Below W.heap.size W W' → DataW.Trod enc Try.prog W' 0 (fun b => decide (b < W.heap.size)) true t v d pp :=
    fun _ t v d pp ht h hl W' hb => by
      rcases List.mem_cons.1 ht with rfl | ht
      · exact Below.trod laidOut (by kernel_rfl) (of_decide_eq_true (by kernel_rfl)) h hb hl
      · obtain rfl := List.mem_singleton.1 ht
        exact Below.trod laidOut (by kernel_rfl) (of_decide_eq_true (by kernel_rfl)) h hb hl
  have e : ∃ W0, W0 = W := ⟨_, rfl⟩
  have walk : Calls Try.prog 6 #[.slice sa len cap, .agg #[.int .i64 x.1, .int .i64 x.2, .int .i64 y.1, .int .i64 y.2, .int .i64 z.1, .int .i64 z.2]] W fun e w' => e = .returned (.bool true) ∧ RowKit.Below W.heap.size W w' := by
    by_cases h : len ≤ 300
    · exact order_walk sa len cap zs x y z W h hn hr
    · exact order_long sa len cap x y z W (by omega)
  refine walk.mono fun e W' ⟨he, hb⟩ => ?_
  subst he
  refine ⟨_, rfl, _, _, _, [], p0 ++ (p1 ++ []), [], hW2, ?_, ?_, rfl, hb.frame _, fun h => by cases h⟩
  · exact trodAll_cons_mk (shut_bool Try.underlying4 _) trodAll_mk0
  · exact trodAll_cons_mk (key 0 _ _ _ _ (by simp) h0 (fun z hz => by simpa using hW'.lt z (by simp [hz])) _ hb) (trodAll_cons_mk (key 1 _ _ _ _ (by simp) h1 (fun z hz => by simpa using hW'.lt z (by simp [hz])) _ hb) trodAll_mk0)

theorem proved : Rows.IdentOrderSaid :=
  OpenClaim.holds_of_wide 6 Try.f6 rfl rfl rfl rfl rfl rfl rfl ⟨rfl, rfl, rfl, rfl, rfl⟩ rfl rfl rfl rfl rfl (by kernel_rfl) Try.func6 (by kernel_rfl)
    (of_decide_eq_true (by kernel_rfl)) (by unfold Func.isWrapper; first | (rw [if_pos (by decide +kernel)]; kernel_rfl) | (rw [if_neg (by decide +kernel)]; exact ⟨rfl, rfl⟩))
    (fun os started H enc _ => lifted os started H enc)
#print axioms proved
end Go.Proofs.Ytcgnodkbmpkhkaa.identOrder
