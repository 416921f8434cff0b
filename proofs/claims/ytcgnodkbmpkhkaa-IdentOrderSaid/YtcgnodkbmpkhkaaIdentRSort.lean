/- The contract of the document's Sort: each command is put in its place; the row that comes out is the one in order. -/
import Derived.Test.YtcgnodkbmpkhkaaIdentAwake
import Derived.Test.YtcgnodkbmpkhkaaIdentPdq
import Derived.Deep.RegionHeld3
import Derived.Deep.DrawnRows
import Derived.OwnWalk
namespace Go.Proofs.Ytcgnodkbmpkhkaa
open Go.RowKit Go.Sort

/-- A command put in its place. -/
def insL (x : Int × Int) : List (Int × Int) → List (Int × Int)
  | [] => [x]
  | y :: r => if lessB x y then x :: y :: r else y :: insL x r
theorem insL_at (x : Int × Int) : ∀ (out : List (Int × Int)) (k : Nat), k ≤ out.length → (∀ m, m < k → lessB x (out.getD m (0, 0)) = false) → (k = out.length ∨ lessB x (out.getD k (0, 0)) = true) → insL x out = out.take k ++ [x] ++ out.drop k := by
  intro out
  induction out with
  | nil => intro k hk _ _; obtain rfl : k = 0 := by simpa using hk
           rfl
  | cons y r ih =>
    intro k hk h1 h2
    cases k with
    | zero =>
      have : lessB x y = true := by
        rcases h2 with h | h
        · simp at h
        · simpa using h
      simp [insL, this]
    | succ k =>
      have h0 : lessB x y = false := by simpa using h1 0 (by omega)
      have := ih k (by simpa using hk) (fun m hm => by simpa using h1 (m + 1) (by omega)) (by simpa using h2)
      simp [insL, h0, this]
theorem insL_perm (x : Int × Int) (out : List (Int × Int)) : (insL x out).Perm (x :: out) := by
  induction out with
  | nil => exact List.Perm.refl _
  | cons y r ih =>
    unfold insL
    split
    · exact List.Perm.refl _
    · exact (List.Perm.cons y ih).trans (List.Perm.swap x y r)
/-- The commands in order, as the document puts them there. -/
def insAll (zs : List (Int × Int)) : List (Int × Int) := zs.foldl (fun out x => insL x out) []
theorem insAll_snoc (zs : List (Int × Int)) (x : Int × Int) : insAll (zs ++ [x]) = insL x (insAll zs) := by simp [insAll]
theorem insAll_len (zs : List (Int × Int)) : ∀ out, (zs.foldl (fun out x => insL x out) out).length = out.length + zs.length := by
  induction zs with
  | nil => intro out; rfl
  | cons x r ih => intro out; rw [List.foldl_cons, ih, (insL_perm x out).length_eq]; simp; omega
theorem insAll_length (zs : List (Int × Int)) : (insAll zs).length = zs.length := by unfold insAll; rw [insAll_len]; simp
theorem foldl_perm (zs : List (Int × Int)) : ∀ out, (zs.foldl (fun out x => insL x out) out).Perm (zs ++ out) := by
  induction zs with
  | nil => intro out; exact List.Perm.refl _
  | cons x r ih =>
    intro out
    rw [List.foldl_cons]
    refine (ih _).trans ?_
    refine ((insL_perm x out).append_left r).trans ?_
    exact List.perm_middle
theorem insAll_perm (zs : List (Int × Int)) : (insAll zs).Perm zs := by simpa [insAll] using foldl_perm zs []
/-- No one is less than one ahead of it. -/
def Asc (l : List (Int × Int)) : Prop := l.Pairwise (fun a b => lessB b a = false)
theorem insL_asc (x : Int × Int) (out : List (Int × Int)) (h : Asc out) : Asc (insL x out) := by
  induction out with
  | nil => simp [Asc, insL]
  | cons y r ih =>
    obtain ⟨h1, h2⟩ := List.pairwise_cons.1 h
    unfold insL
    split
    · rename_i hx
      refine List.pairwise_cons.2 ⟨fun z hz => ?_, h⟩
      rcases List.mem_cons.1 hz with rfl | hz
      · cases q : lessB z x with
        | false => rfl
        | true => have := lessB_swo.trans x z x hx q; rw [lessB_swo.irrefl] at this; exact this.symm
      · cases q : lessB z x with
        | false => rfl
        | true => have := lessB_swo.trans z x y q hx; rw [h1 z hz] at this; exact this.symm
    · rename_i hx
      refine List.pairwise_cons.2 ⟨fun z hz => ?_, ih h2⟩
      rcases List.mem_cons.1 ((insL_perm x r).mem_iff.1 hz) with rfl | hz
      · simpa using hx
      · exact h1 z hz
theorem foldl_asc (zs : List (Int × Int)) : ∀ out, Asc out → Asc (zs.foldl (fun out x => insL x out) out) := by
  induction zs with
  | nil => intro out h; exact h
  | cons x r ih => intro out h; rw [List.foldl_cons]; exact ih _ (insL_asc x out h)
theorem sortL_perm (zs : List (Int × Int)) : (sortL zs).Perm zs := List.mergeSort_perm _ _
theorem sortL_asc (zs : List (Int × Int)) : Asc (sortL zs) := by
  unfold Asc sortL
  have h := List.pairwise_mergeSort (le := fun x y => !lessB y x) ?_ ?_ zs
  · exact h.imp (fun {a b} h => by simpa using h)
  · intro a b c h1 h2
    simp only [Bool.not_eq_eq_eq_not, Bool.not_true] at *
    exact lessB_swo.ntrans _ _ _ h2 h1
  · intro a b
    cases q : lessB b a with
    | false => simp
    | true =>
      have : lessB a b = false := by
        cases q2 : lessB a b with
        | false => rfl
        | true => have := lessB_swo.trans a b a q2 q; rw [lessB_swo.irrefl] at this; exact this.symm
      simp [this]
theorem insAll_sort (zs : List (Int × Int)) : insAll zs = sortL zs := by
  refine List.Perm.eq_of_pairwise (le := fun x y => lessB y x = false) ?_ (foldl_asc zs [] List.Pairwise.nil) (sortL_asc zs) ((insAll_perm zs).trans (sortL_perm zs).symm)
  intro a b _ _ h1 h2
  exact lessB_one a b h2 h1

/-- v is a slice of the call's own, from block base on, that holds the commands l. -/
def OwnA (w : World) (base : Nat) (v : Value) (l : List (Int × Int)) : Prop := w.ownsRow base 34 2 v l.length (flat l)
theorem OwnA.later {w w' : World} {base : Nat} {v : Value} {l : List (Int × Int)} (h : OwnA w base v l) (hb : RowKit.Below w.heap.size w w') : OwnA w' base v l := by
  have h0 := h
  refine ⟨h.1, ?_⟩
  rcases h.2 with q | ⟨g, cap, cur, rfl, hg, hc, r⟩
  · exact Or.inl q
  · exact Or.inr ⟨g, cap, cur, rfl, hg, (hb.block g (World.ownsRow.lt h0 g rfl).2).trans hc, r⟩
theorem OwnA.lower {w : World} {base base' : Nat} {v : Value} {l : List (Int × Int)} (h : OwnA w base v l) (hb : base' ≤ base) : OwnA w base' v l := by
  refine ⟨h.1, ?_⟩
  rcases h.2 with q | ⟨g, cap, cur, e, hg, r⟩
  · exact Or.inl q
  · exact Or.inr ⟨g, cap, cur, e, Nat.le_trans hb hg, r⟩
/-- What such a slice looks like. -/
theorem OwnA.form {w : World} {base : Nat} {v : Value} {l : List (Int × Int)} (h : OwnA w base v l) : (v = .slice none 0 0 ∧ l = []) ∨ ∃ g cap, v = .slice (some ⟨g, 0, none⟩) l.length cap ∧ l.length ≤ cap ∧ base ≤ g ∧ g < w.heap.size ∧ ∀ i, i < l.length → w.cell? ⟨g, i * 2, none⟩ = some (.int .i64 (l.getD i (0, 0)).1) ∧ w.cell? ⟨g, i * 2 + 1, none⟩ = some (.int .i64 (l.getD i (0, 0)).2) := by
  have h0 := h
  rcases h.2 with ⟨e, h1⟩ | ⟨g, cap, cur, rfl, hg, _, hc, _⟩
  · exact .inl ⟨e, List.length_eq_zero_iff.1 h1⟩
  · refine .inr ⟨g, cap, rfl, hc, hg, (World.ownsRow.lt h0 g rfl).2, fun i hi => ⟨?_, ?_⟩⟩
    · rw [World.ownsRow.cellAt h0 _ (by omega), (flat_at l i hi).1]
    · rw [World.ownsRow.cellAt h0 _ (by omega), (flat_at l i hi).2]
theorem OwnA.reads {w : World} {base : Nat} {v : Value} {l : List (Int × Int)} (h : OwnA w base v l) : ∃ sa cap, v = .slice sa l.length cap ∧ ReadsA w sa l.length l := by
  rcases h.form with ⟨rfl, rfl⟩ | ⟨g, cap, rfl, _, _, _, hc⟩
  · exact ⟨none, 0, rfl, rfl, fun h => absurd h (by decide)⟩
  · refine ⟨_, cap, rfl, rfl, fun _ => ⟨g, 0, rfl, fun i hi => ?_⟩⟩
    rw [Nat.zero_add]; exact hc i hi
theorem flat_app (a b : List (Int × Int)) : flat (a ++ b) = flat a ++ flat b := by simp [flat]

/-- An append of commands to a slice of the call's own. -/
theorem run_append_own_att (w : World) (t ty : TypeId) (ht : Try.prog.underlying t = some (.slice 34)) (base : Nat) (v : Value) (l1 : List (Int × Int)) (hown : OwnA w base v l1) (sa : Option Addr) (m c : Nat) (l2 : List (Int × Int)) (hr : ReadsA w sa m l2)
    (hm : l1.length + m ≤ 10000) (hbase : base ≤ w.heap.size) :
    ∃ v' w', (Builtin.append_ #[t, t] ty #[v, .slice sa m c]).run Try.prog w = .ok v' w' ∧ OwnA w' base v' (l1 ++ l2) ∧ w.grownBy w' v.ownBlock ∧ RowKit.Below base w w' := by
  obtain ⟨i0, hi, hz0, hz1, hz2⟩ := info_parts infoAtt
  have hml := hr.1
  have hlo := World.ownsRow.lt hown
  cases sa with
  | none =>
    have m0 : m = 0 := by
      rcases Nat.eq_zero_or_pos m with h | h
      · exact h
      · obtain ⟨b, off, e, _⟩ := hr.2 h; cases e
    subst m0
    obtain rfl : l2 = [] := List.length_eq_zero_iff.1 hml.symm
    refine ⟨v, w, ?_, by simpa using hown, World.grownBy.refl w _, Below.refl _ _⟩
    rcases hown.2 with ⟨rfl, _⟩ | ⟨g, cap, cur, rfl, _, _, hnc, _⟩
    · simp [Builtin.append_, run_underlying ht, sizeOf, typeInfo, hi, Builtin.lenOf, Builtin.firstCells]
    · simp [Builtin.append_, run_underlying ht, sizeOf, typeInfo, hi, Builtin.lenOf, Builtin.firstCells, hnc, storeCells]
  | some ad =>
    have hcells : ∀ (j : Nat) (u : Value), (flat l2)[j]? = some u → w.cell? (ad.add j) = some u := by
      intro j u hj
      have hlen := (List.getElem?_eq_some_iff.1 hj).1
      rw [flat_len] at hlen
      obtain ⟨b, off, e, _⟩ := hr.2 (by omega)
      obtain rfl := Option.some.inj e
      have := flat_cells hr j u hj
      rw [show (⟨b, off, none⟩ : Addr).add j = ⟨b, off + j, none⟩ by unfold Addr.add; split <;> simp_all]
      exact this
    obtain ⟨v', w', hrun, r1, r2, _⟩ := run_append_own (P := Try.prog) w base t ty 34 i0 (.agg #[.int .i64 0, .int .i64 0]) 2 16 ht hi hz0 hz1 hz2 rfl (by decide) v l1.length (flat l1) hown ad m c (flat l2) (by rw [flat_len, hml]) hcells (flat_one l2) (by unfold maxLen; omega) (by omega) hbase
    refine ⟨v', w', hrun, ?_, r2, (Below.refl base w).grown r2 hbase (fun k hk => (hlo k hk).1)⟩
    unfold OwnA
    rw [List.length_append, flat_app, ← hml]
    exact r1
/-- .. at a step of a region that draws its order. -/
theorem step_append_att {ops : Array Oper} {o : Oper} {a : Act} {w : World} {K : Act → World → Prop} {Q : Exit → Act → World → Prop} {E : Prop}
    (hw : Region.wanted o (yielded ops a.tmps) = true) (s x : Operand) (ho : o.op = Op.call { callee := Callee.builtin Builtin.append, args := #[s, x], argTypes := #[32, 32] })
    (base : Nat) (v : Value) (l1 : List (Int × Int)) (hs : a.eval s = v) (hown : OwnA w base v l1) (sa : Option Addr) (m c : Nat) (l2 : List (Int × Int)) (hx : a.eval x = .slice sa m c) (hr : ReadsA w sa m l2)
    (hm : l1.length + m ≤ 10000) (hbase : base ≤ w.heap.size)
    (hK : ∀ v' w', OwnA w' base v' (l1 ++ l2) → w.grownBy w' v.ownBlock → RowKit.Below base w w' → K (a.put o.dst v') w') :
    if Region.wanted o (yielded ops a.tmps) = true then Oper.wp Try.prog o a w K Q else E := by
  rw [if_pos hw]
  obtain ⟨v', w', hrun, h1, h2, h3⟩ := run_append_own_att w 32 o.type Try.underlying32 base v l1 hown sa m c l2 hr hm hbase
  unfold Oper.wp
  simp [execOp, ho, resolve, invoke, builtin, hs, hx, hrun, Result.andThen]
  exact hK v' w' h1 h2 h3
end Go.Proofs.Ytcgnodkbmpkhkaa
