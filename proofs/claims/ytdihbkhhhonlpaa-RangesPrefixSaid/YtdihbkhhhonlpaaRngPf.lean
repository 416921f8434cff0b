/- What the program's own ways make of sets, said of lists: its parts, the join, the gaps. Nothing here speaks of the program. -/
import Derived.Test.YtdihbkhhhonlpaaRngLawA
import Derived.Test.YtdihbkhhhonlpaaRngLawP
import Derived.Test.YtdihbkhhhonlpaaRngPb
namespace Go.Proofs.Ytdihbkhhhonlpaa
open Go.RowKit Go.Sort

theorem ovl_in (x y : Int × Int) (n : Int) : (decide ((ovl x y).1 ≤ n) && decide (n ≤ (ovl x y).2)) = ((decide (x.1 ≤ n) && decide (n ≤ x.2)) && (decide (y.1 ≤ n) && decide (n ≤ y.2))) := by
  rw [Bool.eq_iff_iff]
  simp only [Bool.and_eq_true, decide_eq_true_eq]
  unfold ovl
  constructor
  · rintro ⟨a, b⟩
    simp only at a b
    split at a <;> split at b <;> omega
  · rintro ⟨⟨a, b⟩, c, d⟩
    simp only
    split <;> split <;> omega
theorem partsL_nil (y : Int × Int) : partsL [] y = [] := rfl
theorem partsL_cons (x : Int × Int) (t : List (Int × Int)) (y : Int × Int) : partsL (x :: t) y = if (ovl x y).2 < (ovl x y).1 then partsL t y else ovl x y :: partsL t y := by
  unfold partsL
  rw [List.map_cons, List.filter_cons]
  by_cases h : (ovl x y).2 < (ovl x y).1
  · simp [h]
  · simp [h]
theorem partsL_in (y : Int × Int) (n : Int) : ∀ zs : List (Int × Int), inB (partsL zs y) n = (inB zs n && (decide (y.1 ≤ n) && decide (n ≤ y.2))) := by
  intro zs
  induction zs with
  | nil => rfl
  | cons x t ih =>
    rw [partsL_cons, inB_cons]
    have e := ovl_in x y n
    split
    · rename_i h
      have e0 : (decide ((ovl x y).1 ≤ n) && decide (n ≤ (ovl x y).2)) = false := by
        rw [Bool.and_eq_false_iff, decide_eq_false_iff_not, decide_eq_false_iff_not]; omega
      rw [ih]
      rw [e0] at e
      cases h1 : inB t n <;> simp_all
    · rw [inB_cons, ih, e]
      cases inB t n <;> cases (decide (x.1 ≤ n) && decide (n ≤ x.2)) <;> cases (decide (y.1 ≤ n) && decide (n ≤ y.2)) <;> rfl
theorem ovl_bounds (x y : Int × Int) : y.1 ≤ (ovl x y).1 ∧ x.1 ≤ (ovl x y).1 ∧ (ovl x y).2 ≤ x.2 ∧ (ovl x y).2 ≤ y.2 := by
  unfold ovl
  simp only
  refine ⟨?_, ?_, ?_, ?_⟩ <;> split <;> omega
theorem partsL_mem (y : Int × Int) : ∀ zs : List (Int × Int), ∀ r ∈ partsL zs y, y.1 ≤ r.1 ∧ r.2 ≤ y.2 ∧ r.1 ≤ r.2 := by
  intro zs
  induction zs with
  | nil => intro r hr; cases hr
  | cons x t ih =>
    intro r hr
    rw [partsL_cons] at hr
    have b := ovl_bounds x y
    split at hr
    · exact ih r hr
    · rcases List.mem_cons.1 hr with rfl | hr
      · exact ⟨b.1, b.2.2.2, by omega⟩
      · exact ih r hr
theorem partsL_ok (y : Int × Int) : ∀ (zs : List (Int × Int)) (p : Int), Ok p zs → Ok p (partsL zs y) := by
  intro zs
  induction zs with
  | nil => intro p _; trivial
  | cons x t ih =>
    intro p ⟨a, b, c, d, e⟩
    rw [partsL_cons]
    have q := ovl_bounds x y
    split
    · exact ok_lower (ih x.2 e) (by omega)
    · exact ⟨by omega, by omega, by omega, by omega, ok_lower (ih x.2 e) q.2.2.1⟩
theorem ok_app : ∀ (l1 l2 : List (Int × Int)) (p : Int), Ok p l1 → Ok p l2 → (∀ s ∈ l1, ∀ t ∈ l2, s.2 + 1 < t.1) → Ok p (l1 ++ l2) := by
  intro l1
  induction l1 with
  | nil => intro l2 p _ h _; exact h
  | cons x t ih =>
    intro l2 p ⟨a, b, c, d, e⟩ h hs
    refine ⟨a, b, c, d, ih l2 x.2 e ?_ fun s hs' u hu => hs s (by simp [hs']) u hu⟩
    cases l2 with
    | nil => trivial
    | cons u v =>
      obtain ⟨a', b', c', d', e'⟩ := h
      exact ⟨a', b', c', hs x (by simp) u (by simp), e'⟩

/-! ### Cut and Less -/
theorem cut_is {zs : List (Int × Int)} (h : Ok (-1) zs) (n : Int) : partsL zs (n + 1, 1000000) = lessZ zs (1, n) := by
  refine is_one ⟨partsL_ok _ _ _ h, fun m => partsL_in _ _ _⟩ (lessZ_is h (1, n)) fun m => ?_
  unfold setOf
  rw [inB_cons, inB_nil, Bool.or_false]
  cases q : inB zs m with
  | false => simp
  | true =>
    obtain ⟨q1, q2, _⟩ := ok_in h q
    rw [decide_eq_true q1, decide_eq_true q2]
    by_cases q3 : m ≤ n
    · simp [q3, decide_eq_false (by omega : ¬ n + 1 ≤ m)]
    · simp [q3, decide_eq_true (by omega : n + 1 ≤ m)]
theorem cut_none {zs : List (Int × Int)} (h : Ok (-1) zs) {n : Int} (hn : 1000000 ≤ n) : lessZ zs (1, n) = [] := by
  refine is_one (lessZ_is h (1, n)) (T := fun _ => false) ⟨trivial, fun _ => rfl⟩ fun m => ?_
  unfold setOf
  rw [inB_cons, inB_nil, Bool.or_false]
  by_cases q1 : 1 ≤ m
  · by_cases q2 : m ≤ 1000000
    · simp [decide_eq_true (by omega : m ≤ n)]
      intros; omega
    · simp [q2]
  · simp [q1]
theorem lessZ_not {zs : List (Int × Int)} (h : ¬ Ok (-1) zs) (r : Int × Int) : lessZ zs r = [] := if_neg h
theorem gapsZ_not {zs : List (Int × Int)} (h : ¬ Ok (-1) zs) (lo hi : Int) : gapsZ zs lo hi = [] := if_neg h
theorem addZ_not {zs : List (Int × Int)} (h : ¬ Ok (-1) zs) (more : List (Int × Int)) : addZ zs more = [] := if_neg h
theorem whole_in (r : Int × Int) (m : Int) (h1 : 1 ≤ m) (h2 : m ≤ 1000000) : (decide (r.1 ≤ m) && decide (m ≤ r.2)) = (decide ((ovl r (1, 1000000)).1 ≤ m) && decide (m ≤ (ovl r (1, 1000000)).2)) := by
  rw [ovl_in, decide_eq_true (show ((1 : Int), (1000000 : Int)).1 ≤ m from h1), decide_eq_true (show m ≤ ((1 : Int), (1000000 : Int)).2 from h2)]
  simp
theorem less_same {zs : List (Int × Int)} (h : Ok (-1) zs) {r : Int × Int} (he : (ovl r (1, 1000000)).2 < (ovl r (1, 1000000)).1) : zs = lessZ zs r := by
  refine is_one ⟨h, fun _ => rfl⟩ (lessZ_is h r) fun m => ?_
  unfold setOf
  rw [inB_cons, inB_nil, Bool.or_false]
  cases q : inB zs m with
  | false => simp
  | true =>
    obtain ⟨q1, q2, _⟩ := ok_in h q
    have e : (decide ((ovl r (1, 1000000)).1 ≤ m) && decide (m ≤ (ovl r (1, 1000000)).2)) = false := by
      rw [Bool.and_eq_false_iff, decide_eq_false_iff_not, decide_eq_false_iff_not]; omega
    rw [whole_in r m q1 q2, e, decide_eq_true q1, decide_eq_true q2]; rfl
theorem less_is {zs : List (Int × Int)} (h : Ok (-1) zs) {r : Int × Int} (he : ¬ (ovl r (1, 1000000)).2 < (ovl r (1, 1000000)).1) :
    partsL zs (1, (ovl r (1, 1000000)).1 - 1) ++ partsL zs ((ovl r (1, 1000000)).2 + 1, 1000000) = lessZ zs r := by
  refine is_one ⟨ok_app _ _ _ (partsL_ok _ _ _ h) (partsL_ok _ _ _ h) fun s hs t ht => ?_, fun m => by rw [inB_app, partsL_in, partsL_in]⟩ (lessZ_is h r) fun m => ?_
  · have := (partsL_mem _ _ s hs).2.1
    have := (partsL_mem _ _ t ht).1
    simp only at *
    omega
  · unfold setOf
    rw [inB_cons, inB_nil, Bool.or_false]
    cases q : inB zs m with
    | false => simp
    | true =>
      obtain ⟨q1, q2, _⟩ := ok_in h q
      rw [whole_in r m q1 q2, decide_eq_true q1, decide_eq_true q2]
      rw [Bool.eq_iff_iff]
      simp
      omega

/-! ### Has -/
theorem has_parts (zs : List (Int × Int)) (n : Int) : inB zs n = false ↔ partsL zs (n, n) = [] := by
  constructor
  · intro h
    cases q : partsL zs (n, n) with
    | nil => rfl
    | cons r t =>
      obtain ⟨a, b, c⟩ := partsL_mem (n, n) zs r (by rw [q]; simp)
      have := partsL_in (n, n) n zs
      rw [h, q, inB_cons] at this
      simp only at a b
      rw [decide_eq_true (by omega : r.1 ≤ n), decide_eq_true (by omega : n ≤ r.2)] at this
      simp at this
  · intro h
    have := partsL_in (n, n) n zs
    rw [h, inB_nil] at this
    simpa using this.symm

/-! ### Join -/
def joinStep (out : List (Int × Int)) (r : Int × Int) : List (Int × Int) :=
  match out.getLast? with
  | none => [r]
  | some s => if r.1 ≤ s.2 + 1 then out.dropLast ++ [(s.1, if s.2 < r.2 then r.2 else s.2)] else out ++ [r]
theorem joinStep_nil (r : Int × Int) : joinStep [] r = [r] := rfl
theorem joinStep_on (l : List (Int × Int)) (s r : Int × Int) (h : r.1 ≤ s.2 + 1) : joinStep (l ++ [s]) r = l ++ [(s.1, if s.2 < r.2 then r.2 else s.2)] := by simp [joinStep, h]
theorem joinStep_new (l : List (Int × Int)) (s r : Int × Int) (h : ¬ r.1 ≤ s.2 + 1) : joinStep (l ++ [s]) r = l ++ [s] ++ [r] := by simp [joinStep, h]
def joinL (l : List (Int × Int)) : List (Int × Int) := l.foldl joinStep []
theorem joinL_take (zs : List (Int × Int)) (k : Nat) (hk : k < zs.length) : joinL (zs.take (k + 1)) = joinStep (joinL (zs.take k)) (zs.getD k (0, 0)) := by
  unfold joinL
  rw [List.take_succ_eq_append_getElem hk, List.foldl_append, List.foldl_cons, List.foldl_nil, List.getD_eq_getElem?_getD, List.getElem?_eq_getElem hk, Option.getD_some]
def Valid (r : Int × Int) : Prop := 1 ≤ r.1 ∧ r.2 ≤ 1000000 ∧ r.1 ≤ r.2
theorem join_step {out : List (Int × Int)} {r : Int × Int} (h : Ok (-1) out) (hr : Valid r) (hl : ∀ s ∈ out, s.1 ≤ r.1) :
    Ok (-1) (joinStep out r) ∧ (∀ n, inB (joinStep out r) n = (inB out n || (decide (r.1 ≤ n) && decide (n ≤ r.2)))) ∧ (∀ s ∈ joinStep out r, s.1 ≤ r.1) := by
  obtain ⟨r1, r2, r3⟩ := hr
  rcases List.eq_nil_or_concat out with rfl | ⟨l, s, rfl⟩
  · rw [joinStep_nil]
    exact ⟨⟨r1, r2, r3, by omega, trivial⟩, fun n => by rw [inB_cons, inB_nil, Bool.or_false]; rfl, fun s hs => by rw [List.mem_singleton.1 hs]; exact Int.le_refl _⟩
  · rw [List.concat_eq_append] at *
    obtain ⟨k0, k1, k2, k3, k4, k5⟩ := ok_init h
    have hsr := hl s (by simp)
    by_cases q : r.1 ≤ s.2 + 1
    · rw [joinStep_on l s r q]
      refine ⟨ok_snoc k0 k1 (by show (if s.2 < r.2 then r.2 else s.2) ≤ 1000000; split <;> omega) (by show s.1 ≤ (if s.2 < r.2 then r.2 else s.2); split <;> omega) k4 k5, fun n => ?_, fun t ht => ?_⟩
      · rw [inB_app, inB_app, inB_cons, inB_cons, inB_nil, Bool.or_false, Bool.or_false, Bool.or_assoc]
        congr 1
        rw [Bool.eq_iff_iff]
        simp only [Bool.and_eq_true, Bool.or_eq_true, decide_eq_true_eq]
        split <;> omega
      · rcases List.mem_append.1 ht with ht | ht
        · exact hl t (by simp [ht])
        · obtain rfl := List.mem_singleton.1 ht
          exact hsr
    · rw [joinStep_new l s r q]
      refine ⟨ok_snoc h r1 r2 r3 (by omega) (fun t ht => ?_), fun n => ?_, fun t ht => ?_⟩
      · rcases List.mem_append.1 ht with ht | ht
        · have := k5 t ht; omega
        · obtain rfl : t = s := by simpa using ht
          omega
      · rw [inB_app, inB_cons, inB_nil, Bool.or_false]
      · rcases List.mem_append.1 ht with ht | ht
        · exact hl t ht
        · obtain rfl : t = r := by simpa using ht
          exact Int.le_refl _
theorem join_fold : ∀ (l out : List (Int × Int)), Ok (-1) out → (∀ r ∈ l, Valid r) → l.Pairwise (fun a b => a.1 ≤ b.1) → (∀ s ∈ out, ∀ r ∈ l, s.1 ≤ r.1) →
    Ok (-1) (l.foldl joinStep out) ∧ ∀ n, inB (l.foldl joinStep out) n = (inB out n || inB l n) := by
  intro l
  induction l with
  | nil => intro out h _ _ _; exact ⟨h, fun n => by rw [inB_nil, Bool.or_false]; rfl⟩
  | cons r t ih =>
    intro out h hv hp hl
    obtain ⟨p1, p2⟩ := List.pairwise_cons.1 hp
    obtain ⟨a, b, c⟩ := join_step h (hv r (by simp)) fun s hs => hl s hs r (by simp)
    obtain ⟨d, e⟩ := ih (joinStep out r) a (fun s hs => hv s (by simp [hs])) p2 fun s hs u hu => Int.le_trans (c s hs) (p1 u hu)
    exact ⟨d, fun n => by rw [List.foldl_cons, e n, b n, inB_cons, Bool.or_assoc]⟩
theorem joinL_is {l : List (Int × Int)} (hv : ∀ r ∈ l, Valid r) (hp : l.Pairwise (fun a b => a.1 ≤ b.1)) : Ok (-1) (joinL l) ∧ ∀ n, inB (joinL l) n = inB l n := by
  obtain ⟨a, b⟩ := join_fold l [] trivial hv hp (fun s hs => by cases hs)
  exact ⟨a, fun n => by rw [show joinL l = l.foldl joinStep [] from rfl, b n, inB_nil, Bool.false_or]⟩
theorem joinStep_len (out : List (Int × Int)) (r : Int × Int) : (joinStep out r).length ≤ out.length + 1 := by
  rcases List.eq_nil_or_concat out with rfl | ⟨l, s, rfl⟩
  · simp [joinStep_nil]
  · rw [List.concat_eq_append]
    by_cases q : r.1 ≤ s.2 + 1
    · rw [joinStep_on l s r q]; simp
    · rw [joinStep_new l s r q]; simp
theorem joinL_len (zs : List (Int × Int)) : ∀ k, (joinL (zs.take k)).length ≤ k := by
  intro k
  induction k with
  | zero => simp [joinL]
  | succ k ih =>
    by_cases hk : k < zs.length
    · rw [joinL_take zs k hk]
      have := joinStep_len (joinL (zs.take k)) (zs.getD k (0, 0))
      omega
    · rw [List.take_of_length_le (by omega)]
      rw [List.take_of_length_le (by omega)] at ih
      omega
/-- What Add makes: the join of any sorted row of both. -/
theorem add_is {zs : List (Int × Int)} (h : Ok (-1) zs) (more row : List (Int × Int)) (hperm : row.Perm (zs ++ partsL more (1, 1000000))) (hp : row.Pairwise (fun a b => a.1 ≤ b.1)) : joinL row = addZ zs more := by
  have hv : ∀ r ∈ row, Valid r := fun r hr => by
    rcases List.mem_append.1 (hperm.mem_iff.1 hr) with q | q
    · obtain ⟨a, b, c, _⟩ := ok_mem h r q; exact ⟨a, b, c⟩
    · obtain ⟨a, b, c⟩ := partsL_mem _ _ r q; exact ⟨a, b, c⟩
  obtain ⟨a, b⟩ := joinL_is hv hp
  refine is_one ⟨a, b⟩ (addZ_is h more) fun n => ?_
  have e : inB row n = inB (zs ++ partsL more (1, 1000000)) n := by
    rw [Bool.eq_iff_iff, inB_iff, inB_iff]
    exact ⟨fun ⟨r, hr, q⟩ => ⟨r, hperm.mem_iff.1 hr, q⟩, fun ⟨r, hr, q⟩ => ⟨r, hperm.mem_iff.2 hr, q⟩⟩
  rw [e, inB_app, partsL_in]
  cases q : inB zs n with
  | true =>
    obtain ⟨q1, q2, _⟩ := ok_in h q
    rw [decide_eq_true q1, decide_eq_true q2]; rfl
  | false =>
    show _ = (decide (1 ≤ n) && decide (n ≤ 1000000) && (false || inB more n))
    rw [Bool.false_or, Bool.false_or, Bool.and_comm]

/-! ### Gaps -/
/-- What stands for the parts so far: the gaps ahead of them, and the next number. -/
def gf (a : List (Int × Int) × Int) (r : Int × Int) : List (Int × Int) × Int := (if a.2 < r.1 then a.1 ++ [(a.2, wrap64 (r.1 - 1))] else a.1, wrap64 (r.2 + 1))
def gapsF (x : Int) (pre : List (Int × Int)) : List (Int × Int) × Int := pre.foldl gf ([], x)
theorem gapsF_snoc (x : Int) (pre : List (Int × Int)) (r : Int × Int) : gapsF x (pre ++ [r]) = gf (gapsF x pre) r := by simp [gapsF]
def gapsL : List (Int × Int) → Int → Int → List (Int × Int)
  | [], nx, top => if nx ≤ top then [(nx, top)] else []
  | r :: t, nx, top => (if nx < r.1 then [(nx, r.1 - 1)] else []) ++ gapsL t (r.2 + 1) top
theorem gapsL_cons (r : Int × Int) (t : List (Int × Int)) (nx top : Int) : gapsL (r :: t) nx top = (if nx < r.1 then [(nx, r.1 - 1)] else []) ++ gapsL t (r.2 + 1) top := rfl
theorem wrap_small {n : Int} (h1 : -9000000000000000000 ≤ n) (h2 : n ≤ 9000000000000000000) : wrap64 n = n := by
  unfold wrap64; omega
theorem gapsF_L (top : Int) : ∀ (P : List (Int × Int)) (l : List (Int × Int)) (nx : Int), (∀ r ∈ P, Valid r) →
    (P.foldl gf (l, nx)).1 ++ (if (P.foldl gf (l, nx)).2 ≤ top then [((P.foldl gf (l, nx)).2, top)] else []) = l ++ gapsL P nx top := by
  intro P
  induction P with
  | nil => intro l nx _; rfl
  | cons r t ih =>
    intro l nx hv
    obtain ⟨a, b, c⟩ := hv r (by simp)
    have e : gf (l, nx) r = (if nx < r.1 then l ++ [(nx, r.1 - 1)] else l, r.2 + 1) := by
      unfold gf
      rw [wrap_small (by omega) (by omega), wrap_small (by omega) (by omega)]
    rw [List.foldl_cons, e, ih _ _ fun s hs => hv s (by simp [hs])]
    rw [gapsL_cons]
    split
    · rw [List.append_assoc]
    · rw [List.nil_append]
theorem gapsL_ok (top : Int) (ht : top ≤ 1000000) : ∀ (P : List (Int × Int)) (nx : Int), 1 ≤ nx → Ok (nx - 2) P → (∀ r ∈ P, r.2 ≤ top) →
    Ok (nx - 2) (gapsL P nx top) ∧ ∀ n, inB (gapsL P nx top) n = ((decide (nx ≤ n) && decide (n ≤ top)) && !inB P n) := by
  intro P
  induction P with
  | nil =>
    intro nx h1 _ _
    unfold gapsL
    split
    · rename_i q
      exact ⟨⟨h1, ht, q, by show nx - 2 + 1 < nx; omega, trivial⟩, fun n => by rw [inB_cons, inB_nil, Bool.or_false]; simp⟩
    · rename_i q
      refine ⟨trivial, fun n => ?_⟩
      rw [inB_nil]
      have : (decide (nx ≤ n) && decide (n ≤ top)) = false := by
        rw [Bool.and_eq_false_iff, decide_eq_false_iff_not, decide_eq_false_iff_not]; omega
      rw [this]; rfl
  | cons r t ih =>
    intro nx h1 ⟨a, b, c, d, e⟩ hr
    have htop := hr r (by simp)
    obtain ⟨i1, i2⟩ := ih (r.2 + 1) (by omega) (ok_lower e (by omega)) fun s hs => hr s (by simp [hs])
    have far : ∀ n, n ≤ r.2 → inB t n = false := fun n hn => by
      cases q : inB t n with
      | false => rfl
      | true => have := ok_in e q; omega
    rw [gapsL_cons]
    split
    · rename_i q
      refine ⟨⟨h1, by show r.1 - 1 ≤ 1000000; omega, by show nx ≤ r.1 - 1; omega, by show nx - 2 + 1 < nx; omega, ok_lower i1 (by show r.1 - 1 ≤ r.2 + 1 - 2; omega)⟩, fun n => ?_⟩
      rw [List.singleton_append, inB_cons, i2 n, inB_cons, Bool.eq_iff_iff]
      by_cases hn : n ≤ r.2
      · rw [far n hn]
        simp
        omega
      · cases inB t n <;> simp <;> omega
    · rename_i q
      refine ⟨ok_lower i1 (by omega), fun n => ?_⟩
      rw [List.nil_append, i2 n, inB_cons, Bool.eq_iff_iff]
      by_cases hn : n ≤ r.2
      · rw [far n hn]
        simp
        omega
      · cases inB t n <;> simp <;> omega
/-- What Gaps makes. -/
theorem gaps_is {zs : List (Int × Int)} (h : Ok (-1) zs) (lo hi : Int) :
    (gapsF (ovl (lo, hi) (1, 1000000)).1 (partsL zs (ovl (lo, hi) (1, 1000000)))).1 ++ (if (gapsF (ovl (lo, hi) (1, 1000000)).1 (partsL zs (ovl (lo, hi) (1, 1000000)))).2 ≤ (ovl (lo, hi) (1, 1000000)).2 then [((gapsF (ovl (lo, hi) (1, 1000000)).1 (partsL zs (ovl (lo, hi) (1, 1000000)))).2, (ovl (lo, hi) (1, 1000000)).2)] else []) = gapsZ zs lo hi := by
  obtain ⟨o1, o2, o3, o4⟩ := ovl_bounds (lo, hi) (1, 1000000)
  obtain ⟨y, hy⟩ : ∃ y, y = ovl (lo, hi) (1, 1000000) := ⟨_, rfl⟩
  have hin := whole_in (lo, hi)
  rw [← hy] at o1 o2 o3 o4 hin ⊢
  simp only at o1 o2 o3 o4 hin
  have hok := partsL_ok y zs _ h
  have hok2 : Ok (y.1 - 2) (partsL zs y) := by
    cases q : partsL zs y with
    | nil => trivial
    | cons r t =>
      rw [q] at hok
      obtain ⟨a, b, c, d, e⟩ := hok
      exact ⟨a, b, c, by have := (partsL_mem y zs r (by rw [q]; simp)).1; omega, e⟩
  have hv : ∀ r ∈ partsL zs y, Valid r := fun r hr => by obtain ⟨a, b, c, _⟩ := ok_mem hok r hr; exact ⟨a, b, c⟩
  unfold gapsF
  rw [gapsF_L y.2 _ [] y.1 hv, List.nil_append]
  obtain ⟨i1, i2⟩ := gapsL_ok y.2 o4 (partsL zs y) y.1 o1 hok2 fun r hr => (partsL_mem y zs r hr).2.1
  have i3 : Ok (-1) (gapsL (partsL zs y) y.1 y.2) := ok_lower i1 (by omega)
  refine is_one ⟨i3, i2⟩ (gapsZ_is h lo hi) fun n => ?_
  unfold setOf
  rw [inB_cons, inB_nil, Bool.or_false, partsL_in]
  by_cases q1 : 1 ≤ n
  · by_cases q2 : n ≤ 1000000
    · rw [show (decide (lo ≤ n) && decide (n ≤ hi)) = _ from hin n q1 q2, decide_eq_true q1, decide_eq_true q2]
      cases (decide (y.1 ≤ n) && decide (n ≤ y.2)) <;> cases inB zs n <;> rfl
    · rw [decide_eq_false (by omega : ¬ n ≤ y.2), decide_eq_false q2]; simp
  · rw [decide_eq_false (by omega : ¬ y.1 ≤ n), decide_eq_false q1]; simp
end Go.Proofs.Ytdihbkhhhonlpaa
