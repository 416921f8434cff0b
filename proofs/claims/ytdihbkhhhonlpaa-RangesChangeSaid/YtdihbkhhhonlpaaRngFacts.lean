/- Sets of numbers as rows of ranges: what a set is, that its form is one, what the document's edges make of any ranges, and how many numbers there are. Nothing here speaks of the program. -/
import Derived.KernelRfl
namespace Go.Proofs.Ytdihbkhhhonlpaa

/-- Is a number in one of some ranges? -/
def inB (l : List (Int × Int)) (n : Int) : Bool := l.any fun r => decide (r.1 ≤ n) && decide (n ≤ r.2)
/-- A row in form, behind p. -/
def Ok : Int → List (Int × Int) → Prop
  | _, [] => True
  | p, r :: t => 1 ≤ r.1 ∧ r.2 ≤ 1000000 ∧ r.1 ≤ r.2 ∧ p + 1 < r.1 ∧ Ok r.2 t
/-- The set of the numbers of S, in form. -/
def Is (l : List (Int × Int)) (S : Int → Bool) : Prop := Ok (-1) l ∧ ∀ n, inB l n = S n

theorem inB_nil (n : Int) : inB [] n = false := rfl
theorem inB_cons (r : Int × Int) (l : List (Int × Int)) (n : Int) : inB (r :: l) n = (decide (r.1 ≤ n) && decide (n ≤ r.2) || inB l n) := by simp [inB]
theorem inB_app (a b : List (Int × Int)) (n : Int) : inB (a ++ b) n = (inB a n || inB b n) := by simp [inB]
theorem inB_iff (l : List (Int × Int)) (n : Int) : inB l n = true ↔ ∃ r ∈ l, r.1 ≤ n ∧ n ≤ r.2 := by simp [inB]
theorem inB_no (l : List (Int × Int)) (n : Int) : inB l n = false ↔ ∀ r ∈ l, ¬ (r.1 ≤ n ∧ n ≤ r.2) := by
  rw [← Bool.not_eq_true, inB_iff]
  constructor
  · intro h r hr hh; exact h ⟨r, hr, hh⟩
  · rintro h ⟨r, hr, hh⟩; exact h r hr hh

theorem ok_lower {p q : Int} {l : List (Int × Int)} (h : Ok p l) (hq : q ≤ p) : Ok q l := by
  cases l with
  | nil => trivial
  | cons r t => obtain ⟨h1, h2, h3, h4, h5⟩ := h; exact ⟨h1, h2, h3, by omega, h5⟩
theorem ok_mem : ∀ {l : List (Int × Int)} {p : Int}, Ok p l → ∀ r ∈ l, 1 ≤ r.1 ∧ r.2 ≤ 1000000 ∧ r.1 ≤ r.2 ∧ p + 1 < r.1 := by
  intro l
  induction l with
  | nil => intro p _ r hr; cases hr
  | cons x t ih =>
    intro p ⟨h1, h2, h3, h4, h5⟩ r hr
    rcases List.mem_cons.1 hr with rfl | hr
    · exact ⟨h1, h2, h3, h4⟩
    · obtain ⟨a, b, c, d⟩ := ih h5 r hr; exact ⟨a, b, c, by omega⟩
theorem ok_in {l : List (Int × Int)} {p : Int} (h : Ok p l) {n : Int} (hn : inB l n = true) : 1 ≤ n ∧ n ≤ 1000000 ∧ p + 1 < n := by
  obtain ⟨r, hr, h1, h2⟩ := (inB_iff l n).1 hn
  obtain ⟨a, b, c, d⟩ := ok_mem h r hr
  exact ⟨by omega, by omega, by omega⟩
/-- The form is one. -/
theorem ok_ext : ∀ (l1 l2 : List (Int × Int)) (p q : Int), Ok p l1 → Ok q l2 → (∀ n, inB l1 n = inB l2 n) → l1 = l2 := by
  intro l1
  induction l1 with
  | nil =>
    intro l2 p q _ h2 he
    cases l2 with
    | nil => rfl
    | cons r t =>
      obtain ⟨a, b, c, d, e⟩ := h2
      have := he r.1
      rw [inB_cons, inB_nil, decide_eq_true (by omega : r.1 ≤ r.1), decide_eq_true c] at this
      simp at this
  | cons r t ih =>
    intro l2 p q h1 h2 he
    cases l2 with
    | nil =>
      obtain ⟨a, b, c, d, e⟩ := h1
      have := he r.1
      rw [inB_cons, inB_nil, decide_eq_true (by omega : r.1 ≤ r.1), decide_eq_true c] at this
      simp at this
    | cons s u =>
      obtain ⟨a, b, c, d, e⟩ := h1
      obtain ⟨a', b', c', d', e'⟩ := h2
      have up : ∀ (r s : Int × Int) (t u : List (Int × Int)), r.1 ≤ r.2 → Ok s.2 u → (∀ n, inB (r :: t) n = inB (s :: u) n) → s.1 ≤ s.2 → s.1 ≤ r.1 := by
        intro r s t u h1 h2 h3 h4
        have := h3 r.1
        rw [inB_cons, decide_eq_true (by omega : r.1 ≤ r.1), decide_eq_true h1] at this
        have this := this.symm
        simp only [Bool.and_self, Bool.true_or] at this
        rw [inB_cons] at this
        rcases Bool.or_eq_true_iff.1 this with h | h
        · simp at h; omega
        · have := ok_in h2 h; omega
      have e1 : r.1 = s.1 := by
        have := up r s t u c e' he c'
        have := up s r u t c' e (fun n => (he n).symm) c
        omega
      have hi : ∀ (r s : Int × Int) (t u : List (Int × Int)), r.1 = s.1 → r.1 ≤ r.2 → Ok r.2 t → (∀ n, inB (r :: t) n = inB (s :: u) n) → s.2 ≤ r.2 := by
        intro r s t u h1 h2 h3 h4
        refine Int.not_lt.1 fun hlt => ?_
        have := h4 (r.2 + 1)
        rw [inB_cons, inB_cons, decide_eq_false (by omega : ¬ r.2 + 1 ≤ r.2), decide_eq_true (by omega : s.1 ≤ r.2 + 1), decide_eq_true (by omega : r.2 + 1 ≤ s.2)] at this
        simp only [Bool.and_false, Bool.false_or, Bool.and_self, Bool.true_or] at this
        have := ok_in h3 this
        omega
      have e2 : r.2 = s.2 := by
        have := hi r s t u e1 c e he
        have := hi s r u t e1.symm c' e' (fun n => (he n).symm)
        omega
      have er : r = s := Prod.ext e1 e2
      subst er
      refine congrArg _ (ih u r.2 r.2 e e' fun n => ?_)
      have := he n
      rw [inB_cons, inB_cons] at this
      by_cases hn : n ≤ r.2
      · have f1 : inB t n = false := by
          cases q : inB t n with
          | false => rfl
          | true => have := ok_in e q; omega
        have f2 : inB u n = false := by
          cases q : inB u n with
          | false => rfl
          | true => have := ok_in e' q; omega
        rw [f1, f2]
      · rw [decide_eq_false hn] at this
        simpa using this
theorem is_one {l1 l2 : List (Int × Int)} {S T : Int → Bool} (h1 : Is l1 S) (h2 : Is l2 T) (h : ∀ n, S n = T n) : l1 = l2 :=
  ok_ext l1 l2 _ _ h1.1 h2.1 fun n => by rw [h1.2, h2.2, h]

/-! ### The row is built from the left -/
/-- One piece more, at the end: it goes on the last one, or stands by itself. -/
def stepOf (out : List (Int × Int)) (x hi : Int) : List (Int × Int) :=
  match out.getLast? with
  | none => [(x, hi)]
  | some r => if r.2 + 1 = x then out.dropLast ++ [(r.1, hi)] else out ++ [(x, hi)]
theorem stepOf_nil (x hi : Int) : stepOf [] x hi = [(x, hi)] := rfl
theorem stepOf_on (l : List (Int × Int)) (r : Int × Int) (x hi : Int) (h : r.2 + 1 = x) : stepOf (l ++ [r]) x hi = l ++ [(r.1, hi)] := by simp [stepOf, h]
theorem stepOf_new (l : List (Int × Int)) (r : Int × Int) (x hi : Int) (h : ¬ r.2 + 1 = x) : stepOf (l ++ [r]) x hi = l ++ [r] ++ [(x, hi)] := by simp [stepOf, h]
theorem stepOf_len (out : List (Int × Int)) (x hi : Int) : (stepOf out x hi).length ≤ out.length + 1 := by
  rcases List.eq_nil_or_concat out with rfl | ⟨l, r, rfl⟩
  · simp [stepOf_nil]
  · rw [List.concat_eq_append]
    by_cases h : r.2 + 1 = x
    · rw [stepOf_on l r x hi h]; simp
    · rw [stepOf_new l r x hi h]; simp
theorem ok_snoc : ∀ {l : List (Int × Int)} {p : Int} {r : Int × Int}, Ok p l → 1 ≤ r.1 → r.2 ≤ 1000000 → r.1 ≤ r.2 → p + 1 < r.1 → (∀ s ∈ l, s.2 + 1 < r.1) → Ok p (l ++ [r]) := by
  intro l
  induction l with
  | nil => intro p r _ h1 h2 h3 h4 _; exact ⟨h1, h2, h3, h4, trivial⟩
  | cons x t ih =>
    intro p r ⟨a, b, c, d, e⟩ h1 h2 h3 h4 h5
    exact ⟨a, b, c, d, ih e h1 h2 h3 (h5 x (by simp)) (fun s hs => h5 s (by simp [hs]))⟩
theorem ok_init : ∀ {l : List (Int × Int)} {p : Int} {r : Int × Int}, Ok p (l ++ [r]) → Ok p l ∧ 1 ≤ r.1 ∧ r.2 ≤ 1000000 ∧ r.1 ≤ r.2 ∧ p + 1 < r.1 ∧ ∀ s ∈ l, s.2 + 1 < r.1 := by
  intro l
  induction l with
  | nil => intro p r ⟨a, b, c, d, _⟩; exact ⟨trivial, a, b, c, d, fun s hs => by cases hs⟩
  | cons x t ih =>
    intro p r ⟨a, b, c, d, e⟩
    obtain ⟨h0, h1, h2, h3, h4, h5⟩ := ih e
    refine ⟨⟨a, b, c, d, h0⟩, h1, h2, h3, by omega, fun s hs => ?_⟩
    rcases List.mem_cons.1 hs with rfl | hs
    · exact h4
    · exact h5 s hs
/-- What the row holds once all below x is looked at. -/
def Upto (out : List (Int × Int)) (x : Int) (S : Int → Bool) : Prop := Ok (-1) out ∧ ∀ n, inB out n = (decide (n < x) && S n)
theorem upto_skip {out : List (Int × Int)} {x hi : Int} {S : Int → Bool} (h : Upto out x S) (hx : x ≤ hi + 1) (hs : ∀ n, x ≤ n → n ≤ hi → S n = false) : Upto out (hi + 1) S := by
  refine ⟨h.1, fun n => ?_⟩
  rw [h.2 n]
  by_cases h1 : n < x
  · rw [decide_eq_true h1, decide_eq_true (by omega : n < hi + 1)]
  · rw [decide_eq_false h1]
    by_cases h2 : n < hi + 1
    · rw [decide_eq_true h2, hs n (by omega) (by omega)]; rfl
    · rw [decide_eq_false h2]
theorem upto_step {out : List (Int × Int)} {x hi : Int} {S : Int → Bool} (h : Upto out x S) (h1 : 1 ≤ x) (hx : x ≤ hi) (hh : hi ≤ 1000000) (hs : ∀ n, x ≤ n → n ≤ hi → S n = true) : Upto (stepOf out x hi) (hi + 1) S := by
  have below : ∀ r ∈ out, r.2 < x := by
    intro r hr
    obtain ⟨a, b, c, d⟩ := ok_mem h.1 r hr
    have : inB out r.2 = true := (inB_iff out r.2).2 ⟨r, hr, c, Int.le_refl _⟩
    rw [h.2 r.2] at this
    simp at this
    exact this.1
  have key : ∀ n, (inB out n || (decide (x ≤ n) && decide (n ≤ hi))) = (decide (n < hi + 1) && S n) := by
    intro n
    rw [h.2 n]
    by_cases h1 : n < x
    · rw [decide_eq_true h1, decide_eq_true (by omega : n < hi + 1), decide_eq_false (by omega : ¬ x ≤ n)]; simp
    · rw [decide_eq_false h1, decide_eq_true (by omega : x ≤ n)]
      by_cases h2 : n < hi + 1
      · rw [decide_eq_true h2, hs n (by omega) (by omega), decide_eq_true (by omega : n ≤ hi)]; rfl
      · rw [decide_eq_false h2, decide_eq_false (by omega : ¬ n ≤ hi)]; rfl
  rcases List.eq_nil_or_concat out with rfl | ⟨l, r, rfl⟩
  · rw [stepOf_nil]
    refine ⟨⟨h1, hh, hx, by show -1 + 1 < x; omega, trivial⟩, fun n => ?_⟩
    rw [← key n, inB_cons, inB_nil]; simp
  · rw [List.concat_eq_append] at *
    obtain ⟨k0, k1, k2, k3, k4, k5⟩ := ok_init h.1
    have hr := below r (by simp)
    by_cases hj : r.2 + 1 = x
    · rw [stepOf_on l r x hi hj]
      refine ⟨ok_snoc k0 k1 hh (by show r.1 ≤ hi; omega) k4 k5, fun n => ?_⟩
      rw [← key n, inB_app, inB_app, inB_cons, inB_cons, inB_nil, Bool.or_false, Bool.or_false, Bool.or_assoc]
      congr 1
      by_cases q1 : r.1 ≤ n
      · by_cases q2 : n ≤ r.2
        · simp only [decide_eq_true q1, decide_eq_true q2, decide_eq_true (by omega : n ≤ hi)]; rfl
        · simp only [decide_eq_true q1, decide_eq_false q2, decide_eq_true (by omega : x ≤ n)]; rfl
      · simp only [decide_eq_false q1, decide_eq_false (by omega : ¬ x ≤ n)]; rfl
    · rw [stepOf_new l r x hi hj]
      refine ⟨ok_snoc h.1 h1 hh hx (by show -1 + 1 < x; omega) (fun s hs => ?_), fun n => ?_⟩
      · rcases List.mem_append.1 hs with hs | hs
        · have := k5 s hs; show s.2 + 1 < x; omega
        · obtain rfl : s = r := by simpa using hs
          show s.2 + 1 < x; omega
      · rw [← key n, inB_app (l ++ [r]), inB_cons, inB_nil, Bool.or_false]

/-! ### The edges -/
/-- A number in its place, once. -/
def putL : List Int → Int → List Int
  | [], n => [n]
  | x :: t, n => if x < n then x :: putL t n else if x = n then x :: t else n :: x :: t
theorem putL_mem (n m : Int) : ∀ l : List Int, m ∈ putL l n ↔ m = n ∨ m ∈ l := by
  intro l
  induction l with
  | nil => simp [putL]
  | cons x t ih =>
    unfold putL
    split
    · rw [List.mem_cons, ih, List.mem_cons]
      constructor
      · rintro (h | h | h) <;> simp [h]
      · rintro (h | h | h) <;> simp [h]
    · split
      · rename_i h; subst h; simp
      · simp
theorem putL_len (n : Int) : ∀ l : List Int, (putL l n).length ≤ l.length + 1 := by
  intro l
  induction l with
  | nil => simp [putL]
  | cons x t ih =>
    unfold putL
    split
    · simp; omega
    · split <;> simp
theorem putL_asc (n : Int) : ∀ l : List Int, l.Pairwise (· < ·) → (putL l n).Pairwise (· < ·) := by
  intro l
  induction l with
  | nil => intro _; simp [putL]
  | cons x t ih =>
    intro h
    obtain ⟨h1, h2⟩ := List.pairwise_cons.1 h
    unfold putL
    split
    · rename_i hx
      refine List.pairwise_cons.2 ⟨fun m hm => ?_, ih h2⟩
      rcases (putL_mem n m t).1 hm with rfl | hm
      · exact hx
      · exact h1 m hm
    · split
      · exact h
      · refine List.pairwise_cons.2 ⟨fun m hm => ?_, h⟩
        rcases List.mem_cons.1 hm with rfl | hm
        · omega
        · have := h1 m hm; omega
theorem putL_at (n : Int) : ∀ (l : List Int) (k : Nat), k ≤ l.length → (∀ m, m < k → l.getD m 0 < n) → (k < l.length → ¬ l.getD k 0 < n) → putL l n = if k < l.length ∧ l.getD k 0 = n then l else l.take k ++ [n] ++ l.drop k := by
  intro l
  induction l with
  | nil => intro k hk _ _; obtain rfl : k = 0 := by simpa using hk
           rfl
  | cons x t ih =>
    intro k hk h1 h2
    cases k with
    | zero =>
      have h0 : ¬ x < n := by simpa using h2 (by simp)
      simp only [putL, h0, if_false]
      by_cases e : x = n
      · simp [e]
      · simp [e]
    | succ k =>
      have h0 : x < n := by simpa using h1 0 (by omega)
      have := ih k (by simpa using hk) (fun m hm => by simpa using h1 (m + 1) (by omega)) (fun hk => by simpa using h2 (by simpa using hk))
      simp only [putL, h0, if_true, this]
      by_cases e : k < t.length ∧ t.getD k 0 = n
      · rw [if_pos e, if_pos (by simpa using e)]
      · rw [if_neg e, if_neg (by simpa using e)]; simp
/-- What one range puts there. -/
def edge1 (out : List Int) (r : Int × Int) : List Int := if decide (1 < r.1) && decide (r.1 ≤ 1000000) then putL out r.1 else out
def edge2 (out : List Int) (r : Int × Int) : List Int := if decide (1 ≤ r.2) && decide (r.2 < 1000000) then putL out (r.2 + 1) else out
def edgesL (l : List (Int × Int)) : List Int := l.foldl (fun out r => edge2 (edge1 out r) r) [1]
theorem edgesL_snoc (l : List (Int × Int)) (r : Int × Int) : edgesL (l ++ [r]) = edge2 (edge1 (edgesL l) r) r := by simp [edgesL]
structure Edges (e : List Int) (k : Nat) : Prop where
  asc : e.Pairwise (· < ·)
  one : (1 : Int) ∈ e
  lo : ∀ m ∈ e, 1 ≤ m ∧ m ≤ 1000000
  len : e.length ≤ k
theorem Edges.put {e : List Int} {k : Nat} (h : Edges e k) {n : Int} (h1 : 1 ≤ n) (h2 : n ≤ 1000000) : Edges (putL e n) (k + 1) :=
  ⟨putL_asc n e h.asc, (putL_mem n 1 e).2 (Or.inr h.one), fun m hm => by
    rcases (putL_mem n m e).1 hm with rfl | hm
    · exact ⟨h1, h2⟩
    · exact h.lo m hm, by have := putL_len n e; have := h.len; omega⟩
theorem Edges.more {e : List Int} {k : Nat} (h : Edges e k) : Edges e (k + 1) := ⟨h.asc, h.one, h.lo, by have := h.len; omega⟩
theorem Edges.step1 {e : List Int} {k : Nat} (h : Edges e k) (r : Int × Int) : Edges (edge1 e r) (k + 1) := by
  unfold edge1
  split
  · rename_i q; simp at q; exact h.put (by omega) (by omega)
  · exact h.more
theorem Edges.step2 {e : List Int} {k : Nat} (h : Edges e k) (r : Int × Int) : Edges (edge2 e r) (k + 1) := by
  unfold edge2
  split
  · rename_i q; simp at q; exact h.put (by omega) (by omega)
  · exact h.more
theorem edge1_old {e : List Int} {m : Int} (r : Int × Int) (h : m ∈ e) : m ∈ edge1 e r := by
  unfold edge1; split
  · exact (putL_mem _ _ _).2 (Or.inr h)
  · exact h
theorem edge2_old {e : List Int} {m : Int} (r : Int × Int) (h : m ∈ e) : m ∈ edge2 e r := by
  unfold edge2; split
  · exact (putL_mem _ _ _).2 (Or.inr h)
  · exact h
/-- Each place at which one of the ranges begins, or behind which one ends, is there. -/
def Cov (e : List Int) (l : List (Int × Int)) : Prop := ∀ r ∈ l, (1 < r.1 → r.1 ≤ 1000000 → r.1 ∈ e) ∧ (1 ≤ r.2 → r.2 < 1000000 → r.2 + 1 ∈ e)
theorem edges_fold : ∀ (l : List (Int × Int)) (e : List Int) (k : Nat), Edges e k → Edges (l.foldl (fun out r => edge2 (edge1 out r) r) e) (k + 2 * l.length) ∧ (∀ m ∈ e, m ∈ l.foldl (fun out r => edge2 (edge1 out r) r) e) ∧ Cov (l.foldl (fun out r => edge2 (edge1 out r) r) e) l := by
  intro l
  induction l with
  | nil => intro e k h; exact ⟨h, fun m hm => hm, fun r hr => by cases hr⟩
  | cons r t ih =>
    intro e k h
    obtain ⟨a, b, c⟩ := ih (edge2 (edge1 e r) r) (k + 1 + 1) ((h.step1 r).step2 r)
    refine ⟨by rw [List.length_cons, show k + 2 * (t.length + 1) = k + 1 + 1 + 2 * t.length by omega]; exact a, fun m hm => b m (edge2_old r (edge1_old r hm)), fun s hs => ?_⟩
    rcases List.mem_cons.1 hs with rfl | hs
    · refine ⟨fun h1 h2 => b _ (edge2_old s ?_), fun h1 h2 => b _ ?_⟩
      · unfold edge1; rw [if_pos (by simp [h1, h2])]; exact (putL_mem _ _ _).2 (Or.inl rfl)
      · unfold edge2; rw [if_pos (by simp [h1, h2])]; exact (putL_mem _ _ _).2 (Or.inl rfl)
    · exact c s hs
theorem edges_one : Edges [1] 1 := ⟨by simp, by simp, fun m hm => by simp at hm; omega, by simp⟩
theorem edgesL_ok (l : List (Int × Int)) : Edges (edgesL l) (1 + 2 * l.length) := (edges_fold l [1] 1 edges_one).1
theorem edgesL_cov (l : List (Int × Int)) : Cov (edgesL l) l := (edges_fold l [1] 1 edges_one).2.2
theorem Cov.left {e : List Int} {a b : List (Int × Int)} (h : Cov e (a ++ b)) : Cov e a := fun r hr => h r (by simp [hr])
theorem Cov.right {e : List Int} {a b : List (Int × Int)} (h : Cov e (a ++ b)) : Cov e b := fun r hr => h r (by simp [hr])

/-- The last number of the piece that begins at edge i. -/
def hiAt (e : List Int) (i : Nat) : Int := if i + 1 < e.length then e.getD (i + 1) 0 - 1 else 1000000
/-- Where the piece i begins; behind the last one: behind all. -/
def loAt (e : List Int) (i : Nat) : Int := if i < e.length then e.getD i 0 else 1000001
theorem loAt_succ (e : List Int) (i : Nat) : loAt e (i + 1) = hiAt e i + 1 := by
  unfold loAt hiAt; split <;> omega
theorem getD_mem {e : List Int} {i : Nat} (h : i < e.length) : e.getD i 0 ∈ e := by
  rw [List.getD_eq_getElem?_getD, List.getElem?_eq_getElem h]; exact List.getElem_mem h
theorem asc_lt {e : List Int} (h : e.Pairwise (· < ·)) {i j : Nat} (hij : i < j) (hj : j < e.length) : e.getD i 0 < e.getD j 0 := by
  have := List.pairwise_iff_getElem.1 h i j (by omega) hj hij
  simpa [List.getD, hj, (by omega : i < e.length)] using this
theorem Edges.gap {e : List Int} {k : Nat} (h : Edges e k) {i : Nat} (hi : i < e.length) {m : Int} (hm : m ∈ e) (hlt : e.getD i 0 < m) : hiAt e i < m := by
  obtain ⟨j, hj, rfl⟩ := List.getElem_of_mem hm
  have ej : e[j] = e.getD j 0 := by simp [List.getD, hj]
  rw [ej] at hlt ⊢
  have hij : i < j := by
    rcases Nat.lt_trichotomy i j with q | q | q
    · exact q
    · subst q; omega
    · have := asc_lt h.asc q hi; omega
  unfold hiAt
  rw [if_pos (by omega)]
  rcases Nat.lt_or_ge (i + 1) j with q | q
  · have := asc_lt h.asc q hj; omega
  · obtain rfl : j = i + 1 := by omega
    omega
theorem Edges.hi {e : List Int} {k : Nat} (h : Edges e k) {i : Nat} (hi : i < e.length) : e.getD i 0 ≤ hiAt e i ∧ hiAt e i ≤ 1000000 := by
  unfold hiAt
  split
  · rename_i q
    have := asc_lt h.asc (show i < i + 1 by omega) q
    have := (h.lo _ (getD_mem q)).2
    omega
  · have := (h.lo _ (getD_mem hi)).2
    omega
theorem Edges.same {e : List Int} {k : Nat} (h : Edges e k) {l : List (Int × Int)} (hc : Cov e l) {i : Nat} (hi : i < e.length) {n : Int} (h1 : e.getD i 0 ≤ n) (h2 : n ≤ hiAt e i) : inB l n = inB l (e.getD i 0) := by
  have hx := h.lo _ (getD_mem hi)
  have hh := (h.hi hi).2
  have key : ∀ r ∈ l, (r.1 ≤ n ∧ n ≤ r.2) ↔ (r.1 ≤ e.getD i 0 ∧ e.getD i 0 ≤ r.2) := by
    intro r hr
    obtain ⟨c1, c2⟩ := hc r hr
    constructor
    · rintro ⟨a, b⟩
      refine ⟨Int.not_lt.1 fun hlt => ?_, by omega⟩
      have := h.gap hi (c1 (by omega) (by omega)) hlt
      omega
    · rintro ⟨a, b⟩
      refine ⟨by omega, Int.not_lt.1 fun hlt => ?_⟩
      have := h.gap hi (c2 (by omega) (by omega)) (by omega)
      omega
  cases q : inB l (e.getD i 0) with
  | true =>
    obtain ⟨r, hr, hh⟩ := (inB_iff _ _).1 q
    exact (inB_iff _ _).2 ⟨r, hr, (key r hr).2 hh⟩
  | false => exact (inB_no _ _).2 fun r hr hh => (inB_no _ _).1 q r hr ((key r hr).1 hh)

/-- What the document makes of the first i pieces. -/
def ofAt (a b : List (Int × Int)) (e : List Int) : Nat → List (Int × Int)
  | 0 => []
  | i + 1 => if inB a (e.getD i 0) && !inB b (e.getD i 0) then stepOf (ofAt a b e i) (e.getD i 0) (hiAt e i) else ofAt a b e i
theorem ofAt_len (a b : List (Int × Int)) (e : List Int) : ∀ i, (ofAt a b e i).length ≤ i := by
  intro i
  induction i with
  | zero => simp [ofAt]
  | succ i ih =>
    unfold ofAt
    split
    · have := stepOf_len (ofAt a b e i) (e.getD i 0) (hiAt e i); omega
    · omega
/-- The numbers that are in one of a, and in none of b. -/
def setOf (a b : List (Int × Int)) (n : Int) : Bool := decide (1 ≤ n) && decide (n ≤ 1000000) && (inB a n && !inB b n)
theorem of_upto {a b : List (Int × Int)} {e : List Int} {k : Nat} (h : Edges e k) (ha : Cov e a) (hb : Cov e b) : ∀ i, i ≤ e.length → Upto (ofAt a b e i) (loAt e i) (setOf a b) := by
  intro i
  induction i with
  | zero =>
    intro _
    have h1 : loAt e 0 = 1 := by
      have h0 : 0 < e.length := List.length_pos_of_mem h.one
      unfold loAt
      rw [if_pos h0]
      have := (h.lo _ (getD_mem h0)).1
      obtain ⟨j, hj, hj1⟩ := List.getElem_of_mem h.one
      have ej : e[j] = e.getD j 0 := by simp [List.getD, hj]
      rcases Nat.eq_zero_or_pos j with q | q
      · subst q; omega
      · have := asc_lt h.asc q hj; omega
    rw [h1]
    refine ⟨trivial, fun n => ?_⟩
    show false = _
    by_cases q : n < 1
    · simp [setOf, decide_eq_false (by omega : ¬ 1 ≤ n)]
    · simp [q]
  | succ i ih =>
    intro hi
    have hu := ih (by omega)
    have hlo : loAt e i = e.getD i 0 := by unfold loAt; rw [if_pos (by omega)]
    rw [hlo] at hu
    rw [loAt_succ]
    have hx := h.lo _ (getD_mem (show i < e.length by omega))
    obtain ⟨q1, q2⟩ := h.hi (show i < e.length by omega)
    have hS : ∀ n, e.getD i 0 ≤ n → n ≤ hiAt e i → setOf a b n = (inB a (e.getD i 0) && !inB b (e.getD i 0)) := by
      intro n h1 h2
      unfold setOf
      rw [h.same ha (by omega) h1 h2, h.same hb (by omega) h1 h2, decide_eq_true (by omega : 1 ≤ n), decide_eq_true (by omega : n ≤ 1000000)]
      simp
    unfold ofAt
    split
    · rename_i hq
      exact upto_step hu hx.1 q1 q2 fun n h1 h2 => (hS n h1 h2).trans hq
    · rename_i hq
      exact upto_skip hu (by omega) fun n h1 h2 => (hS n h1 h2).trans (by simpa using hq)
/-- The document's set of a without b. -/
def ofL (a b : List (Int × Int)) : List (Int × Int) := ofAt a b (edgesL (a ++ b)) (edgesL (a ++ b)).length
theorem ofL_is (a b : List (Int × Int)) : Is (ofL a b) (setOf a b) := by
  have h := of_upto (edgesL_ok (a ++ b)) (edgesL_cov (a ++ b)).left (edgesL_cov (a ++ b)).right _ (Nat.le_refl _)
  refine ⟨h.1, fun n => (h.2 n).trans ?_⟩
  have : loAt (edgesL (a ++ b)) (edgesL (a ++ b)).length = 1000001 := by unfold loAt; rw [if_neg (by omega)]
  rw [this]
  by_cases q : n < 1000001
  · rw [decide_eq_true q]; rfl
  · simp [setOf, q, decide_eq_false (by omega : ¬ n ≤ 1000000)]
theorem ofL_len (a b : List (Int × Int)) : (ofL a b).length ≤ 1 + 2 * (a.length + b.length) := by
  have h1 := ofAt_len a b (edgesL (a ++ b)) (edgesL (a ++ b)).length
  have h2 := (edgesL_ok (a ++ b)).len
  rw [List.length_append] at h2
  exact Nat.le_trans h1 h2

/-! ### How many -/
def countL (l : List (Int × Int)) : Int := l.foldl (fun n r => n + r.2 + 1 - r.1) 0
theorem countL_snoc (l : List (Int × Int)) (r : Int × Int) : countL (l ++ [r]) = countL l + r.2 + 1 - r.1 := by simp [countL]
/-- How many numbers of S there are from 1 to k. -/
def cnt (S : Int → Bool) : Nat → Int
  | 0 => 0
  | k + 1 => cnt S k + if S ((k : Int) + 1) then 1 else 0
theorem cnt_mono {S T : Int → Bool} (h : ∀ n, S n = true → T n = true) : ∀ k, cnt S k ≤ cnt T k := by
  intro k
  induction k with
  | zero => exact Int.le_refl _
  | succ k ih =>
    unfold cnt
    cases q : S ((k : Int) + 1) with
    | true => rw [h _ q]; simpa using ih
    | false =>
      simp only [Bool.false_eq_true, if_false]
      split <;> omega
theorem cnt_no {S : Int → Bool} : ∀ k : Nat, (∀ n, 1 ≤ n → n ≤ (k : Int) → S n = false) → cnt S k = 0 := by
  intro k
  induction k with
  | zero => intro _; rfl
  | succ k ih =>
    intro h
    unfold cnt
    rw [ih fun n h1 h2 => h n h1 (by omega), h _ (by omega) (by omega)]
    simp
theorem cnt_or {S T : Int → Bool} (h : ∀ n, ¬ (S n = true ∧ T n = true)) : ∀ k, cnt (fun n => S n || T n) k = cnt S k + cnt T k := by
  intro k
  induction k with
  | zero => rfl
  | succ k ih =>
    unfold cnt
    rw [ih]
    have := h ((k : Int) + 1)
    cases q : S ((k : Int) + 1) <;> cases q2 : T ((k : Int) + 1) <;> simp_all <;> omega
theorem cnt_piece (lo hi : Int) (h1 : 1 ≤ lo) : ∀ k : Nat, cnt (fun n => decide (lo ≤ n) && decide (n ≤ hi)) k = if lo ≤ (k : Int) ∧ lo ≤ hi then (if hi ≤ (k : Int) then hi + 1 - lo else (k : Int) + 1 - lo) else 0 := by
  intro k
  induction k with
  | zero => unfold cnt; rw [if_neg (by omega)]
  | succ k ih =>
    unfold cnt
    rw [ih]
    by_cases a : lo ≤ (k : Int) + 1
    · by_cases b : (k : Int) + 1 ≤ hi
      · simp only [decide_eq_true a, decide_eq_true b, Bool.and_self, if_true]
        split <;> split <;> (try split) <;> (try split) <;> omega
      · simp only [decide_eq_false b, Bool.and_false, Bool.false_eq_true, if_false]
        split <;> split <;> (try split) <;> (try split) <;> omega
    · simp only [decide_eq_false a, Bool.false_and, Bool.false_eq_true, if_false]
      split <;> split <;> (try split) <;> (try split) <;> omega
theorem countL_fold : ∀ (l : List (Int × Int)) (c : Int), l.foldl (fun n r => n + r.2 + 1 - r.1) c = c + countL l := by
  intro l
  induction l with
  | nil => intro c; simp [countL]
  | cons r t ih =>
    intro c
    unfold countL
    rw [List.foldl_cons, List.foldl_cons, ih, ih (0 + r.2 + 1 - r.1)]
    omega
theorem countL_cnt : ∀ (l : List (Int × Int)) (p : Int), Ok p l → countL l = cnt (inB l) 1000000 := by
  intro l
  induction l with
  | nil => intro p _; exact (cnt_no _ fun n _ _ => rfl).symm
  | cons r t ih =>
    intro p h
    obtain ⟨a, b, c, d, e⟩ := h
    have e1 : countL (r :: t) = (r.2 + 1 - r.1) + countL t := by
      show (r :: t).foldl _ _ = _
      rw [List.foldl_cons, countL_fold]; omega
    have e2 : (inB (r :: t)) = fun n => (decide (r.1 ≤ n) && decide (n ≤ r.2)) || inB t n := funext fun n => inB_cons r t n
    rw [e1, e2, cnt_or (S := fun n => decide (r.1 ≤ n) && decide (n ≤ r.2)) (T := inB t), ← ih r.2 e, cnt_piece r.1 r.2 a]
    · rw [if_pos ⟨by show r.1 ≤ 1000000; omega, c⟩, if_pos (show r.2 ≤ ((1000000 : Nat) : Int) from b)]
    · rintro n ⟨h1, h2⟩
      have := ok_in e h2
      simp at h1
      omega
theorem count_le {l1 l2 : List (Int × Int)} (h1 : Ok (-1) l1) (h2 : Ok (-1) l2) (h : ∀ n, inB l1 n = true → inB l2 n = true) : countL l1 ≤ countL l2 := by
  rw [countL_cnt l1 _ h1, countL_cnt l2 _ h2]
  exact cnt_mono h _
end Go.Proofs.Ytdihbkhhhonlpaa
