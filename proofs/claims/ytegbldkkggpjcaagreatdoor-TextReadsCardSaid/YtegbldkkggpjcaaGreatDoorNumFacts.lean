/- Numbers as bytes: what a number's bytes are, what is got at the beginning of bytes, rows; that what was put is got, and that what is got was put so. Nothing here speaks of the program. -/
import Derived.KernelRfl
namespace Go.Proofs.YtegbldkkggpjcaaGreatDoor

/-- The bytes of a number, the highest first; of 0: none. -/
def bed (n : Nat) : List UInt8 := if _h : n = 0 then [] else bed (n / 256) ++ [UInt8.ofNat (n % 256)]
termination_by n
decreasing_by omega
theorem bed_zero : bed 0 = [] := by unfold bed; rfl
theorem bed_step (n : Nat) (h : 0 < n) : bed n = bed (n / 256) ++ [UInt8.ofNat (n % 256)] := by
  conv => lhs; unfold bed
  rw [dif_neg (by omega)]
def val (l : List UInt8) : Nat := l.foldl (fun n x => 256 * n + x.toNat) 0
theorem val_nil : val [] = 0 := rfl
theorem val_snoc (l : List UInt8) (x : UInt8) : val (l ++ [x]) = 256 * val l + x.toNat := by simp [val]
theorem byte_lt (x : UInt8) : x.toNat < 256 := UInt8.toNat_lt x
theorem byte_of (n : Nat) (h : n < 256) : (UInt8.ofNat n).toNat = n := by simp; omega
theorem of_byte (x : UInt8) : UInt8.ofNat x.toNat = x := by simp
theorem val_bed : ∀ (n : Nat), val (bed n) = n := by
  intro n
  induction n using Nat.strongRecOn with
  | ind n ih =>
    by_cases h : n = 0
    · subst h; rw [bed_zero]; rfl
    · rw [bed_step n (by omega), val_snoc, ih (n / 256) (by omega), byte_of _ (by omega)]; omega
/-- No byte ahead that is 0. -/
def Lead (l : List UInt8) : Prop := ∀ x r, l = x :: r → x.toNat ≠ 0
theorem lead_init {l : List UInt8} {x : UInt8} (h : Lead (l ++ [x])) : Lead l := by
  intro y r e
  subst e
  exact h y (r ++ [x]) rfl
theorem val_pos : ∀ {l : List UInt8}, Lead l → l ≠ [] → 0 < val l := by
  intro l
  induction h : l.length generalizing l with
  | zero => intro _ h1; exact absurd (List.length_eq_zero_iff.1 h) h1
  | succ k ih =>
    intro hl hn
    rcases List.eq_nil_or_concat l with rfl | ⟨m, x, rfl⟩
    · exact absurd rfl hn
    · rw [List.concat_eq_append] at *
      rw [val_snoc]
      by_cases hm : m = []
      · subst hm
        have := hl x [] rfl
        rw [val_nil]; omega
      · have := ih (by simpa using h) (lead_init hl) hm
        omega
theorem bed_val : ∀ (l : List UInt8), Lead l → bed (val l) = l := by
  intro l
  induction h : l.length generalizing l with
  | zero => intro _; obtain rfl := List.length_eq_zero_iff.1 h; exact bed_zero
  | succ k ih =>
    intro hl
    rcases List.eq_nil_or_concat l with rfl | ⟨m, x, rfl⟩
    · exact bed_zero
    · rw [List.concat_eq_append] at *
      have hp := val_pos hl (by simp)
      have hx := byte_lt x
      rw [val_snoc] at hp ⊢
      rw [bed_step _ hp, show (256 * val m + x.toNat) / 256 = val m by omega, show (256 * val m + x.toNat) % 256 = x.toNat by omega, of_byte, ih m (by simpa using h) (lead_init hl)]
theorem bed_lead (n : Nat) : Lead (bed n) := by
  induction n using Nat.strongRecOn with
  | ind n ih =>
    by_cases h : n = 0
    · subst h; rw [bed_zero]; intro x r e; cases e
    · rw [bed_step n (by omega)]
      intro x r e
      by_cases h2 : n / 256 = 0
      · rw [h2, bed_zero] at e
        simp at e
        rw [← e.1, byte_of _ (by omega)]; omega
      · have := ih (n / 256) (by omega)
        cases hb : bed (n / 256) with
        | nil => have := val_bed (n / 256); rw [hb] at this; exact absurd this.symm h2
        | cons y t =>
          rw [hb] at e
          have e1 : y = x := by simpa using congrArg (fun l => l.head?) e
          subst e1
          exact this y t hb
theorem val_lt : ∀ (l : List UInt8), val l < 256 ^ l.length := by
  intro l
  induction h : l.length generalizing l with
  | zero => obtain rfl := List.length_eq_zero_iff.1 h; decide
  | succ k ih =>
    rcases List.eq_nil_or_concat l with rfl | ⟨m, x, rfl⟩
    · simp at h
    · rw [List.concat_eq_append] at *
      have := ih m (by simpa using h)
      have := byte_lt x
      rw [val_snoc, Nat.pow_succ]; omega
theorem bed_len (k : Nat) : ∀ (n : Nat), n < 256 ^ k → (bed n).length ≤ k := by
  induction k with
  | zero => intro n h; obtain rfl : n = 0 := by simpa using h
            rw [bed_zero]; exact Nat.le_refl _
  | succ k ih =>
    intro n h
    by_cases h0 : n = 0
    · subst h0; rw [bed_zero]; exact Nat.zero_le _
    · rw [bed_step n (by omega), List.length_append]
      have := ih (n / 256) (by rw [Nat.pow_succ] at h; omega)
      simp; omega
theorem bed_le {n x : Nat} (h : n ≤ x) : (bed n).length ≤ (bed x).length :=
  bed_len _ n (Nat.lt_of_le_of_lt h (by have := val_lt (bed x); rwa [val_bed] at this))
theorem bed_pos {n : Nat} (h : 0 < n) : 0 < (bed n).length := by
  rw [bed_step n h, List.length_append]; simp
/-- The first byte's share. -/
theorem val_cons (x : UInt8) (l : List UInt8) : val (x :: l) = x.toNat * 256 ^ l.length + val l := by
  induction h : l.length generalizing l with
  | zero => obtain rfl := List.length_eq_zero_iff.1 h; simp [val]
  | succ k ih =>
    rcases List.eq_nil_or_concat l with rfl | ⟨m, y, rfl⟩
    · simp at h
    · rw [List.concat_eq_append] at *
      have := ih m (by simpa using h)
      rw [← List.cons_append, val_snoc, val_snoc, this, Nat.pow_succ]
      rw [Nat.mul_add, Nat.add_assoc, Nat.mul_comm (256 ^ k) 256, ← Nat.mul_assoc, ← Nat.mul_assoc, Nat.mul_comm x.toNat 256]

/-- The bytes of a number. -/
def putL (n : Nat) : List UInt8 := if n < 128 then [UInt8.ofNat n] else UInt8.ofNat (128 + (bed n).length) :: bed n
theorem putL_small {n : Nat} (h : n < 128) : putL n = [UInt8.ofNat n] := if_pos h
theorem putL_great {n : Nat} (h : ¬ n < 128) : putL n = UInt8.ofNat (128 + (bed n).length) :: bed n := if_neg h
theorem putL_pos (n : Nat) : 0 < (putL n).length := by unfold putL; split <;> simp
theorem putL_len (n : Nat) (h : n < 9223372036854775808) : (putL n).length ≤ 9 := by
  unfold putL; split
  · simp
  · have := bed_len 8 n (by omega); simp; omega
theorem putL_mono {n x : Nat} (h : n ≤ x) : (putL n).length ≤ (putL x).length := by
  unfold putL
  split <;> split
  · exact Nat.le_refl _
  · simp
  · omega
  · have := bed_le h; simpa using this
/-- What is got at the beginning of bytes: the number, how many bytes it takes, or an error. -/
def parse : List UInt8 → Nat × Nat × Nat
  | [] => (0, 0, 4)
  | b :: r =>
    if b.toNat < 128 then (b.toNat, 1, 0)
    else if b.toNat = 128 ∨ 136 < b.toNat then (0, 0, 5)
    else if r.length < b.toNat - 128 then (0, 0, 4)
    else if (r.getD 0 0).toNat = 0 ∨ (b.toNat = 129 ∧ (r.getD 0 0).toNat < 128) then (0, 0, 5)
    else if b.toNat = 136 ∧ 127 < (r.getD 0 0).toNat then (0, 0, 3)
    else (val (r.take (b.toNat - 128)), 1 + (b.toNat - 128), 0)
theorem parse_put (n : Nat) (h : n < 9223372036854775808) (rest : List UInt8) : parse (putL n ++ rest) = (n, (putL n).length, 0) := by
  by_cases q : n < 128
  · rw [putL_small q]
    show (if _ then _ else _) = _
    rw [byte_of n (by omega), if_pos q]; rfl
  · rw [putL_great q]
    have hl := bed_len 8 n (by omega)
    have hp := bed_pos (show 0 < n by omega)
    have hv := val_bed n
    have hd := bed_lead n
    cases hb : bed n with
    | nil => rw [hb] at hp; exact absurd hp (by decide)
    | cons x t =>
      rw [hb] at hl hv hd
      have hx := hd x t rfl
      have hvc := val_cons x t
      have hvt := val_lt t
      rw [hv] at hvc
      have hbl := byte_lt x
      simp only [List.length_cons] at hl
      rw [List.cons_append]
      show (if _ then _ else if _ then _ else if _ then _ else if _ then _ else if _ then _ else _) = _
      have eb : (UInt8.ofNat (128 + (x :: t).length)).toNat = 129 + t.length := by rw [byte_of _ (by simp; omega)]; simp; omega
      rw [eb, if_neg (by omega), if_neg (by omega), if_neg (by simp; omega)]
      have e0 : ((x :: t ++ rest).getD 0 0) = x := rfl
      rw [e0, if_neg, if_neg, show 129 + t.length - 128 = (x :: t).length by simp; omega, List.take_left, hv]
      · simp; omega
      · rintro ⟨h1, h2⟩
        rw [show t.length = 7 by omega] at hvc
        omega
      · rintro (h1 | ⟨h1, h2⟩)
        · exact hx h1
        · have : t = [] := List.length_eq_zero_iff.1 (by omega)
          subst this
          rw [val_nil] at hvc
          simp at hvc
          omega
theorem parse_least {t : List UInt8} {x u : Nat} (h : parse t = (x, u, 0)) : t.take u = putL x ∧ u ≤ t.length ∧ 0 < u ∧ x < 9223372036854775808 := by
  cases t with
  | nil => cases h
  | cons b r =>
    have hb := byte_lt b
    unfold parse at h
    simp only at h
    by_cases h1 : b.toNat < 128
    · rw [if_pos h1] at h
      simp only [Prod.mk.injEq] at h
      obtain ⟨rfl, rfl, _⟩ := h
      refine ⟨?_, by simp, by decide, by omega⟩
      rw [putL_small h1, of_byte]; rfl
    rw [if_neg h1] at h
    by_cases h2 : b.toNat = 128 ∨ 136 < b.toNat
    · rw [if_pos h2] at h; simp at h
    rw [if_neg h2] at h
    by_cases h3 : r.length < b.toNat - 128
    · rw [if_pos h3] at h; simp at h
    rw [if_neg h3] at h
    by_cases h4 : (r.getD 0 0).toNat = 0 ∨ (b.toNat = 129 ∧ (r.getD 0 0).toNat < 128)
    · rw [if_pos h4] at h; simp at h
    rw [if_neg h4] at h
    by_cases h5 : b.toNat = 136 ∧ 127 < (r.getD 0 0).toNat
    · rw [if_pos h5] at h; simp at h
    rw [if_neg h5] at h
    simp only [Prod.mk.injEq] at h
    obtain ⟨rfl, rfl, _⟩ := h
    obtain ⟨k, hk⟩ : ∃ k, b.toNat - 128 = k + 1 := ⟨b.toNat - 129, by omega⟩
    cases r with
    | nil => simp at h3; omega
    | cons y s =>
      rw [hk] at h3 ⊢
      have e0 : ((y :: s).getD 0 0) = y := rfl
      rw [e0] at h4 h5
      have hy : y.toNat ≠ 0 := fun q => h4 (Or.inl q)
      have hl : ((y :: s).take (k + 1)).length = k + 1 := by rw [List.length_take]; simp at h3 ⊢; omega
      have hbv := bed_val ((y :: s).take (k + 1)) (by intro z q e; simp at e; rw [← e.1]; exact hy)
      have hvl := val_lt ((y :: s).take (k + 1))
      have hvc : val ((y :: s).take (k + 1)) = y.toNat * 256 ^ k + val (s.take k) := by
        rw [List.take_succ_cons, val_cons, List.length_take]; simp at h3; rw [Nat.min_eq_left (by omega)]
      have hvs := val_lt (s.take k)
      rw [List.length_take, Nat.min_eq_left (by simp at h3; omega)] at hvs
      rw [hl] at hvl
      have hby := byte_lt y
      have hlt : val ((y :: s).take (k + 1)) < 9223372036854775808 := by
        by_cases h8 : k + 1 = 8
        · have : y.toNat ≤ 127 := Nat.not_lt.1 fun q => h5 ⟨by omega, q⟩
          obtain rfl : k = 7 := by omega
          omega
        · have : 256 ^ (k + 1) ≤ 256 ^ 7 := Nat.pow_le_pow_right (by decide) (by omega)
          omega
      have hge : ¬ val ((y :: s).take (k + 1)) < 128 := by
        by_cases hk0 : k = 0
        · subst hk0
          have : ¬ y.toNat < 128 := fun q => h4 (Or.inr ⟨by omega, q⟩)
          rw [hvc]; simp; omega
        · have : 256 ^ 1 ≤ 256 ^ k := Nat.pow_le_pow_right (by decide) (by omega)
          have : 1 * 256 ^ k ≤ y.toNat * 256 ^ k := Nat.mul_le_mul_right _ (by omega)
          omega
      refine ⟨?_, by simp at h3 ⊢; omega, by omega, hlt⟩
      rw [putL_great hge, hbv, hl, show 128 + (k + 1) = b.toNat by omega, of_byte, show 1 + (k + 1) = (k + 1) + 1 by omega, List.take_succ_cons]

/-! ### Rows -/
def rowL (l : List Nat) : List UInt8 := putL l.length ++ l.flatMap putL
/-- So many numbers, one behind the other. -/
def items : Nat → List UInt8 → List Nat × Nat × Nat
  | 0, _ => ([], 0, 0)
  | k + 1, t => if (parse t).2.2 = 0 then (if (items k (t.drop (parse t).2.1)).2.2 = 0 then ((parse t).1 :: (items k (t.drop (parse t).2.1)).1, (parse t).2.1 + (items k (t.drop (parse t).2.1)).2.1, 0) else ([], 0, (items k (t.drop (parse t).2.1)).2.2)) else ([], 0, (parse t).2.2)
theorem items_put : ∀ (l : List Nat) (rest : List UInt8), (∀ x ∈ l, x < 9223372036854775808) → items l.length (l.flatMap putL ++ rest) = (l, (l.flatMap putL).length, 0) := by
  intro l
  induction l with
  | nil => intro rest _; rfl
  | cons x t ih =>
    intro rest h
    have hp := parse_put x (h x (by simp)) (t.flatMap putL ++ rest)
    have hi := ih rest (fun y hy => h y (by simp [hy]))
    rw [List.flatMap_cons, List.append_assoc, List.length_cons]
    unfold items
    rw [hp]
    simp only [List.drop_left, hi, if_true, List.length_append]
theorem items_least : ∀ (k : Nat) {t : List UInt8} {l : List Nat} {u : Nat}, items k t = (l, u, 0) → l.length = k ∧ t.take u = l.flatMap putL ∧ u ≤ t.length ∧ ∀ x ∈ l, x < 9223372036854775808 := by
  intro k
  induction k with
  | zero =>
    intro t l u h
    simp only [items, Prod.mk.injEq] at h
    obtain ⟨rfl, rfl, _⟩ := h
    exact ⟨rfl, by simp, Nat.zero_le _, fun x hx => by cases hx⟩
  | succ k ih =>
    intro t l u h
    unfold items at h
    by_cases h1 : (parse t).2.2 = 0
    · rw [if_pos h1] at h
      by_cases h2 : (items k (t.drop (parse t).2.1)).2.2 = 0
      · rw [if_pos h2] at h
        simp only [Prod.mk.injEq] at h
        obtain ⟨rfl, rfl, _⟩ := h
        obtain ⟨a, b, c, d⟩ := ih (t := t.drop (parse t).2.1) (l := (items k (t.drop (parse t).2.1)).1) (u := (items k (t.drop (parse t).2.1)).2.1) (by rw [← h2])
        obtain ⟨a', b', c', d'⟩ := parse_least (t := t) (x := (parse t).1) (u := (parse t).2.1) (by rw [← h1])
        rw [List.length_drop] at c
        refine ⟨by simp [a], ?_, by omega, fun x hx => ?_⟩
        · rw [List.flatMap_cons, List.take_add, a', b]
        · rcases List.mem_cons.1 hx with rfl | hx
          · exact d'
          · exact d x hx
      · rw [if_neg h2] at h
        simp only [Prod.mk.injEq] at h
        exact absurd h.2.2 h2
    · rw [if_neg h1] at h
      simp only [Prod.mk.injEq] at h
      exact absurd h.2.2 h1
end Go.Proofs.YtegbldkkggpjcaaGreatDoor
