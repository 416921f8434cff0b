/- The contracts of the document's Unrow and SameInts. -/
import Derived.Test.YtegbldkkggpjcaaDoorNumRefB
namespace Go.Proofs.YtegbldkkggpjcaaDoor
open Go.RowKit Go.Sort

attribute [local go_sem ↓] Go.wp_at_zero Go.wp_at_succ

theorem items_len (k : Nat) {t : List UInt8} {l : List Nat} {u : Nat} (h : items k t = (l, u, 0)) : l.length = k := (items_least k h).1
theorem items_parts {k : Nat} {t : List UInt8} {l : List Nat} {u : Nat} (h : items (k + 1) t = (l, u, 0)) : ∃ x u0 l0 c0, parse t = (x, u0, 0) ∧ items k (t.drop u0) = (l0, c0, 0) ∧ l = x :: l0 ∧ u = u0 + c0 := by
  obtain ⟨⟨x, u0, e⟩, hp⟩ : ∃ r, parse t = r := ⟨_, rfl⟩
  unfold items at h
  rw [hp] at h
  simp only at h
  by_cases h1 : e = 0
  · subst h1
    obtain ⟨⟨l0, c0, f⟩, hq⟩ : ∃ r, items k (t.drop u0) = r := ⟨_, rfl⟩
    rw [if_pos rfl, hq] at h
    simp only at h
    by_cases h2 : f = 0
    · subst h2
      rw [if_pos rfl] at h
      simp only [Prod.mk.injEq] at h
      exact ⟨x, u0, l0, c0, hp, hq, h.1.symm, h.2.1.symm⟩
    · rw [if_neg h2] at h
      simp only [Prod.mk.injEq] at h
      exact absurd h.2.2 h2
  · rw [if_neg h1] at h
    simp only [Prod.mk.injEq] at h
    exact absurd h.2.2 h1
theorem items_mk {k : Nat} {t : List UInt8} {x u0 c0 : Nat} {l0 : List Nat} (hp : parse t = (x, u0, 0)) (hq : items k (t.drop u0) = (l0, c0, 0)) : items (k + 1) t = (x :: l0, u0 + c0, 0) := by
  show (if _ then (if _ then _ else _) else _) = _
  rw [hp]; simp only; rw [hq]; rfl
theorem items_next : ∀ (k : Nat) {t : List UInt8} {l : List Nat} {c x u : Nat}, items k t = (l, c, 0) → parse (t.drop c) = (x, u, 0) → items (k + 1) t = (l ++ [x], c + u, 0) := by
  intro k
  induction k with
  | zero =>
    intro t l c x u h hp
    simp only [items, Prod.mk.injEq] at h
    obtain ⟨rfl, rfl, _⟩ := h
    rw [List.drop_zero] at hp
    have := items_mk (k := 0) hp (l0 := []) (c0 := 0) rfl
    rw [this, Nat.add_zero, Nat.zero_add]; rfl
  | succ k ih =>
    intro t l c x u h hp
    obtain ⟨x0, u0, l0, c0, h1, h2, rfl, rfl⟩ := items_parts h
    have := ih h2 (x := x) (u := u) (by rw [List.drop_drop]; exact hp)
    rw [items_mk h1 this, Nat.add_assoc]; rfl
theorem items_stop {k : Nat} {t : List UInt8} {x u e : Nat} (hp : parse t = (x, u, e + 1)) : items (k + 1) t = ([], 0, e + 1) := by
  show (if _ then (if _ then _ else _) else _) = _
  rw [hp]; simp only; rw [if_neg (by omega)]
theorem items_stop2 {k : Nat} {t : List UInt8} {x u e : Nat} (hp : parse t = (x, u, 0)) (hq : items k (t.drop u) = ([], 0, e + 1)) : items (k + 1) t = ([], 0, e + 1) := by
  show (if _ then (if _ then _ else _) else _) = _
  rw [hp]; simp only; rw [if_pos trivial, hq]; simp only; rw [if_neg (by omega)]
theorem items_fail : ∀ (k : Nat) {n : Nat} {t : List UInt8} {l : List Nat} {c x u e : Nat}, items k t = (l, c, 0) → parse (t.drop c) = (x, u, e + 1) → k < n → items n t = ([], 0, e + 1) := by
  intro k
  induction k with
  | zero =>
    intro n t l c x u e h hp hn
    simp only [items, Prod.mk.injEq] at h
    obtain ⟨rfl, rfl, _⟩ := h
    rw [List.drop_zero] at hp
    obtain ⟨m, rfl⟩ : ∃ m, n = m + 1 := ⟨n - 1, by omega⟩
    exact items_stop hp
  | succ k ih =>
    intro n t l c x u e h hp hn
    obtain ⟨x0, u0, l0, c0, h1, h2, rfl, rfl⟩ := items_parts h
    obtain ⟨m, rfl⟩ : ∃ m, n = m + 1 := ⟨n - 1, by omega⟩
    exact items_stop2 h1 (ih h2 (x := x) (u := u) (by rw [List.drop_drop]; exact hp) (by omega))

/-- A row that is got at a place. -/
def unrowZ (s : ByteArray) (a most : Int) : List Int × Int × Int :=
  if (getZ s a).2.2 ≠ 0 then ([], 0, (getZ s a).2.2)
  else if 1000 < (getZ s a).1 ∨ (most < (getZ s a).1 ∧ 0 < (getZ s a).1) then ([], 0, 3)
  else if (items (getZ s a).1.toNat (s.data.toList.drop (getZ s a).2.1.toNat)).2.2 = 0 then ((items (getZ s a).1.toNat (s.data.toList.drop (getZ s a).2.1.toNat)).1.map Int.ofNat, (getZ s a).2.1 + ((items (getZ s a).1.toNat (s.data.toList.drop (getZ s a).2.1.toNat)).2.1 : Nat), 0)
  else ([], 0, ((items (getZ s a).1.toNat (s.data.toList.drop (getZ s a).2.1.toNat)).2.2 : Nat))
theorem getZ_zero {s : ByteArray} {a : Int} (h : (getZ s a).2.2 = 0) : ∃ m n u : Nat, a = m ∧ m ≤ s.size ∧ parse (s.data.toList.drop m) = (n, u, 0) ∧ getZ s a = ((n : Int), (m : Int) + u, 0) ∧ m + u ≤ s.size := by
  unfold getZ at h
  by_cases q : a < 0 ∨ (s.size : Int) < a
  · rw [if_pos q] at h; simp at h
  · obtain ⟨m, rfl⟩ : ∃ m : Nat, a = m := ⟨a.toNat, by omega⟩
    rw [if_neg q, Int.toNat_natCast] at h
    obtain ⟨⟨n, u, e⟩, hp⟩ : ∃ r, parse (s.data.toList.drop m) = r := ⟨_, rfl⟩
    rw [hp] at h
    simp only at h
    by_cases q2 : e = 0
    · subst q2
      have hle := (parse_least hp).2.1
      rw [List.length_drop, list_len] at hle
      exact ⟨m, n, u, rfl, by omega, hp, getZ_ok (by omega) hp, by omega⟩
    · rw [if_neg q2] at h
      simp only at h
      omega
theorem unrow_ret {v : Value} {a b : Int} {l : List Int} {p : List Int × Int × Int} (h : p = (l, a, b)) : Ending.returned (Value.tuple #[v, .int .i64 a, .int .i64 b]) = .returned (.tuple #[v, .int .i64 p.2.1, .int .i64 p.2.2]) := by rw [h]
theorem wpList_append_int {ops : Array Oper} {rest : List Oper} {o : Oper} {a : Act} {w : World} {Q : Exit → Act → World → Prop} (hgd : o.guard = none) (s x : Operand)
    (ho : o.op = .call { callee := .builtin .append, args := #[s, x], argTypes := #[27, 27] })
    (base : Nat) (v : Value) (l1 : List Int) (hs : a.eval s = v) (hown : OwnI w base v l1) (sa : Option Addr) (m c : Nat) (l2 : List Int) (hx : a.eval x = .slice sa m c) (hr : ReadsI w sa m l2)
    (hm : l1.length + m ≤ 10000) (hbase : base ≤ w.heap.size)
    (h : ∀ v' w', OwnI w' base v' (l1 ++ l2) → w.grownBy w' v.ownBlock → RowKit.Below base w w' → wpList Tryd.prog ops Q rest (a.put o.dst v') w') : wpList Tryd.prog ops Q (o :: rest) a w := by
  refine wpList_plain hgd fun K hK => ?_
  obtain ⟨v', w', hrun, h1, h2, h3⟩ := run_append_own_int w 27 o.type Tryd.underlying27 base v l1 hown sa m c l2 hr hm hbase
  unfold Oper.wp execOp
  simp only [ho, resolve, invoke, builtin, Sem.run_bind, Sem.run_pure, Result.andThen_ok, List.map_toArray, List.map_cons, List.map_nil, hs, hx, hrun]
  exact hK _ _ (h v' w' h1 h2 h3)

end Go.Proofs.YtegbldkkggpjcaaDoor
