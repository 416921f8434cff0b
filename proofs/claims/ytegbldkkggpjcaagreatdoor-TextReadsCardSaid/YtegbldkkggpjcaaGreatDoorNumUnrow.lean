/- The contracts of the document's Unrow and SameInts. -/
import Derived.Test.YtegbldkkggpjcaaGreatDoorNumRefB
namespace Go.Proofs.YtegbldkkggpjcaaGreatDoor
open Go.RowKit Go.Sort

attribute [local go_sem ↓] Go.wp_at_zero Go.wp_at_succ

theorem items_len (k : Nat) {t : List UInt8} {l : List Nat} {u : Nat} (h : items k t = (l, u, 0)) : l.length = k := (items_least k h).1
theorem items_parts {k : Nat} {t : List UInt8} {l : List Nat} {u : Nat} (h : items (k + 1) t = (l, u, 0)) : ∃ x u0 l0 c0, parse t = (x, u0, 0) ∧ items k (t.drop u0) = (l0, c0, 0) ∧ l = x :: l0 ∧ u = u0 + c0 := by
  obtain ⟨⟨x, u0, e⟩, hp⟩ : ∃ r, parse t = r := ⟨_, rfl⟩
  unfold items at h
  rw [hp] at h
  simp only at h
  by_cases h1 : e = 0
  · subst h1
    obtain ⟨⟨l0, c0, f⟩, hq⟩ : ∃ r, items k (t.drop u0) = r := ⟨_, rfl⟩
    rw [if_pos rfl, hq] at h
    simp only at h
    by_cases h2 : f = 0
    · subst h2
      rw [if_pos rfl] at h
      simp only [Prod.mk.injEq] at h
      exact ⟨x, u0, l0, c0, hp, hq, h.1.symm, h.2.1.symm⟩
    · rw [if_neg h2] at h
      simp only [Prod.mk.injEq] at h
      exact absurd h.2.2 h2
  · rw [if_neg h1] at h
    simp only [Prod.mk.injEq] at h
    exact absurd h.2.2 h1
theorem items_mk {k : Nat} {t : List UInt8} {x u0 c0 : Nat} {l0 : List Nat} (hp : parse t = (x, u0, 0)) (hq : items k (t.drop u0) = (l0, c0, 0)) : items (k + 1) t = (x :: l0, u0 + c0, 0) := by
  show (if _ then (if _ then _ else _) else _) = _
  rw [hp]; simp only; rw [hq]; rfl
theorem items_next : ∀ (k : Nat) {t : List UInt8} {l : List Nat} {c x u : Nat}, items k t = (l, c, 0) → parse (t.drop c) = (x, u, 0) → items (k + 1) t = (l ++ [x], c + u, 0) := by
  intro k
  induction k with
  | zero =>
    intro t l c x u h hp
    simp only [items, Prod.mk.injEq] at h
    obtain ⟨rfl, rfl, _⟩ := h
    rw [List.drop_zero] at hp
    have := items_mk (k := 0) hp (l0 := []) (c0 := 0) rfl
    rw [this, Nat.add_zero, Nat.zero_add]; rfl
  | succ k ih =>
    intro t l c x u h hp
    obtain ⟨x0, u0, l0, c0, h1, h2, rfl, rfl⟩ := items_parts h
    have := ih h2 (x := x) (u := u) (by rw [List.drop_drop]; exact hp)
    rw [items_mk h1 this, Nat.add_assoc]; rfl
theorem items_stop {k : Nat} {t : List UInt8} {x u e : Nat} (hp : parse t = (x, u, e + 1)) : items (k + 1) t = ([], 0, e + 1) := by
  show (if _ then (if _ then _ else _) else _) = _
  rw [hp]; simp only; rw [if_neg (by omega)]
theorem items_stop2 {k : Nat} {t : List UInt8} {x u e : Nat} (hp : parse t = (x, u, 0)) (hq : items k (t.drop u) = ([], 0, e + 1)) : items (k + 1) t = ([], 0, e + 1) := by
  show (if _ then (if _ then _ else _) else _) = _
  rw [hp]; simp only; rw [if_pos trivial, hq]; simp only; rw [if_neg (by omega)]
theorem items_fail : ∀ (k : Nat) {n : Nat} {t : List UInt8} {l : List Nat} {c x u e : Nat}, items k t = (l, c, 0) → parse (t.drop c) = (x, u, e + 1) → k < n → items n t = ([], 0, e + 1) := by
  intro k
  induction k with
  | zero =>
    intro n t l c x u e h hp hn
    simp only [items, Prod.mk.injEq] at h
    obtain ⟨rfl, rfl, _⟩ := h
    rw [List.drop_zero] at hp
    obtain ⟨m, rfl⟩ : ∃ m, n = m + 1 := ⟨n - 1, by omega⟩
    exact items_stop hp
  | succ k ih =>
    intro n t l c x u e h hp hn
    obtain ⟨x0, u0, l0, c0, h1, h2, rfl, rfl⟩ := items_parts h
    obtain ⟨m, rfl⟩ : ∃ m, n = m + 1 := ⟨n - 1, by omega⟩
    exact items_stop2 h1 (ih h2 (x := x) (u := u) (by rw [List.drop_drop]; exact hp) (by omega))

/-- A row that is got at a place. -/
def unrowZ (s : ByteArray) (a most : Int) : List Int × Int × Int :=
  if (getZ s a).2.2 ≠ 0 then ([], 0, (getZ s a).2.2)
  else if 1000 < (getZ s a).1 ∨ (most < (getZ s a).1 ∧ 0 < (getZ s a).1) then ([], 0, 3)
  else if (items (getZ s a).1.toNat (s.data.toList.drop (getZ s a).2.1.toNat)).2.2 = 0 then ((items (getZ s a).1.toNat (s.data.toList.drop (getZ s a).2.1.toNat)).1.map Int.ofNat, (getZ s a).2.1 + ((items (getZ s a).1.toNat (s.data.toList.drop (getZ s a).2.1.toNat)).2.1 : Nat), 0)
  else ([], 0, ((items (getZ s a).1.toNat (s.data.toList.drop (getZ s a).2.1.toNat)).2.2 : Nat))
theorem getZ_zero {s : ByteArray} {a : Int} (h : (getZ s a).2.2 = 0) : ∃ m n u : Nat, a = m ∧ m ≤ s.size ∧ parse (s.data.toList.drop m) = (n, u, 0) ∧ getZ s a = ((n : Int), (m : Int) + u, 0) ∧ m + u ≤ s.size := by
  unfold getZ at h
  by_cases q : a < 0 ∨ (s.size : Int) < a
  · rw [if_pos q] at h; simp at h
  · obtain ⟨m, rfl⟩ : ∃ m : Nat, a = m := ⟨a.toNat, by omega⟩
    rw [if_neg q, Int.toNat_natCast] at h
    obtain ⟨⟨n, u, e⟩, hp⟩ : ∃ r, parse (s.data.toList.drop m) = r := ⟨_, rfl⟩
    rw [hp] at h
    simp only at h
    by_cases q2 : e = 0
    · subst q2
      have hle := (parse_least hp).2.1
      rw [List.length_drop, list_len] at hle
      exact ⟨m, n, u, rfl, by omega, hp, getZ_ok (by omega) hp, by omega⟩
    · rw [if_neg q2] at h
      simp only at h
      omega
theorem unrow_ret {v : Value} {a b : Int} {l : List Int} {p : List Int × Int × Int} (h : p = (l, a, b)) : Ending.returned (Value.tuple #[v, .int .i64 a, .int .i64 b]) = .returned (.tuple #[v, .int .i64 p.2.1, .int .i64 p.2.2]) := by rw [h]
theorem wpList_append_int {ops : Array Oper} {rest : List Oper} {o : Oper} {a : Act} {w : World} {Q : Exit → Act → World → Prop} (hgd : o.guard = none) (s x : Operand)
    (ho : o.op = .call { callee := .builtin .append, args := #[s, x], argTypes := #[31, 31] })
    (base : Nat) (v : Value) (l1 : List Int) (hs : a.eval s = v) (hown : OwnI w base v l1) (sa : Option Addr) (m c : Nat) (l2 : List Int) (hx : a.eval x = .slice sa m c) (hr : ReadsI w sa m l2)
    (hm : l1.length + m ≤ 10000) (hbase : base ≤ w.heap.size)
    (h : ∀ v' w', OwnI w' base v' (l1 ++ l2) → w.grownBy w' v.ownBlock → RowKit.Below base w w' → wpList Tryz.prog ops Q rest (a.put o.dst v') w') : wpList Tryz.prog ops Q (o :: rest) a w := by
  refine wpList_plain hgd fun K hK => ?_
  obtain ⟨v', w', hrun, h1, h2, h3⟩ := run_append_own_int w 31 o.type Tryz.underlying31 base v l1 hown sa m c l2 hr hm hbase
  unfold Oper.wp execOp
  simp only [ho, resolve, invoke, builtin, Sem.run_bind, Sem.run_pure, Result.andThen_ok, List.map_toArray, List.map_cons, List.map_nil, hs, hx, hrun]
  exact hK _ _ (h v' w' h1 h2 h3)

set_option maxRecDepth 20000 in
set_option maxHeartbeats 3200000 in
theorem runrow_any (s : ByteArray) (a most : Int) (hs : s.size ≤ 100000) (w : World) :
    Calls Tryz.prog 58 #[.string s, .int .i64 a, .int .i64 most] w fun e w' => ∃ v, e = .returned (.tuple #[v, .int .i64 (unrowZ s a most).2.1, .int .i64 (unrowZ s a most).2.2]) ∧ OwnI w' w.heap.size v (unrowZ s a most).1 ∧ RowKit.Below w.heap.size w w' := by
  have HS := Lib.hid hs
  by_cases q0 : (getZ s a).2.2 = 0
  · obtain ⟨m, n, u, rfl, hm, hp, hg, hmu⟩ := getZ_zero q0
    have hn9 := (parse_least hp).2.2.2
    obtain ⟨t0, ht0⟩ : ∃ t0 : Nat, t0 = m + u := ⟨_, rfl⟩
    have hg2 : getZ s (m : Int) = ((n : Int), (t0 : Int), 0) := by rw [hg, ht0]; simp
    have HG := Lib.hid hg2
    obtain ⟨T, hT⟩ : ∃ T, T = s.data.toList.drop t0 := ⟨_, rfl⟩
    obtain ⟨a, ha⟩ : ∃ a : Int, a = (m : Int) := ⟨_, rfl⟩
    rw [← ha] at HG ⊢
    have HT := Lib.hid hT
    have ht1 : t0 ≤ s.size := by omega
    have hun : ∀ (h : ¬ (1000 < (n : Int) ∨ (most < (n : Int) ∧ 0 < (n : Int)))), unrowZ s a most = if (items n T).2.2 = 0 then ((items n T).1.map Int.ofNat, (t0 : Int) + ((items n T).2.1 : Nat), 0) else ([], 0, (((items n T).2.2 : Nat) : Int)) := fun h => by
      unfold unrowZ
      rw [HG.out]
      simp only
      rw [if_neg (by simp), if_neg h, Int.toNat_natCast, Int.toNat_natCast, ← HT.out]
    have hbg : ∀ (h : 1000 < (n : Int) ∨ (most < (n : Int) ∧ 0 < (n : Int))), unrowZ s a most = ([], 0, 3) := fun h => by
      unfold unrowZ
      rw [HG.out]
      simp only
      rw [if_neg (by simp), if_pos h]
    clear q0 hp hg hg2 hmu hm hT ha ht0
    by_cases q1 : 1000 < n
    · have d1 : decide ((n : Int) > 1000) = true := decide_eq_true (by omega)
      have HU := Lib.hid (hbg (Or.inl (by omega)))
      clear q1 hun hbg
      go_enter Tryz.func58, Tryz.ntmps58
      go_wp2_with (go_at_call 56; (with_reducible refine (rget_any s a HS.out _).mono ?_); rintro e w1 ⟨rfl, hw⟩; rw [HG.out]; obtain rfl := hw.symm)
      go_ret3
      exact ⟨_, unrow_ret HU.out, by rw [HU.out]; exact ownI_nil _ _, Below.refl _ _⟩
    have d1 : decide ((n : Int) > 1000) = false := decide_eq_false (by omega)
    by_cases q2 : most < (n : Int)
    · have d2 : decide ((n : Int) > most) = true := decide_eq_true (by omega)
      by_cases q3 : 0 < n
      · have d3 : decide ((n : Int) > 0) = true := decide_eq_true (by omega)
        have HU := Lib.hid (hbg (Or.inr ⟨q2, by omega⟩))
        clear q1 q2 hun hbg
        go_enter Tryz.func58, Tryz.ntmps58
        go_wp2_with (go_at_call 56; (with_reducible refine (rget_any s a HS.out _).mono ?_); rintro e w1 ⟨rfl, hw⟩; rw [HG.out]; obtain rfl := hw.symm)
        go_ret3
        exact ⟨_, unrow_ret HU.out, by rw [HU.out]; exact ownI_nil _ _, Below.refl _ _⟩
      · have d3 : decide (0 < n) = false := decide_eq_false (by omega)
        have HUN := Lib.hid (hun (by omega))
        have hn1 : n ≤ 1000 := by omega
        clear q1 q2 q3 hun hbg
        go_enter Tryz.func58, Tryz.ntmps58
        go_wp2_with (go_at_call 56; (with_reducible refine (rget_any s a HS.out _).mono ?_); rintro e w1 ⟨rfl, hw⟩; rw [HG.out]; obtain rfl := hw.symm)
        go_loopg [10, 12, 13] n (fun gg p o i wr => ∃ (k c : Nat) (xs : List Nat), k + gg = n ∧ i = .int .i64 k ∧ p = .int .i64 ((t0 : Int) + (c : Int)) ∧ t0 + c ≤ s.size ∧ Hid (OwnI wr w.heap.size o (xs.map Int.ofNat)) ∧ Hid (items k T = (xs, c, 0)) ∧ Hid (RowKit.Below w.heap.size w wr))
        case atStart => exact ⟨0, 0, [], by omega, rfl, by go_num, by omega, Lib.hid (ownI_nil _ _), Lib.hid rfl, Lib.hid (Below.refl _ _)⟩
        case round =>
          obtain ⟨k, c, xs, hk, rfl, rfl, hc, HO, HI, HB⟩ := hrel
          by_cases hlt : k < n
          · have hdr : s.data.toList.drop (t0 + c) = T.drop c := by rw [HT.out, List.drop_drop]
            have hxl := items_len k HI.out
            obtain ⟨⟨x, u, e⟩, hp⟩ : ∃ r, parse (T.drop c) = r := ⟨_, rfl⟩
            cases e with
            | zero =>
              have HN := Lib.hid (items_next k HI.out hp)
              have hle := (parse_least hp).2.1
              rw [← hdr, List.length_drop, list_len] at hle
              rw [← hdr] at hp
              have hg := getZ_ok hc hp
              have e1 : ((t0 + c : Nat) : Int) = (t0 : Int) + (c : Int) := by omega
              rw [e1] at hg
              have HGG := Lib.hid hg
              clear hg hp hdr e1
              go_wp2_with (first
                | (go_at_call 56; (with_reducible refine (rget_any s ((t0 : Int) + (c : Int)) HS.out _).mono ?_); rintro e w2 ⟨rfl, hw⟩; rw [HGG.out]; obtain rfl := hw.symm)
                | (at_builtin; refine wpList_append_int rfl _ _ rfl w.heap.size _ (xs.map Int.ofNat) rfl ?c0 _ 1 1 [(x : Int)] rfl ?c1 ?c2 ?c3 ?_))
              case c0 => exact HO.out.alloc _
              case c1 => exact one_int _ _
              case c2 => rw [List.length_map, hxl]; omega
              case c3 => exact Nat.le_trans HB.out.size (by simp)
              intro v7 w7 ho7 _ hb7
              have HB7 := Lib.hid ((HB.out.alloc HB.out.size _).trans hb7)
              have HO7 := Lib.hid ho7
              clear ho7 hb7
              go_wp2_with fail
              go_roundg (gk - 1)
              case measure => omega
              case rel => exact ⟨k + 1, c + u, xs ++ [x], by omega, by go_num, by go_num, by omega, Lib.hid (by rw [List.map_append]; exact HO7.out), HN, HB7⟩
            | succ e =>
              have HF := Lib.hid (items_fail k HI.out hp hlt)
              rw [← hdr] at hp
              have hg := getZ_err hc hp
              have e1 : ((t0 + c : Nat) : Int) = (t0 : Int) + (c : Int) := by omega
              rw [e1] at hg
              have HGG := Lib.hid hg
              have e2 : (((e + 1 : Nat) : Int) != 0) = true := by simp; omega
              have HU := Lib.hid (show unrowZ s a most = ([], 0, ((e + 1 : Nat) : Int)) from HUN.out.trans (by rw [HF.out, if_neg (by simp)]))
              clear hg hp hdr e1
              go_wp2_with (go_at_call 56; (with_reducible refine (rget_any s ((t0 : Int) + (c : Int)) HS.out _).mono ?_); rintro e w2 ⟨rfl, hw⟩; rw [HGG.out]; obtain rfl := hw.symm)
              go_ret3
              exact ⟨_, unrow_ret HU.out, by rw [HU.out]; exact ownI_nil _ _, HB.out⟩
          · obtain rfl : k = n := by omega
            have HU := Lib.hid (show unrowZ s a most = (xs.map Int.ofNat, (t0 : Int) + (c : Int), 0) from HUN.out.trans (by rw [HI.out, if_pos rfl]))
            clear hlt
            go_wp2
            go_ret3
            exact ⟨_, unrow_ret HU.out, by rw [HU.out]; exact HO.out, HB.out⟩
    · have d2 : decide ((n : Int) > most) = false := decide_eq_false (by omega)
      have HUN := Lib.hid (hun (by omega))
      have hn1 : n ≤ 1000 := by omega
      clear q1 q2 hun hbg
      go_enter Tryz.func58, Tryz.ntmps58
      go_wp2_with (go_at_call 56; (with_reducible refine (rget_any s a HS.out _).mono ?_); rintro e w1 ⟨rfl, hw⟩; rw [HG.out]; obtain rfl := hw.symm)
      go_loopg [10, 12, 13] n (fun gg p o i wr => ∃ (k c : Nat) (xs : List Nat), k + gg = n ∧ i = .int .i64 k ∧ p = .int .i64 ((t0 : Int) + (c : Int)) ∧ t0 + c ≤ s.size ∧ Hid (OwnI wr w.heap.size o (xs.map Int.ofNat)) ∧ Hid (items k T = (xs, c, 0)) ∧ Hid (RowKit.Below w.heap.size w wr))
      case atStart => exact ⟨0, 0, [], by omega, rfl, by go_num, by omega, Lib.hid (ownI_nil _ _), Lib.hid rfl, Lib.hid (Below.refl _ _)⟩
      case round =>
        obtain ⟨k, c, xs, hk, rfl, rfl, hc, HO, HI, HB⟩ := hrel
        by_cases hlt : k < n
        · have hdr : s.data.toList.drop (t0 + c) = T.drop c := by rw [HT.out, List.drop_drop]
          have hxl := items_len k HI.out
          obtain ⟨⟨x, u, e⟩, hp⟩ : ∃ r, parse (T.drop c) = r := ⟨_, rfl⟩
          cases e with
          | zero =>
            have HN := Lib.hid (items_next k HI.out hp)
            have hle := (parse_least hp).2.1
            rw [← hdr, List.length_drop, list_len] at hle
            rw [← hdr] at hp
            have hg := getZ_ok hc hp
            have e1 : ((t0 + c : Nat) : Int) = (t0 : Int) + (c : Int) := by omega
            rw [e1] at hg
            have HGG := Lib.hid hg
            clear hg hp hdr e1
            go_wp2_with (first
              | (go_at_call 56; (with_reducible refine (rget_any s ((t0 : Int) + (c : Int)) HS.out _).mono ?_); rintro e w2 ⟨rfl, hw⟩; rw [HGG.out]; obtain rfl := hw.symm)
              | (at_builtin; refine wpList_append_int rfl _ _ rfl w.heap.size _ (xs.map Int.ofNat) rfl ?c0 _ 1 1 [(x : Int)] rfl ?c1 ?c2 ?c3 ?_))
            case c0 => exact HO.out.alloc _
            case c1 => exact one_int _ _
            case c2 => rw [List.length_map, hxl]; omega
            case c3 => exact Nat.le_trans HB.out.size (by simp)
            intro v7 w7 ho7 _ hb7
            have HB7 := Lib.hid ((HB.out.alloc HB.out.size _).trans hb7)
            have HO7 := Lib.hid ho7
            clear ho7 hb7
            go_wp2_with fail
            go_roundg (gk - 1)
            case measure => omega
            case rel => exact ⟨k + 1, c + u, xs ++ [x], by omega, by go_num, by go_num, by omega, Lib.hid (by rw [List.map_append]; exact HO7.out), HN, HB7⟩
          | succ e =>
            have HF := Lib.hid (items_fail k HI.out hp hlt)
            rw [← hdr] at hp
            have hg := getZ_err hc hp
            have e1 : ((t0 + c : Nat) : Int) = (t0 : Int) + (c : Int) := by omega
            rw [e1] at hg
            have HGG := Lib.hid hg
            have e2 : (((e + 1 : Nat) : Int) != 0) = true := by simp; omega
            have HU := Lib.hid (show unrowZ s a most = ([], 0, ((e + 1 : Nat) : Int)) from HUN.out.trans (by rw [HF.out, if_neg (by simp)]))
            clear hg hp hdr e1
            go_wp2_with (go_at_call 56; (with_reducible refine (rget_any s ((t0 : Int) + (c : Int)) HS.out _).mono ?_); rintro e w2 ⟨rfl, hw⟩; rw [HGG.out]; obtain rfl := hw.symm)
            go_ret3
            exact ⟨_, unrow_ret HU.out, by rw [HU.out]; exact ownI_nil _ _, HB.out⟩
        · obtain rfl : k = n := by omega
          have HU := Lib.hid (show unrowZ s a most = (xs.map Int.ofNat, (t0 : Int) + (c : Int), 0) from HUN.out.trans (by rw [HI.out, if_pos rfl]))
          clear hlt
          go_wp2
          go_ret3
          exact ⟨_, unrow_ret HU.out, by rw [HU.out]; exact HO.out, HB.out⟩
  · have e2 : ((getZ s a).2.2 != 0) = true := by simpa using q0
    have HU := Lib.hid (show unrowZ s a most = ([], 0, (getZ s a).2.2) from if_pos q0)
    have HX := Lib.hid e2
    obtain ⟨x, hx⟩ : ∃ x, x = (getZ s a).2.2 := ⟨_, rfl⟩
    rw [← hx] at e2
    have HXX := Lib.hid hx
    clear q0 hx
    go_enter Tryz.func58, Tryz.ntmps58
    go_wp2_with (go_at_call 56; (with_reducible refine (rget_any s a HS.out _).mono ?_); rintro e w1 ⟨rfl, hw⟩; rw [← HXX.out]; obtain rfl := hw.symm)
    go_ret3
    exact ⟨_, unrow_ret (HU.out.trans (by rw [← HXX.out])), by rw [HU.out]; exact ownI_nil _ _, Below.refl _ _⟩
end Go.Proofs.YtegbldkkggpjcaaGreatDoor
