/- The contracts of the program's own functions that only read ranges: isEmpty, overlap, whole, Check, isSet, Count, Prefix. -/
import Derived.Test.YtdihbkhhhonlpaaRngImpl
import Derived.Handy
namespace Go.Proofs.Ytdihbkhhhonlpaa
open Go.RowKit Go.Sort

attribute [local go_sem ↓] Go.wp_at_zero Go.wp_at_succ

theorem isEmpty_any (x : Int × Int) (w : World) :
    Calls Try.prog 25 #[.agg #[.int .i64 x.1, .int .i64 x.2]] w fun e w' => e = .returned (.bool (decide (x.2 < x.1))) ∧ Grew w w' := by
  go_enter Try.func25, Try.ntmps25
  go_wp2
  go_ret
  exact ⟨rfl, (Grew.refl _).alloc _⟩

/-- What two ranges have in common. -/
def ovl (x y : Int × Int) : Int × Int := (if x.1 < y.1 then y.1 else x.1, if y.2 < x.2 then y.2 else x.2)

theorem ret_rng {a b c d : Int} (h1 : a = c) (h2 : b = d) : Ending.returned (.agg #[.int .i64 a, .int .i64 b]) = .returned (.agg #[.int .i64 c, .int .i64 d]) := by rw [h1, h2]
theorem grew3 (w : World) (a b c : Obj) : Grew w (((w.alloc a).alloc b).alloc c) := (((Grew.refl _).alloc _).alloc _).alloc _
set_option maxHeartbeats 1600000 in
theorem overlap_any (x y : Int × Int) (w : World) :
    Calls Try.prog 29 #[.agg #[.int .i64 x.1, .int .i64 x.2], .agg #[.int .i64 y.1, .int .i64 y.2]] w fun e w' => e = .returned (.agg #[.int .i64 (ovl x y).1, .int .i64 (ovl x y).2]) ∧ Grew w w' := by
  have HO1 := Lib.hid (show (ovl x y).1 = if x.1 < y.1 then y.1 else x.1 from rfl)
  have HO2 := Lib.hid (show (ovl x y).2 = if y.2 < x.2 then y.2 else x.2 from rfl)
  go_enter Try.func29, Try.ntmps29
  go_wp2
  all_goals
    go_returns
    refine ⟨ret_rng ?_ ?_, grew3 _ _ _ _⟩
    · rw [HO1.out]; split <;> omega
    · rw [HO2.out]; split <;> omega

theorem whole_any (w : World) :
    Calls Try.prog 30 #[] w fun e w' => e = .returned (.agg #[.int .i64 1, .int .i64 1000000]) ∧ Grew w w' := by
  go_enter Try.func30, Try.ntmps30
  go_wp2
  go_returns
  exact ⟨rfl, (Grew.refl _).alloc _⟩

/-- A range that was laid, and what came behind. -/
theorem kept_new {w w1 : World} {a b : Int} (h : Grew (w.alloc (.cells #[.int .i64 a, .int .i64 b] 33)) w1) : w1.cell? ⟨w.heap.size, 0, none⟩ = some (.int .i64 a) ∧ w1.cell? ⟨w.heap.size, 1, none⟩ = some (.int .i64 b) := by
  have k := h.below
  refine ⟨(k.cell (p := ⟨w.heap.size, 0, none⟩) (by simp)).trans ?_, (k.cell (p := ⟨w.heap.size, 1, none⟩) (by simp)).trans ?_⟩
  · rw [World.cell?_alloc_at _ _ _ _ rfl]; rfl
  · rw [World.cell?_alloc_at _ _ _ _ rfl]; rfl

/-- Where the next range of a set may begin, behind the first k. -/
def leastAt (zs : List (Int × Int)) (k : Nat) : Int := if k = 0 then 1 else (zs.getD (k - 1) (0, 0)).2 + 2
theorem least_succ (zs : List (Int × Int)) (k : Nat) : leastAt zs (k + 1) = (zs.getD k (0, 0)).2 + 2 := rfl
theorem at_least {zs : List (Int × Int)} {k : Nat} (hp : 0 < k → At zs (-1) (k - 1)) (h1 : leastAt zs k ≤ (zs.getD k (0, 0)).1) (h2 : (zs.getD k (0, 0)).1 ≤ (zs.getD k (0, 0)).2) (h3 : (zs.getD k (0, 0)).2 ≤ 1000000) : At zs (-1) k := by
  unfold leastAt at h1
  by_cases e : k = 0
  · rw [if_pos e] at h1
    exact ⟨h1, h3, h2, by rw [if_pos e]; omega⟩
  · rw [if_neg e] at h1
    obtain ⟨a, _, b, _⟩ := hp (by omega)
    exact ⟨by omega, h3, h2, by rw [if_neg e]; omega⟩
theorem at_not {zs : List (Int × Int)} {k : Nat} (h : At zs (-1) k) : leastAt zs k ≤ (zs.getD k (0, 0)).1 ∧ (zs.getD k (0, 0)).1 ≤ (zs.getD k (0, 0)).2 ∧ (zs.getD k (0, 0)).2 ≤ 1000000 := by
  obtain ⟨a, b, c, d⟩ := h
  refine ⟨?_, c, b⟩
  unfold leastAt
  by_cases e : k = 0
  · rw [if_pos e]; exact a
  · rw [if_neg e]; rw [if_neg e] at d; omega

set_option maxHeartbeats 3200000 in
theorem check_any (sa : Option Addr) (len cap : Nat) (zs : List (Int × Int)) (w : World) (hm : len ≤ 1000) (hr : ReadsA w sa len zs) :
    Calls Try.prog 8 #[.slice sa len cap] w fun e w' => e = .returned (.int .i64 (chkZ zs)) ∧ Grew w w' := by
  have hmix := mixed
  have hm3 : decide ((1000 : Int) < (len : Int)) = false := decide_eq_false (by omega)
  have HZ := Lib.hid hr.1
  have HR := Lib.hid hr; clear hr
  go_enter Try.func8, Try.ntmps8
  go_wp2
  go_loopg [3, 11] len (fun gg l i wr => ∃ k : Nat, k + gg = len ∧ i = .int .i64 k ∧ l = .int .i64 (leastAt zs k) ∧ Hid (∀ j, j < k → At zs (-1) j) ∧ Hid (Grew w wr))
  case atStart => exact ⟨0, by omega, rfl, rfl, Lib.hid (fun j hj => absurd hj (by omega)), Lib.hid (Grew.refl _)⟩
  case round =>
    obtain ⟨k, hk, rfl, rfl, HA, HG⟩ := hrel
    by_cases hlt : k < len
    · have HL := Lib.hid (show k < zs.length by rw [← HZ.out]; exact hlt)
      have NO := Lib.hid (fun (h : ¬ At zs (-1) k) => chk_no HL.out h)
      have YES := Lib.hid (fun (h : At zs (-1) k) (j : Nat) (hj : j < k + 1) => (show At zs (-1) j by
        by_cases e : j = k
        · rw [e]; exact h
        · exact HA.out j (by omega)))
      have HRG := Lib.hid (HR.out.later HG.out.below)
      obtain ⟨b, off, rfl, g⟩ := HRG.out.2 (by omega)
      obtain ⟨l0, l1⟩ := g k hlt
      have A1 := Lib.hid (at_least (zs := zs) (k := k) (fun h0 => HA.out (k - 1) (by omega)))
      have A2 := Lib.hid (fun h => at_not (zs := zs) (k := k) h)
      have LS := Lib.hid (least_succ zs k)
      obtain ⟨x, hx⟩ : ∃ x, x = zs.getD k (0, 0) := ⟨_, rfl⟩
      rw [← hx] at l0 l1 A1 A2 LS
      have HX := Lib.hid hx
      generalize leastAt zs k = m at *
      have i1 : (0 : Int) ≤ (k : Int) := by omega
      have i2 : (k : Int) < (len : Int) := by omega
      by_cases q1 : x.1 < m
      · have d1 : decide (x.1 < m) = true := decide_eq_true q1
        have HE := Lib.hid (NO.out (fun h => by have := (A2.out h).1; omega))
        clear q1 hx g
        go_wp2
        go_ret
        exact ⟨ret_int HE.out.symm, HG.out.alloc _⟩
      have d1 : decide (x.1 < m) = false := decide_eq_false q1
      by_cases q2 : x.2 < x.1
      · have d2 : decide (x.2 < x.1) = true := decide_eq_true q2
        have HE := Lib.hid (NO.out (fun h => by have := (A2.out h).2.1; omega))
        clear q1 q2 hx g
        go_wp2_with (go_at_call 25; refine (isEmpty_any x _).mono ?_; rintro e w1 ⟨rfl, hg⟩; obtain ⟨c0, c1⟩ := kept_new hg; have HG1 := Lib.hid ((HG.out.alloc _).trans hg); clear hg)
        go_ret
        exact ⟨ret_int HE.out.symm, HG1.out⟩
      have d2 : decide (x.2 < x.1) = false := decide_eq_false q2
      by_cases q3 : 1000000 < x.2
      · have d3 : decide (1000000 < x.2) = true := decide_eq_true q3
        have HE := Lib.hid (NO.out (fun h => by have := (A2.out h).2.2; omega))
        clear q1 q2 q3 hx g
        go_wp2_with (go_at_call 25; refine (isEmpty_any x _).mono ?_; rintro e w1 ⟨rfl, hg⟩; obtain ⟨c0, c1⟩ := kept_new hg; have HG1 := Lib.hid ((HG.out.alloc _).trans hg); clear hg)
        go_ret
        exact ⟨ret_int HE.out.symm, HG1.out⟩
      have d3 : decide (1000000 < x.2) = false := decide_eq_false q3
      have HE := Lib.hid (YES.out (A1.out (by omega) (by omega) (by omega)))
      have i3 : x.2 ≤ 1000000 := by omega
      have i4 : 1 ≤ x.2 := by
        have := (A1.out (by omega) (by omega) (by omega)).1
        rw [← hx] at this
        omega
      clear q1 q2 q3 hx g
      go_wp2_with (go_at_call 25; refine (isEmpty_any x _).mono ?_; rintro e w1 ⟨rfl, hg⟩; obtain ⟨c0, c1⟩ := kept_new hg; have HG1 := Lib.hid ((HG.out.alloc _).trans hg); clear hg)
      go_roundg (gk - 1)
      case measure => omega
      case rel => exact ⟨k + 1, by omega, by go_num, by rw [LS.out], HE, HG1⟩
    · obtain rfl : k = len := by omega
      have HE := Lib.hid (show chkZ zs = 0 from chk_yes ((ok_at zs (-1)).2 fun i hi => HA.out i (by rw [HZ.out]; exact hi)))
      go_wp2
      go_ret
      exact ⟨ret_int HE.out.symm, HG.out⟩

theorem isSet_any (sa : Option Addr) (len cap : Nat) (zs : List (Int × Int)) (w : World) (hm : len ≤ 1000) (hr : ReadsA w sa len zs) :
    Calls Try.prog 26 #[.slice sa len cap] w fun e w' => e = .returned (.bool (decide (Ok (-1) zs))) ∧ Grew w w' := by
  have HR := Lib.hid hr; clear hr
  by_cases ok : Ok (-1) zs
  · have HC := Lib.hid (chk_yes ok)
    have HO := Lib.hid ok; clear ok
    go_enter Try.func26, Try.ntmps26
    go_wp2_with (go_at_call 8; refine (check_any sa len cap zs _ hm HR.out).mono ?_; rintro e w1 ⟨rfl, hg⟩; rw [HC.out])
    go_ret
    exact ⟨ret_bool (decide_eq_true HO.out).symm, hg⟩
  · have HC := Lib.hid (show chkZ zs = 2 from if_neg ok)
    have HO := Lib.hid ok; clear ok
    go_enter Try.func26, Try.ntmps26
    go_wp2_with (go_at_call 8; refine (check_any sa len cap zs _ hm HR.out).mono ?_; rintro e w1 ⟨rfl, hg⟩; rw [HC.out])
    go_ret
    exact ⟨ret_bool (decide_eq_false HO.out).symm, hg⟩

set_option maxHeartbeats 1600000 in
theorem count_any (sa : Option Addr) (len cap : Nat) (zs : List (Int × Int)) (w : World) (hm : len ≤ 1000) (hr : ReadsA w sa len zs) :
    Calls Try.prog 12 #[.slice sa len cap] w fun e w' => e = .returned (.int .i64 (cntZ zs)) ∧ Grew w w' := by
  have hmix := mixed
  have HZ := Lib.hid hr.1
  have HR := Lib.hid hr; clear hr
  by_cases ok : Ok (-1) zs
  · have HD := Lib.hid (decide_eq_true ok)
    have HO := Lib.hid ok; clear ok
    go_enter Try.func12, Try.ntmps12
    go_wp2_with (go_at_call 26; refine (isSet_any sa len cap zs _ hm HR.out).mono ?_; rintro e w1 ⟨rfl, hg⟩; rw [HD.out]; have HG1 := Lib.hid hg; clear hg)
    go_loopg [3, 11] len (fun gg n i wr => ∃ (k : Nat) (m : Int), k + gg = len ∧ i = .int .i64 k ∧ n = .int .i64 m ∧ 0 ≤ m ∧ m ≤ k * 1000000 ∧ Hid (m = countL (zs.take k)) ∧ Hid (Grew w wr))
    case atStart => exact ⟨0, 0, by omega, rfl, rfl, by omega, by omega, Lib.hid rfl, HG1⟩
    case round =>
      obtain ⟨k, m, hk, rfl, rfl, hm0, hm1, HM, HG⟩ := hrel
      by_cases hlt : k < len
      · obtain ⟨b, off, rfl, g⟩ := (HR.out.later HG.out.below).2 (by omega)
        obtain ⟨l0, l1⟩ := g k hlt
        have HT := Lib.hid (countL_take zs k (by rw [← HZ.out]; exact hlt))
        obtain ⟨a1, a2, a3, _⟩ := (ok_at zs (-1)).1 HO.out k (by rw [← HZ.out]; exact hlt)
        clear g
        generalize zs.getD k (0, 0) = x at *
        have i1 : (0 : Int) ≤ (k : Int) := by omega
        have i2 : (k : Int) < (len : Int) := by omega
        have i3 : (k : Int) ≤ 1000 := by omega
        go_wp2
        go_roundg (gk - 1)
        case measure => omega
        case rel => exact ⟨k + 1, m + (x.2 - x.1 + 1), by omega, by go_num, by go_num, by omega, by omega, Lib.hid (by rw [HT.out, HM.out]; omega), Lib.hid (HG.out.alloc _)⟩
      · obtain rfl : k = len := by omega
        have HE := Lib.hid (show m = cntZ zs by
          have := HM.out
          rw [List.take_of_length_le (by rw [HZ.out]; exact Nat.le_refl _)] at this
          rw [this]; exact (if_pos HO.out).symm)
        go_wp2
        go_ret
        exact ⟨ret_int HE.out, HG.out⟩
  · have HD := Lib.hid (decide_eq_false ok)
    have HE := Lib.hid (show cntZ zs = 0 from if_neg ok)
    clear ok
    go_enter Try.func12, Try.ntmps12
    go_wp2_with (go_at_call 26; refine (isSet_any sa len cap zs _ hm HR.out).mono ?_; rintro e w1 ⟨rfl, hg⟩; rw [HD.out])
    go_ret
    exact ⟨ret_int HE.out.symm, hg⟩

set_option maxHeartbeats 1600000 in
theorem prefix_any (sa : Option Addr) (len cap : Nat) (zs : List (Int × Int)) (n : Int) (w : World) (hm : len ≤ 1000) (hr : ReadsA w sa len zs) :
    Calls Try.prog 14 #[.slice sa len cap, .int .i64 n] w fun e w' => e = .returned (.int .i64 (prefZ zs n)) ∧ Grew w w' := by
  have hmix := mixed
  have HZ := Lib.hid hr.1
  have HR := Lib.hid hr; clear hr
  by_cases ok : Ok (-1) zs
  · have HD := Lib.hid (decide_eq_true ok)
    have HP := Lib.hid (show prefZ zs n = prefL zs n from if_pos ok)
    have HO := Lib.hid ok; clear ok
    go_enter Try.func14, Try.ntmps14
    go_wp2_with (go_at_call 26; refine (isSet_any sa len cap zs _ hm HR.out).mono ?_; rintro e w1 ⟨rfl, hg⟩; rw [HD.out]; have HG1 := Lib.hid hg; clear hg)
    go_loopg [13] len (fun gg i wr => ∃ k : Nat, k + gg = len ∧ i = .int .i64 k ∧ Hid (∀ j, j < k → ¬ ((zs.getD j (0, 0)).1 - 1 ≤ n ∧ n < (zs.getD j (0, 0)).2)) ∧ Hid (Grew w wr))
    case atStart => exact ⟨0, by omega, rfl, Lib.hid (fun j hj => absurd hj (by omega)), HG1⟩
    case round =>
      obtain ⟨k, hk, rfl, HN, HG⟩ := hrel
      by_cases hlt : k < len
      · obtain ⟨b, off, rfl, g⟩ := (HR.out.later HG.out.below).2 (by omega)
        obtain ⟨l0, l1⟩ := g k hlt
        obtain ⟨a1, a2, a3, _⟩ := (ok_at zs (-1)).1 HO.out k (by rw [← HZ.out]; exact hlt)
        clear g
        have HH := Lib.hid (prefL_hit zs n k (by rw [← HZ.out]; exact hlt) HN.out)
        have HS := Lib.hid (fun (h : ¬ ((zs.getD k (0, 0)).1 - 1 ≤ n ∧ n < (zs.getD k (0, 0)).2)) (j : Nat) (hj : j < k + 1) => (show ¬ ((zs.getD j (0, 0)).1 - 1 ≤ n ∧ n < (zs.getD j (0, 0)).2) by
          by_cases e : j = k
          · rw [e]; exact h
          · exact HN.out j (by omega)))
        obtain ⟨x, hx⟩ : ∃ x, x = zs.getD k (0, 0) := ⟨_, rfl⟩
        rw [← hx] at l0 l1 a1 a2 a3 HH HS
        clear hx
        have i1 : (0 : Int) ≤ (k : Int) := by omega
        have i2 : (k : Int) < (len : Int) := by omega
        have i3 : x.1 ≤ 1000000 := by omega
        by_cases q1 : x.1 - 1 ≤ n
        · have d1 : decide (x.1 - 1 ≤ n) = true := decide_eq_true q1
          by_cases q2 : n < x.2
          · have d2 : decide (n < x.2) = true := decide_eq_true q2
            have HE := Lib.hid (HP.out.trans (HH.out ⟨q1, q2⟩))
            clear q1 q2
            go_wp2
            go_ret
            exact ⟨ret_int HE.out.symm, HG.out.alloc _⟩
          · have d2 : decide (n < x.2) = false := decide_eq_false q2
            have HE := Lib.hid (HS.out (fun h => q2 h.2))
            clear q1 q2
            go_wp2
            go_roundg (gk - 1)
            case measure => omega
            case rel => exact ⟨k + 1, by omega, by go_num, HE, Lib.hid (HG.out.alloc _)⟩
        · have d1 : decide (x.1 - 1 ≤ n) = false := decide_eq_false q1
          have HE := Lib.hid (HS.out (fun h => q1 h.1))
          clear q1
          go_wp2
          go_roundg (gk - 1)
          case measure => omega
          case rel => exact ⟨k + 1, by omega, by go_num, HE, Lib.hid (HG.out.alloc _)⟩
      · obtain rfl : k = len := by omega
        have HE := Lib.hid (HP.out.trans (prefL_none zs n fun j hj => HN.out j (by rw [HZ.out]; exact hj)))
        go_wp2
        go_ret
        exact ⟨ret_int HE.out.symm, HG.out⟩
  · have HD := Lib.hid (decide_eq_false ok)
    have HE := Lib.hid (show prefZ zs n = n from if_neg ok)
    clear ok
    go_enter Try.func14, Try.ntmps14
    go_wp2_with (go_at_call 26; refine (isSet_any sa len cap zs _ hm HR.out).mono ?_; rintro e w1 ⟨rfl, hg⟩; rw [HD.out])
    go_ret
    exact ⟨ret_int HE.out.symm, hg⟩
end Go.Proofs.Ytdihbkhhhonlpaa
