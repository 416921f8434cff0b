/- The contracts of the document's functions that only read ranges: in, Check, Has, Count, Prefix, Same. -/
import Derived.Test.YtdihbkhhhonlpaaRngRow
namespace Go.Proofs.Ytdihbkhhhonlpaa
open Go.RowKit Go.Sort

attribute [local go_sem ↓] Go.wp_at_zero Go.wp_at_succ

theorem grew_quiet {w W : World} (h : Grew w W) (n : Nat) : Grew w (W.drewN n) := h.trans ⟨n, #[], by rw [grow_empty]⟩
theorem inB_take (zs : List (Int × Int)) (k : Nat) (hk : k < zs.length) (n : Int) : inB (zs.take (k + 1)) n = (inB (zs.take k) n || (decide ((zs.getD k (0, 0)).1 ≤ n) && decide (n ≤ (zs.getD k (0, 0)).2))) := by
  rw [List.take_succ_eq_append_getElem hk, inB_app, inB_cons, inB_nil, Bool.or_false]
  simp [List.getD, hk]
theorem inB_here (zs : List (Int × Int)) (k : Nat) (hk : k < zs.length) (n : Int) (h1 : (zs.getD k (0, 0)).1 ≤ n) (h2 : n ≤ (zs.getD k (0, 0)).2) : inB zs n = true :=
  (inB_iff zs n).2 ⟨zs.getD k (0, 0), by rw [List.getD_eq_getElem?_getD, List.getElem?_eq_getElem hk]; exact List.getElem_mem hk, h1, h2⟩

set_option maxHeartbeats 1600000 in
theorem rin_any (sa : Option Addr) (len cap : Nat) (zs : List (Int × Int)) (n : Int) (w : World) (hm : len ≤ 10000) (hr : ReadsA w sa len zs) :
    Calls Try.prog 28 #[.slice sa len cap, .int .i64 n] w fun e w' => e = .returned (.bool (inB zs n)) ∧ Grew w w' := by
  have hmix := mixed
  have HZ := Lib.hid hr.1
  have HR := Lib.hid hr; clear hr
  go_enter Try.func28, Try.ntmps28
  go_wp2
  go_loopg [5] len (fun gg i wr => ∃ k : Nat, k + gg = len ∧ i = .int .i64 k ∧ Hid (inB (zs.take k) n = false) ∧ Hid (Grew w wr))
  case atStart => exact ⟨0, by omega, rfl, Lib.hid rfl, Lib.hid (Grew.refl _)⟩
  case round =>
    obtain ⟨k, hk, rfl, HN, HG⟩ := hrel
    by_cases hlt : k < len
    · obtain ⟨b, off, rfl, g⟩ := (HR.out.later HG.out.below).2 (by omega)
      obtain ⟨l0, l1⟩ := g k hlt
      have HT := Lib.hid (inB_take zs k (by rw [← HZ.out]; exact hlt) n)
      have HH := Lib.hid (inB_here zs k (by rw [← HZ.out]; exact hlt) n)
      clear g
      generalize zs.getD k (0, 0) = x at *
      have i1 : (0 : Int) ≤ (k : Int) := by omega
      have i2 : (k : Int) < (len : Int) := by omega
      by_cases q1 : x.1 ≤ n
      · have d1 : decide (x.1 ≤ n) = true := decide_eq_true q1
        by_cases q2 : n ≤ x.2
        · have d2 : decide (n ≤ x.2) = true := decide_eq_true q2
          have e := HH.out q1 q2
          have HE := Lib.hid e
          clear e q1 q2
          go_wp2
          go_ret
          exact ⟨ret_bool HE.out.symm, HG.out⟩
        · have d2 : decide (n ≤ x.2) = false := decide_eq_false q2
          have HE := Lib.hid (show inB (zs.take (k + 1)) n = false by rw [HT.out, HN.out, d2, Bool.and_false]; rfl)
          clear q1 q2
          go_wp2
          go_roundg (gk - 1)
          case measure => omega
          case rel => exact ⟨k + 1, by omega, by go_num, HE, HG⟩
      · have d1 : decide (x.1 ≤ n) = false := decide_eq_false q1
        have HE := Lib.hid (show inB (zs.take (k + 1)) n = false by rw [HT.out, HN.out, d1]; rfl)
        clear q1
        go_wp2
        go_roundg (gk - 1)
        case measure => omega
        case rel => exact ⟨k + 1, by omega, by go_num, HE, HG⟩
    · obtain rfl : k = len := by omega
      have HE := Lib.hid (show inB zs n = false by have := HN.out; rw [List.take_of_length_le (by rw [HZ.out]; exact Nat.le_refl _)] at this; exact this)
      go_wp2
      go_ret
      exact ⟨ret_bool HE.out.symm, HG.out⟩

/-! ### Check -/
def At (zs : List (Int × Int)) (p : Int) (i : Nat) : Prop := 1 ≤ (zs.getD i (0, 0)).1 ∧ (zs.getD i (0, 0)).2 ≤ 1000000 ∧ (zs.getD i (0, 0)).1 ≤ (zs.getD i (0, 0)).2 ∧ (if i = 0 then p else (zs.getD (i - 1) (0, 0)).2) + 1 < (zs.getD i (0, 0)).1
theorem ok_at : ∀ (zs : List (Int × Int)) (p : Int), Ok p zs ↔ ∀ i, i < zs.length → At zs p i := by
  intro zs
  induction zs with
  | nil => intro p; exact ⟨fun _ i hi => by simp at hi, fun _ => trivial⟩
  | cons r t ih =>
    intro p
    constructor
    · rintro ⟨a, b, c, d, e⟩ i hi
      cases i with
      | zero => exact ⟨a, b, c, by simpa using d⟩
      | succ i =>
        have := (ih r.2).1 e i (by simpa using hi)
        obtain ⟨a', b', c', d'⟩ := this
        refine ⟨by simpa using a', by simpa using b', by simpa using c', ?_⟩
        cases i with
        | zero => simpa using d'
        | succ i => simpa using d'
    · intro h
      obtain ⟨a, b, c, d⟩ := h 0 (by simp)
      refine ⟨by simpa using a, by simpa using b, by simpa using c, by simpa using d, (ih r.2).2 fun i hi => ?_⟩
      obtain ⟨a', b', c', d'⟩ := h (i + 1) (by simpa using hi)
      refine ⟨by simpa using a', by simpa using b', by simpa using c', ?_⟩
      cases i with
      | zero => simpa using d'
      | succ i => simpa using d'
instance okDec : ∀ (p : Int) (l : List (Int × Int)), Decidable (Ok p l)
  | _, [] => .isTrue trivial
  | _, r :: t => @instDecidableAnd _ _ _ (@instDecidableAnd _ _ _ (@instDecidableAnd _ _ _ (@instDecidableAnd _ _ _ (okDec r.2 t))))
def chkZ (zs : List (Int × Int)) : Int := if Ok (-1) zs then 0 else 2
theorem chk_yes {zs : List (Int × Int)} (h : Ok (-1) zs) : chkZ zs = 0 := if_pos h
theorem chk_no {zs : List (Int × Int)} {k : Nat} (hk : k < zs.length) (h : ¬ At zs (-1) k) : chkZ zs = 2 := if_neg fun q => h ((ok_at zs (-1)).1 q k hk)

set_option maxHeartbeats 3200000 in
theorem rcheck_any (sa : Option Addr) (len cap : Nat) (zs : List (Int × Int)) (w : World) (hm : len ≤ 1000) (hr : ReadsA w sa len zs) :
    Calls Try.prog 9 #[.slice sa len cap] w fun e w' => e = .returned (.int .i64 (chkZ zs)) ∧ Grew w w' := by
  have hmix := mixed
  have hm3 : decide ((len : Int) > 1000) = false := decide_eq_false (by omega)
  have HZ := Lib.hid hr.1
  have HR := Lib.hid hr; clear hr
  go_enter Try.func9, Try.ntmps9
  go_wp2
  go_loopg [3] len (fun gg i wr => ∃ k : Nat, k + gg = len ∧ i = .int .i64 k ∧ Hid (∀ j, j < k → At zs (-1) j) ∧ Hid (Grew w wr))
  case atStart => exact ⟨0, by omega, rfl, Lib.hid (fun j hj => absurd hj (by omega)), Lib.hid (Grew.refl _)⟩
  case round =>
    obtain ⟨k, hk, rfl, HA, HG⟩ := hrel
    by_cases hlt : k < len
    · have HL := Lib.hid (show k < zs.length by rw [← HZ.out]; exact hlt)
      have NO := Lib.hid (fun (h : ¬ At zs (-1) k) => chk_no HL.out h)
      have YES := Lib.hid (fun (h : At zs (-1) k) (j : Nat) (hj : j < k + 1) => (show At zs (-1) j by
        by_cases e : j = k
        · rw [e]; exact h
        · exact HA.out j (by omega)))
      have HAT := Lib.hid (show At zs (-1) k ↔ _ from Iff.rfl)
      have HRG := Lib.hid (HR.out.later HG.out.below)
      obtain ⟨b, off, rfl, g⟩ := HRG.out.2 (by omega)
      obtain ⟨l0, l1⟩ := g k hlt
      obtain ⟨x, hx⟩ : ∃ x, x = zs.getD k (0, 0) := ⟨_, rfl⟩
      rw [← hx] at l0 l1
      have i1 : (0 : Int) ≤ (k : Int) := by omega
      have i2 : (k : Int) < (len : Int) := by omega
      have HX := Lib.hid hx
      by_cases q1 : x.1 < 1
      · have d1 : decide (x.1 < 1) = true := decide_eq_true q1
        have HE := Lib.hid (NO.out (fun h => by have := h.1; rw [← hx] at this; omega))
        clear q1 hx g
        go_wp2_with fail
        go_quiet (fail)
        go_wp2
        go_ret
        exact ⟨ret_int HE.out.symm, grew_quiet HG.out nq⟩
      have d1 : decide (x.1 < 1) = false := decide_eq_false q1
      by_cases q2 : x.2 > 1000000
      · have d2 : decide (x.2 > 1000000) = true := decide_eq_true q2
        have HE := Lib.hid (NO.out (fun h => by have := h.2.1; rw [← hx] at this; omega))
        clear q1 q2 hx g
        go_wp2_with fail
        go_quiet (fail)
        go_wp2
        go_ret
        exact ⟨ret_int HE.out.symm, grew_quiet HG.out nq⟩
      have d2 : decide (x.2 > 1000000) = false := decide_eq_false q2
      by_cases q3 : x.1 > x.2
      · have d3 : decide (x.1 > x.2) = true := decide_eq_true q3
        have HE := Lib.hid (NO.out (fun h => by have := h.2.2.1; rw [← hx] at this; omega))
        clear q1 q2 q3 hx g
        go_wp2_with fail
        go_quiet (fail)
        go_wp2
        go_ret
        exact ⟨ret_int HE.out.symm, grew_quiet HG.out nq⟩
      have d3 : decide (x.1 > x.2) = false := decide_eq_false q3
      by_cases q4 : k = 0
      · have d4 : decide (0 < k) = false := decide_eq_false (by omega)
        have HE := Lib.hid (YES.out (by
          refine ⟨by rw [← hx]; omega, by rw [← hx]; omega, by rw [← hx]; omega, ?_⟩
          rw [if_pos q4, ← hx]; omega))
        clear q1 q2 q3 q4 hx g
        go_wp2_with fail
        go_quiet (fail)
        go_wp2
        go_roundg (gk - 1)
        case measure => omega
        case rel => exact ⟨k + 1, by omega, by go_num, HE, Lib.hid (grew_quiet HG.out nq)⟩
      have d4 : decide (0 < k) = true := decide_eq_true (by omega)
      obtain ⟨l2, l3⟩ := g (k - 1) (by omega)
      obtain ⟨y, hy⟩ : ∃ y, y = zs.getD (k - 1) (0, 0) := ⟨_, rfl⟩
      rw [← hy] at l2 l3
      have i3 : (1 : Int) ≤ (k : Int) := by omega
      have i4 : (k : Int) ≤ (len : Int) := by omega
      have i5 : 1 ≤ x.1 := by omega
      have i6 : x.1 ≤ 1000000 := by omega
      by_cases q5 : x.1 - 1 ≤ y.2
      · have d5 : decide (x.1 - 1 ≤ y.2) = true := decide_eq_true q5
        have HE := Lib.hid (NO.out (fun h => by have := h.2.2.2; rw [if_neg q4, ← hx, ← hy] at this; omega))
        clear q1 q2 q3 q4 q5 hx hy g
        go_wp2_with fail
        go_quiet (fail)
        go_wp2
        go_ret
        exact ⟨ret_int HE.out.symm, grew_quiet HG.out nq⟩
      · have d5 : decide (x.1 - 1 ≤ y.2) = false := decide_eq_false q5
        have HE := Lib.hid (YES.out (by
          refine ⟨by rw [← hx]; omega, by rw [← hx]; omega, by rw [← hx]; omega, ?_⟩
          rw [if_neg q4, ← hx, ← hy]; omega))
        clear q1 q2 q3 q4 q5 hx hy g
        go_wp2_with fail
        go_quiet (fail)
        go_wp2
        go_roundg (gk - 1)
        case measure => omega
        case rel => exact ⟨k + 1, by omega, by go_num, HE, Lib.hid (grew_quiet HG.out nq)⟩
    · obtain rfl : k = len := by omega
      have HE := Lib.hid (chk_yes ((ok_at zs (-1)).2 fun i hi => HA.out i (by rw [HZ.out]; exact hi)))
      go_wp2
      go_ret
      exact ⟨ret_int HE.out.symm, HG.out⟩
end Go.Proofs.Ytdihbkhhhonlpaa
