/- The contracts of the document's Has, Count, Prefix, Same, fits. -/
import Derived.Test.YtdihbkhhhonlpaaRngRefA
namespace Go.Proofs.Ytdihbkhhhonlpaa
open Go.RowKit Go.Sort

attribute [local go_sem ↓] Go.wp_at_zero Go.wp_at_succ

def hasB (zs : List (Int × Int)) (n : Int) : Bool := decide (Ok (-1) zs) && inB zs n
theorem rhas_any (sa : Option Addr) (len cap : Nat) (zs : List (Int × Int)) (n : Int) (w : World) (hm : len ≤ 1000) (hr : ReadsA w sa len zs) :
    Calls Try.prog 11 #[.slice sa len cap, .int .i64 n] w fun e w' => e = .returned (.bool (hasB zs n)) ∧ Grew w w' := by
  have HR := Lib.hid hr; clear hr
  by_cases ok : Ok (-1) zs
  · have HC := Lib.hid (chk_yes ok)
    have HO := Lib.hid ok; clear ok
    go_enter Try.func11, Try.ntmps11
    go_wp2_with (first
      | (go_at_call 9; refine (rcheck_any sa len cap zs _ hm HR.out).mono ?_; rintro e w1 ⟨rfl, hg⟩; rw [HC.out]; have HG := Lib.hid hg; clear hg)
      | (go_at_call 28; refine (rin_any sa len cap zs n _ (by omega) (HR.out.later HG.out.below)).mono ?_; rintro e w2 ⟨rfl, hg2⟩))
    go_ret
    exact ⟨ret_bool (by unfold hasB; rw [decide_eq_true HO.out]; rfl), HG.out.trans hg2⟩
  · have HC := Lib.hid (show chkZ zs = 2 from if_neg ok)
    have HO := Lib.hid ok; clear ok
    go_enter Try.func11, Try.ntmps11
    go_wp2_with (go_at_call 9; refine (rcheck_any sa len cap zs _ hm HR.out).mono ?_; rintro e w1 ⟨rfl, hg⟩; rw [HC.out])
    go_ret
    exact ⟨ret_bool (by unfold hasB; rw [decide_eq_false HO.out]; rfl), hg⟩

theorem countL_take (zs : List (Int × Int)) (k : Nat) (hk : k < zs.length) : countL (zs.take (k + 1)) = countL (zs.take k) + (zs.getD k (0, 0)).2 + 1 - (zs.getD k (0, 0)).1 := by
  rw [List.take_succ_eq_append_getElem hk, countL_snoc]
  simp [List.getD, hk]
def cntZ (zs : List (Int × Int)) : Int := if Ok (-1) zs then countL zs else 0
set_option maxHeartbeats 1600000 in
theorem rcount_any (sa : Option Addr) (len cap : Nat) (zs : List (Int × Int)) (w : World) (hm : len ≤ 1000) (hr : ReadsA w sa len zs) :
    Calls Try.prog 13 #[.slice sa len cap] w fun e w' => e = .returned (.int .i64 (cntZ zs)) ∧ Grew w w' := by
  have hmix := mixed
  have HZ := Lib.hid hr.1
  have HR := Lib.hid hr; clear hr
  by_cases ok : Ok (-1) zs
  · have HC := Lib.hid (chk_yes ok)
    have HO := Lib.hid ok; clear ok
    go_enter Try.func13, Try.ntmps13
    go_wp2
    go_loopg [3, 4] len (fun gg n i wr => ∃ (k : Nat) (m : Int), k + gg = len ∧ i = .int .i64 k ∧ n = .int .i64 m ∧ 0 ≤ m ∧ m ≤ k * 1000000 ∧ Hid (m = countL (zs.take k)) ∧ Hid (Grew w wr))
    case atStart => exact ⟨0, 0, by omega, rfl, rfl, by omega, by omega, Lib.hid rfl, Lib.hid (Grew.refl _)⟩
    case round =>
      obtain ⟨k, m, hk, rfl, rfl, hm0, hm1, HM, HG⟩ := hrel
      by_cases hlt : k < len
      · go_wp2_with (go_at_call 9; refine (rcheck_any sa len cap zs _ hm (HR.out.later HG.out.below)).mono ?_; rintro e w1 ⟨rfl, hg⟩; rw [HC.out])
        have HG1 := Lib.hid (HG.out.trans hg); clear hg
        obtain ⟨b, off, rfl, g⟩ := (HR.out.later HG1.out.below).2 (by omega)
        obtain ⟨l0, l1⟩ := g k hlt
        have HT := Lib.hid (countL_take zs k (by rw [← HZ.out]; exact hlt))
        obtain ⟨a1, a2, a3, _⟩ := (ok_at zs (-1)).1 HO.out k (by rw [← HZ.out]; exact hlt)
        clear g
        generalize zs.getD k (0, 0) = x at *
        have i1 : (0 : Int) ≤ (k : Int) := by omega
        have i2 : (k : Int) < (len : Int) := by omega
        have i3 : (k : Int) ≤ 1000 := by omega
        go_quiet (fail)
        go_wp2
        go_roundg (gk - 1)
        case measure => omega
        case rel => exact ⟨k + 1, m + x.2 + 1 - x.1, by omega, by go_num, by go_num, by omega, by omega, Lib.hid (by rw [HT.out, HM.out]), Lib.hid (grew_quiet HG1.out nq)⟩
      · obtain rfl : k = len := by omega
        have HE := Lib.hid (show m = cntZ zs by
          have := HM.out
          rw [List.take_of_length_le (by rw [HZ.out]; exact Nat.le_refl _)] at this
          rw [this]; exact (if_pos HO.out).symm)
        go_wp2
        go_ret
        exact ⟨ret_int HE.out, HG.out⟩
  · have HC := Lib.hid (show chkZ zs = 2 from if_neg ok)
    have HE := Lib.hid (show cntZ zs = 0 from if_neg ok)
    have hlen : 0 < len := by
      rcases Nat.eq_zero_or_pos len with h | h
      · rw [HZ.out] at h
        obtain rfl := List.length_eq_zero_iff.1 h
        exact absurd trivial ok
      · exact h
    clear ok
    go_enter Try.func13, Try.ntmps13
    go_wp2
    go_loopg [3, 4] 1 (fun gg n i wr => gg = 1 ∧ i = .int .i64 0 ∧ n = .int .i64 0 ∧ Hid (Grew w wr))
    case atStart => exact ⟨rfl, rfl, rfl, Lib.hid (Grew.refl _)⟩
    case round =>
      obtain ⟨_, rfl, rfl, HG⟩ := hrel
      go_wp2_with (go_at_call 9; refine (rcheck_any sa len cap zs _ hm (HR.out.later HG.out.below)).mono ?_; rintro e w1 ⟨rfl, hg⟩; rw [HC.out])
      go_ret
      exact ⟨ret_int HE.out.symm, HG.out.trans hg⟩

/-! ### Prefix -/
def prefL : List (Int × Int) → Int → Int
  | [], b => b
  | r :: t, b => if r.1 - 1 ≤ b ∧ b < r.2 then r.2 else prefL t b
theorem prefL_hit : ∀ (zs : List (Int × Int)) (b : Int) (k : Nat), k < zs.length → (∀ j, j < k → ¬ ((zs.getD j (0, 0)).1 - 1 ≤ b ∧ b < (zs.getD j (0, 0)).2)) → (zs.getD k (0, 0)).1 - 1 ≤ b ∧ b < (zs.getD k (0, 0)).2 → prefL zs b = (zs.getD k (0, 0)).2 := by
  intro zs
  induction zs with
  | nil => intro b k hk; simp at hk
  | cons r t ih =>
    intro b k hk h1 h2
    cases k with
    | zero => unfold prefL; rw [if_pos (by simpa using h2)]; rfl
    | succ k =>
      unfold prefL
      rw [if_neg (by simpa using h1 0 (by omega)), ih b k (by simpa using hk) (fun j hj => by simpa using h1 (j + 1) (by omega)) (by simpa using h2)]
      rfl
theorem prefL_none : ∀ (zs : List (Int × Int)) (b : Int), (∀ j, j < zs.length → ¬ ((zs.getD j (0, 0)).1 - 1 ≤ b ∧ b < (zs.getD j (0, 0)).2)) → prefL zs b = b := by
  intro zs
  induction zs with
  | nil => intro b _; rfl
  | cons r t ih =>
    intro b h
    unfold prefL
    rw [if_neg (by simpa using h 0 (by simp)), ih b fun j hj => by simpa using h (j + 1) (by simpa using hj)]
def prefZ (zs : List (Int × Int)) (b : Int) : Int := if Ok (-1) zs then prefL zs b else b
set_option maxHeartbeats 1600000 in
theorem rprefix_any (sa : Option Addr) (len cap : Nat) (zs : List (Int × Int)) (n : Int) (w : World) (hm : len ≤ 1000) (hr : ReadsA w sa len zs) :
    Calls Try.prog 15 #[.slice sa len cap, .int .i64 n] w fun e w' => e = .returned (.int .i64 (prefZ zs n)) ∧ Grew w w' := by
  have hmix := mixed
  have HZ := Lib.hid hr.1
  have HR := Lib.hid hr; clear hr
  by_cases ok : Ok (-1) zs
  · have HC := Lib.hid (chk_yes ok)
    have HP := Lib.hid (show prefZ zs n = prefL zs n from if_pos ok)
    have HO := Lib.hid ok; clear ok
    go_enter Try.func15, Try.ntmps15
    go_wp2_with (go_at_call 9; refine (rcheck_any sa len cap zs _ hm HR.out).mono ?_; rintro e w1 ⟨rfl, hg⟩; rw [HC.out]; have HG1 := Lib.hid hg; clear hg)
    go_loopg [5] len (fun gg i wr => ∃ k : Nat, k + gg = len ∧ i = .int .i64 k ∧ Hid (∀ j, j < k → ¬ ((zs.getD j (0, 0)).1 - 1 ≤ n ∧ n < (zs.getD j (0, 0)).2)) ∧ Hid (Grew w wr))
    case atStart => exact ⟨0, by omega, rfl, Lib.hid (fun j hj => absurd hj (by omega)), HG1⟩
    case round =>
      obtain ⟨k, hk, rfl, HN, HG⟩ := hrel
      by_cases hlt : k < len
      · obtain ⟨b, off, rfl, g⟩ := (HR.out.later HG.out.below).2 (by omega)
        obtain ⟨l0, l1⟩ := g k hlt
        obtain ⟨a1, a2, a3, _⟩ := (ok_at zs (-1)).1 HO.out k (by rw [← HZ.out]; exact hlt)
        clear g
        have HH := Lib.hid (prefL_hit zs n k (by rw [← HZ.out]; exact hlt) HN.out)
        have HS := Lib.hid (fun (h : ¬ ((zs.getD k (0, 0)).1 - 1 ≤ n ∧ n < (zs.getD k (0, 0)).2)) (j : Nat) (hj : j < k + 1) => (show ¬ ((zs.getD j (0, 0)).1 - 1 ≤ n ∧ n < (zs.getD j (0, 0)).2) by
          by_cases e : j = k
          · rw [e]; exact h
          · exact HN.out j (by omega)))
        obtain ⟨x, hx⟩ : ∃ x, x = zs.getD k (0, 0) := ⟨_, rfl⟩
        rw [← hx] at l0 l1 a1 a2 a3 HH HS
        clear hx
        have i1 : (0 : Int) ≤ (k : Int) := by omega
        have i2 : (k : Int) < (len : Int) := by omega
        have i3 : x.1 ≤ 1000000 := by omega
        by_cases q1 : x.1 - 1 ≤ n
        · have d1 : decide (x.1 - 1 ≤ n) = true := decide_eq_true q1
          by_cases q2 : n < x.2
          · have d2 : decide (n < x.2) = true := decide_eq_true q2
            have HE := Lib.hid (HP.out.trans (HH.out ⟨q1, q2⟩))
            clear q1 q2
            go_wp2
            go_ret
            exact ⟨ret_int HE.out.symm, HG.out⟩
          · have d2 : decide (n < x.2) = false := decide_eq_false q2
            have HE := Lib.hid (HS.out (fun h => q2 h.2))
            clear q1 q2
            go_wp2
            go_roundg (gk - 1)
            case measure => omega
            case rel => exact ⟨k + 1, by omega, by go_num, HE, HG⟩
        · have d1 : decide (x.1 - 1 ≤ n) = false := decide_eq_false q1
          have HE := Lib.hid (HS.out (fun h => q1 h.1))
          clear q1
          go_wp2
          go_roundg (gk - 1)
          case measure => omega
          case rel => exact ⟨k + 1, by omega, by go_num, HE, HG⟩
      · obtain rfl : k = len := by omega
        have HE := Lib.hid (HP.out.trans (prefL_none zs n fun j hj => HN.out j (by rw [HZ.out]; exact hj)))
        go_wp2
        go_ret
        exact ⟨ret_int HE.out.symm, HG.out⟩
  · have HC := Lib.hid (show chkZ zs = 2 from if_neg ok)
    have HE := Lib.hid (show prefZ zs n = n from if_neg ok)
    clear ok
    go_enter Try.func15, Try.ntmps15
    go_wp2_with (go_at_call 9; refine (rcheck_any sa len cap zs _ hm HR.out).mono ?_; rintro e w1 ⟨rfl, hg⟩; rw [HC.out])
    go_ret
    exact ⟨ret_int HE.out.symm, hg⟩

/-! ### Same, fits -/
set_option maxHeartbeats 1600000 in
theorem same_yes (sa sb : Option Addr) (len ca cb : Nat) (zs : List (Int × Int)) (w : World) (hm : len ≤ 10000) (ha : ReadsA w sa len zs) (hb : ReadsA w sb len zs) :
    Calls Try.prog 16 #[.slice sa len ca, .slice sb len cb] w fun e w' => e = .returned (.bool true) ∧ Grew w w' := by
  have hmix := mixed
  have e0 : ((len : Int) != (len : Int)) = false := by simp
  have HA := Lib.hid ha; clear ha
  have HB := Lib.hid hb; clear hb
  go_enter Try.func16, Try.ntmps16
  go_wp2
  go_loopg [5] len (fun gg i wr => ∃ k : Nat, k + gg = len ∧ i = .int .i64 k ∧ Hid (Grew w wr))
  case atStart => exact ⟨0, by omega, rfl, Lib.hid (Grew.refl _)⟩
  case round =>
    obtain ⟨k, hk, rfl, HG⟩ := hrel
    by_cases hlt : k < len
    · obtain ⟨ba, oa, rfl, ga⟩ := (HA.out.later HG.out.below).2 (by omega)
      obtain ⟨bb, ob, rfl, gb⟩ := (HB.out.later HG.out.below).2 (by omega)
      obtain ⟨l0, l1⟩ := ga k hlt
      obtain ⟨l2, l3⟩ := gb k hlt
      clear ga gb
      generalize zs.getD k (0, 0) = x at *
      have i1 : (0 : Int) ≤ (k : Int) := by omega
      have i2 : (k : Int) < (len : Int) := by omega
      go_wp2
      go_quiet (fail)
      go_wp2
      go_roundg (gk - 1)
      case measure => omega
      case rel => exact ⟨k + 1, by omega, by go_num, Lib.hid (grew_quiet HG.out nq)⟩
    · obtain rfl : k = len := by omega
      go_wp2
      go_ret
      exact ⟨rfl, HG.out⟩
theorem fits_yes (sa : Option Addr) (len cap : Nat) (v : Value) (w : World) (hm : len ≤ 1000) :
    Calls Try.prog 32 #[.slice sa len cap, v] w fun e w' => e = .returned (.slice sa len cap) ∧ w' = w := by
  have hm3 : decide ((len : Int) > 1000) = false := decide_eq_false (by omega)
  go_enter Try.func32, Try.ntmps32
  go_wp2
  go_ret
  exact ⟨rfl, rfl⟩
end Go.Proofs.Ytdihbkhhhonlpaa
