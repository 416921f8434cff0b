/- The walk of the law RangesPrefix, upon the program's functions (Impl). -/
import Derived.Test.YtdihbkhhhonlpaaRngLawA
namespace Go.Proofs.Ytdihbkhhhonlpaa
open Go.RowKit Go.Sort

attribute [local go_sem ↓] Go.wp_at_zero Go.wp_at_succ

/-! ### The prefix -/
theorem prefL_low : ∀ (l : List (Int × Int)) (b : Int), (∀ r ∈ l, b < r.1 - 1) → prefL l b = b := by
  intro l
  induction l with
  | nil => intro b _; rfl
  | cons r t ih =>
    intro b h
    unfold prefL
    have := h r (by simp)
    rw [if_neg (by omega), ih b fun s hs => h s (by simp [hs])]
theorem prefL_all : ∀ (l : List (Int × Int)) (q b : Int), Ok q l → b ≤ prefL l b ∧ (prefL l b = b ∨ prefL l b ≤ 1000000) ∧ inB l (prefL l b + 1) = false ∧ ∀ n, b < n → n ≤ prefL l b → inB l n = true := by
  intro l
  induction l with
  | nil => intro q b _; exact ⟨Int.le_refl _, Or.inl rfl, rfl, fun n h1 h2 => absurd h2 (by show ¬ n ≤ b; omega)⟩
  | cons r t ih =>
    intro q b ⟨h1, h2, h3, h4, h5⟩
    unfold prefL
    by_cases hh : r.1 - 1 ≤ b ∧ b < r.2
    · rw [if_pos hh]
      refine ⟨by omega, Or.inr h2, ?_, fun n a b' => ?_⟩
      · rw [inB_cons, decide_eq_false (by omega : ¬ r.2 + 1 ≤ r.2), Bool.and_false, Bool.false_or]
        cases e : inB t (r.2 + 1) with
        | false => rfl
        | true => have := ok_in h5 e; omega
      · rw [inB_cons, decide_eq_true (by omega : r.1 ≤ n), decide_eq_true b']; rfl
    · rw [if_neg hh]
      obtain ⟨a, b1, c, d⟩ := ih r.2 b h5
      refine ⟨a, b1, ?_, fun n x y => by rw [inB_cons, d n x y, Bool.or_true]⟩
      rw [inB_cons, c, Bool.or_false]
      by_cases q2 : r.2 ≤ b
      · rw [decide_eq_false (by omega : ¬ prefL t b + 1 ≤ r.2), Bool.and_false]
      · have : prefL t b = b := prefL_low t b fun s hs => by have := (ok_mem h5 s hs).2.2.2; omega
        rw [this, decide_eq_false (by omega : ¬ r.1 ≤ b + 1), Bool.false_and]
theorem lessZ_is {za : List (Int × Int)} (h : Ok (-1) za) (r : Int × Int) : Is (lessZ za r) (setOf za [r]) := by
  rw [show lessZ za r = ofL za [r] from if_pos h]; exact ofL_is _ _
theorem gapsZ_is {za : List (Int × Int)} (h : Ok (-1) za) (lo hi : Int) : Is (gapsZ za lo hi) (setOf [(lo, hi)] za) := by
  rw [show gapsZ za lo hi = ofL [(lo, hi)] za from if_pos h]; exact ofL_is _ _
theorem inB_single (r : Int × Int) (n : Int) : inB [r] n = (decide (r.1 ≤ n) && decide (n ≤ r.2)) := by rw [inB_cons, inB_nil, Bool.or_false]
theorem less_has {za : List (Int × Int)} (h : Ok (-1) za) (r : Int × Int) (n : Int) (h1 : 1 ≤ n) (h2 : n ≤ 1000000) : hasB (lessZ za r) n = (inB za n && !(decide (r.1 ≤ n) && decide (n ≤ r.2))) := by
  unfold hasB
  rw [decide_eq_true (lessZ_is h r).1, (lessZ_is h r).2 n]
  unfold setOf
  rw [decide_eq_true h1, decide_eq_true h2, inB_single]; rfl
theorem gaps_has {za : List (Int × Int)} (h : Ok (-1) za) (lo hi n : Int) (h1 : 1 ≤ n) (h2 : n ≤ 1000000) : hasB (gapsZ za lo hi) n = ((decide (lo ≤ n) && decide (n ≤ hi)) && !inB za n) := by
  unfold hasB
  rw [decide_eq_true (gapsZ_is h lo hi).1, (gapsZ_is h lo hi).2 n]
  unfold setOf
  rw [decide_eq_true h1, decide_eq_true h2, inB_single]; rfl
theorem has_ok {za : List (Int × Int)} (h : Ok (-1) za) (n : Int) : hasB za n = inB za n := by unfold hasB; rw [decide_eq_true h]; rfl
theorem gaps_none {za : List (Int × Int)} (h : Ok (-1) za) (b : Int) : gapsZ za (b + 1) (prefL za b) = [] := by
  refine is_one (gapsZ_is h _ _) (T := fun _ => false) ⟨trivial, fun _ => rfl⟩ fun n => ?_
  unfold setOf
  rw [inB_single]
  by_cases q : b + 1 ≤ n
  · by_cases q2 : n ≤ prefL za b
    · rw [(prefL_all za _ b h).2.2.2 n (by omega) q2]; simp
    · simp [q2]
  · simp [q]
theorem pref_more {za : List (Int × Int)} (h : Ok (-1) za) (b : Int) (hb : 0 ≤ b) (hp : prefL za b < 1000000) : prefL za b < prefZ (addZ za [(prefL za b + 1, prefL za b + 1)]) b := by
  obtain ⟨a, _, c, d⟩ := prefL_all za _ b h
  have hi := addZ_is h [(prefL za b + 1, prefL za b + 1)]
  obtain ⟨a', _, c', _⟩ := prefL_all _ _ b hi.1
  rw [show prefZ (addZ za [(prefL za b + 1, prefL za b + 1)]) b = prefL (addZ za [(prefL za b + 1, prefL za b + 1)]) b from if_pos hi.1]
  refine Int.not_le.1 fun hle => ?_
  rw [hi.2] at c'
  generalize prefL (addZ za [(prefL za b + 1, prefL za b + 1)]) b = p' at *
  simp only at c'
  rw [inB_single, decide_eq_true (by omega : (1 : Int) ≤ p' + 1), decide_eq_true (by omega : p' + 1 ≤ 1000000)] at c'
  by_cases e : p' = prefL za b
  · simp [e] at c'
  · rw [d (p' + 1) (by omega) (by omega)] at c'; simp at c'
theorem less_count {za : List (Int × Int)} (h : Ok (-1) za) (r : Int × Int) : cntZ (lessZ za r) ≤ cntZ za := by
  rw [show cntZ (lessZ za r) = countL (lessZ za r) from if_pos (lessZ_is h r).1, show cntZ za = countL za from if_pos h]
  refine count_le (lessZ_is h r).1 h fun n hn => ?_
  rw [(lessZ_is h r).2 n] at hn
  unfold setOf at hn
  simp at hn
  exact hn.2.1

theorem prefix_not (I : Impl) (sa : Option Addr) (na ca : Nat) (za : List (Int × Int)) (b : Int) (r : Int × Int) (w : World) (hA : ArgA w sa na ca za) (h : 200 < na ∨ ¬ Ok (-1) za ∨ b < 0 ∨ 1000000 ≤ b) :
    Calls Try.prog 6 #[.slice sa na ca, .int .i64 b, .agg #[.int .i64 r.1, .int .i64 r.2]] w fun e w' => e = .returned (.bool true) ∧ RowKit.Below w.heap.size w w' := by
  have HI := Lib.hid I; clear I
  have h0 := (Below.refl w.heap.size w).alloc (Nat.le_refl _) (.cells #[.int .i64 r.1, .int .i64 r.2] 33)
  by_cases q : 200 < na
  · have hm3 : decide ((na : Int) > 200) = true := decide_eq_true (by omega)
    clear h q
    go_enter Try.func6, Try.ntmps6
    go_wp2_with (go_at_call 7; refine (awake_any HI.out _).mono ?_; rintro e w1 ⟨rfl, hb⟩)
    go_ret
    exact ⟨rfl, h0.trans (hb.mono (by simp))⟩
  have hm3 : decide ((na : Int) > 200) = false := decide_eq_false (by omega)
  have HA := Lib.hid (hA.later h0); clear hA
  have N1 := Lib.hid (show na ≤ 1000 by omega)
  have H0 := Lib.hid h0; clear h0
  by_cases ok : Ok (-1) za
  · have HC := Lib.hid (chk_yes ok)
    have h2 : b < 0 ∨ 1000000 ≤ b := by
      rcases h with h | h | h
      · exact absurd h q
      · exact absurd ok h
      · exact h
    clear h ok
    by_cases q2 : b < 0
    · have d1 : decide (b < 0) = true := decide_eq_true q2
      clear h2 q2 q
      go_enter Try.func6, Try.ntmps6
      go_wp2_with (first
        | (go_at_call 8; refine (HI.out.check sa na ca za _ N1.out HA.out).mono ?_; rintro e w1 ⟨rfl, hb⟩; rw [HC.out]; have HB1 := Lib.hid (H0.out.trans (hb.mono H0.out.size)); clear hb)
        | (go_at_call 7; refine (awake_any HI.out _).mono ?_; rintro e w2 ⟨rfl, hb⟩))
      go_ret
      exact ⟨rfl, HB1.out.trans (hb.mono HB1.out.size)⟩
    · have d1 : decide (b < 0) = false := decide_eq_false q2
      have d2 : decide (b ≥ 1000000) = true := decide_eq_true (by omega)
      clear h2 q2 q
      go_enter Try.func6, Try.ntmps6
      go_wp2_with (first
        | (go_at_call 8; refine (HI.out.check sa na ca za _ N1.out HA.out).mono ?_; rintro e w1 ⟨rfl, hb⟩; rw [HC.out]; have HB1 := Lib.hid (H0.out.trans (hb.mono H0.out.size)); clear hb)
        | (go_at_call 7; refine (awake_any HI.out _).mono ?_; rintro e w2 ⟨rfl, hb⟩))
      go_ret
      exact ⟨rfl, HB1.out.trans (hb.mono HB1.out.size)⟩
  · have HC := Lib.hid (show chkZ za = 2 from if_neg ok)
    clear h ok q
    go_enter Try.func6, Try.ntmps6
    go_wp2_with (first
      | (go_at_call 8; refine (HI.out.check sa na ca za _ N1.out HA.out).mono ?_; rintro e w1 ⟨rfl, hb⟩; rw [HC.out]; have HB1 := Lib.hid (H0.out.trans (hb.mono H0.out.size)); clear hb)
      | (go_at_call 7; refine (awake_any HI.out _).mono ?_; rintro e w2 ⟨rfl, hb⟩))
    go_ret
    exact ⟨rfl, HB1.out.trans (hb.mono HB1.out.size)⟩

set_option maxRecDepth 100000 in
set_option maxHeartbeats 6400000 in
theorem prefix_walk (I : Impl) (sa : Option Addr) (na ca : Nat) (za : List (Int × Int)) (b r1 r2 : Int) (w : World) (hna : na ≤ 200) (hA : ArgA w sa na ca za) (ok : Ok (-1) za) (hb0 : 0 ≤ b) (hb1 : b < 1000000) :
    Calls Try.prog 6 #[.slice sa na ca, .int .i64 b, .agg #[.int .i64 r1, .int .i64 r2]] w fun e w' => e = .returned (.bool true) ∧ RowKit.Below w.heap.size w w' := by
  have hmix := mixed
  have hm3 : decide ((na : Int) > 200) = false := decide_eq_false (by omega)
  have d1 : decide (b < 0) = false := decide_eq_false (by omega)
  have d2 : decide (b ≥ 1000000) = false := decide_eq_false (by omega)
  have HI := Lib.hid I; clear I
  have hla := hA.1.1
  have HC := Lib.hid (chk_yes ok)
  obtain ⟨p1, p2, p3, p4⟩ := prefL_all za _ b ok
  have HP := Lib.hid (show prefZ za b = prefL za b from if_pos ok)
  have HH1 := Lib.hid ((has_ok ok (prefL za b + 1)).trans p3)
  have HGE := Lib.hid (gaps_none ok b)
  have HMO := Lib.hid (fun hp => pref_more ok b hb0 hp)
  have NZA := Lib.hid (addZ_le za [(prefL za b + 1, prefL za b + 1)] (by simp; omega))
  have NG1 := Lib.hid (gapsZ_le za (b + 1) (prefL za b) (by omega))
  have hp2 : prefL za b ≤ 1000000 := by omega
  clear p2 p3 p4
  generalize prefL za b = p at *
  have NZ2 := Lib.hid (lessZ_le za (r1, r2) (by omega))
  have NZ3 := Lib.hid (gapsZ_le za r1 r2 (by omega))
  have HCN := Lib.hid (less_count ok (r1, r2))
  have HLH := Lib.hid (less_has ok (r1, r2))
  have HGH := Lib.hid (gaps_has ok r1 r2)
  have HZH := Lib.hid (has_ok ok)
  have N1 := Lib.hid (show na ≤ 1000 by omega)
  have h0 := (Below.refl w.heap.size w).alloc (Nat.le_refl _) (.cells #[.int .i64 r1, .int .i64 r2] 33)
  have HA := Lib.hid (hA.later h0); clear hA
  have H0 := Lib.hid h0; clear h0
  obtain ⟨w0, hw0⟩ : ∃ w0, w0 = w.alloc (.cells #[.int .i64 r1, .int .i64 r2] 33) := ⟨_, rfl⟩
  have c0 : w0.cell? ⟨w.heap.size, 0, none⟩ = some (.int .i64 r1) := by rw [hw0]; simp
  have c1 : w0.cell? ⟨w.heap.size, 1, none⟩ = some (.int .i64 r2) := by rw [hw0]; simp
  rw [← hw0] at HA H0
  have d3 : decide (p < b) = false := decide_eq_false (by omega)
  have CC := Lib.hid (And.intro c0 c1)
  have HW0 := Lib.hid hw0
  clear ok hla hw0 c0 c1
  go_enter Try.func6, Try.ntmps6
  go_upto_region 6 with (first
    | (go_at_call 8; rw [← HW0.out]; (with_reducible refine (HI.out.check sa na ca za _ N1.out HA.out).mono ?_); rintro e w1 ⟨rfl, hb⟩; rw [HC.out]; have HB1 := Lib.hid hb; clear hb)
    | (go_at_call 14; (with_reducible refine (HI.out.pref sa na ca za b _ N1.out (HA.out.later HB1.out)).mono ?_); rintro e w2 ⟨rfl, hb⟩; rw [HP.out]; have HB2 := Lib.hid (HB1.out.trans (hb.mono HB1.out.size)); clear hb)
    | (go_at_call 10; (with_reducible refine (HI.out.has sa na ca za (p + 1) _ N1.out (HA.out.later HB2.out)).mono ?_); rintro e w3 ⟨rfl, hb⟩; rw [HH1.out]; have HB3 := Lib.hid (HB2.out.trans (hb.mono HB2.out.size)); clear hb)
    | (go_at_call 17; (with_reducible refine (HI.out.gaps sa na ca za (b + 1) p _ N1.out NG1.out (HA.out.later HB3.out)).mono ?_); rintro e w4 ⟨v, rfl, h, hb⟩; rw [HGE.out] at h; obtain ⟨s4, k4, rfl, _⟩ := h; have HB4 := Lib.hid (HB3.out.trans (hb.mono HB3.out.size)); clear hb))
  go_cut [66] (fun v wx => v = .bool false ∧ Hid (RowKit.Below w0.heap.size w0 wx))
  case first =>
    by_cases q : p < 1000000
    · have d4 : decide (p < 1000000) = true := decide_eq_true q
      have hgt := HMO.out q
      have d5 : decide (prefZ (addZ za [(p + 1, p + 1)]) b ≤ p) = false := decide_eq_false (by omega)
      have HX := Lib.hid d5
      clear hgt d5 q
      go_wp2_with (first
        | (go_at_call 19; (with_reducible refine (HI.out.add sa na ca za _ 1 1 [(p + 1, p + 1)] _ N1.out (by decide) NZA.out (HA.out.later (HB4.out.alloc HB4.out.size _)) (arg_one w4 (p + 1, p + 1))).mono ?_); rintro e w5 ⟨v, rfl, h, hb⟩; obtain ⟨s5, k5, rfl, h⟩ := h; have H5 := Lib.hid h; have HB5 := Lib.hid ((HB4.out.alloc HB4.out.size (.cells #[.int .i64 (p + 1), .int .i64 (p + 1)] 33)).trans (hb.mono (Nat.le_trans HB4.out.size (by simp)))); clear h hb)
        | (go_at_call 14; (with_reducible refine (HI.out.pref s5 _ k5 (addZ za [(p + 1, p + 1)]) b _ NZA.out H5.out).mono ?_); rintro e w6 ⟨rfl, hb⟩; have d5 := HX.out; have HB6 := Lib.hid (HB5.out.trans (hb.mono HB5.out.size)); clear hb))
      go_meet
      case rel => exact ⟨rfl, HB6⟩
    · have d4 : decide (p < 1000000) = false := decide_eq_false q
      clear q
      go_wp2_with fail
      go_meet
      case rel => exact ⟨rfl, HB4⟩
  case rest =>
  obtain ⟨rfl, HBW⟩ := hcut
  go_wp2_with fail
  have c0 := keepc HBW.out CC.out.1
  have c1 := keepc HBW.out CC.out.2
  have HD := Lib.hid (HBW.out.drew)
  go_region_held3 (fun w' => w'.cell? ⟨w.heap.size, 0, none⟩ = some (.int .i64 r1) ∧ w'.cell? ⟨w.heap.size, 1, none⟩ = some (.int .i64 r2) ∧ Hid (RowKit.Below w0.heap.size w0 w'))
    (first
      | exact ⟨c0, c1, HD⟩
      | (go_split_ands; exact ⟨keepc hb (by assumption), keepc hb (by assumption), Lib.hid ((Hid.out (p := RowKit.Below w0.heap.size w0 _) (by assumption)).trans (hb.mono (Hid.out (p := RowKit.Below w0.heap.size w0 _) (by assumption)).size))⟩))
    (first
      | (go_at_call 21; go_split_ands; refine (HI.out.less sa na ca za (r1, r2) _ N1.out NZ2.out (HA.out.later (Hid.out (p := RowKit.Below w0.heap.size w0 _) (by assumption)))).mono ?_; rintro e w7 ⟨v, rfl, hl, hb⟩; obtain ⟨s7, k7, rfl, hl⟩ := hl)
      | (go_at_call 17; go_split_ands; refine (HI.out.gaps sa na ca za r1 r2 _ N1.out NZ3.out (HA.out.later (Hid.out (p := RowKit.Below w0.heap.size w0 _) (by assumption)))).mono ?_; rintro e w8 ⟨v, rfl, hg, hb⟩; obtain ⟨s8, k8, rfl, hg⟩ := hg; have HL8 := Lib.hid (hl.later hb); have HG8 := Lib.hid hg))
  go_split_ands
  have HB8 : Hid (RowKit.Below w0.heap.size w0 w8) := by assumption
  have m0 : w8.cell? ⟨w.heap.size, 0, none⟩ = some (.int .i64 r1) := by assumption
  have m1 : w8.cell? ⟨w.heap.size, 1, none⟩ = some (.int .i64 r2) := by assumption
  have MM := Lib.hid (And.intro m0 m1)
  have HA8 := Lib.hid (HA.out.later HB8.out)
  clear m0 m1 c0 c1
  go_wp2_with fail
  go_loopg [10] 3 (fun gg i wr => ∃ k : Nat, k + gg = 3 ∧ i = .int .i64 k ∧ Hid (RowKit.Below w8.heap.size w8 wr))
  case atStart => exact ⟨0, by omega, rfl, Lib.hid (Below.refl _ _)⟩
  case round =>
    obtain ⟨k, hk, rfl, HR⟩ := hrel
    by_cases hlt : k < 3
    · have n0 := keepc HR.out MM.out.1
      have n1 := keepc HR.out MM.out.2
      have d6 : decide ((k : Int) < 3) = true := decide_eq_true (by omega)
      go_upto_region 13 with (fail)
      obtain ⟨x, hx⟩ : ∃ x, x = p + (k : Int) := ⟨_, rfl⟩
      rw [← hx]
      have hx2 : x ≤ 1000002 := by omega
      have hx3 : 0 ≤ x := by omega
      clear hx
      go_cut [12] (fun iv wi => wi = wr ∧ iv = .bool (decide (r1 ≤ x) && decide (x ≤ r2)))
      case first =>
        by_cases q1 : r1 ≤ x
        · have e1 : decide (x ≥ r1) = true := decide_eq_true q1
          have e0 : decide (r1 ≤ x) = true := decide_eq_true q1
          by_cases q2 : x ≤ r2
          · have e2 : decide (x ≤ r2) = true := decide_eq_true q2
            have E0 := Lib.hid (And.intro e0 e2)
            clear q1 q2 e0
            go_wp2_with fail
            go_meet
            case rel => exact ⟨rfl, by rw [E0.out.1, E0.out.2]; rfl⟩
          · have e2 : decide (x ≤ r2) = false := decide_eq_false q2
            have E0 := Lib.hid (And.intro e0 e2)
            clear q1 q2 e0
            go_wp2_with fail
            go_meet
            case rel => exact ⟨rfl, by rw [E0.out.1, E0.out.2]; rfl⟩
        · have e1 : decide (x ≥ r1) = false := decide_eq_false q1
          have e0 : decide (r1 ≤ x) = false := decide_eq_false q1
          have E0 := Lib.hid e0
          clear q1 e0
          go_wp2_with fail
          go_meet
          case rel => exact ⟨rfl, by rw [E0.out]; rfl⟩
      case rest =>
      obtain ⟨ew, rfl⟩ := hcut
      obtain rfl := ew.symm
      clear n0 n1
      by_cases q1 : 1 ≤ x
      · have d7 : decide (x ≥ 1) = true := decide_eq_true q1
        by_cases q2 : x ≤ 1000000
        · have d8 : decide (x ≤ 1000000) = true := decide_eq_true q2
          have e1 := HLH.out x q1 q2
          have e2 := HZH.out x
          have e3 := HGH.out x q1 q2
          clear q1 q2
          generalize (decide (r1 ≤ x) && decide (x ≤ r2)) = i at *
          generalize inB za x = c at *
          have E1 := Lib.hid e1; have E2 := Lib.hid e2; have E3 := Lib.hid e3
          clear e1 e2 e3
          cases i <;> cases c <;> simp only [Bool.not_true, Bool.not_false, Bool.and_true, Bool.and_false] at E1 E2 E3
          all_goals
            go_wp2_with (first
              | (go_at_call 10; (with_reducible refine (HI.out.has s7 _ k7 (lessZ za (r1, r2)) x _ NZ2.out (HL8.out.later (Hid.out (p := RowKit.Below w8.heap.size w8 _) (by assumption)))).mono ?_); rintro e w9 ⟨rfl, hb⟩; rw [E1.out]; have HX := Lib.hid ((Hid.out (p := RowKit.Below w8.heap.size w8 _) (by assumption)).trans (hb.mono (Hid.out (p := RowKit.Below w8.heap.size w8 _) (by assumption)).size)); clear hb)
              | (go_at_call 10; (with_reducible refine (HI.out.has sa na ca za x _ N1.out (HA8.out.later (Hid.out (p := RowKit.Below w8.heap.size w8 _) (by assumption)))).mono ?_); rintro e w9 ⟨rfl, hb⟩; rw [E2.out]; have HX := Lib.hid ((Hid.out (p := RowKit.Below w8.heap.size w8 _) (by assumption)).trans (hb.mono (Hid.out (p := RowKit.Below w8.heap.size w8 _) (by assumption)).size)); clear hb)
              | (go_at_call 10; (with_reducible refine (HI.out.has s8 _ k8 (gapsZ za r1 r2) x _ NZ3.out (HG8.out.later (Hid.out (p := RowKit.Below w8.heap.size w8 _) (by assumption)))).mono ?_); rintro e w9 ⟨rfl, hb⟩; rw [E3.out]; have HX := Lib.hid ((Hid.out (p := RowKit.Below w8.heap.size w8 _) (by assumption)).trans (hb.mono (Hid.out (p := RowKit.Below w8.heap.size w8 _) (by assumption)).size)); clear hb))
            go_roundg (gk - 1)
            case measure => omega
            case rel => exact ⟨k + 1, by omega, by go_num, by assumption⟩
        · have d8 : decide (x ≤ 1000000) = false := decide_eq_false q2
          clear q1 q2
          go_wp2_with fail
          go_roundg (gk - 1)
          case measure => omega
          case rel => exact ⟨k + 1, by omega, by go_num, HR⟩
      · have d7 : decide (x ≥ 1) = false := decide_eq_false q1
        clear q1
        go_wp2_with fail
        go_roundg (gk - 1)
        case measure => omega
        case rel => exact ⟨k + 1, by omega, by go_num, HR⟩
    · obtain rfl : k = 3 := by omega
      have d9 : decide (cntZ (lessZ za (r1, r2)) ≤ cntZ za) = true := decide_eq_true HCN.out
      go_wp2_with (first
        | (go_at_call 12; (with_reducible refine (HI.out.count s7 _ k7 (lessZ za (r1, r2)) _ NZ2.out (HL8.out.later HR.out)).mono ?_); rintro e w9 ⟨rfl, hb⟩; have HR9 := Lib.hid (HR.out.trans (hb.mono HR.out.size)); clear hb)
        | (go_at_call 12; (with_reducible refine (HI.out.count sa na ca za _ N1.out (HA8.out.later HR9.out)).mono ?_); rintro e w10 ⟨rfl, hb⟩; have HR10 := Lib.hid (HR9.out.trans (hb.mono HR9.out.size)); clear hb)
        | (go_at_call 7; refine (awake_any HI.out _).mono ?_; rintro e w11 ⟨rfl, hb⟩; have HR11 := Lib.hid (HR10.out.trans (hb.mono HR10.out.size)); clear hb))
      go_ret
      exact ⟨rfl, H0.out.trans ((HB8.out.trans (HR11.out.mono HB8.out.size)).mono H0.out.size)⟩
end Go.Proofs.Ytdihbkhhhonlpaa
