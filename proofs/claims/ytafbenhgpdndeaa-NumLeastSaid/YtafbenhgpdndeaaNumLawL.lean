/- The walk of the law NumLeast, upon the program's functions (Impl). -/
import Derived.Test.YtafbenhgpdndeaaNumLawB
namespace Go.Proofs.Ytafbenhgpdndeaa
open Go.RowKit Go.Sort

attribute [local go_sem ↓] Go.wp_at_zero Go.wp_at_succ

theorem cut_bs (s : ByteArray) (m u : Nat) (_h : m + u ≤ s.size) : (s.extract m (m + u)) = bs ((s.data.toList.drop m).take u) := by
  apply ByteArray.ext
  simp only [bs, ByteArray.data_extract]
  apply Array.toList_inj.1
  simp [List.take_drop, List.extract]
theorem least_get {s : ByteArray} {a : Int} (h : (getZ s a).2.2 = 0) : ∃ m x u : Nat, a = m ∧ getZ s a = ((x : Int), (m : Int) + u, 0) ∧ m + u ≤ s.size ∧ 0 < u ∧ x < 9223372036854775808 ∧ s.extract m (m + u) = bs (putL x) := by
  obtain ⟨m, n, u, rfl, hm, hp, hg, hmu⟩ := getZ_zero h
  obtain ⟨h1, h2, h3, h4⟩ := parse_least hp
  exact ⟨m, n, u, rfl, hg, hmu, h3, h4, by rw [cut_bs s m u hmu, h1]⟩
theorem least_unrow {s : ByteArray} {a most : Int} (h : (unrowZ s a most).2.2 = 0) : ∃ (m u : Nat) (l : List Int), a = m ∧ unrowZ s a most = (l, (m : Int) + u, 0) ∧ m + u ≤ s.size ∧ 0 < u ∧ okL l = true ∧ (∀ x ∈ l, x ≤ 9223372036854775807) ∧ s.extract m (m + u) = bs (rowP l) := by
  by_cases q0 : (getZ s a).2.2 = 0
  · obtain ⟨m, n, u, rfl, hm, hp, hg, hmu⟩ := getZ_zero q0
    obtain ⟨h1, h2, h3, h4⟩ := parse_least hp
    unfold unrowZ at h ⊢
    rw [hg] at h ⊢
    simp only at h ⊢
    rw [if_neg (by simp)] at h ⊢
    by_cases q1 : 1000 < (n : Int) ∨ (most < (n : Int) ∧ 0 < (n : Int))
    · rw [if_pos q1] at h; simp at h
    rw [if_neg q1] at h ⊢
    rw [Int.toNat_natCast, show ((m : Int) + (u : Nat)).toNat = m + u by omega] at h ⊢
    obtain ⟨⟨l, c, e⟩, hi⟩ : ∃ r, items n (s.data.toList.drop (m + u)) = r := ⟨_, rfl⟩
    rw [hi] at h ⊢
    simp only at h ⊢
    by_cases q2 : e = 0
    · subst q2
      rw [if_pos rfl]
      obtain ⟨a1, a2, a3, a4⟩ := items_least n hi
      rw [List.length_drop, list_len] at a3
      have hmap : (l.map Int.ofNat).flatMap putZ = l.flatMap putL := by
        rw [flat_nats _ (fun x hx => by obtain ⟨y, _, rfl⟩ := List.mem_map.1 hx; exact Int.natCast_nonneg y), List.map_map]
        congr 1
        conv => rhs; rw [← List.map_id l]
        exact List.map_congr_left fun x _ => rfl
      refine ⟨m, u + c, l.map Int.ofNat, rfl, by simp only [Prod.mk.injEq, true_and, and_true]; omega, by omega, by omega, ?_, fun x hx => ?_, ?_⟩
      · exact List.all_eq_true.2 fun x hx => by obtain ⟨y, _, rfl⟩ := List.mem_map.1 hx; simp
      · obtain ⟨y, hy, rfl⟩ := List.mem_map.1 hx
        have := a4 y hy
        show ((y : Nat) : Int) ≤ _
        omega
      · rw [cut_bs s m (u + c) (by omega), show rowP (l.map Int.ofNat) = putL (l.map Int.ofNat).length ++ (l.map Int.ofNat).flatMap putZ from rfl, List.length_map, a1, hmap, List.take_add, h1, List.drop_drop, a2]
    · rw [if_neg q2] at h
      simp only at h
      omega
  · unfold unrowZ at h
    rw [if_pos q0] at h
    exact absurd h q0
theorem size_le {n : Int} {x : Nat} (h0 : 0 ≤ n) (h : n ≤ x) : (putZ n).length ≤ (putZ (x : Int)).length := by
  unfold putZ
  rw [if_neg (by omega), if_neg (by omega), Int.toNat_natCast]
  exact putL_mono (by omega)

theorem least_long (I : Impl) (s : ByteArray) (a n : Int) (w : World) (hm : 6000 < s.size) :
    Calls Try.prog 6 #[.string s, .int .i64 a, .int .i64 n] w fun e w' => e = .returned (.bool true) ∧ RowKit.Below w.heap.size w w' := by
  have hm3 : decide ((s.size : Int) > 6000) = true := decide_eq_true (by omega)
  have HI := Lib.hid I; clear I
  go_enter Try.func6, Try.ntmps6
  go_wp2_with (go_at_call 7; refine (awake_any HI.out _).mono ?_; rintro e w1 ⟨rfl, hb⟩)
  go_ret
  exact ⟨rfl, hb⟩

set_option maxRecDepth 100000 in
set_option maxHeartbeats 6400000 in
theorem least_walk (I : Impl) (s : ByteArray) (a n : Int) (w : World) (hs : s.size ≤ 6000) (hn : n ≤ 9223372036854775807) :
    Calls Try.prog 6 #[.string s, .int .i64 a, .int .i64 n] w fun e w' => e = .returned (.bool true) ∧ RowKit.Below w.heap.size w w' := by
  have hm3 : decide ((s.size : Int) > 6000) = false := decide_eq_false (by omega)
  have HI := Lib.hid I; clear I
  have HN := Lib.hid hn; clear hn
  have HS := Lib.hid (show s.size ≤ 100000 by omega)
  have hs2 : (s.size : Int) ≤ 6000 := by omega
  obtain ⟨⟨g1, g2, g3⟩, hg⟩ : ∃ g, g = getZ s a := ⟨_, rfl⟩
  have EG := Lib.hid hg
  obtain ⟨⟨l1, l2, l3⟩, hl⟩ : ∃ g, g = unrowZ s a 1000 := ⟨_, rfl⟩
  have EL := Lib.hid hl
  clear hg hl
  go_enter Try.func6, Try.ntmps6
  go_upto_if 29 with (go_at_call 10; (with_reducible refine (HI.out.get s a _ HS.out).mono ?_); rintro e w1 ⟨rfl, hb1⟩; rw [← EG.out]; have HB1 := Lib.hid hb1; clear hb1)
  go_cut [10] (fun v10 wx => Hid (RowKit.Below w.heap.size w wx))
  case first =>
    by_cases q0 : g3 = 0
    · subst q0
      obtain ⟨m, x, u, rfl, hg, h1, h2, h3, h4⟩ := least_get (s := s) (a := a) (by rw [← EG.out])
      rw [← EG.out] at hg
      simp only [Prod.mk.injEq, and_true] at hg
      obtain ⟨rfl, hg2⟩ := hg
      obtain ⟨t0, ht0⟩ : ∃ t0 : Nat, t0 = m + u := ⟨_, rfl⟩
      rw [← ht0] at h1 h4
      obtain rfl : g2 = (t0 : Int) := by omega
      obtain ⟨T, hT⟩ : ∃ T, T = bs (putL x) := ⟨_, rfl⟩
      rw [← hT] at h4
      have NX := Lib.hid (show ((x : Nat) : Int) ≤ 9223372036854775807 by omega)
      have HPE := Lib.hid (show putE ((x : Nat) : Int) = 0 from if_neg (by omega))
      have HPT := Lib.hid (show bs (putZ ((x : Nat) : Int)) = T by rw [hT]; unfold putZ; rw [if_neg (by omega), Int.toNat_natCast])
      have d1 : decide (t0 ≤ m) = false := decide_eq_false (by omega)
      have d2 : decide (s.size < t0) = false := decide_eq_false (by omega)
      have i1 : (0 : Int) ≤ (m : Int) := by omega
      have i2 : (m : Int) ≤ (t0 : Int) := by omega
      have i3 : (t0 : Int) ≤ (s.size : Int) := by omega
      have i4 : m ≤ t0 := by omega
      have i5 : t0 ≤ s.size := h1
      have HX3 := Lib.hid h3
      clear hg2 ht0 hT h1 h2 h3 EG
      by_cases q1 : 0 ≤ n
      · have d3 : decide (n ≥ 0) = true := decide_eq_true q1
        by_cases q2 : n ≤ (x : Int)
        · have d4 : decide (n ≤ (x : Int)) = true := decide_eq_true q2
          have hle := size_le q1 q2
          have d5 : decide ((putZ (x : Int)).length < (putZ n).length) = false := decide_eq_false (by omega)
          clear q1 q2 hle
          go_wp2_with (first
            | (go_at_call 8; (with_reducible refine (HI.out.put (x : Int) _ NX.out).mono ?_); rintro e w2 ⟨rfl, hb2⟩; rw [HPE.out, HPT.out]; have HB2 := Lib.hid (HB1.out.trans (hb2.mono HB1.out.size)); clear hb2)
            | (go_at_call 12; (with_reducible refine (HI.out.size n _ HN.out).mono ?_); rintro e w3 ⟨rfl, hb3⟩; have HB3 := Lib.hid (HB2.out.trans (hb3.mono HB2.out.size)); clear hb3)
            | (go_at_call 12; (with_reducible refine (HI.out.size (x : Int) _ NX.out).mono ?_); rintro e w4 ⟨rfl, hb4⟩; have HB4 := Lib.hid (HB3.out.trans (hb4.mono HB3.out.size)); clear hb4))
          go_meet
          case rel => exact HB4
        · have d4 : decide (n ≤ (x : Int)) = false := decide_eq_false q2
          clear q1 q2
          go_wp2_with (go_at_call 8; (with_reducible refine (HI.out.put (x : Int) _ NX.out).mono ?_); rintro e w2 ⟨rfl, hb2⟩; rw [HPE.out, HPT.out]; have HB2 := Lib.hid (HB1.out.trans (hb2.mono HB1.out.size)); clear hb2)
          go_meet
          case rel => exact HB2
      · have d3 : decide (n ≥ 0) = false := decide_eq_false q1
        clear q1
        go_wp2_with (go_at_call 8; (with_reducible refine (HI.out.put (x : Int) _ NX.out).mono ?_); rintro e w2 ⟨rfl, hb2⟩; rw [HPE.out, HPT.out]; have HB2 := Lib.hid (HB1.out.trans (hb2.mono HB1.out.size)); clear hb2)
        go_meet
        case rel => exact HB2
    · have d1 : (g3 == 0) = false := by simpa using q0
      clear q0
      simp only [d1]
      go_wp2_with fail
      go_meet
      case rel => exact HB1
  case rest =>
  have HBW := Lib.hid hcut.out
  clear hcut
  by_cases q0 : l3 = 0
  · subst q0
    obtain ⟨m, u, l, rfl, hl, h1, h2, h3, h4, h5⟩ := least_unrow (s := s) (a := a) (most := 1000) (by rw [← EL.out])
    rw [← EL.out] at hl
    simp only [Prod.mk.injEq, and_true] at hl
    obtain ⟨rfl, hl2⟩ := hl
    obtain ⟨t0, ht0⟩ : ∃ t0 : Nat, t0 = m + u := ⟨_, rfl⟩
    rw [← ht0] at h1 h5
    obtain rfl : l2 = (t0 : Int) := by omega
    obtain ⟨T, hT⟩ : ∃ T, T = bs (rowP l1) := ⟨_, rfl⟩
    rw [← hT] at h5
    have NU := Lib.hid (show l1.length ≤ 10000 by have := unrow_len s m 1000; rw [← EL.out] at this; exact this)
    have HRE := Lib.hid (show rowE l1 = 0 from if_pos h3)
    have HRT := Lib.hid (show bs (rowZ l1) = T by rw [hT]; unfold rowZ; rw [if_pos h3])
    have H4 := Lib.hid h4
    have d1 : decide (t0 ≤ m) = false := decide_eq_false (by omega)
    have d2 : decide (s.size < t0) = false := decide_eq_false (by omega)
    have i1 : (0 : Int) ≤ (m : Int) := by omega
    have i2 : (m : Int) ≤ (t0 : Int) := by omega
    have i3 : (t0 : Int) ≤ (s.size : Int) := by omega
    have i4 : m ≤ t0 := by omega
    have i5 : t0 ≤ s.size := h1
    clear hl2 ht0 hT h1 h2 h3 h4
    go_wp2_with (first
      | (go_at_call 15; (with_reducible refine (HI.out.unrow s m 1000 _ HS.out).mono ?_); rintro e w5 ⟨v, rfl, h, hb5⟩; rw [← EL.out] at h ⊢; obtain ⟨s5, k5, rfl, h⟩ := h; have HR5 := Lib.hid h; have HB5 := Lib.hid (HBW.out.trans (hb5.mono HBW.out.size)); clear h hb5)
      | (go_at_call 13; (with_reducible refine (HI.out.row s5 _ k5 l1 _ NU.out H4.out HR5.out).mono ?_); rintro e w6 ⟨rfl, hb6⟩; rw [HRE.out, HRT.out]; have HB6 := Lib.hid (HB5.out.trans (hb6.mono HB5.out.size)); clear hb6)
      | (go_at_call 7; refine (awake_any HI.out _).mono ?_; rintro e w7 ⟨rfl, hb7⟩; have HB7 := Lib.hid (HB6.out.trans (hb7.mono HB6.out.size)); clear hb7))
    go_ret
    exact ⟨rfl, HB7.out⟩
  · have d1 : (l3 == 0) = false := by simpa using q0
    clear q0
    go_wp2_with (first
      | (go_at_call 15; (with_reducible refine (HI.out.unrow s a 1000 _ HS.out).mono ?_); rintro e w5 ⟨v, rfl, h, hb5⟩; rw [← EL.out] at h ⊢; have HB5 := Lib.hid (HBW.out.trans (hb5.mono HBW.out.size)); clear h hb5)
      | (go_at_call 7; refine (awake_any HI.out _).mono ?_; rintro e w7 ⟨rfl, hb7⟩; have HB7 := Lib.hid (HB5.out.trans (hb7.mono HB5.out.size)); clear hb7))
    go_ret
    exact ⟨rfl, HB7.out⟩
end Go.Proofs.Ytafbenhgpdndeaa
