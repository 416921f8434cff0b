/- The walk of the law RangesTells, upon the program's functions (Impl). -/
import Derived.Test.YtdihbkhhhonlpaaRngImpl
namespace Go.Proofs.Ytdihbkhhhonlpaa
open Go.RowKit Go.Sort

attribute [local go_sem ↓] Go.wp_at_zero Go.wp_at_succ

theorem gapsZ_le (zs : List (Int × Int)) (lo hi : Int) (h : zs.length ≤ 449) : (gapsZ zs lo hi).length ≤ 1000 := by
  unfold gapsZ; split
  · exact ofL_le _ _ (by simp; omega)
  · simp
theorem lessZ_le (zs : List (Int × Int)) (r : Int × Int) (h : zs.length ≤ 449) : (lessZ zs r).length ≤ 1000 := by
  unfold lessZ; split
  · exact ofL_le _ _ (by simp; omega)
  · simp
theorem addZ_le (za zb : List (Int × Int)) (h : za.length + zb.length ≤ 450) : (addZ za zb).length ≤ 1000 := by
  unfold addZ; split
  · exact ofL_le _ _ (by simp; omega)
  · simp

theorem tells_long (I : Impl) (sa : Option Addr) (len cap : Nat) (a b : Int) (w : World) (hm : 200 < len) :
    Calls Try.prog 3 #[.slice sa len cap, .int .i64 a, .int .i64 b] w fun e w' => e = .returned (.bool true) ∧ RowKit.Below w.heap.size w w' := by
  have hm3 : decide ((len : Int) > 200) = true := decide_eq_true (by omega)
  have HI := Lib.hid I; clear I
  go_enter Try.func3, Try.ntmps3
  go_wp2_with (go_at_call 7; refine (awake_any HI.out _).mono ?_; rintro e w1 ⟨rfl, hb⟩)
  go_ret
  exact ⟨rfl, hb⟩

set_option maxRecDepth 100000 in
set_option maxHeartbeats 3200000 in
theorem tells_walk (I : Impl) (sa : Option Addr) (len cap : Nat) (zs : List (Int × Int)) (a b : Int) (w : World) (hm : len ≤ 200) (hA : ArgA w sa len cap zs) :
    Calls Try.prog 3 #[.slice sa len cap, .int .i64 a, .int .i64 b] w fun e w' => e = .returned (.bool true) ∧ RowKit.Below w.heap.size w w' := by
  have hm3 : decide ((len : Int) > 200) = false := decide_eq_false (by omega)
  have HI := Lib.hid I; clear I
  have NG := Lib.hid (gapsZ_le zs a b (by have := hA.1.1; omega))
  have NS := Lib.hid (show (gapsZ zs a b).length ≤ 10000 by have := NG.out; omega)
  have HA := Lib.hid hA; clear hA
  have N1 := Lib.hid (show len ≤ 1000 by omega)
  have N2 := Lib.hid (show len ≤ 449 by omega)
  obtain ⟨c1, h1⟩ : ∃ c, c = chkZ zs := ⟨_, rfl⟩
  obtain ⟨c2, h2⟩ : ∃ c, c = hasB zs a := ⟨_, rfl⟩
  obtain ⟨c3, h3⟩ : ∃ c, c = cntZ zs := ⟨_, rfl⟩
  obtain ⟨c4, h4⟩ : ∃ c, c = prefZ zs a := ⟨_, rfl⟩
  have E1 := Lib.hid h1; have E2 := Lib.hid h2; have E3 := Lib.hid h3; have E4 := Lib.hid h4
  clear h1 h2 h3 h4
  go_enter Try.func3, Try.ntmps3
  go_wp2_with (first
    | (go_at_call 8; refine (HI.out.check sa len cap zs _ N1.out HA.out).mono ?_; rintro e w1 ⟨rfl, hb⟩; rw [← E1.out]; have HB1 := Lib.hid hb; clear hb)
    | (go_at_call 9; refine (rcheck_any sa len cap zs _ N1.out (HA.out.later HB1.out).1).mono ?_; rintro e w2 ⟨rfl, hb⟩; rw [← E1.out]; have HB2 := Lib.hid (HB1.out.trans (hb.below.mono HB1.out.size)); clear hb)
    | (go_at_call 10; refine (HI.out.has sa len cap zs a _ N1.out (HA.out.later HB2.out)).mono ?_; rintro e w3 ⟨rfl, hb⟩; rw [← E2.out]; have HB3 := Lib.hid (HB2.out.trans (hb.mono HB2.out.size)); clear hb)
    | (go_at_call 11; refine (rhas_any sa len cap zs a _ N1.out (HA.out.later HB3.out).1).mono ?_; rintro e w4 ⟨rfl, hb⟩; rw [← E2.out]; have HB4 := Lib.hid (HB3.out.trans (hb.below.mono HB3.out.size)); clear hb)
    | (go_at_call 12; refine (HI.out.count sa len cap zs _ N1.out (HA.out.later HB4.out)).mono ?_; rintro e w5 ⟨rfl, hb⟩; rw [← E3.out]; have HB5 := Lib.hid (HB4.out.trans (hb.mono HB4.out.size)); clear hb)
    | (go_at_call 13; refine (rcount_any sa len cap zs _ N1.out (HA.out.later HB5.out).1).mono ?_; rintro e w6 ⟨rfl, hb⟩; rw [← E3.out]; have HB6 := Lib.hid (HB5.out.trans (hb.below.mono HB5.out.size)); clear hb)
    | (go_at_call 14; refine (HI.out.pref sa len cap zs a _ N1.out (HA.out.later HB6.out)).mono ?_; rintro e w7 ⟨rfl, hb⟩; rw [← E4.out]; have HB7 := Lib.hid (HB6.out.trans (hb.mono HB6.out.size)); clear hb)
    | (go_at_call 15; refine (rprefix_any sa len cap zs a _ N1.out (HA.out.later HB7.out).1).mono ?_; rintro e w8 ⟨rfl, hb⟩; rw [← E4.out]; have HB8 := Lib.hid (HB7.out.trans (hb.below.mono HB7.out.size)); clear hb)
    | (go_at_call 17; refine (HI.out.gaps sa len cap zs a b _ N1.out NG.out (HA.out.later HB8.out)).mono ?_; rintro e w9 ⟨v, rfl, h, hb⟩; obtain ⟨s1, k1, rfl, h⟩ := h; have HG1 := Lib.hid h; have HB9 := Lib.hid (HB8.out.trans (hb.mono HB8.out.size)); clear h hb)
    | (go_at_call 18; refine (rgaps_any sa len cap zs a b _ N2.out (HA.out.later HB9.out).1).mono ?_; rintro e w10 ⟨v, rfl, h, hb⟩; obtain ⟨s2, k2, rfl, hq⟩ := h.reads; have HG2 := Lib.hid hq; have HG3 := Lib.hid (HG1.out.later hb); clear hq; have HB10 := Lib.hid (HB9.out.trans (hb.mono HB9.out.size)); clear h hb)
    | (go_at_call 16; refine (same_yes s1 s2 _ k1 k2 (gapsZ zs a b) _ NS.out HG3.out.1 HG2.out).mono ?_; rintro e w11 ⟨rfl, hb⟩; have HB11 := Lib.hid (HB10.out.trans (hb.below.mono HB10.out.size)); clear hb)
    | (go_at_call 7; refine (awake_any HI.out _).mono ?_; rintro e w12 ⟨rfl, hb⟩; have HB12 := Lib.hid (HB11.out.trans (hb.mono HB11.out.size)); clear hb))
  go_ret
  exact ⟨rfl, HB12.out⟩
end Go.Proofs.Ytdihbkhhhonlpaa
