/- The walks of the laws NumCodes and NumRows, upon the program's functions (Impl). -/
import Derived.Test.YtafbenhgpdndeaaNumImpl
namespace Go.Proofs.Ytafbenhgpdndeaa
open Go.RowKit Go.Sort

attribute [local go_sem ↓] Go.wp_at_zero Go.wp_at_succ

theorem codes_long (I : Impl) (n a : Int) (s : ByteArray) (w : World) (hm : 3000 < s.size) :
    Calls Try.prog 3 #[.int .i64 n, .string s, .int .i64 a] w fun e w' => e = .returned (.bool true) ∧ RowKit.Below w.heap.size w w' := by
  have hm3 : decide ((s.size : Int) > 3000) = true := decide_eq_true (by omega)
  have HI := Lib.hid I; clear I
  go_enter Try.func3, Try.ntmps3
  go_wp2_with (go_at_call 7; refine (awake_any HI.out _).mono ?_; rintro e w1 ⟨rfl, hb⟩)
  go_ret
  exact ⟨rfl, hb⟩
set_option maxRecDepth 100000 in
set_option maxHeartbeats 3200000 in
theorem codes_walk (I : Impl) (n a : Int) (s : ByteArray) (w : World) (hn : n ≤ 9223372036854775807) (hm : s.size ≤ 3000) :
    Calls Try.prog 3 #[.int .i64 n, .string s, .int .i64 a] w fun e w' => e = .returned (.bool true) ∧ RowKit.Below w.heap.size w w' := by
  have hm3 : decide ((s.size : Int) > 3000) = false := decide_eq_false (by omega)
  have HI := Lib.hid I; clear I
  have HN := Lib.hid hn; clear hn
  have HS := Lib.hid (show s.size ≤ 100000 by omega)
  obtain ⟨t, ht⟩ : ∃ t, t = putZ n := ⟨_, rfl⟩
  obtain ⟨f, hf⟩ : ∃ f, f = putE n := ⟨_, rfl⟩
  obtain ⟨⟨g1, g2, g3⟩, hg⟩ : ∃ g, g = getZ s a := ⟨_, rfl⟩
  have hts := bs_size t
  have E1 := Lib.hid ht; have E2 := Lib.hid hf; have E3 := Lib.hid hg
  clear ht hf hg
  go_enter Try.func3, Try.ntmps3
  go_wp2_with (first
    | (go_at_call 8; (with_reducible refine (HI.out.put n _ HN.out).mono ?_); rintro e w1 ⟨rfl, hb⟩; rw [← E1.out, ← E2.out]; have HB1 := Lib.hid hb; clear hb)
    | (go_at_call 9; (with_reducible refine (rput_any n HN.out _).mono ?_); rintro e w2 ⟨rfl, hb⟩; rw [← E1.out, ← E2.out]; have HB2 := Lib.hid (HB1.out.trans (hb.mono HB1.out.size)); clear hb)
    | (go_at_call 10; (with_reducible refine (HI.out.get s a _ HS.out).mono ?_); rintro e w3 ⟨rfl, hb⟩; rw [← E3.out]; have HB3 := Lib.hid (HB2.out.trans (hb.mono HB2.out.size)); clear hb)
    | (go_at_call 11; (with_reducible refine (rget_any s a HS.out _).mono ?_); rintro e w4 ⟨rfl, hw⟩; rw [← E3.out]; obtain rfl := hw.symm)
    | (go_at_call 12; (with_reducible refine (HI.out.size n _ HN.out).mono ?_); rintro e w5 ⟨rfl, hb⟩; rw [← E1.out]; have HB5 := Lib.hid (HB3.out.trans (hb.mono HB3.out.size)); clear hb)
    | (go_at_call 7; refine (awake_any HI.out _).mono ?_; rintro e w6 ⟨rfl, hb⟩; have HB6 := Lib.hid (HB5.out.trans (hb.mono HB5.out.size)); clear hb))
  go_ret
  exact ⟨rfl, HB6.out⟩

theorem rows_long (I : Impl) (sa : Option Addr) (len cap : Nat) (s : ByteArray) (x0 x1 : Int) (w : World) (hm : 1200 < len ∨ 6000 < s.size) :
    Calls Try.prog 4 #[.slice sa len cap, .string s, .agg #[.int .i64 x0, .int .i64 x1]] w fun e w' => e = .returned (.bool true) ∧ RowKit.Below w.heap.size w w' := by
  have HI := Lib.hid I; clear I
  by_cases q : 1200 < len
  · have hm3 : decide ((len : Int) > 1200) = true := decide_eq_true (by omega)
    clear hm q
    go_enter Try.func4, Try.ntmps4
    go_wp2_with (go_at_call 7; refine (awake_any HI.out _).mono ?_; rintro e w1 ⟨rfl, hb⟩)
    go_ret
    exact ⟨rfl, ((Below.refl w.heap.size w).alloc (Nat.le_refl _) _).trans (hb.mono (by simp))⟩
  · have hm3 : decide ((len : Int) > 1200) = false := decide_eq_false (by omega)
    have hm4 : decide ((s.size : Int) > 6000) = true := decide_eq_true (by omega)
    clear hm q
    go_enter Try.func4, Try.ntmps4
    go_wp2_with (go_at_call 7; refine (awake_any HI.out _).mono ?_; rintro e w1 ⟨rfl, hb⟩)
    go_ret
    exact ⟨rfl, ((Below.refl w.heap.size w).alloc (Nat.le_refl _) _).trans (hb.mono (by simp))⟩
theorem unrow_len (s : ByteArray) (a most : Int) : (unrowZ s a most).1.length ≤ 10000 := by
  unfold unrowZ
  split
  · simp
  · split
    · simp
    · rename_i h1 h2
      split
      · rename_i h3
        obtain ⟨⟨l, u, e⟩, hi⟩ : ∃ r, items (getZ s a).1.toNat (s.data.toList.drop (getZ s a).2.1.toNat) = r := ⟨_, rfl⟩
        rw [hi] at h3 ⊢
        simp only at h3 ⊢
        subst h3
        rw [List.length_map, items_len _ hi]; omega
      · simp
set_option maxRecDepth 100000 in
set_option maxHeartbeats 3200000 in
theorem rows_walk (I : Impl) (sa : Option Addr) (len cap : Nat) (l : List Int) (s : ByteArray) (x0 x1 : Int) (w : World) (hlen : len ≤ 1200) (hm : s.size ≤ 6000) (hwf : ∀ x ∈ l, x ≤ 9223372036854775807) (hA : ArgI w sa len cap l) :
    Calls Try.prog 4 #[.slice sa len cap, .string s, .agg #[.int .i64 x0, .int .i64 x1]] w fun e w' => e = .returned (.bool true) ∧ RowKit.Below w.heap.size w w' := by
  have hm3 : decide ((len : Int) > 1200) = false := decide_eq_false (by omega)
  have hm4 : decide ((s.size : Int) > 6000) = false := decide_eq_false (by omega)
  have HI := Lib.hid I; clear I
  have HWF := Lib.hid hwf; clear hwf
  have HS := Lib.hid (show s.size ≤ 100000 by omega)
  have N1 := Lib.hid (show len ≤ 10000 by omega)
  have NU := Lib.hid (unrow_len s x0 x1)
  have h0 := (Below.refl w.heap.size w).alloc (Nat.le_refl _) (.cells #[.int .i64 x0, .int .i64 x1] 35)
  have HA := Lib.hid (hA.later h0); clear hA
  have H0 := Lib.hid h0; clear h0
  obtain ⟨t, ht⟩ : ∃ t, t = rowZ l := ⟨_, rfl⟩
  obtain ⟨f, hf⟩ : ∃ f, f = rowE l := ⟨_, rfl⟩
  obtain ⟨⟨g1, g2, g3⟩, hg⟩ : ∃ g, g = unrowZ s x0 x1 := ⟨_, rfl⟩
  rw [← hg] at NU
  have E1 := Lib.hid ht; have E2 := Lib.hid hf; have E3 := Lib.hid hg
  clear ht hf hg
  obtain ⟨w0, hw0⟩ : ∃ w0, w0 = w.alloc (.cells #[.int .i64 x0, .int .i64 x1] 35) := ⟨_, rfl⟩
  have c0 : w0.cell? ⟨w.heap.size, 0, none⟩ = some (.int .i64 x0) := by rw [hw0]; simp
  have c1 : w0.cell? ⟨w.heap.size, 1, none⟩ = some (.int .i64 x1) := by rw [hw0]; simp
  rw [← hw0] at HA H0
  have HW0 := Lib.hid hw0
  clear hw0
  go_enter Try.func4, Try.ntmps4
  go_wp2_with (first
    | (go_at_call 13; rw [← HW0.out]; (with_reducible refine (HI.out.row sa len cap l _ N1.out HWF.out HA.out).mono ?_); rintro e w1 ⟨rfl, hb⟩; rw [← E1.out, ← E2.out]; have HB1 := Lib.hid hb; clear hb)
    | (go_at_call 14; (with_reducible refine (rrow_any sa len cap l _ N1.out HWF.out (ArgI.reads (HA.out.later HB1.out))).mono ?_); rintro e w2 ⟨rfl, hb⟩; rw [← E1.out, ← E2.out]; have HB2 := Lib.hid (HB1.out.trans (hb.mono HB1.out.size)); have m0 := (HB2.out.cell (World.block_lt_of_cell? _ _ c0)).trans c0; have m1 := (HB2.out.cell (World.block_lt_of_cell? _ _ c1)).trans c1; clear hb)
    | (go_at_call 15; (with_reducible refine (HI.out.unrow s x0 x1 _ HS.out).mono ?_); rintro e w3 ⟨v, rfl, h, hb⟩; rw [← E3.out] at h ⊢; obtain ⟨s3, k3, rfl, h⟩ := h; have HR3 := Lib.hid h; have HB3 := Lib.hid (HB2.out.trans (hb.mono HB2.out.size)); have p0 := (hb.cell (World.block_lt_of_cell? _ _ m0)).trans m0; have p1 := (hb.cell (World.block_lt_of_cell? _ _ m1)).trans m1; clear h hb)
    | (go_at_call 16; (with_reducible refine (runrow_any s x0 x1 HS.out _).mono ?_); rintro e w4 ⟨v, rfl, h, hb⟩; rw [← E3.out] at h ⊢; obtain ⟨s4, k4, rfl, _, _, hr⟩ := h.reads; have HQ4 := Lib.hid hr; have HR4 := Lib.hid (HR3.out.later hb); have HB4 := Lib.hid (HB3.out.trans (hb.mono HB3.out.size)); clear hr hb)
    | (go_at_call 17; refine (same_ints s3 s4 _ k3 k4 g1 _ NU.out HR4.out.1 HQ4.out).mono ?_; rintro e w5 ⟨rfl, hgr⟩; have HB5 := Lib.hid (HB4.out.trans (hgr.below.mono HB4.out.size)); clear hgr)
    | (go_at_call 7; refine (awake_any HI.out _).mono ?_; rintro e w6 ⟨rfl, hb⟩; have HB6 := Lib.hid (HB5.out.trans (hb.mono HB5.out.size)); clear hb))
  go_ret
  exact ⟨rfl, H0.out.trans (HB6.out.mono H0.out.size)⟩
end Go.Proofs.Ytafbenhgpdndeaa
