/- The walk of the law RangesChange, upon the program's functions (Impl). -/
import Derived.Test.YtdihbkhhhonlpaaRngLawT
namespace Go.Proofs.Ytdihbkhhhonlpaa
open Go.RowKit Go.Sort

attribute [local go_sem ↓] Go.wp_at_zero Go.wp_at_succ

theorem keepc {w w' : World} {a : Addr} {v : Value} (hb : RowKit.Below w.heap.size w w') (h : w.cell? a = some v) : w'.cell? a = some v := (hb.cell (World.block_lt_of_cell? _ _ h)).trans h

theorem ArgA.reads {w : World} {sa : Option Addr} {len cap : Nat} {zs : List (Int × Int)} (h : ArgA w sa len cap zs) : ReadsA w sa len zs := h.1
theorem rless_two (sa : Option Addr) (na ca : Nat) (za : List (Int × Int)) (r1 r2 : Int) (w : World) (hm : na ≤ 449) (h1 : ReadsA w sa na za) :
    Calls Try.prog 22 #[.slice sa na ca, .agg #[.int .i64 r1, .int .i64 r2]] w fun e w' => ∃ v, e = .returned v ∧ OwnA w' w.heap.size v (lessZ za (r1, r2)) ∧ RowKit.Below w.heap.size w w' :=
  rless_any sa na ca za (r1, r2) w hm h1

theorem change_long (I : Impl) (sa : Option Addr) (na ca : Nat) (sb : Option Addr) (nb cb : Nat) (r : Int × Int) (w : World) (hm : 200 < na ∨ 200 < nb) :
    Calls Try.prog 4 #[.slice sa na ca, .slice sb nb cb, .agg #[.int .i64 r.1, .int .i64 r.2]] w fun e w' => e = .returned (.bool true) ∧ RowKit.Below w.heap.size w w' := by
  have HI := Lib.hid I; clear I
  by_cases q : 200 < na
  · have hm3 : decide ((na : Int) > 200) = true := decide_eq_true (by omega)
    clear hm q
    go_enter Try.func4, Try.ntmps4
    go_wp2_with (go_at_call 7; refine (awake_any HI.out _).mono ?_; rintro e w1 ⟨rfl, hb⟩)
    go_ret
    exact ⟨rfl, ((Below.refl w.heap.size w).alloc (Nat.le_refl _) _).trans (hb.mono (by simp))⟩
  · have hm3 : decide ((na : Int) > 200) = false := decide_eq_false (by omega)
    have hm4 : decide ((nb : Int) > 200) = true := decide_eq_true (by omega)
    clear hm q
    go_enter Try.func4, Try.ntmps4
    go_wp2_with (go_at_call 7; refine (awake_any HI.out _).mono ?_; rintro e w1 ⟨rfl, hb⟩)
    go_ret
    exact ⟨rfl, ((Below.refl w.heap.size w).alloc (Nat.le_refl _) _).trans (hb.mono (by simp))⟩

set_option maxRecDepth 100000 in
set_option maxHeartbeats 6400000 in
theorem change_walk (I : Impl) (sa : Option Addr) (na ca : Nat) (za : List (Int × Int)) (sb : Option Addr) (nb cb : Nat) (zb : List (Int × Int)) (r1 r2 : Int) (w : World) (hna : na ≤ 200) (hnb : nb ≤ 200) (hlo : -9223372036854775808 ≤ r2) (hA : ArgA w sa na ca za) (hB : ArgA w sb nb cb zb) :
    Calls Try.prog 4 #[.slice sa na ca, .slice sb nb cb, .agg #[.int .i64 r1, .int .i64 r2]] w fun e w' => e = .returned (.bool true) ∧ RowKit.Below w.heap.size w w' := by
  have hmix := mixed
  have hm3 : decide ((na : Int) > 200) = false := decide_eq_false (by omega)
  have hm4 : decide ((nb : Int) > 200) = false := decide_eq_false (by omega)
  have HI := Lib.hid I; clear I
  have NLO := Lib.hid hlo; clear hlo
  have NZ1 := Lib.hid (addZ_le za zb (by have := hA.1.1; have := hB.1.1; omega))
  have NZ2 := Lib.hid (lessZ_le za (r1, r2) (by have := hA.1.1; omega))
  have NZ3 := Lib.hid (lessZ_le za (1, r2) (by have := hA.1.1; omega))
  have M1 := Lib.hid (show (addZ za zb).length ≤ 10000 by have := NZ1.out; omega)
  have M2 := Lib.hid (show (lessZ za (r1, r2)).length ≤ 10000 by have := NZ2.out; omega)
  have M3 := Lib.hid (show (lessZ za (1, r2)).length ≤ 10000 by have := NZ3.out; omega)
  have N1 := Lib.hid (show na ≤ 1000 by omega)
  have N2 := Lib.hid (show nb ≤ 1000 by omega)
  have N3 := Lib.hid (show na ≤ 449 by omega)
  have N4 := Lib.hid (show na + nb ≤ 450 by omega)
  have h0 := (Below.refl w.heap.size w).alloc (Nat.le_refl _) (.cells #[.int .i64 r1, .int .i64 r2] 33)
  have HA := Lib.hid (hA.later h0); clear hA
  have HB := Lib.hid (hB.later h0); clear hB
  have H0 := Lib.hid h0; clear h0
  obtain ⟨w0, hw0⟩ : ∃ w0, w0 = w.alloc (.cells #[.int .i64 r1, .int .i64 r2] 33) := ⟨_, rfl⟩
  have c0 : w0.cell? ⟨w.heap.size, 0, none⟩ = some (.int .i64 r1) := by rw [hw0]; simp
  have c1 : w0.cell? ⟨w.heap.size, 1, none⟩ = some (.int .i64 r2) := by rw [hw0]; simp
  rw [← hw0] at HA HB H0
  have HD := Lib.hid ((Below.refl w0.heap.size w0).drew)
  go_enter Try.func4, Try.ntmps4
  go_wp2_with fail
  rw [← hw0]
  clear hw0
  go_region_held3 (fun w' => w'.cell? ⟨w.heap.size, 0, none⟩ = some (.int .i64 r1) ∧ w'.cell? ⟨w.heap.size, 1, none⟩ = some (.int .i64 r2) ∧ Hid (RowKit.Below w0.heap.size w0 w'))
    (first
      | exact ⟨c0, c1, HD⟩
      | (go_split_ands; exact ⟨keepc hb (by assumption), keepc hb (by assumption), Lib.hid ((Hid.out (p := RowKit.Below w0.heap.size w0 _) (by assumption)).trans (hb.mono (Hid.out (p := RowKit.Below w0.heap.size w0 _) (by assumption)).size))⟩))
    (first
      | (go_at_call 19; go_split_ands; refine (HI.out.add sa na ca za sb nb cb zb _ N1.out N2.out NZ1.out (HA.out.later (Hid.out (p := RowKit.Below w0.heap.size w0 _) (by assumption))) (HB.out.later (Hid.out (p := RowKit.Below w0.heap.size w0 _) (by assumption)))).mono ?_; rintro e w4 ⟨v, rfl, h, hb⟩; obtain ⟨s1, k1, rfl, h⟩ := h)
      | (go_at_call 20; go_split_ands; refine (radd_any sa na ca za sb nb cb zb _ N4.out (HA.out.later (Hid.out (p := RowKit.Below w0.heap.size w0 _) (by assumption))).1 (HB.out.later (Hid.out (p := RowKit.Below w0.heap.size w0 _) (by assumption))).1).mono ?_; rintro e w4 ⟨v, rfl, hq, hb⟩; obtain ⟨s2, k2, rfl, hr⟩ := hq.reads)
      | (go_at_call 21; go_split_ands; refine (HI.out.less sa na ca za (r1, r2) _ N1.out NZ2.out (HA.out.later (Hid.out (p := RowKit.Below w0.heap.size w0 _) (by assumption)))).mono ?_; rintro e w4 ⟨v, rfl, h, hb⟩; obtain ⟨s1, k1, rfl, h⟩ := h)
      | (go_at_call 23; go_split_ands; refine (HI.out.cut sa na ca za r2 _ N1.out NLO.out NZ3.out (HA.out.later (Hid.out (p := RowKit.Below w0.heap.size w0 _) (by assumption)))).mono ?_; rintro e w4 ⟨v, rfl, h, hb⟩; obtain ⟨s1, k1, rfl, h⟩ := h)
      | (go_at_call 22; go_split_ands; (with_reducible refine (rless_two sa na ca za r1  r2 _ N3.out (ArgA.reads (HA.out.later (Hid.out (p := RowKit.Below w0.heap.size w0 _) (by assumption))))).mono ?_); rintro e w4 ⟨v, rfl, hq, hb⟩; obtain ⟨s2, k2, rfl, hr⟩ := hq.reads)
      | (go_at_call 22; go_split_ands; (with_reducible refine (rless_two sa na ca za 1  r2 _ N3.out (ArgA.reads (HA.out.later (Hid.out (p := RowKit.Below w0.heap.size w0 _) (by assumption))))).mono ?_); rintro e w4 ⟨v, rfl, hq, hb⟩; obtain ⟨s2, k2, rfl, hr⟩ := hq.reads)
      | (go_at_call 16; go_split_ands; refine (same_yes _ _ _ _ _ _ _ (by first | exact M1.out | exact M2.out | exact M3.out) (h.later hb).1 hr).mono ?_; rintro e w4 ⟨rfl, hg⟩; have hb := hg.below)
      | (go_at_call 7; go_split_ands; refine (awake_any HI.out _).mono ?_; rintro e w4 ⟨rfl, hb⟩))
  all_goals
    go_split_ands
    go_wp2_with fail
    go_ret
    exact ⟨rfl, H0.out.trans ((Hid.out (p := RowKit.Below w0.heap.size w0 _) (by assumption)).mono H0.out.size)⟩
end Go.Proofs.Ytdihbkhhhonlpaa
