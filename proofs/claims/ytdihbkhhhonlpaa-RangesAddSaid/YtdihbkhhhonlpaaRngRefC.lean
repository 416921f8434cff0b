/- The contracts of the document's Add, Less, Gaps. -/
import Derived.Test.YtdihbkhhhonlpaaRngOf
namespace Go.Proofs.Ytdihbkhhhonlpaa
open Go.RowKit Go.Sort

attribute [local go_sem ↓] Go.wp_at_zero Go.wp_at_succ

theorem reads_nil (w : World) : ReadsA w none 0 [] := ⟨rfl, fun h => absurd h (by decide)⟩
theorem ofL_le (a b : List (Int × Int)) (h : a.length + b.length ≤ 450) : (ofL a b).length ≤ 1000 := by have := ofL_len a b; omega

def addZ (zs more : List (Int × Int)) : List (Int × Int) := if Ok (-1) zs then ofL (zs ++ more) [] else []
def lessZ (zs : List (Int × Int)) (r : Int × Int) : List (Int × Int) := if Ok (-1) zs then ofL zs [r] else []
def gapsZ (zs : List (Int × Int)) (lo hi : Int) : List (Int × Int) := if Ok (-1) zs then ofL [(lo, hi)] zs else []

set_option maxHeartbeats 1600000 in
theorem radd_any (sa : Option Addr) (na ca : Nat) (za : List (Int × Int)) (sb : Option Addr) (nb cb : Nat) (zb : List (Int × Int)) (w : World) (hm : na + nb ≤ 450) (h1 : ReadsA w sa na za) (h2 : ReadsA w sb nb zb) :
    Calls Try.prog 20 #[.slice sa na ca, .slice sb nb cb] w fun e w' => ∃ v, e = .returned v ∧ OwnA w' w.heap.size v (addZ za zb) ∧ RowKit.Below w.heap.size w w' := by
  have HLA := Lib.hid h1.1
  have HLB := Lib.hid h2.1
  have HA := Lib.hid h1; clear h1
  have HB := Lib.hid h2; clear h2
  by_cases ok : Ok (-1) za
  · have HC := Lib.hid (chk_yes ok)
    have HZ := Lib.hid (show addZ za zb = ofL (za ++ zb) [] from if_pos ok)
    clear ok
    go_enter Try.func20, Try.ntmps20
    go_wp2_with (first
      | (go_at_call 9; with_reducible refine (rcheck_any sa na ca za _ (by omega) HA.out).mono ?_; rintro e w1 ⟨rfl, hg⟩; rw [HC.out]; have HG1 := Lib.hid hg.below; clear hg)
      | (at_builtin; refine wpList_append_att rfl _ _ rfl w.heap.size _ [] rfl ?c0 sa na ca za rfl ?c1 ?c2 ?c3 ?_))
    case c0 => exact own_made w1 _ HG1.out.size
    case c1 => exact HA.out.later (HG1.out.alloc HG1.out.size _)
    case c2 => simp; omega
    case c3 => exact Nat.le_trans HG1.out.size (by simp)
    intro v1 w2 ho1 _ hb1
    have HB1 := Lib.hid ((HG1.out.alloc HG1.out.size _).trans hb1)
    have HO1 := Lib.hid ho1
    clear ho1 hb1
    go_wp2_with (at_builtin; refine wpList_append_att rfl _ _ rfl w.heap.size _ ([] ++ za) rfl ?d0 sb nb cb zb rfl ?d1 ?d2 ?d3 ?_)
    case d0 => exact HO1.out
    case d1 => exact HB.out.later HB1.out
    case d2 => simp only [List.nil_append, ← HLA.out]; omega
    case d3 => exact HB1.out.size
    intro v2 w3 ho2 _ hb2
    have HB2 := Lib.hid (HB1.out.trans hb2)
    clear hb2
    obtain ⟨s2, c2, rfl, hr2⟩ := ho2.reads
    have hl2 : (za ++ zb).length = na + nb := by simp [HLA.out, HLB.out]
    rw [hl2] at hr2 ⊢
    have HR2 := Lib.hid hr2
    have HLE := Lib.hid (ofL_le (za ++ zb) [] (by rw [hl2]; simp; omega))
    clear hr2 ho2 HO1 HB1 hl2
    go_wp2_with (first
      | (go_at_call 33; with_reducible refine (rof_any s2 (na + nb) c2 (za ++ zb) none 0 0 [] w3 (by omega) HR2.out (reads_nil _)).mono ?_; rintro e w4 ⟨v3, rfl, h3, hb3⟩; obtain ⟨s3, c3, rfl, _⟩ := h3.reads; have HO3 := Lib.hid h3; have HB3 := Lib.hid (HB2.out.trans (hb3.mono HB2.out.size)); clear h3 hb3)
      | (go_at_call 32; with_reducible refine (fits_yes _ _ _ _ _ HLE.out).mono ?_; rintro e w5 ⟨rfl, rfl⟩))
    go_ret
    exact ⟨_, rfl, by rw [HZ.out]; exact OwnA.lower HO3.out HB2.out.size, HB3.out⟩
  · have HC := Lib.hid (show chkZ za = 2 from if_neg ok)
    have HZ := Lib.hid (show addZ za zb = [] from if_neg ok)
    clear ok
    go_enter Try.func20, Try.ntmps20
    go_wp2_with (go_at_call 9; with_reducible refine (rcheck_any sa na ca za _ (by omega) HA.out).mono ?_; rintro e w1 ⟨rfl, hg⟩; rw [HC.out])
    go_ret
    exact ⟨_, rfl, by rw [HZ.out]; exact own_nil _ _, hg.below⟩

set_option maxHeartbeats 1600000 in
theorem rless_any (sa : Option Addr) (na ca : Nat) (za : List (Int × Int)) (r : Int × Int) (w : World) (hm : na ≤ 449) (h1 : ReadsA w sa na za) :
    Calls Try.prog 22 #[.slice sa na ca, .agg #[.int .i64 r.1, .int .i64 r.2]] w fun e w' => ∃ v, e = .returned v ∧ OwnA w' w.heap.size v (lessZ za r) ∧ RowKit.Below w.heap.size w w' := by
  have HLA := Lib.hid h1.1
  have h0 := (Below.refl w.heap.size w).alloc (Nat.le_refl _) (.cells #[.int .i64 r.1, .int .i64 r.2] 33)
  have HA := Lib.hid (h1.later h0); clear h1
  have HB0 := Lib.hid h0; clear h0
  by_cases ok : Ok (-1) za
  · have HC := Lib.hid (chk_yes ok)
    have HZ := Lib.hid (show lessZ za r = ofL za [r] from if_pos ok)
    clear ok
    have HLE := Lib.hid (ofL_le za [r] (by rw [← HLA.out]; simp; omega))
    go_enter Try.func22, Try.ntmps22
    go_wp2_with (first
      | (go_at_call 9; with_reducible refine (rcheck_any sa na ca za _ (by omega) HA.out).mono ?_; rintro e w1 ⟨rfl, hg⟩; rw [HC.out]; have HG0 := Lib.hid hg.below; have HG1 := Lib.hid (HB0.out.trans (hg.below.mono HB0.out.size)); have k0 := (hg.below.cell (p := ⟨w.heap.size, 0, none⟩) (by simp)).trans (show _ = some (Value.int .i64 r.1) by simp); have k1 := (hg.below.cell (p := ⟨w.heap.size, 1, none⟩) (by simp)).trans (show _ = some (Value.int .i64 r.2) by simp); have HL1 := Lib.hid (one_lit w1 r); clear hg)
      | (go_at_call 33; with_reducible refine (rof_any sa na ca za _ 1 _ [r] _ (by omega) ((HA.out.later HG0.out).later ((Below.refl _ _).alloc (Nat.le_refl _) _)) HL1.out).mono ?_; rintro e w4 ⟨v3, rfl, h3, hb3⟩; obtain ⟨s3, c3, rfl, _⟩ := h3.reads; have HO3 := Lib.hid h3; have HB2 := Lib.hid (HG1.out.alloc HG1.out.size (.cells #[.int .i64 r.1, .int .i64 r.2] 33)); have HB3 := Lib.hid (HB2.out.trans (hb3.mono HB2.out.size)); clear h3 hb3)
      | (go_at_call 32; with_reducible refine (fits_yes _ _ _ _ _ HLE.out).mono ?_; rintro e w5 ⟨rfl, rfl⟩))
    go_ret
    exact ⟨_, rfl, by rw [HZ.out]; exact OwnA.lower HO3.out HB2.out.size, HB3.out⟩
  · have HC := Lib.hid (show chkZ za = 2 from if_neg ok)
    have HZ := Lib.hid (show lessZ za r = [] from if_neg ok)
    clear ok
    go_enter Try.func22, Try.ntmps22
    go_wp2_with (go_at_call 9; with_reducible refine (rcheck_any sa na ca za _ (by omega) HA.out).mono ?_; rintro e w1 ⟨rfl, hg⟩; rw [HC.out])
    go_ret
    exact ⟨_, rfl, by rw [HZ.out]; exact own_nil _ _, HB0.out.trans (hg.below.mono HB0.out.size)⟩

set_option maxHeartbeats 1600000 in
theorem rgaps_any (sa : Option Addr) (na ca : Nat) (za : List (Int × Int)) (lo hi : Int) (w : World) (hm : na ≤ 449) (h1 : ReadsA w sa na za) :
    Calls Try.prog 18 #[.slice sa na ca, .int .i64 lo, .int .i64 hi] w fun e w' => ∃ v, e = .returned v ∧ OwnA w' w.heap.size v (gapsZ za lo hi) ∧ RowKit.Below w.heap.size w w' := by
  have HLA := Lib.hid h1.1
  have HA := Lib.hid h1; clear h1
  by_cases ok : Ok (-1) za
  · have HC := Lib.hid (chk_yes ok)
    have HZ := Lib.hid (show gapsZ za lo hi = ofL [(lo, hi)] za from if_pos ok)
    clear ok
    have HLE := Lib.hid (ofL_le [(lo, hi)] za (by rw [← HLA.out]; simp; omega))
    go_enter Try.func18, Try.ntmps18
    go_wp2_with (first
      | (go_at_call 9; with_reducible refine (rcheck_any sa na ca za _ (by omega) HA.out).mono ?_; rintro e w1 ⟨rfl, hg⟩; rw [HC.out]; have HG1 := Lib.hid hg.below; have HL1 := Lib.hid (one_lit w1 (lo, hi)); clear hg)
      | (go_at_call 33; with_reducible refine (rof_any _ 1 _ [(lo, hi)] sa na ca za _ (by omega) HL1.out (HA.out.later (HG1.out.alloc HG1.out.size _))).mono ?_; rintro e w4 ⟨v3, rfl, h3, hb3⟩; obtain ⟨s3, c3, rfl, _⟩ := h3.reads; have HO3 := Lib.hid h3; have HB2 := Lib.hid (HG1.out.alloc HG1.out.size (.cells #[.int .i64 lo, .int .i64 hi] 33)); have HB3 := Lib.hid (HB2.out.trans (hb3.mono HB2.out.size)); clear h3 hb3)
      | (go_at_call 32; with_reducible refine (fits_yes _ _ _ _ _ HLE.out).mono ?_; rintro e w5 ⟨rfl, rfl⟩))
    go_ret
    exact ⟨_, rfl, by rw [HZ.out]; exact OwnA.lower HO3.out HB2.out.size, HB3.out⟩
  · have HC := Lib.hid (show chkZ za = 2 from if_neg ok)
    have HZ := Lib.hid (show gapsZ za lo hi = [] from if_neg ok)
    clear ok
    go_enter Try.func18, Try.ntmps18
    go_wp2_with (go_at_call 9; with_reducible refine (rcheck_any sa na ca za _ (by omega) HA.out).mono ?_; rintro e w1 ⟨rfl, hg⟩; rw [HC.out])
    go_ret
    exact ⟨_, rfl, by rw [HZ.out]; exact own_nil _ _, hg.below⟩
end Go.Proofs.Ytdihbkhhhonlpaa
