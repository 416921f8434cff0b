/- The program's own Less, Has, and join. -/
import Derived.Test.YtdihbkhhhonlpaaRngPg
namespace Go.Proofs.Ytdihbkhhhonlpaa
open Go.RowKit Go.Sort Go.Shelf

attribute [local go_sem ↓] Go.wp_at_zero Go.wp_at_succ

/-- A block that was laid, and what came behind. -/
theorem kept_laid {w w1 : World} {a b : Value} (h : Grew (w.alloc (.cells #[a, b] 33)) w1) : w1.cell? ⟨w.heap.size, 0, none⟩ = some a ∧ w1.cell? ⟨w.heap.size, 1, none⟩ = some b ∧ w1.frozen? ⟨w.heap.size, 0, none⟩ = false ∧ w1.frozen? ⟨w.heap.size, 1, none⟩ = false := by
  have k := (h.below.block w.heap.size (by simp)).trans (World.alloc_heap_new w (.cells #[a, b] 33))
  refine ⟨?_, ?_, ?_, ?_⟩ <;> simp [World.cell?, World.frozen?, k]
theorem keptC {w w1 : World} (h : Grew w w1) {B j : Nat} {v : Value} (z : w.cell? ⟨B, j, none⟩ = some v) : w1.cell? ⟨B, j, none⟩ = some v := (h.below.cell (p := ⟨B, j, none⟩) (World.block_lt_of_cell? _ _ z)).trans z
theorem kept_more {w w1 : World} (h : Grew w w1) {B : Nat} {a b : Value} (z : w.cell? ⟨B, 0, none⟩ = some a ∧ w.cell? ⟨B, 1, none⟩ = some b ∧ w.frozen? ⟨B, 0, none⟩ = false ∧ w.frozen? ⟨B, 1, none⟩ = false) : w1.cell? ⟨B, 0, none⟩ = some a ∧ w1.cell? ⟨B, 1, none⟩ = some b ∧ w1.frozen? ⟨B, 0, none⟩ = false ∧ w1.frozen? ⟨B, 1, none⟩ = false := by
  have k := h.below.block B (World.block_lt_of_cell? _ _ z.1)
  refine ⟨?_, ?_, ?_, ?_⟩
  · exact (World.cell?_of_block k).trans z.1
  · exact (World.cell?_of_block k).trans z.2.1
  · exact (World.frozen?_of_block k).trans z.2.2.1
  · exact (World.frozen?_of_block k).trans z.2.2.2

/-- A range that was stored into a block. -/
theorem put2 {w : World} {B : Nat} {u v a b : Value} (y0 : w.cell? ⟨B, 0, none⟩ = some u) (y1 : w.cell? ⟨B, 1, none⟩ = some v) {base : Nat} {w0 : World} (hb : RowKit.Below base w0 w) (hB : base ≤ B) :
    ((w.setCell ⟨B, 0, none⟩ a).setCell ⟨B, 1, none⟩ b).cell? ⟨B, 0, none⟩ = some a ∧ ((w.setCell ⟨B, 0, none⟩ a).setCell ⟨B, 1, none⟩ b).cell? ⟨B, 1, none⟩ = some b ∧ RowKit.Below base w0 ((w.setCell ⟨B, 0, none⟩ a).setCell ⟨B, 1, none⟩ b) := by
  refine ⟨?_, ?_, (hb.setCell (p := ⟨B, 0, none⟩) hB _).setCell (p := ⟨B, 1, none⟩) hB _⟩
  · rw [World.cell?_setCell_other _ _ _ _ (by simp)]
    exact World.cell?_setCell_same _ _ _ y0
  · refine World.cell?_setCell_same _ _ _ (u := v) ?_
    rw [World.cell?_setCell_other _ _ _ _ (by simp)]
    exact y1
theorem laid2 {w : World} {a b : Value} {base : Nat} {w0 : World} (hb : RowKit.Below base w0 w) (hB : base ≤ w.heap.size) :
    (w.alloc (.cells #[a, b] 33)).cell? ⟨w.heap.size, 0, none⟩ = some a ∧ (w.alloc (.cells #[a, b] 33)).cell? ⟨w.heap.size, 1, none⟩ = some b ∧ RowKit.Below base w0 (w.alloc (.cells #[a, b] 33)) := by
  refine ⟨?_, ?_, hb.alloc hB _⟩
  · rw [World.cell?_alloc_at _ _ _ _ rfl]; rfl
  · rw [World.cell?_alloc_at _ _ _ _ rfl]; rfl

set_option maxHeartbeats 3200000 in
theorem less_any (sa : Option Addr) (len cap : Nat) (zs : List (Int × Int)) (r : Int × Int) (w : World) (hm : len ≤ 1000) (hl : (lessZ zs r).length ≤ 1000) (ha : ArgA w sa len cap zs) :
    Calls Try.prog 21 #[.slice sa len cap, .agg #[.int .i64 r.1, .int .i64 r.2]] w fun e w' => ∃ v, e = .returned v ∧ ResA w' v (lessZ zs r) ∧ RowKit.Below w.heap.size w w' := by
  have hmix := mixed
  have HR := Lib.hid ha; clear ha
  by_cases ok : Ok (-1) zs
  · have HD := Lib.hid (decide_eq_true ok)
    have HO := Lib.hid ok; clear ok
    go_enter Try.func21, Try.ntmps21
    go_wp2_with (go_at_call 26; refine (isSet_any sa len cap zs _ hm (HR.out.readsA.later ((Below.refl _ _).alloc (Nat.le_refl _) _))).mono ?_; rintro e w1 ⟨rfl, hg⟩; rw [HD.out]; obtain ⟨c0, c1⟩ := kept_new hg; have HG1 := Lib.hid (((Grew.refl w).alloc _).trans hg); clear hg)
    have hlt := World.block_lt_of_cell? _ _ c0
    go_upto_region 3 with (fail)
    go_cut [5] from 11 to 13 (fun p wx => ∃ B, p = .pointer (some ⟨B, 0, none⟩) ∧ wx.cell? ⟨B, 0, none⟩ = some (.int .i64 (ovl r (1, 1000000)).1) ∧ wx.cell? ⟨B, 1, none⟩ = some (.int .i64 (ovl r (1, 1000000)).2) ∧ Hid (RowKit.Below w.heap.size w wx))
    case first =>
      have L0 := Lib.hid HG1.out.below.size
      go_region_with (first
        | (go_at_call 30; refine (whole_any _).mono ?_; rintro e w2 ⟨rfl, hg⟩; have hG : Grew w1 w2 := (by first | exact (Grew.refl w1).drew.trans hg | exact ((Grew.refl w1).drew.alloc _).trans hg); have e0 := keptC hG c0; have e1 := keptC hG c1; have hlt2 := World.block_lt_of_cell? _ _ e0; have HG2 := Lib.hid (HG1.out.trans hG); (try (have hz : w2.cell? ⟨w1.heap.size, 0, none⟩ = some (.int .i64 0) ∧ w2.cell? ⟨w1.heap.size, 1, none⟩ = some (.int .i64 0) ∧ w2.frozen? ⟨w1.heap.size, 0, none⟩ = false ∧ w2.frozen? ⟨w1.heap.size, 1, none⟩ = false := kept_laid ((Grew.refl _).drew.trans hg); obtain ⟨z0, z1, z2, z3⟩ := hz)); clear hG hg)
        | (go_at_call 29; refine (overlap_any r (1, 1000000) _).mono ?_; rintro e w3 ⟨rfl, hg3⟩; have hG : Grew w w3 := (by first | exact HG2.out.trans hg3 | exact (HG2.out.alloc _).trans hg3); have HG3 := Lib.hid hG; (first | (have hy := kept_laid hg3; obtain ⟨y0, y1, y2, y3⟩ := hy) | (have hy := kept_more hg3 ⟨z0, z1, z2, z3⟩; obtain ⟨y0, y1, y2, y3⟩ := hy) | skip); clear hG hg3))
      all_goals
        go_wp2_with fail
        go_meet
        case rel =>
          first
            | (have hp := put2 (a := .int .i64 (ovl r (1, 1000000)).1) (b := .int .i64 (ovl r (1, 1000000)).2) y0 y1 HG3.out.below (by first | exact L0.out | exact HG2.out.below.size); exact ⟨_, rfl, hp.1, hp.2.1, Lib.hid hp.2.2⟩)
            | (have hp := laid2 (a := .int .i64 (ovl r (1, 1000000)).1) (b := .int .i64 (ovl r (1, 1000000)).2) HG3.out.below HG3.out.below.size; exact ⟨_, rfl, hp.1, hp.2.1, Lib.hid hp.2.2⟩)
    case rest =>
    obtain ⟨B, rfl, b0, b1, HB⟩ := hcut
    clear hlt c0 c1 HG1
    obtain ⟨y, hy⟩ : ∃ y, y = ovl r (1, 1000000) := ⟨_, rfl⟩
    rw [← hy] at b0 b1
    have HY := Lib.hid hy
    have SAME := Lib.hid (fun h => less_same HO.out (r := r) h)
    have IS := Lib.hid (fun h => less_is HO.out (r := r) h)
    have BD := Lib.hid (ovl_bounds r (1, 1000000))
    rw [← hy] at SAME IS BD
    clear hy
    by_cases q : y.2 < y.1
    · have d : decide (y.2 < y.1) = true := decide_eq_true q
      have SE := Lib.hid (SAME.out q)
      clear q
      go_wp2_with (first
        | (go_at_call 25; refine (isEmpty_any y _).mono ?_; rintro e w4 ⟨rfl, hg⟩; have HB4 := Lib.hid (HB.out.trans (hg.below.mono HB.out.size)); clear hg)
        | (go_at_call 35; refine (clone_any sa len cap zs _ hm (HR.out.later HB4.out)).mono ?_; rintro e w5 ⟨v, rfl, hv, hb⟩))
      go_ret
      exact ⟨v, rfl, by rw [← SE.out]; exact hv.res, HB4.out.trans (hb.mono HB4.out.size)⟩
    · have d : decide (y.2 < y.1) = false := decide_eq_false q
      have HIS := Lib.hid (IS.out q)
      obtain ⟨q1, _, _, q2⟩ := BD.out
      simp only at q1 q2
      have i1 : 1 ≤ y.1 := q1
      have i2 : y.2 ≤ 1000000 := q2
      have i3 : y.1 ≤ 1000000 := by omega
      have i4 : 1 ≤ y.2 := by omega
      have HL := Lib.hid hl; clear hl
      clear q q1 q2
      go_wp2_with (first
        | (go_at_call 25; refine (isEmpty_any y _).mono ?_; rintro e w4 ⟨rfl, hg⟩; have HB4 := Lib.hid (HB.out.trans (hg.below.mono HB.out.size)); have c0 := keptC hg b0; have c1 := keptC hg b1; have RB := Lib.hid ((HR.out.readsA.later HB4.out).bound); have HBlt := Lib.hid (World.block_lt_of_cell? _ _ c0); clear hg b0 b1)
        | (go_at_call 27; (with_reducible refine (parts_seq w4.heap.size sa len cap (1, y.1 - 1) zs _ RB.out (Nat.le_refl _)).mono ?_); rintro e w5 ⟨rfl, hs, hg⟩; have HS5 := Lib.hid hs; have HB5 := Lib.hid hg.below; clear hs hg)
        | (go_at_call 40; refine (collect_any w4.heap.size _ _ sa len cap (1, y.1 - 1) zs hm _ HB5.out.size HS5.out).mono ?_; rintro e w6 ⟨v, rfl, hv, hb⟩; have HB6 := Lib.hid (HB5.out.trans hb); obtain ⟨sv, cv, rfl, _⟩ := hv.reads; have HV := Lib.hid hv; have HS6 := Lib.hid HB6.out.size; have f0 := (HB6.out.cell (p := ⟨B, 0, none⟩) HBlt.out).trans c0; have f1 := (HB6.out.cell (p := ⟨B, 1, none⟩) HBlt.out).trans c1; have RB6 := Lib.hid (RB.out.later HB6.out); clear hv hb c0 c1)
        | (go_at_call 27; (with_reducible refine (parts_seq w4.heap.size sa len cap (y.2 + 1, 1000000) zs _ RB6.out HS6.out).mono ?_); rintro e w7 ⟨rfl, hs, hg⟩; have HS7 := Lib.hid hs; have HV7 := Lib.hid (HV.out.later hg.below); have HB7 := Lib.hid (HB6.out.trans (hg.below.mono HS6.out)); clear hs hg)
        | (go_at_call 34; refine (appendSeq_any w4.heap.size _ _ sv cv _ sa len cap (y.2 + 1, 1000000) zs hm (by have := partsL_len zs (1, y.1 - 1); have := RB.out.1; omega) _ HV7.out (fun e => by have := (World.ownsRow.lt HV.out _ e).2; omega) HB7.out.size HS7.out).mono ?_; rintro e w8 ⟨v, rfl, hv, hb⟩; rw [HIS.out] at hv; have HB8 := Lib.hid (HB7.out.trans hb); obtain ⟨s8, c8, rfl, _⟩ := hv.reads; have HV8 := Lib.hid hv; clear hv hb)
        | (go_at_call 31; refine (orElse_row s8 _ c8 _ _ _ _ HL.out).mono ?_; rintro e w9 ⟨rfl, rfl⟩))
      go_ret
      exact ⟨_, rfl, HV8.out.res, HB4.out.trans (HB8.out.mono HB4.out.size)⟩
  · have HD := Lib.hid (decide_eq_false ok)
    have HE := Lib.hid (lessZ_not ok r)
    clear ok
    go_enter Try.func21, Try.ntmps21
    go_wp2_with (go_at_call 26; refine (isSet_any sa len cap zs _ hm (HR.out.readsA.later ((Below.refl _ _).alloc (Nat.le_refl _) _))).mono ?_; rintro e w1 ⟨rfl, hg⟩; rw [HD.out])
    go_ret
    exact ⟨_, rfl, by rw [HE.out]; exact (own_nil _ 0).res, (((Grew.refl w).alloc _).trans hg).below⟩
end Go.Proofs.Ytdihbkhhhonlpaa
