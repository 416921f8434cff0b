/- The contract of the document's edges: the numbers at which something changes. -/
import Derived.Test.YtdihbkhhhonlpaaRngPut
namespace Go.Proofs.Ytdihbkhhhonlpaa
open Go.RowKit Go.Sort

attribute [local go_sem ↓] Go.wp_at_zero Go.wp_at_succ

theorem edgesL_take (zs : List (Int × Int)) (k : Nat) (hk : k < zs.length) : edgesL (zs.take (k + 1)) = edge2 (edge1 (edgesL (zs.take k)) (zs.getD k (0, 0))) (zs.getD k (0, 0)) := by
  rw [List.take_succ_eq_append_getElem hk, edgesL_snoc]
  simp [List.getD, hk]
theorem edgesL_tlen (zs : List (Int × Int)) (k : Nat) (h : k ≤ 1000) : (edgesL (zs.take k)).length ≤ 5000 ∧ ∀ n, (putL (edgesL (zs.take k)) n).length ≤ 5000 := by
  have h1 := (edgesL_ok (zs.take k)).len
  rw [List.length_take] at h1
  exact ⟨by omega, fun n => by have := putL_len n (edgesL (zs.take k)); omega⟩
theorem edge1_put {e : List Int} {r : Int × Int} (h1 : decide (r.1 > 1) = true) (h2 : decide (r.1 ≤ 1000000) = true) : edge1 e r = putL e r.1 := by
  unfold edge1; rw [show decide (1 < r.1) = true from h1, h2]; rfl
theorem edge1_not {e : List Int} {r : Int × Int} (h1 : decide (r.1 > 1) = false) : edge1 e r = e := by
  unfold edge1; rw [show decide (1 < r.1) = false from h1]; rfl
theorem edge1_not2 {e : List Int} {r : Int × Int} (h1 : decide (r.1 ≤ 1000000) = false) : edge1 e r = e := by
  unfold edge1; rw [h1, Bool.and_false]; rfl
theorem edge2_put {e : List Int} {r : Int × Int} (h1 : decide (r.2 ≥ 1) = true) (h2 : decide (r.2 < 1000000) = true) : edge2 e r = putL e (r.2 + 1) := by
  unfold edge2; rw [show decide (1 ≤ r.2) = true from h1, h2]; rfl
theorem edge2_not {e : List Int} {r : Int × Int} (h1 : decide (r.2 ≥ 1) = false) : edge2 e r = e := by
  unfold edge2; rw [show decide (1 ≤ r.2) = false from h1]; rfl
theorem edge2_not2 {e : List Int} {r : Int × Int} (h1 : decide (r.2 < 1000000) = false) : edge2 e r = e := by
  unfold edge2; rw [h1, Bool.and_false]; rfl

set_option maxRecDepth 100000 in
set_option maxHeartbeats 6400000 in
theorem redges_any (sa : Option Addr) (len cap : Nat) (zs : List (Int × Int)) (w : World) (hm : len ≤ 1000) (hr : ReadsA w sa len zs) :
    Calls Try.prog 42 #[.slice sa len cap] w fun e w' => ∃ v, e = .returned v ∧ RowI w' v (edgesL zs) ∧ RowKit.Below w.heap.size w w' := by
  have hmix := mixed
  have HZ := Lib.hid hr.1
  have HR := Lib.hid hr; clear hr
  go_enter Try.func42, Try.ntmps42
  go_wp2
  go_loopg [3, 4] len (fun gg v i wr => ∃ k : Nat, k + gg = len ∧ i = .int .i64 k ∧ Hid (RowI wr v (edgesL (zs.take k))) ∧ Hid (RowKit.Below w.heap.size w wr))
  case atStart => exact ⟨0, by omega, rfl, Lib.hid ⟨_, 1, rfl, Nat.le_refl _, one_int w 1⟩, Lib.hid ((Below.refl _ _).alloc (Nat.le_refl _) _)⟩
  case round =>
    obtain ⟨k, hk, rfl, HE, HB⟩ := hrel
    by_cases hlt : k < len
    · obtain ⟨b, off, rfl, g⟩ := (HR.out.later HB.out).2 (by omega)
      obtain ⟨l0, l1⟩ := g k hlt
      clear g
      have HT := Lib.hid (edgesL_take zs k (by rw [← HZ.out]; exact hlt))
      obtain ⟨n1, n2⟩ := edgesL_tlen zs k (by omega)
      obtain ⟨x, hx⟩ : ∃ x, x = zs.getD k (0, 0) := ⟨_, rfl⟩
      obtain ⟨E, hE⟩ : ∃ E, E = edgesL (zs.take k) := ⟨_, rfl⟩
      rw [← hx] at l0 l1 HT
      rw [← hE] at HE HT n1 n2
      clear hx hE
      have N1 := Lib.hid n1
      have N2 := Lib.hid n2
      clear n1 n2
      have i1 : (0 : Int) ≤ (k : Int) := by omega
      have i2 : (k : Int) < (len : Int) := by omega
      by_cases q1 : x.1 > 1
      · have d1 : decide (x.1 > 1) = true := decide_eq_true q1
        by_cases q2 : x.1 ≤ 1000000
        · have d2 : decide (x.1 ≤ 1000000) = true := decide_eq_true q2
          clear q1 q2
          by_cases q3 : x.2 ≥ 1
          · have d3 : decide (x.2 ≥ 1) = true := decide_eq_true q3
            by_cases q4 : x.2 < 1000000
            · have d4 : decide (x.2 < 1000000) = true := decide_eq_true q4
              have i5 : 1 ≤ x.2 := q3
              have i6 : x.2 ≤ 1000000 := by omega
              clear q3 q4
              have HTT := Lib.hid (show edgesL (zs.take (k + 1)) = _ from HT.out.trans (by rw [edge1_put d1 d2, edge2_put d3 d4]))
              go_wp2_with (first
                | (go_at_call 46; with_reducible refine (rput_any _ E x.1 _ N1.out HE.out).mono ?_; rintro e w1 ⟨v1, rfl, h1, hb1⟩; have H1 := Lib.hid h1; have HB1 := Lib.hid (HB.out.trans (hb1.mono HB.out.size)); have l2 := (hb1.cell (World.block_lt_of_cell? _ _ l1)).trans l1; clear h1 hb1)
                | (go_at_call 46; with_reducible refine (rput_any _ (putL E x.1) (x.2 + 1) _ (N2.out x.1) H1.out).mono ?_; rintro e w2 ⟨v2, rfl, h2, hb2⟩; have H2 := Lib.hid h2; have HB2 := Lib.hid (HB1.out.trans (hb2.mono HB1.out.size)); clear h2 hb2))
              go_roundg (gk - 1)
              case measure => omega
              case rel => exact ⟨k + 1, by omega, by go_num, Lib.hid (by rw [HTT.out]; exact H2.out), HB2⟩
            · have d4 : decide (x.2 < 1000000) = false := decide_eq_false q4
              clear q3 q4
              have HTT := Lib.hid (show edgesL (zs.take (k + 1)) = _ from HT.out.trans (by rw [edge1_put d1 d2, edge2_not2 d4]))
              go_wp2_with (first
                | (go_at_call 46; with_reducible refine (rput_any _ E x.1 _ N1.out HE.out).mono ?_; rintro e w1 ⟨v1, rfl, h1, hb1⟩; have H1 := Lib.hid h1; have HB1 := Lib.hid (HB.out.trans (hb1.mono HB.out.size)); have l2 := (hb1.cell (World.block_lt_of_cell? _ _ l1)).trans l1; clear h1 hb1))
              go_roundg (gk - 1)
              case measure => omega
              case rel => exact ⟨k + 1, by omega, by go_num, Lib.hid (by rw [HTT.out]; exact H1.out), HB1⟩
          · have d3 : decide (x.2 ≥ 1) = false := decide_eq_false q3
            clear q3
            have HTT := Lib.hid (show edgesL (zs.take (k + 1)) = _ from HT.out.trans (by rw [edge1_put d1 d2, edge2_not d3]))
            go_wp2_with (first
              | (go_at_call 46; with_reducible refine (rput_any _ E x.1 _ N1.out HE.out).mono ?_; rintro e w1 ⟨v1, rfl, h1, hb1⟩; have H1 := Lib.hid h1; have HB1 := Lib.hid (HB.out.trans (hb1.mono HB.out.size)); have l2 := (hb1.cell (World.block_lt_of_cell? _ _ l1)).trans l1; clear h1 hb1))
            go_roundg (gk - 1)
            case measure => omega
            case rel => exact ⟨k + 1, by omega, by go_num, Lib.hid (by rw [HTT.out]; exact H1.out), HB1⟩
        · have d2 : decide (x.1 ≤ 1000000) = false := decide_eq_false q2
          clear q1 q2
          by_cases q3 : x.2 ≥ 1
          · have d3 : decide (x.2 ≥ 1) = true := decide_eq_true q3
            by_cases q4 : x.2 < 1000000
            · have d4 : decide (x.2 < 1000000) = true := decide_eq_true q4
              have i5 : 1 ≤ x.2 := q3
              have i6 : x.2 ≤ 1000000 := by omega
              clear q3 q4
              have HTT := Lib.hid (show edgesL (zs.take (k + 1)) = _ from HT.out.trans (by rw [edge1_not2 d2, edge2_put d3 d4]))
              go_wp2_with (first
                | (go_at_call 46; with_reducible refine (rput_any _ E (x.2 + 1) _ N1.out HE.out).mono ?_; rintro e w2 ⟨v2, rfl, h2, hb2⟩; have H2 := Lib.hid h2; have HB2 := Lib.hid (HB.out.trans (hb2.mono HB.out.size)); clear h2 hb2))
              go_roundg (gk - 1)
              case measure => omega
              case rel => exact ⟨k + 1, by omega, by go_num, Lib.hid (by rw [HTT.out]; exact H2.out), HB2⟩
            · have d4 : decide (x.2 < 1000000) = false := decide_eq_false q4
              clear q3 q4
              have HTT := Lib.hid (show edgesL (zs.take (k + 1)) = _ from HT.out.trans (by rw [edge1_not2 d2, edge2_not2 d4]))
              go_wp2_with fail
              go_roundg (gk - 1)
              case measure => omega
              case rel => exact ⟨k + 1, by omega, by go_num, Lib.hid (by rw [HTT.out]; exact HE.out), HB⟩
          · have d3 : decide (x.2 ≥ 1) = false := decide_eq_false q3
            clear q3
            have HTT := Lib.hid (show edgesL (zs.take (k + 1)) = _ from HT.out.trans (by rw [edge1_not2 d2, edge2_not d3]))
            go_wp2_with fail
            go_roundg (gk - 1)
            case measure => omega
            case rel => exact ⟨k + 1, by omega, by go_num, Lib.hid (by rw [HTT.out]; exact HE.out), HB⟩
      · have d1 : decide (x.1 > 1) = false := decide_eq_false q1
        clear q1
        by_cases q3 : x.2 ≥ 1
        · have d3 : decide (x.2 ≥ 1) = true := decide_eq_true q3
          by_cases q4 : x.2 < 1000000
          · have d4 : decide (x.2 < 1000000) = true := decide_eq_true q4
            have i5 : 1 ≤ x.2 := q3
            have i6 : x.2 ≤ 1000000 := by omega
            clear q3 q4
            have HTT := Lib.hid (show edgesL (zs.take (k + 1)) = _ from HT.out.trans (by rw [edge1_not d1, edge2_put d3 d4]))
            go_wp2_with (first
              | (go_at_call 46; with_reducible refine (rput_any _ E (x.2 + 1) _ N1.out HE.out).mono ?_; rintro e w2 ⟨v2, rfl, h2, hb2⟩; have H2 := Lib.hid h2; have HB2 := Lib.hid (HB.out.trans (hb2.mono HB.out.size)); clear h2 hb2))
            go_roundg (gk - 1)
            case measure => omega
            case rel => exact ⟨k + 1, by omega, by go_num, Lib.hid (by rw [HTT.out]; exact H2.out), HB2⟩
          · have d4 : decide (x.2 < 1000000) = false := decide_eq_false q4
            clear q3 q4
            have HTT := Lib.hid (show edgesL (zs.take (k + 1)) = _ from HT.out.trans (by rw [edge1_not d1, edge2_not2 d4]))
            go_wp2_with fail
            go_roundg (gk - 1)
            case measure => omega
            case rel => exact ⟨k + 1, by omega, by go_num, Lib.hid (by rw [HTT.out]; exact HE.out), HB⟩
        · have d3 : decide (x.2 ≥ 1) = false := decide_eq_false q3
          clear q3
          have HTT := Lib.hid (show edgesL (zs.take (k + 1)) = _ from HT.out.trans (by rw [edge1_not d1, edge2_not d3]))
          go_wp2_with fail
          go_roundg (gk - 1)
          case measure => omega
          case rel => exact ⟨k + 1, by omega, by go_num, Lib.hid (by rw [HTT.out]; exact HE.out), HB⟩
    · obtain rfl : k = len := by omega
      have HEE := Lib.hid (show edgesL (zs.take k) = edgesL zs by rw [List.take_of_length_le (by rw [HZ.out]; exact Nat.le_refl _)])
      clear hlt
      go_wp2
      go_ret
      exact ⟨_, rfl, by rw [← HEE.out]; exact HE.out, HB.out⟩
end Go.Proofs.Ytdihbkhhhonlpaa
