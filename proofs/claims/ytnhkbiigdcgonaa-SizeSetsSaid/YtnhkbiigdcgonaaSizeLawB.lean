/- The walks of SizeSets and SizeRing (layer 1): each returns true, whatever it is given, and nothing that was there has turned. -/
import Derived.Test.YtnhkbiigdcgonaaSizeAwake
import Derived.Outline
namespace Go.Proofs.Ytnhkbiigdcgonaa
open Go.RowKit

theorem set_gen (sa : Option Addr) (b off len cap : Nat) (zs : List Int) (w : World) (hm : len ≤ maxLen) (hz : len = zs.length) (hsa : 0 < len → sa = some ⟨b, off, none⟩)
    (hc : ∀ j, j < len → w.cell? ⟨b, off + j, none⟩ = some (.int .i64 (zs.getD j 0))) :
    Calls Try.prog 18 #[.slice sa len cap] w fun e w' => e = .returned (.int .i64 (setN zs)) ∧ w = w' := by
  by_cases h0 : len = 0
  · subst h0
    obtain rfl : zs = [] := List.length_eq_zero_iff.1 hz.symm
    exact ret_eq (set_empty _ _ _) (by rw [setN_nil]; rfl)
  · obtain rfl := hsa (by omega)
    exact set_at b off len cap zs w hm hz hc
theorem cnt_len (s : Int) (h0 : 0 ≤ s) (h5 : s ≤ 511) : (cnt s.toNat : Int) = ((lstQ s 10).length : Nat) := by
  have key : ∀ k : Fin 512, (cnt (k.val : Int).toNat : Int) = ((lstQ (k.val : Int) 10).length : Nat) := by decide +kernel
  obtain ⟨k, rfl⟩ := Int.eq_ofNat_of_zero_le h0
  exact key ⟨k, by omega⟩
theorem lstQ_none (s : Int) (h : s < 0 ∨ 511 < s) (k : Nat) : lstQ s k = [] := by
  have e : ∀ r, hasB s r = false := fun r => by
    unfold hasB; rcases h with q | q
    · rw [decide_eq_false (show ¬ 0 ≤ s by omega)]; rfl
    · rw [decide_eq_false (show ¬ s ≤ 511 by omega)]; simp
  simp [lstQ, e]
theorem count_any (s : Int) (w : World) : Calls Try.prog 22 #[.int .i64 s] w fun e w' => e = .returned (.int .i64 ((lstQ s 10).length : Nat)) ∧ w = w' := by
  by_cases q : s < 0 ∨ 511 < s
  · exact ret_eq (count_no s q w) (by rw [lstQ_none s q]; rfl)
  · exact ret_eq (count_yes s (by omega) (by omega) w) (cnt_len s (by omega) (by omega))

set_option maxHeartbeats 3200000 in
theorem sets_walk (sa : Option Addr) (b off len cap : Nat) (zs : List Int) (s r : Int) (w : World) (hm : len ≤ maxLen) (hz : len = zs.length) (hsa : 0 < len → sa = some ⟨b, off, none⟩)
    (hc : ∀ j, j < len → w.cell? ⟨b, off + j, none⟩ = some (.int .i64 (zs.getD j 0))) :
    Calls Try.prog 4 #[.slice sa len cap, .int .i64 s, .int .i64 r] w fun e w' => e = .returned (.bool true) ∧ Below w.heap.size w w' := by
  have HM := Lib.hid hm
  have HZ := Lib.hid hz; clear hz
  have HA := Lib.hid hsa; clear hsa
  have HC := Lib.hid hc; clear hc
  unfold maxLen at hm
  by_cases h1 : 1000 < len
  · have h1' : (1000 : Int) < (len : Int) := by omega
    go_enter Try.func4, Try.ntmps4
    go_wp2_with (go_at_call 16; refine (awake_any _).mono ?_; rintro e w3 ⟨rfl, hb3⟩)
    go_ret
    exact ⟨rfl, hb3⟩
  have h1' : (len : Int) ≤ 1000 := by omega
  go_enter Try.func4, Try.ntmps4
  go_wp2_with fail
  refine (rlist_any s _).mono ?_; rintro e w1 ⟨v, rfl, hown, hb1⟩
  obtain ⟨ma, mcap, mb, rfl, hma, hmc⟩ := hown.reads
  have HR := Lib.hid (show Reads w1 (.slice ma (lstQ s 10).length mcap) (lstQ s 10) from ⟨ma, mcap, mb, rfl, hma, hmc⟩)
  clear hown hma hmc
  have HC1 : Hid (∀ j, j < len → w1.cell? ⟨b, off + j, none⟩ = some (.int .i64 (zs.getD j 0))) := fun j hj => (hb1.cell (p := ⟨b, off + j, none⟩) (World.block_lt_of_cell? _ _ (HC.out j hj))).trans (HC.out j hj)
  have HL := Lib.hid (lstQ_len s 10)
  go_wp2_with (first
    | (go_at_call 18; refine (set_gen _ b off _ _ zs _ HM.out HZ.out HA.out HC1.out).mono ?_; rintro e w' ⟨rfl, rfl⟩)
    | (go_at_call 19; refine (rset_any _ b off _ _ zs _ HM.out HZ.out HA.out HC1.out).mono ?_; rintro e w' ⟨rfl, rfl⟩)
    | (go_at_call 20; refine (has_any _ _ _).mono ?_; rintro e w' ⟨rfl, rfl⟩)
    | (go_at_call 21; refine (rhas_any _ _ _).mono ?_; rintro e w2 ⟨rfl, hb2⟩)
    | (go_at_call 22; refine (count_any _ _).mono ?_; rintro e w' ⟨rfl, rfl⟩)
    | (go_at_call 24; refine (list_any _ _).mono ?_; rintro e w4 ⟨v, rfl, hown, hb4⟩)
    | (go_at_call 23; refine (same_yes _ _ (lstQ s 10) _ hown.reads ((HR.out.later hb2).later hb4) (Nat.le_trans HL.out (by decide))).mono ?_; rintro e w5 ⟨rfl, hb5⟩)
    | (go_at_call 16; refine (awake_any _).mono ?_; rintro e w6 ⟨rfl, hb6⟩))
  go_ret
  have z1 := hb1.size
  have z2 := hb2.size
  have z4 := hb4.size
  have z5 := hb5.size
  exact ⟨rfl, (((hb1.trans (hb2.mono z1)).trans (hb4.mono (by omega))).trans (hb5.mono (by omega))).trans (hb6.mono (by omega))⟩
end Go.Proofs.Ytnhkbiigdcgonaa
