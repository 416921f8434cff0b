/- The walk of the law FailNobody. -/
import Derived.Test.YteniicpkkhgkbaaDoorFailLawC
namespace Go.Proofs.YteniicpkkhgkbaaDoor
open Go.RowKit

def bY : ByteArray := ⟨#[121]⟩
theorem text_y : preB [bY] ++ lastB .nilIface = ⟨#[121, 58, 32]⟩ := rfl

set_option maxRecDepth 100000 in
set_option maxHeartbeats 4000000 in
theorem nobody_zero (w : World) (hg : Laid w) : Calls Tryd.prog 6 #[.int .i64 0] w fun e w' => e = .returned (.bool true) ∧ RowKit.Below w.heap.size w w' := by
  have HG := Lib.hid hg; clear hg
  go_enter Tryd.func6, Tryd.ntmps6
  go_wp2_with fail
  refine (code_nil _).mono ?_; rintro e w1 ⟨rfl, rfl⟩
  go_wp2_with fail
  refine (is_nil 0 _).mono ?_; rintro e w1 ⟨rfl, hb⟩
  have HB1 := Lib.hid hb; clear hb
  go_wp2_with fail
  refine (is_nil 3 _).mono ?_; rintro e w2 ⟨rfl, hb⟩
  have HB2 := Lib.hid (HB1.out.trans (hb.mono HB1.out.size)); clear hb
  go_wp2_with fail
  refine ((Err.nil (HG.out.below HB2.out HG.out.pos)).trace (.inl rfl) (by decide)).mono ?_; rintro e w3 ⟨u, rfl, hu, hb⟩
  obtain ⟨sa, cap, b, off, rfl, _⟩ := hu
  have HB3 := Lib.hid (HB2.out.trans (hb.mono HB2.out.size)); clear hb
  go_wp2_with fail
  refine (awake_any w3 (HG.out.below HB3.out HG.out.pos)).mono ?_; rintro e w4 ⟨rfl, hb⟩
  have HB4 := Lib.hid (HB3.out.trans (hb.mono HB3.out.size)); clear hb
  go_wp2_with fail
  go_ret
  exact ⟨rfl, HB4.out⟩

set_option maxRecDepth 100000 in
set_option maxHeartbeats 4000000 in
theorem nobody_err (c : Int) (hc : c ≠ 0) (w : World) (hg : Laid w) : Calls Tryd.prog 6 #[.int .i64 c] w fun e w' => e = .returned (.bool true) ∧ RowKit.Below w.heap.size w w' := by
  have HG := Lib.hid hg; clear hg
  have HC := Lib.hid hc
  have hc0 : (c == 0) = false := by simpa using hc
  have hc1 : (c == c) = true := by simp
  clear hc
  go_enter Tryd.func6, Tryd.ntmps6
  go_wp2_with fail
  have HB0 : Hid (RowKit.Below w.heap.size w (w.alloc (.cells #[.string bY, .nilIface] 48))) := Lib.hid ((Below.refl _ _).alloc (Nat.le_refl _) _)
  have HF0 : Hid (Err (w.alloc (.cells #[.string bY, .nilIface] 48)) (.iface 46 (.pointer (some ⟨w.heap.size, 0, none⟩))) [bY] .nilIface) :=
    Lib.hid ⟨HG.out.alloc _, ⟨w.heap.size, .nilIface, by simp, rfl, by simp, by simp, rfl⟩⟩
  change Calls _ _ _ (w.alloc (.cells #[.string bY, .nilIface] 48)) _
  generalize w.alloc (.cells #[.string bY, .nilIface] 48) = w0 at *
  have HE0 : Hid (Err w0 (.iface 28 (.int .i64 c)) [] (.iface 28 (.int .i64 c))) := Lib.hid ⟨HF0.out.1, rfl⟩
  refine (HE0.out.code HC.out).mono ?_; rintro e w1 ⟨rfl, hb⟩
  have HE1 := Lib.hid (HE0.out.step hb); have HF1 := Lib.hid (HF0.out.step hb); have HB1 := Lib.hid (HB0.out.trans (hb.mono HB0.out.size)); clear hb HE0 HF0 HB0
  go_wp2_with fail
  refine (HE1.out.trace (.inr ⟨c, rfl⟩) (by decide)).mono ?_; rintro e w2 ⟨u, rfl, hu, hb⟩
  obtain ⟨sa, cap, b, off, rfl, _⟩ := hu
  have HE2 := Lib.hid (HE1.out.step hb); have HF2 := Lib.hid (HF1.out.step hb); have HB2 := Lib.hid (HB1.out.trans (hb.mono HB1.out.size)); clear hb HE1 HF1 HB1
  go_wp2_with fail
  refine (HE2.out.deep (.inr ⟨c, rfl⟩) (by decide)).mono ?_; rintro e w3 ⟨rfl, hb⟩
  have HF3 := Lib.hid (HF2.out.step hb); have HB3 := Lib.hid (HB2.out.trans (hb.mono HB2.out.size)); clear hb HE2 HF2 HB2
  go_wp2_with fail
  refine (code_miss [bY] (by decide) _ _ w3 HF3.out.1 HF3.out.2 (Nat.le_refl _)).mono ?_; rintro e w4 ⟨rfl, hb⟩
  have HF4 := Lib.hid (HF3.out.step hb); have HB4 := Lib.hid (HB3.out.trans (hb.mono HB3.out.size)); clear hb HF3 HB3
  go_wp2_with fail
  refine (HF4.out.trace (.inl rfl) (by decide)).mono ?_; rintro e w5 ⟨u, rfl, hu, hb⟩
  have HF5 := Lib.hid (HF4.out.step hb); have HB5 := Lib.hid (HB4.out.trans (hb.mono HB4.out.size)); have HU := Lib.hid hu; clear hb HF4 HB4 hu
  go_wp2_with fail
  have HA : RowKit.Below w5.heap.size w5 (w5.alloc (.cells #[.string bY] 9)) := (Below.refl _ _).alloc (Nat.le_refl _) _
  have HU2 : Hid (ReadsS (w5.alloc (.cells #[.string bY] 9)) (.slice (some ⟨w5.heap.size, 0, none⟩) 1 1) [bY]) := Lib.hid (reads_one (by simp))
  have HS := Lib.hid (same_yes u (.slice (some ⟨w5.heap.size, 0, none⟩) 1 1) [bY] _ (HU.out.later HA) HU2.out (by decide))
  have HF6 := Lib.hid (HF5.out.step HA); have HB6 := Lib.hid (HB5.out.trans (HA.mono HB5.out.size))
  clear HA HU2 HU HF5 HB5
  refine (HS.out).mono ?_; rintro e w7 ⟨rfl, hb⟩
  have HF7 := Lib.hid (HF6.out.step hb); have HB7 := Lib.hid (HB6.out.trans (hb.mono HB6.out.size)); clear hb HF6 HB6 HS
  go_wp2_with fail
  refine (HF7.out.text (.inl rfl) (by decide) (by decide) _ text_y).mono ?_; rintro e w8 ⟨rfl, hb⟩
  have HF8 := Lib.hid (HF7.out.step hb); have HB8 := Lib.hid (HB7.out.trans (hb.mono HB7.out.size)); clear hb HF7 HB7
  go_wp2_with fail
  refine (awake_any w8 HF8.out.1).mono ?_; rintro e w9 ⟨rfl, hb⟩
  have HB9 := Lib.hid (HB8.out.trans (hb.mono HB8.out.size)); clear hb HB8
  go_wp2_with fail
  go_ret
  exact ⟨rfl, HB9.out⟩
theorem nobody_walk (c : Int) (w : World) (hg : Laid w) : Calls Tryd.prog 6 #[.int .i64 c] w fun e w' => e = .returned (.bool true) ∧ RowKit.Below w.heap.size w w' := by
  by_cases hc : c = 0
  · subst hc; exact nobody_zero w hg
  · exact nobody_err c hc w hg
end Go.Proofs.YteniicpkkhgkbaaDoor
