/- The walk of the law FailCodes. -/
import Derived.Test.YteniicpkkhgkbaaDoorFailAwake
namespace Go.Proofs.YteniicpkkhgkbaaDoor
open Go.RowKit

theorem ReadsS.cellAt {w wr : World} {v : Value} {l : List ByteArray} (h : ReadsS w v l) (hb : RowKit.Below w.heap.size w wr) {m : Nat} (hm : m < l.length) :
    ∃ b off cap, v = .slice (some ⟨b, off, none⟩) l.length cap ∧ wr.cell? ⟨b, off + m, none⟩ = some (.string (l.getD m ByteArray.empty)) := by
  obtain ⟨b, off, cap, e, _, _, hc⟩ := (h.later hb).at (by omega)
  exact ⟨b, off, cap, e, hc m hm⟩
def bX : ByteArray := ⟨#[120]⟩

set_option maxRecDepth 100000 in
set_option maxHeartbeats 4000000 in
theorem codes_not (c d : Int) (l : List ByteArray) (v : Value) (w : World) (hg : Laid w) (hr : ReadsS w v l) (hl : l.length ≤ 9223372036854775807) (hsz : ∀ s ∈ l, s.size ≤ 9223372036854775807) (hf : fewB l = false) :
    Calls Tryd.prog 4 #[.int .i64 c, .int .i64 d, v] w fun e w' => e = .returned (.bool true) ∧ RowKit.Below w.heap.size w w' := by
  have H := few_any l v w hr hl hsz
  rw [hf] at H
  have HF := Lib.hid H
  have HA := Lib.hid (awake_any w hg)
  clear H hg hr hsz hf
  go_enter Tryd.func4, Tryd.ntmps4
  go_wp2_with (first | (go_at_call 7; refine (HF.out).mono ?_; rintro e w1 ⟨rfl, rfl⟩) | (go_at_call 8; refine (HA.out).mono ?_; rintro e w1 ⟨rfl, hb⟩))
  go_ret
  exact ⟨rfl, hb⟩

set_option maxRecDepth 100000 in
set_option maxHeartbeats 4000000 in
theorem codes_err (c d : Int) (hc : c ≠ 0) (l : List ByteArray) (v : Value) (w : World) (hg : Laid w) (hr : ReadsS w v l) (hf : fewB l = true) :
    Calls Tryd.prog 4 #[.int .i64 c, .int .i64 d, v] w fun e w' => e = .returned (.bool true) ∧ RowKit.Below w.heap.size w w' := by
  obtain ⟨hl, hs⟩ := fewB_yes hf
  have H := few_any l v w hr (by omega) (fun s h => by have := hs s h; omega)
  rw [hf] at H
  have HF := Lib.hid H
  have HR := Lib.hid hr
  have HG := Lib.hid hg
  have HC := Lib.hid hc
  have e0 : (c != c) = false := by simp
  have ⟨bb, e1, e2⟩ : ∃ b : Bool, decide (c = d) = b ∧ (c == d) = b := ⟨decide (c = d), rfl, by by_cases h : c = d <;> simp [h]⟩
  have E1 := Lib.hid e1
  have e3 : (bb == bb) = true := by simp
  clear H hg hs hf hc e1
  obtain ⟨sa, cap, b, off, rfl, _⟩ := hr
  generalize hn : l.length = n at *
  have HN := Lib.hid hn
  clear hn
  go_enter Tryd.func4, Tryd.ntmps4
  go_wp2_with fail
  refine (HF.out).mono ?_; rintro e w1 ⟨rfl, rfl⟩
  go_wp2_with fail
  refine (new_err bX c HC.out _).mono ?_; rintro e w2 ⟨v2, rfl, he, hb⟩
  have HE2 : Hid (Err w2 v2 [bX] (.iface 28 (.int .i64 c))) := Lib.hid ⟨HG.out.below hb HG.out.pos, he⟩
  have HB2 := Lib.hid hb
  clear he hb
  go_wp2_with fail
  go_loopg [7, 8] n (fun k u i wr => ∃ (m : Nat) (lv : List ByteArray), m + k = n ∧ i = .int .i64 m ∧ lv.length = m + 1 ∧ Hid (Err wr u lv (.iface 28 (.int .i64 c))) ∧ Hid (RowKit.Below w.heap.size w wr))
  case atStart => exact ⟨0, [bX], by omega, rfl, rfl, HE2, HB2⟩
  case round =>
    obtain ⟨m, lv, hk, rfl, hlv, HE, HB⟩ := hrel
    by_cases hlt : m < n
    · obtain ⟨b', off', cap', e, hcell⟩ := HR.out.cellAt HB.out (m := m) (by rw [HN.out]; exact hlt)
      rw [HN.out] at e
      simp only [Value.slice.injEq, true_and] at e
      obtain ⟨rfl, rfl⟩ := e
      generalize l.getD m ByteArray.empty = s at *
      have i1 : (0 : Int) ≤ (m : Int) := by omega
      have i2 : (m : Int) < (n : Int) := by omega
      have HLV := Lib.hid hlv
      clear hlv
      go_wp2_with fail
      refine (wrap_err s lv _ _ _ wr HE.out.2).mono ?_; rintro e w3 ⟨v3, rfl, he, hb⟩
      have HE3 : Hid (Err w3 v3 (s :: lv) (.iface 28 (.int .i64 c))) := Lib.hid ⟨HE.out.1.below hb HE.out.1.pos, he⟩
      have HB3 := Lib.hid (HB.out.trans (hb.mono HB.out.size))
      clear he hb hcell
      go_wp2_with fail
      refine (HE3.out.code HC.out).mono ?_; rintro e w4 ⟨rfl, hb⟩
      have HE4 := Lib.hid (HE3.out.step hb)
      have HB4 := Lib.hid (HB3.out.trans (hb.mono HB3.out.size))
      clear hb
      go_wp2_with fail
      go_roundg (gk - 1)
      case measure => omega
      case rel => exact ⟨m + 1, s :: lv, by omega, by go_num, by rw [List.length_cons, HLV.out], HE4, HB4⟩
    · obtain rfl : m = n := by omega
      clear hlv hlt
      go_wp2_with fail
      refine (HE.out.is HC.out c).mono ?_; rintro e w4 ⟨rfl, hb⟩
      have HE4 := Lib.hid (HE.out.step hb)
      have HB4 := Lib.hid (HB.out.trans (hb.mono HB.out.size))
      clear hb
      go_wp2_with fail
      refine (HE4.out.is HC.out d).mono ?_; rintro e w5 ⟨rfl, hb⟩
      have HB5 := Lib.hid (HB4.out.trans (hb.mono HB4.out.size))
      have HA := Lib.hid (awake_any w5 (HE4.out.1.below hb HE4.out.1.pos))
      clear hb
      rw [E1.out]
      go_wp2_with fail
      refine (HA.out).mono ?_; rintro e w6 ⟨rfl, hb⟩
      have HB6 := Lib.hid (HB5.out.trans (hb.mono HB5.out.size))
      clear hb
      go_wp2_with fail
      go_ret
      exact ⟨rfl, HB6.out⟩

theorem is_nil (d : Int) (w : World) : Calls Tryd.prog 21 #[.nilIface, .int .i64 d] w fun e w' => e = .returned (.bool (decide ((0 : Int) = d))) ∧ RowKit.Below w.heap.size w w' :=
  is_of .nilIface 0 d w ((code_nil w).mono fun _ _ ⟨he, hw⟩ => ⟨he, by rw [hw]; exact Below.refl _ _⟩)

set_option maxRecDepth 100000 in
set_option maxHeartbeats 4000000 in
theorem codes_ok (d : Int) (l : List ByteArray) (v : Value) (w : World) (hg : Laid w) (hr : ReadsS w v l) (hf : fewB l = true) :
    Calls Tryd.prog 4 #[.int .i64 0, .int .i64 d, v] w fun e w' => e = .returned (.bool true) ∧ RowKit.Below w.heap.size w w' := by
  obtain ⟨hl, hs⟩ := fewB_yes hf
  have H := few_any l v w hr (by omega) (fun s h => by have := hs s h; omega)
  rw [hf] at H
  have HF := Lib.hid H
  have HR := Lib.hid hr
  have HG := Lib.hid hg
  have ⟨bb, e1, e2⟩ : ∃ b : Bool, decide ((0 : Int) = d) = b ∧ ((0 : Int) == d) = b := ⟨decide ((0 : Int) = d), rfl, by by_cases h : (0 : Int) = d <;> simp [h]⟩
  have E1 := Lib.hid e1
  have e3 : (bb == bb) = true := by simp
  clear H hg hs hf e1
  obtain ⟨sa, cap, b, off, rfl, _⟩ := hr
  generalize hn : l.length = n at *
  have HN := Lib.hid hn
  clear hn
  go_enter Tryd.func4, Tryd.ntmps4
  go_wp2_with fail
  refine (HF.out).mono ?_; rintro e w1 ⟨rfl, rfl⟩
  go_wp2_with fail
  refine (new_ok bX _).mono ?_; rintro e w2 ⟨rfl, rfl⟩
  go_wp2_with fail
  go_loopg [7, 8] n (fun k u i wr => ∃ m : Nat, m + k = n ∧ i = .int .i64 m ∧ u = .nilIface ∧ wr = w)
  case atStart => exact ⟨0, by omega, rfl, rfl, rfl⟩
  case round =>
    obtain ⟨m, hk, rfl, rfl, rfl⟩ := hrel
    by_cases hlt : m < n
    · obtain ⟨b', off', cap', e, hcell⟩ := HR.out.cellAt (Below.refl _ _) (m := m) (by rw [HN.out]; exact hlt)
      rw [HN.out] at e
      simp only [Value.slice.injEq, true_and] at e
      obtain ⟨rfl, rfl⟩ := e
      generalize l.getD m ByteArray.empty = s at *
      have i1 : (0 : Int) ≤ (m : Int) := by omega
      have i2 : (m : Int) < (n : Int) := by omega
      go_wp2_with fail
      refine (wrap_nil s _).mono ?_; rintro e w3 ⟨rfl, rfl⟩
      go_wp2_with fail
      refine (code_nil _).mono ?_; rintro e w3 ⟨rfl, rfl⟩
      go_wp2_with fail
      go_roundg (gk - 1)
      case measure => omega
      case rel => exact ⟨m + 1, by omega, by go_num, rfl, rfl⟩
    · obtain rfl : m = n := by omega
      clear hlt
      go_wp2_with fail
      refine (is_nil 0 _).mono ?_; rintro e w4 ⟨rfl, hb⟩
      have HB4 := Lib.hid hb
      clear hb
      go_wp2_with fail
      refine (is_nil d _).mono ?_; rintro e w5 ⟨rfl, hb⟩
      have HB5 := Lib.hid (HB4.out.trans (hb.mono HB4.out.size))
      have HA := Lib.hid (awake_any w5 (HG.out.below HB5.out HG.out.pos))
      clear hb
      rw [E1.out]
      go_wp2_with fail
      refine (HA.out).mono ?_; rintro e w6 ⟨rfl, hb⟩
      have HB6 := Lib.hid (HB5.out.trans (hb.mono HB5.out.size))
      clear hb
      go_wp2_with fail
      go_ret
      exact ⟨rfl, HB6.out⟩
theorem codes_walk (c d : Int) (l : List ByteArray) (v : Value) (w : World) (hg : Laid w) (hr : ReadsS w v l) (hl : l.length ≤ 9223372036854775807) (hsz : ∀ s ∈ l, s.size ≤ 9223372036854775807) :
    Calls Tryd.prog 4 #[.int .i64 c, .int .i64 d, v] w fun e w' => e = .returned (.bool true) ∧ RowKit.Below w.heap.size w w' := by
  by_cases hf : fewB l = true
  · by_cases hc : c = 0
    · subst hc; exact codes_ok d l v w hg hr hf
    · exact codes_err c d hc l v w hg hr hf
  · exact codes_not c d l v w hg hr hl hsz (Bool.eq_false_iff.2 hf)
end Go.Proofs.YteniicpkkhgkbaaDoor
