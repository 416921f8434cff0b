/- The contract of a fault's own Error, and of the laws' probe. -/
import Derived.Test.YteniicpkkhgkbaaDoorFailRef
namespace Go.Proofs.YteniicpkkhgkbaaDoor
open Go.RowKit

/-- v is an error in w: its ops are l, what lies innermost is x. -/
def Err (w : World) (v : Value) (l : List ByteArray) (x : Value) : Prop := Laid w ∧ ErrAt w.heap.size w v l x
theorem Err.step {w w' : World} {v : Value} {l : List ByteArray} {x : Value} (h : Err w v l x) (hb : RowKit.Below w.heap.size w w') : Err w' v l x :=
  ⟨h.1.below hb h.1.pos, (h.2.later (fun b o q => hb.cell (p := ⟨b, o, none⟩) q)).wider hb.size⟩
theorem Err.nil {w : World} (h : Laid w) : Err w .nilIface [] .nilIface := ⟨h, rfl⟩
theorem Err.code {w : World} {v : Value} {l : List ByteArray} {c : Int} (h : Err w v l (.iface 28 (.int .i64 c))) (hc : c ≠ 0) :
    Calls Tryd.prog 13 #[v] w fun e w' => e = .returned (.int .i64 c) ∧ RowKit.Below w.heap.size w w' := code_hit c hc l v _ w h.1 h.2 (Nat.le_refl _)
theorem Err.is {w : World} {v : Value} {l : List ByteArray} {c : Int} (h : Err w v l (.iface 28 (.int .i64 c))) (hc : c ≠ 0) (d : Int) :
    Calls Tryd.prog 21 #[v, .int .i64 d] w fun e w' => e = .returned (.bool (decide (c = d))) ∧ RowKit.Below w.heap.size w w' := is_of v c d w (h.code hc)
theorem Err.trace {w : World} {v : Value} {l : List ByteArray} {x : Value} (h : Err w v l x) (hx : Inner x) (hl : l.length ≤ 1000) :
    Calls Tryd.prog 15 #[v] w fun e w' => ∃ u, e = .returned u ∧ ReadsS w' u l ∧ RowKit.Below w.heap.size w w' :=
  (trace_any l v x _ w h.1 h.2 hx (Nat.le_refl _) hl).mono fun _ _ ⟨u, he, ho, hb⟩ => ⟨u, he, ho.reads, hb⟩
theorem Err.deep {w : World} {v : Value} {l : List ByteArray} {x : Value} (h : Err w v l x) (hx : Inner x) (hl : l.length ≤ 1000) :
    Calls Tryd.prog 18 #[v] w fun e w' => e = .returned (.int .i64 l.length) ∧ RowKit.Below w.heap.size w w' := deep_any l v x _ w h.1 h.2 hx (Nat.le_refl _) hl
theorem Err.at {w : World} {v : Value} {l : List ByteArray} {x : Value} (h : Err w v l x) (hx : Inner x) (hl : l.length ≤ 1000) (op : ByteArray) :
    Calls Tryd.prog 19 #[v, .string op] w fun e w' => e = .returned (.bool (Lib.containsS l op)) ∧ RowKit.Below w.heap.size w w' := at_any l op v x _ w h.1 h.2 hx (Nat.le_refl _) hl
theorem Err.text {w : World} {v : Value} {l : List ByteArray} {x : Value} (h : Err w v l x) (hx : InnerM x) (hl : l.length ≤ 1000) (hs : ∀ s ∈ l, s.size ≤ 1000) (t : ByteArray) (ht : preB l ++ lastB x = t) :
    Calls Tryd.prog 16 #[v] w fun e w' => e = .returned (.string t) ∧ RowKit.Below w.heap.size w w' := by
  rw [← ht]; exact text_any l v x _ w h.1 h.2 hx (Nat.le_refl _) hl hs

theorem ferror_nil (w : World) : Calls Tryd.prog 22 #[.pointer none] w fun e w' => e = .returned (.string ⟨#[]⟩) ∧ w = w' := by
  go_enter Tryd.func22, Tryd.ntmps22
  go_wp2
  go_ret
  exact ⟨rfl, rfl⟩
theorem ferror_any (p : Addr) (t : ByteArray) (w : World) (h : Calls Tryd.prog 16 #[.iface 46 (.pointer (some p))] w fun e w' => e = .returned (.string t) ∧ RowKit.Below w.heap.size w w') :
    Calls Tryd.prog 22 #[.pointer (some p)] w fun e w' => e = .returned (.string t) ∧ RowKit.Below w.heap.size w w' := by
  have H := Lib.hid h; clear h
  go_enter Tryd.func22, Tryd.ntmps22
  go_wp2_with (go_at_call 16; refine (H.out).mono ?_; rintro e w1 ⟨rfl, hb⟩)
  go_ret
  exact ⟨rfl, hb⟩

def bDisk : ByteArray := ⟨#[100, 105, 115, 107]⟩
def bLog : ByteArray := ⟨#[108, 111, 103]⟩
def bA : ByteArray := ⟨#[97]⟩
theorem errorB_22 : errorB 22 = ⟨#[101, 114, 114, 111, 114, 32, 50, 50]⟩ := by
  unfold errorB numB
  rw [if_neg (by decide), show (22 : Int).toNat = 22 from rfl, ← digB_step 22 (by decide), show 22 / 10 = 2 from rfl, ← digB_step 2 (by decide), show 2 / 10 = 0 from rfl, digB_zero]
  rfl
theorem errorB_3 : errorB 3 = ⟨#[101, 114, 114, 111, 114, 32, 51]⟩ := by
  unfold errorB numB
  rw [if_neg (by decide), show (3 : Int).toNat = 3 from rfl, ← digB_step 3 (by decide), show 3 / 10 = 0 from rfl, digB_zero]
  rfl
theorem text_22 : preB [bLog, bDisk] ++ lastB (.iface 28 (.int .i64 22)) = ⟨#[108, 111, 103, 58, 32, 100, 105, 115, 107, 58, 32, 101, 114, 114, 111, 114, 32, 50, 50]⟩ := by
  show preB [bLog, bDisk] ++ errorB 22 = _
  rw [errorB_22]; rfl
theorem text_3 : preB [bA] ++ lastB (.iface 28 (.int .i64 3)) = ⟨#[97, 58, 32, 101, 114, 114, 111, 114, 32, 51]⟩ := by
  show preB [bA] ++ errorB 3 = _
  rw [errorB_3]; rfl
theorem text_0 : preB [] ++ lastB .nilIface = ⟨#[]⟩ := rfl
theorem has_disk : Lib.containsS [bLog, bDisk] bDisk = true := by rw [Lib.containsS_iff]; simp
theorem has_a : Lib.containsS [bLog, bDisk] bA = false := by
  rw [Bool.eq_false_iff]; intro h; rw [Lib.containsS_iff] at h; simp [bLog, bDisk, bA] at h

set_option maxRecDepth 100000 in
set_option maxHeartbeats 4000000 in
theorem awake_any (w : World) (hg : Laid w) : Calls Tryd.prog 8 #[] w fun e w' => e = .returned (.bool true) ∧ RowKit.Below w.heap.size w w' := by
  have HG := Lib.hid hg; clear hg
  go_enter Tryd.func8, Tryd.ntmps8
  go_wp2_with fail
  refine (new_err bDisk 22 (by decide) _).mono ?_; rintro e w1 ⟨v1, rfl, he, hb⟩
  have HE1 := Lib.hid he; have HB1 := Lib.hid hb; clear he hb
  go_wp2_with fail
  refine (wrap_err bLog [bDisk] _ _ v1 w1 HE1.out).mono ?_; rintro e w2 ⟨v2, rfl, he, hb⟩
  have HB2 := Lib.hid (HB1.out.trans (hb.mono HB1.out.size))
  have HE2 : Hid (Err w2 v2 [bLog, bDisk] (.iface 28 (.int .i64 22))) := Lib.hid ⟨HG.out.below HB2.out HG.out.pos, he⟩
  clear he hb HE1 HB1
  -- steps
  go_wp2_with fail
  have HF2 : Hid (Err (w2.alloc (.cells #[.string bA, .iface 28 (.int .i64 3)] 48)) (.iface 46 (.pointer (some ⟨w2.heap.size, 0, none⟩))) [bA] (.iface 28 (.int .i64 3))) :=
    Lib.hid ⟨(HE2.out.1).alloc _, ⟨w2.heap.size, .iface 28 (.int .i64 3), by simp, rfl, by simp, by simp, rfl⟩⟩
  have HA : RowKit.Below w2.heap.size w2 (w2.alloc (.cells #[.string bA, .iface 28 (.int .i64 3)] 48)) := (Below.refl _ _).alloc (Nat.le_refl _) _
  have HE3 := Lib.hid (HE2.out.step HA)
  have HB3 := Lib.hid (HB2.out.trans (HA.mono HB2.out.size))
  clear HA HE2 HB2
  have e3 : (⟨w2.heap.size, 0, none⟩ : Addr) = ⟨w2.heap.size, 0, none⟩ := rfl
  clear e3
  change Calls _ _ _ (w2.alloc (.cells #[.string bA, .iface 28 (.int .i64 3)] 48)) _
  generalize w2.alloc (.cells #[.string bA, .iface 28 (.int .i64 3)] 48) = w3 at *
  have HF3 := HF2
  clear HF2
  refine (HE3.out.code (by decide)).mono ?_; rintro e w4 ⟨rfl, hb⟩
  have HE4 := Lib.hid (HE3.out.step hb); have HF4 := Lib.hid (HF3.out.step hb); have HB4 := Lib.hid (HB3.out.trans (hb.mono HB3.out.size))
  clear hb HE3 HF3 HB3
  go_wp2_with fail
  refine (HE4.out.is (by decide) 22).mono ?_; rintro e w5 ⟨rfl, hb⟩
  have HE5 := Lib.hid (HE4.out.step hb); have HF5 := Lib.hid (HF4.out.step hb); have HB5 := Lib.hid (HB4.out.trans (hb.mono HB4.out.size))
  clear hb HE4 HF4 HB4
  go_wp2_with fail
  refine (HE5.out.is (by decide) 3).mono ?_; rintro e w6 ⟨rfl, hb⟩
  have HE6 := Lib.hid (HE5.out.step hb); have HF6 := Lib.hid (HF5.out.step hb); have HB6 := Lib.hid (HB5.out.trans (hb.mono HB5.out.size))
  clear hb HE5 HF5 HB5
  go_wp2_with fail
  refine (HE6.out.trace (.inr ⟨22, rfl⟩) (by decide)).mono ?_; rintro e w7 ⟨u, rfl, hu, hb⟩
  have HE7 := Lib.hid (HE6.out.step hb); have HF7 := Lib.hid (HF6.out.step hb); have HB7 := Lib.hid (HB6.out.trans (hb.mono HB6.out.size))
  have HU7 := Lib.hid hu; clear hu
  clear hb HE6 HF6 HB6
  go_wp2_with fail
  have HA : RowKit.Below w7.heap.size w7 (w7.alloc (.cells #[.string bLog, .string bDisk] 9)) := (Below.refl _ _).alloc (Nat.le_refl _) _
  have HU2 : Hid (ReadsS (w7.alloc (.cells #[.string bLog, .string bDisk] 9)) (.slice (some ⟨w7.heap.size, 0, none⟩) 2 2) [bLog, bDisk]) := Lib.hid ⟨_, 2, w7.heap.size, 0, rfl, Nat.le_refl _, fun _ => ⟨rfl, by simp⟩, fun j hj => by
    match j, hj with
    | 0, _ => simp
    | 1, _ => simp⟩
  have HS := Lib.hid (same_yes u (.slice (some ⟨w7.heap.size, 0, none⟩) 2 2) [bLog, bDisk] _ (HU7.out.later HA) HU2.out (by decide))
  have HE8 := Lib.hid (HE7.out.step HA); have HF8 := Lib.hid (HF7.out.step HA); have HB8 := Lib.hid (HB7.out.trans (HA.mono HB7.out.size))
  clear HA HU2 HU7 HE7 HF7 HB7
  refine (HS.out).mono ?_; rintro e w9 ⟨rfl, hb⟩
  have HE9 := Lib.hid (HE8.out.step hb); have HF9 := Lib.hid (HF8.out.step hb); have HB9 := Lib.hid (HB8.out.trans (hb.mono HB8.out.size))
  clear hb HS HE8 HF8 HB8
  go_wp2_with fail
  refine (HE9.out.text (.inr ⟨22, rfl, by decide⟩) (by decide) (by decide) _ text_22).mono ?_; rintro e w10 ⟨rfl, hb⟩
  have HE10 := Lib.hid (HE9.out.step hb); have HF10 := Lib.hid (HF9.out.step hb); have HB10 := Lib.hid (HB9.out.trans (hb.mono HB9.out.size))
  clear hb HE9 HF9 HB9
  go_wp2_with fail
  refine (HE10.out.at (.inr ⟨22, rfl⟩) (by decide) bDisk).mono ?_; rintro e w11 ⟨rfl, hb⟩
  have HE11 := Lib.hid (HE10.out.step hb); have HF11 := Lib.hid (HF10.out.step hb); have HB11 := Lib.hid (HB10.out.trans (hb.mono HB10.out.size))
  rw [has_disk]
  clear hb HE10 HF10 HB10
  go_wp2_with fail
  refine (HE11.out.at (.inr ⟨22, rfl⟩) (by decide) bA).mono ?_; rintro e w12 ⟨rfl, hb⟩
  have HE12 := Lib.hid (HE11.out.step hb); have HF12 := Lib.hid (HF11.out.step hb); have HB12 := Lib.hid (HB11.out.trans (hb.mono HB11.out.size))
  rw [has_a]
  clear hb HE11 HF11 HB11
  go_wp2_with fail
  refine (HE12.out.deep (.inr ⟨22, rfl⟩) (by decide)).mono ?_; rintro e w13 ⟨rfl, hb⟩
  have HE13 := Lib.hid (HE12.out.step hb); have HF13 := Lib.hid (HF12.out.step hb); have HB13 := Lib.hid (HB12.out.trans (hb.mono HB12.out.size))
  clear hb HE12 HF12 HB12
  go_wp2_with fail
  refine (code_nil _).mono ?_; rintro e w' ⟨rfl, rfl⟩
  go_wp2_with fail
  refine ((Err.nil HE13.out.1).text (.inl rfl) (by decide) (by decide) _ text_0).mono ?_; rintro e w14 ⟨rfl, hb⟩
  have HE14 := Lib.hid (HE13.out.step hb); have HF14 := Lib.hid (HF13.out.step hb); have HB14 := Lib.hid (HB13.out.trans (hb.mono HB13.out.size))
  clear hb HE13 HF13 HB13
  go_wp2_with fail
  refine (ferror_nil _).mono ?_; rintro e w' ⟨rfl, rfl⟩
  go_wp2_with fail
  refine (ferror_any _ _ _ (HF14.out.text (.inr ⟨3, rfl, by decide⟩) (by decide) (by decide) _ text_3)).mono ?_; rintro e w15 ⟨rfl, hb⟩
  have HE15 := Lib.hid (HE14.out.step hb); have HF15 := Lib.hid (HF14.out.step hb); have HB15 := Lib.hid (HB14.out.trans (hb.mono HB14.out.size))
  clear hb HE14 HF14 HB14
  go_wp2_with fail
  obtain ⟨b, y, _, e, _, h1, h2⟩ := HF15.out.2
  simp only [Value.iface.injEq, Value.pointer.injEq, Option.some.injEq, Addr.mk.injEq, and_true, true_and] at e
  subst e
  obtain rfl : y = .iface 28 (.int .i64 3) := h2
  refine (unwrap_any _ _ _ h1).mono ?_; rintro e w' ⟨rfl, rfl⟩
  clear h1
  go_wp2_with fail
  refine (code_hit 3 (by decide) [] (.iface 28 (.int .i64 3)) 0 _ HE15.out.1 rfl (Nat.zero_le _)).mono ?_; rintro e w16 ⟨rfl, hb⟩
  have HB16 := Lib.hid (HB15.out.trans (hb.mono HB15.out.size))
  clear hb
  go_wp2_with fail
  go_ret
  exact ⟨rfl, HB16.out⟩
end Go.Proofs.YteniicpkkhgkbaaDoor
