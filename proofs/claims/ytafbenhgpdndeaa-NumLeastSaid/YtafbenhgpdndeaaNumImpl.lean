/- What the laws of layer 5 ask of the program's own functions, said by the document's answers; and the laws' common probe (awake) upon it. -/
import Derived.Test.YtafbenhgpdndeaaNumUnrow
namespace Go.Proofs.Ytafbenhgpdndeaa
open Go.RowKit Go.Sort

attribute [local go_sem ↓] Go.wp_at_zero Go.wp_at_succ

theorem grew_quiet {w W : World} (h : Grew w W) (n : Nat) : Grew w (W.drewN n) := h.trans ⟨n, #[], by rw [grow_empty]⟩
set_option maxHeartbeats 1600000 in
theorem same_ints (sa sb : Option Addr) (len ca cb : Nat) (zs : List Int) (w : World) (hm : len ≤ 10000) (ha : ReadsI w sa len zs) (hb : ReadsI w sb len zs) :
    Calls Try.prog 17 #[.slice sa len ca, .slice sb len cb] w fun e w' => e = .returned (.bool true) ∧ Grew w w' := by
  have hmix := mixed
  have e0 : ((len : Int) != (len : Int)) = false := by simp
  have HA := Lib.hid ha; clear ha
  have HB := Lib.hid hb; clear hb
  go_enter Try.func17, Try.ntmps17
  go_wp2
  go_loopg [5] len (fun gg i wr => ∃ k : Nat, k + gg = len ∧ i = .int .i64 k ∧ Hid (Grew w wr))
  case atStart => exact ⟨0, by omega, rfl, Lib.hid (Grew.refl _)⟩
  case round =>
    obtain ⟨k, hk, rfl, HG⟩ := hrel
    by_cases hlt : k < len
    · obtain ⟨ba, oa, rfl, ga⟩ := (HA.out.later HG.out.below).2 (by omega)
      obtain ⟨bb, ob, rfl, gb⟩ := (HB.out.later HG.out.below).2 (by omega)
      have l0 := ga k hlt
      have l2 := gb k hlt
      clear ga gb
      generalize zs.getD k 0 = x at *
      have i1 : (0 : Int) ≤ (k : Int) := by omega
      have i2 : (k : Int) < (len : Int) := by omega
      go_wp2
      go_quiet (fail)
      go_wp2
      go_roundg (gk - 1)
      case measure => omega
      case rel => exact ⟨k + 1, by omega, by go_num, Lib.hid (grew_quiet HG.out nq)⟩
    · obtain rfl : k = len := by omega
      go_wp2
      go_ret
      exact ⟨rfl, HG.out⟩

/-- A row of numbers as an argument. -/
def ArgI (w : World) (sa : Option Addr) (len cap : Nat) (zs : List Int) : Prop := ReadsI w sa len zs ∧ (sa = none → len = 0 ∧ cap = 0) ∧ len ≤ cap
/-- .. as a result. -/
def ResI (w : World) (v : Value) (l : List Int) : Prop := ∃ sa cap, v = .slice sa l.length cap ∧ ArgI w sa l.length cap l
theorem ArgI.later {w w' : World} {sa : Option Addr} {len cap : Nat} {zs : List Int} (h : ArgI w sa len cap zs) (k : RowKit.Below w.heap.size w w') : ArgI w' sa len cap zs := ⟨h.1.later k, h.2⟩
theorem ArgI.reads {w : World} {sa : Option Addr} {len cap : Nat} {zs : List Int} (h : ArgI w sa len cap zs) : ReadsI w sa len zs := h.1
theorem OwnI.res {w : World} {base : Nat} {v : Value} {l : List Int} (h : OwnI w base v l) : ResI w v l := by
  rcases h.form with ⟨rfl, rfl⟩ | ⟨g, cap, rfl, h1, _, _, hc⟩
  · exact ⟨none, 0, rfl, ⟨rfl, fun h => absurd h (by decide)⟩, fun _ => ⟨rfl, rfl⟩, Nat.le_refl _⟩
  · exact ⟨_, cap, rfl, ⟨rfl, fun _ => ⟨g, 0, rfl, fun i hi => by rw [Nat.zero_add]; exact hc i hi⟩⟩, (fun h => by cases h), h1⟩
theorem two_int (w : World) (x y : Int) : ArgI (w.alloc (.cells #[.int .i64 x, .int .i64 y] 3)) (some ⟨w.heap.size, 0, none⟩) 2 2 [x, y] :=
  ⟨⟨rfl, fun _ => ⟨_, 0, rfl, fun i hi => by
    rw [World.cell?_alloc_at _ _ _ _ rfl]
    match i, hi with
    | 0, _ | 1, _ => rfl
    | n + 2, h => omega⟩⟩, (fun h => by cases h), Nat.le_refl _⟩

/-- Each function of package num answers as the document's own. -/
structure Impl : Prop where
  put : ∀ (n : Int) (w : World), n ≤ 9223372036854775807 → Calls Try.prog 8 #[.int .i64 n] w fun e w' => e = .returned (.tuple #[.string (bs (putZ n)), .int .i64 (putE n)]) ∧ RowKit.Below w.heap.size w w'
  size : ∀ (n : Int) (w : World), n ≤ 9223372036854775807 → Calls Try.prog 12 #[.int .i64 n] w fun e w' => e = .returned (.int .i64 ((putZ n).length : Nat)) ∧ RowKit.Below w.heap.size w w'
  get : ∀ (s : ByteArray) (a : Int) (w : World), s.size ≤ 100000 → Calls Try.prog 10 #[.string s, .int .i64 a] w fun e w' => e = .returned (.tuple #[.int .i64 (getZ s a).1, .int .i64 (getZ s a).2.1, .int .i64 (getZ s a).2.2]) ∧ RowKit.Below w.heap.size w w'
  row : ∀ (sa : Option Addr) (len cap : Nat) (l : List Int) (w : World), len ≤ 10000 → (∀ x ∈ l, x ≤ 9223372036854775807) → ArgI w sa len cap l → Calls Try.prog 13 #[.slice sa len cap] w fun e w' => e = .returned (.tuple #[.string (bs (rowZ l)), .int .i64 (rowE l)]) ∧ RowKit.Below w.heap.size w w'
  unrow : ∀ (s : ByteArray) (a most : Int) (w : World), s.size ≤ 100000 → Calls Try.prog 15 #[.string s, .int .i64 a, .int .i64 most] w fun e w' => ∃ v, e = .returned (.tuple #[v, .int .i64 (unrowZ s a most).2.1, .int .i64 (unrowZ s a most).2.2]) ∧ ResI w' v (unrowZ s a most).1 ∧ RowKit.Below w.heap.size w w'

theorem bed_128 : bed 128 = [128] := by rw [bed_step 128 (by decide), show 128 / 256 = 0 by decide, bed_zero]; rfl
theorem bed_258 : bed 258 = [1, 2] := by rw [bed_step 258 (by decide), bed_step (258 / 256) (by decide), show 258 / 256 / 256 = 0 by decide, bed_zero]; rfl
theorem putL_258 : putL 258 = [130, 1, 2] := by rw [putL_great (by decide), bed_258]; rfl
theorem putL_128 : putL 128 = [129, 128] := by rw [putL_great (by decide), bed_128]; rfl
theorem aw_put : bs (putZ 258) = ⟨#[130, 1, 2]⟩ := by
  rw [show putZ 258 = putL 258 from rfl, putL_258]; rfl
theorem aw_row : bs (rowZ [7, 128]) = ⟨#[2, 7, 129, 128]⟩ := by
  rw [show rowZ [7, 128] = putL 2 ++ (putL 7 ++ (putL 128 ++ [])) from rfl, putL_128]; rfl
theorem aw_get : getZ ⟨#[120, 130, 1, 2]⟩ 1 = (258, 4, 0) := by decide +kernel
theorem aw_un2 : unrowZ ⟨#[2, 7, 129, 128]⟩ 0 2 = ([7, 128], 4, 0) := by decide +kernel
theorem aw_un1 : unrowZ ⟨#[2, 7, 129, 128]⟩ 0 1 = ([], 0, 3) := by decide +kernel
theorem aw_form : getZ ⟨#[129, 127]⟩ 0 = (0, 0, 5) := by decide +kernel
theorem aw_cat : (⟨#[120]⟩ : ByteArray) ++ ⟨#[130, 1, 2]⟩ = ⟨#[120, 130, 1, 2]⟩ := by decide +kernel
theorem aw_size : (putZ 258).length = 3 := by rw [show putZ 258 = putL 258 from rfl, putL_258]; rfl

set_option maxRecDepth 100000 in
set_option maxHeartbeats 6400000 in
theorem awake_any (I : Impl) (w : World) : Calls Try.prog 7 #[] w fun e w' => e = .returned (.bool true) ∧ RowKit.Below w.heap.size w w' := by
  have HI := Lib.hid I; clear I
  have hcat := aw_cat
  go_enter Try.func7, Try.ntmps7
  go_wp2_with (first
    | (go_at_call 8; (with_reducible refine (HI.out.put 258 _ (by decide)).mono ?_); rintro e w1 ⟨rfl, hb⟩; rw [aw_put, show putE 258 = 0 from rfl]; have HB1 := Lib.hid hb; clear hb)
    | (go_at_call 10; (with_reducible refine (HI.out.get ⟨#[120, 130, 1, 2]⟩ 1 _ (by decide)).mono ?_); rintro e w2 ⟨rfl, hb⟩; rw [aw_get]; have HB2 := Lib.hid (HB1.out.trans (hb.mono HB1.out.size)); clear hb)
    | (go_at_call 13; (with_reducible refine (HI.out.row _ 2 2 [7, 128] _ (by decide) (by decide) (two_int w2 7 128)).mono ?_); rintro e w3 ⟨rfl, hb⟩; rw [aw_row, show rowE [7, 128] = 0 from rfl]; have HB3 := Lib.hid ((HB2.out.alloc HB2.out.size (.cells #[.int .i64 7, .int .i64 128] 3)).trans (hb.mono (Nat.le_trans HB2.out.size (by simp)))); clear hb)
    | (go_at_call 15; (with_reducible refine (HI.out.unrow ⟨#[2, 7, 129, 128]⟩ 0 2 _ (by decide)).mono ?_); rintro e w4 ⟨v, rfl, h, hb⟩; rw [aw_un2] at h ⊢; obtain ⟨s4, k4, rfl, h⟩ := h; have H4 := Lib.hid (show ArgI w4 s4 2 k4 [7, 128] from h); have HB4 := Lib.hid (HB3.out.trans (hb.mono HB3.out.size)); have HR4 := Lib.hid (Below.refl w4.heap.size w4); clear h hb)
    | (go_at_call 10; (with_reducible refine (HI.out.get ⟨#[129, 127]⟩ 0 _ (by decide)).mono ?_); rintro e w5 ⟨rfl, hb⟩; rw [aw_form]; have HR5 := Lib.hid (HR4.out.trans (hb.mono HR4.out.size)); clear hb)
    | (go_at_call 15; (with_reducible refine (HI.out.unrow ⟨#[2, 7, 129, 128]⟩ 0 1 _ (by decide)).mono ?_); rintro e w6 ⟨v, rfl, h, hb⟩; rw [aw_un1] at h ⊢; obtain ⟨s6, k6, rfl, _⟩ := h; have HR6 := Lib.hid (HR5.out.trans (hb.mono HR5.out.size)); clear hb)
    | (go_at_call 8; (with_reducible refine (HI.out.put (-1) _ (by decide)).mono ?_); rintro e w7 ⟨rfl, hb⟩; rw [show putE (-1) = 2 from rfl, show bs (putZ (-1)) = ⟨#[]⟩ from rfl]; have HR7 := Lib.hid (HR6.out.trans (hb.mono HR6.out.size)); clear hb)
    | (go_at_call 17; refine (same_ints s4 _ 2 k4 2 [7, 128] _ (by decide) (((H4.out.later HR7.out).later ((Below.refl _ _).alloc (Nat.le_refl _) _)).1) (two_int w7 7 128).1).mono ?_; rintro e w8 ⟨rfl, hg⟩; have HR8 := Lib.hid ((HR7.out.alloc HR7.out.size (.cells #[.int .i64 7, .int .i64 128] 3)).trans (hg.below.mono (Nat.le_trans HR7.out.size (by simp)))); clear hg)
    | (go_at_call 12; (with_reducible refine (HI.out.size 258 _ (by decide)).mono ?_); rintro e w9 ⟨rfl, hb⟩; rw [aw_size]; have HR9 := Lib.hid (HR8.out.trans (hb.mono HR8.out.size)); clear hb))
  go_ret
  exact ⟨rfl, HB4.out.trans (HR9.out.mono HB4.out.size)⟩
end Go.Proofs.Ytafbenhgpdndeaa
