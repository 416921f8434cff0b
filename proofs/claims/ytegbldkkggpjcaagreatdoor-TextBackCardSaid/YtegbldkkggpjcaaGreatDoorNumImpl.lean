/- What the laws of layer 5 ask of the program's own functions, said by the document's answers; and the laws' common probe (awake) upon it. -/
import Derived.Test.YtegbldkkggpjcaaGreatDoorNumUnrow
namespace Go.Proofs.YtegbldkkggpjcaaGreatDoor
open Go.RowKit Go.Sort

attribute [local go_sem ↓] Go.wp_at_zero Go.wp_at_succ

theorem grew_quiet {w W : World} (h : Grew w W) (n : Nat) : Grew w (W.drewN n) := h.trans ⟨n, #[], by rw [grow_empty]⟩
set_option maxHeartbeats 1600000 in
theorem same_ints (sa sb : Option Addr) (len ca cb : Nat) (zs : List Int) (w : World) (hm : len ≤ 10000) (ha : ReadsI w sa len zs) (hb : ReadsI w sb len zs) :
    Calls Tryz.prog 12 #[.slice sa len ca, .slice sb len cb] w fun e w' => e = .returned (.bool true) ∧ Grew w w' := by
  have hmix := mixed
  have e0 : ((len : Int) != (len : Int)) = false := by simp
  have HA := Lib.hid ha; clear ha
  have HB := Lib.hid hb; clear hb
  go_enter Tryz.func12, Tryz.ntmps12
  go_wp2
  go_loopg [5] len (fun gg i wr => ∃ k : Nat, k + gg = len ∧ i = .int .i64 k ∧ Hid (Grew w wr))
  case atStart => exact ⟨0, by omega, rfl, Lib.hid (Grew.refl _)⟩
  case round =>
    obtain ⟨k, hk, rfl, HG⟩ := hrel
    by_cases hlt : k < len
    · obtain ⟨ba, oa, rfl, ga⟩ := (HA.out.later HG.out.below).2 (by omega)
      obtain ⟨bb, ob, rfl, gb⟩ := (HB.out.later HG.out.below).2 (by omega)
      have l0 := ga k hlt
      have l2 := gb k hlt
      clear ga gb
      generalize zs.getD k 0 = x at *
      have i1 : (0 : Int) ≤ (k : Int) := by omega
      have i2 : (k : Int) < (len : Int) := by omega
      go_wp2
      go_quiet (fail)
      go_wp2
      go_roundg (gk - 1)
      case measure => omega
      case rel => exact ⟨k + 1, by omega, by go_num, Lib.hid (grew_quiet HG.out nq)⟩
    · obtain rfl : k = len := by omega
      go_wp2
      go_ret
      exact ⟨rfl, HG.out⟩

/-- A row of numbers as an argument. -/
def ArgI (w : World) (sa : Option Addr) (len cap : Nat) (zs : List Int) : Prop := ReadsI w sa len zs ∧ (sa = none → len = 0 ∧ cap = 0) ∧ len ≤ cap
/-- .. as a result. -/
def ResI (w : World) (v : Value) (l : List Int) : Prop := ∃ sa cap, v = .slice sa l.length cap ∧ ArgI w sa l.length cap l
theorem ArgI.later {w w' : World} {sa : Option Addr} {len cap : Nat} {zs : List Int} (h : ArgI w sa len cap zs) (k : RowKit.Below w.heap.size w w') : ArgI w' sa len cap zs := ⟨h.1.later k, h.2⟩
theorem ArgI.reads {w : World} {sa : Option Addr} {len cap : Nat} {zs : List Int} (h : ArgI w sa len cap zs) : ReadsI w sa len zs := h.1
theorem OwnI.res {w : World} {base : Nat} {v : Value} {l : List Int} (h : OwnI w base v l) : ResI w v l := by
  rcases h.form with ⟨rfl, rfl⟩ | ⟨g, cap, rfl, h1, _, _, hc⟩
  · exact ⟨none, 0, rfl, ⟨rfl, fun h => absurd h (by decide)⟩, fun _ => ⟨rfl, rfl⟩, Nat.le_refl _⟩
  · exact ⟨_, cap, rfl, ⟨rfl, fun _ => ⟨g, 0, rfl, fun i hi => by rw [Nat.zero_add]; exact hc i hi⟩⟩, (fun h => by cases h), h1⟩
theorem two_int (w : World) (x y : Int) : ArgI (w.alloc (.cells #[.int .i64 x, .int .i64 y] 3)) (some ⟨w.heap.size, 0, none⟩) 2 2 [x, y] :=
  ⟨⟨rfl, fun _ => ⟨_, 0, rfl, fun i hi => by
    rw [World.cell?_alloc_at _ _ _ _ rfl]
    match i, hi with
    | 0, _ | 1, _ => rfl
    | n + 2, h => omega⟩⟩, (fun h => by cases h), Nat.le_refl _⟩

theorem bed_128 : bed 128 = [128] := by rw [bed_step 128 (by decide), show 128 / 256 = 0 by decide, bed_zero]; rfl
theorem bed_258 : bed 258 = [1, 2] := by rw [bed_step 258 (by decide), bed_step (258 / 256) (by decide), show 258 / 256 / 256 = 0 by decide, bed_zero]; rfl
theorem putL_258 : putL 258 = [130, 1, 2] := by rw [putL_great (by decide), bed_258]; rfl
theorem putL_128 : putL 128 = [129, 128] := by rw [putL_great (by decide), bed_128]; rfl
theorem aw_put : bs (putZ 258) = ⟨#[130, 1, 2]⟩ := by
  rw [show putZ 258 = putL 258 from rfl, putL_258]; rfl
theorem aw_row : bs (rowZ [7, 128]) = ⟨#[2, 7, 129, 128]⟩ := by
  rw [show rowZ [7, 128] = putL 2 ++ (putL 7 ++ (putL 128 ++ [])) from rfl, putL_128]; rfl
theorem aw_get : getZ ⟨#[120, 130, 1, 2]⟩ 1 = (258, 4, 0) := by decide +kernel
theorem aw_un2 : unrowZ ⟨#[2, 7, 129, 128]⟩ 0 2 = ([7, 128], 4, 0) := by decide +kernel
theorem aw_un1 : unrowZ ⟨#[2, 7, 129, 128]⟩ 0 1 = ([], 0, 3) := by decide +kernel
theorem aw_form : getZ ⟨#[129, 127]⟩ 0 = (0, 0, 5) := by decide +kernel
theorem aw_cat : (⟨#[120]⟩ : ByteArray) ++ ⟨#[130, 1, 2]⟩ = ⟨#[120, 130, 1, 2]⟩ := by decide +kernel
theorem aw_size : (putZ 258).length = 3 := by rw [show putZ 258 = putL 258 from rfl, putL_258]; rfl

end Go.Proofs.YtegbldkkggpjcaaGreatDoor
