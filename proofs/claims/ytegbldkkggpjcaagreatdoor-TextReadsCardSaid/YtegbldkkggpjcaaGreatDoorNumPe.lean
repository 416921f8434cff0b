/- The contract of the program's own closure in Unrow. -/
import Derived.Test.YtegbldkkggpjcaaGreatDoorNumPd
import Derived.OneCell
import Derived.Handy
namespace Go.Proofs.YtegbldkkggpjcaaGreatDoor
open Go.RowKit Go.Sort

attribute [local go_sem ↓] Go.wp_at_zero Go.wp_at_succ

/-- The three variables that Unrow's closure captures. -/
structure Boxes (w : World) (Bs Bt Be : Nat) (s : ByteArray) (t e : Int) : Prop where
  s : w.heap[Bs]? = some (.cells #[.string s] 9 (0, 0))
  t : w.heap[Bt]? = some (.cells #[.int .i64 t] 3 (0, 0))
  e : w.heap[Be]? = some (.cells #[.int .i64 e] 41 (0, 0))
/-- All blocks are as they were but these two. -/
structure Kept (Bt Be : Nat) (w w' : World) : Prop where
  os : w'.os = w.os
  tape : w'.tape = w.tape
  output : w'.output = w.output
  size : w.heap.size ≤ w'.heap.size
  block : ∀ k, k < w.heap.size → k ≠ Bt → k ≠ Be → w'.heap[k]? = w.heap[k]?
theorem Kept.refl (Bt Be : Nat) (w : World) : Kept Bt Be w w := ⟨rfl, rfl, rfl, Nat.le_refl _, fun _ _ _ _ => rfl⟩
theorem Kept.trans {Bt Be : Nat} {a b c : World} (h : Kept Bt Be a b) (k : Kept Bt Be b c) : Kept Bt Be a c :=
  ⟨k.os.trans h.os, k.tape.trans h.tape, k.output.trans h.output, Nat.le_trans h.size k.size, fun i hi h1 h2 => (k.block i (Nat.lt_of_lt_of_le hi h.size) h1 h2).trans (h.block i hi h1 h2)⟩
theorem Kept.below {Bt Be B : Nat} {w w' : World} (h : Kept Bt Be w w') (h1 : B ≤ Bt) (h2 : B ≤ Be) (hB : B ≤ w.heap.size) : RowKit.Below B w w' :=
  ⟨h.os, h.tape, h.output, h.size, fun k hk => h.block k (by omega) (by omega) (by omega)⟩
theorem Kept.setT {Bt Be : Nat} {w w' : World} (h : Kept Bt Be w w') (v : Value) : Kept Bt Be w (w'.setCell ⟨Bt, 0, none⟩ v) :=
  ⟨h.os, h.tape, h.output, by simpa [World.setCell] using h.size, fun k hk h1 h2 => (Below.heap_setCell _ _ _ _ (fun q => h1 q)).trans (h.block k hk h1 h2)⟩
theorem Kept.setE {Bt Be : Nat} {w w' : World} (h : Kept Bt Be w w') (v : Value) : Kept Bt Be w (w'.setCell ⟨Be, 0, none⟩ v) :=
  ⟨h.os, h.tape, h.output, by simpa [World.setCell] using h.size, fun k hk h1 h2 => (Below.heap_setCell _ _ _ _ (fun q => h2 q)).trans (h.block k hk h1 h2)⟩
theorem Kept.grew {Bt Be : Nat} {w w1 w' : World} (h : Kept Bt Be w w1) (g : Grew w1 w') : Kept Bt Be w w' := by
  have b := g.below
  exact h.trans ⟨b.os, b.tape, b.output, b.size, fun k hk _ _ => b.block k hk⟩
theorem Boxes.grew {w w' : World} {Bs Bt Be : Nat} {s : ByteArray} {t e : Int} (h : Boxes w Bs Bt Be s t e) (g : Grew w w') : Boxes w' Bs Bt Be s t e := by
  have b := g.below
  exact ⟨(b.block _ (lt_of_block h.s)).trans h.s, (b.block _ (lt_of_block h.t)).trans h.t, (b.block _ (lt_of_block h.e)).trans h.e⟩

theorem other_block {w : World} {b c : Nat} {o : Obj} (h : w.heap[b]? = some o) (hne : c ≠ b) (v : Value) : (w.setCell ⟨c, 0, none⟩ v).heap[b]? = some o :=
  (Below.heap_setCell _ _ _ _ (fun q => hne q.symm)).trans h
theorem take_any (s : ByteArray) (t e : Int) (Bs Bt Be : Nat) (h1 : Bs ≠ Bt) (h2 : Bs ≠ Be) (h3 : Bt ≠ Be) (hs : s.size ≤ 100000) (w : World) (hb : Boxes w Bs Bt Be s t e) :
    Calls Tryz.prog 81 #[.pointer (some ⟨Bs, 0, none⟩), .pointer (some ⟨Bt, 0, none⟩), .pointer (some ⟨Be, 0, none⟩)] w fun r w' => r = .returned (.int .i64 (getZ s t).1) ∧ Boxes w' Bs Bt Be s (getZ s t).2.1 (getZ s t).2.2 ∧ Kept Bt Be w w' := by
  have HB := Lib.hid hb
  have cs := cell_of_one hb.s
  have ct := cell_of_one hb.t
  have ce := cell_of_one hb.e
  have fs := free_of_one hb.s
  have ft := free_of_one hb.t
  have fe := free_of_one hb.e
  have HG := Lib.hid (fun W => get_any s t hs W)
  obtain ⟨⟨p1, p2, p3⟩, hp⟩ : ∃ p, getZ s t = p := ⟨_, rfl⟩
  rw [hp] at HG ⊢
  clear hp hb
  go_enter Tryz.func81, Tryz.ntmps81
  go_wp2_with (go_at_call 64; (with_reducible refine (HG.out _).mono ?_); rintro r w1 ⟨rfl, hg⟩; have HGR := Lib.hid hg; have hb1 := HB.out.grew hg; have ct1 := cell_of_one hb1.t; have ft1 := free_of_one hb1.t; have hb2 := other_block hb1.e h3 (.int .i64 p2); have ce2 := cell_of_one hb2; have fe2 := free_of_one hb2; have HB1 := Lib.hid hb1; clear hg hb1 hb2)
  go_ret
  refine ⟨rfl, ⟨?_, ?_, ?_⟩, (((Kept.refl Bt Be w).grew HGR.out).setT _).setE _⟩
  · exact other_block (other_block HB1.out.s (Ne.symm h1) _) (Ne.symm h2) _
  · exact other_block (one_setCell HB1.out.t) (Ne.symm h3) _
  · exact one_setCell (other_block HB1.out.e h3 _)
end Go.Proofs.YtegbldkkggpjcaaGreatDoor
