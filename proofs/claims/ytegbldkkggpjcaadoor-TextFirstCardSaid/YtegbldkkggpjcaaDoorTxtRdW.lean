/- A piece, read of both: the laws' own read: its walk. -/
import Derived.Test.YtegbldkkggpjcaaDoorTxtRd
import Derived.Test.YtegbldkkggpjcaaDoorTxtLayW
import Derived.Deep.DeepCutAuto
import Derived.Deep.CutBlock
namespace Go.Proofs.YtegbldkkggpjcaaDoor
open Go.RowKit Go.Sort

attribute [local go_sem ↓] Go.wp_at_zero Go.wp_at_succ

/-- A row of the call's own, and where it lies. -/
theorem OwnI.up {w : World} {base : Nat} {v : Value} {l : List Int} (h : OwnI w base v l) : ∃ sa cap, v = .slice sa l.length cap ∧ l.length ≤ cap ∧ (∀ b o s, sa = some ⟨b, o, s⟩ → base ≤ b) ∧ ReadsI w sa l.length l := by
  rcases h.form with ⟨rfl, rfl⟩ | ⟨g, cap, rfl, h1, h2, _, hc⟩
  · exact ⟨none, 0, rfl, Nat.le_refl _, (fun _ _ _ h => by cases h), rfl, fun h => absurd h (by decide)⟩
  · refine ⟨_, cap, rfl, h1, fun b o s e => ?_, rfl, fun _ => ⟨g, 0, rfl, fun i hi => ?_⟩⟩
    · simp only [Option.some.injEq, Addr.mk.injEq] at e
      omega
    · rw [Nat.zero_add]; exact hc i hi
theorem rowI_len (u : InS) (most : Int) : (rowI u most).length ≤ 1000 := by
  unfold rowI
  split
  · unfold unrowZ
    split
    · simp
    · split
      · simp
      · rename_i h1
        split
        · rename_i h2
          simp only [List.length_map]
          have := (items_least (getZ u.s u.pos).1.toNat (t := u.s.data.toList.drop (getZ u.s u.pos).2.1.toNat) (l := (items (getZ u.s u.pos).1.toNat (u.s.data.toList.drop (getZ u.s u.pos).2.1.toNat)).1) (u := (items (getZ u.s u.pos).1.toNat (u.s.data.toList.drop (getZ u.s u.pos).2.1.toNat)).2.1) (by rw [← h2])).1
          rw [this]
          omega
        · simp
  · simp
theorem rd_later {I : Impl} {w : World} {S0 : Nat → Prop} {B : Nat} {pc : Array Value} {W w3 : World} {S : Nat → Prop} {a b : InS} {v : Value} {l : List ByteArray} {e : Int} (h : RdSt I w S0 B pc W S a b ∧ ErrIs W v l e) (k : RowKit.Below W.heap.size W w3) : RdSt I w S0 B pc w3 S a b ∧ ErrIs w3 v l e := ⟨h.1.later k, h.2.later k⟩
theorem far5 {w : World} {B C D o : Nat} {a b c d e : Value} (h0 : w.cell? ⟨B, 0, none⟩ = some a) (h1 : w.cell? ⟨B, 1, none⟩ = some b) (h2 : w.cell? ⟨B, 2, none⟩ = some c) (h3 : w.cell? ⟨B, 3, none⟩ = some d) (h4 : w.cell? ⟨D, o, none⟩ = some e) (hne : B ≠ C) (hd : D ≠ C) (x y z v : Value) :
    (put4W w C x y z v).cell? ⟨B, 0, none⟩ = some a ∧ (put4W w C x y z v).cell? ⟨B, 1, none⟩ = some b ∧ (put4W w C x y z v).cell? ⟨B, 2, none⟩ = some c ∧ (put4W w C x y z v).cell? ⟨B, 3, none⟩ = some d ∧ (put4W w C x y z v).cell? ⟨D, o, none⟩ = some e := by
  have k := put4_heap w C x y z v B hne
  have k2 := put4_heap w C x y z v D hd
  generalize put4W w C x y z v = W at *
  exact ⟨(World.cell?_of_block k).trans h0, (World.cell?_of_block k).trans h1, (World.cell?_of_block k).trans h2, (World.cell?_of_block k).trans h3, (World.cell?_of_block k2).trans h4⟩
end Go.Proofs.YtegbldkkggpjcaaDoor
