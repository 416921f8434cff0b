/- The contract of a fault's own Error, and of the laws' probe. -/
import Derived.Test.YtegbldkkggpjcaaGreatDoorFailText
namespace Go.Proofs.YtegbldkkggpjcaaGreatDoor
open Go.RowKit

/-- v is an error in w: its ops are l, what lies innermost is x. -/
def Err (w : World) (v : Value) (l : List ByteArray) (x : Value) : Prop := Laid w ∧ ErrAt w.heap.size w v l x
theorem Err.step {w w' : World} {v : Value} {l : List ByteArray} {x : Value} (h : Err w v l x) (hb : RowKit.Below w.heap.size w w') : Err w' v l x :=
  ⟨h.1.below hb h.1.pos, (h.2.later (fun b o q => hb.cell (p := ⟨b, o, none⟩) q)).wider hb.size⟩
theorem Err.nil {w : World} (h : Laid w) : Err w .nilIface [] .nilIface := ⟨h, rfl⟩
theorem Err.code {w : World} {v : Value} {l : List ByteArray} {c : Int} (h : Err w v l (.iface 41 (.int .i64 c))) (hc : c ≠ 0) :
    Calls Tryz.prog 16 #[v] w fun e w' => e = .returned (.int .i64 c) ∧ RowKit.Below w.heap.size w w' := code_hit c hc l v _ w h.1 h.2 (Nat.le_refl _)
theorem Err.is {w : World} {v : Value} {l : List ByteArray} {c : Int} (h : Err w v l (.iface 41 (.int .i64 c))) (hc : c ≠ 0) (d : Int) :
    Calls Tryz.prog 63 #[v, .int .i64 d] w fun e w' => e = .returned (.bool (decide (c = d))) ∧ RowKit.Below w.heap.size w w' := is_of v c d w (h.code hc)
theorem Err.trace {w : World} {v : Value} {l : List ByteArray} {x : Value} (h : Err w v l x) (hx : Inner x) (hl : l.length ≤ 1000) :
    Calls Tryz.prog 52 #[v] w fun e w' => ∃ u, e = .returned u ∧ ReadsS w' u l ∧ RowKit.Below w.heap.size w w' :=
  (trace_any l v x _ w h.1 h.2 hx (Nat.le_refl _) hl).mono fun _ _ ⟨u, he, ho, hb⟩ => ⟨u, he, ho.reads, hb⟩
theorem Err.at {w : World} {v : Value} {l : List ByteArray} {x : Value} (h : Err w v l x) (hx : Inner x) (hl : l.length ≤ 1000) (op : ByteArray) :
    Calls Tryz.prog 22 #[v, .string op] w fun e w' => e = .returned (.bool (Lib.containsS l op)) ∧ RowKit.Below w.heap.size w w' := at_any l op v x _ w h.1 h.2 hx (Nat.le_refl _) hl
theorem Err.text {w : World} {v : Value} {l : List ByteArray} {x : Value} (h : Err w v l x) (hx : InnerM x) (hl : l.length ≤ 1000) (hs : ∀ s ∈ l, s.size ≤ 1000) (t : ByteArray) (ht : preB l ++ lastB x = t) :
    Calls Tryz.prog 23 #[v] w fun e w' => e = .returned (.string t) ∧ RowKit.Below w.heap.size w w' := by
  rw [← ht]; exact text_any l v x _ w h.1 h.2 hx (Nat.le_refl _) hl hs

def bDisk : ByteArray := ⟨#[100, 105, 115, 107]⟩
def bLog : ByteArray := ⟨#[108, 111, 103]⟩
def bA : ByteArray := ⟨#[97]⟩
theorem errorB_22 : errorB 22 = ⟨#[101, 114, 114, 111, 114, 32, 50, 50]⟩ := by
  unfold errorB numB
  rw [if_neg (by decide), show (22 : Int).toNat = 22 from rfl, ← digB_step 22 (by decide), show 22 / 10 = 2 from rfl, ← digB_step 2 (by decide), show 2 / 10 = 0 from rfl, digB_zero]
  rfl
theorem errorB_3 : errorB 3 = ⟨#[101, 114, 114, 111, 114, 32, 51]⟩ := by
  unfold errorB numB
  rw [if_neg (by decide), show (3 : Int).toNat = 3 from rfl, ← digB_step 3 (by decide), show 3 / 10 = 0 from rfl, digB_zero]
  rfl
theorem text_22 : preB [bLog, bDisk] ++ lastB (.iface 41 (.int .i64 22)) = ⟨#[108, 111, 103, 58, 32, 100, 105, 115, 107, 58, 32, 101, 114, 114, 111, 114, 32, 50, 50]⟩ := by
  show preB [bLog, bDisk] ++ errorB 22 = _
  rw [errorB_22]; rfl
theorem text_3 : preB [bA] ++ lastB (.iface 41 (.int .i64 3)) = ⟨#[97, 58, 32, 101, 114, 114, 111, 114, 32, 51]⟩ := by
  show preB [bA] ++ errorB 3 = _
  rw [errorB_3]; rfl
theorem text_0 : preB [] ++ lastB .nilIface = ⟨#[]⟩ := rfl
theorem has_disk : Lib.containsS [bLog, bDisk] bDisk = true := by rw [Lib.containsS_iff]; simp
theorem has_a : Lib.containsS [bLog, bDisk] bA = false := by
  rw [Bool.eq_false_iff]; intro h; rw [Lib.containsS_iff] at h; simp [bLog, bDisk, bA] at h

end Go.Proofs.YtegbldkkggpjcaaGreatDoor
