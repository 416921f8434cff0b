/- What the laws of layer 6 ask of the program's own writer and reader: what stands for a writer, for a reader, and one contract a method. -/
import Derived.Test.YtegbldkkggpjcaaGreatDoorTxtPc
import Derived.Test.YtegbldkkggpjcaaGreatDoorFailAwake
import Derived.OneCell
namespace Go.Proofs.YtegbldkkggpjcaaGreatDoor
open Go.RowKit Go.Sort

/-- All blocks are as they were but those of S. -/
structure Chg (S : Nat → Prop) (w w' : World) : Prop where
  os : w'.os = w.os
  tape : w'.tape = w.tape
  output : w'.output = w.output
  size : w.heap.size ≤ w'.heap.size
  block : ∀ k, k < w.heap.size → ¬ S k → w'.heap[k]? = w.heap[k]?
/-- S' is in S and what is new. -/
def Ext (S S' : Nat → Prop) (w : World) : Prop := ∀ k, S' k → S k ∨ w.heap.size ≤ k
theorem Ext.refl (S : Nat → Prop) (w : World) : Ext S S w := fun _ h => .inl h
theorem Ext.ge {S S' : Nat → Prop} {w : World} (h : Ext S S' w) {B : Nat} (hS : ∀ k, S k → B ≤ k) (hB : B ≤ w.heap.size) : ∀ k, S' k → B ≤ k := fun k hk => (h k hk).elim (hS k) (fun q => Nat.le_trans hB q)
theorem Ext.not {S S' : Nat → Prop} {w : World} (h : Ext S S' w) {k : Nat} (hk : ¬ S k) (hl : k < w.heap.size) : ¬ S' k := fun q => (h k q).elim hk (fun r => by omega)
theorem Chg.of {S : Nat → Prop} {w w' : World} (h : RowKit.Below w.heap.size w w') : Chg S w w' := ⟨h.os, h.tape, h.output, h.size, fun k hk _ => h.block k hk⟩
theorem Chg.below {S : Nat → Prop} {w w' : World} (h : Chg S w w') {B : Nat} (hS : ∀ k, S k → B ≤ k) (hB : B ≤ w.heap.size) : RowKit.Below B w w' :=
  ⟨h.os, h.tape, h.output, h.size, fun k hk => h.block k (by omega) (fun q => by have := hS k q; omega)⟩
theorem Chg.laid {S : Nat → Prop} {w w' : World} (h : Chg S w w') (hl : Laid w) (hS : ¬ S 0) : Laid w' :=
  (World.cell?_of_block (h.block 0 hl.pos hS)).trans hl
theorem Chg.cell {S : Nat → Prop} {w w' : World} (h : Chg S w w') {b o : Nat} {v : Value} (hc : w.cell? ⟨b, o, none⟩ = some v) (hS : ¬ S b) : w'.cell? ⟨b, o, none⟩ = some v :=
  (World.cell?_of_block (h.block b (World.block_lt_of_cell? _ _ hc) hS)).trans hc
theorem ArgI.low {w : World} {sa : Option Addr} {len cap : Nat} {zs : List Int} (h : ArgI w sa len cap zs) (h0 : 0 < len) : ∀ b o s, sa = some ⟨b, o, s⟩ → b < w.heap.size := fun b o s e => by
  obtain ⟨b', o', e', g⟩ := h.1.2 h0
  rw [e'] at e
  simp only [Option.some.injEq, Addr.mk.injEq] at e
  obtain ⟨rfl, rfl, rfl⟩ := e
  exact World.block_lt_of_cell? _ _ (g 0 h0)
theorem ReadsI.chg {S : Nat → Prop} {w w' : World} {sa : Option Addr} {len : Nat} {zs : List Int} (h : ReadsI w sa len zs) (k : Chg S w w') (hS : ∀ b o s, sa = some ⟨b, o, s⟩ → ¬ S b) : ReadsI w' sa len zs :=
  ⟨h.1, fun h0 => by
    obtain ⟨b, off, e, g⟩ := h.2 h0
    exact ⟨b, off, e, fun i hi => k.cell (g i hi) (hS b off none e)⟩⟩
/-- What Done hands out: no error, or one with these ops and this number. -/
def ErrIs (w : World) (v : Value) (l : List ByteArray) (e : Int) : Prop := (e = 0 ∧ v = .nilIface) ∨ (e ≠ 0 ∧ ErrAt w.heap.size w v l (.iface 41 (.int .i64 e)))
theorem ErrIs.later {w w' : World} {v : Value} {l : List ByteArray} {e : Int} (h : ErrIs w v l e) (k : RowKit.Below w.heap.size w w') : ErrIs w' v l e :=
  h.imp (fun h => h) (fun h => ⟨h.1, (h.2.later (fun b o q => k.cell (p := ⟨b, o, none⟩) q)).wider k.size⟩)
def bWrite : ByteArray := ⟨#[119, 114, 105, 116, 101]⟩
def bRead : ByteArray := ⟨#[114, 101, 97, 100]⟩

/-- A call upon the writer, or the reader, at block B: it answers v, and stands for u then. -/
def Does {α : Type} (St : World → (Nat → Prop) → Nat → α → Prop) (S : Nat → Prop) (B : Nat) (u : α) (v : Value) (w : World) (e : Ending) (w' : World) : Prop :=
  e = .returned v ∧ ∃ S', St w' S' B u ∧ Ext S S' w ∧ Chg S w w'
structure Impl where
  W : World → (Nat → Prop) → Nat → OutS → Prop
  R : World → (Nat → Prop) → Nat → InS → Prop
  wold : ∀ {w S B t}, W w S B t → S B ∧ ∀ k, S k → k < w.heap.size
  rold : ∀ {w S B t}, R w S B t → S B ∧ ∀ k, S k → k < w.heap.size
  wlater : ∀ {w w' S B t}, W w S B t → RowKit.Below w.heap.size w w' → W w' S B t
  rlater : ∀ {w w' S B t}, R w S B t → RowKit.Below w.heap.size w w' → R w' S B t
  wkeep : ∀ {w w' S B t S' B' u}, W w S B t → R w S' B' u → (∀ k, S k → ¬ S' k) → Chg S' w w' → W w' S B t
  rkeep : ∀ {w w' S B t S' B' u}, R w S B t → W w S' B' u → (∀ k, S k → ¬ S' k) → Chg S' w w' → R w' S B t
  /-- What else is written: a row of cells of the caller's, of another type (a variable of the law's). -/
  wcells : ∀ {w S B t} (C : Nat) (o : Obj), W w S B t → w.heap[C]? = some o → ¬ S C → (∃ x f, o = .cells x 70 f) → ∀ w', (∀ k, k ≠ C → w'.heap[k]? = w.heap[k]?) → w'.heap.size = w.heap.size → W w' S B t
  rcells : ∀ {w S B t} (C : Nat) (o : Obj), R w S B t → w.heap[C]? = some o → ¬ S C → (∃ x f, o = .cells x 28 f) → ∀ w', (∀ k, k ≠ C → w'.heap[k]? = w.heap[k]?) → w'.heap.size = w.heap.size → R w' S B t
  wzero : ∀ (w : World), W (w.alloc (.cells #[.pointer none, .string ⟨#[]⟩, .int .i64 0] 51)) (fun k => k = w.heap.size) w.heap.size ⟨⟨#[]⟩, ⟨#[]⟩, 0⟩
  wnum : ∀ {w S B t} (sa : Option Addr) (len cap : Nat) (l : List Int), W w S B t → Laid w → ReadsI w sa len l → len ≤ 1000 → (∀ x ∈ l, x ≤ 9223372036854775807) → (0 < len → ∀ b o s, sa = some ⟨b, o, s⟩ → ¬ S b) → t.s.size ≤ 100000 →
    Calls Tryz.prog 19 #[.pointer (some ⟨B, 0, none⟩), .slice sa len cap] w (Does W S B (numL t l) (.tuple #[]) w)
  wtext : ∀ {w S B t} (s : ByteArray), W w S B t → Laid w → s.size ≤ 10000 → t.s.size ≤ 100000 →
    Calls Tryz.prog 20 #[.pointer (some ⟨B, 0, none⟩), .string s] w (Does W S B (layS t pText (bs (putZ s.size) ++ s) 0) (.tuple #[]) w)
  wrow : ∀ {w S B t} (sa : Option Addr) (len cap : Nat) (l : List Int), W w S B t → Laid w → ArgI w sa len cap l → len ≤ 1000 → (∀ x ∈ l, x ≤ 9223372036854775807) → (0 < len → ∀ b o s, sa = some ⟨b, o, s⟩ → ¬ S b) → t.s.size ≤ 100000 →
    Calls Tryz.prog 31 #[.pointer (some ⟨B, 0, none⟩), .slice sa len cap] w (Does W S B (layS t pRow (bs (rowZ l)) (rowE l)) (.tuple #[]) w)
  wflag : ∀ {w S B t} (b : Bool), W w S B t → Laid w → t.s.size ≤ 100000 →
    Calls Tryz.prog 33 #[.pointer (some ⟨B, 0, none⟩), .bool b] w (Does W S B (layS t pFlag (bitB b) 0) (.tuple #[]) w)
  wdone : ∀ {w S B t}, W w S B t → Laid w → t.s.size ≤ 100000 →
    Calls Tryz.prog 21 #[.pointer (some ⟨B, 0, none⟩)] w fun e w' => ∃ v, e = .returned (.tuple #[.string t.s, v]) ∧ ErrIs w' v [bWrite, t.p] t.e ∧ RowKit.Below w.heap.size w w'
  wnone : ∀ (w : World), Laid w → Calls Tryz.prog 21 #[.pointer none] w fun e w' => ∃ v, e = .returned (.tuple #[.string ⟨#[]⟩, v]) ∧ ErrIs w' v [bWrite] 1 ∧ RowKit.Below w.heap.size w w'
  new : ∀ (s : ByteArray) (w : World), Laid w → s.size ≤ 100000 →
    Calls Tryz.prog 7 #[.string s] w fun e w' => ∃ B S, e = .returned (.pointer (some ⟨B, 0, none⟩)) ∧ R w' S B ⟨s, 0, ⟨#[]⟩, 0⟩ ∧ (∀ k, S k → w.heap.size ≤ k) ∧ RowKit.Below w.heap.size w w'
  rnum : ∀ {w S B u} (most : Int), R w S B u → Laid w → u.s.size ≤ 100000 → Calls Tryz.prog 10 #[.pointer (some ⟨B, 0, none⟩), .int .i64 most] w (Does R S B (numS u most) (.int .i64 (numN u most)) w)
  rtext : ∀ {w S B u} (most : Int), R w S B u → Laid w → u.s.size ≤ 100000 → Calls Tryz.prog 11 #[.pointer (some ⟨B, 0, none⟩), .int .i64 most] w (Does R S B (textS u most) (.string (textT u most)) w)
  rrow : ∀ {w S B u} (most : Int), R w S B u → Laid w → u.s.size ≤ 100000 → Calls Tryz.prog 13 #[.pointer (some ⟨B, 0, none⟩), .int .i64 most] w fun e w' => ∃ v, OwnI w' w.heap.size v (rowI u most) ∧ Does R S B (rowS u most) v w e w'
  rflag : ∀ {w S B u}, R w S B u → Laid w → u.s.size ≤ 100000 → 0 ≤ u.pos → Calls Tryz.prog 14 #[.pointer (some ⟨B, 0, none⟩)] w (Does R S B (flagS u) (.bool (flagB u)) w)
  rend : ∀ {w S B u}, R w S B u → Laid w → u.s.size ≤ 100000 → Calls Tryz.prog 15 #[.pointer (some ⟨B, 0, none⟩)] w (Does R S B (endS u) (.tuple #[]) w)
  rat : ∀ {w S B u}, R w S B u → Laid w → Calls Tryz.prog 18 #[.pointer (some ⟨B, 0, none⟩)] w fun e w' => e = .returned (.int .i64 u.pos) ∧ RowKit.Below w.heap.size w w'
  rdone : ∀ {w S B u}, R w S B u → Laid w → Calls Tryz.prog 17 #[.pointer (some ⟨B, 0, none⟩)] w fun e w' => ∃ v, e = .returned v ∧ ErrIs w' v [bRead, u.p] u.e ∧ RowKit.Below w.heap.size w w'
  rnone : ∀ (w : World), Laid w → Calls Tryz.prog 17 #[.pointer none] w fun e w' => ∃ v, e = .returned v ∧ ErrIs w' v [bRead] 1 ∧ RowKit.Below w.heap.size w w'
  rnil : ∀ (w : World) (most : Int), Laid w → Calls Tryz.prog 10 #[.pointer none, .int .i64 most] w fun e w' => e = .returned (.int .i64 0) ∧ RowKit.Below w.heap.size w w'

theorem ErrIs.code {w : World} {v : Value} {l : List ByteArray} {e : Int} (h : ErrIs w v l e) (hg : Laid w) : Calls Tryz.prog 16 #[v] w fun x w' => x = .returned (.int .i64 e) ∧ RowKit.Below w.heap.size w w' := by
  rcases h with ⟨rfl, rfl⟩ | ⟨h0, h1⟩
  · exact (code_nil w).mono fun x w' ⟨a, b⟩ => ⟨a, by rw [b]; exact Below.refl _ _⟩
  · exact code_hit e h0 l v _ w hg h1 (Nat.le_refl _)
theorem ErrIs.at {w : World} {v : Value} {l : List ByteArray} {e : Int} (h : ErrIs w v l e) (he : e ≠ 0) (hl : l.length ≤ 1000) (hg : Laid w) (op : ByteArray) : Calls Tryz.prog 22 #[v, .string op] w fun x w' => x = .returned (.bool (Lib.containsS l op)) ∧ RowKit.Below w.heap.size w w' := by
  rcases h with ⟨h0, _⟩ | ⟨_, h1⟩
  · exact absurd h0 he
  · exact at_any l op v _ _ w hg h1 (.inr ⟨e, rfl⟩) (Nat.le_refl _) hl
theorem has_second (a p : ByteArray) : Lib.containsS [a, p] p = true := by rw [Lib.containsS_iff]; simp
end Go.Proofs.YtegbldkkggpjcaaGreatDoor
