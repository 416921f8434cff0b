/- An error and what the document says of it, side by side: whatever its code, 0 too. -/
import Derived.Test.YteniicpkkhgkbaaDoorFailLawC
import Derived.Stop.IfaceNil
namespace Go.Proofs.YteniicpkkhgkbaaDoor
open Go.RowKit

/-- What lies innermost, by the code. -/
def innC (c : Int) : Value := if c = 0 then .nilIface else .iface 28 (.int .i64 c)
/-- One op more, unless there is no error. -/
def consC (c : Int) (s : ByteArray) (l : List ByteArray) : List ByteArray := if c = 0 then [] else s :: l
/-- The text, by the code. -/
def textC (c : Int) (l : List ByteArray) : ByteArray := if c = 0 then ⟨#[]⟩ else preB l ++ errorB c
theorem consC_zero (s : ByteArray) (l : List ByteArray) : consC 0 s l = [] := rfl
theorem consC_err {c : Int} (h : c ≠ 0) (s : ByteArray) (l : List ByteArray) : consC c s l = s :: l := if_neg h
theorem innC_err {c : Int} (h : c ≠ 0) : innC c = .iface 28 (.int .i64 c) := if_neg h
theorem consC_len (c : Int) (s : ByteArray) (l : List ByteArray) : (consC c s l).length ≤ l.length + 1 := by
  unfold consC; split <;> simp
theorem consC_mem {c : Int} {s t : ByteArray} {l : List ByteArray} (h : t ∈ consC c s l) : t = s ∨ t ∈ l := by
  unfold consC at h; split at h
  · simp at h
  · simpa using h
/-- v is an error of code c with ops l. -/
def Est (w : World) (v : Value) (l : List ByteArray) (c : Int) : Prop := Err w v l (innC c) ∧ (l = [] ↔ c = 0)
theorem Est.step {w w' : World} {v : Value} {l : List ByteArray} {c : Int} (h : Est w v l c) (hb : RowKit.Below w.heap.size w w') : Est w' v l c := ⟨h.1.step hb, h.2⟩
theorem Est.zero {w : World} {v : Value} {l : List ByteArray} (h : Est w v l 0) : v = .nilIface ∧ l = [] := by
  have e := h.2.2 rfl
  subst e
  exact ⟨h.1.2, rfl⟩
theorem Est.err {w : World} {v : Value} {l : List ByteArray} {c : Int} (h : Est w v l c) (hc : c ≠ 0) : Err w v l (.iface 28 (.int .i64 c)) := by
  have := h.1; rwa [innC_err hc] at this
theorem Est.isNil {w : World} {v : Value} {l : List ByteArray} {c : Int} (h : Est w v l c) (W : World) : (binOp .eql 26 v .nilIface).run Tryd.prog W = .ok (.bool (c == 0)) W := by
  by_cases hc : c = 0
  · subst hc
    obtain ⟨rfl, _⟩ := h.zero
    exact Go.run_eql_nil_nil_at W 26 (by kernel_rfl)
  · obtain ⟨d, x, rfl⟩ := (h.err hc).2.iface
    rw [show (c == 0) = false by simpa using hc]
    exact Go.run_eql_iface_nil W 26 (by kernel_rfl) d x
theorem Est.guard {w : World} {v : Value} {l : List ByteArray} {c : Int} (h : Est w v l c) (i : Nat) (W : World) : (eqGuard .eql 26 (.tmp i) (.const .nilIface) v .nilIface).run Tryd.prog W = .ok () W := by
  by_cases hc : c = 0
  · subst hc
    obtain ⟨rfl, _⟩ := h.zero
    rfl
  · obtain ⟨d, x, rfl⟩ := (h.err hc).2.iface
    rfl
theorem Est.notNil {w : World} {v : Value} {l : List ByteArray} {c : Int} (h : Est w v l c) (hc : c ≠ 0) : ∃ d x, v = .iface d x := (h.err hc).2.iface

theorem Est.code {w : World} {v : Value} {l : List ByteArray} {c : Int} (h : Est w v l c) : Calls Tryd.prog 13 #[v] w fun e w' => e = .returned (.int .i64 c) ∧ RowKit.Below w.heap.size w w' := by
  by_cases hc : c = 0
  · subst hc
    obtain ⟨rfl, _⟩ := h.zero
    exact (code_nil w).mono fun _ _ ⟨he, hw⟩ => ⟨he, by rw [hw]; exact Below.refl _ _⟩
  · exact (h.err hc).code hc
theorem innC_inner (c : Int) : Inner (innC c) := by
  unfold innC; split
  · exact .inl rfl
  · exact .inr ⟨c, rfl⟩
theorem innC_innerM {c : Int} (h : c ≤ 9223372036854775807) : InnerM (innC c) := by
  unfold innC; split
  · exact .inl rfl
  · exact .inr ⟨c, rfl, h⟩
theorem Est.trace {w : World} {v : Value} {l : List ByteArray} {c : Int} (h : Est w v l c) (hl : l.length ≤ 1000) :
    Calls Tryd.prog 15 #[v] w fun e w' => ∃ u, e = .returned u ∧ ReadsS w' u l ∧ RowKit.Below w.heap.size w w' := h.1.trace (innC_inner c) hl
theorem Est.deep {w : World} {v : Value} {l : List ByteArray} {c : Int} (h : Est w v l c) (hl : l.length ≤ 1000) :
    Calls Tryd.prog 18 #[v] w fun e w' => e = .returned (.int .i64 l.length) ∧ RowKit.Below w.heap.size w w' := h.1.deep (innC_inner c) hl
theorem Est.at {w : World} {v : Value} {l : List ByteArray} {c : Int} (h : Est w v l c) (hl : l.length ≤ 1000) (op : ByteArray) :
    Calls Tryd.prog 19 #[v, .string op] w fun e w' => e = .returned (.bool (Lib.containsS l op)) ∧ RowKit.Below w.heap.size w w' := h.1.at (innC_inner c) hl op
theorem Est.text {w : World} {v : Value} {l : List ByteArray} {c : Int} (h : Est w v l c) (hm : c ≤ 9223372036854775807) (hl : l.length ≤ 1000) (hs : ∀ s ∈ l, s.size ≤ 1000) :
    Calls Tryd.prog 16 #[v] w fun e w' => e = .returned (.string (textC c l)) ∧ RowKit.Below w.heap.size w w' := by
  refine h.1.text (innC_innerM hm) hl hs _ ?_
  by_cases hc : c = 0
  · subst hc
    obtain ⟨_, rfl⟩ := h.zero
    rfl
  · rw [innC_err hc]; unfold textC; rw [if_neg hc]; rfl
theorem rtextC {w : World} {u : Value} {l : List ByteArray} {c : Int} (h : ReadsS w u l) (hm : c ≤ 9223372036854775807) (hl : l.length ≤ 1000) (hs : ∀ s ∈ l, s.size ≤ 1000) :
    Calls Tryd.prog 17 #[.agg #[u, .int .i64 c]] w fun e w' => e = .returned (.string (textC c l)) ∧ RowKit.Below w.heap.size w w' := by
  by_cases hc : c = 0
  · subst hc; exact rtext_zero u w
  · unfold textC; rw [if_neg hc]; exact rtext_any l u c hc hm w h hl hs

theorem newC (op : ByteArray) (c : Int) (w : World) (hg : Laid w) : Calls Tryd.prog 9 #[.string op, .int .i64 c] w fun e w' => ∃ v, e = .returned v ∧ Est w' v (consC c op []) c ∧ RowKit.Below w.heap.size w w' := by
  by_cases hc : c = 0
  · subst hc
    exact (new_ok op w).mono fun e w' ⟨he, hw⟩ => ⟨_, he, ⟨⟨by rw [← hw]; exact hg, rfl⟩, by simp [consC]⟩, by rw [hw]; exact Below.refl _ _⟩
  · refine (new_err op c hc w).mono fun e w' ⟨v, he, hv, hb⟩ => ⟨v, he, ⟨⟨hg.below hb hg.pos, ?_⟩, ?_⟩, hb⟩
    · rw [consC_err hc, innC_err hc]; exact hv
    · rw [consC_err hc]; simpa using hc
theorem rnewC (op : ByteArray) (c : Int) (w : World) : Calls Tryd.prog 10 #[.string op, .int .i64 c] w fun e w' => ∃ sa cap, e = .returned (.agg #[.slice sa (consC c op []).length cap, .int .i64 c]) ∧ ReadsS w' (.slice sa (consC c op []).length cap) (consC c op []) ∧ (consC c op [] = [] → sa = none ∧ cap = 0) ∧ RowKit.Below w.heap.size w w' := by
  by_cases hc : c = 0
  · subst hc
    exact (rnew_ok op w).mono fun e w' ⟨he, hb⟩ => ⟨none, 0, he, ⟨none, 0, 0, 0, rfl, Nat.le_refl _, fun h => absurd h (by simp [consC]), fun j hj => absurd hj (by simp [consC])⟩, fun _ => ⟨rfl, rfl⟩, hb⟩
  · refine (rnew_err op c hc w).mono fun e w' ⟨u, he, hu, hb⟩ => ?_
    rw [consC_err hc]
    have hu' := hu
    obtain ⟨sa, cap, b, off, rfl, _⟩ := hu
    exact ⟨sa, cap, he, hu', fun e => by simp at e, hb⟩
theorem Est.wrap {w : World} {v : Value} {l : List ByteArray} {c : Int} (h : Est w v l c) (op : ByteArray) : Calls Tryd.prog 11 #[.string op, v] w fun e w' => ∃ v', e = .returned v' ∧ Est w' v' (consC c op l) c ∧ RowKit.Below w.heap.size w w' := by
  by_cases hc : c = 0
  · subst hc
    obtain ⟨rfl, rfl⟩ := h.zero
    exact (wrap_nil op w).mono fun e w' ⟨he, hw⟩ => ⟨_, he, by rw [← hw]; exact h, by rw [hw]; exact Below.refl _ _⟩
  · refine (wrap_err op l _ _ v w (h.err hc).2).mono fun e w' ⟨v', he, hv, hb⟩ => ⟨v', he, ⟨⟨h.1.1.below hb h.1.1.pos, ?_⟩, ?_⟩, hb⟩
    · rw [consC_err hc, innC_err hc]; exact hv
    · rw [consC_err hc]; simpa using hc
theorem rwrapC {w : World} {sa : Option Addr} {cap : Nat} {l : List ByteArray} {c : Int} (h : ReadsS w (.slice sa l.length cap) l) (hl0 : l = [] ↔ c = 0) (hn : l = [] → sa = none ∧ cap = 0) (hl : l.length ≤ 1000) (op : ByteArray) :
    Calls Tryd.prog 12 #[.string op, .agg #[.slice sa l.length cap, .int .i64 c]] w fun e w' => ∃ sa' cap', e = .returned (.agg #[.slice sa' (consC c op l).length cap', .int .i64 c]) ∧ ReadsS w' (.slice sa' (consC c op l).length cap') (consC c op l) ∧ (consC c op l = [] → sa' = none ∧ cap' = 0) ∧ RowKit.Below w.heap.size w w' := by
  by_cases hc : c = 0
  · subst hc
    obtain rfl := hl0.2 rfl
    obtain ⟨rfl, rfl⟩ := hn rfl
    exact (rwrap_ok op w).mono fun e w' ⟨he, hb⟩ => ⟨none, 0, he, h.later hb, fun _ => ⟨rfl, rfl⟩, hb⟩
  · have h0 : 0 < l.length := List.length_pos_iff.2 (fun e => hc (hl0.1 e))
    refine (rwrap_err op l _ c hc w h h0 hl).mono fun e w' ⟨u, he, hu, hb⟩ => ?_
    rw [consC_err hc]
    have hu' := hu
    obtain ⟨sa', cap', b, off, rfl, _⟩ := hu
    exact ⟨sa', cap', he, hu', fun e => by simp at e, hb⟩

/-- A store into a cell that holds no text leaves an error as it is. -/
theorem ErrAt.setCell {B : Nat} {w : World} {g : Nat} {o : Nat} {z u : Value} (h0 : w.cell? ⟨g, 0, none⟩ = some z) (hz : ∀ s, z ≠ .string s) : ∀ {l : List ByteArray} {v x : Value}, ErrAt B w v l x → ErrAt B (w.setCell ⟨g, o, none⟩ u) v l x
  | [], _, _, e => e
  | _ :: _, _, _, ⟨b, y, hb, e, c0, c1, r⟩ => by
    have hne : b ≠ g := by
      intro e
      subst e
      rw [h0] at c0
      exact hz _ (Option.some.inj c0)
    refine ⟨b, y, hb, e, ?_, ?_, r.setCell h0 hz⟩
    · rw [World.cell?_setCell_other _ _ _ _ (fun e => hne (congrArg Addr.block e).symm)]; exact c0
    · rw [World.cell?_setCell_other _ _ _ _ (fun e => hne (congrArg Addr.block e).symm)]; exact c1
theorem Est.setCell {w : World} {v : Value} {l : List ByteArray} {c : Int} (h : Est w v l c) {g o : Nat} {z u : Value} (h0 : w.cell? ⟨g, 0, none⟩ = some z) (hz : ∀ s, z ≠ .string s) (hg : 0 < g) : Est (w.setCell ⟨g, o, none⟩ u) v l c := by
  refine ⟨⟨?_, ?_⟩, h.2⟩
  · have := h.1.1
    unfold Laid at this ⊢
    rw [World.cell?_setCell_other _ _ _ _ (fun e => by have q : g = 0 := congrArg Addr.block e; omega)]; exact this
  · rw [show (w.setCell ⟨g, o, none⟩ u).heap.size = w.heap.size by simp [World.setCell]]
    exact h.1.2.setCell h0 hz
theorem ReadsS.setCell {w : World} {v : Value} {l : List ByteArray} (h : ReadsS w v l) {a : Addr} {z u : Value} (h0 : w.cell? a = some z) (hz : ∀ s, z ≠ .string s) : ReadsS (w.setCell a u) v l := by
  obtain ⟨sa, cap, b, off, e, hc, h1, h2⟩ := h
  refine ⟨sa, cap, b, off, e, hc, fun q => ⟨(h1 q).1, by simpa [World.setCell] using (h1 q).2⟩, fun j hj => ?_⟩
  rw [World.cell?_setCell_other _ _ _ _ (by
    intro e
    rw [e, h2 j hj] at h0
    exact hz _ (Option.some.inj h0).symm)]
  exact h2 j hj
end Go.Proofs.YteniicpkkhgkbaaDoor
