/- The landed writer: what stands for one; its half of Impl. -/
import Derived.Test.YtegbldkkggpjcaaGreatDoorTxtOwnB
namespace Go.Proofs.YtegbldkkggpjcaaGreatDoor
open Go.RowKit Go.Sort

attribute [local go_sem ↓] Go.wp_at_zero Go.wp_at_succ

theorem Chg.refl (S : Nat → Prop) (w : World) : Chg S w w := ⟨rfl, rfl, rfl, Nat.le_refl _, fun _ _ _ => rfl⟩
theorem Chg.set {S : Nat → Prop} {w w' : World} (h : Chg S w w') {B : Nat} (hB : S B) (o : Nat) (v : Value) : Chg S w (w'.setCell ⟨B, o, none⟩ v) :=
  ⟨h.os, h.tape, h.output, by simpa [World.setCell] using h.size, fun k hk hn => (heap_setCell_other w' ⟨B, o, none⟩ k v (fun e => hn (e ▸ hB))).trans (h.block k hk hn)⟩
theorem Chg.alloc {S : Nat → Prop} {w w' : World} (h : Chg S w w') (o : Obj) : Chg S w (w'.alloc o) :=
  ⟨h.os, h.tape, h.output, by simpa using Nat.le_succ_of_le h.size, fun k hk hn => (Below.heap_alloc w' o k (Nat.lt_of_lt_of_le hk h.size)).trans (h.block k hk hn)⟩
theorem Chg.trans {S : Nat → Prop} {w w1 w2 : World} (h : Chg S w w1) (k : Chg S w1 w2) : Chg S w w2 :=
  ⟨k.os.trans h.os, k.tape.trans h.tape, k.output.trans h.output, Nat.le_trans h.size k.size, fun b hb hn => (k.block b (Nat.lt_of_lt_of_le hb h.size) hn).trans (h.block b hb hn)⟩
theorem Chg.then {S : Nat → Prop} {w w1 w2 : World} (h : Chg S w w1) (k : RowKit.Below w1.heap.size w1 w2) : Chg S w w2 := h.trans (Chg.of k)
theorem heap_push_new (w : World) (o : Obj) : (w.alloc o).heap[w.heap.size]? = some o := by
  show (w.heap.push o)[w.heap.size]? = _
  simp
theorem other_obj {w : World} {b c : Nat} {x y : Array Value} {s t : TypeId} {f g : Nat × Nat} (h : w.heap[b]? = some (.cells x s f)) (k : w.heap[c]? = some (.cells y t g)) (n : s ≠ t) : b ≠ c := by
  rintro rfl
  rw [h] at k
  simp only [Option.some.injEq, Obj.cells.injEq] at k
  exact n k.2.1
theorem ext_behind {S S' : Nat → Prop} {w w1 : World} (h : Ext S S' w1) (k : RowKit.Below w.heap.size w w1) : Ext S S' w := fun b hb => (h b hb).imp id (fun q => Nat.le_trans k.size q)
theorem chg_behind {S : Nat → Prop} {w w1 w2 : World} (h : Chg S w1 w2) (k : RowKit.Below w.heap.size w w1) : Chg S w w2 :=
  ⟨h.os.trans k.os, h.tape.trans k.tape, h.output.trans k.output, Nat.le_trans k.size h.size, fun b hb hn => (h.block b (Nat.lt_of_lt_of_le hb k.size) hn).trans (k.block b hb)⟩

/-- The writer's pieces: none without a byte; without a fault they are what is laid. -/
structure Pieces (l : List ByteArray) (t : OutS) : Prop where
  some : ∀ x ∈ l, 0 < x.size
  all : t.e = 0 → (⟨(catB l).toArray⟩ : ByteArray) = t.s
  none : t.e ≠ 0 → t.s = ⟨#[]⟩
theorem catB_many (l : List ByteArray) (h : ∀ x ∈ l, 0 < x.size) : l.length ≤ (catB l).length := by
  induction l with
  | nil => exact Nat.zero_le _
  | cons s l ih =>
    have h1 := h s (by simp)
    have h2 := ih (fun x hx => h x (by simp [hx]))
    have e : s.data.size = s.size := rfl
    simp only [catB, List.length_cons, List.length_append, Array.length_toList]
    omega
/-- A writer, its one block, and what it has laid. -/
def WAt (w : World) (B : Nat) (t : OutS) (p : Option Addr) (l : List ByteArray) : Prop :=
  w.heap[B]? = some (.cells #[.pointer p, .string t.p, .int .i64 t.e] 51 (0, 0)) ∧ Chain w p l ∧ Pieces l t
def WIs (w : World) (S : Nat → Prop) (B : Nat) (t : OutS) : Prop := (S = fun k => k = B) ∧ ∃ p l, WAt w B t p l
theorem w_old {w S B t} (h : WIs w S B t) : S B ∧ ∀ k, S k → k < w.heap.size := by
  obtain ⟨rfl, p, l, hc, _⟩ := h
  exact ⟨rfl, fun k hk => hk ▸ lt_of_block hc⟩
theorem WAt.moves {w w' : World} {B t p l} (h : WAt w B t p l) (hB : w'.heap[B]? = w.heap[B]?) (k : ∀ (b : Nat) (x : Array Value) (f : Nat × Nat), w.heap[b]? = some (Obj.cells x 125 f) → w'.heap[b]? = w.heap[b]?) : WAt w' B t p l :=
  ⟨hB.trans h.1, h.2.1.moves k, h.2.2⟩
theorem WAt.later {w w' : World} {B t p l} (h : WAt w B t p l) (k : RowKit.Below w.heap.size w w') : WAt w' B t p l :=
  h.moves (k.block B (lt_of_block h.1)) fun b _ _ q => k.block b (lt_of_block q)
theorem w_later {w w' S B t} (h : WIs w S B t) (k : RowKit.Below w.heap.size w w') : WIs w' S B t := by
  obtain ⟨rfl, p, l, h⟩ := h
  exact ⟨rfl, p, l, h.later k⟩
theorem w_cells {w S B t} (C : Nat) (o : Obj) (h : WIs w S B t) (ho : w.heap[C]? = some o) (_ : ¬ S C) (hx : ∃ x f, o = .cells x 70 f) (w' : World) (k : ∀ k, k ≠ C → w'.heap[k]? = w.heap[k]?) (_ : w'.heap.size = w.heap.size) : WIs w' S B t := by
  obtain ⟨rfl, p, l, h⟩ := h
  obtain ⟨x, f, rfl⟩ := hx
  exact ⟨rfl, p, l, h.moves (k B (other_obj h.1 ho (by decide))) fun b y g q => k b (other_obj q ho (by decide))⟩
theorem w_zero (w : World) : WIs (w.alloc (.cells #[.pointer none, .string ⟨#[]⟩, .int .i64 0] 51)) (fun k => k = w.heap.size) w.heap.size ⟨⟨#[]⟩, ⟨#[]⟩, 0⟩ :=
  ⟨rfl, none, [], heap_push_new w _, rfl, fun x h => by simp at h, fun _ => rfl, fun h => absurd rfl h⟩

theorem WAt.c0 {w B t p l} (h : WAt w B t p l) : w.cell? ⟨B, 0, none⟩ = some (.pointer p) := by simp [World.cell?, h.1]
theorem WAt.c1 {w B t p l} (h : WAt w B t p l) : w.cell? ⟨B, 1, none⟩ = some (.string t.p) := by simp [World.cell?, h.1]
theorem WAt.c2 {w B t p l} (h : WAt w B t p l) : w.cell? ⟨B, 2, none⟩ = some (.int .i64 t.e) := by simp [World.cell?, h.1]
theorem WAt.f0 {w B t p l} (h : WAt w B t p l) : w.frozen? ⟨B, 0, none⟩ = false := by simp [World.frozen?, h.1]
theorem WAt.f1 {w B t p l} (h : WAt w B t p l) : w.frozen? ⟨B, 1, none⟩ = false := by simp [World.frozen?, h.1]
theorem WAt.f2 {w B t p l} (h : WAt w B t p l) : w.frozen? ⟨B, 2, none⟩ = false := by simp [World.frozen?, h.1]

theorem wfault_any {w B t p l} (h : WAt w B t p l) : Calls Tryz.prog 49 #[.pointer (some ⟨B, 0, none⟩)] w fun x w' => ∃ v, x = .returned v ∧ ErrIs w' v [bWrite, t.p] t.e ∧ RowKit.Below w.heap.size w w' := by
  have c1 := h.c1
  have c2 := h.c2
  have F := Lib.hid (wrapped_any bWrite t.p t.e w)
  clear h
  go_enter Tryz.func49, Tryz.ntmps49
  go_wp2_with (go_at_call 46; refine (F.out).mono ?_; rintro _ w1 ⟨v, rfl, h1, b1⟩)
  go_ret
  exact ⟨v, rfl, h1, b1⟩
theorem wfault_none (w : World) : Calls Tryz.prog 49 #[.pointer none] w fun x w' => ∃ v, x = .returned v ∧ ErrIs w' v [bWrite] 1 ∧ RowKit.Below w.heap.size w w' := by
  have N := Lib.hid (newE bWrite 1 w)
  go_enter Tryz.func49, Tryz.ntmps49
  go_wp2_with (go_at_call 45; refine (N.out).mono ?_; rintro _ w1 ⟨v, rfl, h1, b1⟩)
  go_ret
  exact ⟨v, rfl, h1, b1⟩
theorem WAt.fault {w B t p l} (h : WAt w B t p l) (pc : ByteArray) (e : Int) (q2 : e ≠ 0) : WAt ((w.setCell ⟨B, 1, none⟩ (.string pc)).setCell ⟨B, 2, none⟩ (.int .i64 e)) B ⟨⟨#[]⟩, pc, e⟩ p l := by
  have e1 := heap_setCell_same w B 1 _ _ (.string pc) h.1
  refine ⟨heap_setCell_same _ B 2 _ _ _ e1, h.2.1.moves fun b x f hb => ?_, ⟨h.2.2.some, fun h => absurd h q2, fun _ => rfl⟩⟩
  have n := other_obj hb h.1 (by decide)
  exact (heap_setCell_other _ ⟨B, 2, none⟩ b _ n).trans (heap_setCell_other _ ⟨B, 1, none⟩ b _ n)
theorem WAt.snoc {w B t p l} (h : WAt w B t p l) (x : ByteArray) (q : t.e = 0) (hx : 0 < x.size) : WAt ((w.alloc (.cells #[.pointer p, .string x] 125)).setCell ⟨B, 0, none⟩ (.pointer (some ⟨w.heap.size, 0, none⟩))) B ⟨t.s ++ x, t.p, t.e⟩ (some ⟨w.heap.size, 0, none⟩) (x :: l) := by
  have hl := lt_of_block h.1
  have e1 : (w.alloc (.cells #[.pointer p, .string x] 125)).heap[B]? = _ := (Below.heap_alloc _ _ _ hl).trans h.1
  refine ⟨heap_setCell_same _ B 0 _ _ _ e1, ⟨w.heap.size, p, rfl, ?_, h.2.1.moves fun b y f hb => ?_⟩, ⟨?_, ?_, fun h => absurd q h⟩⟩
  · exact (heap_setCell_other _ ⟨B, 0, none⟩ w.heap.size _ (by show w.heap.size ≠ B; omega)).trans (heap_push_new w _)
  · exact (heap_setCell_other _ ⟨B, 0, none⟩ b _ (other_obj hb h.1 (by decide))).trans (Below.heap_alloc _ _ _ (lt_of_block hb))
  · intro y hy
    rcases List.mem_cons.1 hy with rfl | hy
    · exact hx
    · exact h.2.2.some y hy
  · intro _
    rw [← h.2.2.all q]
    apply ByteArray.ext
    simp [catB, ByteArray.data_append]
theorem ErrIs.nil_of {w : World} {v : Value} {l : List ByteArray} {e : Int} (h : ErrIs w v l e) (q : e = 0) : v = .nilIface :=
  h.elim (fun h => h.2) (fun h => absurd q h.1)
theorem ErrIs.some_of {w : World} {v : Value} {op : ByteArray} {l : List ByteArray} {e : Int} (h : ErrIs w v (op :: l) e) (q : e ≠ 0) : ∃ b, v = .iface 118 (.pointer (some ⟨b, 0, none⟩)) := by
  rcases h with h | ⟨_, b, y, _, hv, _⟩
  · exact absurd h.1 q
  · exact ⟨b, hv⟩
theorem w_not0 {w S B t} (h : WIs w S B t) (hg : Laid w) : B ≠ 0 := by
  obtain ⟨_, p, l, ha⟩ := h
  rintro rfl
  have h0 := ha.c0
  rw [show w.cell? ⟨0, 0, none⟩ = _ from hg] at h0
  cases h0
theorem putZ_some (n : Int) (h : 0 ≤ n) : 0 < (putZ n).length := by
  unfold putZ; rw [if_neg (by omega)]; exact putL_pos _
theorem rowZ_some (l : List Int) (q : rowE l = 0) : 0 < (rowZ l).length := by
  unfold rowE at q
  split at q
  · rename_i h
    unfold rowZ rowP
    rw [if_pos h, List.length_append]
    have := putL_pos l.length
    omega
  · omega
theorem WAt.a0 {w B t p l} (h : WAt w B t p l) (o : Obj) : (w.alloc o).cell? ⟨B, 0, none⟩ = some (.pointer p) := by
  simp [World.cell?, (Below.heap_alloc w o B (lt_of_block h.1)).trans h.1]
theorem WAt.af0 {w B t p l} (h : WAt w B t p l) (o : Obj) : (w.alloc o).frozen? ⟨B, 0, none⟩ = false := by
  simp [World.frozen?, (Below.heap_alloc w o B (lt_of_block h.1)).trans h.1]
set_option maxHeartbeats 1600000 in
theorem lays_any (t : OutS) (pc x : ByteArray) (e : Int) (S : Nat → Prop) (B : Nat) (w : World) (h : WIs w S B t) (hg : Laid w) (hx : e = 0 → 0 < x.size) :
    Calls Tryz.prog 48 #[.pointer (some ⟨B, 0, none⟩), .string pc, .string x, .int .i64 e] w (Does WIs S B (layS t pc x e) (.tuple #[]) w) := by
  obtain ⟨rfl, p, l, ha⟩ := h
  have hpos := hg.pos
  have HG := Lib.hid hg
  have HA := Lib.hid ha
  have F := Lib.hid (wfault_any ha)
  have I := Lib.hid (fun v w1 (h : ErrIs w1 v [bWrite, t.p] t.e) (g : Laid w1) => h.is g)
  clear ha hg
  by_cases q : t.e = 0
  · by_cases q2 : e = 0
    · have HE := Lib.hid (show layS t pc x e = ⟨t.s ++ x, t.p, t.e⟩ by unfold layS; rw [if_neg (fun h => h q), if_neg (fun h => h q2)])
      rw [HE.out]
      have e0 : (e != 0) = false := by simpa using q2
      have d0 : decide (t.e = 0) = true := decide_eq_true q
      have HX := Lib.hid (hx q2)
      have HQ := Lib.hid q
      clear hx q q2
      go_enter Tryz.func48, Tryz.ntmps48
      go_wp2_with (first
        | (go_at_call 49; refine (F.out).mono ?_; rintro _ w1 ⟨v1, rfl, h1, b1⟩; have H1 := Lib.hid h1; have B1 := Lib.hid b1; clear h1 b1)
        | (go_at_call 63; refine (I.out _ _ H1.out (HG.out.below B1.out hpos)).mono ?_; rintro _ w2 ⟨rfl, b2⟩; rw [d0]; have B2 := Lib.hid (B1.out.trans (b2.mono B1.out.size)); have A2 := Lib.hid (HA.out.later B2.out); have c0 := A2.out.c0; have c9 := A2.out.a0 (.cells #[.pointer p, .string x] 125); have f9 := A2.out.af0 (.cells #[.pointer p, .string x] 125); clear b2))
      go_end0
      exact ⟨rfl, _, ⟨rfl, _, _, A2.out.snoc x HQ.out HX.out⟩, Ext.refl _ _, ((Chg.of (S := fun k => k = B) B2.out).alloc _).set (B := B) rfl _ _⟩
    · have HE := Lib.hid (show layS t pc x e = ⟨⟨#[]⟩, pc, e⟩ by unfold layS; rw [if_neg (fun h => h q), if_pos q2])
      rw [HE.out]
      have e0 : (e != 0) = true := by simpa using q2
      have d0 : decide (t.e = 0) = true := decide_eq_true q
      have HQ := Lib.hid q2
      clear hx q q2
      go_enter Tryz.func48, Tryz.ntmps48
      go_wp2_with (first
        | (go_at_call 49; refine (F.out).mono ?_; rintro _ w1 ⟨v1, rfl, h1, b1⟩; have H1 := Lib.hid h1; have B1 := Lib.hid b1; clear h1 b1)
        | (go_at_call 63; refine (I.out _ _ H1.out (HG.out.below B1.out hpos)).mono ?_; rintro _ w2 ⟨rfl, b2⟩; rw [d0]; have B2 := Lib.hid (B1.out.trans (b2.mono B1.out.size)); have A2 := Lib.hid (HA.out.later B2.out); have c1 := A2.out.c1; have c2 := A2.out.c2; have f1 := A2.out.f1; have f2 := A2.out.f2; clear b2))
      refine bodyPost_ret (results_none rfl _ _ _) rfl ?_
      exact ⟨rfl, _, ⟨rfl, _, _, A2.out.fault pc e HQ.out⟩, Ext.refl _ _, ((Chg.of (S := fun k => k = B) B2.out).set (B := B) rfl _ _).set (B := B) rfl _ _⟩
  · have HE := Lib.hid (show layS t pc x e = t by unfold layS; rw [if_pos q])
    rw [HE.out]
    have d0 : decide (t.e = 0) = false := decide_eq_false q
    clear hx q
    go_enter Tryz.func48, Tryz.ntmps48
    go_wp2_with (first
      | (go_at_call 49; refine (F.out).mono ?_; rintro _ w1 ⟨v1, rfl, h1, b1⟩; have H1 := Lib.hid h1; have B1 := Lib.hid b1; clear h1 b1)
      | (go_at_call 63; refine (I.out _ _ H1.out (HG.out.below B1.out hpos)).mono ?_; rintro _ w2 ⟨rfl, b2⟩; rw [d0]; have B2 := Lib.hid (B1.out.trans (b2.mono B1.out.size)); have A2 := Lib.hid (HA.out.later B2.out); clear b2))
    refine bodyPost_ret (results_none rfl _ _ _) rfl ?_
    exact ⟨rfl, _, ⟨rfl, _, _, A2.out⟩, Ext.refl _ _, Chg.of (S := fun k => k = B) B2.out⟩
set_option maxHeartbeats 1600000 in
theorem w_done {w S B t} (h : WIs w S B t) (hs : t.s.size ≤ 100000) : Calls Tryz.prog 21 #[.pointer (some ⟨B, 0, none⟩)] w fun e w' => ∃ v, e = .returned (.tuple #[.string t.s, v]) ∧ ErrIs w' v [bWrite, t.p] t.e ∧ RowKit.Below w.heap.size w w' := by
  obtain ⟨rfl, p, l, ha⟩ := h
  have HA := Lib.hid ha
  have F := Lib.hid (wfault_any ha)
  clear ha
  by_cases q : t.e = 0
  · have HT := Lib.hid (HA.out.2.2.all q)
    have hz : (catB l).length ≤ 1000000 := by
      have e : (⟨(catB l).toArray⟩ : ByteArray).size = (catB l).length := by simp [ByteArray.size]
      rw [← e, HT.out]; omega
    have hl : l.length ≤ 1000000 := Nat.le_trans (catB_many l HA.out.2.2.some) hz
    have HL := Lib.hid (fun w1 (k : RowKit.Below w.heap.size w w1) => all_any B p t.p t.e l w1 (HA.out.later k).1 (HA.out.later k).2.1 hl hz)
    have HQ := Lib.hid q
    clear hz hl q
    go_enter Tryz.func21, Tryz.ntmps21
    go_wp2_with (first
      | (go_at_call 49; refine (F.out).mono ?_; rintro _ w1 ⟨v1, rfl, h1, b1⟩; obtain rfl := h1.nil_of HQ.out; have B1 := Lib.hid b1; clear h1 b1)
      | (go_at_call 50; refine (HL.out _ B1.out).mono ?_; rintro _ w2 ⟨rfl, b2⟩))
    go_ret2
    exact ⟨_, by rw [HT.out]; rfl, .inl ⟨HQ.out, rfl⟩, B1.out.trans (b2.mono B1.out.size)⟩
  · have HT := Lib.hid (HA.out.2.2.none q)
    have HQ := Lib.hid q
    clear q
    go_enter Tryz.func21, Tryz.ntmps21
    go_wp2_with (go_at_call 49; refine (F.out).mono ?_; rintro _ w1 ⟨v1, rfl, h1, b1⟩; obtain ⟨b9, rfl⟩ := h1.some_of HQ.out; have B1 := Lib.hid b1; have H1 := Lib.hid h1; clear h1 b1)
    go_ret2
    exact ⟨_, by rw [HT.out]; rfl, H1.out, B1.out⟩
theorem w_none (w : World) : Calls Tryz.prog 21 #[.pointer none] w fun e w' => ∃ v, e = .returned (.tuple #[.string ⟨#[]⟩, v]) ∧ ErrIs w' v [bWrite] 1 ∧ RowKit.Below w.heap.size w w' := by
  have F := Lib.hid (wfault_none w)
  go_enter Tryz.func21, Tryz.ntmps21
  go_wp2_with (go_at_call 49; refine (F.out).mono ?_; rintro _ w1 ⟨v1, rfl, h1, b1⟩; obtain ⟨b9, rfl⟩ := h1.some_of (by decide); have B1 := Lib.hid b1; have H1 := Lib.hid h1; clear h1 b1)
  go_ret2
  exact ⟨_, rfl, H1.out, B1.out⟩
theorem w_flag {w S B t} (b : Bool) (h : WIs w S B t) (hg : Laid w) : Calls Tryz.prog 33 #[.pointer (some ⟨B, 0, none⟩), .bool b] w (Does WIs S B (layS t pFlag (bitB b) 0) (.tuple #[]) w) := by
  have L := Lib.hid (lays_any t pFlag (bitB b) 0 S B w h hg (by cases b <;> decide))
  clear h hg
  cases b
  · go_enter Tryz.func33, Tryz.ntmps33
    go_wp2_with (go_at_call 48; refine (L.out).mono ?_; rintro _ w2 ⟨rfl, HD⟩)
    go_end0
    exact ⟨rfl, HD⟩
  · go_enter Tryz.func33, Tryz.ntmps33
    go_wp2_with (go_at_call 48; refine (L.out).mono ?_; rintro _ w2 ⟨rfl, HD⟩)
    go_end0
    exact ⟨rfl, HD⟩
theorem w_text {w S B t} (s : ByteArray) (h : WIs w S B t) (hg : Laid w) (h2 : s.size ≤ 10000) : Calls Tryz.prog 20 #[.pointer (some ⟨B, 0, none⟩), .string s] w (Does WIs S B (layS t pText (bs (putZ s.size) ++ s) 0) (.tuple #[]) w) := by
  have hq : (bs (putZ s.size)).size ≤ 9 := by rw [bs_size]; exact putZ_len _ (by omega)
  have hq0 : 0 < (bs (putZ s.size)).size := by rw [bs_size]; exact putZ_some _ (by omega)
  have hz2 : ¬ ((bs (putZ s.size)).size + s.size > 9223372036854775807) := by omega
  have L := Lib.hid (fun w' (k : RowKit.Below w.heap.size w w') => lays_any t pText (bs (putZ s.size) ++ s) 0 S B w' (w_later h k) (hg.below k hg.pos) (fun _ => by rw [ByteArray.size_append]; omega))
  have P0 : ∀ w, Calls Tryz.prog 47 #[.int .i64 s.size] w fun e w' => e = .returned (.tuple #[.string (bs (putZ s.size)), .int .i64 0]) ∧ RowKit.Below w.heap.size w w' := fun w => by
    have := put_any (s.size : Int) w (by omega)
    rwa [show putE (s.size : Int) = 0 from if_neg (by omega)] at this
  have PP := Lib.hid P0
  clear P0 h hg hq hq0
  generalize hb : bs (putZ s.size) = x at L PP hz2 ⊢
  clear hb
  go_enter Tryz.func20, Tryz.ntmps20
  go_wp2_with (first
    | (go_at_call 47; refine (PP.out _).mono ?_; rintro _ w1 ⟨rfl, b1⟩; have HB1 := Lib.hid b1; clear b1)
    | (go_at_call 48; refine (L.out _ HB1.out).mono ?_; rintro _ w2 ⟨rfl, HD⟩))
  go_end0
  obtain ⟨S', h1, h2, h3⟩ := HD
  exact ⟨rfl, S', h1, ext_behind h2 HB1.out, chg_behind h3 HB1.out⟩
theorem w_row {w S B t} (sa : Option Addr) (len cap : Nat) (l : List Int) (h : WIs w S B t) (hg : Laid w) (hr : ReadsI w sa len l) (hm : len ≤ 1000) (hwf : ∀ x ∈ l, x ≤ 9223372036854775807) : Calls Tryz.prog 31 #[.pointer (some ⟨B, 0, none⟩), .slice sa len cap] w (Does WIs S B (layS t pRow (bs (rowZ l)) (rowE l)) (.tuple #[]) w) := by
  have L := Lib.hid (fun w' (k : RowKit.Below w.heap.size w w') => lays_any t pRow (bs (rowZ l)) (rowE l) S B w' (w_later h k) (hg.below k hg.pos) (fun q => by rw [bs_size]; exact rowZ_some l q))
  have PP := Lib.hid (row_any sa len cap l w (by omega) hwf hr)
  clear h hr hwf hg
  generalize bs (rowZ l) = x at L PP ⊢
  go_enter Tryz.func31, Tryz.ntmps31
  go_wp2_with (first
    | (go_at_call 61; refine (PP.out).mono ?_; rintro _ w1 ⟨rfl, b1⟩; have HB1 := Lib.hid b1; clear b1)
    | (go_at_call 48; refine (L.out _ HB1.out).mono ?_; rintro _ w2 ⟨rfl, HD⟩))
  go_end0
  obtain ⟨S', h1, h2, h3⟩ := HD
  exact ⟨rfl, S', h1, ext_behind h2 HB1.out, chg_behind h3 HB1.out⟩
theorem Does.laid {S B u v w e w'} (h : Does WIs S B u v w e w') (hg : Laid w) (hS : ¬ S 0) : Laid w' := by
  obtain ⟨_, S', _, _, k⟩ := h
  exact k.laid hg hS
theorem w_num {w S B t} (sa : Option Addr) (len cap : Nat) (l : List Int) (h : WIs w S B t) (hg : Laid w) (hr : ReadsI w sa len l) (hm : len ≤ 1000) (hwf : ∀ x ∈ l, x ≤ 9223372036854775807) (hS : 0 < len → ∀ b o s, sa = some ⟨b, o, s⟩ → ¬ S b) : Calls Tryz.prog 19 #[.pointer (some ⟨B, 0, none⟩), .slice sa len cap] w (Does WIs S B (numL t l) (.tuple #[]) w) := by
  obtain rfl := h.1
  have hB0 : B ≠ 0 := w_not0 h hg
  have HZ := Lib.hid hr.1
  have HR := Lib.hid hr; clear hr
  have HG := Lib.hid hg; clear hg
  have HWF := Lib.hid hwf; clear hwf
  have HW := Lib.hid h; clear h
  have HS := Lib.hid hS; clear hS
  go_enter Tryz.func19, Tryz.ntmps19
  go_wp2_with fail
  go_loopg [10] len (fun gg i wr => ∃ (k : Nat) (u : OutS), k + gg = len ∧ i = .int .i64 k ∧ Hid (u = numL t (l.take k)) ∧ Hid (WIs wr (fun k => k = B) B u) ∧ Hid (Chg (fun k => k = B) w wr))
  case atStart => exact ⟨0, t, by omega, rfl, Lib.hid rfl, HW, Lib.hid (Chg.refl _ _)⟩
  case round =>
    obtain ⟨k, u, hk, rfl, HU, HA, HB⟩ := hrel
    by_cases hlt : k < len
    · obtain ⟨b, off, rfl, g⟩ := (HR.out.chg HB.out (HS.out (by omega))).2 (by omega)
      have l0 := g k hlt
      clear g
      have hkl : k < l.length := by rw [← HZ.out]; exact hlt
      have hxm := HWF.out (l.getD k 0) (by rw [List.getD_eq_getElem?_getD, List.getElem?_eq_getElem hkl]; exact List.getElem_mem hkl)
      have HN := Lib.hid (show layS u pNum (bs (putZ (l.getD k 0))) (putE (l.getD k 0)) = numL t (l.take (k + 1)) by rw [numL_take t l k hkl, HU.out])
      generalize l.getD k 0 = x at *
      have G := Lib.hid (fun w => put_any x w hxm)
      have HG2 := Lib.hid (HB.out.laid HG.out (fun q => hB0 q.symm))
      have M := Lib.hid (fun (S : Nat → Prop) (w : World) (h : WIs w S B u) (g : Laid w) => lays_any u pNum (bs (putZ x)) (putE x) S B w h g (fun q => by rw [bs_size]; exact putZ_some x (by unfold putE at q; split at q <;> omega)))
      have i1 : (0 : Int) ≤ (k : Int) := by omega
      have i2 : (k : Int) < (len : Int) := by omega
      clear hxm
      go_wp2_with (first
        | (go_at_call 47; refine (G.out _).mono ?_; rintro y w2 ⟨rfl, hb⟩; have HA2 := Lib.hid (w_later HA.out hb); have HL2 := Lib.hid (HG2.out.below hb HG2.out.pos); have HB2 := Lib.hid (HB.out.then hb); clear hb)
        | (go_at_call 48; refine (M.out _ _ HA2.out HL2.out).mono ?_; rintro y w3 ⟨rfl, S3, hd1, hd2, hd3⟩; obtain rfl := hd1.1; have HA3 := Lib.hid hd1; have HB3 := Lib.hid (HB2.out.trans hd3); clear hd1 hd2 hd3))
      go_roundg (gk - 1)
      case measure => omega
      case rel => exact ⟨k + 1, layS u pNum (bs (putZ x)) (putE x), by omega, by go_num, HN, HA3, HB3⟩
    · obtain rfl : k = len := by omega
      have ht : l.take k = l := List.take_of_length_le (by rw [HZ.out]; exact Nat.le_refl _)
      have HN := Lib.hid (show u = numL t l by rw [← ht]; exact HU.out)
      clear hlt ht
      go_wp2
      go_end0
      exact ⟨rfl, _, HN.out ▸ HA.out, Ext.refl _ _, HB.out⟩
end Go.Proofs.YtegbldkkggpjcaaGreatDoor
