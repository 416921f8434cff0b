/- The landed reader: what stands for one; its half of Impl. -/
import Derived.Test.YtegbldkkggpjcaaGreatDoorTxtOwnW
namespace Go.Proofs.YtegbldkkggpjcaaGreatDoor
open Go.RowKit Go.Sort

attribute [local go_sem ↓] Go.wp_at_zero Go.wp_at_succ

/-- A reader, its one block. -/
def RAt (w : World) (B : Nat) (u : InS) : Prop :=
  w.heap[B]? = some (.cells #[.bool true, .string u.s, .int .i64 u.pos, .string u.p, .int .i64 u.e] 60 (0, 0)) ∧ 0 ≤ u.pos ∧ u.pos ≤ (u.s.size : Int)
def RIs (w : World) (S : Nat → Prop) (B : Nat) (u : InS) : Prop := (S = fun k => k = B) ∧ RAt w B u
theorem RAt.c0 {w B u} (h : RAt w B u) : w.cell? ⟨B, 0, none⟩ = some (.bool true) := by simp [World.cell?, h.1]
theorem RAt.c1 {w B u} (h : RAt w B u) : w.cell? ⟨B, 1, none⟩ = some (.string u.s) := by simp [World.cell?, h.1]
theorem RAt.c2 {w B u} (h : RAt w B u) : w.cell? ⟨B, 2, none⟩ = some (.int .i64 u.pos) := by simp [World.cell?, h.1]
theorem RAt.c3 {w B u} (h : RAt w B u) : w.cell? ⟨B, 3, none⟩ = some (.string u.p) := by simp [World.cell?, h.1]
theorem RAt.c4 {w B u} (h : RAt w B u) : w.cell? ⟨B, 4, none⟩ = some (.int .i64 u.e) := by simp [World.cell?, h.1]
theorem RAt.f2 {w B u} (h : RAt w B u) : w.frozen? ⟨B, 2, none⟩ = false := by simp [World.frozen?, h.1]
theorem RAt.f3 {w B u} (h : RAt w B u) : w.frozen? ⟨B, 3, none⟩ = false := by simp [World.frozen?, h.1]
theorem RAt.f4 {w B u} (h : RAt w B u) : w.frozen? ⟨B, 4, none⟩ = false := by simp [World.frozen?, h.1]
theorem RAt.later {w w' : World} {B u} (h : RAt w B u) (k : RowKit.Below w.heap.size w w') : RAt w' B u :=
  ⟨(k.block B (lt_of_block h.1)).trans h.1, h.2⟩
theorem r_old {w S B t} (h : RIs w S B t) : S B ∧ ∀ k, S k → k < w.heap.size := by
  obtain ⟨rfl, hc⟩ := h
  exact ⟨rfl, fun k hk => hk ▸ lt_of_block hc.1⟩
theorem r_later {w w' S B t} (h : RIs w S B t) (k : RowKit.Below w.heap.size w w') : RIs w' S B t := ⟨h.1, h.2.later k⟩
theorem w_keep {w w' S B t S' B' u} (h : WIs w S B t) (r : RIs w S' B' u) (_ : ∀ k, S k → ¬ S' k) (k : Chg S' w w') : WIs w' S B t := by
  obtain ⟨rfl, p, l, ha⟩ := h
  obtain ⟨rfl, hb⟩ := r
  exact ⟨rfl, p, l, ha.moves (k.block B (lt_of_block ha.1) (other_obj ha.1 hb.1 (by decide))) fun b x f q => k.block b (lt_of_block q) (other_obj q hb.1 (by decide))⟩
theorem r_keep {w w' S B t S' B' u} (h : RIs w S B t) (r : WIs w S' B' u) (_ : ∀ k, S k → ¬ S' k) (k : Chg S' w w') : RIs w' S B t := by
  obtain ⟨rfl, ha⟩ := h
  obtain ⟨rfl, p, l, hb⟩ := r
  exact ⟨rfl, (k.block B (lt_of_block ha.1) (other_obj ha.1 hb.1 (by decide))).trans ha.1, ha.2⟩
theorem r_cells {w S B t} (C : Nat) (o : Obj) (h : RIs w S B t) (ho : w.heap[C]? = some o) (_ : ¬ S C) (hx : ∃ x f, o = .cells x 28 f) (w' : World) (k : ∀ k, k ≠ C → w'.heap[k]? = w.heap[k]?) (_ : w'.heap.size = w.heap.size) : RIs w' S B t := by
  obtain ⟨rfl, ha⟩ := h
  obtain ⟨x, f, rfl⟩ := hx
  exact ⟨rfl, (k B (other_obj ha.1 ho (by decide))).trans ha.1, ha.2⟩
theorem r_new (s : ByteArray) (w : World) : Calls Tryz.prog 7 #[.string s] w fun e w' => ∃ B S, e = .returned (.pointer (some ⟨B, 0, none⟩)) ∧ RIs w' S B ⟨s, 0, ⟨#[]⟩, 0⟩ ∧ (∀ k, S k → w.heap.size ≤ k) ∧ RowKit.Below w.heap.size w w' := by
  go_enter Tryz.func7, Tryz.ntmps7
  go_wp2
  go_ret
  exact ⟨w.heap.size, fun k => k = w.heap.size, rfl, ⟨rfl, heap_push_new w _, Int.le_refl _, Int.natCast_nonneg _⟩, fun k h => h ▸ Nat.le_refl _, (Below.refl _ _).alloc (Nat.le_refl _) _⟩
theorem r_at {w S B u} (h : RIs w S B u) : Calls Tryz.prog 18 #[.pointer (some ⟨B, 0, none⟩)] w fun e w' => e = .returned (.int .i64 u.pos) ∧ RowKit.Below w.heap.size w w' := by
  have c2 := h.2.c2
  clear h
  go_enter Tryz.func18, Tryz.ntmps18
  go_wp2
  go_ret
  exact ⟨rfl, Below.refl _ _⟩
theorem r_done {w S B u} (h : RIs w S B u) : Calls Tryz.prog 17 #[.pointer (some ⟨B, 0, none⟩)] w fun e w' => ∃ v, e = .returned v ∧ ErrIs w' v [bRead, u.p] u.e ∧ RowKit.Below w.heap.size w w' := by
  have c0 := h.2.c0
  have c3 := h.2.c3
  have c4 := h.2.c4
  have F := Lib.hid (wrapped_any bRead u.p u.e w)
  clear h
  go_enter Tryz.func17, Tryz.ntmps17
  go_wp2_with (go_at_call 46; refine (F.out).mono ?_; rintro _ w1 ⟨v, rfl, h1, b1⟩)
  go_ret
  exact ⟨v, rfl, h1, b1⟩
theorem r_none (w : World) : Calls Tryz.prog 17 #[.pointer none] w fun e w' => ∃ v, e = .returned v ∧ ErrIs w' v [bRead] 1 ∧ RowKit.Below w.heap.size w w' := by
  have N := Lib.hid (newE bRead 1 w)
  go_enter Tryz.func17, Tryz.ntmps17
  go_wp2_with (go_at_call 45; refine (N.out).mono ?_; rintro _ w1 ⟨v, rfl, h1, b1⟩)
  go_ret
  exact ⟨v, rfl, h1, b1⟩

/-! ### the inner readers -/
/-- What a region that draws its order holds on to. -/
def RHold (w0 : World) (B : Nat) (u : InS) (w : World) : Prop := w.cell? ⟨B, 1, none⟩ = some (.string u.s) ∧ w.cell? ⟨B, 2, none⟩ = some (.int .i64 u.pos) ∧ Hid (RAt w B u ∧ RowKit.Below w0.heap.size w0 w)
theorem r_held {w0 w B u} (h : RAt w B u) (k : RowKit.Below w0.heap.size w0 w) : w.cell? ⟨B, 1, none⟩ = some (.string u.s) ∧ w.cell? ⟨B, 2, none⟩ = some (.int .i64 u.pos) ∧ Hid (RAt w B u ∧ RowKit.Below w0.heap.size w0 w) := ⟨h.c1, h.c2, Lib.hid ⟨h, k⟩⟩
theorem r_drew {w B u} (h : RAt w B u) : RAt w.drew B u := h
set_option maxHeartbeats 1600000 in
theorem num_any {w B u} (h : RAt w B u) (most : Int) (hs : u.s.size ≤ 100000) : Calls Tryz.prog 36 #[.pointer (some ⟨B, 0, none⟩), .int .i64 most] w fun e w' => e = .returned (.tuple #[.int .i64 (getZ u.s u.pos).1, .int .i64 (getZ u.s u.pos).2.1, .int .i64 (numE u most)]) ∧ RowKit.Below w.heap.size w w' := by
  have c1 := h.c1
  have c2 := h.c2
  have H := Lib.hid h
  have G := Lib.hid (fun w => get_any u.s u.pos hs w)
  have E3 : numE u most = if (getZ u.s u.pos).2.2 = 0 ∧ most < (getZ u.s u.pos).1 then 3 else (getZ u.s u.pos).2.2 := rfl
  clear h
  generalize numE u most = e3 at *
  generalize getZ u.s u.pos = g at *
  obtain ⟨n, z, e⟩ := g
  simp only at G E3 ⊢
  by_cases q : e = 0
  · by_cases q2 : most < n
    · rw [if_pos ⟨q, q2⟩] at E3
      subst q E3
      have d5 : decide (n > most) = true := decide_eq_true q2
      clear q2
      go_enter Tryz.func36, Tryz.ntmps36
      go_wp2
      go_region_held3 (fun w' => w'.cell? ⟨B, 1, none⟩ = some (.string u.s) ∧ w'.cell? ⟨B, 2, none⟩ = some (.int .i64 u.pos) ∧ Hid (RAt w' B u ∧ RowKit.Below w.heap.size w w'))
        (first
          | exact r_held (r_drew H.out) (Below.refl _ _).drew
          | (go_split_ands; exact r_held ((Hid.out (p := RAt _ B u ∧ RowKit.Below w.heap.size w _) (by assumption)).1.later hb.below) ((Hid.out (p := RAt _ B u ∧ RowKit.Below w.heap.size w _) (by assumption)).2.trans (hb.below.mono (Hid.out (p := RAt _ B u ∧ RowKit.Below w.heap.size w _) (by assumption)).2.size))))
        (first
          | (go_at_call 64; go_split_ands; refine (G.out _).mono ?_; rintro y w2 ⟨rfl, hb⟩))
      all_goals
        rename_i hh
        obtain ⟨_, _, HX⟩ := hh
        go_wp2
        go_ret3
        exact ⟨rfl, HX.out.2⟩
    · rw [if_neg (fun h => q2 h.2)] at E3
      subst q E3
      have d5 : decide (n > most) = false := decide_eq_false q2
      clear q2
      go_enter Tryz.func36, Tryz.ntmps36
      go_wp2
      go_region_held3 (fun w' => w'.cell? ⟨B, 1, none⟩ = some (.string u.s) ∧ w'.cell? ⟨B, 2, none⟩ = some (.int .i64 u.pos) ∧ Hid (RAt w' B u ∧ RowKit.Below w.heap.size w w'))
        (first
          | exact r_held (r_drew H.out) (Below.refl _ _).drew
          | (go_split_ands; exact r_held ((Hid.out (p := RAt _ B u ∧ RowKit.Below w.heap.size w _) (by assumption)).1.later hb.below) ((Hid.out (p := RAt _ B u ∧ RowKit.Below w.heap.size w _) (by assumption)).2.trans (hb.below.mono (Hid.out (p := RAt _ B u ∧ RowKit.Below w.heap.size w _) (by assumption)).2.size))))
        (first
          | (go_at_call 64; go_split_ands; refine (G.out _).mono ?_; rintro y w2 ⟨rfl, hb⟩))
      all_goals
        rename_i hh
        obtain ⟨_, _, HX⟩ := hh
        go_wp2
        go_ret3
        exact ⟨rfl, HX.out.2⟩
  · rw [if_neg (fun h => q h.1)] at E3
    subst E3
    have d6 : (e3 == 0) = false := by simpa using q
    clear q
    go_enter Tryz.func36, Tryz.ntmps36
    go_wp2
    go_region_held3 (fun w' => w'.cell? ⟨B, 1, none⟩ = some (.string u.s) ∧ w'.cell? ⟨B, 2, none⟩ = some (.int .i64 u.pos) ∧ Hid (RAt w' B u ∧ RowKit.Below w.heap.size w w'))
      (first
        | exact r_held (r_drew H.out) (Below.refl _ _).drew
        | (go_split_ands; exact r_held ((Hid.out (p := RAt _ B u ∧ RowKit.Below w.heap.size w _) (by assumption)).1.later hb.below) ((Hid.out (p := RAt _ B u ∧ RowKit.Below w.heap.size w _) (by assumption)).2.trans (hb.below.mono (Hid.out (p := RAt _ B u ∧ RowKit.Below w.heap.size w _) (by assumption)).2.size))))
      (first
        | (go_at_call 64; go_split_ands; refine (G.out _).mono ?_; rintro y w2 ⟨rfl, hb⟩))
    all_goals
      rename_i hh
      obtain ⟨_, _, HX⟩ := hh
      go_wp2
      go_ret3
      exact ⟨rfl, HX.out.2⟩
end Go.Proofs.YtegbldkkggpjcaaGreatDoor
