/- The contracts of the document's readers and writers, as plain data. -/
import Derived.Test.YtegbldkkggpjcaaGreatDoorNumUnrow
import Derived.Handy
namespace Go.Proofs.YtegbldkkggpjcaaGreatDoor
open Go.RowKit Go.Sort

attribute [local go_sem ↓] Go.wp_at_zero Go.wp_at_succ

/-- The names of pieces. -/
def pNum : ByteArray := ⟨#[110, 117, 109]⟩
def pText : ByteArray := ⟨#[116, 101, 120, 116]⟩
def pRow : ByteArray := ⟨#[114, 111, 119]⟩
def pFlag : ByteArray := ⟨#[102, 108, 97, 103]⟩
def pEnd : ByteArray := ⟨#[101, 110, 100]⟩

/-! ### Readers -/
structure InS where
  s : ByteArray
  pos : Int
  p : ByteArray
  e : Int
def inA (r : InS) : Array Value := #[.string r.s, .int .i64 r.pos, .string r.p, .int .i64 r.e]
def movedS (r : InS) (p : ByteArray) (u e : Int) : InS := if e = 0 then ⟨r.s, u, r.p, r.e⟩ else ⟨r.s, r.pos, p, e⟩
theorem ret_in {r t : InS} (h : r = t) : Ending.returned (.agg (inA r)) = .returned (.agg (inA t)) := by rw [h]

theorem moved_any (r : InS) (p : ByteArray) (u e : Int) (w : World) : Calls Tryz.prog 57 #[.agg #[.string r.s, .int .i64 r.pos, .string r.p, .int .i64 r.e], .string p, .int .i64 u, .int .i64 e] w fun x w' => x = .returned (.agg #[.string (movedS r p u e).s, .int .i64 (movedS r p u e).pos, .string (movedS r p u e).p, .int .i64 (movedS r p u e).e]) ∧ Grew w w' := by
  by_cases q : e = 0
  · have d : (e == 0) = true := by simpa using q
    have HE := Lib.hid (show movedS r p u e = ⟨r.s, u, r.p, r.e⟩ from if_pos q)
    rw [HE.out]
    clear q HE
    go_enter Tryz.func57, Tryz.ntmps57
    go_wp2
    go_returns
    exact ⟨rfl, ((Grew.refl w).alloc _).alloc _⟩
  · have d : (e == 0) = false := by simpa using q
    have HE := Lib.hid (show movedS r p u e = ⟨r.s, r.pos, p, e⟩ from if_neg q)
    rw [HE.out]
    clear q HE
    go_enter Tryz.func57, Tryz.ntmps57
    go_wp2
    go_returns
    exact ⟨rfl, ((Grew.refl w).alloc _).alloc _⟩

def inV (r : InS) : Value := .agg #[.string r.s, .int .i64 r.pos, .string r.p, .int .i64 r.e]
theorem two_in {r t : InS} {a b : Value} (h : r = t) (k : a = b) : Ending.returned (Value.tuple #[.agg #[.string r.s, .int .i64 r.pos, .string r.p, .int .i64 r.e], a]) = .returned (.tuple #[inV t, b]) := by rw [h, k]; rfl
def numE (r : InS) (most : Int) : Int := if (getZ r.s r.pos).2.2 = 0 ∧ most < (getZ r.s r.pos).1 then 3 else (getZ r.s r.pos).2.2
def numS (r : InS) (most : Int) : InS := if r.e = 0 then movedS r pNum (getZ r.s r.pos).2.1 (numE r most) else r
def numN (r : InS) (most : Int) : Int := if r.e = 0 then (if numE r most = 0 then (getZ r.s r.pos).1 else 0) else 0
/-- A block of four cells that was laid, and what came behind. -/
structure Four (w1 : World) (B : Nat) (a b c d : Value) : Prop where
  c0 : w1.cell? ⟨B, 0, none⟩ = some a
  c1 : w1.cell? ⟨B, 1, none⟩ = some b
  c2 : w1.cell? ⟨B, 2, none⟩ = some c
  c3 : w1.cell? ⟨B, 3, none⟩ = some d
  f0 : w1.frozen? ⟨B, 0, none⟩ = false
  f1 : w1.frozen? ⟨B, 1, none⟩ = false
  f2 : w1.frozen? ⟨B, 2, none⟩ = false
  f3 : w1.frozen? ⟨B, 3, none⟩ = false
theorem four_of {w : World} {B : Nat} {a b c d : Value} {t : TypeId} (k : w.heap[B]? = some (.cells #[a, b, c, d] t (0, 0))) : Four w B a b c d := by
  constructor <;> simp [World.cell?, World.frozen?, k]
theorem heap_new (w : World) (o : Obj) : (w.alloc o).heap[w.heap.size]? = some o := by simp [World.alloc, -World.alloc_eq]
theorem four_two {w w1 : World} {o : Obj} {a b c d : Value} {t : TypeId} (h : Grew ((w.alloc o).alloc (.cells #[a, b, c, d] t)) w1) : Four w1 (w.heap.size + 1) a b c d := by
  refine four_of (t := t) ((h.below.block (w.heap.size + 1) (by simp)).trans ?_)
  have := heap_new (w.alloc o) (.cells #[a, b, c, d] t)
  simpa using this
theorem four_one {w w1 : World} {o : Obj} {a b c d : Value} {t : TypeId} (h : Grew ((w.alloc (.cells #[a, b, c, d] t)).alloc o) w1) : Four w1 w.heap.size a b c d :=
  four_of (t := t) ((h.below.block w.heap.size (by simp; omega)).trans ((Below.heap_alloc _ _ _ (by simp)).trans (heap_new w _)))
def put4W (w : World) (B : Nat) (a b c d : Value) : World := (((w.setCell ⟨B, 0, none⟩ a).setCell ⟨B, 1, none⟩ b).setCell ⟨B, 2, none⟩ c).setCell ⟨B, 3, none⟩ d
theorem addr_ne {B i j : Nat} (q : i ≠ j) : (⟨B, i, none⟩ : Addr) ≠ ⟨B, j, none⟩ := fun e => q (by injection e)
theorem Four.set0 {w : World} {B : Nat} {a b c d : Value} (h : Four w B a b c d) (x : Value) : Four (w.setCell ⟨B, 0, none⟩ x) B x b c d :=
  ⟨World.cell?_setCell_same _ _ _ h.c0, (World.cell?_setCell_other _ _ _ _ (addr_ne (by decide))).trans h.c1, (World.cell?_setCell_other _ _ _ _ (addr_ne (by decide))).trans h.c2, (World.cell?_setCell_other _ _ _ _ (addr_ne (by decide))).trans h.c3, by rw [World.frozen?_setCell]; exact h.f0, by rw [World.frozen?_setCell]; exact h.f1, by rw [World.frozen?_setCell]; exact h.f2, by rw [World.frozen?_setCell]; exact h.f3⟩
theorem Four.set1 {w : World} {B : Nat} {a b c d : Value} (h : Four w B a b c d) (x : Value) : Four (w.setCell ⟨B, 1, none⟩ x) B a x c d :=
  ⟨(World.cell?_setCell_other _ _ _ _ (addr_ne (by decide))).trans h.c0, World.cell?_setCell_same _ _ _ h.c1, (World.cell?_setCell_other _ _ _ _ (addr_ne (by decide))).trans h.c2, (World.cell?_setCell_other _ _ _ _ (addr_ne (by decide))).trans h.c3, by rw [World.frozen?_setCell]; exact h.f0, by rw [World.frozen?_setCell]; exact h.f1, by rw [World.frozen?_setCell]; exact h.f2, by rw [World.frozen?_setCell]; exact h.f3⟩
theorem Four.set2 {w : World} {B : Nat} {a b c d : Value} (h : Four w B a b c d) (x : Value) : Four (w.setCell ⟨B, 2, none⟩ x) B a b x d :=
  ⟨(World.cell?_setCell_other _ _ _ _ (addr_ne (by decide))).trans h.c0, (World.cell?_setCell_other _ _ _ _ (addr_ne (by decide))).trans h.c1, World.cell?_setCell_same _ _ _ h.c2, (World.cell?_setCell_other _ _ _ _ (addr_ne (by decide))).trans h.c3, by rw [World.frozen?_setCell]; exact h.f0, by rw [World.frozen?_setCell]; exact h.f1, by rw [World.frozen?_setCell]; exact h.f2, by rw [World.frozen?_setCell]; exact h.f3⟩
theorem Four.set3 {w : World} {B : Nat} {a b c d : Value} (h : Four w B a b c d) (x : Value) : Four (w.setCell ⟨B, 3, none⟩ x) B a b c x :=
  ⟨(World.cell?_setCell_other _ _ _ _ (addr_ne (by decide))).trans h.c0, (World.cell?_setCell_other _ _ _ _ (addr_ne (by decide))).trans h.c1, (World.cell?_setCell_other _ _ _ _ (addr_ne (by decide))).trans h.c2, World.cell?_setCell_same _ _ _ h.c3, by rw [World.frozen?_setCell]; exact h.f0, by rw [World.frozen?_setCell]; exact h.f1, by rw [World.frozen?_setCell]; exact h.f2, by rw [World.frozen?_setCell]; exact h.f3⟩
theorem put4 {w : World} {B : Nat} {a' b' c' d' : Value} (h : Four w B a' b' c' d') (a b c d : Value) : Four (put4W w B a b c d) B a b c d := (((h.set0 a).set1 b).set2 c).set3 d
theorem put4_below {w w0 : World} {base B : Nat} (hb : RowKit.Below base w0 w) (hB : base ≤ B) (a b c d : Value) : RowKit.Below base w0 (put4W w B a b c d) :=
  (((hb.setCell (p := ⟨B, 0, none⟩) hB a).setCell (p := ⟨B, 1, none⟩) hB b).setCell (p := ⟨B, 2, none⟩) hB c).setCell (p := ⟨B, 3, none⟩) hB d
theorem res_in {fn : Func} {c t : Tmp} {tmps : Array Value} {B : Nat} {W : World} {a b cc d : Value} (h : fn.results = #[.cell c 28, .tmp t]) (hc : tmps[c]?.getD undef = .pointer (some ⟨B, 0, none⟩)) (k : Four W B a b cc d) : (results fn tmps).run Tryz.prog W = .ok (.tuple #[.agg #[a, b, cc, d], tmps[t]?.getD undef]) W := by
  obtain ⟨k0, k1, k2, k3, _⟩ := k
  simp [results, h, hc, go_sem, k0, k1, k2, k3]
theorem res_in1 {fn : Func} {c : Tmp} {tmps : Array Value} {B : Nat} {W : World} {a b cc d : Value} (h : fn.results = #[.cell c 28]) (hc : tmps[c]?.getD undef = .pointer (some ⟨B, 0, none⟩)) (k : Four W B a b cc d) : (results fn tmps).run Tryz.prog W = .ok (.agg #[a, b, cc, d]) W := by
  obtain ⟨k0, k1, k2, k3, _⟩ := k
  simp [results, h, hc, go_sem, k0, k1, k2, k3]
set_option maxHeartbeats 1600000 in
theorem rnum_any (r : InS) (most : Int) (hs : r.s.size ≤ 100000) (w : World) : Calls Tryz.prog 24 #[.agg #[.string r.s, .int .i64 r.pos, .string r.p, .int .i64 r.e], .int .i64 most] w fun x w' => x = .returned (.tuple #[inV (numS r most), .int .i64 (numN r most)]) ∧ RowKit.Below w.heap.size w w' := by
  by_cases q : r.e = 0
  · have d : (r.e != 0) = false := by simpa using q
    have G := Lib.hid (fun w => rget_any r.s r.pos hs w)
    have E1 := Lib.hid (show numS r most = movedS r pNum (getZ r.s r.pos).2.1 (numE r most) from if_pos q)
    have E2 := Lib.hid (show numN r most = if numE r most = 0 then (getZ r.s r.pos).1 else 0 from if_pos q)
    have E3 := Lib.hid (show numE r most = if (getZ r.s r.pos).2.2 = 0 ∧ most < (getZ r.s r.pos).1 then 3 else (getZ r.s r.pos).2.2 from rfl)
    generalize numE r most = e3 at *
    generalize getZ r.s r.pos = g at *
    obtain ⟨n, u, e⟩ := g
    simp only at G E1 E2 E3
    clear q
    go_enter Tryz.func24, Tryz.ntmps24
    have M := Lib.hid (fun f w => moved_any r pNum u f w)
    go_wp2_with (first
      | (go_at_call 56; refine (G.out _).mono ?_; rintro x _ ⟨rfl, rfl⟩)
      | (go_at_call 57; refine (M.out _ _).mono ?_; rintro x w2 ⟨rfl, hg⟩; have hf := four_two hg; have y0 := hf.c0; have y1 := hf.c1; have y2 := hf.c2; have y3 := hf.c3; have z0 := hf.f0; have z1 := hf.f1; have z2 := hf.f2; have z3 := hf.f3; have HF := Lib.hid hf; have HG := Lib.hid (((Grew.refl w).alloc _ |>.alloc _).trans hg); clear hf hg))
    all_goals
      have hb := put4_below (base := w.heap.size) (B := w.heap.size + 1) HG.out.below (by omega)
      clear y0 y1 y2 y3 z0 z1 z2 z3
      refine bodyPost_ret (res_in rfl rfl (put4 HF.out _ _ _ _)) rfl ⟨two_in ?_ ?_, hb _ _ _ _⟩
    · rw [E1.out]
      congr 1
      have h3 := E3.out
      split at h3 <;> omega
    · rw [E2.out]
      refine congrArg (Value.int .i64) ?_
      have h3 := E3.out
      split at h3 <;> split <;> omega
    · rw [E1.out]
      congr 1
      have h3 := E3.out
      split at h3 <;> omega
    · rw [E2.out]
      refine congrArg (Value.int .i64) ?_
      have h3 := E3.out
      split at h3 <;> split <;> omega
    · rw [E1.out]
      congr 1
      have h3 := E3.out
      split at h3 <;> omega
    · rw [E2.out]
      refine congrArg (Value.int .i64) ?_
      have h3 := E3.out
      split at h3 <;> split <;> omega
  · have d : (r.e != 0) = true := by simpa using q
    have E1 := Lib.hid (show numS r most = r from if_neg q)
    have E2 := Lib.hid (show numN r most = 0 from if_neg q)
    clear q
    go_enter Tryz.func24, Tryz.ntmps24
    go_wp2
    go_returns
    exact ⟨two_in E1.out.symm (by rw [E2.out]), (((Grew.refl w).alloc _).alloc _).below⟩

/-! ### Row, End -/
theorem four_two_b {w w1 : World} {o : Obj} {a b c d : Value} {t : TypeId} (h : RowKit.Below ((w.alloc o).alloc (.cells #[a, b, c, d] t)).heap.size ((w.alloc o).alloc (.cells #[a, b, c, d] t)) w1) : Four w1 (w.heap.size + 1) a b c d := by
  refine four_of (t := t) ((h.block (w.heap.size + 1) (by simp)).trans ?_)
  have := heap_new (w.alloc o) (.cells #[a, b, c, d] t)
  simpa using this
theorem four_one_b {w w1 : World} {o : Obj} {a b c d : Value} {t : TypeId} (h : RowKit.Below ((w.alloc (.cells #[a, b, c, d] t)).alloc o).heap.size ((w.alloc (.cells #[a, b, c, d] t)).alloc o) w1) : Four w1 w.heap.size a b c d :=
  four_of (t := t) ((h.block w.heap.size (by simp; omega)).trans ((Below.heap_alloc _ _ _ (by simp)).trans (heap_new w _)))
theorem Four.grew {w w1 : World} {B : Nat} {a b c d : Value} (k : Four w B a b c d) (h : Grew w w1) : Four w1 B a b c d := by
  have e := h.below.block B (World.block_lt_of_cell? _ _ k.c0)
  exact ⟨(World.cell?_of_block e).trans k.c0, (World.cell?_of_block e).trans k.c1, (World.cell?_of_block e).trans k.c2, (World.cell?_of_block e).trans k.c3, (World.frozen?_of_block e).trans k.f0, (World.frozen?_of_block e).trans k.f1, (World.frozen?_of_block e).trans k.f2, (World.frozen?_of_block e).trans k.f3⟩
theorem put4_heap (w : World) (B : Nat) (a b c d : Value) (j : Nat) (h : j ≠ B) : (put4W w B a b c d).heap[j]? = w.heap[j]? := by
  unfold put4W
  rw [Below.heap_setCell _ _ _ j h, Below.heap_setCell _ _ _ j h, Below.heap_setCell _ _ _ j h, Below.heap_setCell _ _ _ j h]
theorem put4_grown (w : World) (B : Nat) (a b c d : Value) : w.grownBy (put4W w B a b c d) (some B) :=
  ⟨rfl, rfl, rfl, by unfold put4W; simp, fun k _ hk => put4_heap w B a b c d k (fun e => hk (by rw [e]))⟩
theorem OwnI.put4 {w : World} {base B : Nat} {v : Value} {l : List Int} (h : OwnI w base v l) (hB : B < base) (a b c d : Value) : OwnI (put4W w B a b c d) base v l :=
  World.ownsRow.kept h (put4_grown w B a b c d) (by
    cases e : v.ownBlock with
    | none => exact .inl rfl
    | some k =>
      refine .inr fun e2 => ?_
      have h2 := (World.ownsRow.lt h k e).1
      simp only [Option.some.injEq] at e2
      omega)
theorem res_row {fn : Func} {c t : Tmp} {tmps : Array Value} {B : Nat} {W : World} {a b cc d : Value} (h : fn.results = #[.cell c 28, .tmp t]) (hc : tmps[c]?.getD undef = .pointer (some ⟨B, 0, none⟩)) (k : Four W B a b cc d) : (results fn tmps).run Tryz.prog W = .ok (.tuple #[.agg #[a, b, cc, d], tmps[t]?.getD undef]) W := res_in h hc k
def rowS (r : InS) (most : Int) : InS := if r.e = 0 then movedS r pRow (unrowZ r.s r.pos most).2.1 (unrowZ r.s r.pos most).2.2 else r
def rowI (r : InS) (most : Int) : List Int := if r.e = 0 then (unrowZ r.s r.pos most).1 else []
set_option maxHeartbeats 1600000 in
theorem rtrow_any (r : InS) (most : Int) (hs : r.s.size ≤ 100000) (w : World) : Calls Tryz.prog 26 #[.agg #[.string r.s, .int .i64 r.pos, .string r.p, .int .i64 r.e], .int .i64 most] w fun x w' => ∃ v, x = .returned (.tuple #[inV (rowS r most), v]) ∧ OwnI w' w.heap.size v (rowI r most) ∧ RowKit.Below w.heap.size w w' := by
  by_cases q : r.e = 0
  · have d : (r.e != 0) = false := by simpa using q
    have G := Lib.hid (fun w => runrow_any r.s r.pos most hs w)
    have E1 := Lib.hid (show rowS r most = movedS r pRow (unrowZ r.s r.pos most).2.1 (unrowZ r.s r.pos most).2.2 from if_pos q)
    have E2 := Lib.hid (show rowI r most = (unrowZ r.s r.pos most).1 from if_pos q)
    generalize unrowZ r.s r.pos most = g at *
    obtain ⟨l, u, e⟩ := g
    simp only at G E1 E2
    clear q
    go_enter Tryz.func26, Tryz.ntmps26
    have M := Lib.hid (fun w => moved_any r pRow u e w)
    go_wp2_with (first
      | (go_at_call 58; refine (G.out _).mono ?_; rintro x w3 ⟨v, rfl, hv, hb⟩; have h1 := four_one_b hb; have a0 := h1.c0; have a1 := h1.c1; have a2 := h1.c2; have a3 := h1.c3; have HF := Lib.hid (four_two_b hb); have HV := Lib.hid hv; have HB := Lib.hid ((((Grew.refl w).alloc _).alloc _).below.trans (hb.mono (by simp; omega))); obtain ⟨sv, cv, rfl, _⟩ := hv.reads; clear h1 hv hb)
      | (go_at_call 57; refine (M.out _).mono ?_; rintro x w2 ⟨rfl, hg⟩; have hf := HF.out.grew hg; have y0 := hf.c0; have y1 := hf.c1; have y2 := hf.c2; have y3 := hf.c3; have z0 := hf.f0; have z1 := hf.f1; have z2 := hf.f2; have z3 := hf.f3; have HF2 := Lib.hid hf; have HV2 := Lib.hid (HV.out.later hg.below); have HB2 := Lib.hid (HB.out.trans (hg.below.mono HB.out.size)); clear hf hg))
    clear y0 y1 y2 y3 z0 z1 z2 z3
    refine bodyPost_ret (res_in rfl rfl (put4 HF2.out _ _ _ _)) rfl ⟨_, two_in E1.out.symm rfl, ?_, put4_below HB2.out (by omega) _ _ _ _⟩
    rw [E2.out]
    exact (OwnI.put4 HV2.out (by simp) _ _ _ _).lower (by simp; omega)
  · have d : (r.e != 0) = true := by simpa using q
    have E1 := Lib.hid (show rowS r most = r from if_neg q)
    have E2 := Lib.hid (show rowI r most = [] from if_neg q)
    clear q
    go_enter Tryz.func26, Tryz.ntmps26
    go_wp2
    go_returns
    refine ⟨_, two_in E1.out.symm rfl, ?_, (((Grew.refl w).alloc _).alloc _).below⟩
    rw [E2.out]
    exact ownI_nil _ _

def endS (r : InS) : InS := if r.e = 0 ∧ r.pos < (r.s.size : Int) then movedS r pEnd 0 6 else r
theorem rend_any (r : InS) (w : World) : Calls Tryz.prog 28 #[.agg #[.string r.s, .int .i64 r.pos, .string r.p, .int .i64 r.e]] w fun x w' => x = .returned (inV (endS r)) ∧ RowKit.Below w.heap.size w w' := by
  have M := Lib.hid (fun w => moved_any r pEnd 0 6 w)
  by_cases q : r.e = 0
  · have d : (r.e == 0) = true := by simpa using q
    by_cases q2 : r.pos < (r.s.size : Int)
    · have d2 : decide (r.pos < (r.s.size : Int)) = true := decide_eq_true q2
      have E := Lib.hid (show endS r = movedS r pEnd 0 6 from if_pos ⟨q, q2⟩)
      clear q q2
      go_enter Tryz.func28, Tryz.ntmps28
      go_wp2_with (go_at_call 57; refine (M.out _).mono ?_; rintro x w2 ⟨rfl, hg⟩; have hf := four_two hg; have y0 := hf.c0; have y1 := hf.c1; have y2 := hf.c2; have y3 := hf.c3; have z0 := hf.f0; have z1 := hf.f1; have z2 := hf.f2; have z3 := hf.f3; have HF := Lib.hid hf; have HG := Lib.hid (((Grew.refl w).alloc _ |>.alloc _).trans hg); clear hf hg)
      clear y0 y1 y2 y3 z0 z1 z2 z3
      refine bodyPost_ret (res_in1 rfl rfl (put4 HF.out _ _ _ _)) rfl ⟨?_, put4_below HG.out.below (by omega) _ _ _ _⟩
      rw [E.out]; rfl
    · have d2 : decide (r.pos < (r.s.size : Int)) = false := decide_eq_false q2
      have E := Lib.hid (show endS r = r from if_neg (fun h => q2 h.2))
      clear q q2
      go_enter Tryz.func28, Tryz.ntmps28
      go_wp2
      go_returns
      exact ⟨by rw [E.out]; rfl, (((Grew.refl w).alloc _).alloc _).below⟩
  · have d : (r.e == 0) = false := by simpa using q
    have E := Lib.hid (show endS r = r from if_neg (fun h => q h.1))
    clear q
    go_enter Tryz.func28, Tryz.ntmps28
    go_wp2
    go_returns
    exact ⟨by rw [E.out]; rfl, (((Grew.refl w).alloc _).alloc _).below⟩
end Go.Proofs.YtegbldkkggpjcaaGreatDoor
