/- The document's writer: Lay and what lies on it. The document's writer: Nums. -/
import Derived.Test.YtegbldkkggpjcaaGreatDoorTxtRef
import Derived.Deep.LoopGhost
namespace Go.Proofs.YtegbldkkggpjcaaGreatDoor
open Go.RowKit Go.Sort

attribute [local go_sem ↓] Go.wp_at_zero Go.wp_at_succ

structure OutS where
  s : ByteArray
  p : ByteArray
  e : Int
def outV (t : OutS) : Value := .agg #[.string t.s, .string t.p, .int .i64 t.e]
def layS (t : OutS) (pc s : ByteArray) (e : Int) : OutS := if t.e ≠ 0 then t else if e ≠ 0 then ⟨⟨#[]⟩, pc, e⟩ else ⟨t.s ++ s, t.p, t.e⟩
theorem rlay_any (t : OutS) (pc s : ByteArray) (e : Int) (h1 : t.s.size ≤ 1000000) (h2 : s.size ≤ 1000000) (w : World) : Calls Tryz.prog 60 #[.agg #[.string t.s, .string t.p, .int .i64 t.e], .string pc, .string s, .int .i64 e] w fun x w' => x = .returned (.agg #[.string (layS t pc s e).s, .string (layS t pc s e).p, .int .i64 (layS t pc s e).e]) ∧ Grew w w' := by
  obtain ⟨ts, tp, te⟩ := t
  simp only at h1 ⊢
  have i1 : (ts.size : Int) ≤ 1000000 := by omega
  have i2 : (s.size : Int) ≤ 1000000 := by omega
  by_cases q : te = 0
  · have d : (te != 0) = false := by simpa using q
    by_cases q2 : e = 0
    · have d2 : (e != 0) = false := by simpa using q2
      have HE := Lib.hid (show layS ⟨ts, tp, te⟩ pc s e = ⟨ts ++ s, tp, te⟩ by unfold layS; rw [if_neg (fun h => h q), if_neg (fun h => h q2)])
      rw [HE.out]
      clear q q2 HE
      go_enter Tryz.func60, Tryz.ntmps60
      go_wp2
      go_returns
      exact ⟨rfl, ((Grew.refl w).alloc _).alloc _⟩
    · have d2 : (e != 0) = true := by simpa using q2
      have HE := Lib.hid (show layS ⟨ts, tp, te⟩ pc s e = ⟨⟨#[]⟩, pc, e⟩ by unfold layS; rw [if_neg (fun h => h q), if_pos q2])
      rw [HE.out]
      clear q q2 HE
      go_enter Tryz.func60, Tryz.ntmps60
      go_wp2
      go_returns
      exact ⟨rfl, ((Grew.refl w).alloc _).alloc _⟩
  · have d : (te != 0) = true := by simpa using q
    have HE := Lib.hid (show layS ⟨ts, tp, te⟩ pc s e = ⟨ts, tp, te⟩ from if_pos q)
    rw [HE.out]
    clear q HE
    go_enter Tryz.func60, Tryz.ntmps60
    go_wp2
    go_returns
    exact ⟨rfl, ((Grew.refl w).alloc _).alloc _⟩

theorem ret_out {t u : OutS} (h : t = u) : Ending.returned (Value.agg #[.string t.s, .string t.p, .int .i64 t.e]) = .returned (outV u) := by rw [h]; rfl
/-- A block of three cells that was laid, and what came behind. -/
structure Three (w1 : World) (B : Nat) (a b c : Value) : Prop where
  c0 : w1.cell? ⟨B, 0, none⟩ = some a
  c1 : w1.cell? ⟨B, 1, none⟩ = some b
  c2 : w1.cell? ⟨B, 2, none⟩ = some c
  f0 : w1.frozen? ⟨B, 0, none⟩ = false
  f1 : w1.frozen? ⟨B, 1, none⟩ = false
  f2 : w1.frozen? ⟨B, 2, none⟩ = false
theorem three_of {w : World} {B : Nat} {a b c : Value} {t : TypeId} (k : w.heap[B]? = some (.cells #[a, b, c] t (0, 0))) : Three w B a b c := by
  constructor <;> simp [World.cell?, World.frozen?, k]
theorem three_two_b {w w1 : World} {o : Obj} {a b c : Value} {t : TypeId} (h : RowKit.Below ((w.alloc o).alloc (.cells #[a, b, c] t)).heap.size ((w.alloc o).alloc (.cells #[a, b, c] t)) w1) : Three w1 (w.heap.size + 1) a b c := by
  refine three_of (t := t) ((h.block (w.heap.size + 1) (by simp)).trans ?_)
  have := heap_new (w.alloc o) (.cells #[a, b, c] t)
  simpa using this
theorem three_one_b {w w1 : World} {o : Obj} {a b c : Value} {t : TypeId} (h : RowKit.Below ((w.alloc (.cells #[a, b, c] t)).alloc o).heap.size ((w.alloc (.cells #[a, b, c] t)).alloc o) w1) : Three w1 w.heap.size a b c :=
  three_of (t := t) ((h.block w.heap.size (by simp; omega)).trans ((Below.heap_alloc _ _ _ (by simp)).trans (heap_new w _)))
theorem Three.later {w w1 : World} {B : Nat} {a b c : Value} (k : Three w B a b c) (h : RowKit.Below w.heap.size w w1) : Three w1 B a b c := by
  have e := h.block B (World.block_lt_of_cell? _ _ k.c0)
  exact ⟨(World.cell?_of_block e).trans k.c0, (World.cell?_of_block e).trans k.c1, (World.cell?_of_block e).trans k.c2, (World.frozen?_of_block e).trans k.f0, (World.frozen?_of_block e).trans k.f1, (World.frozen?_of_block e).trans k.f2⟩
def put3W (w : World) (B : Nat) (a b c : Value) : World := ((w.setCell ⟨B, 0, none⟩ a).setCell ⟨B, 1, none⟩ b).setCell ⟨B, 2, none⟩ c
theorem Three.set0 {w : World} {B : Nat} {a b c : Value} (h : Three w B a b c) (x : Value) : Three (w.setCell ⟨B, 0, none⟩ x) B x b c :=
  ⟨World.cell?_setCell_same _ _ _ h.c0, (World.cell?_setCell_other _ _ _ _ (addr_ne (by decide))).trans h.c1, (World.cell?_setCell_other _ _ _ _ (addr_ne (by decide))).trans h.c2, by rw [World.frozen?_setCell]; exact h.f0, by rw [World.frozen?_setCell]; exact h.f1, by rw [World.frozen?_setCell]; exact h.f2⟩
theorem Three.set1 {w : World} {B : Nat} {a b c : Value} (h : Three w B a b c) (x : Value) : Three (w.setCell ⟨B, 1, none⟩ x) B a x c :=
  ⟨(World.cell?_setCell_other _ _ _ _ (addr_ne (by decide))).trans h.c0, World.cell?_setCell_same _ _ _ h.c1, (World.cell?_setCell_other _ _ _ _ (addr_ne (by decide))).trans h.c2, by rw [World.frozen?_setCell]; exact h.f0, by rw [World.frozen?_setCell]; exact h.f1, by rw [World.frozen?_setCell]; exact h.f2⟩
theorem Three.set2 {w : World} {B : Nat} {a b c : Value} (h : Three w B a b c) (x : Value) : Three (w.setCell ⟨B, 2, none⟩ x) B a b x :=
  ⟨(World.cell?_setCell_other _ _ _ _ (addr_ne (by decide))).trans h.c0, (World.cell?_setCell_other _ _ _ _ (addr_ne (by decide))).trans h.c1, World.cell?_setCell_same _ _ _ h.c2, by rw [World.frozen?_setCell]; exact h.f0, by rw [World.frozen?_setCell]; exact h.f1, by rw [World.frozen?_setCell]; exact h.f2⟩
theorem put3 {w : World} {B : Nat} {a b c : Value} (h : Three w B a b c) (x y z : Value) : Three (put3W w B x y z) B x y z := ((h.set0 x).set1 y).set2 z
theorem put3_below {w w0 : World} {base B : Nat} (hb : RowKit.Below base w0 w) (hB : base ≤ B) (a b c : Value) : RowKit.Below base w0 (put3W w B a b c) :=
  ((hb.setCell (p := ⟨B, 0, none⟩) hB a).setCell (p := ⟨B, 1, none⟩) hB b).setCell (p := ⟨B, 2, none⟩) hB c
theorem res_out1 {fn : Func} {c : Tmp} {tmps : Array Value} {B : Nat} {W : World} {a b cc : Value} (h : fn.results = #[.cell c 70]) (hc : tmps[c]?.getD undef = .pointer (some ⟨B, 0, none⟩)) (k : Three W B a b cc) : (results fn tmps).run Tryz.prog W = .ok (.agg #[a, b, cc]) W := by
  obtain ⟨k0, k1, k2, _⟩ := k
  simp [results, h, hc, go_sem, k0, k1, k2]

set_option maxHeartbeats 800000 in
theorem layText_any (t : OutS) (s : ByteArray) (h1 : t.s.size ≤ 1000000) (h2 : s.size ≤ 900000) (w : World) : Calls Tryz.prog 30 #[.agg #[.string t.s, .string t.p, .int .i64 t.e], .string s] w fun x w' => x = .returned (outV (layS t pText (bs (putZ s.size) ++ s) 0)) ∧ RowKit.Below w.heap.size w w' := by
  have hz := putZ_len s.size (by omega)
  have G := Lib.hid (fun w => rput_any s.size (by omega) w)
  have hsz : (bs (putZ s.size)).size ≤ 9 := by rw [bs_size]; exact hz
  have M := Lib.hid (fun w => rlay_any t pText (bs (putZ s.size) ++ s) 0 h1 (by rw [ByteArray.size_append]; omega) w)
  have i1 : (s.size : Int) ≤ 900000 := by omega
  have i2 : ((bs (putZ s.size)).size : Int) ≤ 9 := by omega
  generalize bs (putZ s.size) = b at *
  clear hz hsz
  go_enter Tryz.func30, Tryz.ntmps30
  go_wp2_with (first
    | (go_at_call 59; refine (G.out _).mono ?_; rintro x w2 ⟨rfl, hb⟩; have h1 := three_one_b hb; have a0 := h1.c0; have a1 := h1.c1; have a2 := h1.c2; have HF := Lib.hid (three_two_b hb); have HB := Lib.hid ((((Grew.refl w).alloc _).alloc _).below.trans (hb.mono (by simp; omega))); clear h1 hb)
    | (go_at_call 60; refine (M.out _).mono ?_; rintro x w3 ⟨rfl, hg⟩; have hf := HF.out.later hg.below; have y0 := hf.c0; have y1 := hf.c1; have y2 := hf.c2; have z0 := hf.f0; have z1 := hf.f1; have z2 := hf.f2; have HF2 := Lib.hid hf; have HB2 := Lib.hid (HB.out.trans (hg.below.mono HB.out.size)); clear hf hg))
  clear y0 y1 y2 z0 z1 z2
  refine bodyPost_ret (res_out1 rfl rfl (put3 HF2.out _ _ _)) rfl ⟨rfl, put3_below HB2.out (by omega) _ _ _⟩

def bitB (b : Bool) : ByteArray := if b then ⟨#[1]⟩ else ⟨#[0]⟩
def pFlag1 : ByteArray := pFlag
set_option maxHeartbeats 800000 in
theorem layFlag_any (t : OutS) (b : Bool) (h1 : t.s.size ≤ 1000000) (w : World) : Calls Tryz.prog 34 #[.agg #[.string t.s, .string t.p, .int .i64 t.e], .bool b] w fun x w' => x = .returned (outV (layS t pFlag (bitB b) 0)) ∧ RowKit.Below w.heap.size w w' := by
  cases b
  · have M := Lib.hid (fun w => rlay_any t pFlag (bitB false) 0 h1 (by decide) w)
    go_enter Tryz.func34, Tryz.ntmps34
    go_wp2_with (go_at_call 60; refine (M.out _).mono ?_; rintro x w3 ⟨rfl, hg⟩; have hb := (((Grew.refl w).alloc _).alloc _).trans hg; have hf := three_two_b hg.below; have y0 := hf.c0; have y1 := hf.c1; have y2 := hf.c2; have z0 := hf.f0; have z1 := hf.f1; have z2 := hf.f2; have HF2 := Lib.hid hf; have HB2 := Lib.hid hb.below; clear hf hg hb)
    clear y0 y1 y2 z0 z1 z2
    refine bodyPost_ret (res_out1 rfl rfl (put3 HF2.out _ _ _)) rfl ⟨rfl, put3_below HB2.out (by omega) _ _ _⟩
  · have M := Lib.hid (fun w => rlay_any t pFlag (bitB true) 0 h1 (by decide) w)
    go_enter Tryz.func34, Tryz.ntmps34
    go_wp2_with (go_at_call 60; refine (M.out _).mono ?_; rintro x w3 ⟨rfl, hg⟩; have hb := (((Grew.refl w).alloc _).alloc _).trans hg; have hf := three_two_b hg.below; have y0 := hf.c0; have y1 := hf.c1; have y2 := hf.c2; have z0 := hf.f0; have z1 := hf.f1; have z2 := hf.f2; have HF2 := Lib.hid hf; have HB2 := Lib.hid hb.below; clear hf hg hb)
    clear y0 y1 y2 z0 z1 z2
    refine bodyPost_ret (res_out1 rfl rfl (put3 HF2.out _ _ _)) rfl ⟨rfl, put3_below HB2.out (by omega) _ _ _⟩
theorem rowZ_len (l : List Int) (hl : l.length ≤ 10000) (hwf : ∀ x ∈ l, x ≤ 9223372036854775807) : (rowZ l).length ≤ 9 * l.length + 9 := by
  unfold rowZ
  split
  · unfold rowP
    have := putL_len l.length (by omega)
    have := flat_len l hwf
    simp only [List.length_append]
    omega
  · simp
set_option maxHeartbeats 800000 in
theorem layRow_any (t : OutS) (sa : Option Addr) (len cap : Nat) (l : List Int) (h1 : t.s.size ≤ 1000000) (w : World) (hm : len ≤ 10000) (hwf : ∀ x ∈ l, x ≤ 9223372036854775807) (hr : ReadsI w sa len l) : Calls Tryz.prog 32 #[.agg #[.string t.s, .string t.p, .int .i64 t.e], .slice sa len cap] w fun x w' => x = .returned (outV (layS t pRow (bs (rowZ l)) (rowE l))) ∧ RowKit.Below w.heap.size w w' := by
  have hlen : l.length = len := hr.1.symm
  have hz := rowZ_len l (by omega) hwf
  have G := Lib.hid (rrow_any sa len cap l ((w.alloc (.cells #[.string t.s, .string t.p, .int .i64 t.e] 70)).alloc (.cells #[.string ⟨#[]⟩, .string ⟨#[]⟩, .int .i64 0] 70)) hm hwf (hr.later (((Grew.refl w).alloc _).alloc _).below))
  have M := Lib.hid (fun w => rlay_any t pRow (bs (rowZ l)) (rowE l) h1 (by rw [bs_size]; omega) w)
  generalize bs (rowZ l) = b at *
  clear hz hr hwf hlen
  go_enter Tryz.func32, Tryz.ntmps32
  go_wp2_with (first
    | (go_at_call 62; refine G.out.mono ?_; rintro x w2 ⟨rfl, hb⟩; have h1 := three_one_b hb; have a0 := h1.c0; have a1 := h1.c1; have a2 := h1.c2; have HF := Lib.hid (three_two_b hb); have HB := Lib.hid ((((Grew.refl w).alloc _).alloc _).below.trans (hb.mono (by simp; omega))); clear h1 hb)
    | (go_at_call 60; refine (M.out _).mono ?_; rintro x w3 ⟨rfl, hg⟩; have hf := HF.out.later hg.below; have y0 := hf.c0; have y1 := hf.c1; have y2 := hf.c2; have z0 := hf.f0; have z1 := hf.f1; have z2 := hf.f2; have HF2 := Lib.hid hf; have HB2 := Lib.hid (HB.out.trans (hg.below.mono HB.out.size)); clear hf hg))
  clear y0 y1 y2 z0 z1 z2
  refine bodyPost_ret (res_out1 rfl rfl (put3 HF2.out _ _ _)) rfl ⟨rfl, put3_below HB2.out (by omega) _ _ _⟩
end Go.Proofs.YtegbldkkggpjcaaGreatDoor
namespace Go.Proofs.YtegbldkkggpjcaaGreatDoor
open Go.RowKit Go.Sort

attribute [local go_sem ↓] Go.wp_at_zero Go.wp_at_succ

def numL (t : OutS) (l : List Int) : OutS := l.foldl (fun t n => layS t pNum (bs (putZ n)) (putE n)) t
theorem numL_take (t : OutS) (l : List Int) (k : Nat) (h : k < l.length) : numL t (l.take (k + 1)) = layS (numL t (l.take k)) pNum (bs (putZ (l.getD k 0))) (putE (l.getD k 0)) := by
  unfold numL
  rw [List.take_add_one, List.foldl_append]
  simp [List.getD, h]
theorem layS_size (t : OutS) (pc s : ByteArray) (e : Int) : (layS t pc s e).s.size ≤ t.s.size + s.size := by
  unfold layS
  split
  · omega
  · split
    · exact Nat.zero_le _
    · exact Nat.le_of_eq ByteArray.size_append
theorem numL_size (t : OutS) (l : List Int) (hwf : ∀ x ∈ l, x ≤ 9223372036854775807) : (numL t l).s.size ≤ t.s.size + 9 * l.length := by
  induction l generalizing t with
  | nil => simp [numL]
  | cons x l ih =>
    have h := ih (layS t pNum (bs (putZ x)) (putE x)) (fun y hy => hwf y (List.mem_cons_of_mem _ hy))
    have h2 := layS_size t pNum (bs (putZ x)) (putE x)
    have h3 := putZ_len x (hwf x (List.mem_cons_self ..))
    rw [bs_size] at h2
    show (numL (layS t pNum (bs (putZ x)) (putE x)) l).s.size ≤ _
    simp only [List.length_cons]
    omega
theorem put3_heap (w : World) (B : Nat) (a b c : Value) (j : Nat) (h : j ≠ B) : (put3W w B a b c).heap[j]? = w.heap[j]? := by
  unfold put3W
  rw [Below.heap_setCell _ _ _ j h, Below.heap_setCell _ _ _ j h, Below.heap_setCell _ _ _ j h]
theorem Three.far {w : World} {B C : Nat} {a b c : Value} (k : Three w B a b c) (hne : B ≠ C) (x y z : Value) : Three (put3W w C x y z) B a b c := by
  have e := put3_heap w C x y z B hne
  generalize put3W w C x y z = W at *
  exact ⟨(World.cell?_of_block e).trans k.c0, (World.cell?_of_block e).trans k.c1, (World.cell?_of_block e).trans k.c2, (World.frozen?_of_block e).trans k.f0, (World.frozen?_of_block e).trans k.f1, (World.frozen?_of_block e).trans k.f2⟩

set_option maxHeartbeats 1600000 in
theorem nums_any (t : OutS) (sa : Option Addr) (len cap : Nat) (l : List Int) (h1 : t.s.size ≤ 900000) (w : World) (hm : len ≤ 10000) (hwf : ∀ x ∈ l, x ≤ 9223372036854775807) (hr : ReadsI w sa len l) : Calls Tryz.prog 29 #[.agg #[.string t.s, .string t.p, .int .i64 t.e], .slice sa len cap] w fun x w' => x = .returned (outV (numL t l)) ∧ RowKit.Below w.heap.size w w' := by
  have HZ := Lib.hid hr.1
  have HR := Lib.hid hr; clear hr
  have HWF := Lib.hid hwf; clear hwf
  go_enter Tryz.func29, Tryz.ntmps29
  go_wp2_with fail
  go_loopg [5] len (fun gg i wr => ∃ (k : Nat) (u : OutS), k + gg = len ∧ i = .int .i64 k ∧ Hid (u = numL t (l.take k)) ∧ Hid (Three wr w.heap.size (.string u.s) (.string u.p) (.int .i64 u.e)) ∧ Hid (Three wr (w.heap.size + 1) (.string ⟨#[]⟩) (.string ⟨#[]⟩) (.int .i64 0)) ∧ Hid (RowKit.Below w.heap.size w wr))
  case atStart => exact ⟨0, t, by omega, rfl, Lib.hid rfl, Lib.hid (three_one_b (Below.refl _ _)), Lib.hid (three_two_b (Below.refl _ _)), Lib.hid (((Grew.refl w).alloc _).alloc _).below⟩
  case round =>
    obtain ⟨k, u, hk, rfl, HU, HA, HB2, HB⟩ := hrel
    by_cases hlt : k < len
    · obtain ⟨b, off, rfl, g⟩ := (HR.out.later HB.out).2 (by omega)
      have l0 := g k hlt
      clear g
      have hkl : k < l.length := by rw [← HZ.out]; exact hlt
      have hxm := HWF.out (l.getD k 0) (by rw [List.getD_eq_getElem?_getD, List.getElem?_eq_getElem hkl]; exact List.getElem_mem hkl)
      have HN := Lib.hid (show layS u pNum (bs (putZ (l.getD k 0))) (putE (l.getD k 0)) = numL t (l.take (k + 1)) by rw [numL_take t l k hkl, HU.out])
      have hus := numL_size t (l.take k) (fun y hy => HWF.out y (List.mem_of_mem_take hy))
      rw [← HU.out, List.length_take] at hus
      have hpz := putZ_len (l.getD k 0) hxm
      have hmin : min k l.length ≤ k := Nat.min_le_left _ _
      generalize l.getD k 0 = x at *
      have G := Lib.hid (fun w => rput_any x hxm w)
      have M := Lib.hid (fun w => rlay_any u pNum (bs (putZ x)) (putE x) (by omega) (by rw [bs_size]; omega) w)
      have i1 : (0 : Int) ≤ (k : Int) := by omega
      have i2 : (k : Int) < (len : Int) := by omega
      clear hus hpz hmin hxm
      have a0 := HA.out.c0; have a1 := HA.out.c1; have a2 := HA.out.c2
      go_wp2_with (first
        | (go_at_call 59; refine (G.out _).mono ?_; rintro y w2 ⟨rfl, hb⟩; have hA := HA.out.later hb; have a0 := hA.c0; have a1 := hA.c1; have a2 := hA.c2; have HA2 := Lib.hid hA; have HC2 := Lib.hid (HB2.out.later hb); have HD2 := Lib.hid (HB.out.trans (hb.mono HB.out.size)); clear hb hA)
        | (go_at_call 60; refine (M.out _).mono ?_; rintro y w3 ⟨rfl, hg⟩; have hA := HA2.out.later hg.below; have y0 := hA.c0; have y1 := hA.c1; have y2 := hA.c2; have z0 := hA.f0; have z1 := hA.f1; have z2 := hA.f2; have HA3 := Lib.hid hA; have HC3 := Lib.hid (HC2.out.later hg.below); have HD3 := Lib.hid (HD2.out.trans (hg.below.mono HD2.out.size)); clear hA hg))
      go_roundg (gk - 1)
      case measure => omega
      case rel => exact ⟨k + 1, layS u pNum (bs (putZ x)) (putE x), by omega, by go_num, HN, Lib.hid (put3 HA3.out _ _ _), Lib.hid (HC3.out.far (by omega) _ _ _), Lib.hid (put3_below HD3.out (by omega) _ _ _)⟩
    · obtain rfl : k = len := by omega
      have ht : l.take k = l := List.take_of_length_le (by rw [HZ.out]; exact Nat.le_refl _)
      have HN := Lib.hid (show u = numL t l by rw [← ht]; exact HU.out)
      clear hlt ht
      have a0 := HA.out.c0; have a1 := HA.out.c1; have a2 := HA.out.c2
      have y0 := HB2.out.c0; have y1 := HB2.out.c1; have y2 := HB2.out.c2; have z0 := HB2.out.f0; have z1 := HB2.out.f1; have z2 := HB2.out.f2
      go_wp2
      clear y0 y1 y2 z0 z1 z2
      refine bodyPost_ret (res_out1 rfl rfl (put3 HB2.out _ _ _)) rfl ⟨ret_out HN.out, put3_below HB.out (by omega) _ _ _⟩
end Go.Proofs.YtegbldkkggpjcaaGreatDoor
