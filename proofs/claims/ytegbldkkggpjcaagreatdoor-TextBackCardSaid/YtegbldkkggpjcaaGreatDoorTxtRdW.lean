/- A piece, read of both: the laws' own read: its walk. -/
import Derived.Test.YtegbldkkggpjcaaGreatDoorTxtRd
import Derived.Test.YtegbldkkggpjcaaGreatDoorTxtLayW
import Derived.Deep.DeepCutAuto
import Derived.Deep.CutBlock
namespace Go.Proofs.YtegbldkkggpjcaaGreatDoor
open Go.RowKit Go.Sort

attribute [local go_sem ↓] Go.wp_at_zero Go.wp_at_succ

theorem rnum_agg (r : InS) (most : Int) (hs : r.s.size ≤ 100000) (w : World) : Calls Tryz.prog 24 #[.agg #[.string r.s, .int .i64 r.pos, .string r.p, .int .i64 r.e], .int .i64 most] w fun x w' => x = .returned (.tuple #[.agg #[.string (numS r most).s, .int .i64 (numS r most).pos, .string (numS r most).p, .int .i64 (numS r most).e], .int .i64 (numN r most)]) ∧ RowKit.Below w.heap.size w w' := rnum_any r most hs w

theorem rtext_agg (r : InS) (most : Int) (hs : r.s.size ≤ 100000) (w : World) : Calls Tryz.prog 25 #[.agg #[.string r.s, .int .i64 r.pos, .string r.p, .int .i64 r.e], .int .i64 most] w fun x w' => x = .returned (.tuple #[.agg #[.string (textS r most).s, .int .i64 (textS r most).pos, .string (textS r most).p, .int .i64 (textS r most).e], .string (textT r most)]) ∧ RowKit.Below w.heap.size w w' := rtext_any r most hs w
theorem rrow_agg (r : InS) (most : Int) (hs : r.s.size ≤ 100000) (w : World) : Calls Tryz.prog 26 #[.agg #[.string r.s, .int .i64 r.pos, .string r.p, .int .i64 r.e], .int .i64 most] w fun x w' => ∃ v, x = .returned (.tuple #[.agg #[.string (rowS r most).s, .int .i64 (rowS r most).pos, .string (rowS r most).p, .int .i64 (rowS r most).e], v]) ∧ OwnI w' w.heap.size v (rowI r most) ∧ RowKit.Below w.heap.size w w' := rtrow_any r most hs w
theorem rflag_agg (r : InS) (hp : 0 ≤ r.pos) (hs : r.s.size ≤ 100000) (w : World) : Calls Tryz.prog 27 #[.agg #[.string r.s, .int .i64 r.pos, .string r.p, .int .i64 r.e]] w fun x w' => x = .returned (.tuple #[.agg #[.string (flagS r).s, .int .i64 (flagS r).pos, .string (flagS r).p, .int .i64 (flagS r).e], .bool (flagB r)]) ∧ RowKit.Below w.heap.size w w' := rflag_any r hp hs w
theorem rend_agg (r : InS) (w : World) : Calls Tryz.prog 28 #[.agg #[.string r.s, .int .i64 r.pos, .string r.p, .int .i64 r.e]] w fun x w' => x = .returned (.agg #[.string (endS r).s, .int .i64 (endS r).pos, .string (endS r).p, .int .i64 (endS r).e]) ∧ RowKit.Below w.heap.size w w' := rend_any r w
/-- A row of the call's own, and where it lies. -/
theorem OwnI.up {w : World} {base : Nat} {v : Value} {l : List Int} (h : OwnI w base v l) : ∃ sa cap, v = .slice sa l.length cap ∧ l.length ≤ cap ∧ (∀ b o s, sa = some ⟨b, o, s⟩ → base ≤ b) ∧ ReadsI w sa l.length l := by
  rcases h.form with ⟨rfl, rfl⟩ | ⟨g, cap, rfl, h1, h2, _, hc⟩
  · exact ⟨none, 0, rfl, Nat.le_refl _, (fun _ _ _ h => by cases h), rfl, fun h => absurd h (by decide)⟩
  · refine ⟨_, cap, rfl, h1, fun b o s e => ?_, rfl, fun _ => ⟨g, 0, rfl, fun i hi => ?_⟩⟩
    · simp only [Option.some.injEq, Addr.mk.injEq] at e
      omega
    · rw [Nat.zero_add]; exact hc i hi
theorem rowI_len (u : InS) (most : Int) : (rowI u most).length ≤ 1000 := by
  unfold rowI
  split
  · unfold unrowZ
    split
    · simp
    · split
      · simp
      · rename_i h1
        split
        · rename_i h2
          simp only [List.length_map]
          have := (items_least (getZ u.s u.pos).1.toNat (t := u.s.data.toList.drop (getZ u.s u.pos).2.1.toNat) (l := (items (getZ u.s u.pos).1.toNat (u.s.data.toList.drop (getZ u.s u.pos).2.1.toNat)).1) (u := (items (getZ u.s u.pos).1.toNat (u.s.data.toList.drop (getZ u.s u.pos).2.1.toNat)).2.1) (by rw [← h2])).1
          rw [this]
          omega
        · simp
  · simp
theorem rd_later {I : Impl} {w : World} {S0 : Nat → Prop} {B : Nat} {pc : Array Value} {W w3 : World} {S : Nat → Prop} {a b : InS} {v : Value} {l : List ByteArray} {e : Int} (h : RdSt I w S0 B pc W S a b ∧ ErrIs W v l e) (k : RowKit.Below W.heap.size W w3) : RdSt I w S0 B pc w3 S a b ∧ ErrIs w3 v l e := ⟨h.1.later k, h.2.later k⟩
theorem far5 {w : World} {B C D o : Nat} {a b c d e : Value} (h0 : w.cell? ⟨B, 0, none⟩ = some a) (h1 : w.cell? ⟨B, 1, none⟩ = some b) (h2 : w.cell? ⟨B, 2, none⟩ = some c) (h3 : w.cell? ⟨B, 3, none⟩ = some d) (h4 : w.cell? ⟨D, o, none⟩ = some e) (hne : B ≠ C) (hd : D ≠ C) (x y z v : Value) :
    (put4W w C x y z v).cell? ⟨B, 0, none⟩ = some a ∧ (put4W w C x y z v).cell? ⟨B, 1, none⟩ = some b ∧ (put4W w C x y z v).cell? ⟨B, 2, none⟩ = some c ∧ (put4W w C x y z v).cell? ⟨B, 3, none⟩ = some d ∧ (put4W w C x y z v).cell? ⟨D, o, none⟩ = some e := by
  have k := put4_heap w C x y z v B hne
  have k2 := put4_heap w C x y z v D hd
  generalize put4W w C x y z v = W at *
  exact ⟨(World.cell?_of_block k).trans h0, (World.cell?_of_block k).trans h1, (World.cell?_of_block k).trans h2, (World.cell?_of_block k).trans h3, (World.cell?_of_block k2).trans h4⟩
set_option maxRecDepth 20000 in
set_option maxHeartbeats 8000000 in
theorem rdP_any (I : Impl) {w : World} {S : Nat → Prop} {B : Nat} {u : InS} (p : PcS) (la : Option Addr) (lc : Nat) (hr : I.R w S B u) (hg : Laid w) (h0 : ¬ S 0) (hs : u.s.size ≤ 100000) (hp : 0 ≤ u.pos) :
    Calls Tryz.prog 8 #[.pointer (some ⟨B, 0, none⟩), .agg #[.string u.s, .int .i64 u.pos, .string u.p, .int .i64 u.e], .agg #[.int .i64 p.k, .int .i64 p.n, .string p.s, .slice la p.l.length lc]] w fun e w' => e = .returned (.tuple #[inV (readP u p), .bool true]) ∧ ∃ S', I.R w' S' B (readP u p) ∧ Ext S S' w ∧ Chg S w w' := by
  have HN := Lib.hid (RdSt.new #[.int .i64 p.k, .int .i64 p.n, .string p.s, .slice la p.l.length lc] hr hg h0)
  have HLN := Lib.hid (rowI_len u p.n)
  clear hr hg h0
  go_enter Tryz.func8, Tryz.ntmps8
  go_upto_block 0 with fail
  go_cut [8, 9, 10, 11, 12, 13, 14, 15, 16] (fun v8 v9 v10 v11 v12 v13 v14 v15 v16 wx => v8 = .bool true ∧ ∃ S', Hid (RdSt I w S B #[.int .i64 p.k, .int .i64 p.n, .string p.s, .slice la p.l.length lc] wx S' (readP u p) (readP u p)))
  case first =>
    by_cases q0 : p.k = 0
    · have e0 : (p.k == 0) = true := by simpa using q0
      have HX := Lib.hid (readP_0 (t := u) q0)
      clear q0
      have HM := Lib.hid (fun w => rnum_agg u p.n hs w)
      go_wp2_with (first | (go_at_call 24; refine (HM.out _).mono ?_; rintro y w1 ⟨rfl, hb⟩; have H1 := Lib.hid (HN.out.later hb); clear hb))
      have H2 := Lib.hid (H1.out.later ((Below.refl _ _).alloc (Nat.le_refl _) (.cells #[.string (numS u p.n).s, .int .i64 (numS u p.n).pos, .string (numS u p.n).p, .int .i64 (numS u p.n).e] 28)))
      have U2 := Lib.hid (show InAt (w1.alloc (.cells #[.string (numS u p.n).s, .int .i64 (numS u p.n).pos, .string (numS u p.n).p, .int .i64 (numS u p.n).e] 28)) w1.heap.size (numS u p.n) from heap_alloc_new _ _)
      have n1 : w.heap.size + 1 + 1 < w1.heap.size := H1.out.Z.lt
      have n2 := Lib.hid (show ¬ S w1.heap.size from fun q => by have := (I.rold H1.out.R).2 _ q; omega)
      clear HM HN H1
      generalize hW2 : w1.alloc (.cells #[.string (numS u p.n).s, .int .i64 (numS u p.n).pos, .string (numS u p.n).p, .int .i64 (numS u p.n).e] 28) = W2 at *
      generalize w1.heap.size = Bu at *
      clear hW2
      have HR := Lib.hid (I.rnum p.n (H2.out.later (Below.refl _ _).drew).R (H2.out.later (Below.refl _ _).drew).laid hs)
      have x0 := U2.out.four.c0
      have x1 := U2.out.four.c1
      have x2 := U2.out.four.c2
      have x3 := U2.out.four.c3
      have x4 : W2.cell? ⟨w.heap.size + 1, 1, none⟩ = some (.int .i64 p.n) := by simp [World.cell?, H2.out.P]
      go_region_held3 (fun w' => w'.cell? ⟨Bu, 0, none⟩ = some (.string (numS u p.n).s) ∧ w'.cell? ⟨Bu, 1, none⟩ = some (.int .i64 (numS u p.n).pos) ∧ w'.cell? ⟨Bu, 2, none⟩ = some (.string (numS u p.n).p) ∧ w'.cell? ⟨Bu, 3, none⟩ = some (.int .i64 (numS u p.n).e) ∧ w'.cell? ⟨w.heap.size + 1, 1, none⟩ = some (.int .i64 p.n))
        (first | exact ⟨x0, x1, x2, x3, x4⟩ | exact far5 x0 x1 x2 x3 x4 (by omega) (by omega) _ _ _ _)
        (first | (go_at_call 10; refine HR.out.mono ?_; rintro y w3 ⟨rfl, S', k1, k2, k3⟩; have H3 := Lib.hid ((H2.out.later (Below.refl _ _).drew).moves k1 k2 k3); have U3 := Lib.hid (show InAt w3 Bu (numS u p.n) from (k3.block _ U2.out.lt n2.out).trans U2.out); have x0 := U3.out.four.c0; have x1 := U3.out.four.c1; have x2 := U3.out.four.c2; have x3 := U3.out.four.c3; have x4 : w3.cell? ⟨w.heap.size + 1, 1, none⟩ = some (.int .i64 p.n) := (by simp [World.cell?, H3.out.P]); have y0 := H3.out.T.four.c0; have y1 := H3.out.T.four.c1; have y2 := H3.out.T.four.c2; have y3 := H3.out.T.four.c3; have z0 := H3.out.T.four.f0; have z1 := H3.out.T.four.f1; have z2 := H3.out.T.four.f2; have z3 := H3.out.T.four.f3;  clear k1 k2 k3))
      go_wp2_with fail
      go_meet
      case rel => exact ⟨rfl, S', Lib.hid (by rw [HX.out]; exact H3.out.put _)⟩
    have e0 : (p.k == 0) = false := by simpa using q0
    by_cases q1 : p.k = 1
    · have e1 : (p.k == 1) = true := by simpa using q1
      have HX := Lib.hid (readP_1 (t := u) q1)
      clear q1
      have HM := Lib.hid (fun w => rtext_agg u p.n hs w)
      go_wp2_with (first | (go_at_call 25; refine (HM.out _).mono ?_; rintro y w1 ⟨rfl, hb⟩; have H1 := Lib.hid (HN.out.later hb); clear hb))
      have H2 := Lib.hid (H1.out.later ((Below.refl _ _).alloc (Nat.le_refl _) (.cells #[.string (textS u p.n).s, .int .i64 (textS u p.n).pos, .string (textS u p.n).p, .int .i64 (textS u p.n).e] 28)))
      have U2 := Lib.hid (show InAt (w1.alloc (.cells #[.string (textS u p.n).s, .int .i64 (textS u p.n).pos, .string (textS u p.n).p, .int .i64 (textS u p.n).e] 28)) w1.heap.size (textS u p.n) from heap_alloc_new _ _)
      have n1 : w.heap.size + 1 + 1 < w1.heap.size := H1.out.Z.lt
      have n2 := Lib.hid (show ¬ S w1.heap.size from fun q => by have := (I.rold H1.out.R).2 _ q; omega)
      clear HM HN H1
      generalize hW2 : w1.alloc (.cells #[.string (textS u p.n).s, .int .i64 (textS u p.n).pos, .string (textS u p.n).p, .int .i64 (textS u p.n).e] 28) = W2 at *
      generalize w1.heap.size = Bu at *
      clear hW2
      have HR := Lib.hid (I.rtext p.n (H2.out.later (Below.refl _ _).drew).R (H2.out.later (Below.refl _ _).drew).laid hs)
      have x0 := U2.out.four.c0
      have x1 := U2.out.four.c1
      have x2 := U2.out.four.c2
      have x3 := U2.out.four.c3
      have x4 : W2.cell? ⟨w.heap.size + 1, 1, none⟩ = some (.int .i64 p.n) := by simp [World.cell?, H2.out.P]
      go_region_held3 (fun w' => w'.cell? ⟨Bu, 0, none⟩ = some (.string (textS u p.n).s) ∧ w'.cell? ⟨Bu, 1, none⟩ = some (.int .i64 (textS u p.n).pos) ∧ w'.cell? ⟨Bu, 2, none⟩ = some (.string (textS u p.n).p) ∧ w'.cell? ⟨Bu, 3, none⟩ = some (.int .i64 (textS u p.n).e) ∧ w'.cell? ⟨w.heap.size + 1, 1, none⟩ = some (.int .i64 p.n))
        (first | exact ⟨x0, x1, x2, x3, x4⟩ | exact far5 x0 x1 x2 x3 x4 (by omega) (by omega) _ _ _ _)
        (first | (go_at_call 11; refine HR.out.mono ?_; rintro y w3 ⟨rfl, S', k1, k2, k3⟩; have H3 := Lib.hid ((H2.out.later (Below.refl _ _).drew).moves k1 k2 k3); have U3 := Lib.hid (show InAt w3 Bu (textS u p.n) from (k3.block _ U2.out.lt n2.out).trans U2.out); have x0 := U3.out.four.c0; have x1 := U3.out.four.c1; have x2 := U3.out.four.c2; have x3 := U3.out.four.c3; have x4 : w3.cell? ⟨w.heap.size + 1, 1, none⟩ = some (.int .i64 p.n) := (by simp [World.cell?, H3.out.P]); have y0 := H3.out.T.four.c0; have y1 := H3.out.T.four.c1; have y2 := H3.out.T.four.c2; have y3 := H3.out.T.four.c3; have z0 := H3.out.T.four.f0; have z1 := H3.out.T.four.f1; have z2 := H3.out.T.four.f2; have z3 := H3.out.T.four.f3;  clear k1 k2 k3))
      go_wp2_with fail
      go_meet
      case rel => exact ⟨rfl, S', Lib.hid (by rw [HX.out]; exact H3.out.put _)⟩
    have e1 : (p.k == 1) = false := by simpa using q1
    by_cases q2 : p.k = 2
    · have e2 : (p.k == 2) = true := by simpa using q2
      have HX := Lib.hid (readP_2 (t := u) q2)
      clear q2
      have HM := Lib.hid (fun w => rrow_agg u p.n hs w)
      go_wp2_with (first | (go_at_call 26; refine (HM.out _).mono ?_; rintro y w1 ⟨vL, rfl, hL, hb⟩; have H1 := Lib.hid (HN.out.later hb); have HL1 := Lib.hid (OwnI.up (OwnI.lower hL (show w.heap.size ≤ _ by simp; omega))); clear hb hL))
      have H2 := Lib.hid (H1.out.later ((Below.refl _ _).alloc (Nat.le_refl _) (.cells #[.string (rowS u p.n).s, .int .i64 (rowS u p.n).pos, .string (rowS u p.n).p, .int .i64 (rowS u p.n).e] 28)))
      have U2 := Lib.hid (show InAt (w1.alloc (.cells #[.string (rowS u p.n).s, .int .i64 (rowS u p.n).pos, .string (rowS u p.n).p, .int .i64 (rowS u p.n).e] 28)) w1.heap.size (rowS u p.n) from heap_alloc_new _ _)
      have n1 : w.heap.size + 1 + 1 < w1.heap.size := H1.out.Z.lt
      have n2 := Lib.hid (show ¬ S w1.heap.size from fun q => by have := (I.rold H1.out.R).2 _ q; omega)
      obtain ⟨sL, cL, rfl, hcL, hgL, hrL⟩ := HL1.out
      have HL2 := Lib.hid (hrL.later ((Below.refl _ _).alloc (Nat.le_refl _) (.cells #[.string (rowS u p.n).s, .int .i64 (rowS u p.n).pos, .string (rowS u p.n).p, .int .i64 (rowS u p.n).e] 28)))
      have HFL := Lib.hid (show ∀ b o s, sL = some ⟨b, o, s⟩ → ¬ S b from fun b o s e q => by
        have q1 := hgL b o s e
        have q2 := H1.out.old b q
        omega)
      clear hcL hgL hrL HL1
      clear HM HN H1
      generalize hW2 : w1.alloc (.cells #[.string (rowS u p.n).s, .int .i64 (rowS u p.n).pos, .string (rowS u p.n).p, .int .i64 (rowS u p.n).e] 28) = W2 at *
      generalize w1.heap.size = Bu at *
      clear hW2
      have HR := Lib.hid (I.rrow p.n (H2.out.later (Below.refl _ _).drew).R (H2.out.later (Below.refl _ _).drew).laid hs)
      have x0 := U2.out.four.c0
      have x1 := U2.out.four.c1
      have x2 := U2.out.four.c2
      have x3 := U2.out.four.c3
      have x4 : W2.cell? ⟨w.heap.size + 1, 1, none⟩ = some (.int .i64 p.n) := by simp [World.cell?, H2.out.P]
      go_region_held3 (fun w' => w'.cell? ⟨Bu, 0, none⟩ = some (.string (rowS u p.n).s) ∧ w'.cell? ⟨Bu, 1, none⟩ = some (.int .i64 (rowS u p.n).pos) ∧ w'.cell? ⟨Bu, 2, none⟩ = some (.string (rowS u p.n).p) ∧ w'.cell? ⟨Bu, 3, none⟩ = some (.int .i64 (rowS u p.n).e) ∧ w'.cell? ⟨w.heap.size + 1, 1, none⟩ = some (.int .i64 p.n))
        (first | exact ⟨x0, x1, x2, x3, x4⟩ | exact far5 x0 x1 x2 x3 x4 (by omega) (by omega) _ _ _ _)
        (first | (go_at_call 13; refine HR.out.mono ?_; rintro y w3 ⟨v3, hv3, rfl, S', k1, k2, k3⟩; have H3 := Lib.hid ((H2.out.later (Below.refl _ _).drew).moves k1 k2 k3); have U3 := Lib.hid (show InAt w3 Bu (rowS u p.n) from (k3.block _ U2.out.lt n2.out).trans U2.out); have x0 := U3.out.four.c0; have x1 := U3.out.four.c1; have x2 := U3.out.four.c2; have x3 := U3.out.four.c3; have x4 : w3.cell? ⟨w.heap.size + 1, 1, none⟩ = some (.int .i64 p.n) := (by simp [World.cell?, H3.out.P]); have y0 := H3.out.T.four.c0; have y1 := H3.out.T.four.c1; have y2 := H3.out.T.four.c2; have y3 := H3.out.T.four.c3; have z0 := H3.out.T.four.f0; have z1 := H3.out.T.four.f1; have z2 := H3.out.T.four.f2; have z3 := H3.out.T.four.f3; obtain ⟨s3, c3, hv3e, _, _, hr3⟩ := hv3.reads; subst hv3e; have HV3 := Lib.hid hr3; have HL3 := Lib.hid (ReadsI.chg (HL2.out.later (Below.refl _ _).drew) k3 HFL.out); clear hv3 hr3; clear k1 k2 k3) | (go_at_call 12; refine (same_ints s3 _ (rowI u p.n).length c3 cL (rowI u p.n) _ (by have := HLN.out; omega) HV3.out HL3.out).mono ?_; rintro y w4 ⟨rfl, hg⟩; have H4 := Lib.hid (H3.out.later hg.below); have U4 := Lib.hid (show InAt w4 Bu (rowS u p.n) from (hg.below.block _ U3.out.lt).trans U3.out); have x0 := U4.out.four.c0; have x1 := U4.out.four.c1; have x2 := U4.out.four.c2; have x3 := U4.out.four.c3; have x4 : w4.cell? ⟨w.heap.size + 1, 1, none⟩ = some (.int .i64 p.n) := (by simp [World.cell?, H4.out.P]); have y0 := H4.out.T.four.c0; have y1 := H4.out.T.four.c1; have y2 := H4.out.T.four.c2; have y3 := H4.out.T.four.c3; have z0 := H4.out.T.four.f0; have z1 := H4.out.T.four.f1; have z2 := H4.out.T.four.f2; have z3 := H4.out.T.four.f3; clear hg))
      go_wp2_with fail
      go_meet
      case rel => exact ⟨rfl, S', Lib.hid (by rw [HX.out]; exact H4.out.put _)⟩
    have e2 : (p.k == 2) = false := by simpa using q2
    by_cases q3 : p.k = 3
    · have e3 : (p.k == 3) = true := by simpa using q3
      have HX := Lib.hid (readP_3 (t := u) q3)
      clear q3
      have HM := Lib.hid (fun w => rflag_agg u hp hs w)
      go_wp2_with (first | (go_at_call 27; refine (HM.out _).mono ?_; rintro y w1 ⟨rfl, hb⟩; have H1 := Lib.hid (HN.out.later hb); clear hb))
      have H2 := Lib.hid (H1.out.later ((Below.refl _ _).alloc (Nat.le_refl _) (.cells #[.string (flagS u).s, .int .i64 (flagS u).pos, .string (flagS u).p, .int .i64 (flagS u).e] 28)))
      have U2 := Lib.hid (show InAt (w1.alloc (.cells #[.string (flagS u).s, .int .i64 (flagS u).pos, .string (flagS u).p, .int .i64 (flagS u).e] 28)) w1.heap.size (flagS u) from heap_alloc_new _ _)
      have n1 : w.heap.size + 1 + 1 < w1.heap.size := H1.out.Z.lt
      have n2 := Lib.hid (show ¬ S w1.heap.size from fun q => by have := (I.rold H1.out.R).2 _ q; omega)
      clear HM HN H1
      generalize hW2 : w1.alloc (.cells #[.string (flagS u).s, .int .i64 (flagS u).pos, .string (flagS u).p, .int .i64 (flagS u).e] 28) = W2 at *
      generalize w1.heap.size = Bu at *
      clear hW2
      have HR := Lib.hid (I.rflag (H2.out.later (Below.refl _ _).drew).R (H2.out.later (Below.refl _ _).drew).laid hs hp)
      have x0 := U2.out.four.c0
      have x1 := U2.out.four.c1
      have x2 := U2.out.four.c2
      have x3 := U2.out.four.c3
      go_region_held3 (fun w' => w'.cell? ⟨Bu, 0, none⟩ = some (.string (flagS u).s) ∧ w'.cell? ⟨Bu, 1, none⟩ = some (.int .i64 (flagS u).pos) ∧ w'.cell? ⟨Bu, 2, none⟩ = some (.string (flagS u).p) ∧ w'.cell? ⟨Bu, 3, none⟩ = some (.int .i64 (flagS u).e))
        (first | exact ⟨x0, x1, x2, x3⟩ | exact far4 x0 x1 x2 x3 (by omega) _ _ _ _)
        (first | (go_at_call 14; refine HR.out.mono ?_; rintro y w3 ⟨rfl, S', k1, k2, k3⟩; have H3 := Lib.hid ((H2.out.later (Below.refl _ _).drew).moves k1 k2 k3); have U3 := Lib.hid (show InAt w3 Bu (flagS u) from (k3.block _ U2.out.lt n2.out).trans U2.out); have x0 := U3.out.four.c0; have x1 := U3.out.four.c1; have x2 := U3.out.four.c2; have x3 := U3.out.four.c3; have y0 := H3.out.T.four.c0; have y1 := H3.out.T.four.c1; have y2 := H3.out.T.four.c2; have y3 := H3.out.T.four.c3; have z0 := H3.out.T.four.f0; have z1 := H3.out.T.four.f1; have z2 := H3.out.T.four.f2; have z3 := H3.out.T.four.f3;  clear k1 k2 k3))
      go_wp2_with fail
      go_meet
      case rel => exact ⟨rfl, S', Lib.hid (by rw [HX.out]; exact H3.out.put _)⟩
    have e3 : (p.k == 3) = false := by simpa using q3
    by_cases q4 : p.k = 4
    · have e4 : (p.k == 4) = true := by simpa using q4
      have HX := Lib.hid (readP_4 (t := u) q4)
      clear q4
      have HM := Lib.hid (fun w => rend_agg u w)
      have a0 := HN.out.T.four.c0
      have a1 := HN.out.T.four.c1
      have a2 := HN.out.T.four.c2
      have a3 := HN.out.T.four.c3
      go_wp2_with (first | (go_at_call 28; refine (HM.out _).mono ?_; rintro y w1 ⟨rfl, hb⟩; have H1 := Lib.hid (HN.out.later hb); have y0 := H1.out.T.four.c0; have y1 := H1.out.T.four.c1; have y2 := H1.out.T.four.c2; have y3 := H1.out.T.four.c3; have z0 := H1.out.T.four.f0; have z1 := H1.out.T.four.f1; have z2 := H1.out.T.four.f2; have z3 := H1.out.T.four.f3; have H2 := Lib.hid (H1.out.put (endS u)); have HE := Lib.hid (I.rend H2.out.R H2.out.laid hs); clear hb) | (go_at_call 15; refine HE.out.mono ?_; rintro y w3 ⟨rfl, S', k1, k2, k3⟩; have H3 := Lib.hid (H2.out.moves k1 k2 k3); clear k1 k2 k3))
      go_meet
      case rel => exact ⟨rfl, S', Lib.hid (by rw [HX.out]; exact H3.out)⟩
    have e4 : (p.k == 4) = false := by simpa using q4
    have HX := Lib.hid (readP_5 (t := u) q0 q1 q2 q3 q4)
    clear q0 q1 q2 q3 q4
    go_wp2_with fail
    go_meet
    case rel => exact ⟨rfl, S, Lib.hid (by rw [HX.out]; exact HN.out)⟩
  case rest =>
    obtain ⟨rfl, S', HS⟩ := hcut
    obtain ⟨t, ht⟩ : ∃ t, t = readP u p := ⟨_, rfl⟩
    rw [← ht] at HS
    have HTE := Lib.hid ht
    clear ht
    have HD := Lib.hid (I.rdone HS.out.R HS.out.laid)
    go_wp2_with (first | (go_at_call 17; refine HD.out.mono ?_; rintro y w2 ⟨v, rfl, he, hb⟩; have HS2 := Lib.hid (HS.out.later hb); have HE2 := Lib.hid he; clear he hb))
    have HSS := Lib.hid (show RdSt I w S B #[.int .i64 p.k, .int .i64 p.n, .string p.s, .slice la p.l.length lc] w2.drew S' t t ∧ ErrIs w2.drew v [bRead, t.p] t.e from ⟨HS2.out.later (Below.refl _ _).drew, HE2.out.later (Below.refl _ _).drew⟩)
    have HCO := Lib.hid (show ∀ W, RdSt I w S B #[.int .i64 p.k, .int .i64 p.n, .string p.s, .slice la p.l.length lc] W S' t t ∧ ErrIs W v [bRead, t.p] t.e → Calls Tryz.prog 16 #[v] W fun x w' => x = .returned (.int .i64 t.e) ∧ RowKit.Below W.heap.size W w' from fun W h => h.2.code h.1.laid)
    have HRA := Lib.hid (show ∀ W, RdSt I w S B #[.int .i64 p.k, .int .i64 p.n, .string p.s, .slice la p.l.length lc] W S' t t ∧ ErrIs W v [bRead, t.p] t.e → Calls Tryz.prog 18 #[.pointer (some ⟨B, 0, none⟩)] W fun x w' => x = .returned (.int .i64 t.pos) ∧ RowKit.Below W.heap.size W w' from fun W h => I.rat h.1.R h.1.laid)
    have x0 := HSS.out.1.T.four.c0
    have x1 := HSS.out.1.T.four.c1
    have x2 := HSS.out.1.T.four.c2
    have x3 := HSS.out.1.T.four.c3
    clear HS HD HS2 HE2
    by_cases qe : t.e = 0
    · have e0 : (t.e == 0) = true := by simpa using qe
      have e1 : (t.e == t.e) = true := by simp
      have e2 : (t.pos == t.pos) = true := by simp
      clear qe
      refine wp_region_held_drew (S := (fun w' => w'.cell? ⟨w.heap.size, 0, none⟩ = some (.string t.s) ∧ w'.cell? ⟨w.heap.size, 1, none⟩ = some (.int .i64 t.pos) ∧ w'.cell? ⟨w.heap.size, 2, none⟩ = some (.string t.p) ∧ w'.cell? ⟨w.heap.size, 3, none⟩ = some (.int .i64 t.e))) (by kernel_rfl) ⟨x0, x1, x2, x3⟩ (fun hHeld => ?_)
      try (change wpAnyH _ _ _ _ _ _ _ _ (World.drew _))
      refine wpAnyH_take (i := 0) (v := ?v0) rfl (by kernel_rfl) (by kernel_rfl) (by kernel_rfl) (fun _ _ _ h => h) (Or.inl ⟨by rfl, ?y0⟩) (by assumption) ?r0
      case y0 => (intro w' hSw; (try dsimp only at hSw); go_simp; all_goals with_reducible rfl)
      try simp only [List.getElem_toArray, List.getElem_cons_zero, Act.put, List.setIfInBounds_toArray, List.set_cons_zero, List.set_cons_succ]
      refine wpAnyH_take (i := 1) (v := ?v1) rfl (by kernel_rfl) (by kernel_rfl) (by kernel_rfl) (fun _ _ _ h => h) (Or.inl ⟨by rfl, ?y1⟩) (by assumption) ?r1
      case y1 => (intro w' hSw; (try dsimp only at hSw); go_simp; all_goals with_reducible rfl)
      try simp only [List.getElem_toArray, List.getElem_cons_zero, List.getElem_cons_succ, Act.put, List.setIfInBounds_toArray, List.set_cons_zero, List.set_cons_succ]
      refine wpAnyH_take (i := 2) (v := ?v2) rfl (by kernel_rfl) (by kernel_rfl) (by kernel_rfl) (fun _ _ _ h => h) (Or.inl ⟨by rfl, ?y2⟩) (by assumption) ?r2
      case y2 => (intro w' hSw; (try dsimp only at hSw); go_simp; all_goals with_reducible rfl)
      try simp only [List.getElem_toArray, List.getElem_cons_zero, List.getElem_cons_succ, Act.put, List.setIfInBounds_toArray, List.set_cons_zero, List.set_cons_succ]
      refine wpAnyH_take (i := 3) (v := ?v3) rfl (by kernel_rfl) (by kernel_rfl) (by kernel_rfl) (fun _ _ _ h => h) (Or.inl ⟨by rfl, ?y3⟩) (by assumption) ?r3
      case y3 => (intro w' hSw; (try dsimp only at hSw); go_simp; all_goals with_reducible rfl)
      try simp only [List.getElem_toArray, List.getElem_cons_zero, List.getElem_cons_succ, Act.put, List.setIfInBounds_toArray, List.set_cons_zero, List.set_cons_succ]
      refine wpAnyH_take (i := 5) (v := ?v5) rfl (by kernel_rfl) (by kernel_rfl) (by kernel_rfl) (fun _ _ _ h => h) (Or.inl ⟨by rfl, ?y5⟩) (by assumption) ?r5
      case y5 => (intro w' hSw; (try dsimp only at hSw); go_simp; all_goals with_reducible rfl)
      try simp only [List.getElem_toArray, List.getElem_cons_zero, List.getElem_cons_succ, Act.put, List.setIfInBounds_toArray, List.set_cons_zero, List.set_cons_succ]
      refine wpAnyH_take (i := 6) (v := ?v6) rfl (by kernel_rfl) (by kernel_rfl) (by kernel_rfl) (fun _ _ _ h => h) (Or.inl ⟨by rfl, ?y6⟩) (by assumption) ?r6
      case y6 => (intro w' hSw; (try dsimp only at hSw); go_simp; all_goals with_reducible rfl)
      try simp only [List.getElem_toArray, List.getElem_cons_zero, List.getElem_cons_succ, Act.put, List.setIfInBounds_toArray, List.set_cons_zero, List.set_cons_succ]
      refine wpAnyH_ready (rs := [4]) (by kernel_rfl) (by simp) ?_
      refine AllReadyH.cons rfl (fun K hK => ?_) AllReadyH.nil
      go_simp
      go_at_call 16
      refine (HCO.out _ HSS.out).mono ?_
      rintro y w3 ⟨rfl, hb⟩
      have HSS := Lib.hid (rd_later HSS.out hb)
      have x0 := HSS.out.1.T.four.c0
      have x1 := HSS.out.1.T.four.c1
      have x2 := HSS.out.1.T.four.c2
      have x3 := HSS.out.1.T.four.c3
      clear hb
      (try go_wp2_with fail)
      refine hK.out _ _ ?_ (fun hHeld => ?_)
      · exact ⟨x0, x1, x2, x3⟩
      clear hK K
      refine wpAnyH_take (i := 7) (v := ?v7) rfl (by kernel_rfl) (by kernel_rfl) (by kernel_rfl) (fun _ _ _ h => h) (Or.inl ⟨by rfl, ?y7⟩) (by assumption) ?r7
      case y7 => (intro w' hSw; (try dsimp only at hSw); go_simp; all_goals with_reducible rfl)
      try simp only [List.getElem_toArray, List.getElem_cons_zero, List.getElem_cons_succ, Act.put, List.setIfInBounds_toArray, List.set_cons_zero, List.set_cons_succ]
      refine wpAnyH_take (i := 8) (v := ?v8) rfl (by kernel_rfl) (by kernel_rfl) (by kernel_rfl) (fun _ _ _ h => h) (Or.inl ⟨by rfl, ?y8⟩) (by assumption) ?r8
      case y8 => (intro w' hSw; (try dsimp only at hSw); go_simp; all_goals with_reducible rfl)
      try simp only [List.getElem_toArray, List.getElem_cons_zero, List.getElem_cons_succ, Act.put, List.setIfInBounds_toArray, List.set_cons_zero, List.set_cons_succ]
      refine wpAnyH_take (i := 9) (v := ?v9) rfl (by kernel_rfl) (by kernel_rfl) (by kernel_rfl) (fun _ _ _ h => h) (Or.inl ⟨by rfl, ?y9⟩) (by assumption) ?r9
      case y9 => (intro w' hSw; (try dsimp only at hSw); go_simp; all_goals with_reducible rfl)
      try simp only [List.getElem_toArray, List.getElem_cons_zero, List.getElem_cons_succ, Act.put, List.setIfInBounds_toArray, List.set_cons_zero, List.set_cons_succ]
      refine wpAnyH_take (i := 10) (v := ?v10) rfl (by kernel_rfl) (by kernel_rfl) (by kernel_rfl) (fun _ _ _ h => h) (Or.inl ⟨by rfl, ?y10⟩) (by assumption) ?r10
      case y10 => (intro w' hSw; (try dsimp only at hSw); go_simp; all_goals with_reducible rfl)
      try simp only [List.getElem_toArray, List.getElem_cons_zero, List.getElem_cons_succ, Act.put, List.setIfInBounds_toArray, List.set_cons_zero, List.set_cons_succ]
      refine wpAnyH_take (i := 12) (v := ?v12) rfl (by kernel_rfl) (by kernel_rfl) (by kernel_rfl) (fun _ _ _ h => h) (Or.inl ⟨by rfl, ?y12⟩) (by assumption) ?r12
      case y12 => (intro w' hSw; (try dsimp only at hSw); go_simp; all_goals with_reducible rfl)
      try simp only [List.getElem_toArray, List.getElem_cons_zero, List.getElem_cons_succ, Act.put, List.setIfInBounds_toArray, List.set_cons_zero, List.set_cons_succ]
      refine wpAnyH_take (i := 13) (v := ?v13) rfl (by kernel_rfl) (by kernel_rfl) (by kernel_rfl) (fun _ _ _ h => h) (Or.inl ⟨by rfl, ?y13⟩) (by assumption) ?r13
      case y13 => (intro w' hSw; (try dsimp only at hSw); go_simp; all_goals with_reducible rfl)
      try simp only [List.getElem_toArray, List.getElem_cons_zero, List.getElem_cons_succ, Act.put, List.setIfInBounds_toArray, List.set_cons_zero, List.set_cons_succ]
      refine wpAnyH_ready (rs := [11]) (by kernel_rfl) (by simp) ?_
      refine AllReadyH.cons rfl (fun K hK => ?_) AllReadyH.nil
      go_simp
      go_at_call 18
      refine (HRA.out _ HSS.out).mono ?_
      rintro y w3 ⟨rfl, hb⟩
      have HSS := Lib.hid (rd_later HSS.out hb)
      have x0 := HSS.out.1.T.four.c0
      have x1 := HSS.out.1.T.four.c1
      have x2 := HSS.out.1.T.four.c2
      have x3 := HSS.out.1.T.four.c3
      clear hb
      (try go_wp2_with fail)
      refine hK.out _ _ ?_ (fun hHeld => ?_)
      · exact ⟨x0, x1, x2, x3⟩
      clear hK K
      refine wpAnyH_take (i := 14) (v := ?v14) rfl (by kernel_rfl) (by kernel_rfl) (by kernel_rfl) (fun _ _ _ h => h) (Or.inl ⟨by rfl, ?y14⟩) (by assumption) ?r14
      case y14 => (intro w' hSw; (try dsimp only at hSw); go_simp; all_goals with_reducible rfl)
      try simp only [List.getElem_toArray, List.getElem_cons_zero, List.getElem_cons_succ, Act.put, List.setIfInBounds_toArray, List.set_cons_zero, List.set_cons_succ]
      refine wpAnyH_take (i := 15) (v := ?v15) rfl (by kernel_rfl) (by kernel_rfl) (by kernel_rfl) (fun _ _ _ h => h) (Or.inl ⟨by rfl, ?y15⟩) (by assumption) ?r15
      case y15 => (intro w' hSw; (try dsimp only at hSw); go_simp; all_goals with_reducible rfl)
      try simp only [List.getElem_toArray, List.getElem_cons_zero, List.getElem_cons_succ, Act.put, List.setIfInBounds_toArray, List.set_cons_zero, List.set_cons_succ]
      refine wpAnyH_take (i := 16) (v := ?v16) rfl (by kernel_rfl) (by kernel_rfl) (by kernel_rfl) (fun _ _ _ h => h) (Or.inl ⟨by rfl, ?y16⟩) (by assumption) ?r16
      case y16 => (intro w' hSw; (try dsimp only at hSw); go_simp; all_goals with_reducible rfl)
      try simp only [List.getElem_toArray, List.getElem_cons_zero, List.getElem_cons_succ, Act.put, List.setIfInBounds_toArray, List.set_cons_zero, List.set_cons_succ]
      refine wpAnyH_take (i := 17) (v := ?v17) rfl (by kernel_rfl) (by kernel_rfl) (by kernel_rfl) (fun _ _ _ h => h) (Or.inl ⟨by rfl, ?y17⟩) (by assumption) ?r17
      case y17 => (intro w' hSw; (try dsimp only at hSw); go_simp; all_goals with_reducible rfl)
      try simp only [List.getElem_toArray, List.getElem_cons_zero, List.getElem_cons_succ, Act.put, List.setIfInBounds_toArray, List.set_cons_zero, List.set_cons_succ]
      refine wpAnyH_take (i := 18) (v := ?v18) rfl (by kernel_rfl) (by kernel_rfl) (by kernel_rfl) (fun _ _ _ h => h) (Or.inl ⟨by rfl, ?y18⟩) (by assumption) ?r18
      case y18 => (intro w' hSw; (try dsimp only at hSw); go_simp; all_goals with_reducible rfl)
      try simp only [List.getElem_toArray, List.getElem_cons_zero, List.getElem_cons_succ, Act.put, List.setIfInBounds_toArray, List.set_cons_zero, List.set_cons_succ]
      refine wpAnyH_take (i := 19) (v := ?v19) rfl (by kernel_rfl) (by kernel_rfl) (by kernel_rfl) (fun _ _ _ h => h) (Or.inl ⟨by rfl, ?y19⟩) (by assumption) ?r19
      case y19 => (intro w' hSw; (try dsimp only at hSw); go_simp; all_goals with_reducible rfl)
      try simp only [List.getElem_toArray, List.getElem_cons_zero, List.getElem_cons_succ, Act.put, List.setIfInBounds_toArray, List.set_cons_zero, List.set_cons_succ]
      refine wpAnyH_take (i := 20) (v := ?v20) rfl (by kernel_rfl) (by kernel_rfl) (by kernel_rfl) (fun _ _ _ h => h) (Or.inl ⟨by rfl, ?y20⟩) (by assumption) ?r20
      case y20 => (intro w' hSw; (try dsimp only at hSw); go_simp; all_goals with_reducible rfl)
      try simp only [List.getElem_toArray, List.getElem_cons_zero, List.getElem_cons_succ, Act.put, List.setIfInBounds_toArray, List.set_cons_zero, List.set_cons_succ]
      refine wpAnyH_take (i := 21) (v := undef) rfl (by kernel_rfl) (by kernel_rfl) (by kernel_rfl) (fun _ _ _ h => h) (Or.inr ⟨by rfl, rfl⟩) (by assumption) ?_
      try simp only [List.getElem_toArray, List.getElem_cons_zero, List.getElem_cons_succ, Act.put, List.setIfInBounds_toArray, List.set_cons_zero, List.set_cons_succ]
      refine wpAnyH_take (i := 22) (v := undef) rfl (by kernel_rfl) (by kernel_rfl) (by kernel_rfl) (fun _ _ _ h => h) (Or.inr ⟨by rfl, rfl⟩) (by assumption) ?_
      try simp only [List.getElem_toArray, List.getElem_cons_zero, List.getElem_cons_succ, Act.put, List.setIfInBounds_toArray, List.set_cons_zero, List.set_cons_succ]
      refine wpAnyH_take (i := 23) (v := undef) rfl (by kernel_rfl) (by kernel_rfl) (by kernel_rfl) (fun _ _ _ h => h) (Or.inr ⟨by rfl, rfl⟩) (by assumption) ?_
      try simp only [List.getElem_toArray, List.getElem_cons_zero, List.getElem_cons_succ, Act.put, List.setIfInBounds_toArray, List.set_cons_zero, List.set_cons_succ]
      refine wpAnyH_take (i := 24) (v := undef) rfl (by kernel_rfl) (by kernel_rfl) (by kernel_rfl) (fun _ _ _ h => h) (Or.inr ⟨by rfl, rfl⟩) (by assumption) ?_
      try simp only [List.getElem_toArray, List.getElem_cons_zero, List.getElem_cons_succ, Act.put, List.setIfInBounds_toArray, List.set_cons_zero, List.set_cons_succ]
      refine wpAnyH_take (i := 25) (v := ?v25) rfl (by kernel_rfl) (by kernel_rfl) (by kernel_rfl) (fun _ _ _ h => h) (Or.inl ⟨by rfl, ?y25⟩) (by assumption) ?r25
      case y25 => (intro w' hSw; (try dsimp only at hSw); go_simp; all_goals with_reducible rfl)
      try simp only [List.getElem_toArray, List.getElem_cons_zero, List.getElem_cons_succ, Act.put, List.setIfInBounds_toArray, List.set_cons_zero, List.set_cons_succ]
      refine wpAnyH_take (i := 26) (v := ?v26) rfl (by kernel_rfl) (by kernel_rfl) (by kernel_rfl) (fun _ _ _ h => h) (Or.inl ⟨by rfl, ?y26⟩) (by assumption) ?r26
      case y26 => (intro w' hSw; (try dsimp only at hSw); go_simp; all_goals with_reducible rfl)
      try simp only [List.getElem_toArray, List.getElem_cons_zero, List.getElem_cons_succ, Act.put, List.setIfInBounds_toArray, List.set_cons_zero, List.set_cons_succ]
      have z := HSS.out.1.Z.four
      have y0 := z.c0
      have y1 := z.c1
      have y2 := z.c2
      have y3 := z.c3
      have z0 := z.f0
      have z1 := z.f1
      have z2 := z.f2
      have z3 := z.f3
      have HZ4 := Lib.hid (put4 z (.string t.s) (.int .i64 t.pos) (.string t.p) (.int .i64 t.e))
      clear z
      refine wpAnyH_ready (rs := [27]) (by kernel_rfl) (by simp) ?_
      refine AllReadyH.cons rfl (fun K hK => ?_) AllReadyH.nil
      go_simp
      refine hK.out _ _ ?_ (fun hHeld => ?_)
      · exact far4 x0 x1 x2 x3 (by omega) _ _ _ _
      clear hK K
      refine wpAnyH_take (i := 28) (v := ?v28) rfl (by kernel_rfl) (by kernel_rfl) (by kernel_rfl) (fun _ _ _ h => h) (Or.inl ⟨by rfl, ?y28⟩) (by assumption) ?r28
      case y28 => (intro w' hSw; (try dsimp only at hSw); go_simp; all_goals with_reducible rfl)
      try simp only [List.getElem_toArray, List.getElem_cons_zero, List.getElem_cons_succ, Act.put, List.setIfInBounds_toArray, List.set_cons_zero, List.set_cons_succ]
      refine wpAnyH_done (by kernel_rfl) ?_ _
      go_wp2_with fail
      obtain ⟨S2, k1, k2, k3⟩ := HSS.out.1.fin (.string t.s) (.int .i64 t.pos) (.string t.p) (.int .i64 t.e)
      refine bodyPost_ret (res_in rfl rfl HZ4.out) rfl ⟨two_in HTE.out rfl, S2, by rw [← HTE.out]; exact k1, k2, k3⟩
    · have e0 : (t.e == 0) = false := by simpa using qe
      have e1 : (t.e == t.e) = true := by simp
      have e2 : (t.pos == t.pos) = true := by simp
      have HAP := Lib.hid (show ∀ W, RdSt I w S B #[.int .i64 p.k, .int .i64 p.n, .string p.s, .slice la p.l.length lc] W S' t t ∧ ErrIs W v [bRead, t.p] t.e → Calls Tryz.prog 22 #[v, .string t.p] W fun x w' => x = .returned (.bool true) ∧ RowKit.Below W.heap.size W w' from fun W h => by
        have := h.2.at qe (by simp) h.1.laid t.p
        rwa [has_second] at this)
      clear qe
      refine wp_region_held_drew (S := (fun w' => w'.cell? ⟨w.heap.size, 0, none⟩ = some (.string t.s) ∧ w'.cell? ⟨w.heap.size, 1, none⟩ = some (.int .i64 t.pos) ∧ w'.cell? ⟨w.heap.size, 2, none⟩ = some (.string t.p) ∧ w'.cell? ⟨w.heap.size, 3, none⟩ = some (.int .i64 t.e))) (by kernel_rfl) ⟨x0, x1, x2, x3⟩ (fun hHeld => ?_)
      try (change wpAnyH _ _ _ _ _ _ _ _ (World.drew _))
      refine wpAnyH_take (i := 0) (v := ?bv0) rfl (by kernel_rfl) (by kernel_rfl) (by kernel_rfl) (fun _ _ _ h => h) (Or.inl ⟨by rfl, ?by0⟩) (by assumption) ?br0
      case by0 => (intro w' hSw; (try dsimp only at hSw); go_simp; all_goals with_reducible rfl)
      try simp only [List.getElem_toArray, List.getElem_cons_zero, Act.put, List.setIfInBounds_toArray, List.set_cons_zero, List.set_cons_succ]
      refine wpAnyH_take (i := 1) (v := ?bv1) rfl (by kernel_rfl) (by kernel_rfl) (by kernel_rfl) (fun _ _ _ h => h) (Or.inl ⟨by rfl, ?by1⟩) (by assumption) ?br1
      case by1 => (intro w' hSw; (try dsimp only at hSw); go_simp; all_goals with_reducible rfl)
      try simp only [List.getElem_toArray, List.getElem_cons_zero, List.getElem_cons_succ, Act.put, List.setIfInBounds_toArray, List.set_cons_zero, List.set_cons_succ]
      refine wpAnyH_take (i := 2) (v := ?bv2) rfl (by kernel_rfl) (by kernel_rfl) (by kernel_rfl) (fun _ _ _ h => h) (Or.inl ⟨by rfl, ?by2⟩) (by assumption) ?br2
      case by2 => (intro w' hSw; (try dsimp only at hSw); go_simp; all_goals with_reducible rfl)
      try simp only [List.getElem_toArray, List.getElem_cons_zero, List.getElem_cons_succ, Act.put, List.setIfInBounds_toArray, List.set_cons_zero, List.set_cons_succ]
      refine wpAnyH_take (i := 3) (v := ?bv3) rfl (by kernel_rfl) (by kernel_rfl) (by kernel_rfl) (fun _ _ _ h => h) (Or.inl ⟨by rfl, ?by3⟩) (by assumption) ?br3
      case by3 => (intro w' hSw; (try dsimp only at hSw); go_simp; all_goals with_reducible rfl)
      try simp only [List.getElem_toArray, List.getElem_cons_zero, List.getElem_cons_succ, Act.put, List.setIfInBounds_toArray, List.set_cons_zero, List.set_cons_succ]
      refine wpAnyH_take (i := 5) (v := ?bv5) rfl (by kernel_rfl) (by kernel_rfl) (by kernel_rfl) (fun _ _ _ h => h) (Or.inl ⟨by rfl, ?by5⟩) (by assumption) ?br5
      case by5 => (intro w' hSw; (try dsimp only at hSw); go_simp; all_goals with_reducible rfl)
      try simp only [List.getElem_toArray, List.getElem_cons_zero, List.getElem_cons_succ, Act.put, List.setIfInBounds_toArray, List.set_cons_zero, List.set_cons_succ]
      refine wpAnyH_take (i := 6) (v := ?bv6) rfl (by kernel_rfl) (by kernel_rfl) (by kernel_rfl) (fun _ _ _ h => h) (Or.inl ⟨by rfl, ?by6⟩) (by assumption) ?br6
      case by6 => (intro w' hSw; (try dsimp only at hSw); go_simp; all_goals with_reducible rfl)
      try simp only [List.getElem_toArray, List.getElem_cons_zero, List.getElem_cons_succ, Act.put, List.setIfInBounds_toArray, List.set_cons_zero, List.set_cons_succ]
      refine wpAnyH_ready (rs := [4]) (by kernel_rfl) (by simp) ?_
      refine AllReadyH.cons rfl (fun K hK => ?_) AllReadyH.nil
      go_simp
      go_at_call 16
      refine (HCO.out _ HSS.out).mono ?_
      rintro y w3 ⟨rfl, hb⟩
      have HSS := Lib.hid (rd_later HSS.out hb)
      have x0 := HSS.out.1.T.four.c0
      have x1 := HSS.out.1.T.four.c1
      have x2 := HSS.out.1.T.four.c2
      have x3 := HSS.out.1.T.four.c3
      clear hb
      (try go_wp2_with fail)
      refine hK.out _ _ ?_ (fun hHeld => ?_)
      · exact ⟨x0, x1, x2, x3⟩
      clear hK K
      refine wpAnyH_take (i := 7) (v := ?bv7) rfl (by kernel_rfl) (by kernel_rfl) (by kernel_rfl) (fun _ _ _ h => h) (Or.inl ⟨by rfl, ?by7⟩) (by assumption) ?br7
      case by7 => (intro w' hSw; (try dsimp only at hSw); go_simp; all_goals with_reducible rfl)
      try simp only [List.getElem_toArray, List.getElem_cons_zero, List.getElem_cons_succ, Act.put, List.setIfInBounds_toArray, List.set_cons_zero, List.set_cons_succ]
      refine wpAnyH_take (i := 8) (v := ?bv8) rfl (by kernel_rfl) (by kernel_rfl) (by kernel_rfl) (fun _ _ _ h => h) (Or.inl ⟨by rfl, ?by8⟩) (by assumption) ?br8
      case by8 => (intro w' hSw; (try dsimp only at hSw); go_simp; all_goals with_reducible rfl)
      try simp only [List.getElem_toArray, List.getElem_cons_zero, List.getElem_cons_succ, Act.put, List.setIfInBounds_toArray, List.set_cons_zero, List.set_cons_succ]
      refine wpAnyH_take (i := 9) (v := ?bv9) rfl (by kernel_rfl) (by kernel_rfl) (by kernel_rfl) (fun _ _ _ h => h) (Or.inl ⟨by rfl, ?by9⟩) (by assumption) ?br9
      case by9 => (intro w' hSw; (try dsimp only at hSw); go_simp; all_goals with_reducible rfl)
      try simp only [List.getElem_toArray, List.getElem_cons_zero, List.getElem_cons_succ, Act.put, List.setIfInBounds_toArray, List.set_cons_zero, List.set_cons_succ]
      refine wpAnyH_take (i := 10) (v := ?bv10) rfl (by kernel_rfl) (by kernel_rfl) (by kernel_rfl) (fun _ _ _ h => h) (Or.inl ⟨by rfl, ?by10⟩) (by assumption) ?br10
      case by10 => (intro w' hSw; (try dsimp only at hSw); go_simp; all_goals with_reducible rfl)
      try simp only [List.getElem_toArray, List.getElem_cons_zero, List.getElem_cons_succ, Act.put, List.setIfInBounds_toArray, List.set_cons_zero, List.set_cons_succ]
      refine wpAnyH_take (i := 12) (v := ?bv12) rfl (by kernel_rfl) (by kernel_rfl) (by kernel_rfl) (fun _ _ _ h => h) (Or.inl ⟨by rfl, ?by12⟩) (by assumption) ?br12
      case by12 => (intro w' hSw; (try dsimp only at hSw); go_simp; all_goals with_reducible rfl)
      try simp only [List.getElem_toArray, List.getElem_cons_zero, List.getElem_cons_succ, Act.put, List.setIfInBounds_toArray, List.set_cons_zero, List.set_cons_succ]
      refine wpAnyH_take (i := 13) (v := ?bv13) rfl (by kernel_rfl) (by kernel_rfl) (by kernel_rfl) (fun _ _ _ h => h) (Or.inl ⟨by rfl, ?by13⟩) (by assumption) ?br13
      case by13 => (intro w' hSw; (try dsimp only at hSw); go_simp; all_goals with_reducible rfl)
      try simp only [List.getElem_toArray, List.getElem_cons_zero, List.getElem_cons_succ, Act.put, List.setIfInBounds_toArray, List.set_cons_zero, List.set_cons_succ]
      refine wpAnyH_ready (rs := [11]) (by kernel_rfl) (by simp) ?_
      refine AllReadyH.cons rfl (fun K hK => ?_) AllReadyH.nil
      go_simp
      go_at_call 18
      refine (HRA.out _ HSS.out).mono ?_
      rintro y w3 ⟨rfl, hb⟩
      have HSS := Lib.hid (rd_later HSS.out hb)
      have x0 := HSS.out.1.T.four.c0
      have x1 := HSS.out.1.T.four.c1
      have x2 := HSS.out.1.T.four.c2
      have x3 := HSS.out.1.T.four.c3
      clear hb
      (try go_wp2_with fail)
      refine hK.out _ _ ?_ (fun hHeld => ?_)
      · exact ⟨x0, x1, x2, x3⟩
      clear hK K
      refine wpAnyH_take (i := 14) (v := ?bv14) rfl (by kernel_rfl) (by kernel_rfl) (by kernel_rfl) (fun _ _ _ h => h) (Or.inl ⟨by rfl, ?by14⟩) (by assumption) ?br14
      case by14 => (intro w' hSw; (try dsimp only at hSw); go_simp; all_goals with_reducible rfl)
      try simp only [List.getElem_toArray, List.getElem_cons_zero, List.getElem_cons_succ, Act.put, List.setIfInBounds_toArray, List.set_cons_zero, List.set_cons_succ]
      refine wpAnyH_take (i := 15) (v := ?bv15) rfl (by kernel_rfl) (by kernel_rfl) (by kernel_rfl) (fun _ _ _ h => h) (Or.inl ⟨by rfl, ?by15⟩) (by assumption) ?br15
      case by15 => (intro w' hSw; (try dsimp only at hSw); go_simp; all_goals with_reducible rfl)
      try simp only [List.getElem_toArray, List.getElem_cons_zero, List.getElem_cons_succ, Act.put, List.setIfInBounds_toArray, List.set_cons_zero, List.set_cons_succ]
      refine wpAnyH_take (i := 16) (v := ?bv16) rfl (by kernel_rfl) (by kernel_rfl) (by kernel_rfl) (fun _ _ _ h => h) (Or.inl ⟨by rfl, ?by16⟩) (by assumption) ?br16
      case by16 => (intro w' hSw; (try dsimp only at hSw); go_simp; all_goals with_reducible rfl)
      try simp only [List.getElem_toArray, List.getElem_cons_zero, List.getElem_cons_succ, Act.put, List.setIfInBounds_toArray, List.set_cons_zero, List.set_cons_succ]
      refine wpAnyH_take (i := 17) (v := ?bv17) rfl (by kernel_rfl) (by kernel_rfl) (by kernel_rfl) (fun _ _ _ h => h) (Or.inl ⟨by rfl, ?by17⟩) (by assumption) ?br17
      case by17 => (intro w' hSw; (try dsimp only at hSw); go_simp; all_goals with_reducible rfl)
      try simp only [List.getElem_toArray, List.getElem_cons_zero, List.getElem_cons_succ, Act.put, List.setIfInBounds_toArray, List.set_cons_zero, List.set_cons_succ]
      refine wpAnyH_take (i := 18) (v := ?bv18) rfl (by kernel_rfl) (by kernel_rfl) (by kernel_rfl) (fun _ _ _ h => h) (Or.inl ⟨by rfl, ?by18⟩) (by assumption) ?br18
      case by18 => (intro w' hSw; (try dsimp only at hSw); go_simp; all_goals with_reducible rfl)
      try simp only [List.getElem_toArray, List.getElem_cons_zero, List.getElem_cons_succ, Act.put, List.setIfInBounds_toArray, List.set_cons_zero, List.set_cons_succ]
      refine wpAnyH_take (i := 19) (v := ?bv19) rfl (by kernel_rfl) (by kernel_rfl) (by kernel_rfl) (fun _ _ _ h => h) (Or.inl ⟨by rfl, ?by19⟩) (by assumption) ?br19
      case by19 => (intro w' hSw; (try dsimp only at hSw); go_simp; all_goals with_reducible rfl)
      try simp only [List.getElem_toArray, List.getElem_cons_zero, List.getElem_cons_succ, Act.put, List.setIfInBounds_toArray, List.set_cons_zero, List.set_cons_succ]
      refine wpAnyH_take (i := 20) (v := ?bv20) rfl (by kernel_rfl) (by kernel_rfl) (by kernel_rfl) (fun _ _ _ h => h) (Or.inl ⟨by rfl, ?by20⟩) (by assumption) ?br20
      case by20 => (intro w' hSw; (try dsimp only at hSw); go_simp; all_goals with_reducible rfl)
      try simp only [List.getElem_toArray, List.getElem_cons_zero, List.getElem_cons_succ, Act.put, List.setIfInBounds_toArray, List.set_cons_zero, List.set_cons_succ]
      refine wpAnyH_take (i := 21) (v := ?bv21) rfl (by kernel_rfl) (by kernel_rfl) (by kernel_rfl) (fun _ _ _ h => h) (Or.inl ⟨by rfl, ?by21⟩) (by assumption) ?br21
      case by21 => (intro w' hSw; (try dsimp only at hSw); go_simp; all_goals with_reducible rfl)
      try simp only [List.getElem_toArray, List.getElem_cons_zero, List.getElem_cons_succ, Act.put, List.setIfInBounds_toArray, List.set_cons_zero, List.set_cons_succ]
      refine wpAnyH_take (i := 22) (v := ?bv22) rfl (by kernel_rfl) (by kernel_rfl) (by kernel_rfl) (fun _ _ _ h => h) (Or.inl ⟨by rfl, ?by22⟩) (by assumption) ?br22
      case by22 => (intro w' hSw; (try dsimp only at hSw); go_simp; all_goals with_reducible rfl)
      try simp only [List.getElem_toArray, List.getElem_cons_zero, List.getElem_cons_succ, Act.put, List.setIfInBounds_toArray, List.set_cons_zero, List.set_cons_succ]
      refine wpAnyH_take (i := 23) (v := ?bv23) rfl (by kernel_rfl) (by kernel_rfl) (by kernel_rfl) (fun _ _ _ h => h) (Or.inl ⟨by rfl, ?by23⟩) (by assumption) ?br23
      case by23 => (intro w' hSw; (try dsimp only at hSw); go_simp; all_goals with_reducible rfl)
      try simp only [List.getElem_toArray, List.getElem_cons_zero, List.getElem_cons_succ, Act.put, List.setIfInBounds_toArray, List.set_cons_zero, List.set_cons_succ]
      refine wpAnyH_ready (rs := [24]) (by kernel_rfl) (by simp) ?_
      refine AllReadyH.cons rfl (fun K hK => ?_) AllReadyH.nil
      go_simp
      go_at_call 22
      refine (HAP.out _ HSS.out).mono ?_
      rintro y w3 ⟨rfl, hb⟩
      have HSS := Lib.hid (rd_later HSS.out hb)
      have x0 := HSS.out.1.T.four.c0
      have x1 := HSS.out.1.T.four.c1
      have x2 := HSS.out.1.T.four.c2
      have x3 := HSS.out.1.T.four.c3
      clear hb
      (try go_wp2_with fail)
      refine hK.out _ _ ?_ (fun hHeld => ?_)
      · exact ⟨x0, x1, x2, x3⟩
      clear hK K
      refine wpAnyH_take (i := 25) (v := ?bv25) rfl (by kernel_rfl) (by kernel_rfl) (by kernel_rfl) (fun _ _ _ h => h) (Or.inl ⟨by rfl, ?by25⟩) (by assumption) ?br25
      case by25 => (intro w' hSw; (try dsimp only at hSw); go_simp; all_goals with_reducible rfl)
      try simp only [List.getElem_toArray, List.getElem_cons_zero, List.getElem_cons_succ, Act.put, List.setIfInBounds_toArray, List.set_cons_zero, List.set_cons_succ]
      refine wpAnyH_take (i := 26) (v := ?bv26) rfl (by kernel_rfl) (by kernel_rfl) (by kernel_rfl) (fun _ _ _ h => h) (Or.inl ⟨by rfl, ?by26⟩) (by assumption) ?br26
      case by26 => (intro w' hSw; (try dsimp only at hSw); go_simp; all_goals with_reducible rfl)
      try simp only [List.getElem_toArray, List.getElem_cons_zero, List.getElem_cons_succ, Act.put, List.setIfInBounds_toArray, List.set_cons_zero, List.set_cons_succ]
      have z := HSS.out.1.Z.four
      have y0 := z.c0
      have y1 := z.c1
      have y2 := z.c2
      have y3 := z.c3
      have z0 := z.f0
      have z1 := z.f1
      have z2 := z.f2
      have z3 := z.f3
      have HZ4 := Lib.hid (put4 z (.string t.s) (.int .i64 t.pos) (.string t.p) (.int .i64 t.e))
      clear z
      refine wpAnyH_ready (rs := [27]) (by kernel_rfl) (by simp) ?_
      refine AllReadyH.cons rfl (fun K hK => ?_) AllReadyH.nil
      go_simp
      refine hK.out _ _ ?_ (fun hHeld => ?_)
      · exact far4 x0 x1 x2 x3 (by omega) _ _ _ _
      clear hK K
      refine wpAnyH_take (i := 28) (v := ?bv28) rfl (by kernel_rfl) (by kernel_rfl) (by kernel_rfl) (fun _ _ _ h => h) (Or.inl ⟨by rfl, ?by28⟩) (by assumption) ?br28
      case by28 => (intro w' hSw; (try dsimp only at hSw); go_simp; all_goals with_reducible rfl)
      try simp only [List.getElem_toArray, List.getElem_cons_zero, List.getElem_cons_succ, Act.put, List.setIfInBounds_toArray, List.set_cons_zero, List.set_cons_succ]
      refine wpAnyH_done (by kernel_rfl) ?_ _
      go_wp2_with fail
      obtain ⟨S2, k1, k2, k3⟩ := HSS.out.1.fin (.string t.s) (.int .i64 t.pos) (.string t.p) (.int .i64 t.e)
      refine bodyPost_ret (res_in rfl rfl HZ4.out) rfl ⟨two_in HTE.out rfl, S2, by rw [← HTE.out]; exact k1, k2, k3⟩
end Go.Proofs.YtegbldkkggpjcaaGreatDoor
