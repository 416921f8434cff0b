/- Pieces, laid by both: the laws' own lay: its walk. -/
import Derived.Test.YtegbldkkggpjcaaGreatDoorTxtLay
import Derived.Deep.RegionWith
import Derived.Deep.RegionHeld3
import Derived.Deep.QuietTactic
import Derived.BigQuiet
namespace Go.Proofs.YtegbldkkggpjcaaGreatDoor
open Go.RowKit Go.Sort

attribute [local go_sem ↓] Go.wp_at_zero Go.wp_at_succ

theorem layP_0 {t : OutS} {p : PcS} (h : p.k = 0) : layP t p = numL t [p.n] := if_pos h
theorem layP_1 {t : OutS} {p : PcS} (h : p.k = 1) : layP t p = layS t pText (bs (putZ p.s.size) ++ p.s) 0 := by unfold layP; rw [if_neg (by omega), if_pos h]
theorem layP_2 {t : OutS} {p : PcS} (h : p.k = 2) : layP t p = layS t pRow (bs (rowZ p.l)) (rowE p.l) := by unfold layP; rw [if_neg (by omega), if_neg (by omega), if_pos h]
theorem layP_3 {t : OutS} {p : PcS} (h : p.k = 3) : layP t p = layS t pFlag (bitB (decide (0 < p.n))) 0 := by unfold layP; rw [if_neg (by omega), if_neg (by omega), if_neg (by omega), if_pos h]
theorem layP_4 {t : OutS} {p : PcS} (h0 : p.k ≠ 0) (h1 : p.k ≠ 1) (h2 : p.k ≠ 2) (h3 : p.k ≠ 3) : layP t p = t := by unfold layP; rw [if_neg h0, if_neg h1, if_neg h2, if_neg h3]

theorem two_sb {a b : ByteArray} (h : a = b) : Ending.returned (Value.tuple #[.string a, .bool true]) = .returned (.tuple #[.string b, .bool true]) := by rw [h]
theorem code_nil2 (w : World) : Calls Tryz.prog 16 #[.nilIface] w fun e w' => e = .returned (.int .i64 0) ∧ w' = w := (code_nil w).mono fun _ _ ⟨a, b⟩ => ⟨a, b.symm⟩
def AggIs (t : OutS) (w : World) (x : Ending) (w' : World) : Prop := x = .returned (.agg #[.string t.s, .string t.p, .int .i64 t.e]) ∧ RowKit.Below w.heap.size w w'
theorem nums_agg (t : OutS) (sa : Option Addr) (len cap : Nat) (l : List Int) (h1 : t.s.size ≤ 900000) (w : World) (hm : len ≤ 10000) (hwf : ∀ x ∈ l, x ≤ 9223372036854775807) (hr : ReadsI w sa len l) : Calls Tryz.prog 29 #[.agg #[.string t.s, .string t.p, .int .i64 t.e], .slice sa len cap] w (AggIs (numL t l) w) := nums_any t sa len cap l h1 w hm hwf hr
theorem layText_agg (t : OutS) (s : ByteArray) (h1 : t.s.size ≤ 1000000) (h2 : s.size ≤ 900000) (w : World) : Calls Tryz.prog 30 #[.agg #[.string t.s, .string t.p, .int .i64 t.e], .string s] w (AggIs (layS t pText (bs (putZ s.size) ++ s) 0) w) := layText_any t s h1 h2 w
theorem layFlag_agg (t : OutS) (b : Bool) (h1 : t.s.size ≤ 1000000) (w : World) : Calls Tryz.prog 34 #[.agg #[.string t.s, .string t.p, .int .i64 t.e], .bool b] w (AggIs (layS t pFlag (bitB b) 0) w) := layFlag_any t b h1 w
theorem layRow_agg (t : OutS) (sa : Option Addr) (len cap : Nat) (l : List Int) (h1 : t.s.size ≤ 1000000) (w : World) (hm : len ≤ 10000) (hwf : ∀ x ∈ l, x ≤ 9223372036854775807) (hr : ReadsI w sa len l) : Calls Tryz.prog 32 #[.agg #[.string t.s, .string t.p, .int .i64 t.e], .slice sa len cap] w (AggIs (layS t pRow (bs (rowZ l)) (rowE l)) w) := layRow_any t sa len cap l h1 w hm hwf hr

set_option maxRecDepth 20000 in
set_option maxHeartbeats 8000000 in
theorem plays_any (I : Impl) (sa : Option Addr) (len cap : Nat) (ps : List PcS) (w : World) (hr : ReadsP w sa len ps) (hwf : WfP ps) (hm : fewP ps = true) (hg : Laid w) :
    Calls Tryz.prog 9 #[.slice sa len cap] w fun e w' => e = .returned (.tuple #[.string (layAll ps).s, .bool true]) ∧ RowKit.Below w.heap.size w w' := by
  obtain ⟨hm1, hm2⟩ := fewP_yes hm
  have HZ := Lib.hid hr.1
  have HR := Lib.hid hr
  have HWF := Lib.hid hwf
  have HM2 := Lib.hid hm2
  have HN := Lib.hid (LaySt.new I w hg)
  have hlen : len ≤ 40 := by rw [hr.1]; exact hm1
  clear hr hwf hm hm1 hm2 hg
  go_enter Tryz.func9, Tryz.ntmps9
  go_wp2
  go_loopg [6] len (fun gg i wr => ∃ (k : Nat) (S : Nat → Prop) (u : OutS), k + gg = len ∧ i = .int .i64 k ∧ Hid (u = layAll (ps.take k)) ∧ Hid (LaySt I w wr S u u))
  case atStart => exact ⟨0, _, _, by omega, rfl, Lib.hid rfl, HN⟩
  case round =>
    obtain ⟨k, S, u, hk, rfl, HU, HS⟩ := hrel
    by_cases hlt : k < len
    · obtain ⟨b, off, rfl, g⟩ := (HR.out.later HS.out.below).2 (by omega)
      have hkl : k < ps.length := by rw [← HZ.out]; exact hlt
      obtain ⟨c0, c1, c2, _⟩ := g k hkl
      obtain ⟨_, _, e, gw⟩ := HR.out.2 (by omega)
      simp only [Option.some.injEq, Addr.mk.injEq, and_true] at e
      obtain ⟨rfl, rfl⟩ := e
      obtain ⟨_, _, _, la, lc, c3w, hlaw⟩ := gw k hkl
      have c3 := (HS.out.below.cell (p := ⟨b, off + k * 4 + 3, none⟩) (World.block_lt_of_cell? _ _ c3w)).trans c3w
      have hla := hlaw.later HS.out.below
      have hlow := hlaw.low
      clear gw c3w hlaw
      have HOLD := Lib.hid (show ∀ w', RowKit.Below w.heap.size w w' → PcAt w' b (off + k * 4) ps[k] from fun w' hb => by
        obtain ⟨b', o', e, g'⟩ := (HR.out.later hb).2 (by omega)
        simp only [Option.some.injEq, Addr.mk.injEq, and_true] at e
        obtain ⟨rfl, rfl⟩ := e
        exact g' k hkl)
      have HNX := Lib.hid (layAll_take ps k hkl)
      have hw := HWF.out _ (List.getElem_mem hkl)
      have hsm := HM2.out _ (List.getElem_mem hkl)
      have hus := layAll_size (ps.take k) (fun p hp => HM2.out p (List.mem_of_mem_take hp)) (fun p hp => HWF.out p (List.mem_of_mem_take hp)) (by rw [List.length_take]; have : min k ps.length ≤ k := Nat.min_le_left _ _; omega)
      rw [← HU.out] at hus HNX
      clear g
      generalize ps[k] = p at *
      obtain ⟨pk, pn, psx, pl⟩ := p
      simp only at c0 c1 c2 c3 hw hsm hla hlow
      have i1 : (0 : Int) ≤ (k : Int) := by omega
      have i2 : (k : Int) < (len : Int) := by omega
      have a0 := HS.out.T.three.c0
      have a1 := HS.out.T.three.c1
      have a2 := HS.out.T.three.c2
      -- arms
      by_cases q0 : pk = 0
      · have e0 : (pk == 0) = true := by simpa using q0
        have HX := Lib.hid (layP_0 (t := u) (p := ⟨pk, pn, psx, pl⟩) q0)
        simp only at HX
        have HWN := Lib.hid (show ∀ W, LaySt I w W S u u → Calls Tryz.prog 19 #[.pointer (some ⟨w.heap.size, 0, none⟩), .slice (some ⟨W.heap.size, 0, none⟩) 1 1] (W.alloc (.cells #[.int .i64 pn] 3)) (Does I.W S w.heap.size (numL u [pn]) (.tuple #[]) (W.alloc (.cells #[.int .i64 pn] 3))) from fun W hS =>
          I.wnum (some ⟨W.heap.size, 0, none⟩) 1 1 [pn] (I.wlater hS.W ((Below.refl _ _).alloc (Nat.le_refl _) _)) (hS.laid.alloc _) (one_int W pn) (by decide) (fun x hx => by rw [List.mem_singleton.1 hx]; exact hw.1) (fun _ b o s e => by
            simp only [Option.some.injEq, Addr.mk.injEq] at e
            intro q
            have := (I.wold hS.W).2 b q
            omega) (by omega))
        clear q0
        go_wp2_with (go_at_call 19; refine (HWN.out _ HS.out).mono ?_; rintro y w2 ⟨rfl, S', k1, k2, k3⟩; have HS2 := Lib.hid ((HS.out.later ((Below.refl _ _).alloc (Nat.le_refl _) (.cells #[.int .i64 pn] 3))).moves k1 k2 k3); clear k1 k2 k3)
        have HPC := HOLD.out w2 HS2.out.below
        have c1' := HPC.2.1
        simp only at c1'
        clear HPC
        have b0 := HS2.out.T.three.c0
        have b1 := HS2.out.T.three.c1
        have b2 := HS2.out.T.three.c2
        have HNM := Lib.hid (nums_agg u (some ⟨w2.heap.size, 0, none⟩) 1 1 [pn] (by omega) (w2.drew.alloc (.cells #[.int .i64 pn] 3)) (by decide) (fun x hx => by rw [List.mem_singleton.1 hx]; exact hw.1) (one_int w2.drew pn))
        have n1 := World.new_ne w2 ⟨w.heap.size + 1, 0, none⟩ b0
        have n2 := Ne.symm n1
        have n3 : w.heap.size + 1 < w2.heap.size := HS2.out.T.lt
        have hE := (HS2.out.later (Below.refl _ _).drew).T.three
        have f0 := hE.c0
        have f1 := hE.c1
        have f2 := hE.c2
        have hD := ((HS2.out.later (Below.refl _ _).drew).later ((Below.refl _ _).alloc (Nat.le_refl _) (.cells #[.int .i64 pn] 3))).T.three
        have d0 := hD.c0
        have d1 := hD.c1
        have d2 := hD.c2
        clear c0 c1 c2 c3 a0 a1 a2 hD hE
        go_region_with (first | (go_at_call 29; refine HNM.out.mono ?_; rintro y w3 ⟨rfl, hb⟩; have HS3 := Lib.hid (((HS2.out.later (Below.refl _ _).drew).later ((Below.refl _ _).alloc (Nat.le_refl _) (.cells #[.int .i64 pn] 3))).later hb); have y0 := HS3.out.T.three.c0; have y1 := HS3.out.T.three.c1; have y2 := HS3.out.T.three.c2; have z0 := HS3.out.T.three.f0; have z1 := HS3.out.T.three.f1; have z2 := HS3.out.T.three.f2; clear hb))
        all_goals
          go_wp2_with fail
          go_roundg (gk - 1)
          case measure => omega
          case rel => exact ⟨k + 1, _, numL u [pn], by omega, by go_num, Lib.hid (by rw [HNX.out, HX.out]), Lib.hid (HS3.out.put _)⟩
      have e0 : (pk == 0) = false := by simpa using q0
      by_cases q1 : pk = 1
      · have e1 : (pk == 1) = true := by simpa using q1
        have HX := Lib.hid (layP_1 (t := u) (p := ⟨pk, pn, psx, pl⟩) q1)
        simp only at HX
        have HWN := Lib.hid (I.wtext psx HS.out.W HS.out.laid (by omega) (by omega))
        clear q1
        go_wp2_with (go_at_call 20; refine HWN.out.mono ?_; rintro y w2 ⟨rfl, S', k1, k2, k3⟩; have HS2 := Lib.hid (HS.out.moves k1 k2 k3); clear k1 k2 k3)
        have HPC := HOLD.out w2 HS2.out.below
        have c2' := HPC.2.2.1
        simp only at c2'
        clear HPC
        have b0 := HS2.out.T.three.c0
        have b1 := HS2.out.T.three.c1
        have b2 := HS2.out.T.three.c2
        have HNM := Lib.hid (layText_agg u psx (by omega) (by omega) w2.drew)
        have n1 := World.new_ne w2 ⟨w.heap.size + 1, 0, none⟩ b0
        have n2 := Ne.symm n1
        have n3 : w.heap.size + 1 < w2.heap.size := HS2.out.T.lt
        have hE := (HS2.out.later (Below.refl _ _).drew).T.three
        have f0 := hE.c0
        have f1 := hE.c1
        have f2 := hE.c2
        clear c0 c1 c2 c3 a0 a1 a2 hE
        go_region_with (first | (go_at_call 30; refine HNM.out.mono ?_; rintro y w3 ⟨rfl, hb⟩; have HS3 := Lib.hid ((HS2.out.later (Below.refl _ _).drew).later hb); have y0 := HS3.out.T.three.c0; have y1 := HS3.out.T.three.c1; have y2 := HS3.out.T.three.c2; have z0 := HS3.out.T.three.f0; have z1 := HS3.out.T.three.f1; have z2 := HS3.out.T.three.f2; clear hb))
        all_goals
          go_wp2_with fail
          go_roundg (gk - 1)
          case measure => omega
          case rel => exact ⟨k + 1, _, layS u pText (bs (putZ psx.size) ++ psx) 0, by omega, by go_num, Lib.hid (by rw [HNX.out, HX.out]), Lib.hid (HS3.out.put _)⟩
      have e1 : (pk == 1) = false := by simpa using q1
      by_cases q2 : pk = 2
      · have e2 : (pk == 2) = true := by simpa using q2
        have HX := Lib.hid (layP_2 (t := u) (p := ⟨pk, pn, psx, pl⟩) q2)
        simp only at HX
        have HWN := Lib.hid (I.wrow la pl.length lc pl HS.out.W HS.out.laid hla (by omega) hw.2.2.2 (fun h0 b o s e => by
          intro q
          have q2 := HS.out.ge b q
          exact absurd (hlow h0 b o s e) (by omega)) (by omega))
        clear q2
        go_wp2_with (go_at_call 31; refine HWN.out.mono ?_; rintro y w2 ⟨rfl, S', k1, k2, k3⟩; have HS2 := Lib.hid (HS.out.moves k1 k2 k3); clear k1 k2 k3)
        have HPC := HOLD.out w2 HS2.out.below
        obtain ⟨la', lc', c3', hla'⟩ := HPC.2.2.2
        simp only at c3' hla'
        clear HPC
        have b0 := HS2.out.T.three.c0
        have b1 := HS2.out.T.three.c1
        have b2 := HS2.out.T.three.c2
        have HNM := Lib.hid (layRow_agg u la' pl.length lc' pl (by omega) w2.drew (by omega) hw.2.2.2 (hla'.1.later (Below.refl _ _).drew))
        have n1 := World.new_ne w2 ⟨w.heap.size + 1, 0, none⟩ b0
        have n2 := Ne.symm n1
        have n3 : w.heap.size + 1 < w2.heap.size := HS2.out.T.lt
        have hE := (HS2.out.later (Below.refl _ _).drew).T.three
        have f0 := hE.c0
        have f1 := hE.c1
        have f2 := hE.c2
        clear c0 c1 c2 c3 a0 a1 a2 hE
        go_region_with (first | (go_at_call 32; refine HNM.out.mono ?_; rintro y w3 ⟨rfl, hb⟩; have HS3 := Lib.hid ((HS2.out.later (Below.refl _ _).drew).later hb); have y0 := HS3.out.T.three.c0; have y1 := HS3.out.T.three.c1; have y2 := HS3.out.T.three.c2; have z0 := HS3.out.T.three.f0; have z1 := HS3.out.T.three.f1; have z2 := HS3.out.T.three.f2; clear hb))
        all_goals
          go_wp2_with fail
          go_roundg (gk - 1)
          case measure => omega
          case rel => exact ⟨k + 1, _, layS u pRow (bs (rowZ pl)) (rowE pl), by omega, by go_num, Lib.hid (by rw [HNX.out, HX.out]), Lib.hid (HS3.out.put _)⟩
      have e2 : (pk == 2) = false := by simpa using q2
      by_cases q3 : pk = 3
      · have e3 : (pk == 3) = true := by simpa using q3
        have HX := Lib.hid (layP_3 (t := u) (p := ⟨pk, pn, psx, pl⟩) q3)
        simp only at HX
        have HWN := Lib.hid (I.wflag (decide (0 < pn)) HS.out.W HS.out.laid (by omega))
        clear q3
        go_wp2_with (go_at_call 33; refine HWN.out.mono ?_; rintro y w2 ⟨rfl, S', k1, k2, k3⟩; have HS2 := Lib.hid (HS.out.moves k1 k2 k3); clear k1 k2 k3)
        have HPC := HOLD.out w2 HS2.out.below
        have c1' := HPC.2.1
        simp only at c1'
        clear HPC
        have b0 := HS2.out.T.three.c0
        have b1 := HS2.out.T.three.c1
        have b2 := HS2.out.T.three.c2
        have HNM := Lib.hid (layFlag_agg u (decide (0 < pn)) (by omega) w2.drew)
        have n1 := World.new_ne w2 ⟨w.heap.size + 1, 0, none⟩ b0
        have n2 := Ne.symm n1
        have n3 : w.heap.size + 1 < w2.heap.size := HS2.out.T.lt
        have hE := (HS2.out.later (Below.refl _ _).drew).T.three
        have f0 := hE.c0
        have f1 := hE.c1
        have f2 := hE.c2
        clear c0 c1 c2 c3 a0 a1 a2 hE
        go_region_with (first | (go_at_call 34; refine HNM.out.mono ?_; rintro y w3 ⟨rfl, hb⟩; have HS3 := Lib.hid ((HS2.out.later (Below.refl _ _).drew).later hb); have y0 := HS3.out.T.three.c0; have y1 := HS3.out.T.three.c1; have y2 := HS3.out.T.three.c2; have z0 := HS3.out.T.three.f0; have z1 := HS3.out.T.three.f1; have z2 := HS3.out.T.three.f2; clear hb))
        all_goals
          go_wp2_with fail
          go_roundg (gk - 1)
          case measure => omega
          case rel => exact ⟨k + 1, _, layS u pFlag (bitB (decide (0 < pn))) 0, by omega, by go_num, Lib.hid (by rw [HNX.out, HX.out]), Lib.hid (HS3.out.put _)⟩
      have e3 : (pk == 3) = false := by simpa using q3
      have HX := Lib.hid (layP_4 (t := u) (p := ⟨pk, pn, psx, pl⟩) q0 q1 q2 q3)
      clear q0 q1 q2 q3
      go_wp2_with fail
      go_roundg (gk - 1)
      case measure => omega
      case rel => exact ⟨k + 1, S, u, by omega, by go_num, Lib.hid (by rw [HNX.out, HX.out]), HS⟩
    · obtain rfl : k = len := by omega
      have ht : ps.take k = ps := List.take_of_length_le (by rw [HZ.out]; exact Nat.le_refl _)
      have hus := layAll_size ps HM2.out HWF.out (by rw [← HZ.out]; exact hlen)
      rw [ht] at HU
      rw [← HU.out] at hus
      have HD := Lib.hid (I.wdone HS.out.W HS.out.laid (by omega))
      clear hlt ht
      go_wp2_with (go_at_call 21; refine HD.out.mono ?_; rintro y w2 ⟨v, rfl, he, hb⟩; have HS2 := Lib.hid (HS.out.later hb); have HE2 := Lib.hid he; clear he hb)
      have HCO := Lib.hid (show ∀ W, LaySt I w W S u u ∧ ErrIs W v [bWrite, u.p] u.e → Calls Tryz.prog 16 #[v] W fun x w' => x = .returned (.int .i64 u.e) ∧ RowKit.Below W.heap.size W w' from fun W h => h.2.code h.1.laid)
      have HAO := Lib.hid (show u.e ≠ 0 → ∀ W, LaySt I w W S u u ∧ ErrIs W v [bWrite, u.p] u.e → Calls Tryz.prog 22 #[v, .string u.p] W fun x w' => x = .returned (.bool true) ∧ RowKit.Below W.heap.size W w' from fun h0 W h => by
        have := h.2.at h0 (by simp) h.1.laid u.p
        rwa [has_second] at this)
      have HSS := Lib.hid (show LaySt I w w2.drew S u u ∧ ErrIs w2.drew v [bWrite, u.p] u.e from ⟨HS2.out.later (Below.refl _ _).drew, HE2.out.later (Below.refl _ _).drew⟩)
      have x0 := HSS.out.1.T.three.c0
      have x1 := HSS.out.1.T.three.c1
      have x2 := HSS.out.1.T.three.c2
      clear HS HD HS2 HE2
      by_cases qe : u.e = 0
      · have e0 : (u.e == 0) = true := by simpa using qe
        have e1 : ((0 : Int) == u.e) = true := by simpa using qe.symm
        obtain rfl : v = .nilIface := by
          rcases HSS.out.2 with ⟨_, h⟩ | ⟨h, _⟩
          · exact h
          · exact absurd qe h
        clear qe
        have q0 : w2.cell? ⟨w.heap.size + 1, 0, none⟩ = some (.string u.s) := x0
        have q1 : w2.cell? ⟨w.heap.size + 1, 1, none⟩ = some (.string u.p) := x1
        have q2 : w2.cell? ⟨w.heap.size + 1, 2, none⟩ = some (.int .i64 u.e) := x2
        go_quiet (first | (go_at_call 16; refine Calls.quiet_of_same (code_nil2 _)))
        go_wp2_with fail
        go_ret2
        exact ⟨two_sb (by rw [HU.out]), have h := HSS.out.1.below; ⟨h.os, h.tape, h.output, h.size, h.block⟩⟩
      · have e0 : (u.e == 0) = false := by simpa using qe
        have e1 : (u.e == u.e) = true := by simp
        have HAP := Lib.hid (HAO.out qe)
        clear qe
        first | (go_region_held3 (fun w' => w'.cell? ⟨w.heap.size + 1, 0, none⟩ = some (.string u.s) ∧ w'.cell? ⟨w.heap.size + 1, 1, none⟩ = some (.string u.p) ∧ w'.cell? ⟨w.heap.size + 1, 2, none⟩ = some (.int .i64 u.e))
          (first | exact ⟨x0, x1, x2⟩)
          (first | (go_at_call 16; refine (HCO.out _ HSS.out).mono ?_; rintro y w3 ⟨rfl, hb⟩; have HSS := Lib.hid (show LaySt I w w3 S u u ∧ ErrIs w3 v [bWrite, u.p] u.e from ⟨HSS.out.1.later hb, HSS.out.2.later hb⟩); have x0 := HSS.out.1.T.three.c0; have x1 := HSS.out.1.T.three.c1; have x2 := HSS.out.1.T.three.c2; clear hb) | (go_at_call 22; refine (HAP.out _ HSS.out).mono ?_; rintro y w3 ⟨rfl, hb⟩; have HSS := Lib.hid (show LaySt I w w3 S u u ∧ ErrIs w3 v [bWrite, u.p] u.e from ⟨HSS.out.1.later hb, HSS.out.2.later hb⟩); have x0 := HSS.out.1.T.three.c0; have x1 := HSS.out.1.T.three.c1; have x2 := HSS.out.1.T.three.c2; clear hb))) | fail
        go_wp2_with fail
        go_ret2
        exact ⟨two_sb (by rw [HU.out]), HSS.out.1.below⟩
end Go.Proofs.YtegbldkkggpjcaaGreatDoor
