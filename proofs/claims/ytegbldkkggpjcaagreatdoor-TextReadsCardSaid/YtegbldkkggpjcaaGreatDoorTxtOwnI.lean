/- The landed reader's inner readers: a text, a row, a flag, the rest. -/
import Derived.Test.YtegbldkkggpjcaaGreatDoorTxtOwnT
namespace Go.Proofs.YtegbldkkggpjcaaGreatDoor
open Go.RowKit Go.Sort

attribute [local go_sem ↓] Go.wp_at_zero Go.wp_at_succ

theorem unrowZ_at {s : ByteArray} {a most : Int} (h : (unrowZ s a most).2.2 = 0) : 0 ≤ (unrowZ s a most).2.1 ∧ (unrowZ s a most).2.1 ≤ (s.size : Int) := by
  unfold unrowZ at h ⊢
  by_cases q0 : (getZ s a).2.2 = 0
  · obtain ⟨m, n, u, rfl, hm, hp, hg, hmu⟩ := getZ_zero q0
    rw [if_neg (fun h => h q0)] at h ⊢
    split at h
    · simp at h
    · rename_i q1
      rw [if_neg q1]
      split at h
      · rename_i q2
        rw [if_pos q2]
        rw [hg] at q2 ⊢
        simp only [Int.toNat_natCast] at q2 ⊢
        obtain ⟨⟨l, v, e⟩, hl⟩ : ∃ p, items n (s.data.toList.drop ((m : Int) + (u : Int)).toNat) = p := ⟨_, rfl⟩
        rw [hl] at q2 ⊢
        simp only at q2 ⊢
        subst q2
        have h3 := (items_least n hl).2.2.1
        rw [List.length_drop, list_len] at h3
        omega
      · rename_i q2
        exfalso
        apply q2
        simp only at h
        omega
  · rw [if_pos q0] at h
    exact absurd h q0
theorem unrowZ_no {s : ByteArray} {a most : Int} (h : (unrowZ s a most).2.2 ≠ 0) : (unrowZ s a most).1 = [] := by
  unfold unrowZ at h ⊢
  split
  · rfl
  · rename_i q0
    rw [if_neg q0] at h
    split
    · rfl
    · rename_i q1
      rw [if_neg q1] at h
      split
      · rename_i q2
        rw [if_pos q2] at h
        exact absurd rfl h
      · rfl
theorem unrow_own (s : ByteArray) (a most : Int) (w : World) (hs : s.size ≤ 100000) : Calls Tryz.prog 66 #[.string s, .int .i64 a, .int .i64 most] w fun e w' => ∃ v, e = .returned (.tuple #[v, .int .i64 (unrowZ s a most).2.1, .int .i64 (unrowZ s a most).2.2]) ∧ OwnI w' w.heap.size v (unrowZ s a most).1 ∧ RowKit.Below w.heap.size w w' := by
  by_cases q0 : (getZ s a).2.2 = 0
  · obtain ⟨m, n, u, rfl, hm, hp, hg, hmu⟩ := getZ_zero q0
    have hn9 := (parse_least hp).2.2.2
    have hg2 : getZ s (m : Int) = ((n : Int), ((m + u : Nat) : Int), 0) := by rw [hg]; simp
    by_cases q1 : 1000 < (n : Int) ∨ (most < (n : Int) ∧ 0 < (n : Int))
    · exact unrow_big s m most hs n (m + u) hg2 hn9 q1 w
    · exact unrow_ok s m most hs n (m + u) hg2 hmu q1 w
  · exact unrow_err s a most hs q0 w
theorem clone_any (s : ByteArray) (w : World) (hs : s.size ≤ 100000) : Calls Tryz.prog 65 #[.string s] w fun e w' => e = .returned (.string s) ∧ RowKit.Below w.heap.size w w' := by
  have C := Lib.hid (Tryz.stringslite_Clone s w (by omega))
  go_enter Tryz.func65, Tryz.ntmps65
  go_wp2_with (go_at_call 80; refine (C.out).mono ?_; rintro _ w1 ⟨rfl, b1⟩)
  go_ret
  exact ⟨rfl, b1⟩

/-! ### a text -/
def textZ (u : InS) (most : Int) : Int := if textE u most = 0 then (getZ u.s u.pos).2.1 + (getZ u.s u.pos).1 else 0
set_option maxRecDepth 20000 in
set_option maxHeartbeats 1600000 in
theorem itext_any {w B u} (h : RAt w B u) (hq : u.e = 0) (most : Int) (hs : u.s.size ≤ 100000) : Calls Tryz.prog 38 #[.pointer (some ⟨B, 0, none⟩), .int .i64 most] w fun e w' => ∃ v, e = .returned (.tuple #[v, .int .i64 (textZ u most), .int .i64 (textE u most)]) ∧ (textE u most = 0 → v = .string (textT u most)) ∧ RowKit.Below w.heap.size w w' := by
  have HA := Lib.hid h
  have N := Lib.hid (num_any h most hs)
  clear h
  have hT : textT u most = if textE u most = 0 then u.s.extract (getZ u.s u.pos).2.1.toNat ((getZ u.s u.pos).2.1 + (getZ u.s u.pos).1).toNat else ⟨#[]⟩ := by
    unfold textT; simp only [hq, true_and]
  have hZ : textZ u most = if textE u most = 0 then (getZ u.s u.pos).2.1 + (getZ u.s u.pos).1 else 0 := rfl
  by_cases q : (getZ u.s u.pos).2.2 = 0
  · obtain ⟨m, n, k, j1, j2, j3, hg, hu⟩ := getZ_zero q
    clear j1 j2 j3
    obtain ⟨v, hv⟩ : ∃ v : Nat, (m : Int) + (k : Int) = (v : Int) := ⟨m + k, by omega⟩
    rw [hv] at hg
    have i1 : (0 : Int) ≤ (v : Int) := by omega
    have i2 : (v : Int) ≤ (u.s.size : Int) := by omega
    have i5 : (u.s.size : Int) ≤ 100000 := by omega
    have hN : numE u most = if most < (n : Int) then 3 else 0 := by
      unfold numE; rw [hg]; simp only [true_and]
    have hE : textE u most = if most < (n : Int) then 3 else if (u.s.size : Int) - (v : Int) < (n : Int) then 4 else 0 := by
      unfold textE; rw [hg]; simp only [if_true]
    rw [hg] at N hT hZ
    simp only at N hT hZ
    by_cases q3 : most < (n : Int)
    · rw [if_pos q3] at hN hE
      rw [hE, if_neg (by decide)] at hZ
      rw [hN] at N
      rw [hZ, hE]
      clear hg hv q q3 hu hT hN hE
      go_enter Tryz.func38, Tryz.ntmps38
      go_wp2_with (go_at_call 36; refine (N.out).mono ?_; rintro _ w1 ⟨rfl, b1⟩)
      go_ret3
      exact ⟨_, rfl, fun h => absurd h (by decide), b1⟩
    · rw [if_neg q3] at hN hE
      rw [hN] at N
      by_cases q4 : (u.s.size : Int) - (v : Int) < (n : Int)
      · have d4 : decide ((u.s.size : Int) - (v : Int) < (n : Int)) = true := decide_eq_true q4
        rw [if_pos q4] at hE
        rw [hE, if_neg (by decide)] at hZ
        rw [hZ, hE]
        clear hg hv q q3 q4 hu hT hN hE
        go_enter Tryz.func38, Tryz.ntmps38
        go_wp2_with (go_at_call 36; refine (N.out).mono ?_; rintro _ w1 ⟨rfl, b1⟩; have A1 := Lib.hid (HA.out.later b1); have c1 := A1.out.c1)
        go_ret3
        exact ⟨_, rfl, fun h => absurd h (by decide), b1⟩
      · have d4 : decide ((u.s.size : Int) - (v : Int) < (n : Int)) = false := decide_eq_false q4
        rw [if_neg q4] at hE
        rw [hE, if_pos rfl] at hZ hT
        rw [hZ, hE, hT]
        have i3 : (v : Int) + (n : Int) ≤ (u.s.size : Int) := by omega
        have i4 : (0 : Int) ≤ (n : Int) := by omega
        have i6 : (v : Int) ≤ (v : Int) + (n : Int) := by omega
        have i7 : (0 : Int) ≤ (v : Int) + (n : Int) := by omega
        have hwr : IntKind.i64.wrap ((v : Int) + (n : Int)) = (v : Int) + (n : Int) := w64b v n (by omega)
        have hx : u.s.extract (v : Int).toNat ((v : Int) + (n : Int)).toNat = u.s.extract v (v + n) := by congr 1
        have hxs : (u.s.extract v (v + n)).size ≤ 100000 := by rw [ByteArray.size_extract]; omega
        have CL := Lib.hid (fun w => clone_any _ w hxs)
        rw [hx]
        clear hg hv q q3 q4 hu hT hN hE hx hxs
        go_enter Tryz.func38, Tryz.ntmps38
        go_wp2_with (first
          | (go_at_call 36; refine (N.out).mono ?_; rintro _ w1 ⟨rfl, b1⟩; have A1 := Lib.hid (HA.out.later b1); have c1 := A1.out.c1; have B1 := Lib.hid b1; clear b1)
          | (go_at_call 65; refine (CL.out _).mono ?_; rintro _ w2 ⟨rfl, b2⟩))
        go_ret3
        exact ⟨_, rfl, fun _ => rfl, B1.out.trans (b2.mono B1.out.size)⟩
  · have hN : numE u most = (getZ u.s u.pos).2.2 := if_neg (fun h => q h.1)
    have hE : textE u most = (getZ u.s u.pos).2.2 := if_neg q
    rw [hE, if_neg q] at hZ
    rw [hN] at N
    rw [hZ, hE]
    clear hT hN hE hZ
    generalize getZ u.s u.pos = g at *
    obtain ⟨n, v, e⟩ := g
    simp only at N q ⊢
    have d2 : (e == 0) = false := by simpa using q
    have d3 : (e != 0) = true := by simpa using q
    have HQ := Lib.hid q
    clear q
    go_enter Tryz.func38, Tryz.ntmps38
    go_wp2_with (go_at_call 36; refine (N.out).mono ?_; rintro _ w1 ⟨rfl, b1⟩)
    go_ret3
    exact ⟨_, rfl, fun h => absurd h HQ.out, b1⟩

/-! ### a flag, the rest -/
set_option maxRecDepth 20000 in
set_option maxHeartbeats 1600000 in
theorem rest_any {w B u} (h : RAt w B u) (hs : u.s.size ≤ 100000) : Calls Tryz.prog 43 #[.pointer (some ⟨B, 0, none⟩), .int .i64 0] w fun e w' => ∃ v, e = .returned (.tuple #[v, .int .i64 (if u.pos < (u.s.size : Int) then 0 else u.pos), .int .i64 (if u.pos < (u.s.size : Int) then 6 else 0)]) ∧ RowKit.Below w.heap.size w w' := by
  have c1 := h.c1
  have c2 := h.c2
  obtain ⟨_, i1, i2⟩ := h
  have hwr : IntKind.i64.wrap ((u.s.size : Int) - u.pos) = (u.s.size : Int) - u.pos := by
    simp [IntKind.wrap, IntKind.bits, IntKind.signed]; omega
  by_cases q : u.pos < (u.s.size : Int)
  · rw [if_pos q, if_pos q]
    have d : decide (u.pos < (u.s.size : Int)) = true := decide_eq_true q
    clear q
    go_enter Tryz.func43, Tryz.ntmps43
    go_wp2
    go_quiet (fail)
    go_wp2
    go_ret3
    exact ⟨_, rfl, (grew_quiet (Grew.refl w) _).below⟩
  · rw [if_neg q, if_neg q]
    have d : decide (u.pos < (u.s.size : Int)) = false := decide_eq_false q
    clear q
    go_enter Tryz.func43, Tryz.ntmps43
    go_wp2
    go_quiet (fail)
    go_wp2
    go_quiet (fail)
    go_wp2
    go_ret3
    exact ⟨_, rfl, (grew_quiet (grew_quiet (Grew.refl w) _) _).below⟩
def flagZ (u : InS) : Int := if (u.s.size : Int) ≤ u.pos then 0 else if 1 < byteAt u then 0 else u.pos + 1
def flagE (u : InS) : Int := if (u.s.size : Int) ≤ u.pos then 4 else if 1 < byteAt u then 5 else 0
set_option maxRecDepth 20000 in
set_option maxHeartbeats 1600000 in
theorem iflag_any {w B u} (h : RAt w B u) (hq : u.e = 0) (hs : u.s.size ≤ 100000) : Calls Tryz.prog 42 #[.pointer (some ⟨B, 0, none⟩), .int .i64 1] w fun e w' => ∃ v, e = .returned (.tuple #[v, .int .i64 (flagZ u), .int .i64 (flagE u)]) ∧ (flagE u = 0 → v = .bool (flagB u)) ∧ RowKit.Below w.heap.size w w' := by
  have c1 := h.c1
  have c2 := h.c2
  obtain ⟨_, i1, i2⟩ := h
  obtain ⟨s, pos, p, e⟩ := u
  simp only at hq hs i1 i2 c1 c2
  unfold flagZ flagE
  by_cases q : (s.size : Int) ≤ pos
  · obtain rfl : pos = (s.size : Int) := by omega
    simp only [Int.le_refl, if_true]
    clear q
    go_enter Tryz.func42, Tryz.ntmps42
    go_wp2
    go_quiet (fail)
    go_wp2
    go_ret3
    exact ⟨_, rfl, fun h => absurd h (by decide), (grew_quiet (Grew.refl w) _).below⟩
  · simp only [if_neg q]
    obtain ⟨k, rfl⟩ : ∃ k : Nat, pos = (k : Int) := ⟨pos.toNat, by omega⟩
    have hlt : k < s.size := by omega
    have hb0 : byteAt ⟨s, (k : Int), p, e⟩ = (s[k]'hlt).toNat := by
      unfold byteAt
      simp [List.getD, hlt]
      rfl
    obtain ⟨b, hb⟩ : ∃ b : Nat, b = byteAt ⟨s, (k : Int), p, e⟩ := ⟨_, rfl⟩
    have hx : (s[k]'hlt).toNat = b := by rw [hb, hb0]
    have hbl : b < 256 := by rw [← hx]; exact byte_lt _
    have hF := Lib.hid (show ¬ 1 < b → ((b : Int) == 1) = flagB ⟨s, (k : Int), p, e⟩ by
      intro _
      unfold flagB
      rw [decide_eq_true hq, decide_eq_true (by omega : (k : Int) < (s.size : Int)), ← hb, Bool.eq_iff_iff]
      simp
      omega)
    rw [← hb]
    have j1 : ((k : Int) == (s.size : Int)) = false := by simp; omega
    have i3 : (b : Int) < 256 := by omega
    have i4 : (0 : Int) ≤ (b : Int) := by omega
    have i5 : (s.size : Int) ≤ 100000 := by omega
    have i6 : (k : Int) < (s.size : Int) := by omega
    have hwr : IntKind.i64.wrap ((k : Int) + 1) = (k : Int) + 1 := w64 k (by omega)
    by_cases q3 : 1 < b
    · have d3 : decide ((1 : Int) < (b : Int)) = true := decide_eq_true (by omega)
      simp only [if_pos q3]
      clear q q3 hb hb0 hF
      go_enter Tryz.func42, Tryz.ntmps42
      go_wp2
      go_quiet (fail)
      go_wp2
      go_quiet (fail)
      go_wp2
      go_ret3
      exact ⟨_, rfl, fun h => absurd h (by decide), (by first | exact (grew_quiet (Grew.refl w) _).below | exact (grew_quiet (grew_quiet (Grew.refl w) _) _).below | exact (grew_quiet (grew_quiet (grew_quiet (Grew.refl w) _) _) _).below)⟩
    · have d3 : decide ((1 : Int) < (b : Int)) = false := decide_eq_false (by omega)
      simp only [if_neg q3]
      have hF := Lib.hid (hF.out q3)
      clear q q3 hb hb0
      go_enter Tryz.func42, Tryz.ntmps42
      go_wp2
      go_quiet (fail)
      go_wp2
      go_quiet (fail)
      go_wp2
      go_quiet (fail)
      go_wp2
      go_ret3
      exact ⟨_, rfl, fun _ => (by rw [← hF.out]; rfl), (by first | exact (grew_quiet (Grew.refl w) _).below | exact (grew_quiet (grew_quiet (Grew.refl w) _) _).below | exact (grew_quiet (grew_quiet (grew_quiet (Grew.refl w) _) _) _).below)⟩
/-! ### a row -/
set_option maxHeartbeats 1600000 in
theorem irow_any {w B u} (h : RAt w B u) (most : Int) (hs : u.s.size ≤ 100000) : Calls Tryz.prog 40 #[.pointer (some ⟨B, 0, none⟩), .int .i64 most] w fun e w' => ∃ v, e = .returned (.tuple #[v, .int .i64 (unrowZ u.s u.pos most).2.1, .int .i64 (unrowZ u.s u.pos most).2.2]) ∧ OwnI w' w.heap.size v (unrowZ u.s u.pos most).1 ∧ RowKit.Below w.heap.size w w' := by
  have c1 := h.c1
  have c2 := h.c2
  have H := Lib.hid h
  have U := Lib.hid (fun w => unrow_own u.s u.pos most w hs)
  clear h
  generalize unrowZ u.s u.pos most = g at *
  obtain ⟨l, z, e⟩ := g
  simp only at U ⊢
  go_enter Tryz.func40, Tryz.ntmps40
  go_wp2
  go_region_held3 (fun w' => w'.cell? ⟨B, 1, none⟩ = some (.string u.s) ∧ w'.cell? ⟨B, 2, none⟩ = some (.int .i64 u.pos) ∧ Hid (RAt w' B u ∧ RowKit.Below w.heap.size w w'))
    (first
      | exact r_held (r_drew H.out) (Below.refl _ _).drew
      | (go_split_ands; exact r_held ((Hid.out (p := RAt _ B u ∧ RowKit.Below w.heap.size w _) (by assumption)).1.later hb) ((Hid.out (p := RAt _ B u ∧ RowKit.Below w.heap.size w _) (by assumption)).2.trans (hb.mono (Hid.out (p := RAt _ B u ∧ RowKit.Below w.heap.size w _) (by assumption)).2.size))))
    (first
      | (go_at_call 66; go_split_ands; refine (U.out _).mono ?_; rintro y w2 ⟨v, rfl, ho, hb⟩))
  all_goals
    rename_i hh
    obtain ⟨_, _, HX⟩ := hh
    go_wp2
    go_ret3
    exact ⟨_, rfl, ho, HX.out.2⟩
end Go.Proofs.YtegbldkkggpjcaaGreatDoor
