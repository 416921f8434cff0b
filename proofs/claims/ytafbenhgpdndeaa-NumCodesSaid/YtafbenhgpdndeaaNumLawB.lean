/- The walk of the law NumBack, upon the program's functions (Impl). -/
import Derived.Test.YtafbenhgpdndeaaNumLawC
namespace Go.Proofs.Ytafbenhgpdndeaa
open Go.RowKit Go.Sort

attribute [local go_sem ↓] Go.wp_at_zero Go.wp_at_succ

theorem mid_drop (a : ByteArray) (p : List UInt8) (b : ByteArray) : (a ++ bs p ++ b).data.toList.drop a.size = p ++ b.data.toList := by
  have e : (a ++ bs p ++ b).data.toList = a.data.toList ++ (p ++ b.data.toList) := by simp [ByteArray.data_append, bs]
  rw [e, ← list_len, List.drop_left]
theorem mid_size (a : ByteArray) (p : List UInt8) (b : ByteArray) : (a ++ bs p ++ b).size = a.size + p.length + b.size := by
  rw [ByteArray.size_append, ByteArray.size_append, bs_size]
theorem back_get (a : ByteArray) (x : Int) (b : ByteArray) (h : 0 ≤ x) (hm : x ≤ 9223372036854775807) : getZ (a ++ bs (putZ x) ++ b) a.size = (x, (a.size : Int) + ((putZ x).length : Nat), 0) := by
  have e : putZ x = putL x.toNat := by unfold putZ; rw [if_neg (by omega)]
  rw [e]
  have hp := parse_put x.toNat (by omega) b.data.toList
  rw [← mid_drop a (putL x.toNat) b] at hp
  have := getZ_ok (by rw [mid_size]; omega) hp
  rw [this, show ((x.toNat : Nat) : Int) = x by omega]
theorem flat_nats : ∀ (l : List Int), (∀ x ∈ l, 0 ≤ x) → l.flatMap putZ = (l.map Int.toNat).flatMap putL := by
  intro l
  induction l with
  | nil => intro _; rfl
  | cons x t ih =>
    intro h
    have hx := h x (by simp)
    rw [List.flatMap_cons, List.map_cons, List.flatMap_cons, ih fun y hy => h y (by simp [hy])]
    congr 1
    unfold putZ; rw [if_neg (by omega)]
theorem okL_nats {l : List Int} (h : okL l = true) : l.flatMap putZ = (l.map Int.toNat).flatMap putL ∧ (l.map Int.toNat).map Int.ofNat = l := by
  have h' := List.all_eq_true.1 h
  constructor
  · exact flat_nats l fun x hx => by have := h' x hx; simpa using this
  · rw [List.map_map]
    conv => rhs; rw [← List.map_id l]
    refine List.map_congr_left fun x hx => ?_
    have := h' x hx
    simp at this
    show ((x.toNat : Nat) : Int) = x
    omega
theorem back_unrow (a : ByteArray) (l : List Int) (b : ByteArray) (h : okL l = true) (hl : l.length ≤ 1000) (hm : ∀ x ∈ l, x ≤ 9223372036854775807) : unrowZ (a ++ bs (rowP l) ++ b) a.size l.length = (l, (a.size : Int) + ((rowP l).length : Nat), 0) := by
  obtain ⟨e1, e2⟩ := okL_nats h
  have hp := parse_put l.length (by omega) (l.flatMap putZ ++ b.data.toList)
  rw [← List.append_assoc, show putL l.length ++ l.flatMap putZ = rowP l from rfl, ← mid_drop a (rowP l) b] at hp
  have hg := getZ_ok (s := a ++ bs (rowP l) ++ b) (a := a.size) (by rw [mid_size]; omega) hp
  have hd : (a ++ bs (rowP l) ++ b).data.toList.drop (a.size + (putL l.length).length) = (l.map Int.toNat).flatMap putL ++ b.data.toList := by
    rw [← List.drop_drop, mid_drop, show rowP l = putL l.length ++ l.flatMap putZ from rfl, List.append_assoc, List.drop_left, e1]
  have hi := items_put (l.map Int.toNat) b.data.toList (fun x hx => by
    obtain ⟨y, hy, rfl⟩ := List.mem_map.1 hx
    have := hm y hy; omega)
  rw [List.length_map] at hi
  unfold unrowZ
  rw [hg]
  simp only
  rw [if_neg (by simp), if_neg (by omega), Int.toNat_natCast, show ((a.size : Int) + ((putL l.length).length : Nat)).toNat = a.size + (putL l.length).length by omega, hd, hi]
  simp only
  rw [if_pos trivial, e2, ← e1]
  simp only [Prod.mk.injEq, true_and, and_true]
  rw [show rowP l = putL l.length ++ l.flatMap putZ from rfl, List.length_append]
  omega

theorem back_long (I : Impl) (sa : Option Addr) (len cap : Nat) (a b : ByteArray) (w : World) (hm : 100 < len ∨ 1000 < a.size ∨ 1000 < b.size) :
    Calls Try.prog 5 #[.slice sa len cap, .string a, .string b] w fun e w' => e = .returned (.bool true) ∧ RowKit.Below w.heap.size w w' := by
  have HI := Lib.hid I; clear I
  by_cases q : 100 < len
  · have hm3 : decide ((len : Int) > 100) = true := decide_eq_true (by omega)
    clear hm q
    go_enter Try.func5, Try.ntmps5
    go_wp2_with (go_at_call 7; refine (awake_any HI.out _).mono ?_; rintro e w1 ⟨rfl, hb⟩)
    go_ret
    exact ⟨rfl, hb⟩
  have hm3 : decide ((len : Int) > 100) = false := decide_eq_false (by omega)
  by_cases q2 : 1000 < a.size
  · have hm4 : decide ((a.size : Int) > 1000) = true := decide_eq_true (by omega)
    clear hm q q2
    go_enter Try.func5, Try.ntmps5
    go_wp2_with (go_at_call 7; refine (awake_any HI.out _).mono ?_; rintro e w1 ⟨rfl, hb⟩)
    go_ret
    exact ⟨rfl, hb⟩
  · have hm4 : decide ((a.size : Int) > 1000) = false := decide_eq_false (by omega)
    have hm5 : decide ((b.size : Int) > 1000) = true := decide_eq_true (by omega)
    clear hm q q2
    go_enter Try.func5, Try.ntmps5
    go_wp2_with (go_at_call 7; refine (awake_any HI.out _).mono ?_; rintro e w1 ⟨rfl, hb⟩)
    go_ret
    exact ⟨rfl, hb⟩

set_option maxRecDepth 100000 in
set_option maxHeartbeats 6400000 in
theorem back_walk (I : Impl) (sa : Option Addr) (len cap : Nat) (l : List Int) (a b : ByteArray) (w : World) (hlen : len ≤ 100) (ha : a.size ≤ 1000) (hb : b.size ≤ 1000) (hwf : ∀ x ∈ l, x ≤ 9223372036854775807) (hA : ArgI w sa len cap l) :
    Calls Try.prog 5 #[.slice sa len cap, .string a, .string b] w fun e w' => e = .returned (.bool true) ∧ RowKit.Below w.heap.size w w' := by
  have hm3 : decide ((len : Int) > 100) = false := decide_eq_false (by omega)
  have hm4 : decide ((a.size : Int) > 1000) = false := decide_eq_false (by omega)
  have hm5 : decide ((b.size : Int) > 1000) = false := decide_eq_false (by omega)
  have HI := Lib.hid I; clear I
  have HWF := Lib.hid hwf; clear hwf
  have HZ := Lib.hid hA.1.1
  have HA := Lib.hid hA; clear hA
  have N1 := Lib.hid (show len ≤ 10000 by omega)
  go_enter Try.func5, Try.ntmps5
  go_wp2
  go_loopg [7] len (fun gg i wr => ∃ k : Nat, k + gg = len ∧ i = .int .i64 k ∧ Hid (RowKit.Below w.heap.size w wr))
  case atStart => exact ⟨0, by omega, rfl, Lib.hid (Below.refl _ _)⟩
  case round =>
    obtain ⟨k, hk, rfl, HB⟩ := hrel
    by_cases hlt : k < len
    · obtain ⟨bl, off, rfl, g⟩ := (HA.out.later HB.out).1.2 (by omega)
      have l0 := g k hlt
      clear g
      have hkl : k < l.length := by rw [← HZ.out]; exact hlt
      have hmem : l.getD k 0 ∈ l := by rw [List.getD_eq_getElem?_getD, List.getElem?_eq_getElem hkl]; exact List.getElem_mem hkl
      have hxm := HWF.out _ hmem
      have h9 := putZ_len _ hxm
      generalize l.getD k 0 = x at *
      have HX := Lib.hid hxm
      have HGB := Lib.hid (fun h => back_get a x b h hxm)
      have hsz := mid_size a (putZ x) b
      obtain ⟨T, hT⟩ : ∃ T, T = bs (putZ x) := ⟨_, rfl⟩
      have hTs : T.size = (putZ x).length := by rw [hT, bs_size]
      rw [← hT] at HGB hsz
      have HT := Lib.hid hT
      rw [← hTs] at HGB hsz h9
      have NS := Lib.hid (show (a ++ T ++ b).size ≤ 100000 by omega)
      have hs2 : ¬ (a.size + T.size > 9223372036854775807) := by omega
      have hs3 : ¬ (a.size + T.size + b.size > 9223372036854775807) := by omega
      have i1 : (0 : Int) ≤ (k : Int) := by omega
      have i2 : (k : Int) < (len : Int) := by omega
      have i3 : (a.size : Int) ≤ 1000 := by omega
      have i4 : (T.size : Int) ≤ 9 := by omega
      clear hT hTs hsz hxm hkl
      by_cases q : 0 ≤ x
      · have d1 : decide (x ≥ 0) = true := decide_eq_true q
        have HE := Lib.hid (show putE x = 0 from if_neg (by omega))
        have HG := Lib.hid (HGB.out q)
        clear q
        go_wp2_with (first
          | (go_at_call 8; (with_reducible refine (HI.out.put x _ HX.out).mono ?_); rintro e w1 ⟨rfl, hb1⟩; rw [HE.out, ← HT.out]; have HB1 := Lib.hid (HB.out.trans (hb1.mono HB.out.size)); have m0 := (hb1.cell (World.block_lt_of_cell? _ _ l0)).trans l0; clear hb1)
          | (go_at_call 10; (with_reducible refine (HI.out.get (a ++ T ++ b) a.size _ NS.out).mono ?_); rintro e w2 ⟨rfl, hb2⟩; rw [HG.out]; have HB2 := Lib.hid (HB1.out.trans (hb2.mono HB1.out.size)); have p0 := (hb2.cell (World.block_lt_of_cell? _ _ m0)).trans m0; clear hb2))
        go_roundg (gk - 1)
        case measure => omega
        case rel => exact ⟨k + 1, by omega, by go_num, HB2⟩
      · have d1 : decide (x ≥ 0) = false := decide_eq_false q
        have HE := Lib.hid (show putE x = 2 from if_pos (by omega))
        clear q
        go_wp2_with (first
          | (go_at_call 8; (with_reducible refine (HI.out.put x _ HX.out).mono ?_); rintro e w1 ⟨rfl, hb1⟩; rw [HE.out, ← HT.out]; have HB1 := Lib.hid (HB.out.trans (hb1.mono HB.out.size)); have m0 := (hb1.cell (World.block_lt_of_cell? _ _ l0)).trans l0; clear hb1)
          | (go_at_call 10; (with_reducible refine (HI.out.get (a ++ T ++ b) a.size _ NS.out).mono ?_); rintro e w2 ⟨rfl, hb2⟩; have HB2 := Lib.hid (HB1.out.trans (hb2.mono HB1.out.size)); have p0 := (hb2.cell (World.block_lt_of_cell? _ _ m0)).trans m0; clear hb2))
        go_roundg (gk - 1)
        case measure => omega
        case rel => exact ⟨k + 1, by omega, by go_num, HB2⟩
    · obtain rfl : k = len := by omega
      clear hlt
      by_cases ok : okL l = true
      · have HE := Lib.hid (show rowE l = 0 from if_pos ok)
        have hU := back_unrow a l b ok (by have := HZ.out; omega) HWF.out
        have hfl := flat_len l HWF.out
        have hpl := putL_len l.length (by have := HZ.out; omega)
        have hsz := mid_size a (rowP l) b
        have hrl : (rowP l).length = (putL l.length).length + (l.flatMap putZ).length := by rw [show rowP l = putL l.length ++ l.flatMap putZ from rfl, List.length_append]
        obtain ⟨T, hT⟩ : ∃ T, T = bs (rowP l) := ⟨_, rfl⟩
        have hTs : T.size = (rowP l).length := by rw [hT, bs_size]
        have HT := Lib.hid (show bs (rowZ l) = T by rw [hT]; unfold rowZ; rw [if_pos ok])
        rw [← hT] at hU hsz
        rw [← hTs] at hU hsz hrl
        rw [← HZ.out] at hU hfl
        have hT1 : T.size ≤ 1000 := by omega
        have NS := Lib.hid (show (a ++ T ++ b).size ≤ 100000 by omega)
        have hs2 : ¬ (a.size + T.size > 9223372036854775807) := by omega
        have hs3 : ¬ (a.size + T.size + b.size > 9223372036854775807) := by omega
        have i3 : (a.size : Int) ≤ 1000 := by omega
        have i4 : (T.size : Int) ≤ 1000 := by omega
        have HU := Lib.hid hU
        clear ok hU hfl hpl hsz hrl hT hTs
        go_wp2_with (first
          | (go_at_call 13; (with_reducible refine (HI.out.row sa k cap l _ N1.out HWF.out (HA.out.later HB.out)).mono ?_); rintro e w1 ⟨rfl, hb1⟩; rw [HE.out, HT.out]; have HB1 := Lib.hid (HB.out.trans (hb1.mono HB.out.size)); clear hb1)
          | (go_at_call 15; (with_reducible refine (HI.out.unrow (a ++ T ++ b) a.size k _ NS.out).mono ?_); rintro e w2 ⟨v, rfl, h, hb2⟩; rw [HU.out] at h ⊢; obtain ⟨s2, k2, rfl, h⟩ := h; rw [← HZ.out] at h ⊢; have HR2 := Lib.hid h; have HB2 := Lib.hid (HB1.out.trans (hb2.mono HB1.out.size)); clear h hb2)
          | (go_at_call 17; refine (same_ints s2 sa k k2 cap l _ N1.out HR2.out.1 (HA.out.later HB2.out).1).mono ?_; rintro e w3 ⟨rfl, hg⟩; have HB3 := Lib.hid (HB2.out.trans (hg.below.mono HB2.out.size)); clear hg)
          | (go_at_call 7; refine (awake_any HI.out _).mono ?_; rintro e w4 ⟨rfl, hb4⟩; have HB4 := Lib.hid (HB3.out.trans (hb4.mono HB3.out.size)); clear hb4))
        go_ret
        exact ⟨rfl, HB4.out⟩
      · have HE := Lib.hid (show rowE l = 2 from if_neg ok)
        have HT := Lib.hid (show bs (rowZ l) = ⟨#[]⟩ by unfold rowZ; rw [if_neg ok]; rfl)
        clear ok
        go_wp2_with (first
          | (go_at_call 13; (with_reducible refine (HI.out.row sa k cap l _ N1.out HWF.out (HA.out.later HB.out)).mono ?_); rintro e w1 ⟨rfl, hb1⟩; rw [HE.out, HT.out]; have HB1 := Lib.hid (HB.out.trans (hb1.mono HB.out.size)); clear hb1)
          | (go_at_call 7; refine (awake_any HI.out _).mono ?_; rintro e w4 ⟨rfl, hb4⟩; have HB4 := Lib.hid (HB1.out.trans (hb4.mono HB1.out.size)); clear hb4))
        go_ret
        exact ⟨rfl, HB4.out⟩
end Go.Proofs.Ytafbenhgpdndeaa
