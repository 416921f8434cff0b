/- What the laws of layer 4 ask of the program's own functions, said by the document's answers; and the laws' common probe (awake) upon it. -/
import Derived.Test.YtdihbkhhhonlpaaRngRefC
namespace Go.Proofs.Ytdihbkhhhonlpaa
open Go.RowKit Go.Sort

attribute [local go_sem ↓] Go.wp_at_zero Go.wp_at_succ

/-- A row of ranges as an argument. -/
def ArgA (w : World) (sa : Option Addr) (len cap : Nat) (zs : List (Int × Int)) : Prop := ReadsA w sa len zs ∧ (sa = none → len = 0 ∧ cap = 0) ∧ len ≤ cap
/-- .. as a result. -/
def ResA (w : World) (v : Value) (l : List (Int × Int)) : Prop := ∃ sa cap, v = .slice sa l.length cap ∧ ArgA w sa l.length cap l
theorem ArgA.later {w w' : World} {sa : Option Addr} {len cap : Nat} {zs : List (Int × Int)} (h : ArgA w sa len cap zs) (k : RowKit.Below w.heap.size w w') : ArgA w' sa len cap zs := ⟨h.1.later k, h.2⟩
theorem OwnA.res {w : World} {base : Nat} {v : Value} {l : List (Int × Int)} (h : OwnA w base v l) : ResA w v l := by
  rcases h.form with ⟨rfl, rfl⟩ | ⟨g, cap, rfl, h1, _, _, hc⟩
  · exact ⟨none, 0, rfl, ⟨rfl, fun h => absurd h (by decide)⟩, fun _ => ⟨rfl, rfl⟩, Nat.le_refl _⟩
  · exact ⟨_, cap, rfl, ⟨rfl, fun _ => ⟨g, 0, rfl, fun i hi => by rw [Nat.zero_add]; exact hc i hi⟩⟩, (fun h => by cases h), h1⟩
theorem arg_nil (w : World) : ArgA w none 0 0 [] := ⟨reads_nil w, fun _ => ⟨rfl, rfl⟩, Nat.le_refl _⟩
theorem arg_one (w : World) (x : Int × Int) : ArgA (w.alloc (.cells #[.int .i64 x.1, .int .i64 x.2] 33)) (some ⟨w.heap.size, 0, none⟩) 1 1 [x] := ⟨one_lit w x, (fun h => by cases h), Nat.le_refl _⟩
theorem arg_two (w : World) (x y : Int × Int) : ArgA (w.alloc (.cells #[.int .i64 x.1, .int .i64 x.2, .int .i64 y.1, .int .i64 y.2] 33)) (some ⟨w.heap.size, 0, none⟩) 2 2 [x, y] :=
  ⟨reads_lit w _ [x, y] (fun i hi => by
    match i, hi with
    | 0, _ | 1, _ => exact ⟨rfl, rfl⟩
    | n + 2, h => simp at h; omega), (fun h => by cases h), Nat.le_refl _⟩
theorem arg_three (w : World) (x y z : Int × Int) : ArgA (w.alloc (.cells #[.int .i64 x.1, .int .i64 x.2, .int .i64 y.1, .int .i64 y.2, .int .i64 z.1, .int .i64 z.2] 33)) (some ⟨w.heap.size, 0, none⟩) 3 3 [x, y, z] :=
  ⟨reads_lit w _ [x, y, z] (fun i hi => by
    match i, hi with
    | 0, _ | 1, _ | 2, _ => exact ⟨rfl, rfl⟩
    | n + 3, h => simp at h; omega), (fun h => by cases h), Nat.le_refl _⟩

/-- Each function of package ranges answers as the document's own. -/
structure Impl : Prop where
  check : ∀ (sa : Option Addr) (len cap : Nat) (zs : List (Int × Int)) (w : World), len ≤ 1000 → ArgA w sa len cap zs → Calls Try.prog 8 #[.slice sa len cap] w fun e w' => e = .returned (.int .i64 (chkZ zs)) ∧ RowKit.Below w.heap.size w w'
  has : ∀ (sa : Option Addr) (len cap : Nat) (zs : List (Int × Int)) (n : Int) (w : World), len ≤ 1000 → ArgA w sa len cap zs → Calls Try.prog 10 #[.slice sa len cap, .int .i64 n] w fun e w' => e = .returned (.bool (hasB zs n)) ∧ RowKit.Below w.heap.size w w'
  count : ∀ (sa : Option Addr) (len cap : Nat) (zs : List (Int × Int)) (w : World), len ≤ 1000 → ArgA w sa len cap zs → Calls Try.prog 12 #[.slice sa len cap] w fun e w' => e = .returned (.int .i64 (cntZ zs)) ∧ RowKit.Below w.heap.size w w'
  pref : ∀ (sa : Option Addr) (len cap : Nat) (zs : List (Int × Int)) (n : Int) (w : World), len ≤ 1000 → ArgA w sa len cap zs → Calls Try.prog 14 #[.slice sa len cap, .int .i64 n] w fun e w' => e = .returned (.int .i64 (prefZ zs n)) ∧ RowKit.Below w.heap.size w w'
  gaps : ∀ (sa : Option Addr) (len cap : Nat) (zs : List (Int × Int)) (lo hi : Int) (w : World), len ≤ 1000 → (gapsZ zs lo hi).length ≤ 1000 → ArgA w sa len cap zs → Calls Try.prog 17 #[.slice sa len cap, .int .i64 lo, .int .i64 hi] w fun e w' => ∃ v, e = .returned v ∧ ResA w' v (gapsZ zs lo hi) ∧ RowKit.Below w.heap.size w w'
  add : ∀ (sa : Option Addr) (na ca : Nat) (za : List (Int × Int)) (sb : Option Addr) (nb cb : Nat) (zb : List (Int × Int)) (w : World), na ≤ 1000 → nb ≤ 1000 → (addZ za zb).length ≤ 1000 → ArgA w sa na ca za → ArgA w sb nb cb zb → Calls Try.prog 19 #[.slice sa na ca, .slice sb nb cb] w fun e w' => ∃ v, e = .returned v ∧ ResA w' v (addZ za zb) ∧ RowKit.Below w.heap.size w w'
  less : ∀ (sa : Option Addr) (len cap : Nat) (zs : List (Int × Int)) (r : Int × Int) (w : World), len ≤ 1000 → (lessZ zs r).length ≤ 1000 → ArgA w sa len cap zs → Calls Try.prog 21 #[.slice sa len cap, .agg #[.int .i64 r.1, .int .i64 r.2]] w fun e w' => ∃ v, e = .returned v ∧ ResA w' v (lessZ zs r) ∧ RowKit.Below w.heap.size w w'
  cut : ∀ (sa : Option Addr) (len cap : Nat) (zs : List (Int × Int)) (n : Int) (w : World), len ≤ 1000 → -9223372036854775808 ≤ n → (lessZ zs (1, n)).length ≤ 1000 → ArgA w sa len cap zs → Calls Try.prog 23 #[.slice sa len cap, .int .i64 n] w fun e w' => ∃ v, e = .returned v ∧ ResA w' v (lessZ zs (1, n)) ∧ RowKit.Below w.heap.size w w'

theorem aw_add : addZ [] [(1, 3), (4, 5), (9, 9)] = [(1, 5), (9, 9)] := by decide +kernel
theorem aw_cut : lessZ [(1, 5), (9, 9)] (1, 4) = [(5, 5), (9, 9)] := by decide +kernel
theorem aw_less : lessZ [(1, 5), (9, 9)] (2, 3) = [(1, 1), (4, 5), (9, 9)] := by decide +kernel
theorem aw_gaps : gapsZ [(1, 5), (9, 9)] 4 10 = [(6, 8), (10, 10)] := by decide +kernel
theorem aw_h5 : hasB [(1, 5), (9, 9)] 5 = true := by decide +kernel
theorem aw_h6 : hasB [(1, 5), (9, 9)] 6 = false := by decide +kernel
theorem aw_p0 : prefZ [(1, 5), (9, 9)] 0 = 5 := by decide +kernel
theorem aw_p8 : prefZ [(1, 5), (9, 9)] 8 = 9 := by decide +kernel
theorem aw_p6 : prefZ [(1, 5), (9, 9)] 6 = 6 := by decide +kernel
theorem aw_cnt : cntZ [(1, 5), (9, 9)] = 6 := by decide +kernel
theorem aw_c0 : chkZ [(1, 5), (9, 9)] = 0 := by decide +kernel
theorem aw_c2 : chkZ [(2, 1)] = 2 := by decide +kernel

theorem same_lit2 {w0 wk : World} {s : Option Addr} {c : Nat} {x1 x2 y1 y2 : Int} (h : ArgA w0 s 2 c [(x1, x2), (y1, y2)]) (hb : RowKit.Below w0.heap.size w0 wk) :
    Calls Try.prog 16 #[.slice s 2 c, .slice (some ⟨wk.heap.size, 0, none⟩) 2 2] (wk.alloc (.cells #[.int .i64 x1, .int .i64 x2, .int .i64 y1, .int .i64 y2] 33)) fun e w' => e = .returned (.bool true) ∧ Grew (wk.alloc (.cells #[.int .i64 x1, .int .i64 x2, .int .i64 y1, .int .i64 y2] 33)) w' :=
  same_yes s _ 2 c 2 [(x1, x2), (y1, y2)] _ (by decide) (((h.later hb).1).later ((Below.refl _ _).alloc (Nat.le_refl _) _)) (arg_two wk (x1, x2) (y1, y2)).1
theorem same_lit3 {w0 wk : World} {s : Option Addr} {c : Nat} {x1 x2 y1 y2 z1 z2 : Int} (h : ArgA w0 s 3 c [(x1, x2), (y1, y2), (z1, z2)]) (hb : RowKit.Below w0.heap.size w0 wk) :
    Calls Try.prog 16 #[.slice s 3 c, .slice (some ⟨wk.heap.size, 0, none⟩) 3 3] (wk.alloc (.cells #[.int .i64 x1, .int .i64 x2, .int .i64 y1, .int .i64 y2, .int .i64 z1, .int .i64 z2] 33)) fun e w' => e = .returned (.bool true) ∧ Grew (wk.alloc (.cells #[.int .i64 x1, .int .i64 x2, .int .i64 y1, .int .i64 y2, .int .i64 z1, .int .i64 z2] 33)) w' :=
  same_yes s _ 3 c 3 [(x1, x2), (y1, y2), (z1, z2)] _ (by decide) (((h.later hb).1).later ((Below.refl _ _).alloc (Nat.le_refl _) _)) (arg_three wk (x1, x2) (y1, y2) (z1, z2)).1

set_option maxRecDepth 100000 in
set_option maxHeartbeats 6400000 in
theorem awake_any (I : Impl) (w : World) : Calls Try.prog 7 #[] w fun e w' => e = .returned (.bool true) ∧ RowKit.Below w.heap.size w w' := by
  have n1 : (addZ [] [(1, 3), (4, 5), (9, 9)]).length ≤ 1000 := by rw [aw_add]; decide
  have n2 : (lessZ [(1, 5), (9, 9)] (1, 4)).length ≤ 1000 := by rw [aw_cut]; decide
  have n3 : (lessZ [(1, 5), (9, 9)] (2, 3)).length ≤ 1000 := by rw [aw_less]; decide
  have n4 : (gapsZ [(1, 5), (9, 9)] 4 10).length ≤ 1000 := by rw [aw_gaps]; decide
  have HI := Lib.hid I; clear I
  have N1 := Lib.hid n1; clear n1
  have N2 := Lib.hid n2; clear n2
  have N3 := Lib.hid n3; clear n3
  have N4 := Lib.hid n4; clear n4
  go_enter Try.func7, Try.ntmps7
  go_wp2_with (first
    | (go_at_call 19; (with_reducible refine (HI.out.add none 0 0 [] _ 3 3 [(1, 3), (4, 5), (9, 9)] _ (by decide) (by decide) N1.out (arg_nil _) (arg_three w (1, 3) (4, 5) (9, 9))).mono ?_); rintro e w1 ⟨v1, rfl, h1, hb1⟩; rw [aw_add] at h1; obtain ⟨s1, c1, rfl, h1⟩ := h1; have HA := Lib.hid (show ArgA w1 s1 2 c1 [(1, 5), (9, 9)] from h1); have HW := Lib.hid (((Below.refl w.heap.size w).alloc (Nat.le_refl _) (.cells #[.int .i64 1, .int .i64 3, .int .i64 4, .int .i64 5, .int .i64 9, .int .i64 9] 33)).trans (hb1.mono (by simp))); have HB1 := Lib.hid (Below.refl w1.heap.size w1); clear h1 hb1)
    | (go_at_call 16; (with_reducible refine (same_lit2 HA.out HB1.out).mono ?_); rintro e w2 ⟨rfl, hg⟩; have HB2 := Lib.hid ((HB1.out.alloc HB1.out.size (.cells #[.int .i64 1, .int .i64 5, .int .i64 9, .int .i64 9] 33)).trans (hg.below.mono (Nat.le_trans HB1.out.size (by simp)))); clear hg)
    | (go_at_call 10; (with_reducible refine (HI.out.has s1 2 c1 [(1, 5), (9, 9)] 5 _ (by decide) (HA.out.later HB2.out)).mono ?_); rintro e w3 ⟨rfl, hb⟩; rw [aw_h5]; have HB3 := Lib.hid (HB2.out.trans (hb.mono HB2.out.size)); clear hb)
    | (go_at_call 10; (with_reducible refine (HI.out.has s1 2 c1 [(1, 5), (9, 9)] 6 _ (by decide) (HA.out.later HB3.out)).mono ?_); rintro e w4 ⟨rfl, hb⟩; rw [aw_h6]; have HB4 := Lib.hid (HB3.out.trans (hb.mono HB3.out.size)); clear hb)
    | (go_at_call 14; (with_reducible refine (HI.out.pref s1 2 c1 [(1, 5), (9, 9)] 0 _ (by decide) (HA.out.later HB4.out)).mono ?_); rintro e w5 ⟨rfl, hb⟩; rw [aw_p0]; have HB5 := Lib.hid (HB4.out.trans (hb.mono HB4.out.size)); clear hb)
    | (go_at_call 14; (with_reducible refine (HI.out.pref s1 2 c1 [(1, 5), (9, 9)] 8 _ (by decide) (HA.out.later HB5.out)).mono ?_); rintro e w6 ⟨rfl, hb⟩; rw [aw_p8]; have HB6 := Lib.hid (HB5.out.trans (hb.mono HB5.out.size)); clear hb)
    | (go_at_call 14; (with_reducible refine (HI.out.pref s1 2 c1 [(1, 5), (9, 9)] 6 _ (by decide) (HA.out.later HB6.out)).mono ?_); rintro e w7 ⟨rfl, hb⟩; rw [aw_p6]; have HB7 := Lib.hid (HB6.out.trans (hb.mono HB6.out.size)); clear hb)
    | (go_at_call 12; (with_reducible refine (HI.out.count s1 2 c1 [(1, 5), (9, 9)] _ (by decide) (HA.out.later HB7.out)).mono ?_); rintro e w8 ⟨rfl, hb⟩; rw [aw_cnt]; have HB8 := Lib.hid (HB7.out.trans (hb.mono HB7.out.size)); clear hb)
    | (go_at_call 23; (with_reducible refine (HI.out.cut s1 2 c1 [(1, 5), (9, 9)] 4 _ (by decide) (by decide) N2.out (HA.out.later HB8.out)).mono ?_); rintro e w9 ⟨v9, rfl, h, hb⟩; rw [aw_cut] at h; obtain ⟨s9, c9, rfl, h⟩ := h; have HA9 := Lib.hid (show ArgA w9 s9 2 c9 [(5, 5), (9, 9)] from h); have HB9 := Lib.hid (HB8.out.trans (hb.mono HB8.out.size)); clear h hb)
    | (go_at_call 16; (with_reducible refine (same_lit2 HA9.out (Below.refl _ _)).mono ?_); rintro e w10 ⟨rfl, hg⟩; have HB10 := Lib.hid ((HB9.out.alloc HB9.out.size (.cells #[.int .i64 5, .int .i64 5, .int .i64 9, .int .i64 9] 33)).trans (hg.below.mono (Nat.le_trans HB9.out.size (by simp)))); clear hg)
    | (go_at_call 21; (with_reducible refine (HI.out.less s1 2 c1 [(1, 5), (9, 9)] (2, 3) _ (by decide) N3.out (HA.out.later HB10.out)).mono ?_); rintro e w11 ⟨v11, rfl, h, hb⟩; rw [aw_less] at h; obtain ⟨s11, c11, rfl, h⟩ := h; have HA11 := Lib.hid (show ArgA w11 s11 3 c11 [(1, 1), (4, 5), (9, 9)] from h); have HB11 := Lib.hid (HB10.out.trans (hb.mono HB10.out.size)); clear h hb)
    | (go_at_call 16; (with_reducible refine (same_lit3 HA11.out (Below.refl _ _)).mono ?_); rintro e w12 ⟨rfl, hg⟩; have HB12 := Lib.hid ((HB11.out.alloc HB11.out.size (.cells #[.int .i64 1, .int .i64 1, .int .i64 4, .int .i64 5, .int .i64 9, .int .i64 9] 33)).trans (hg.below.mono (Nat.le_trans HB11.out.size (by simp)))); clear hg)
    | (go_at_call 17; (with_reducible refine (HI.out.gaps s1 2 c1 [(1, 5), (9, 9)] 4 10 _ (by decide) N4.out (HA.out.later HB12.out)).mono ?_); rintro e w13 ⟨v13, rfl, h, hb⟩; rw [aw_gaps] at h; obtain ⟨s13, c13, rfl, h⟩ := h; have HA13 := Lib.hid (show ArgA w13 s13 2 c13 [(6, 8), (10, 10)] from h); have HB13 := Lib.hid (HB12.out.trans (hb.mono HB12.out.size)); clear h hb)
    | (go_at_call 16; (with_reducible refine (same_lit2 HA13.out (Below.refl _ _)).mono ?_); rintro e w14 ⟨rfl, hg⟩; have HB14 := Lib.hid ((HB13.out.alloc HB13.out.size (.cells #[.int .i64 6, .int .i64 8, .int .i64 10, .int .i64 10] 33)).trans (hg.below.mono (Nat.le_trans HB13.out.size (by simp)))); clear hg)
    | (go_at_call 8; (with_reducible refine (HI.out.check s1 2 c1 [(1, 5), (9, 9)] _ (by decide) (HA.out.later HB14.out)).mono ?_); rintro e w15 ⟨rfl, hb⟩; rw [aw_c0]; have HB15 := Lib.hid (HB14.out.trans (hb.mono HB14.out.size)); clear hb)
    | (go_at_call 8; (with_reducible refine (HI.out.check _ 1 1 [(2, 1)] _ (by decide) (arg_one w15 (2, 1))).mono ?_); rintro e w16 ⟨rfl, hb⟩; rw [aw_c2]; have HB16 := Lib.hid ((HB15.out.alloc HB15.out.size (.cells #[.int .i64 2, .int .i64 1] 33)).trans (hb.mono (Nat.le_trans HB15.out.size (by simp)))); clear hb))
  go_ret
  exact ⟨rfl, HW.out.trans (HB16.out.mono HW.out.size)⟩
end Go.Proofs.Ytdihbkhhhonlpaa
