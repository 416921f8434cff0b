/- The contracts of the document's SameAtts and of the laws' common probe (awake). -/
import Derived.Test.YtcgnodkbmpkhkaaIdentSort
import Derived.Test.YtcgnodkbmpkhkaaIdentNext
import Derived.Deep.QuietTactic
import Derived.BigQuiet
namespace Go.Proofs.Ytcgnodkbmpkhkaa
open Go.RowKit Go.Sort

set_option maxHeartbeats 1600000 in
theorem same_yes (sa sb : Option Addr) (len ca cb : Nat) (zs : List (Int × Int)) (w : World) (hm : len ≤ 1000) (ha : ReadsA w sa len zs) (hb : ReadsA w sb len zs) :
    Calls Try.prog 15 #[.slice sa len ca, .slice sb len cb] w fun e w' => e = .returned (.bool true) ∧ Grew w w' := by
  have hmix := mixed
  have e0 : ((len : Int) != (len : Int)) = false := by simp
  have HA := Lib.hid ha; clear ha
  have HB := Lib.hid hb; clear hb
  go_enter Try.func15, Try.ntmps15
  go_wp2
  go_loopw [5] (fun i wr => ∃ k : Nat, k ≤ len ∧ i = .int .i64 k ∧ Grew w wr) (fun i _ => len - (intOf i).toNat)
  case atStart => exact ⟨0, Nat.zero_le _, rfl, Grew.refl _⟩
  case round =>
    obtain ⟨k, hk, rfl, hg⟩ := hrel
    by_cases hlt : k < len
    · obtain ⟨ba, oa, rfl, ga⟩ := (HA.out.later hg.below).2 (by omega)
      obtain ⟨bb, ob, rfl, gb⟩ := (HB.out.later hg.below).2 (by omega)
      obtain ⟨l0, l1⟩ := ga k hlt
      obtain ⟨l2, l3⟩ := gb k hlt
      clear ga gb
      generalize zs.getD k (0, 0) = x at *
      go_wp2
      go_quiet (fail)
      go_wp2
      go_roundw
      case rel => exact ⟨k + 1, by omega, by go_num, hg.trans ⟨nq, #[], by rw [grow_empty]⟩⟩
      case measure => simp [intOf]; omega
    · obtain rfl : k = len := by omega
      go_wp2
      go_ret
      exact ⟨rfl, hg⟩

theorem make_lit (w : World) : Calls Try.prog 8 #[.int .i64 3, .int .i64 12] w fun e w' => e = .returned (.tuple #[.int .i64 123, .int .i64 0]) ∧ w = w' := make_yes 3 12 (by decide) w
theorem next_lit (b s n a e : Int) (ha : nxA b s n = a) (he : nxE b s n = e) (w : World) : Calls Try.prog 20 #[.int .i64 b, .int .i64 s, .int .i64 n] w fun r w' => r = .returned (.tuple #[.int .i64 a, .int .i64 e]) ∧ Grew w w' := by
  subst ha he; exact next_any b s n w
theorem self_lit (w : World) : Calls Try.prog 11 #[.int .i64 123] w fun e w' => e = .returned (.int .i64 3) ∧ w = w' := self_yes 123 (by decide) w
theorem seq_lit (w : World) : Calls Try.prog 12 #[.int .i64 123] w fun e w' => e = .returned (.int .i64 12) ∧ w = w' := seq_yes 123 (by decide) w
theorem owner_lit (w : World) : Calls Try.prog 22 #[.int .i64 5, .int .i64 3] w fun e w' => e = .returned (.int .i64 2) ∧ Grew w w' := owner_yes 5 3 (by decide) w
theorem reads_lit (w : World) (c : Array Value) (zs : List (Int × Int)) (h : ∀ i, i < zs.length → c[i * 2]? = some (.int .i64 (zs.getD i (0, 0)).1) ∧ c[i * 2 + 1]? = some (.int .i64 (zs.getD i (0, 0)).2)) :
    ReadsA (w.alloc (.cells c 34)) (some ⟨w.heap.size, 0, none⟩) zs.length zs :=
  ⟨rfl, fun _ => ⟨_, 0, rfl, fun i hi => by
    rw [World.cell?_alloc_at _ _ _ _ rfl, World.cell?_alloc_at _ _ _ _ rfl]
    simpa using h i hi⟩⟩
theorem three (c : Array Value) (x y z : Int × Int) (h : c = #[.int .i64 x.1, .int .i64 x.2, .int .i64 y.1, .int .i64 y.2, .int .i64 z.1, .int .i64 z.2]) : ∀ i, i < [x, y, z].length → c[i * 2]? = some (.int .i64 ([x, y, z].getD i (0, 0)).1) ∧ c[i * 2 + 1]? = some (.int .i64 ([x, y, z].getD i (0, 0)).2) := by
  subst h
  intro i hi
  match i, hi with
  | 0, _ | 1, _ | 2, _ => exact ⟨rfl, rfl⟩
  | n + 3, h => simp at h; omega

theorem reads_two {w : World} {b off : Nat} (h : ReadsA w (some ⟨b, off, none⟩) 3 [(1, 11), (1, 12), (2, 11)]) : w.cell? ⟨b, off, none⟩ = some (.int .i64 1) ∧ w.cell? ⟨b, off + 1, none⟩ = some (.int .i64 11) ∧ w.cell? ⟨b, off + 2, none⟩ = some (.int .i64 1) ∧ w.cell? ⟨b, off + 2 + 1, none⟩ = some (.int .i64 12) := by
  obtain ⟨b', off', e, g⟩ := h.2 (by decide)
  simp only [Option.some.injEq, Addr.mk.injEq] at e
  obtain ⟨rfl, rfl, _⟩ := e
  have g0 := g 0 (by decide)
  have g1 := g 1 (by decide)
  simp at g0 g1
  exact ⟨g0.1, g0.2, g1.1, g1.2⟩
theorem reads_next {w4 w5 : World} {b off : Nat} (h : ReadsA w4 (some ⟨b, off, none⟩) 3 [(1, 11), (1, 12), (2, 11)]) (g : Grew w4.drew w5) (c : Obj) : ReadsA (w5.alloc c) (some ⟨b, off, none⟩) 3 [(1, 11), (1, 12), (2, 11)] :=
  (h.later (((RowKit.Below.refl _ w4).drew).trans g.below)).later ((RowKit.Below.refl w5.heap.size w5).alloc (Nat.le_refl _) c)
theorem sortL_three : sortL [(2, 11), (1, 12), (1, 11)] = [(1, 11), (1, 12), (2, 11)] := by
  have h : SortsTo [((2 : Int), (11 : Int)), (1, 12), (1, 11)].toArray #[(1, 11), (1, 12), (2, 11)] := by
    refine ⟨⟨rfl, fun i hi => ?_, by decide⟩, fun i j _ hij hj => ?_⟩
    · match i, hi with
      | i + 3, _ => rfl
    · have q : (i = 0 ∧ j = 1) ∨ (i = 0 ∧ j = 2) ∨ (i = 1 ∧ j = 2) := by simp at hj; omega
      rcases q with ⟨rfl, rfl⟩ | ⟨rfl, rfl⟩ | ⟨rfl, rfl⟩ <;> decide
  exact (sorted_is h).symm

theorem same_lit (w4 w5 : World) (b off cap : Nat) (h : ReadsA w4 (some ⟨b, off, none⟩) 3 [(1, 11), (1, 12), (2, 11)]) (g : Grew w4.drew w5) :
    Calls Try.prog 15 #[.slice (some ⟨b, off, none⟩) 3 cap, .slice (some ⟨w5.heap.size, 0, none⟩) 3 3] (w5.alloc (.cells #[.int .i64 1, .int .i64 11, .int .i64 1, .int .i64 12, .int .i64 2, .int .i64 11] 34)) fun e w' => e = .returned (.bool true) ∧
      Grew w4.drew w' ∧ w'.cell? ⟨b, off, none⟩ = some (.int .i64 1) ∧ w'.cell? ⟨b, off + 1, none⟩ = some (.int .i64 11) ∧ w'.cell? ⟨b, off + 2, none⟩ = some (.int .i64 1) ∧ w'.cell? ⟨b, off + 2 + 1, none⟩ = some (.int .i64 12) := by
  have hr := reads_next h g (.cells #[.int .i64 1, .int .i64 11, .int .i64 1, .int .i64 12, .int .i64 2, .int .i64 11] 34)
  refine (same_yes _ _ 3 cap 3 [(1, 11), (1, 12), (2, 11)] _ (by decide) hr (reads_lit w5 _ [(1, 11), (1, 12), (2, 11)] (three _ (1, 11) (1, 12) (2, 11) rfl))).mono ?_
  rintro e w6 ⟨rfl, g6⟩
  exact ⟨rfl, (g.alloc _).trans g6, reads_two (hr.later g6.below)⟩
theorem less_lit (w : World) : Calls Try.prog 18 #[.agg #[.int .i64 1, .int .i64 11], .agg #[.int .i64 1, .int .i64 12]] w fun e w' => e = .returned (.bool true) ∧ Grew w w' := less_any (1, 11) (1, 12) w

set_option maxHeartbeats 6400000 in
theorem awake_any (w : World) : Calls Try.prog 14 #[] w fun e w' => e = .returned (.bool true) ∧ RowKit.Below w.heap.size w w' := by
  go_enter Try.func14, Try.ntmps14
  go_wp2_with fail
  refine (make_lit _).mono ?_; rintro e w' ⟨rfl, rfl⟩
  go_wp2_with fail
  refine (next_lit 0 2 3 5 0 (by decide +kernel) (by decide +kernel) _).mono ?_; rintro e w1 ⟨rfl, g1⟩
  go_wp2_with fail
  refine (next_lit 5 2 3 8 0 (by decide +kernel) (by decide +kernel) _).mono ?_; rintro e w2 ⟨rfl, g2⟩
  go_wp2_with fail
  refine (next_lit 1000000 1 3 0 8 (by decide +kernel) (by decide +kernel) _).mono ?_; rintro e w3 ⟨rfl, g3⟩
  have G3 := Lib.hid ((g1.trans g2).trans g3)
  clear g1 g2 g3
  go_wp2_with fail
  refine (sort_some w3.heap.size 0 3 3 [(2, 11), (1, 12), (1, 11)] _ (by decide) (pdq_small 3 (by decide)) (reads_lit w3 _ [(2, 11), (1, 12), (1, 11)] (three _ (2, 11) (1, 12) (1, 11) rfl))).mono ?_; rintro e w4 ⟨sa, cap, rfl, hr, hb⟩
  rw [sortL_three] at hr
  have HB := Lib.hid (((G3.out.below).alloc G3.out.below.size (.cells #[.int .i64 2, .int .i64 11, .int .i64 1, .int .i64 12, .int .i64 1, .int .i64 11] 34)).trans (hb.mono (Nat.le_trans G3.out.below.size (by simp))))
  clear hb G3
  obtain ⟨b, off, rfl, _⟩ := hr.2 (by decide)
  have HR := Lib.hid hr
  clear hr
  go_wp2_with fail
  refine wp_region_any (by kernel_rfl) ?_
  (try (change wpAny _ _ _ _ _ _ _ (World.drew _)))
  refine wpAny_ready (rs := [0]) (by kernel_rfl) (by simp) ?_
  refine AllReady.cons rfl (fun K hK => ?_) AllReady.nil
  go_simp
  refine hK _ _ ?_
  clear hK K
  refine wpAny_ready (rs := [1]) (by kernel_rfl) (by simp) ?_
  refine AllReady.cons rfl (fun K hK => ?_) AllReady.nil
  go_simp
  refine hK _ _ ?_
  clear hK K
  refine wpAny_ready (rs := [2]) (by kernel_rfl) (by simp) ?_
  refine AllReady.cons rfl (fun K hK => ?_) AllReady.nil
  go_simp
  refine hK _ _ ?_
  clear hK K
  refine wpAny_ready (rs := [3]) (by kernel_rfl) (by simp) ?_
  refine AllReady.cons rfl (fun K hK => ?_) AllReady.nil
  go_simp
  refine hK _ _ ?_
  clear hK K
  refine wpAny_ready (rs := [4]) (by kernel_rfl) (by simp) ?_
  refine AllReady.cons rfl (fun K hK => ?_) AllReady.nil
  go_simp
  refine hK _ _ ?_
  clear hK K
  refine wpAny_ready (rs := [5]) (by kernel_rfl) (by simp) ?_
  refine AllReady.cons rfl (fun K hK => ?_) AllReady.nil
  go_simp
  refine hK _ _ ?_
  clear hK K
  refine wpAny_ready (rs := [6]) (by kernel_rfl) (by simp) ?_
  refine AllReady.cons rfl (fun K hK => ?_) AllReady.nil
  go_simp
  refine hK _ _ ?_
  clear hK K
  refine wpAny_ready (rs := [7]) (by kernel_rfl) (by simp) ?_
  refine AllReady.cons rfl (fun K hK => ?_) AllReady.nil
  go_simp
  go_wp2_with fail
  refine (self_lit _).mono ?_
  rintro e w1 ⟨rfl, rfl⟩
  go_wp2_with fail
  (try refine hK _ _ ?_)
  (try clear hK K)
  refine wpAny_ready (rs := [8]) (by kernel_rfl) (by simp) ?_
  refine AllReady.cons rfl (fun K hK => ?_) AllReady.nil
  go_simp
  refine hK _ _ ?_
  clear hK K
  refine wpAny_ready (rs := [9]) (by kernel_rfl) (by simp) ?_
  refine AllReady.cons rfl (fun K hK => ?_) AllReady.nil
  go_simp
  refine hK _ _ ?_
  clear hK K
  refine wpAny_ready (rs := [10]) (by kernel_rfl) (by simp) ?_
  refine AllReady.cons rfl (fun K hK => ?_) AllReady.nil
  go_simp
  refine hK _ _ ?_
  clear hK K
  refine wpAny_ready (rs := [11]) (by kernel_rfl) (by simp) ?_
  refine AllReady.cons rfl (fun K hK => ?_) AllReady.nil
  go_simp
  go_wp2_with fail
  refine (seq_lit _).mono ?_
  rintro e w1 ⟨rfl, rfl⟩
  go_wp2_with fail
  (try refine hK _ _ ?_)
  (try clear hK K)
  refine wpAny_ready (rs := [12]) (by kernel_rfl) (by simp) ?_
  refine AllReady.cons rfl (fun K hK => ?_) AllReady.nil
  go_simp
  refine hK _ _ ?_
  clear hK K
  refine wpAny_ready (rs := [13]) (by kernel_rfl) (by simp) ?_
  refine AllReady.cons rfl (fun K hK => ?_) AllReady.nil
  go_simp
  refine hK _ _ ?_
  clear hK K
  refine wpAny_ready (rs := [14]) (by kernel_rfl) (by simp) ?_
  refine AllReady.cons rfl (fun K hK => ?_) AllReady.nil
  go_simp
  refine hK _ _ ?_
  clear hK K
  refine wpAny_ready (rs := [15]) (by kernel_rfl) (by simp) ?_
  refine AllReady.cons rfl (fun K hK => ?_) AllReady.nil
  go_simp
  go_wp2_with fail
  refine (check_no 120 (by decide) (by decide) _).mono ?_
  rintro e w1 ⟨rfl, rfl⟩
  go_wp2_with fail
  (try refine hK _ _ ?_)
  (try clear hK K)
  refine wpAny_ready (rs := [16]) (by kernel_rfl) (by simp) ?_
  refine AllReady.cons rfl (fun K hK => ?_) AllReady.nil
  go_simp
  refine hK _ _ ?_
  clear hK K
  refine wpAny_ready (rs := [17]) (by kernel_rfl) (by simp) ?_
  refine AllReady.cons rfl (fun K hK => ?_) AllReady.nil
  go_simp
  refine hK _ _ ?_
  clear hK K
  refine wpAny_ready (rs := [18]) (by kernel_rfl) (by simp) ?_
  refine AllReady.cons rfl (fun K hK => ?_) AllReady.nil
  go_simp
  refine hK _ _ ?_
  clear hK K
  refine wpAny_ready (rs := [19]) (by kernel_rfl) (by simp) ?_
  refine AllReady.cons rfl (fun K hK => ?_) AllReady.nil
  go_simp
  refine hK _ _ ?_
  clear hK K
  refine wpAny_ready (rs := [20]) (by kernel_rfl) (by simp) ?_
  refine AllReady.cons rfl (fun K hK => ?_) AllReady.nil
  go_simp
  refine hK _ _ ?_
  clear hK K
  refine wpAny_ready (rs := [21]) (by kernel_rfl) (by simp) ?_
  refine AllReady.cons rfl (fun K hK => ?_) AllReady.nil
  go_simp
  refine hK _ _ ?_
  clear hK K
  refine wpAny_ready (rs := [22]) (by kernel_rfl) (by simp) ?_
  refine AllReady.cons rfl (fun K hK => ?_) AllReady.nil
  go_simp
  refine hK _ _ ?_
  clear hK K
  refine wpAny_ready (rs := [23]) (by kernel_rfl) (by simp) ?_
  refine AllReady.cons rfl (fun K hK => ?_) AllReady.nil
  go_simp
  refine hK _ _ ?_
  clear hK K
  refine wpAny_ready (rs := [24]) (by kernel_rfl) (by simp) ?_
  refine AllReady.cons rfl (fun K hK => ?_) AllReady.nil
  go_simp
  refine hK _ _ ?_
  clear hK K
  refine wpAny_ready (rs := [25]) (by kernel_rfl) (by simp) ?_
  refine AllReady.cons rfl (fun K hK => ?_) AllReady.nil
  go_simp
  refine hK _ _ ?_
  clear hK K
  refine wpAny_ready (rs := [26]) (by kernel_rfl) (by simp) ?_
  refine AllReady.cons rfl (fun K hK => ?_) AllReady.nil
  go_simp
  refine hK _ _ ?_
  clear hK K
  refine wpAny_ready (rs := [27]) (by kernel_rfl) (by simp) ?_
  refine AllReady.cons rfl (fun K hK => ?_) AllReady.nil
  go_simp
  refine hK _ _ ?_
  clear hK K
  refine wpAny_ready (rs := [28]) (by kernel_rfl) (by simp) ?_
  refine AllReady.cons rfl (fun K hK => ?_) AllReady.nil
  go_simp
  refine hK _ _ ?_
  clear hK K
  refine wpAny_ready (rs := [29]) (by kernel_rfl) (by simp) ?_
  refine AllReady.cons rfl (fun K hK => ?_) AllReady.nil
  go_simp
  refine hK _ _ ?_
  clear hK K
  refine wpAny_ready (rs := [30]) (by kernel_rfl) (by simp) ?_
  refine AllReady.cons rfl (fun K hK => ?_) AllReady.nil
  go_simp
  refine hK _ _ ?_
  clear hK K
  refine wpAny_ready (rs := [31]) (by kernel_rfl) (by simp) ?_
  refine AllReady.cons rfl (fun K hK => ?_) AllReady.nil
  go_simp
  refine hK _ _ ?_
  clear hK K
  refine wpAny_ready (rs := [32]) (by kernel_rfl) (by simp) ?_
  refine AllReady.cons rfl (fun K hK => ?_) AllReady.nil
  go_simp
  refine hK _ _ ?_
  clear hK K
  refine wpAny_ready (rs := [33]) (by kernel_rfl) (by simp) ?_
  refine AllReady.cons rfl (fun K hK => ?_) AllReady.nil
  go_simp
  refine hK _ _ ?_
  clear hK K
  refine wpAny_ready (rs := [34]) (by kernel_rfl) (by simp) ?_
  refine AllReady.cons rfl (fun K hK => ?_) AllReady.nil
  go_simp
  refine hK _ _ ?_
  clear hK K
  refine wpAny_ready (rs := [35]) (by kernel_rfl) (by simp) ?_
  refine AllReady.cons rfl (fun K hK => ?_) AllReady.nil
  go_simp
  refine hK _ _ ?_
  clear hK K
  refine wpAny_ready (rs := [36]) (by kernel_rfl) (by simp) ?_
  refine AllReady.cons rfl (fun K hK => ?_) AllReady.nil
  go_simp
  refine hK _ _ ?_
  clear hK K
  refine wpAny_ready (rs := [37]) (by kernel_rfl) (by simp) ?_
  refine AllReady.cons rfl (fun K hK => ?_) AllReady.nil
  go_simp
  refine hK _ _ ?_
  clear hK K
  refine wpAny_ready (rs := [38]) (by kernel_rfl) (by simp) ?_
  refine AllReady.cons rfl (fun K hK => ?_) AllReady.nil
  go_simp
  refine hK _ _ ?_
  clear hK K
  refine wpAny_ready (rs := [39]) (by kernel_rfl) (by simp) ?_
  refine AllReady.cons rfl (fun K hK => ?_) AllReady.nil
  go_simp
  go_wp2_with fail
  refine (owner_lit _).mono ?_
  rintro e w5 ⟨rfl, g5⟩
  have G5 := Lib.hid g5; clear g5
  go_wp2_with fail
  (try refine hK _ _ ?_)
  (try clear hK K)
  refine wpAny_ready (rs := [40]) (by kernel_rfl) (by simp) ?_
  refine AllReady.cons rfl (fun K hK => ?_) AllReady.nil
  go_simp
  refine hK _ _ ?_
  clear hK K
  refine wpAny_ready (rs := [41]) (by kernel_rfl) (by simp) ?_
  refine AllReady.cons rfl (fun K hK => ?_) AllReady.nil
  go_simp
  refine hK _ _ ?_
  clear hK K
  refine wpAny_ready (rs := [42]) (by kernel_rfl) (by simp) ?_
  refine AllReady.cons rfl (fun K hK => ?_) AllReady.nil
  go_simp
  refine hK _ _ ?_
  clear hK K
  refine wpAny_ready (rs := [43]) (by kernel_rfl) (by simp) ?_
  refine AllReady.cons rfl (fun K hK => ?_) AllReady.nil
  go_simp
  go_wp2_with fail
  refine (first_yes 3 3 (by decide) _).mono ?_
  rintro e w1 ⟨rfl, rfl⟩
  go_wp2_with fail
  (try refine hK _ _ ?_)
  (try clear hK K)
  refine wpAny_ready (rs := [44]) (by kernel_rfl) (by simp) ?_
  refine AllReady.cons rfl (fun K hK => ?_) AllReady.nil
  go_simp
  refine hK _ _ ?_
  clear hK K
  refine wpAny_ready (rs := [45]) (by kernel_rfl) (by simp) ?_
  refine AllReady.cons rfl (fun K hK => ?_) AllReady.nil
  go_simp
  refine hK _ _ ?_
  clear hK K
  refine wpAny_ready (rs := [46]) (by kernel_rfl) (by simp) ?_
  refine AllReady.cons rfl (fun K hK => ?_) AllReady.nil
  go_simp
  go_wp2_with fail
  refine (first_no 4 3 (by decide) _).mono ?_
  rintro e w1 ⟨rfl, rfl⟩
  go_wp2_with fail
  (try refine hK _ _ ?_)
  (try clear hK K)
  refine wpAny_ready (rs := [47]) (by kernel_rfl) (by simp) ?_
  refine AllReady.cons rfl (fun K hK => ?_) AllReady.nil
  go_simp
  refine hK _ _ ?_
  clear hK K
  refine wpAny_ready (rs := [48]) (by kernel_rfl) (by simp) ?_
  refine AllReady.cons rfl (fun K hK => ?_) AllReady.nil
  go_simp
  refine hK _ _ ?_
  clear hK K
  refine wpAny_ready (rs := [49]) (by kernel_rfl) (by simp) ?_
  refine AllReady.cons rfl (fun K hK => ?_) AllReady.nil
  go_simp
  refine hK _ _ ?_
  clear hK K
  refine wpAny_take (i := 50) (v := ?v50) rfl (by kernel_rfl) (by kernel_rfl) (by kernel_rfl) (fun _ _ _ h => h) (Or.inl ⟨by rfl, ?h50⟩) ?r50
  case h50 => (intro w; go_simp; try with_reducible rfl)
  refine wpAny_take (i := 51) (v := ?v51) rfl (by kernel_rfl) (by kernel_rfl) (by kernel_rfl) (fun _ _ _ h => h) (Or.inl ⟨by rfl, ?h51⟩) ?r51
  case h51 => (intro w; go_simp; try with_reducible rfl)
  refine wpAny_take (i := 52) (v := ?v52) rfl (by kernel_rfl) (by kernel_rfl) (by kernel_rfl) (fun _ _ _ h => h) (Or.inl ⟨by rfl, ?h52⟩) ?r52
  case h52 => (intro w; go_simp; try with_reducible rfl)
  refine wpAny_take (i := 53) (v := ?v53) rfl (by kernel_rfl) (by kernel_rfl) (by kernel_rfl) (fun _ _ _ h => h) (Or.inl ⟨by rfl, ?h53⟩) ?r53
  case h53 => (intro w; go_simp; try with_reducible rfl)
  refine wpAny_ready (rs := [54]) (by kernel_rfl) (by simp) ?_
  refine AllReady.cons rfl (fun K hK => ?_) AllReady.nil
  go_simp
  refine hK _ _ ?_
  clear hK K
  refine wpAny_ready (rs := [55]) (by kernel_rfl) (by simp) ?_
  refine AllReady.cons rfl (fun K hK => ?_) AllReady.nil
  go_simp
  go_wp2_with fail
  refine (same_lit _ _ _ _ _ HR.out G5.out).mono ?_
  rintro e w6 ⟨rfl, g6, m0, m1, m2, m3⟩
  have G6 := Lib.hid g6; clear g6
  go_wp2_with fail
  (try refine hK _ _ ?_)
  (try clear hK K)
  refine wpAny_ready (rs := [56]) (by kernel_rfl) (by simp) ?_
  refine AllReady.cons rfl (fun K hK => ?_) AllReady.nil
  go_simp
  refine hK _ _ ?_
  clear hK K
  refine wpAny_ready (rs := [57]) (by kernel_rfl) (by simp) ?_
  refine AllReady.cons rfl (fun K hK => ?_) AllReady.nil
  go_simp
  refine hK _ _ ?_
  clear hK K
  refine wpAny_take (i := 58) (v := ?v58) rfl (by kernel_rfl) (by kernel_rfl) (by kernel_rfl) (fun _ _ _ h => h) (Or.inl ⟨by rfl, ?h58⟩) ?r58
  case h58 => (intro w; go_simp; try with_reducible rfl)
  refine wpAny_take (i := 59) (v := ?v59) rfl (by kernel_rfl) (by kernel_rfl) (by kernel_rfl) (fun _ _ _ h => h) (Or.inl ⟨by rfl, ?h59⟩) ?r59
  case h59 => (intro w; go_simp; try with_reducible rfl)
  refine wpAny_take (i := 61) (v := ?v61) rfl (by kernel_rfl) (by kernel_rfl) (by kernel_rfl) (fun _ _ _ h => h) (Or.inl ⟨by rfl, ?h61⟩) ?r61
  case h61 => (intro w; go_simp; try with_reducible rfl)
  refine wpAny_take (i := 62) (v := ?v62) rfl (by kernel_rfl) (by kernel_rfl) (by kernel_rfl) (fun _ _ _ h => h) (Or.inl ⟨by rfl, ?h62⟩) ?r62
  case h62 => (intro w; go_simp; try with_reducible rfl)
  refine wpAny_ready (rs := [60, 63]) (by kernel_rfl) (by simp) ?_
  refine AllReady.cons rfl (fun K hK => ?_) (AllReady.cons rfl (fun K hK => ?_) AllReady.nil)
  · go_simp
    refine hK _ _ ?_
    clear hK K
    refine wpAny_ready (rs := [63]) (by kernel_rfl) (by simp) ?_
    refine AllReady.cons rfl (fun K hK => ?_) AllReady.nil
    go_simp
    refine hK _ _ ?_
    clear hK K
    refine wpAny_ready (rs := [64]) (by kernel_rfl) (by simp) ?_
    refine AllReady.cons rfl (fun K hK => ?_) AllReady.nil
    go_simp
    go_wp2_with fail
    refine (less_lit _).mono ?_
    rintro e w7 ⟨rfl, g7⟩
    have G7 := Lib.hid g7; clear g7
    go_wp2_with fail
    (try refine hK _ _ ?_)
    (try clear hK K)
    refine wpAny_ready (rs := [65]) (by kernel_rfl) (by simp) ?_
    refine AllReady.cons rfl (fun K hK => ?_) AllReady.nil
    go_simp
    refine hK _ _ ?_
    clear hK K
    refine wpAny_ready (rs := [66]) (by kernel_rfl) (by simp) ?_
    refine AllReady.cons rfl (fun K hK => ?_) AllReady.nil
    go_simp
    refine hK _ _ ?_
    clear hK K
    refine wpAny_done (by kernel_rfl) ?_ _
    go_wp2
    go_ret
    exact ⟨rfl, (HB.out.drew).trans ((G6.out.trans G7.out).below.mono HB.out.size)⟩
  · go_simp
    refine hK _ _ ?_
    clear hK K
    refine wpAny_ready (rs := [60]) (by kernel_rfl) (by simp) ?_
    refine AllReady.cons rfl (fun K hK => ?_) AllReady.nil
    go_simp
    refine hK _ _ ?_
    clear hK K
    refine wpAny_ready (rs := [64]) (by kernel_rfl) (by simp) ?_
    refine AllReady.cons rfl (fun K hK => ?_) AllReady.nil
    go_simp
    go_wp2_with fail
    refine (less_lit _).mono ?_
    rintro e w7 ⟨rfl, g7⟩
    have G7 := Lib.hid g7; clear g7
    go_wp2_with fail
    (try refine hK _ _ ?_)
    (try clear hK K)
    refine wpAny_ready (rs := [65]) (by kernel_rfl) (by simp) ?_
    refine AllReady.cons rfl (fun K hK => ?_) AllReady.nil
    go_simp
    refine hK _ _ ?_
    clear hK K
    refine wpAny_ready (rs := [66]) (by kernel_rfl) (by simp) ?_
    refine AllReady.cons rfl (fun K hK => ?_) AllReady.nil
    go_simp
    refine hK _ _ ?_
    clear hK K
    refine wpAny_done (by kernel_rfl) ?_ _
    go_wp2
    go_ret
    exact ⟨rfl, (HB.out.drew).trans ((G6.out.trans G7.out).below.mono HB.out.size)⟩
end Go.Proofs.Ytcgnodkbmpkhkaa
