/- The program's own Add; and all of the program's functions answer as the document's own. -/
import Derived.Test.YtdihbkhhhonlpaaRngPl
import Derived.Test.YtdihbkhhhonlpaaRngPj
import Derived.Test.YtdihbkhhhonlpaaRngPh
namespace Go.Proofs.Ytdihbkhhhonlpaa
open Go.RowKit Go.Sort Go.Shelf

attribute [local go_sem ↓] Go.wp_at_zero Go.wp_at_succ

theorem add_valid {zs : List (Int × Int)} (h : Ok (-1) zs) {more row : List (Int × Int)} (hperm : row.Perm (zs ++ partsL more (1, 1000000))) : ∀ r ∈ row, Valid r := fun r hr => by
  rcases List.mem_append.1 (hperm.mem_iff.1 hr) with q | q
  · obtain ⟨a, b, c, _⟩ := ok_mem h r q; exact ⟨a, b, c⟩
  · obtain ⟨a, b, c⟩ := partsL_mem _ _ r q; exact ⟨a, b, c⟩

set_option maxHeartbeats 3200000 in
theorem add_any (sa : Option Addr) (na ca : Nat) (za : List (Int × Int)) (sb : Option Addr) (nb cb : Nat) (zb : List (Int × Int)) (w : World) (hna : na ≤ 1000) (hnb : nb ≤ 1000) (hl : (addZ za zb).length ≤ 1000) (hA : ArgA w sa na ca za) (hB : ArgA w sb nb cb zb) :
    Calls Try.prog 19 #[.slice sa na ca, .slice sb nb cb] w fun e w' => ∃ v, e = .returned v ∧ ResA w' v (addZ za zb) ∧ RowKit.Below w.heap.size w w' := by
  have hmix := mixed
  have HA := Lib.hid hA; clear hA
  have HBB := Lib.hid hB.readsA.bound; clear hB
  by_cases ok : Ok (-1) za
  · have HD := Lib.hid (decide_eq_true ok)
    have HO := Lib.hid ok; clear ok
    have HL := Lib.hid hl; clear hl
    have NA := Lib.hid HA.out.readsA.1
    have NB := Lib.hid HBB.out.1
    obtain ⟨L, hL⟩ : ∃ L, L = za ++ partsL zb (1, 1000000) := ⟨_, rfl⟩
    have HLL := Lib.hid hL; clear hL
    have NL := Lib.hid (show L.length ≤ 2000 by
      rw [HLL.out, List.length_append]
      have := partsL_len zb (1, 1000000)
      have := NA.out
      have := NB.out
      omega)
    go_enter Try.func19, Try.ntmps19
    go_wp2_with (first
      | (go_at_call 26; refine (isSet_any sa na ca za _ hna HA.out.readsA).mono ?_; rintro e w1 ⟨rfl, hg⟩; rw [HD.out]; have HG1 := Lib.hid hg; clear hg)
      | (go_at_call 35; refine (clone_any sa na ca za _ hna (HA.out.later HG1.out.below)).mono ?_; rintro e w2 ⟨v2, rfl, hv, hb⟩; have HB2 := Lib.hid (HG1.out.below.trans (hb.mono HG1.out.below.size)); obtain ⟨s2, c2, rfl, _⟩ := hv.reads; have HV2 := Lib.hid (hv.lower HG1.out.below.size); clear hv hb)
      | (go_at_call 30; refine (whole_any _).mono ?_; rintro e w3 ⟨rfl, hg⟩; have HG3 := Lib.hid hg; have HB3 := Lib.hid (HB2.out.trans (hg.below.mono HB2.out.size)); clear hg)
      | (go_at_call 27; refine (parts_seq w.heap.size sb nb cb (1, 1000000) zb _ (HBB.out.later HB3.out) HB3.out.size).mono ?_; rintro e w4 ⟨rfl, hs, hg⟩; have HS4 := Lib.hid hs; have HG4 := Lib.hid (HG3.out.trans hg); have HB4 := Lib.hid (HB3.out.trans (hg.below.mono HB3.out.size)); clear hs hg)
      | (go_at_call 34; refine (appendSeq_any w.heap.size _ _ s2 c2 za sb nb cb (1, 1000000) zb hnb (by have := NA.out; omega) _ (HV2.out.later HG4.out.below) (fun e => by have := (World.ownsRow.lt HV2.out _ e).2; have := HG3.out.below.size; omega) HB4.out.size HS4.out).mono ?_; rintro e w5 ⟨v5, rfl, hv, hb⟩; rw [← HLL.out] at hv; have HB5 := Lib.hid (HB4.out.trans hb); obtain ⟨s5, c5, rfl, _⟩ := hv.reads; have HV5 := Lib.hid hv; clear hv hb)
      | (go_at_call 36; refine (sort_any w.heap.size s5 L.length c5 L _ (by have := NL.out; omega) HV5.out).mono ?_; rintro e w6 ⟨rfl, l6, hp, hq, hr, hb⟩; have HB6 := Lib.hid (HB5.out.trans hb); have HP := Lib.hid (by rw [HLL.out] at hp; exact hp); have HQ := Lib.hid hq; have HR6 := Lib.hid hr; clear hp hq hr hb)
      | (go_at_call 39; refine (join_any s5 L.length c5 l6 _ NL.out HR6.out (add_valid HO.out HP.out) HQ.out).mono ?_; rintro e w7 ⟨v7, rfl, hv, hb⟩; rw [add_is HO.out zb l6 HP.out HQ.out] at hv; have HB7 := Lib.hid (HB6.out.trans (hb.mono HB6.out.size)); obtain ⟨s7, c7, rfl, _⟩ := hv.reads; have HV7 := Lib.hid hv; clear hv hb)
      | (go_at_call 31; refine (orElse_row s7 (addZ za zb).length c7 _ _ _ _ HL.out).mono ?_; rintro e w8 ⟨rfl, rfl⟩))
    go_ret
    exact ⟨_, rfl, HV7.out.res, HB7.out⟩
  · have HD := Lib.hid (decide_eq_false ok)
    have HE := Lib.hid (addZ_not ok zb)
    clear ok hl
    go_enter Try.func19, Try.ntmps19
    go_wp2_with (go_at_call 26; refine (isSet_any sa na ca za _ hna HA.out.readsA).mono ?_; rintro e w1 ⟨rfl, hg⟩; rw [HD.out])
    go_ret
    exact ⟨_, rfl, by rw [HE.out]; exact (own_nil _ 0).res, hg.below⟩

theorem impl : Impl := {
  check := fun sa len cap zs w hm h => (check_any sa len cap zs w hm h.readsA).mono fun _ _ ⟨he, hg⟩ => ⟨he, hg.below⟩
  has := fun sa len cap zs n w hm h => has_any sa len cap zs n w hm h.readsA
  count := fun sa len cap zs w hm h => (count_any sa len cap zs w hm h.readsA).mono fun _ _ ⟨he, hg⟩ => ⟨he, hg.below⟩
  pref := fun sa len cap zs n w hm h => (prefix_any sa len cap zs n w hm h.readsA).mono fun _ _ ⟨he, hg⟩ => ⟨he, hg.below⟩
  gaps := fun sa len cap zs lo hi w hm hl h => gaps_any sa len cap zs lo hi w hm hl h.readsA
  add := fun sa na ca za sb nb cb zb w hna hnb hl hA hB => add_any sa na ca za sb nb cb zb w hna hnb hl hA hB
  less := fun sa len cap zs r w hm hl h => less_any sa len cap zs r w hm hl h
  cut := fun sa len cap zs n w hm hn _ h => cut_any sa len cap zs n w hm hn h }
end Go.Proofs.Ytdihbkhhhonlpaa
