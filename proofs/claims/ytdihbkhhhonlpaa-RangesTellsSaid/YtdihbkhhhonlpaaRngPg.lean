/- The program's own Cut, Less, Has, and join. -/
import Derived.Test.YtdihbkhhhonlpaaRngPd
import Derived.Test.YtdihbkhhhonlpaaRngPf
namespace Go.Proofs.Ytdihbkhhhonlpaa
open Go.RowKit Go.Sort Go.Shelf

attribute [local go_sem ↓] Go.wp_at_zero Go.wp_at_succ

theorem ArgA.readsA {w : World} {sa : Option Addr} {len cap : Nat} {zs : List (Int × Int)} (h : ArgA w sa len cap zs) : ReadsA w sa len zs := h.1
theorem at_grew {w w' : World} {base : Nat} {sa : Option Addr} {len : Nat} {zs : List (Int × Int)} (h : ReadsB w base sa len zs) (hb : base ≤ w.heap.size) (g : Grew w w') : ReadsB w' base sa len zs := h.later (g.below.mono hb)

set_option maxHeartbeats 1600000 in
theorem cut_any (sa : Option Addr) (len cap : Nat) (zs : List (Int × Int)) (n : Int) (w : World) (hm : len ≤ 1000) (hn : -9223372036854775808 ≤ n) (ha : ArgA w sa len cap zs) :
    Calls Try.prog 23 #[.slice sa len cap, .int .i64 n] w fun e w' => ∃ v, e = .returned v ∧ ResA w' v (lessZ zs (1, n)) ∧ RowKit.Below w.heap.size w w' := by
  have hmix := mixed
  have HR := Lib.hid ha; clear ha
  by_cases ok : Ok (-1) zs
  · have HD := Lib.hid (decide_eq_true ok)
    by_cases q : 1000000 ≤ n
    · have d : decide (1000000 ≤ n) = true := decide_eq_true q
      have HE := Lib.hid (cut_none ok q)
      clear ok q
      go_enter Try.func23, Try.ntmps23
      go_wp2_with (go_at_call 26; refine (isSet_any sa len cap zs _ hm HR.out.readsA).mono ?_; rintro e w1 ⟨rfl, hg⟩; rw [HD.out])
      go_ret
      exact ⟨_, rfl, by rw [HE.out]; exact (own_nil _ 0).res, hg.below⟩
    · have d : decide (1000000 ≤ n) = false := decide_eq_false q
      have i1 : n < 1000000 := by omega
      have HE := Lib.hid (cut_is ok n)
      clear ok q
      go_enter Try.func23, Try.ntmps23
      go_wp2_with (first
        | (go_at_call 26; refine (isSet_any sa len cap zs _ hm HR.out.readsA).mono ?_; rintro e w1 ⟨rfl, hg⟩; rw [HD.out]; have HG1 := Lib.hid hg; clear hg)
        | (go_at_call 27; refine (parts_seq w.heap.size sa len cap (n + 1, 1000000) zs _ (at_grew HR.out.readsA.bound (Nat.le_refl _) HG1.out) HG1.out.below.size).mono ?_; rintro e w2 ⟨rfl, hs, hg⟩; have HS := Lib.hid hs; have HG2 := Lib.hid (HG1.out.trans hg); clear hs hg)
        | (go_at_call 40; refine (collect_any w.heap.size _ _ sa len cap (n + 1, 1000000) zs hm _ HG2.out.below.size HS.out).mono ?_; rintro e w3 ⟨v, rfl, hv, hb⟩))
      go_ret
      exact ⟨v, rfl, by rw [← HE.out]; exact hv.res, HG2.out.below.trans hb⟩
  · have HD := Lib.hid (decide_eq_false ok)
    have HE := Lib.hid (lessZ_not ok (1, n))
    clear ok
    go_enter Try.func23, Try.ntmps23
    go_wp2_with (go_at_call 26; refine (isSet_any sa len cap zs _ hm HR.out.readsA).mono ?_; rintro e w1 ⟨rfl, hg⟩; rw [HD.out])
    go_ret
    exact ⟨_, rfl, by rw [HE.out]; exact (own_nil _ 0).res, hg.below⟩
end Go.Proofs.Ytdihbkhhhonlpaa
