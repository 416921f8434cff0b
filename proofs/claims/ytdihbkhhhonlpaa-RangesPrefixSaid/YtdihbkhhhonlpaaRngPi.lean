/- The program's own Has. -/
import Derived.Test.YtdihbkhhhonlpaaRngPd
import Derived.Test.YtdihbkhhhonlpaaRngPf
import Derived.RangeFuncFrom
import Derived.Handy
namespace Go.Proofs.Ytdihbkhhhonlpaa
open Go.RowKit Go.Sort Go.Shelf

attribute [local go_sem] Oper.semAt_some

theorem partsL_app (a b : List (Int × Int)) (y : Int × Int) : partsL (a ++ b) y = partsL a y ++ partsL b y := by simp [partsL]

set_option maxRecDepth 100000 in
set_option maxHeartbeats 4000000 in
theorem has_yes (sa : Option Addr) (len cap : Nat) (zs : List (Int × Int)) (n : Int) (w : World) (hm : len ≤ 1000) (hr : ReadsA w sa len zs) (ok : Ok (-1) zs) :
    CallsIn Fence.wide 3 Try.prog 10 #[.slice sa len cap, .int .i64 n] w fun e w' => e = .returned (.bool (inB zs n)) ∧ RowKit.Below w.heap.size w w' := by
  have HR := Lib.hid hr; clear hr
  have HD := Lib.hid (decide_eq_true ok)
  have HO := Lib.hid ok; clear ok
  refine callsIn_of_wp_marks Try.func10 rfl trivial ?_ rfl
  simp only [Try.ntmps10, List.size_toArray, List.length_cons, List.length_nil, Nat.reduceAdd, Nat.reduceSub, Array.replicate_succ, Array.replicate_zero, List.push_toArray, List.append_toArray, List.nil_append, List.cons_append]
  gi_wp2_with (first
    | (refine ⟨trivial, ?_⟩; gi_at_call 26; refine (callsIn_wide.2 (isSet_any sa len cap zs _ hm (HR.out.later ((Below.refl _ _).alloc (Nat.le_refl _) _)))).mono ?_; rintro e w1 ⟨rfl, hg⟩; rw [HD.out]; have HG1 := Lib.hid hg; clear hg)
    | (refine ⟨trivial, ?_⟩; gi_at_call 27; refine (callsIn_wide.2 (parts_seq w.heap.size sa len cap (n, n) zs _ (HR.out.bound.later (((Grew.refl w).alloc _).trans HG1.out).below) (((Grew.refl w).alloc _).trans HG1.out).below.size)).mono ?_; rintro e w2 ⟨rfl, hs, hg⟩; have HS2 := Lib.hid hs; have HG2 := Lib.hid (HG1.out.trans hg); clear hs hg))
  have bO : Boxed w2 w.heap.size 4 (.bool false) := (HG2.out.below.block w.heap.size (by simp)).trans (Boxed.new w 4 (.bool false))
  have HG3 := Lib.hid (((Grew.refl w).alloc _).trans HG2.out)
  have hB0 := HG3.out.below
  have hs2 := hB0.size
  have hlt := bO.lt
  have keep : ∀ (v : Value), Own (fun (_ : Unit) W => Boxed W w.heap.size 4 v) := fun v s A B row h hg hr => h.kept hg (fun e => by
    obtain ⟨o, ho, hc⟩ := hr _ e.symm
    rw [show A.heap[w.heap.size]? = _ from h] at ho; cases ho; cases hc)
  refine wpIn_rangeFunc_ownF rfl (by omega) (gf := 41) (lb := #[.pointer (some ⟨w1.heap.size, 0, none⟩), .pointer (some ⟨w1.heap.size + 1, 0, none⟩)]) rfl trivial (enters_of Try.func41 (by kernel_rfl) rfl)
    (parts_stops (3 - 1) (by omega) w.heap.size sa len cap (n, n) zs hm w2 w1.heap.size (w1.heap.size + 1) HS2.out.s HS2.out.i0 HS2.out.i1 hs2 HS2.out.reads.1 HS2.out.reads.2) kp_t (kp_b hs2 (World.block_lt_of_cell? _ _ HS2.out.i0)) (Below.refl _ _) (fun _ => rfl)
    (fun pre W => (pre = [] ∧ Boxed W w.heap.size 4 (.bool false)) ∧ RowKit.Below w.heap.size w W)
    (fun c pre W => (c = .ret ∧ Boxed W w.heap.size 4 (.bool true)) ∧ RowKit.Below w.heap.size w W)
    (OwnFrom.and (Own.from (fun s A B row h hg hr => ⟨h.1, keep _ () A B row h.2 hg hr⟩) _) (ownFrom_below (Nat.le_refl _) hs2))
    (fun c => OwnFrom.and (Own.from (fun s A B row h hg hr => ⟨h.1, keep _ () A B row h.2 hg hr⟩) _) (ownFrom_below (Nat.le_refl _) hs2))
    ⟨⟨rfl, bO⟩, hB0⟩
    (fun x => { tmps := #[.slice sa len cap, .int .i64 n, undef, undef, .pointer (some ⟨w.heap.size, 0, none⟩), .slice sa len cap, .bool true, .bool false, .slice sa len cap, .int .i64 n, .int .i64 n, .agg #[.int .i64 n, .int .i64 n], .func (.func 41) #[] #[.pointer (some ⟨w1.heap.size, 0, none⟩), .pointer (some ⟨w1.heap.size + 1, 0, none⟩)], .agg #[.int .i64 x.1, .int .i64 x.2]], defers := [] }) ?assign ?body ?done ?stop
  case assign =>
    intro l x W K hK
    gi_wp2
    simpa using hK
  case body =>
    rintro l pre x W ⟨⟨hp, hb⟩, hB⟩ _
    have hc := hb.cell
    have hf := hb.frozen
    gi_wp2
    exact ⟨KeepsOthers.setCell _ _ _, ⟨rfl, hb.set _⟩, hB.setCell (p := ⟨w.heap.size, 0, none⟩) (Nat.le_refl _) _⟩
  case done =>
    rintro D ys W hD hys ⟨⟨hp, hb⟩, hB⟩ hK
    have hc := hb.cell
    have hf := hb.frozen
    have HE := Lib.hid ((has_parts zs n).2 (hys.symm.trans hp))
    clear hp hys
    gi_wp2
    have hb2 := hb.set (.bool false)
    have hK' := (KeepsOthers.setCell W ⟨w.heap.size, 0, none⟩ (.bool false)).same D _ hK rfl
    refine ⟨by simp, .inl ⟨_, _, rfl, run_takeDeferred hK', ?_⟩⟩
    have hc5 := cell_kept hb2.cell (grownBy_putObj' _ D (.deferred none)) (fun r e => by cases e; exact ⟨_, hK', rfl⟩)
    refine ⟨.bool false, ?_, by rw [HE.out], (hB.setCell (p := ⟨w.heap.size, 0, none⟩) (Nat.le_refl _) _).trans (belowK_b (w := w) (Nat.le_refl _) _ D _ _ (by omega) hK' rfl rfl)⟩
    simp [results, Try.f10, go_sem, hc5]
  case stop =>
    rintro D c pre W hD ⟨k, hk, hpos, hpre⟩ ⟨⟨rfl, hb⟩, hB⟩ hK
    have HE := Lib.hid (show inB zs n = true by
      cases q : inB zs n with
      | true => rfl
      | false =>
        have e := (has_parts zs n).1 q
        rw [← List.take_append_drop k zs, partsL_app] at e
        rw [hpre, (List.append_eq_nil_iff.1 e).1] at hpos
        simp at hpos)
    clear hpre hpos hk
    gi_wp2
    refine ⟨by simp, .inl ⟨_, _, rfl, run_takeDeferred hK, ?_⟩⟩
    have hc5 := cell_kept hb.cell (grownBy_putObj' _ D (.deferred none)) (fun r e => by cases e; exact ⟨_, hK, rfl⟩)
    refine ⟨.bool true, ?_, by rw [HE.out], hB.trans (belowK_b (w := w) (Nat.le_refl _) W D _ _ (by omega) hK rfl rfl)⟩
    simp [results, Try.f10, go_sem, hc5]

theorem has_any (sa : Option Addr) (len cap : Nat) (zs : List (Int × Int)) (n : Int) (w : World) (hm : len ≤ 1000) (hr : ReadsA w sa len zs) :
    Calls Try.prog 10 #[.slice sa len cap, .int .i64 n] w fun e w' => e = .returned (.bool (hasB zs n)) ∧ RowKit.Below w.heap.size w w' := by
  by_cases ok : Ok (-1) zs
  · refine ((callsIn_wide (n := 3)).1 (has_yes sa len cap zs n w hm hr ok)).mono ?_
    rintro e w' ⟨rfl, hb⟩
    exact ⟨ret_bool (by unfold hasB; rw [decide_eq_true ok]; rfl), hb⟩
  · have HR := Lib.hid hr; clear hr
    have HD := Lib.hid (decide_eq_false ok)
    have HE := Lib.hid (show hasB zs n = false by unfold hasB; rw [decide_eq_false ok]; rfl)
    clear ok
    go_enter Try.func10, Try.ntmps10
    go_wp2_with (go_at_call 26; refine (isSet_any sa len cap zs _ hm (HR.out.later ((Below.refl _ _).alloc (Nat.le_refl _) _))).mono ?_; rintro e w1 ⟨rfl, hg⟩; rw [HD.out]; have bO : Boxed w1 w.heap.size 4 (.bool false) := (hg.below.block w.heap.size (by simp)).trans (Boxed.new w 4 (.bool false)); have hc := bO.cell; have hf := bO.frozen; have HB := Lib.hid (((Grew.refl w).alloc _).trans hg).below; clear hg)
    have hc2 := (bO.set (.bool false)).cell
    refine bodyPost_ret (v := .bool false) (by simp [results, Try.f10, go_sem, hc2]) rfl ?_
    exact ⟨ret_bool HE.out.symm, HB.out.setCell (p := ⟨w.heap.size, 0, none⟩) (Nat.le_refl _) _⟩
end Go.Proofs.Ytdihbkhhhonlpaa
