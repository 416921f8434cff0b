/- A row of pieces as it lies in memory; Few. -/
import Derived.Test.YtegbldkkggpjcaaGreatDoorTxtSeq
import Derived.Test.YtegbldkkggpjcaaGreatDoorNumPg
namespace Go.Proofs.YtegbldkkggpjcaaGreatDoor
open Go.RowKit Go.Sort

attribute [local go_sem ↓] Go.wp_at_zero Go.wp_at_succ

theorem ret_b {a b : Bool} (h : a = b) : Ending.returned (Value.bool a) = .returned (.bool b) := by rw [h]

/-- The four cells of a piece, and its row. -/
def PcAt (w : World) (b o : Nat) (p : PcS) : Prop :=
  w.cell? ⟨b, o, none⟩ = some (.int .i64 p.k) ∧ w.cell? ⟨b, o + 1, none⟩ = some (.int .i64 p.n) ∧ w.cell? ⟨b, o + 2, none⟩ = some (.string p.s) ∧
  ∃ sa cap, w.cell? ⟨b, o + 3, none⟩ = some (.slice sa p.l.length cap) ∧ ArgI w sa p.l.length cap p.l
theorem PcAt.later {w w' : World} {b o : Nat} {p : PcS} (h : PcAt w b o p) (k : RowKit.Below w.heap.size w w') : PcAt w' b o p := by
  obtain ⟨h0, h1, h2, sa, cap, h3, h4⟩ := h
  have t : ∀ {j : Nat} {v : Value}, w.cell? ⟨b, j, none⟩ = some v → w'.cell? ⟨b, j, none⟩ = some v := fun {j v} h => (k.cell (p := ⟨b, j, none⟩) (World.block_lt_of_cell? _ _ h)).trans h
  exact ⟨t h0, t h1, t h2, sa, cap, t h3, h4.later k⟩
/-- A row of pieces. -/
def ReadsP (w : World) (sa : Option Addr) (len : Nat) (ps : List PcS) : Prop :=
  len = ps.length ∧ (0 < len → ∃ b off, sa = some ⟨b, off, none⟩ ∧ ∀ i, (h : i < ps.length) → PcAt w b (off + i * 4) ps[i])
theorem ReadsP.later {w w' : World} {sa : Option Addr} {len : Nat} {ps : List PcS} (h : ReadsP w sa len ps) (k : RowKit.Below w.heap.size w w') : ReadsP w' sa len ps :=
  ⟨h.1, fun h0 => by
    obtain ⟨b, off, e, g⟩ := h.2 h0
    exact ⟨b, off, e, fun i hi => (g i hi).later k⟩⟩
/-- .. of values of their types. -/
def WfP (ps : List PcS) : Prop := ∀ p ∈ ps, p.n ≤ 9223372036854775807 ∧ p.s.size ≤ 9223372036854775807 ∧ p.l.length ≤ 9223372036854775807 ∧ ∀ x ∈ p.l, x ≤ 9223372036854775807

def smallB (p : PcS) : Bool := decide (p.s.size ≤ 500) && decide (p.l.length ≤ 100)
def fewP (ps : List PcS) : Bool := decide (ps.length ≤ 40) && ps.all smallB
theorem fewP_yes {ps : List PcS} (h : fewP ps = true) : ps.length ≤ 40 ∧ ∀ p ∈ ps, p.s.size ≤ 500 ∧ p.l.length ≤ 100 := by
  unfold fewP smallB at h
  simp only [Bool.and_eq_true, decide_eq_true_eq, List.all_eq_true] at h
  exact h
theorem fewP_long {ps : List PcS} (h : 40 < ps.length) : fewP ps = false := by
  unfold fewP; rw [decide_eq_false (by omega)]; rfl
theorem fewP_bad {ps : List PcS} (i : Nat) (hi : i < ps.length) (h : 500 < ps[i].s.size ∨ 100 < ps[i].l.length) : fewP ps = false := by
  cases q : fewP ps with
  | false => rfl
  | true => have := (fewP_yes q).2 _ (List.getElem_mem hi); omega
theorem fewP_of {ps : List PcS} (h0 : ps.length ≤ 40) (h : ∀ i, (hi : i < ps.length) → ps[i].s.size ≤ 500 ∧ ps[i].l.length ≤ 100) : fewP ps = true := by
  unfold fewP smallB
  simp only [Bool.and_eq_true, decide_eq_true_eq, List.all_eq_true]
  refine ⟨h0, fun p hp => ?_⟩
  obtain ⟨i, hi, rfl⟩ := List.getElem_of_mem hp
  exact h i hi

set_option maxHeartbeats 1600000 in
theorem few_any (sa : Option Addr) (len cap : Nat) (ps : List PcS) (w : World) (hr : ReadsP w sa len ps) (hwf : WfP ps) (hm : len ≤ 9223372036854775807) :
    Calls Tryz.prog 5 #[.slice sa len cap] w fun e w' => e = .returned (.bool (fewP ps)) ∧ Grew w w' := by
  have hmix := mixed
  have HZ := Lib.hid hr.1
  have HR := Lib.hid hr; clear hr
  have HWF := Lib.hid hwf; clear hwf
  by_cases q : 40 < len
  · have d1 : decide ((len : Int) > 40) = true := decide_eq_true (by omega)
    have HF := Lib.hid (fewP_long (ps := ps) (by rw [← HZ.out]; exact q))
    clear q
    go_enter Tryz.func5, Tryz.ntmps5
    go_wp2
    go_ret
    exact ⟨ret_b HF.out.symm, Grew.refl _⟩
  have d1 : decide ((len : Int) > 40) = false := decide_eq_false (by omega)
  have hm2 : len ≤ 40 := by omega
  clear q hm
  go_enter Tryz.func5, Tryz.ntmps5
  go_wp2
  go_loopg [3] len (fun gg i wr => ∃ k : Nat, k + gg = len ∧ i = .int .i64 k ∧ Hid (∀ j, (hj : j < ps.length) → j < k → ps[j].s.size ≤ 500 ∧ ps[j].l.length ≤ 100) ∧ Hid (Grew w wr))
  case atStart => exact ⟨0, by omega, rfl, Lib.hid (fun j _ hj => absurd hj (by omega)), Lib.hid (Grew.refl _)⟩
  case round =>
    obtain ⟨k, hk, rfl, HK, HG⟩ := hrel
    by_cases hlt : k < len
    · obtain ⟨b, off, rfl, g⟩ := (HR.out.later HG.out.below).2 (by omega)
      have hkl : k < ps.length := by rw [← HZ.out]; exact hlt
      obtain ⟨_, _, c2, la, lc, c3, _⟩ := g k hkl
      have hw := HWF.out _ (List.getElem_mem hkl)
      have HBAD := Lib.hid (fewP_bad k hkl)
      have HKK := Lib.hid (fun (h : ps[k].s.size ≤ 500 ∧ ps[k].l.length ≤ 100) (j : Nat) (hj : j < ps.length) (hj2 : j < k + 1) => (show ps[j].s.size ≤ 500 ∧ ps[j].l.length ≤ 100 by
        by_cases e : j = k
        · subst e; exact h
        · exact HK.out j hj (by omega)))
      clear g
      obtain ⟨n1, hn1⟩ : ∃ n1, n1 = ps[k].l.length := ⟨_, rfl⟩
      rw [← hn1] at c3 HBAD HKK hw
      generalize ps[k].s = s1 at *
      obtain ⟨_, hw2, hw3, _⟩ := hw
      have i1 : (0 : Int) ≤ (k : Int) := by omega
      have i2 : (k : Int) < (len : Int) := by omega
      clear hn1
      by_cases q1 : 500 < s1.size
      · have e1 : decide ((s1.size : Int) > 500) = true := decide_eq_true (by omega)
        have HF := Lib.hid (HBAD.out (Or.inl q1))
        clear q1
        go_wp2
        go_ret
        exact ⟨ret_b HF.out.symm, HG.out⟩
      · have e1 : decide ((s1.size : Int) > 500) = false := decide_eq_false (by omega)
        by_cases q2 : 100 < n1
        · have e2 : decide ((n1 : Int) > 100) = true := decide_eq_true (by omega)
          have HF := Lib.hid (HBAD.out (Or.inr q2))
          clear q1 q2
          go_wp2
          go_ret
          exact ⟨ret_b HF.out.symm, HG.out⟩
        · have e2 : decide ((n1 : Int) > 100) = false := decide_eq_false (by omega)
          have HKN := Lib.hid (HKK.out ⟨by omega, by omega⟩)
          clear q1 q2
          go_wp2
          go_roundg (gk - 1)
          case measure => omega
          case rel => exact ⟨k + 1, by omega, by go_num, HKN, HG⟩
    · obtain rfl : k = len := by omega
      have HF := Lib.hid (fewP_of (ps := ps) (by rw [← HZ.out]; exact hm2) (fun i hi => HK.out i hi (by rw [HZ.out]; exact hi)))
      clear hlt
      go_wp2
      go_ret
      exact ⟨ret_b HF.out.symm, HG.out⟩
end Go.Proofs.YtegbldkkggpjcaaGreatDoor
