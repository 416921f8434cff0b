/- The landed writer and reader are an Impl. -/
import Derived.Test.YtegbldkkggpjcaaGreatDoorTxtOwnI
namespace Go.Proofs.YtegbldkkggpjcaaGreatDoor
open Go.RowKit Go.Sort

attribute [local go_sem ↓] Go.wp_at_zero Go.wp_at_succ

theorem OwnI.chg {w w' : World} {base B : Nat} {v : Value} {l : List Int} (h : OwnI w base v l) (k : Chg (fun k => k = B) w w') (hB : B < base) : OwnI w' base v l := by
  have h0 := h
  refine ⟨h.1, ?_⟩
  rcases h.2 with q | ⟨g, cap, cur, rfl, hg, hc, r⟩
  · exact Or.inl q
  · exact Or.inr ⟨g, cap, cur, rfl, hg, (k.block g (World.ownsRow.lt h0 g rfl).2 (fun e => by omega)).trans hc, r⟩
theorem r_num {w S B u} (most : Int) (h : RIs w S B u) (hg : Laid w) (hs : u.s.size ≤ 100000) : Calls Tryz.prog 10 #[.pointer (some ⟨B, 0, none⟩), .int .i64 most] w (Does RIs S B (numS u most) (.int .i64 (numN u most)) w) := by
  obtain ⟨rfl, ha⟩ := h
  have K := Lib.hid (take_num ha hg pNum most (getZ u.s u.pos).2.1 (numE u most) (fun _ _ v => v = .int .i64 (getZ u.s u.pos).1)
    (fun _ w1 h1 => (num_any h1 most hs).mono fun e w' ⟨he, hb⟩ => ⟨_, he, rfl, hb⟩)
    (fun _ q => by
      have q0 : (getZ u.s u.pos).2.2 = 0 := by
        unfold numE at q; split at q
        · omega
        · exact q
      obtain ⟨m, n, k, j1, j2, j3, hgz, hu⟩ := getZ_zero q0
      rw [hgz]
      simp only
      omega))
  have E1 := Lib.hid (show numS u most = if u.e = 0 then movedS u pNum (getZ u.s u.pos).2.1 (numE u most) else u from rfl)
  have E2 := Lib.hid (show numN u most = if u.e = 0 then (if numE u most = 0 then (getZ u.s u.pos).1 else 0) else 0 from rfl)
  clear ha hg
  go_enter Tryz.func10, Tryz.ntmps10
  go_wp2_with (go_at_call 35; refine (K.out).mono ?_; rintro _ w1 ⟨v, rfl, ht⟩)
  go_ret
  obtain ⟨h1, h2, h3⟩ := ht
  refine ⟨?_, _, ⟨rfl, by rw [E1.out]; exact h2⟩, Ext.refl _ _, h3⟩
  rcases h1 with ⟨a, b, _, _, hv, _⟩ | ⟨a, hv⟩
  · rw [E2.out, if_pos a, if_pos b, hv]; rfl
  · rw [E2.out, hv]
    split
    · rename_i q; rw [if_neg (fun b => a ⟨q, b⟩)]; rfl
    · rfl
theorem r_text {w S B u} (most : Int) (h : RIs w S B u) (hg : Laid w) (hs : u.s.size ≤ 100000) : Calls Tryz.prog 11 #[.pointer (some ⟨B, 0, none⟩), .int .i64 most] w (Does RIs S B (textS u most) (.string (textT u most)) w) := by
  obtain ⟨rfl, ha⟩ := h
  have K := Lib.hid (take_text ha hg pText most (textZ u most) (textE u most) (fun _ _ v => textE u most = 0 → v = .string (textT u most))
    (fun q w1 h1 => (itext_any h1 q most hs).mono fun e w' ⟨v, he, hv, hb⟩ => ⟨v, he, hv, hb⟩)
    (fun _ q => by
      unfold textZ
      rw [if_pos q]
      unfold textE at q
      split at q
      · rename_i q0
        obtain ⟨m, n, k, j1, j2, j3, hgz, hu⟩ := getZ_zero q0
        rw [hgz] at q ⊢
        simp only at q ⊢
        split at q
        · omega
        · split at q <;> omega
      · rename_i q0
        exact absurd q q0))
  have E1 := Lib.hid (show textS u most = if u.e = 0 then movedS u pText (textZ u most) (textE u most) else u by
    unfold textS textZ
    split
    · split
      · rename_i q; rw [q]
      · rfl
    · rfl)
  have E2 := Lib.hid (show ¬ (u.e = 0 ∧ textE u most = 0) → textT u most = ⟨#[]⟩ from fun h => if_neg h)
  clear ha hg
  go_enter Tryz.func11, Tryz.ntmps11
  go_wp2_with (go_at_call 37; refine (K.out).mono ?_; rintro _ w1 ⟨v, rfl, ht⟩)
  go_ret
  obtain ⟨h1, h2, h3⟩ := ht
  refine ⟨?_, _, ⟨rfl, by rw [E1.out]; exact h2⟩, Ext.refl _ _, h3⟩
  rcases h1 with ⟨a, b, _, _, hv, _⟩ | ⟨a, hv⟩
  · rw [hv b]; rfl
  · rw [E2.out a, hv]; rfl
theorem r_row {w S B u} (most : Int) (h : RIs w S B u) (hg : Laid w) (hs : u.s.size ≤ 100000) : Calls Tryz.prog 13 #[.pointer (some ⟨B, 0, none⟩), .int .i64 most] w fun e w' => ∃ v, OwnI w' w.heap.size v (rowI u most) ∧ Does RIs S B (rowS u most) v w e w' := by
  obtain ⟨rfl, ha⟩ := h
  have hBl : B < w.heap.size := lt_of_block ha.1
  have K := Lib.hid (take_row ha hg pRow most (unrowZ u.s u.pos most).2.1 (unrowZ u.s u.pos most).2.2 (fun w1 w2 v => OwnI w2 w1.heap.size v (unrowZ u.s u.pos most).1)
    (fun _ w1 h1 => (irow_any h1 most hs).mono fun e w' ⟨v, he, ho, hb⟩ => ⟨v, he, ho, hb⟩)
    (fun _ q => unrowZ_at q))
  have E1 := Lib.hid (show rowS u most = if u.e = 0 then movedS u pRow (unrowZ u.s u.pos most).2.1 (unrowZ u.s u.pos most).2.2 else u from rfl)
  have E2 := Lib.hid (show rowI u most = if u.e = 0 then (unrowZ u.s u.pos most).1 else [] from rfl)
  clear ha hg
  go_enter Tryz.func13, Tryz.ntmps13
  go_wp2_with (go_at_call 39; refine (K.out).mono ?_; rintro _ w1 ⟨v, rfl, ht⟩)
  go_ret
  obtain ⟨h1, h2, h3⟩ := ht
  refine ⟨v, ?_, rfl, _, ⟨rfl, by rw [E1.out]; exact h2⟩, Ext.refl _ _, h3⟩
  rw [E2.out]
  rcases h1 with ⟨a, b, x1, x2, ho, hb1, hb2, hc⟩ | ⟨a, hv⟩
  · rw [if_pos a]
    exact (ho.lower hb1.size).chg hc hBl
  · rw [hv]
    split
    · rename_i q
      rw [unrowZ_no (fun b => a ⟨q, b⟩)]
      exact ownI_nil _ _
    · exact ownI_nil _ _
theorem r_flag {w S B u} (h : RIs w S B u) (hg : Laid w) (hs : u.s.size ≤ 100000) : Calls Tryz.prog 14 #[.pointer (some ⟨B, 0, none⟩)] w (Does RIs S B (flagS u) (.bool (flagB u)) w) := by
  obtain ⟨rfl, ha⟩ := h
  have K := Lib.hid (take_flag ha hg pFlag 1 (flagZ u) (flagE u) (fun _ _ v => flagE u = 0 → v = .bool (flagB u))
    (fun q w1 h1 => (iflag_any h1 q hs).mono fun e w' ⟨v, he, hv, hb⟩ => ⟨v, he, hv, hb⟩)
    (fun _ q => by
      have i1 := ha.2.1
      unfold flagE at q
      unfold flagZ
      split at q
      · omega
      · rename_i q1
        split at q
        · omega
        · rename_i q2
          rw [if_neg q1, if_neg q2]
          omega))
  have E1 := Lib.hid (show flagS u = if u.e = 0 then movedS u pFlag (flagZ u) (flagE u) else u by
    unfold flagS flagZ flagE
    split
    · split
      · rfl
      · split
        · rfl
        · rfl
    · rfl)
  have E2 := Lib.hid (show ¬ (u.e = 0 ∧ flagE u = 0) → flagB u = false by
    intro h
    cases q : flagB u with
    | false => rfl
    | true =>
      exfalso
      apply h
      unfold flagB at q
      simp only [Bool.and_eq_true, decide_eq_true_eq] at q
      refine ⟨q.1.1, ?_⟩
      unfold flagE
      rw [if_neg (by omega), if_neg (by omega)])
  clear ha hg
  go_enter Tryz.func14, Tryz.ntmps14
  go_wp2_with (go_at_call 41; refine (K.out).mono ?_; rintro _ w1 ⟨v, rfl, ht⟩)
  go_ret
  obtain ⟨h1, h2, h3⟩ := ht
  refine ⟨?_, _, ⟨rfl, by rw [E1.out]; exact h2⟩, Ext.refl _ _, h3⟩
  rcases h1 with ⟨a, b, _, _, hv, _⟩ | ⟨a, hv⟩
  · rw [hv b]; rfl
  · rw [E2.out a, hv]; rfl
theorem r_end {w S B u} (h : RIs w S B u) (hg : Laid w) (hs : u.s.size ≤ 100000) : Calls Tryz.prog 15 #[.pointer (some ⟨B, 0, none⟩)] w (Does RIs S B (endS u) (.tuple #[]) w) := by
  obtain ⟨rfl, ha⟩ := h
  have K := Lib.hid (take_end ha hg pEnd 0 (if u.pos < (u.s.size : Int) then 0 else u.pos) (if u.pos < (u.s.size : Int) then 6 else 0) (fun _ _ _ => True)
    (fun _ w1 h1 => (rest_any h1 hs).mono fun e w' ⟨v, he, hb⟩ => ⟨v, he, trivial, hb⟩)
    (fun _ q => by
      have i1 := ha.2.1
      have i2 := ha.2.2
      split at q
      · omega
      · rename_i q1
        rw [if_neg q1]
        omega))
  have E1 := Lib.hid (show endS u = if u.e = 0 then movedS u pEnd (if u.pos < (u.s.size : Int) then 0 else u.pos) (if u.pos < (u.s.size : Int) then 6 else 0) else u by
    unfold endS
    by_cases a : u.e = 0
    · by_cases b : u.pos < (u.s.size : Int)
      · rw [if_pos ⟨a, b⟩, if_pos a, if_pos b, if_pos b]
      · rw [if_neg (fun h => b h.2), if_pos a, if_neg b, if_neg b]
        rfl
    · rw [if_neg (fun h => a h.1), if_neg a])
  clear ha hg
  go_enter Tryz.func15, Tryz.ntmps15
  go_wp2_with (go_at_call 35; refine (K.out).mono ?_; rintro _ w1 ⟨v, rfl, ht⟩)
  go_end0
  obtain ⟨h1, h2, h3⟩ := ht
  exact ⟨rfl, _, ⟨rfl, by rw [E1.out]; exact h2⟩, Ext.refl _ _, h3⟩
theorem r_nil (w : World) (most : Int) (hg : Laid w) : Calls Tryz.prog 10 #[.pointer none, .int .i64 most] w fun e w' => e = .returned (.int .i64 0) ∧ RowKit.Below w.heap.size w w' := by
  have K := Lib.hid (fun f => take_none w hg pNum most f)
  clear hg
  go_enter Tryz.func10, Tryz.ntmps10
  go_wp2_with (go_at_call 35; refine (K.out _).mono ?_; rintro _ w1 ⟨rfl, hb⟩)
  go_ret
  exact ⟨rfl, hb⟩
noncomputable def impl : Impl := {
  W := WIs
  R := RIs
  wold := w_old
  rold := r_old
  wlater := w_later
  rlater := r_later
  wkeep := w_keep
  rkeep := r_keep
  wcells := w_cells
  rcells := r_cells
  wzero := w_zero
  wnum := fun sa len cap l h hg hr hm hwf hS _ => w_num sa len cap l h hg hr hm hwf hS
  wtext := fun s h hg h2 _ => w_text s h hg h2
  wrow := fun sa len cap l h hg hr hm hwf _ _ => w_row sa len cap l h hg hr.1 hm hwf
  wflag := fun b h hg _ => w_flag b h hg
  wdone := fun h _ hs => w_done h hs
  wnone := fun w _ => w_none w
  new := fun s w _ _ => r_new s w
  rnum := fun most h hg hs => r_num most h hg hs
  rtext := fun most h hg hs => r_text most h hg hs
  rrow := fun most h hg hs => r_row most h hg hs
  rflag := fun h hg hs _ => r_flag h hg hs
  rend := fun h hg hs => r_end h hg hs
  rat := fun h _ => r_at h
  rdone := fun h _ => r_done h
  rnone := fun w _ => r_none w
  rnil := fun w most hg => r_nil w most hg }
end Go.Proofs.YtegbldkkggpjcaaGreatDoor
