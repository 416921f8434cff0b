/- The contract of the document's put: a number in its place. -/
import Derived.Test.YtdihbkhhhonlpaaRngRefB
namespace Go.Proofs.Ytdihbkhhhonlpaa
open Go.RowKit Go.Sort

attribute [local go_sem ↓] Go.wp_at_zero Go.wp_at_succ

/-- v is a row of numbers, one at least. -/
def RowI (w : World) (v : Value) (l : List Int) : Prop := ∃ g cap, v = .slice (some ⟨g, 0, none⟩) l.length cap ∧ l.length ≤ cap ∧ ReadsI w (some ⟨g, 0, none⟩) l.length l
theorem RowI.later {w w' : World} {v : Value} {l : List Int} (h : RowI w v l) (k : RowKit.Below w.heap.size w w') : RowI w' v l := by
  obtain ⟨g, cap, e, h1, h2⟩ := h
  exact ⟨g, cap, e, h1, h2.later k⟩
theorem rowI_of {w : World} {g len cap : Nat} {l : List Int} (h : len = l.length) (hc : len ≤ cap) (hr : ReadsI w (some ⟨g, 0, none⟩) len l) : RowI w (.slice (some ⟨g, 0, none⟩) len cap) l := by
  subst h; exact ⟨g, cap, rfl, hc, hr⟩
theorem OwnI.row {w : World} {base : Nat} {v : Value} {l : List Int} (h : OwnI w base v l) (h0 : 0 < l.length) : RowI w v l := by
  rcases h.form with ⟨_, e⟩ | ⟨g, cap, e, h1, _, _, hc⟩
  · rw [e] at h0; exact absurd h0 (by decide)
  · exact ⟨g, cap, e, h1, rfl, fun _ => ⟨g, 0, rfl, fun i hi => by rw [Nat.zero_add]; exact hc i hi⟩⟩
theorem farI1 (n a b : Nat) : some (n + 1) ≠ (Value.slice (some ⟨n, 0, none⟩) a b).ownBlock := by simp [Value.ownBlock]
theorem farI2 (n a b : Nat) : some n ≠ (Value.slice (some ⟨n + 1, 0, none⟩) a b).ownBlock := by simp [Value.ownBlock]
theorem litI_second {wc w1 : World} {x : Int} {o : Obj} {a b : Nat} (hg : ((wc.alloc o).alloc (.cells #[.int .i64 x] 3)).drew.grownBy w1 (Value.slice (some ⟨wc.heap.size, 0, none⟩) a b).ownBlock) : ReadsI w1 (some ⟨wc.heap.size + 1, 0, none⟩) 1 [x] := by
  have h := (one_int (wc.alloc o) x).later (Below.refl _ _).drew
  rw [show (wc.alloc o).heap.size = wc.heap.size + 1 by simp] at h
  exact h.far hg (farI1 _ _ _)
theorem litI_first {wc w1 : World} {x : Int} {o : Obj} {a b : Nat} (hg : ((wc.alloc (.cells #[.int .i64 x] 3)).alloc o).drew.grownBy w1 (Value.slice (some ⟨wc.heap.size + 1, 0, none⟩) a b).ownBlock) : ReadsI w1 (some ⟨wc.heap.size, 0, none⟩) 1 [x] :=
  (((one_int wc x).later ((Below.refl _ _).alloc (Nat.le_refl _) _)).later (Below.refl _ _).drew).far hg (farI2 _ _ _)
theorem ownI_made2 (w : World) (o : Obj) (base : Nat) (hb : base ≤ w.heap.size) : OwnI ((w.alloc o).alloc (.cells #[] 3)) base (.slice (some ⟨w.heap.size + 1, 0, none⟩) 0 0) [] := by
  have h := ownI_made (w.alloc o) base (by simp; omega)
  rw [show (w.alloc o).heap.size = w.heap.size + 1 by simp] at h
  exact h

set_option maxRecDepth 100000 in
set_option maxHeartbeats 16000000 in
theorem rput_row (g cap : Nat) (l : List Int) (n : Int) (len : Nat) (w : World) (hl : len = l.length) (hm : len ≤ 5000) (hcap : len ≤ cap) (hr : ReadsI w (some ⟨g, 0, none⟩) len l) :
    Calls Try.prog 46 #[.slice (some ⟨g, 0, none⟩) len cap, .int .i64 n] w fun e w' => ∃ v, e = .returned v ∧ RowI w' v (putL l n) ∧ RowKit.Below w.heap.size w w' := by
  have hmix := mixed
  have HL := Lib.hid hl; clear hl
  have HR := Lib.hid hr; clear hr
  go_enter Try.func46, Try.ntmps46
  go_upto_block 0 with (fail)
  go_cut [5] (fun kv wi => wi = w ∧ ∃ k : Nat, kv = .int .i64 k ∧ k ≤ len ∧ Hid (∀ m, m < k → l.getD m 0 < n) ∧ Hid (k < len → ¬ l.getD k 0 < n))
  case first =>
    go_wp2_with fail
    go_loopg [5] len (fun gg i wr => wr = w ∧ ∃ k : Nat, k + gg = len ∧ i = .int .i64 k ∧ Hid (∀ m, m < k → l.getD m 0 < n))
    case atStart => exact ⟨rfl, 0, by omega, rfl, Lib.hid (fun m hm => absurd hm (by omega))⟩
    case round =>
      obtain ⟨rfl, k, hk, rfl, HK⟩ := hrel
      by_cases hlt : k < len
      · obtain ⟨b, off, e, gg⟩ := HR.out.2 (by omega)
        simp only [Option.some.injEq, Addr.mk.injEq, and_true] at e
        obtain ⟨rfl, rfl⟩ := e
        have l0 := gg k hlt
        rw [Nat.zero_add] at l0
        clear gg
        obtain ⟨x, hx⟩ : ∃ x, x = l.getD k 0 := ⟨_, rfl⟩
        rw [← hx] at l0
        have HX := Lib.hid hx; clear hx
        have i1 : (0 : Int) ≤ (k : Int) := by omega
        have i2 : (k : Int) < (len : Int) := by omega
        by_cases q : x < n
        · have d1 : decide (x < n) = true := decide_eq_true q
          have Q := Lib.hid q
          clear q
          go_wp2
          go_roundg (gk - 1)
          case measure => omega
          case rel =>
            refine ⟨rfl, k + 1, by omega, by go_num, Lib.hid (fun m hm => ?_)⟩
            by_cases e : m = k
            · rw [e, ← HX.out]; exact Q.out
            · exact HK.out m (by omega)
        · have d1 : decide (x < n) = false := decide_eq_false q
          have Q := Lib.hid q
          clear q
          go_wp2
          go_meet
          case rel => exact ⟨rfl, k, rfl, by omega, HK, Lib.hid (fun _ => by rw [← HX.out]; exact Q.out)⟩
      · obtain rfl : k = len := by omega
        clear hlt
        go_wp2
        go_meet
        case rel => exact ⟨rfl, k, rfl, Nat.le_refl _, HK, Lib.hid (fun h => absurd h (by omega))⟩
  case rest =>
  obtain ⟨ew, k, rfl, hk, HK, HN⟩ := hcut
  obtain rfl := ew.symm
  have hput := putL_at n l k (by rw [← HL.out]; exact hk) HK.out (by rw [← HL.out]; exact HN.out)
  rw [← HL.out] at hput
  have RA := Lib.hid (HR.out.take k hk)
  have RB := Lib.hid (HR.out.drop k hk)
  have RZ := Lib.hid HR.out
  have k1 : (0 : Int) ≤ (k : Int) := by omega
  have k2 : (k : Int) ≤ (len : Int) := by omega
  have k3 : (k : Int) ≤ (cap : Int) := by omega
  have k4 : (len : Int) ≤ (cap : Int) := by omega
  clear HK HN
  by_cases hlt : k < len
  · have i2 : (k : Int) < (len : Int) := by omega
    have i3 : (k : Int) < (cap : Int) := by omega
    obtain ⟨b, off, e, gg⟩ := HR.out.2 (by omega)
    simp only [Option.some.injEq, Addr.mk.injEq, and_true] at e
    obtain ⟨rfl, rfl⟩ := e
    have l0 := gg k hlt
    rw [Nat.zero_add] at l0
    clear gg
    by_cases q : l.getD k 0 = n
    · rw [if_pos ⟨hlt, q⟩] at hput
      have HP := Lib.hid hput
      rw [q] at l0
      clear hput q
      go_wp2
      go_ret
      exact ⟨_, rfl, by rw [HP.out]; exact rowI_of HL.out hcap RZ.out, Below.refl _ _⟩
    · have d1 : (l.getD k 0 == n) = false := by simpa using q
      rw [if_neg (fun h => q h.2)] at hput
      have HP := Lib.hid hput
      obtain ⟨x, hx⟩ : ∃ x, x = l.getD k 0 := ⟨_, rfl⟩
      rw [← hx] at l0 d1
      clear hput q hx
      have hck : ¬ cap = k := by omega
      go_wp2
      go_region_held3 (fun w' => Hid (RowKit.Below w.heap.size w w'))
        (first
          | exact Lib.hid (Below.refl _ _).drew
          | exact Lib.hid (((Below.refl _ w).alloc (Nat.le_refl _) _).drew)
          | exact Lib.hid ((((Below.refl _ w).alloc (Nat.le_refl _) _).alloc (by simp) _).drew)
          | exact Lib.hid ((Hid.out (p := RowKit.Below w.heap.size w _) (by assumption)).trans hb3)
          | exact Lib.hid ((Hid.out (p := RowKit.Below w.heap.size w _) (by assumption)).trans hb2)
          | exact Lib.hid ((Hid.out (p := RowKit.Below w.heap.size w _) (by assumption)).trans hb1)
          | exact Lib.hid ((Hid.out (p := RowKit.Below w.heap.size w _) (by assumption)).alloc (Hid.out (p := RowKit.Below w.heap.size w _) (by assumption)).size _))
        (first
          | (refine step_append_int (by rfl) (.tmp 33) (.tmp 36) (by rfl) w.heap.size _ [] (by rfl) ?_ _ _ _ (l.take k) (by rfl) ?_ ?_ ?_ ?_
             · (first | exact (ownI_made w _ (Nat.le_refl _)).drew | exact ((ownI_made w _ (Nat.le_refl _)).alloc _).drew | exact (ownI_made2 w _ _ (Nat.le_refl _)).drew)
             · exact RA.out.later (Hid.out (p := RowKit.Below w.heap.size w _) (by assumption))
             · (simp; omega)
             · exact (Hid.out (p := RowKit.Below w.heap.size w _) (by assumption)).size
             intro v1 w1 ho1 hg1 hb1
             (try have L1 := litI_second hg1)
             (try have L1 := litI_first hg1))
          | (refine step_append_int (by rfl) (.tmp 37) (.tmp 39) (by rfl) w.heap.size _ (l.take k) (by rfl) ?_ _ _ _ [n] (by rfl) ?_ ?_ ?_ ?_
             · (first | exact ho1 | exact ho1.alloc _)
             · (first | exact L1 | exact one_int w1 n)
             · (rw [List.length_take]; omega)
             · exact (Hid.out (p := RowKit.Below w.heap.size w _) (by assumption)).size
             intro v2 w2 ho2 hg2 hb2)
          | (refine step_append_int (by rfl) (.tmp 40) (.tmp 43) (by rfl) w.heap.size _ (l.take k ++ [n]) (by rfl) ?_ _ _ _ (l.drop k) (by rfl) ?_ ?_ ?_ ?_
             · exact ho2
             · exact RB.out.later (Hid.out (p := RowKit.Below w.heap.size w _) (by assumption))
             · (rw [List.length_append, List.length_take, ← HL.out]; simp; omega)
             · exact (Hid.out (p := RowKit.Below w.heap.size w _) (by assumption)).size
             intro v3 w3 ho3 hg3 hb3; have HW3 := Lib.hid ((Hid.out (p := RowKit.Below w.heap.size w _) (by assumption)).trans hb3)))
      all_goals
        have HO3 := Lib.hid ho3
        clear ho3 hg3 hb3
        go_wp2_with fail
        go_ret
        exact ⟨_, rfl, by rw [HP.out]; exact OwnI.row HO3.out (by simp; omega), HW3.out⟩
  · obtain rfl : k = len := by omega
    rw [if_neg (fun h => absurd h.1 (by omega))] at hput
    have HP := Lib.hid hput
    clear hput hlt
    by_cases hck : cap = k
    · obtain rfl : k = cap := hck.symm
      have RB := Lib.hid (readsI_zero (w := w) (sa := some ⟨g, 0, none⟩) (l := l.drop k) (by rw [List.drop_eq_nil_iff]; have := HL.out; omega))
      go_wp2
      go_region_held3 (fun w' => Hid (RowKit.Below w.heap.size w w'))
        (first
          | exact Lib.hid (Below.refl _ _).drew
          | exact Lib.hid (((Below.refl _ w).alloc (Nat.le_refl _) _).drew)
          | exact Lib.hid ((((Below.refl _ w).alloc (Nat.le_refl _) _).alloc (by simp) _).drew)
          | exact Lib.hid ((Hid.out (p := RowKit.Below w.heap.size w _) (by assumption)).trans hb3)
          | exact Lib.hid ((Hid.out (p := RowKit.Below w.heap.size w _) (by assumption)).trans hb2)
          | exact Lib.hid ((Hid.out (p := RowKit.Below w.heap.size w _) (by assumption)).trans hb1)
          | exact Lib.hid ((Hid.out (p := RowKit.Below w.heap.size w _) (by assumption)).alloc (Hid.out (p := RowKit.Below w.heap.size w _) (by assumption)).size _))
        (first
          | (refine step_append_int (by rfl) (.tmp 33) (.tmp 36) (by rfl) w.heap.size _ [] (by rfl) ?_ _ _ _ (l.take k) (by rfl) ?_ ?_ ?_ ?_
             · (first | exact (ownI_made w _ (Nat.le_refl _)).drew | exact ((ownI_made w _ (Nat.le_refl _)).alloc _).drew | exact (ownI_made2 w _ _ (Nat.le_refl _)).drew)
             · exact RA.out.later (Hid.out (p := RowKit.Below w.heap.size w _) (by assumption))
             · (simp; omega)
             · exact (Hid.out (p := RowKit.Below w.heap.size w _) (by assumption)).size
             intro v1 w1 ho1 hg1 hb1
             (try have L1 := litI_second hg1)
             (try have L1 := litI_first hg1))
          | (refine step_append_int (by rfl) (.tmp 37) (.tmp 39) (by rfl) w.heap.size _ (l.take k) (by rfl) ?_ _ _ _ [n] (by rfl) ?_ ?_ ?_ ?_
             · (first | exact ho1 | exact ho1.alloc _)
             · (first | exact L1 | exact one_int w1 n)
             · (rw [List.length_take]; omega)
             · exact (Hid.out (p := RowKit.Below w.heap.size w _) (by assumption)).size
             intro v2 w2 ho2 hg2 hb2)
          | (refine step_append_int (by rfl) (.tmp 40) (.tmp 43) (by rfl) w.heap.size _ (l.take k ++ [n]) (by rfl) ?_ _ _ _ (l.drop k) (by rfl) ?_ ?_ ?_ ?_
             · exact ho2
             · exact RB.out.later (Hid.out (p := RowKit.Below w.heap.size w _) (by assumption))
             · (rw [List.length_append, List.length_take, ← HL.out]; simp; omega)
             · exact (Hid.out (p := RowKit.Below w.heap.size w _) (by assumption)).size
             intro v3 w3 ho3 hg3 hb3; have HW3 := Lib.hid ((Hid.out (p := RowKit.Below w.heap.size w _) (by assumption)).trans hb3)))
      all_goals
        have HO3 := Lib.hid ho3
        clear ho3 hg3 hb3
        go_wp2_with fail
        go_ret
        exact ⟨_, rfl, by rw [HP.out]; exact OwnI.row HO3.out (by simp; omega), HW3.out⟩
    · have i3 : (k : Int) < (cap : Int) := by omega
      have RB := Lib.hid (show ReadsI w (some ⟨g, k, none⟩) 0 (l.drop k) from by have := HR.out.drop k (Nat.le_refl k); rw [Nat.sub_self] at this; exact this)
      go_wp2
      go_region_held3 (fun w' => Hid (RowKit.Below w.heap.size w w'))
        (first
          | exact Lib.hid (Below.refl _ _).drew
          | exact Lib.hid (((Below.refl _ w).alloc (Nat.le_refl _) _).drew)
          | exact Lib.hid ((((Below.refl _ w).alloc (Nat.le_refl _) _).alloc (by simp) _).drew)
          | exact Lib.hid ((Hid.out (p := RowKit.Below w.heap.size w _) (by assumption)).trans hb3)
          | exact Lib.hid ((Hid.out (p := RowKit.Below w.heap.size w _) (by assumption)).trans hb2)
          | exact Lib.hid ((Hid.out (p := RowKit.Below w.heap.size w _) (by assumption)).trans hb1)
          | exact Lib.hid ((Hid.out (p := RowKit.Below w.heap.size w _) (by assumption)).alloc (Hid.out (p := RowKit.Below w.heap.size w _) (by assumption)).size _))
        (first
          | (refine step_append_int (by rfl) (.tmp 33) (.tmp 36) (by rfl) w.heap.size _ [] (by rfl) ?_ _ _ _ (l.take k) (by rfl) ?_ ?_ ?_ ?_
             · (first | exact (ownI_made w _ (Nat.le_refl _)).drew | exact ((ownI_made w _ (Nat.le_refl _)).alloc _).drew | exact (ownI_made2 w _ _ (Nat.le_refl _)).drew)
             · exact RA.out.later (Hid.out (p := RowKit.Below w.heap.size w _) (by assumption))
             · (simp; omega)
             · exact (Hid.out (p := RowKit.Below w.heap.size w _) (by assumption)).size
             intro v1 w1 ho1 hg1 hb1
             (try have L1 := litI_second hg1)
             (try have L1 := litI_first hg1))
          | (refine step_append_int (by rfl) (.tmp 37) (.tmp 39) (by rfl) w.heap.size _ (l.take k) (by rfl) ?_ _ _ _ [n] (by rfl) ?_ ?_ ?_ ?_
             · (first | exact ho1 | exact ho1.alloc _)
             · (first | exact L1 | exact one_int w1 n)
             · (rw [List.length_take]; omega)
             · exact (Hid.out (p := RowKit.Below w.heap.size w _) (by assumption)).size
             intro v2 w2 ho2 hg2 hb2)
          | (refine step_append_int (by rfl) (.tmp 40) (.tmp 43) (by rfl) w.heap.size _ (l.take k ++ [n]) (by rfl) ?_ _ _ _ (l.drop k) (by rfl) ?_ ?_ ?_ ?_
             · exact ho2
             · exact RB.out.later (Hid.out (p := RowKit.Below w.heap.size w _) (by assumption))
             · (rw [List.length_append, List.length_take, ← HL.out]; simp; omega)
             · exact (Hid.out (p := RowKit.Below w.heap.size w _) (by assumption)).size
             intro v3 w3 ho3 hg3 hb3; have HW3 := Lib.hid ((Hid.out (p := RowKit.Below w.heap.size w _) (by assumption)).trans hb3)))
      all_goals
        have HO3 := Lib.hid ho3
        clear ho3 hg3 hb3
        go_wp2_with fail
        go_ret
        exact ⟨_, rfl, by rw [HP.out]; exact OwnI.row HO3.out (by simp; omega), HW3.out⟩
theorem rput_any (v : Value) (l : List Int) (n : Int) (w : World) (hm : l.length ≤ 5000) (hr : RowI w v l) :
    Calls Try.prog 46 #[v, .int .i64 n] w fun e w' => ∃ v', e = .returned v' ∧ RowI w' v' (putL l n) ∧ RowKit.Below w.heap.size w w' := by
  obtain ⟨g, cap, rfl, h1, h2⟩ := hr
  exact rput_row g cap l n l.length w rfl hm h1 h2
end Go.Proofs.Ytdihbkhhhonlpaa
