/- The contract of the document's of: the set of the numbers that are in one of a, and in none of b. -/
import Derived.Test.YtdihbkhhhonlpaaRngEdges
namespace Go.Proofs.Ytdihbkhhhonlpaa
open Go.RowKit Go.Sort

attribute [local go_sem ↓] Go.wp_at_zero Go.wp_at_succ

theorem flat_two (l : List (Int × Int)) (r : Int × Int) : flat (l ++ [r]) = flat l ++ [.int .i64 r.1, .int .i64 r.2] := by rw [flat_app]; rfl
/-- The last one's end is written anew. -/
theorem OwnA.last {w : World} {base g cap : Nat} {l : List (Int × Int)} {r : Int × Int} {n : Nat} (hn : n = (l ++ [r]).length) (h : OwnA w base (.slice (some ⟨g, 0, none⟩) n cap) (l ++ [r])) (hi : Int) :
    OwnA (w.setCell ⟨g, l.length * 2 + 1, none⟩ (.int .i64 hi)) base (.slice (some ⟨g, 0, none⟩) n cap) (l ++ [(r.1, hi)]) := by
  subst hn
  have h2 := (World.ownsRow.stored h (l.length * 2 + 1) (.int .i64 hi)).1
  unfold OwnA
  have e : flat (l ++ [(r.1, hi)]) = (flat (l ++ [r])).set (l.length * 2 + 1) (.int .i64 hi) := by
    rw [flat_two, flat_two, List.set_append_right _ _ (by rw [flat_len]; omega), flat_len, show l.length * 2 + 1 - l.length * 2 = 1 by omega]
    rfl
  rw [e]
  simp only [List.length_append, List.length_singleton] at h2 ⊢
  exact h2
theorem ofAt_no {a b : List (Int × Int)} {e : List Int} {i : Nat} (h : inB a (e.getD i 0) = false) : ofAt a b e (i + 1) = ofAt a b e i := by
  show (if _ then _ else _) = _; rw [h]; rfl
theorem ofAt_no2 {a b : List (Int × Int)} {e : List Int} {i : Nat} (h : inB b (e.getD i 0) = true) : ofAt a b e (i + 1) = ofAt a b e i := by
  show (if _ then _ else _) = _; rw [h, Bool.not_true, Bool.and_false]; rfl
theorem ofAt_yes {a b : List (Int × Int)} {e : List Int} {i : Nat} (h : inB a (e.getD i 0) = true) (h2 : inB b (e.getD i 0) = false) : ofAt a b e (i + 1) = stepOf (ofAt a b e i) (e.getD i 0) (hiAt e i) := by
  show (if _ then _ else _) = _; rw [h, h2]; rfl
theorem hiAt_in {e : List Int} {i : Nat} (h : i + 1 < e.length) : hiAt e i = e.getD (i + 1) 0 - 1 := if_pos h
theorem hiAt_end {e : List Int} {i : Nat} (h : ¬ i + 1 < e.length) : hiAt e i = 1000000 := if_neg h
theorem last_hi {l : List (Int × Int)} {r : Int × Int} {p : Int} (h : Ok p (l ++ [r])) : 1 ≤ r.2 ∧ r.2 ≤ 1000000 := by
  obtain ⟨_, a, b, c, _, _⟩ := ok_init h
  exact ⟨by omega, b⟩

theorem OwnA.lasts {w : World} {base g cap : Nat} {l : List (Int × Int)} {r : Int × Int} {n : Nat} (h : OwnA w base (.slice (some ⟨g, 0, none⟩) n cap) (l ++ [r])) :
    w.cell? ⟨g, l.length * 2, none⟩ = some (.int .i64 r.1) ∧ w.cell? ⟨g, l.length * 2 + 1, none⟩ = some (.int .i64 r.2) ∧ w.frozen? ⟨g, l.length * 2 + 1, none⟩ = false ∧ base ≤ g ∧ n = l.length + 1 := by
  have h0 := h
  rcases h.form with ⟨e, _⟩ | ⟨g', cap', e, _, hg, _, hc⟩
  · cases e
  · simp only [Value.slice.injEq, Option.some.injEq, Addr.mk.injEq, and_true] at e
    obtain ⟨rfl, rfl, rfl⟩ := e
    obtain ⟨c0, c1⟩ := hc l.length (by simp)
    simp at c0 c1
    exact ⟨c0, c1, World.ownsRow.frozenAt h0 _, hg, by simp⟩
theorem OwnA.head {w : World} {base : Nat} {v : Value} {l : List (Int × Int)} {r : Int × Int} (h : OwnA w base v (l ++ [r])) : ∃ g cap, v = .slice (some ⟨g, 0, none⟩) (l.length + 1) cap := by
  rcases h.form with ⟨_, e⟩ | ⟨g, cap, e, _⟩
  · simp at e
  · exact ⟨g, cap, by rw [e]; simp⟩

set_option maxRecDepth 100000 in
set_option maxHeartbeats 6400000 in
theorem rof_any (sa : Option Addr) (na ca : Nat) (za : List (Int × Int)) (sb : Option Addr) (nb cb : Nat) (zb : List (Int × Int)) (w : World) (hm : na + nb ≤ 450) (h1 : ReadsA w sa na za) (h2 : ReadsA w sb nb zb) :
    Calls Try.prog 33 #[.slice sa na ca, .slice sb nb cb] w fun e w' => ∃ v, e = .returned v ∧ OwnA w' w.heap.size v (ofL za zb) ∧ RowKit.Below w.heap.size w w' := by
  have hmix := mixed
  have HLA := Lib.hid h1.1
  have HLB := Lib.hid h2.1
  have HA := Lib.hid h1; clear h1
  have HB := Lib.hid h2; clear h2
  go_enter Try.func33, Try.ntmps33
  go_wp2_with (at_builtin; refine wpList_append_att rfl _ _ rfl w.heap.size _ [] rfl ?c0 sa na ca za rfl ?c1 ?c2 ?c3 ?_)
  case c0 => exact own_made w _ (Nat.le_refl _)
  case c1 => exact HA.out.later ((Below.refl _ _).alloc (Nat.le_refl _) _)
  case c2 => simp; omega
  case c3 => simp
  intro v1 w1 ho1 _ hb1
  have HB1 := Lib.hid (((Below.refl w.heap.size w).alloc (Nat.le_refl _) _).trans hb1)
  have HO1 := Lib.hid ho1
  clear ho1 hb1
  go_wp2_with (at_builtin; refine wpList_append_att rfl _ _ rfl w.heap.size _ ([] ++ za) rfl ?d0 sb nb cb zb rfl ?d1 ?d2 ?d3 ?_)
  case d0 => exact HO1.out
  case d1 => exact HB.out.later HB1.out
  case d2 => simp only [List.nil_append, ← HLA.out]; omega
  case d3 => exact HB1.out.size
  intro v2 w2 ho2 _ hb2
  have HB2 := Lib.hid (HB1.out.trans hb2)
  clear hb2
  obtain ⟨s2, c2, rfl, hr2⟩ := ho2.reads
  have hl2 : (za ++ zb).length = na + nb := by simp [HLA.out, HLB.out]
  rw [hl2] at hr2 ⊢
  have HR2 := Lib.hid hr2
  clear hr2 ho2 HO1 HB1 hl2
  go_wp2_with (go_at_call 42; with_reducible refine (redges_any s2 (na + nb) c2 (za ++ zb) w2 (by omega) HR2.out).mono ?_; rintro e w3 ⟨v3, rfl, he, hb3⟩)
  have HB3 := Lib.hid (HB2.out.trans (hb3.mono HB2.out.size))
  have ED := edgesL_ok (za ++ zb)
  have HOF := Lib.hid (show ofAt za zb (edgesL (za ++ zb)) (edgesL (za ++ zb)).length = ofL za zb from rfl)
  have HUP := Lib.hid (of_upto ED (edgesL_cov (za ++ zb)).left (edgesL_cov (za ++ zb)).right)
  obtain ⟨E, hE⟩ : ∃ E, E = edgesL (za ++ zb) := ⟨_, rfl⟩
  rw [← hE] at he HOF HUP ED
  clear hE
  have hel : E.length ≤ 901 := by have := ED.len; rw [List.length_append] at this; have := HLA.out; have := HLB.out; omega
  have HED := Lib.hid ED
  obtain ⟨ge, ce, rfl, hce, hre⟩ := he
  have HE := Lib.hid hre
  obtain ⟨n, hn⟩ : ∃ n, n = E.length := ⟨_, rfl⟩
  rw [← hn] at HE HOF HUP hel hce ⊢
  have HN := Lib.hid hn
  clear hn hre hb3 ED HR2 HB2
  go_wp2_with fail
  go_loopg [6, 7] n (fun gg v i wr => ∃ k : Nat, k + gg = n ∧ i = .int .i64 k ∧ Hid (OwnA wr w3.heap.size v (ofAt za zb E k)) ∧ Hid (RowKit.Below w3.heap.size w3 wr))
  case atStart => exact ⟨0, by omega, rfl, Lib.hid (own_nil _ _), Lib.hid (Below.refl _ _)⟩
  case round =>
    obtain ⟨k, hk, rfl, HO, HW3⟩ := hrel
    have HBW := Lib.hid (HB3.out.trans (HW3.out.mono HB3.out.size))
    have HEW := Lib.hid (HE.out.later HW3.out)
    by_cases hlt : k < n
    · have HZA := Lib.hid (HA.out.later HBW.out)
      have HZB := Lib.hid (HB.out.later HBW.out)
      have hu := HUP.out k (by omega)
      have hkl : k < E.length := by rw [← HN.out]; exact hlt
      rw [show loAt E k = E.getD k 0 from if_pos hkl] at hu
      have HOK := Lib.hid hu.1
      clear hu
      obtain ⟨h1, h2⟩ := HED.out.hi hkl
      have h3 := HED.out.lo _ (getD_mem hkl)
      have hs : k + 1 < n → hiAt E k = E.getD (k + 1) 0 - 1 ∧ 1 ≤ E.getD (k + 1) 0 ∧ E.getD (k + 1) 0 ≤ 1000000 := fun q => by
        rw [HN.out] at q
        exact ⟨hiAt_in q, HED.out.lo _ (getD_mem q)⟩
      have hs2 : ¬ k + 1 < n → hiAt E k = 1000000 := fun q => hiAt_end (by rw [← HN.out]; exact q)
      obtain ⟨b0, o0, e0, gcell⟩ := HEW.out.2 (by omega)
      simp only [Option.some.injEq, Addr.mk.injEq, and_true] at e0
      obtain ⟨rfl, rfl⟩ := e0
      have l0 := gcell k hlt
      have l1 : k + 1 < n → wr.cell? ⟨ge, k + 1, none⟩ = some (.int .i64 (E.getD (k + 1) 0)) := fun q => by have := gcell (k + 1) q; rw [Nat.zero_add] at this; exact this
      rw [Nat.zero_add] at l0
      clear gcell hkl
      have HNO := Lib.hid (@ofAt_no za zb E k)
      have HNO2 := Lib.hid (@ofAt_no2 za zb E k)
      have HYES := Lib.hid (@ofAt_yes za zb E k)
      have hol := ofAt_len za zb E k
      obtain ⟨out, hout⟩ : ∃ out, out = ofAt za zb E k := ⟨_, rfl⟩
      rw [← hout] at HO HOK HNO HNO2 HYES hol
      generalize E.getD k 0 = x at *
      generalize E.getD (k + 1) 0 = y at *
      generalize hiAt E k = hi at *
      clear hout
      have HS := Lib.hid hs
      have HS2 := Lib.hid hs2
      have HL1 := Lib.hid l1
      have HOL := Lib.hid hol
      have HI1 := Lib.hid h1
      have HI2 := Lib.hid h2
      have HI3 := Lib.hid h3
      clear hs hs2 l1 hol h1 h2 h3
      have i1 : (0 : Int) ≤ (k : Int) := by omega
      have i2 : (k : Int) < (n : Int) := by omega
      cases ina : inB za x with
      | false =>
        have HNN := Lib.hid (HNO.out ina)
        have INA := Lib.hid ina; clear ina
        go_wp2_with (go_at_call 28; with_reducible refine (rin_any sa na ca za x _ (by omega) HZA.out).mono ?_; rintro e w4 ⟨rfl, hg⟩; rw [INA.out]; have HG4 := Lib.hid hg; clear hg)
        go_roundg (gk - 1)
        case measure => omega
        case rel => exact ⟨k + 1, by omega, by go_num, Lib.hid (by rw [HNN.out]; exact HO.out.later HG4.out.below), Lib.hid (HW3.out.trans (HG4.out.below.mono HW3.out.size))⟩
      | true =>
        have INA := Lib.hid ina; clear ina
        cases inb : inB zb x with
        | true =>
          have HNN := Lib.hid (HNO2.out inb)
          have INB := Lib.hid inb; clear inb
          go_wp2_with (first
            | (go_at_call 28; with_reducible refine (rin_any sa na ca za x _ (by omega) HZA.out).mono ?_; rintro e w4 ⟨rfl, hg⟩; rw [INA.out]; have HG4 := Lib.hid hg; have m0 := (hg.below.cell (World.block_lt_of_cell? _ _ l0)).trans l0; clear hg)
            | (go_at_call 28; with_reducible refine (rin_any sb nb cb zb x _ (by omega) (HZB.out.later HG4.out.below)).mono ?_; rintro e w5 ⟨rfl, hg⟩; rw [INB.out]; have HG5 := Lib.hid (HG4.out.trans hg); clear hg))
          go_roundg (gk - 1)
          case measure => omega
          case rel => exact ⟨k + 1, by omega, by go_num, Lib.hid (by rw [HNN.out]; exact HO.out.later HG5.out.below), Lib.hid (HW3.out.trans (HG5.out.below.mono HW3.out.size))⟩
        | false =>
          have HYY := Lib.hid (HYES.out INA.out inb)
          have INB := Lib.hid inb; clear inb
          go_upto_if 41 with (first
            | (go_at_call 28; with_reducible refine (rin_any sa na ca za x _ (by omega) HZA.out).mono ?_; rintro e w4 ⟨rfl, hg⟩; rw [INA.out]; have HG4 := Lib.hid hg; have m0 := (hg.below.cell (World.block_lt_of_cell? _ _ l0)).trans l0; clear hg)
            | (go_at_call 28; with_reducible refine (rin_any sb nb cb zb x _ (by omega) (HZB.out.later HG4.out.below)).mono ?_; rintro e w5 ⟨rfl, hg⟩; rw [INB.out]; have HG5 := Lib.hid (HG4.out.trans hg); have p0 := (hg.below.cell (World.block_lt_of_cell? _ _ m0)).trans m0; clear hg))
          have HW5 := Lib.hid (HW3.out.trans (HG5.out.below.mono HW3.out.size))
          have HO5 := Lib.hid (HO.out.later HG5.out.below)
          go_cut [8] (fun hv wi => wi = w5 ∧ hv = .int .i64 hi)
          case first =>
            by_cases q : k + 1 < n
            · obtain ⟨q1, q2, q3⟩ := HS.out q
              have p1 := (HG5.out.below.cell (World.block_lt_of_cell? _ _ (HL1.out q))).trans (HL1.out q)
              have d1 : decide ((k : Int) + 1 < (n : Int)) = true := decide_eq_true (by omega)
              have i3 : (k : Int) + 1 < (n : Int) := by omega
              have i4 : (0 : Int) ≤ (k : Int) + 1 := by omega
              have HQ := Lib.hid q1
              clear q q1
              simp only [d1]
              go_wp2_with fail
              go_meet
              case rel => exact ⟨rfl, by rw [HQ.out]⟩
            · have HQ := Lib.hid (HS2.out q)
              have d1 : decide ((k : Int) + 1 < (n : Int)) = false := decide_eq_false (by omega)
              clear q
              simp only [d1]
              go_wp2_with fail
              go_meet
              case rel => exact ⟨rfl, by rw [HQ.out]⟩
          case rest =>
          obtain ⟨ew, rfl⟩ := hcut
          obtain rfl := ew.symm
          rcases List.eq_nil_or_concat out with hnil | ⟨l, r, hcc⟩
          · subst hnil
            rw [stepOf_nil] at HYY
            obtain ⟨so, oc, rfl, hor⟩ := HO5.out.reads
            simp only [List.length_nil] at hor ⊢
            clear hor
            go_wp2_with fail
            go_quiet (fail)
            have HW6 := Lib.hid (HW5.out.trans ((grew_quiet (Grew.refl w5) nq).below.mono HW5.out.size))
            have HO6 := Lib.hid (HO5.out.later (grew_quiet (Grew.refl w5) nq).below)
            have p2 : (w5.drewN nq).cell? ⟨ge, k, none⟩ = some (.int .i64 x) := p0
            generalize w5.drewN nq = w6 at *
            go_wp2_with (at_builtin; refine wpList_append_att rfl _ _ rfl w3.heap.size _ [] rfl ?a0 _ 1 1 [(x, hi)] rfl ?a1 ?a2 ?a3 ?_)
            case a0 => exact HO6.out.alloc _
            case a1 => exact one_lit w6 (x, hi)
            case a2 => decide
            case a3 => exact Nat.le_trans HW6.out.size (by simp)
            intro v7 w7 ho7 _ hb7
            have HW7 := Lib.hid ((HW6.out.alloc HW6.out.size _).trans hb7)
            have HO7 := Lib.hid ho7
            clear ho7 hb7
            go_wp2_with fail
            go_roundg (gk - 1)
            case measure => omega
            case rel => exact ⟨k + 1, by omega, by go_num, Lib.hid (by rw [HYY.out]; exact HO7.out), HW7⟩
          · rw [List.concat_eq_append] at hcc
            subst hcc
            obtain ⟨g, oc, rfl⟩ := HO5.out.head
            obtain ⟨c0, c1, cf, cg, _⟩ := HO5.out.lasts
            obtain ⟨r1, r2⟩ := last_hi HOK.out
            obtain ⟨m, hm0⟩ : ∃ m, m = l.length := ⟨_, rfl⟩
            rw [← hm0] at c0 c1 cf HO5 ⊢
            have HM := Lib.hid hm0
            have hmk : m ≤ 901 := by have := HOL.out; rw [List.length_append, ← hm0] at this; simp at this; omega
            have CG := Lib.hid cg
            clear hm0 cg
            have j1 : (0 : Int) ≤ (m : Int) := by omega
            have j2 : (m : Int) < (m : Int) + 1 := by omega
            by_cases e : r.2 + 1 = x
            · have d2 : (r.2 + 1 == x) = true := by simpa using e
              rw [stepOf_on l r x hi e] at HYY
              clear e
              go_wp2_with fail
              go_quiet (fail)
              have HW6 := Lib.hid (HW5.out.trans ((grew_quiet (Grew.refl w5) nq).below.mono HW5.out.size))
              have HO6 := Lib.hid (HO5.out.later (grew_quiet (Grew.refl w5) nq).below)
              obtain ⟨c2, c3, cf3, _, _⟩ := HO6.out.lasts
              rw [← HM.out] at c2 c3 cf3
              clear c0 c1 cf
              generalize w5.drewN nq = w6 at *
              go_wp2_with fail
              go_roundg (gk - 1)
              case measure => omega
              case rel =>
                have ho := OwnA.last (by simp [← HM.out]) HO6.out hi
                rw [← HM.out] at ho
                exact ⟨k + 1, by omega, by go_num, Lib.hid (by rw [HYY.out]; exact ho), Lib.hid (HW6.out.setCell (p := ⟨g, m * 2 + 1, none⟩) CG.out _)⟩
            · have d2 : (r.2 + 1 == x) = false := by simpa using e
              rw [stepOf_new l r x hi e] at HYY
              clear e
              go_wp2_with fail
              go_quiet (fail)
              have HW6 := Lib.hid (HW5.out.trans ((grew_quiet (Grew.refl w5) nq).below.mono HW5.out.size))
              have HO6 := Lib.hid (HO5.out.later (grew_quiet (Grew.refl w5) nq).below)
              have p2 : (w5.drewN nq).cell? ⟨ge, k, none⟩ = some (.int .i64 x) := p0
              clear c0 c1 cf
              generalize w5.drewN nq = w6 at *
              go_wp2_with (at_builtin; refine wpList_append_att rfl _ _ rfl w3.heap.size _ (l ++ [r]) rfl ?b0 _ 1 1 [(x, hi)] rfl ?b1 ?b2 ?b3 ?_)
              case b0 => exact HO6.out.alloc _
              case b1 => exact one_lit w6 (x, hi)
              case b2 => rw [List.length_append, ← HM.out]; simp; omega
              case b3 => exact Nat.le_trans HW6.out.size (by simp)
              intro v7 w7 ho7 _ hb7
              have HW7 := Lib.hid ((HW6.out.alloc HW6.out.size _).trans hb7)
              have HO7 := Lib.hid ho7
              clear ho7 hb7
              go_wp2_with fail
              go_roundg (gk - 1)
              case measure => omega
              case rel => exact ⟨k + 1, by omega, by go_num, Lib.hid (by rw [HYY.out, List.append_assoc]; exact HO7.out), HW7⟩
    · obtain rfl : k = n := by omega
      clear hlt
      go_wp2_with fail
      go_ret
      exact ⟨_, rfl, by rw [← HOF.out]; exact OwnA.lower HO.out HB3.out.size, HBW.out⟩
end Go.Proofs.Ytdihbkhhhonlpaa
