/- The walk of the document's Sort. -/
import Derived.Test.YtcgnodkbmpkhkaaIdentRSort
import Derived.Deep.LoopGhost
import Derived.Deep.DeepCutAuto
import Derived.Deep.CutBlock
namespace Go.Proofs.Ytcgnodkbmpkhkaa
open Go.RowKit Go.Sort

attribute [local go_sem ↓] Go.wp_at_zero Go.wp_at_succ

theorem rless_grown (x y : Int × Int) (W : World) (n : Nat) (os : Array Obj) : Calls Try.prog 19 #[.agg #[.int .i64 x.1, .int .i64 x.2], .agg #[.int .i64 y.1, .int .i64 y.2]] (grow (W.drewN n) os) fun e w' => e = .returned (.bool (lessB x y)) ∧ ∃ q os', w' = grow ((grow (W.drewN n) os).drewN q) os' :=
  rless_any x y _
theorem own_nil (w : World) (base : Nat) : OwnA w base (.slice none 0 0) [] := World.ownsRow_nil _ _ _ _
theorem insAll_take (zs : List (Int × Int)) (i : Nat) (h : i < zs.length) : insAll (zs.take (i + 1)) = insL (zs.getD i (0, 0)) (insAll (zs.take i)) := by
  rw [List.take_succ_eq_append_getElem h, insAll_snoc]; simp [List.getD, h]
theorem take_len (zs : List (Int × Int)) (i : Nat) (h : i ≤ zs.length) : (insAll (zs.take i)).length = i := by rw [insAll_length, List.length_take]; omega

theorem ReadsA.take {w : World} {sa : Option Addr} {n : Nat} {l : List (Int × Int)} (h : ReadsA w sa n l) (k : Nat) (hk : k ≤ n) : ReadsA w sa k (l.take k) := by
  refine ⟨by rw [List.length_take, ← h.1]; omega, fun h0 => ?_⟩
  obtain ⟨b, off, e, g⟩ := h.2 (by omega)
  refine ⟨b, off, e, fun i hi => ?_⟩
  have e2 : (l.take k).getD i (0, 0) = l.getD i (0, 0) := by simp [List.getD, hi]
  rw [e2]; exact g i (by omega)
theorem ReadsA.drop {w : World} {g0 : Nat} {n : Nat} {l : List (Int × Int)} (h : ReadsA w (some ⟨g0, 0, none⟩) n l) (k : Nat) (hk : k ≤ n) : ReadsA w (some ⟨g0, k * 2, none⟩) (n - k) (l.drop k) := by
  refine ⟨by rw [List.length_drop, ← h.1], fun h0 => ?_⟩
  obtain ⟨b, off, e, g⟩ := h.2 (by omega)
  simp only [Option.some.injEq, Addr.mk.injEq, and_true] at e
  obtain ⟨rfl, rfl⟩ := e
  refine ⟨_, _, rfl, fun i hi => ?_⟩
  have e2 : (l.drop k).getD i (0, 0) = l.getD (k + i) (0, 0) := by simp [List.getD]
  have := g (k + i) (by omega)
  rw [e2, show k * 2 + i * 2 = 0 + (k + i) * 2 by omega]
  exact this
theorem reads_zero {w : World} {sa : Option Addr} {l : List (Int × Int)} (h : l = []) : ReadsA w sa 0 l := ⟨by rw [h]; rfl, fun h => absurd h (by decide)⟩
theorem reads_none {w : World} {sa : Option Addr} {l : List (Int × Int)} {n : Nat} (h : n = 0) (hl : l = []) : ReadsA w sa n l := by rw [h]; exact reads_zero hl
theorem one_lit (w : World) (x : Int × Int) : ReadsA (w.alloc (.cells #[.int .i64 x.1, .int .i64 x.2] 34)) (some ⟨w.heap.size, 0, none⟩) 1 [x] :=
  reads_lit w _ [x] (fun i hi => by
    obtain rfl : i = 0 := by simpa using hi
    exact ⟨rfl, rfl⟩)
theorem ReadsA.far {W w1 : World} {row : Option Nat} {B n : Nat} {l : List (Int × Int)} (h : ReadsA W (some ⟨B, 0, none⟩) n l) (hg : W.grownBy w1 row) (hne : some B ≠ row) : ReadsA w1 (some ⟨B, 0, none⟩) n l :=
  ⟨h.1, fun h0 => by
    obtain ⟨b, off, e, g⟩ := h.2 h0
    simp only [Option.some.injEq, Addr.mk.injEq, and_true] at e
    obtain ⟨rfl, rfl⟩ := e
    exact ⟨B, 0, rfl, fun i hi => ⟨(World.cell?_of_block (hg.block B (World.block_lt_of_cell? _ _ (g i hi).1) hne)).trans (g i hi).1, (World.cell?_of_block (hg.block B (World.block_lt_of_cell? _ _ (g i hi).2) hne)).trans (g i hi).2⟩⟩⟩
theorem far1 (n a b : Nat) : some (n + 1) ≠ (Value.slice (some ⟨n, 0, none⟩) a b).ownBlock := by simp [Value.ownBlock]
theorem far2 (n a b : Nat) : some n ≠ (Value.slice (some ⟨n + 1, 0, none⟩) a b).ownBlock := by simp [Value.ownBlock]
/-- The one command laid first, or second, ahead of an append to the other block. -/
theorem lit_second {wc w1 : World} {x : Int × Int} {o : Obj} {a b : Nat} (hg : ((wc.alloc o).alloc (.cells #[.int .i64 x.1, .int .i64 x.2] 34)).drew.grownBy w1 (Value.slice (some ⟨wc.heap.size, 0, none⟩) a b).ownBlock) : ReadsA w1 (some ⟨wc.heap.size + 1, 0, none⟩) 1 [x] := by
  have h := (one_lit (wc.alloc o) x).later (Below.refl _ _).drew
  rw [show (wc.alloc o).heap.size = wc.heap.size + 1 by simp] at h
  exact h.far hg (far1 _ _ _)
theorem lit_first {wc w1 : World} {x : Int × Int} {o : Obj} {a b : Nat} (hg : ((wc.alloc (.cells #[.int .i64 x.1, .int .i64 x.2] 34)).alloc o).drew.grownBy w1 (Value.slice (some ⟨wc.heap.size + 1, 0, none⟩) a b).ownBlock) : ReadsA w1 (some ⟨wc.heap.size, 0, none⟩) 1 [x] :=
  (((one_lit wc x).later ((Below.refl _ _).alloc (Nat.le_refl _) _)).later (Below.refl _ _).drew).far hg (far2 _ _ _)
theorem own_made (w : World) (base : Nat) (hb : base ≤ w.heap.size) : OwnA (w.alloc (.cells #[] 34)) base (.slice (some ⟨w.heap.size, 0, none⟩) 0 0) [] := World.ownsRow_made w #[] 0 hb (Nat.zero_le _) rfl
theorem own_made2 (w : World) (o : Obj) (base : Nat) (hb : base ≤ w.heap.size) : OwnA ((w.alloc o).alloc (.cells #[] 34)) base (.slice (some ⟨w.heap.size + 1, 0, none⟩) 0 0) [] := by
  have h := own_made (w.alloc o) base (by simp; omega)
  rw [show (w.alloc o).heap.size = w.heap.size + 1 by simp] at h
  exact h
theorem OwnA.drew {w : World} {base : Nat} {v : Value} {l : List (Int × Int)} (h : OwnA w base v l) : OwnA w.drew base v l := h.later (Below.refl _ _).drew
theorem OwnA.alloc {w : World} {base : Nat} {v : Value} {l : List (Int × Int)} (h : OwnA w base v l) (o : Obj) : OwnA (w.alloc o) base v l := h.later ((Below.refl _ _).alloc (Nat.le_refl _) _)

set_option maxRecDepth 100000 in
set_option maxHeartbeats 16000000 in
theorem rsort_any (sa : Option Addr) (len cap : Nat) (zs : List (Int × Int)) (w : World) (hm : len ≤ 300) (hr : ReadsA w sa len zs) :
    Calls Try.prog 17 #[.slice sa len cap] w fun e w' => ∃ sa' cap', e = .returned (.slice sa' len cap') ∧ ReadsA w' sa' len (sortL zs) ∧ RowKit.Below w.heap.size w w' := by
  have hmix := mixed
  have HR := Lib.hid hr; clear hr
  have HL := Lib.hid HR.out.1
  go_enter Try.func17, Try.ntmps17
  go_wp2_with fail
  go_loopg [3, 4] len (fun gg v iv wr => ∃ i : Nat, i + gg = len ∧ iv = .int .i64 i ∧ Hid (OwnA wr w.heap.size v (insAll (zs.take i))) ∧ Hid (RowKit.Below w.heap.size w wr))
  case atStart => exact ⟨0, by omega, rfl, Lib.hid (own_nil _ _), Lib.hid (Below.refl _ _)⟩
  case round =>
    obtain ⟨i, hgi, rfl, HO, HB⟩ := hrel
    by_cases hlt : i < len
    · have hti := take_len zs i (by have := HL.out; omega)
      have HTI := Lib.hid hti; clear hti
      have HIN := Lib.hid (insAll_take zs i (by have := HL.out; omega))
      obtain ⟨b, off, rfl, hz⟩ := (HR.out.later HB.out).2 (by omega)
      obtain ⟨x0, x1⟩ := hz i hlt
      clear hz
      obtain ⟨x, hx⟩ : ∃ x, x = zs.getD i (0, 0) := ⟨_, rfl⟩
      rw [← hx] at x0 x1 HIN
      obtain ⟨out, ho⟩ : ∃ o, o = insAll (zs.take i) := ⟨_, rfl⟩
      rw [← ho] at HO HTI HIN
      have HXO := Lib.hid (And.intro hx ho)
      clear hx ho
      have j1 : (0 : Int) ≤ (i : Int) := by omega
      have j2 : (i : Int) < (len : Int) := by omega
      go_upto_block 2 with (fail)
      obtain ⟨so, oc, rfl, hor⟩ := HO.out.reads
      have hic : out.length ≤ oc := by
        rcases HO.out.form with ⟨e, h⟩ | ⟨g, c2, e, h, _⟩
        · rw [h]; exact Nat.zero_le _
        · simp only [Value.slice.injEq, true_and] at e; omega
      rw [HTI.out] at hor hic ⊢
      have HOR := Lib.hid hor; clear hor
      obtain ⟨wo, rfl⟩ : ∃ wo : World, wo = wr := ⟨_, rfl⟩
      have hbk : b < wo.heap.size := World.block_lt_of_cell? _ _ x0
      go_cut [5] (fun kv wi => ∃ k : Nat, kv = .int .i64 k ∧ k ≤ i ∧ Hid (∀ m, m < k → lessB x (out.getD m (0, 0)) = false) ∧ Hid (k = i ∨ lessB x (out.getD k (0, 0)) = true) ∧ Hid (RowKit.Below wo.heap.size wo wi))
      case first =>
        go_wp2_with fail
        go_loopg [5] i (fun kk kv wi => ∃ k : Nat, k + kk = i ∧ kv = .int .i64 k ∧ Hid (∀ m, m < k → lessB x (out.getD m (0, 0)) = false) ∧ Hid (RowKit.Below wo.heap.size wo wi))
        case atStart => exact ⟨0, by omega, rfl, Lib.hid (fun m hm => by omega), Lib.hid (Below.refl _ _)⟩
        case round =>
          obtain ⟨k, hkk, rfl, HK, HBI⟩ := hrel
          by_cases hki : k < i
          · obtain ⟨g, og, rfl, hz⟩ := (HOR.out.later HBI.out).2 (by omega)
            obtain ⟨y0, y1⟩ := hz k hki
            clear hz
            obtain ⟨y, hy⟩ : ∃ y, y = out.getD k (0, 0) := ⟨_, rfl⟩
            rw [← hy] at y0 y1
            have HY := Lib.hid hy; clear hy
            have k1 : (0 : Int) ≤ (k : Int) := by omega
            have k2 : (k : Int) < (i : Int) := by omega
            have X0 := (HBI.out.cell (p := ⟨b, off + i * 2, none⟩) hbk).trans x0
            have X1 := (HBI.out.cell (p := ⟨b, off + i * 2 + 1, none⟩) hbk).trans x1
            have l0 := cell_grown (World.block_lt_of_cell? _ _ X0) X0
            have l1 := cell_grown (World.block_lt_of_cell? _ _ X1) X1
            have l2 := cell_grown (World.block_lt_of_cell? _ _ y0) y0
            have l3 := cell_grown (World.block_lt_of_cell? _ _ y1) y1
            have hc := rless_grown x y
            have HX0 := Lib.hid x0
            have HX1 := Lib.hid x1
            clear X0 X1 y0 y1 x0 x1
            cases hl : lessB x y with
            | true =>
              rw [hl] at hc
              have HLL := Lib.hid hl; clear hl
              go_wp2_with fail
              go_quiet_grown (first | (go_at_call 19; refine Calls.grown_of (hc _ _ _)))
              have gb : RowKit.Below wr.heap.size wr (grow (wr.drewN nq) osq) := Grew.below ⟨nq, osq, rfl⟩
              have GB := Lib.hid (HBI.out.trans (gb.mono HBI.out.size))
              clear gb l0 l1 l2 l3 hc
              go_wp2_with fail
              go_meet
              case rel => exact ⟨k, rfl, by omega, HK, Lib.hid (Or.inr (by rw [← HY.out]; exact HLL.out)), GB⟩
            | false =>
              rw [hl] at hc
              have HLL := Lib.hid hl; clear hl
              go_wp2_with fail
              go_quiet_grown (first | (go_at_call 19; refine Calls.grown_of (hc _ _ _)))
              have gb : RowKit.Below wr.heap.size wr (grow (wr.drewN nq) osq) := Grew.below ⟨nq, osq, rfl⟩
              have GB := Lib.hid (HBI.out.trans (gb.mono HBI.out.size))
              clear gb l0 l1 l2 l3 hc
              go_wp2_with fail
              go_roundg (gk - 1)
              case measure => omega
              case rel =>
                refine ⟨k + 1, by omega, by go_num, Lib.hid (fun m hm => ?_), GB⟩
                by_cases e : m = k
                · rw [e, ← HY.out]; exact HLL.out
                · exact HK.out m (by omega)
          · obtain rfl : k = i := by omega
            clear hki
            have GB := Lib.hid (HBI.out.trans ((Below.refl wr.heap.size wr).drew.mono HBI.out.size))
            go_wp2_with fail
            go_big_region_o
            generalize wr.drew = wd at GB ⊢
            go_wp2_with fail
            go_meet
            case rel => exact ⟨k, rfl, Nat.le_refl _, HK, Lib.hid (Or.inl rfl), GB⟩
      case rest =>
        obtain ⟨k, rfl, hki, HK, HKE, HBI⟩ := hcut
        have hins := insL_at x out k (by rw [HTI.out]; exact hki) HK.out (by rw [HTI.out]; exact HKE.out)
        have HINS := Lib.hid (HIN.out.trans hins)
        clear hins HK HKE HIN
        have X0 := (HBI.out.cell (p := ⟨b, off + i * 2, none⟩) hbk).trans x0
        have X1 := (HBI.out.cell (p := ⟨b, off + i * 2 + 1, none⟩) hbk).trans x1
        have HORc := Lib.hid (HOR.out.later HBI.out)
        have k1 : (0 : Int) ≤ (k : Int) := by omega
        have k2 : (k : Int) ≤ (i : Int) := by omega
        have k3 : (k : Int) ≤ (oc : Int) := by omega
        have k4 : (i : Int) ≤ (oc : Int) := by omega
        clear x0 x1
        have KR := Lib.hid (fun (W' : World) (hB : RowKit.Below wc.heap.size wc W') => (⟨(hB.cell (p := ⟨b, off + i * 2, none⟩) (World.block_lt_of_cell? _ _ X0)).trans X0, (hB.cell (p := ⟨b, off + i * 2 + 1, none⟩) (World.block_lt_of_cell? _ _ X1)).trans X1, Lib.hid hB⟩ : W'.cell? ⟨b, off + i * 2, none⟩ = some (.int .i64 x.1) ∧ W'.cell? ⟨b, off + i * 2 + 1, none⟩ = some (.int .i64 x.2) ∧ Hid (RowKit.Below wc.heap.size wc W')))
        have RA := Lib.hid (HORc.out.take k hki)
        have hol := HTI.out
        have HOL := Lib.hid hol
        have hol2 : out.length ≤ 300 := by omega
        have hkl : k ≤ out.length := by omega
        clear hol
        go_wp2_with fail
        rcases HO.out.form with ⟨e, hnil⟩ | ⟨g, oc', e, hoc, hg1, hg2, hcells⟩
        · simp only [Value.slice.injEq] at e
          obtain ⟨rfl, _, ho0⟩ := e
          have hk0 : i - k = 0 := by have := HOL.out; rw [hnil] at this; have : i = 0 := this.symm; omega
          have RB := Lib.hid (reads_none (w := wc) (sa := none) (l := out.drop k) (n := i - k) hk0 (by rw [hnil]; simp))
          clear hk0 ho0 hnil
          go_region_held3 (fun w' => w'.cell? ⟨b, off + i * 2, none⟩ = some (.int .i64 x.1) ∧ w'.cell? ⟨b, off + i * 2 + 1, none⟩ = some (.int .i64 x.2) ∧ Hid (RowKit.Below wc.heap.size wc w'))
            (first
              | exact KR.out _ (Below.refl _ _).drew
              | exact KR.out _ (((Below.refl _ wc).alloc (Nat.le_refl _) _).drew)
              | exact KR.out _ ((((Below.refl _ wc).alloc (Nat.le_refl _) _).alloc (by simp) _).drew)
              | (go_split_ands; first
                  | exact KR.out _ ((Hid.out (p := RowKit.Below wc.heap.size wc _) (by assumption)).trans hb3)
                  | exact KR.out _ ((Hid.out (p := RowKit.Below wc.heap.size wc _) (by assumption)).trans hb2)
                  | exact KR.out _ ((Hid.out (p := RowKit.Below wc.heap.size wc _) (by assumption)).trans hb1)
                  | exact KR.out _ ((Hid.out (p := RowKit.Below wc.heap.size wc _) (by assumption)).alloc (Hid.out (p := RowKit.Below wc.heap.size wc _) (by assumption)).size _)))
            (first
              | (go_split_ands
                 refine step_append_att (by rfl) (.tmp 30) (.tmp 33) (by rfl) wc.heap.size _ [] (by rfl) ?_ _ _ _ (out.take k) (by rfl) ?_ ?_ ?_ ?_
                 · (first | exact (own_made wc _ (Nat.le_refl _)).drew | exact ((own_made wc _ (Nat.le_refl _)).alloc _).drew | exact (own_made2 wc _ _ (Nat.le_refl _)).drew)
                 · exact RA.out.later (Hid.out (p := RowKit.Below wc.heap.size wc _) (by assumption))
                 · (simp; omega)
                 · exact (Hid.out (p := RowKit.Below wc.heap.size wc _) (by assumption)).size
                 intro v1 w1 ho1 hg1 hb1
                 (try have L1 := lit_second hg1)
                 (try have L1 := lit_first hg1))
              | (go_split_ands
                 refine step_append_att (by rfl) (.tmp 34) (.tmp 39) (by rfl) wc.heap.size _ (out.take k) (by rfl) ?_ _ _ _ [x] (by rfl) ?_ ?_ ?_ ?_
                 · (first | exact ho1 | exact ho1.alloc _)
                 · (first | exact L1 | exact one_lit w1 x)
                 · (rw [List.length_take]; omega)
                 · exact (Hid.out (p := RowKit.Below wc.heap.size wc _) (by assumption)).size
                 intro v2 w2 ho2 hg2 hb2)
              | (go_split_ands
                 refine step_append_att (by rfl) (.tmp 40) (.tmp 43) (by rfl) wc.heap.size _ (out.take k ++ [x]) (by rfl) ?_ _ _ _ (out.drop k) (by rfl) ?_ ?_ ?_ ?_
                 · exact ho2
                 · exact RB.out.later (Hid.out (p := RowKit.Below wc.heap.size wc _) (by assumption))
                 · (rw [List.length_append, List.length_take]; simp; omega)
                 · exact (Hid.out (p := RowKit.Below wc.heap.size wc _) (by assumption)).size
                 intro v3 w3 ho3 hg3 hb3; have HW3 := Lib.hid ((Hid.out (p := RowKit.Below wc.heap.size wc _) (by assumption)).trans hb3)))
          all_goals
            have HB3 := Lib.hid (HB.out.trans (((HBI.out.trans (HW3.out.mono HBI.out.size))).mono HB.out.size))
            have HO3 := Lib.hid (OwnA.lower ho3 (Nat.le_trans HB.out.size HBI.out.size))
            clear ho3 hg3 hb3
            go_wp2_with fail
            go_roundg (gk - 1)
            case measure => omega
            case rel => exact ⟨i + 1, by omega, by go_num, Lib.hid (by rw [← (HXO.out).2] at *; rw [HINS.out]; exact HO3.out), HB3⟩
        · simp only [Value.slice.injEq, true_and] at e
          obtain ⟨rfl, rfl⟩ := e
          clear hcells hoc hg1
          by_cases hck : oc = k
          · obtain rfl : k = oc := hck.symm
            have RB := Lib.hid (reads_zero (w := wc) (sa := some ⟨g, 0, none⟩) (l := out.drop k) (by rw [List.drop_eq_nil_iff]; have := HOL.out; omega))
            go_region_held3 (fun w' => w'.cell? ⟨b, off + i * 2, none⟩ = some (.int .i64 x.1) ∧ w'.cell? ⟨b, off + i * 2 + 1, none⟩ = some (.int .i64 x.2) ∧ Hid (RowKit.Below wc.heap.size wc w'))
              (first
                | exact KR.out _ (Below.refl _ _).drew
                | exact KR.out _ (((Below.refl _ wc).alloc (Nat.le_refl _) _).drew)
                | exact KR.out _ ((((Below.refl _ wc).alloc (Nat.le_refl _) _).alloc (by simp) _).drew)
                | (go_split_ands; first
                    | exact KR.out _ ((Hid.out (p := RowKit.Below wc.heap.size wc _) (by assumption)).trans hb3)
                    | exact KR.out _ ((Hid.out (p := RowKit.Below wc.heap.size wc _) (by assumption)).trans hb2)
                    | exact KR.out _ ((Hid.out (p := RowKit.Below wc.heap.size wc _) (by assumption)).trans hb1)
                    | exact KR.out _ ((Hid.out (p := RowKit.Below wc.heap.size wc _) (by assumption)).alloc (Hid.out (p := RowKit.Below wc.heap.size wc _) (by assumption)).size _)))
              (first
                | (go_split_ands
                   refine step_append_att (by rfl) (.tmp 30) (.tmp 33) (by rfl) wc.heap.size _ [] (by rfl) ?_ _ _ _ (out.take k) (by rfl) ?_ ?_ ?_ ?_
                   · (first | exact (own_made wc _ (Nat.le_refl _)).drew | exact ((own_made wc _ (Nat.le_refl _)).alloc _).drew | exact (own_made2 wc _ _ (Nat.le_refl _)).drew)
                   · exact RA.out.later (Hid.out (p := RowKit.Below wc.heap.size wc _) (by assumption))
                   · (simp; omega)
                   · exact (Hid.out (p := RowKit.Below wc.heap.size wc _) (by assumption)).size
                   intro v1 w1 ho1 hg1 hb1
                   (try have L1 := lit_second hg1)
                   (try have L1 := lit_first hg1))
                | (go_split_ands
                   refine step_append_att (by rfl) (.tmp 34) (.tmp 39) (by rfl) wc.heap.size _ (out.take k) (by rfl) ?_ _ _ _ [x] (by rfl) ?_ ?_ ?_ ?_
                   · (first | exact ho1 | exact ho1.alloc _)
                   · (first | exact L1 | exact one_lit w1 x)
                   · (rw [List.length_take]; omega)
                   · exact (Hid.out (p := RowKit.Below wc.heap.size wc _) (by assumption)).size
                   intro v2 w2 ho2 hg2 hb2)
                | (go_split_ands
                   refine step_append_att (by rfl) (.tmp 40) (.tmp 43) (by rfl) wc.heap.size _ (out.take k ++ [x]) (by rfl) ?_ _ _ _ (out.drop k) (by rfl) ?_ ?_ ?_ ?_
                   · exact ho2
                   · exact RB.out.later (Hid.out (p := RowKit.Below wc.heap.size wc _) (by assumption))
                   · (rw [List.length_append, List.length_take]; simp; omega)
                   · exact (Hid.out (p := RowKit.Below wc.heap.size wc _) (by assumption)).size
                   intro v3 w3 ho3 hg3 hb3; have HW3 := Lib.hid ((Hid.out (p := RowKit.Below wc.heap.size wc _) (by assumption)).trans hb3)))
            all_goals
              have HB3 := Lib.hid (HB.out.trans (((HBI.out.trans (HW3.out.mono HBI.out.size))).mono HB.out.size))
              have HO3 := Lib.hid (OwnA.lower ho3 (Nat.le_trans HB.out.size HBI.out.size))
              clear ho3 hg3 hb3
              go_wp2_with fail
              go_roundg (gk - 1)
              case measure => omega
              case rel => exact ⟨i + 1, by omega, by go_num, Lib.hid (by rw [← (HXO.out).2] at *; rw [HINS.out]; exact HO3.out), HB3⟩
          · have hck2 : (k : Int) < (oc : Int) := by omega
            have RB := Lib.hid (HORc.out.drop k hki)
            go_region_held3 (fun w' => w'.cell? ⟨b, off + i * 2, none⟩ = some (.int .i64 x.1) ∧ w'.cell? ⟨b, off + i * 2 + 1, none⟩ = some (.int .i64 x.2) ∧ Hid (RowKit.Below wc.heap.size wc w'))
              (first
                | exact KR.out _ (Below.refl _ _).drew
                | exact KR.out _ (((Below.refl _ wc).alloc (Nat.le_refl _) _).drew)
                | exact KR.out _ ((((Below.refl _ wc).alloc (Nat.le_refl _) _).alloc (by simp) _).drew)
                | (go_split_ands; first
                    | exact KR.out _ ((Hid.out (p := RowKit.Below wc.heap.size wc _) (by assumption)).trans hb3)
                    | exact KR.out _ ((Hid.out (p := RowKit.Below wc.heap.size wc _) (by assumption)).trans hb2)
                    | exact KR.out _ ((Hid.out (p := RowKit.Below wc.heap.size wc _) (by assumption)).trans hb1)
                    | exact KR.out _ ((Hid.out (p := RowKit.Below wc.heap.size wc _) (by assumption)).alloc (Hid.out (p := RowKit.Below wc.heap.size wc _) (by assumption)).size _)))
              (first
                | (go_split_ands
                   refine step_append_att (by rfl) (.tmp 30) (.tmp 33) (by rfl) wc.heap.size _ [] (by rfl) ?_ _ _ _ (out.take k) (by rfl) ?_ ?_ ?_ ?_
                   · (first | exact (own_made wc _ (Nat.le_refl _)).drew | exact ((own_made wc _ (Nat.le_refl _)).alloc _).drew | exact (own_made2 wc _ _ (Nat.le_refl _)).drew)
                   · exact RA.out.later (Hid.out (p := RowKit.Below wc.heap.size wc _) (by assumption))
                   · (simp; omega)
                   · exact (Hid.out (p := RowKit.Below wc.heap.size wc _) (by assumption)).size
                   intro v1 w1 ho1 hg1 hb1
                   (try have L1 := lit_second hg1)
                   (try have L1 := lit_first hg1))
                | (go_split_ands
                   refine step_append_att (by rfl) (.tmp 34) (.tmp 39) (by rfl) wc.heap.size _ (out.take k) (by rfl) ?_ _ _ _ [x] (by rfl) ?_ ?_ ?_ ?_
                   · (first | exact ho1 | exact ho1.alloc _)
                   · (first | exact L1 | exact one_lit w1 x)
                   · (rw [List.length_take]; omega)
                   · exact (Hid.out (p := RowKit.Below wc.heap.size wc _) (by assumption)).size
                   intro v2 w2 ho2 hg2 hb2)
                | (go_split_ands
                   refine step_append_att (by rfl) (.tmp 40) (.tmp 43) (by rfl) wc.heap.size _ (out.take k ++ [x]) (by rfl) ?_ _ _ _ (out.drop k) (by rfl) ?_ ?_ ?_ ?_
                   · exact ho2
                   · exact RB.out.later (Hid.out (p := RowKit.Below wc.heap.size wc _) (by assumption))
                   · (rw [List.length_append, List.length_take]; simp; omega)
                   · exact (Hid.out (p := RowKit.Below wc.heap.size wc _) (by assumption)).size
                   intro v3 w3 ho3 hg3 hb3; have HW3 := Lib.hid ((Hid.out (p := RowKit.Below wc.heap.size wc _) (by assumption)).trans hb3)))
            all_goals
              have HB3 := Lib.hid (HB.out.trans (((HBI.out.trans (HW3.out.mono HBI.out.size))).mono HB.out.size))
              have HO3 := Lib.hid (OwnA.lower ho3 (Nat.le_trans HB.out.size HBI.out.size))
              clear ho3 hg3 hb3
              go_wp2_with fail
              go_roundg (gk - 1)
              case measure => omega
              case rel => exact ⟨i + 1, by omega, by go_num, Lib.hid (by rw [← (HXO.out).2] at *; rw [HINS.out]; exact HO3.out), HB3⟩
    · obtain rfl : i = len := by omega
      obtain ⟨so, oc, rfl, hor⟩ := HO.out.reads
      have e1 : insAll (zs.take i) = sortL zs := by rw [List.take_of_length_le (by have := HL.out; omega), insAll_sort]
      have e2 : (insAll (zs.take i)).length = i := take_len zs i (by have := HL.out; omega)
      rw [e1] at hor e2
      rw [e1, e2]
      rw [e2] at hor
      have HOR := Lib.hid hor
      clear hor e1 e2 hlt HO
      go_wp2_with fail
      go_ret
      first | exact ⟨so, oc, rfl, HOR.out, HB.out⟩ | exact ⟨so, oc, rfl, HOR.out.later (Below.refl _ _).drew, HB.out.drew⟩
end Go.Proofs.Ytcgnodkbmpkhkaa
