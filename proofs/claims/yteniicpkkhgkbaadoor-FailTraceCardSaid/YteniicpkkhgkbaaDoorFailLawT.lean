/- The walk of the law FailTrace. -/
import Derived.Test.YteniicpkkhgkbaaDoorFailLawC
import Derived.Deep.DrawnRows
import Derived.Deep.RegionLawGrows
namespace Go.Proofs.YteniicpkkhgkbaaDoor
open Go.RowKit

attribute [local go_sem ↓] Go.wp_at_zero Go.wp_at_succ

/-- At a step of a region that draws its order: an append of texts for which there is no room. -/
theorem step_append_texts {ops : Array Oper} {o : Oper} {a : Act} {w : World} {K : Act → World → Prop} {Q : Exit → Act → World → Prop} {E : Prop}
    (hw : Region.wanted o (yielded ops a.tmps) = true) (s x : Operand) (ho : o.op = Op.call { callee := Callee.builtin Builtin.append, args := #[s, x], argTypes := #[22, 22] })
    (b1 o1 n cap : Nat) (l1 : List ByteArray) (hs : a.eval s = .slice (some ⟨b1, o1, none⟩) n cap) (h1 : ReadsS w (.slice (some ⟨b1, o1, none⟩) n cap) l1) (hl1 : l1 ≠ [])
    (b2 o2 m c : Nat) (l2 : List ByteArray) (hx : a.eval x = .slice (some ⟨b2, o2, none⟩) m c) (h2 : ReadsS w (.slice (some ⟨b2, o2, none⟩) m c) l2) (hl2 : l2 ≠ [])
    (hfull : cap < n + m) (hm : n + m ≤ 2000)
    (hK : ∀ g cap' w', ReadsS w' (.slice (some ⟨g, 0, none⟩) (n + m) cap') (l1 ++ l2) → RowKit.Below w.heap.size w w' → K (a.put o.dst (.slice (some ⟨g, 0, none⟩) (n + m) cap')) w') :
    if Region.wanted o (yielded ops a.tmps) = true then Oper.wp Tryd.prog o a w K Q else E := by
  rw [if_pos hw]
  obtain ⟨i0, hi, hz0, hz1, hz2⟩ := info_parts infoStr
  have p1 : 0 < l1.length := List.length_pos_iff.2 hl1
  have p2 : 0 < l2.length := List.length_pos_iff.2 hl2
  obtain ⟨b1', o1', c1', e1, _, _, k1⟩ := h1.at p1
  obtain ⟨b2', o2', c2', e2, _, _, k2⟩ := h2.at p2
  simp only [Value.slice.injEq, Option.some.injEq, Addr.mk.injEq, and_true] at e1 e2
  obtain ⟨⟨rfl, rfl⟩, rfl, rfl⟩ := e1
  obtain ⟨⟨rfl, rfl⟩, rfl, rfl⟩ := e2
  have cells : ∀ (b off : Nat) (l : List ByteArray), (∀ j, j < l.length → w.cell? ⟨b, off + j, none⟩ = some (.string (l.getD j ByteArray.empty))) → ∀ j u, (l.map Value.string)[j]? = some u → w.cell? ((⟨b, off, none⟩ : Addr).add j) = some u := by
    intro b off l k j u hj
    rw [List.getElem?_map, Option.map_eq_some_iff] at hj
    obtain ⟨t, ht, rfl⟩ := hj
    obtain ⟨hlt, ht⟩ := List.getElem?_eq_some_iff.1 ht
    have e : (⟨b, off, none⟩ : Addr).add j = ⟨b, off + j, none⟩ := by unfold Addr.add; split <;> simp_all
    rw [e, k j hlt]
    simp [List.getD, hlt, ht]
  obtain ⟨v', w', hrun, r1, r2⟩ := run_append_arg_grows (P := Tryd.prog) w 22 o.type 9 i0 (.string ⟨#[]⟩) 1 16 Tryd.underlying22 hi hz0 hz1 hz2 rfl (by decide) ⟨b1, o1, none⟩ l1.length cap (l1.map Value.string) (by simp) (cells b1 o1 l1 k1) ⟨b2, o2, none⟩ l2.length c (l2.map Value.string) (by simp) (cells b2 o2 l2 k2) hfull (by unfold maxLen; omega) (by omega)
  unfold Oper.wp
  simp [execOp, ho, resolve, invoke, builtin, hs, hx, hrun, Result.andThen]
  have hown : OwnS w' w.heap.size v' (l1 ++ l2) := by
    unfold OwnS; rw [List.length_append, List.map_append]; exact r1
  have hb : RowKit.Below w.heap.size w w' := ⟨r2.os, r2.tape, r2.output, r2.size, fun k hk => r2.block k hk (by simp)⟩
  have hr := hown.reads
  rcases hown.2 with ⟨rfl, h0⟩ | ⟨g, cap', cur, rfl, _⟩
  · rw [List.length_append] at h0; omega
  · rw [List.length_append] at hr ⊢
    exact hK g cap' w' hr hb

theorem keepS {W3 W w1 : World} {a : Addr} {z : Value} (hb : RowKit.Below W.heap.size W w1) (h : W.cell? a = some z) (hB : Hid (RowKit.Below W3.heap.size W3 W)) : w1.cell? a = some z ∧ Hid (RowKit.Below W3.heap.size W3 w1) :=
  ⟨(hb.cell (World.block_lt_of_cell? _ _ h)).trans h, Lib.hid (hB.out.trans (hb.mono hB.out.size))⟩
theorem kc {w w' : World} {a : Addr} {z : Value} (hb : RowKit.Below w.heap.size w w') (h : w.cell? a = some z) : w'.cell? a = some z :=
  (hb.cell (World.block_lt_of_cell? _ _ h)).trans h
theorem below_alloc (W : World) (o : Obj) : RowKit.Below W.heap.size W (W.alloc o) := (Below.refl _ _).alloc (Nat.le_refl _) _

set_option maxRecDepth 100000 in
set_option maxHeartbeats 4000000 in
theorem trace_not (c : Int) (l : List ByteArray) (v : Value) (w : World) (hg : Laid w) (hr : ReadsS w v l) (hl : l.length ≤ 9223372036854775807) (hsz : ∀ s ∈ l, s.size ≤ 9223372036854775807) (hf : fewB l = false) :
    Calls Tryd.prog 5 #[.int .i64 c, v] w fun e w' => e = .returned (.bool true) ∧ RowKit.Below w.heap.size w w' := by
  have H := few_any l v w hr hl hsz
  rw [hf] at H
  have HF := Lib.hid H
  have HA := Lib.hid (awake_any w hg)
  clear H hg hr hsz hf
  go_enter Tryd.func5, Tryd.ntmps5
  go_wp2_with (first | (go_at_call 7; refine (HF.out).mono ?_; rintro e w1 ⟨rfl, rfl⟩) | (go_at_call 8; refine (HA.out).mono ?_; rintro e w1 ⟨rfl, hb⟩))
  go_ret
  exact ⟨rfl, hb⟩

set_option maxRecDepth 100000 in
set_option maxHeartbeats 4000000 in
theorem trace_ok (l : List ByteArray) (v : Value) (w : World) (hg : Laid w) (hr : ReadsS w v l) (hf : fewB l = true) :
    Calls Tryd.prog 5 #[.int .i64 0, v] w fun e w' => e = .returned (.bool true) ∧ RowKit.Below w.heap.size w w' := by
  obtain ⟨hl, hs⟩ := fewB_yes hf
  have H := few_any l v w hr (by omega) (fun s h => by have := hs s h; omega)
  rw [hf] at H
  have HF := Lib.hid H
  have HR := Lib.hid hr
  have HA := Lib.hid (awake_any w hg)
  clear H hg hs hf
  obtain ⟨sa, cap, b, off, rfl, hx⟩ := hr
  clear hx
  generalize hn : l.length = n at *
  have HN := Lib.hid hn
  clear hn
  go_enter Tryd.func5, Tryd.ntmps5
  go_wp2_with fail
  refine (HF.out).mono ?_; rintro e w1 ⟨rfl, rfl⟩
  go_wp2_with fail
  refine (new_ok bX _).mono ?_; rintro e w2 ⟨rfl, rfl⟩
  go_wp2_with fail
  go_loopg [5, 6] n (fun k u i wr => ∃ m : Nat, m + k = n ∧ i = .int .i64 m ∧ u = .nilIface ∧ wr = w)
  case atStart => exact ⟨0, by omega, rfl, rfl, rfl⟩
  case round =>
    obtain ⟨m, hk, rfl, rfl, rfl⟩ := hrel
    by_cases hlt : m < n
    · obtain ⟨b', off', cap', e, hcell⟩ := HR.out.cellAt (Below.refl _ _) (m := m) (by rw [HN.out]; exact hlt)
      rw [HN.out] at e
      simp only [Value.slice.injEq, true_and] at e
      obtain ⟨rfl, rfl⟩ := e
      generalize l.getD m ByteArray.empty = s at *
      have i1 : (0 : Int) ≤ (m : Int) := by omega
      have i2 : (m : Int) < (n : Int) := by omega
      go_wp2_with fail
      refine (wrap_nil s _).mono ?_; rintro e w3 ⟨rfl, rfl⟩
      go_wp2_with fail
      go_roundg (gk - 1)
      case measure => omega
      case rel => exact ⟨m + 1, by omega, by go_num, rfl, rfl⟩
    · obtain rfl : m = n := by omega
      clear hlt
      go_wp2_with fail
      refine (HA.out).mono ?_; rintro e w6 ⟨rfl, hb⟩
      go_wp2_with fail
      go_ret
      exact ⟨rfl, hb⟩

set_option maxRecDepth 100000 in
set_option maxHeartbeats 40000000 in
theorem trace_err (c : Int) (hc : c ≠ 0) (hcm : c ≤ 9223372036854775807) (l : List ByteArray) (v : Value) (w : World) (hg : Laid w) (hr : ReadsS w v l) (hf : fewB l = true) :
    Calls Tryd.prog 5 #[.int .i64 c, v] w fun e w' => e = .returned (.bool true) ∧ RowKit.Below w.heap.size w w' := by
  obtain ⟨hl, hs⟩ := fewB_yes hf
  have H := few_any l v w hr (by omega) (fun s h => by have := hs s h; omega)
  rw [hf] at H
  have HF := Lib.hid H
  have HR := Lib.hid hr
  have HG := Lib.hid hg
  have HC := Lib.hid hc
  have HM := Lib.hid hcm
  have HS := Lib.hid hs
  have hc0 : (c == 0) = false := by simpa using hc
  clear H hg hs hf hc hcm
  obtain ⟨sa, cap, b, off, rfl, hx⟩ := hr
  clear hx
  generalize hn : l.length = n at *
  have HN := Lib.hid hn
  clear hn
  go_enter Tryd.func5, Tryd.ntmps5
  go_wp2_with fail
  refine (HF.out).mono ?_; rintro e w1 ⟨rfl, rfl⟩
  go_wp2_with fail
  refine (new_err bX c HC.out _).mono ?_; rintro e w2 ⟨v2, rfl, he, hb⟩
  have HE2 : Hid (Err w2 v2 [bX] (.iface 28 (.int .i64 c))) := Lib.hid ⟨HG.out.below hb HG.out.pos, he⟩
  have HB2 := Lib.hid hb
  clear he hb
  go_wp2_with fail
  go_loopg [5, 6] n (fun k u i wr => ∃ (m : Nat) (lv : List ByteArray), m + k = n ∧ i = .int .i64 m ∧ lv.length = m + 1 ∧ Hid (∀ s ∈ lv, s.size ≤ 1000) ∧ Hid (Err wr u lv (.iface 28 (.int .i64 c))) ∧ Hid (RowKit.Below w.heap.size w wr))
  case atStart => exact ⟨0, [bX], by omega, rfl, rfl, Lib.hid (by decide), HE2, HB2⟩
  case round =>
    obtain ⟨m, lv, hk, rfl, hlv, HSH, HE, HB⟩ := hrel
    by_cases hlt : m < n
    · obtain ⟨b', off', cap', e, hcell⟩ := HR.out.cellAt HB.out (m := m) (by rw [HN.out]; exact hlt)
      rw [HN.out] at e
      simp only [Value.slice.injEq, true_and] at e
      obtain ⟨rfl, rfl⟩ := e
      have hsz : (l.getD m ByteArray.empty).size ≤ 100 := HS.out _ (by simp [List.getD, (by rw [HN.out]; exact hlt : m < l.length)])
      generalize l.getD m ByteArray.empty = s at *
      have i1 : (0 : Int) ≤ (m : Int) := by omega
      have i2 : (m : Int) < (n : Int) := by omega
      have HLV := Lib.hid hlv
      have hl50 : lv.length ≤ 51 := by omega
      clear hlv
      go_wp2_with fail
      refine (wrap_err s lv _ _ _ wr HE.out.2).mono ?_; rintro e W3 ⟨v3, rfl, he, hb⟩
      have HE3 : Hid (Err W3 v3 (s :: lv) (.iface 28 (.int .i64 c))) := Lib.hid ⟨HE.out.1.below hb HE.out.1.pos, he⟩
      have HV3 := Lib.hid (HE.out.step hb)
      have HB3 := Lib.hid (HB.out.trans (hb.mono HB.out.size))
      have c3 := kc hb hcell
      clear he hb hcell
      obtain ⟨b3, rfl⟩ := HE3.out.2.head (by simp)
      -- what the calls answer, in any world behind W3
      have inn : Inner (.iface 28 (.int .i64 c)) := .inr ⟨c, rfl⟩
      have innM : InnerM (.iface 28 (.int .i64 c)) := .inr ⟨c, rfl, HM.out⟩
      have hlm : (s :: lv).length ≤ 1000 := by simp; omega
      have hle : lv.length ≤ 1000 := by omega
      have hsm : ∀ t ∈ s :: lv, t.size ≤ 1000 := fun t ht => by
        rcases List.mem_cons.1 ht with rfl | h
        · omega
        · exact HSH.out t h
      have tsz : (preB lv ++ errorB c).size ≤ 2000000 := by
        have a := preB_size lv 1000 HSH.out
        have a2 : lv.length * (1000 + 2) ≤ 51 * (1000 + 2) := Nat.mul_le_mul_right _ hl50
        have b := lastB_size innM
        rw [ByteArray.size_append]
        have : (errorB c).size ≤ 25 := b
        omega
      have CD1 := Lib.hid (fun (W : World) (hb : RowKit.Below W3.heap.size W3 W) => (HE3.out.step hb).deep inn hlm)
      have CD2 := Lib.hid (fun (W : World) (hb : RowKit.Below W3.heap.size W3 W) => (HV3.out.step hb).deep inn hle)
      have CT1 := Lib.hid (fun (W : World) (hb : RowKit.Below W3.heap.size W3 W) => (HE3.out.step hb).trace inn hlm)
      have CT2 := Lib.hid (fun (W : World) (hb : RowKit.Below W3.heap.size W3 W) => (HV3.out.step hb).trace inn hle)
      have CX1 := Lib.hid (fun (W : World) (hb : RowKit.Below W3.heap.size W3 W) => (HE3.out.step hb).text innM hlm hsm (s ++ ⟨#[58, 32]⟩ ++ (preB lv ++ errorB c)) (by rw [preB_cons]; exact ByteArray.append_assoc))
      have CX2 := Lib.hid (fun (W : World) (hb : RowKit.Below W3.heap.size W3 W) => (HV3.out.step hb).text innM hle HSH.out (preB lv ++ errorB c) rfl)
      rw [List.length_cons, Int.natCast_succ] at CD1
      generalize preB lv ++ errorB c = T at *
      have HBd : Hid (RowKit.Below W3.heap.size W3 W3.drew) := Lib.hid (Below.refl _ _).drew
      have hne : lv ≠ [] := fun e => by have := HLV.out; rw [e] at this; simp at this
      have HNE := Lib.hid hne
      have z1 : ¬ (s.size + 2 > 9223372036854775807) := by omega
      have z2 : ¬ (s.size + 2 + T.size > 9223372036854775807) := by omega
      have ww : IntKind.i64.wrap ((lv.length : Int) + 1) = (lv.length : Int) + 1 := IntWalk.i64_in _ (by omega)
      have HSM := Lib.hid hsm
      clear inn innM hsm hne
      go_wp2_with fail
      go_region_held3 (fun w' => w'.cell? ⟨b', off' + m, none⟩ = some (.string s) ∧ Hid (RowKit.Below W3.heap.size W3 w'))
        (first
          | exact ⟨c3, HBd⟩
          | (go_split_ands; first | exact keepS hb8 (by assumption) (by assumption) | exact keepS hb7 (by assumption) (by assumption) | exact keepS hb6 (by assumption) (by assumption) | exact keepS hb5 (by assumption) (by assumption) | exact keepS hb4 (by assumption) (by assumption) | exact keepS hb3 (by assumption) (by assumption) | exact keepS hb2 (by assumption) (by assumption) | exact keepS hb1 (by assumption) (by assumption) | exact keepS (below_alloc _ _) (by assumption) (by assumption)))
        (first
        | (go_at_call 18; go_split_ands; (with_reducible refine (CD1.out _ (Hid.out (p := RowKit.Below W3.heap.size W3 _) (by assumption))).mono ?_); rintro e w4 ⟨rfl, hb1⟩)
        | (go_at_call 18; go_split_ands; (with_reducible refine (CD2.out _ (Hid.out (p := RowKit.Below W3.heap.size W3 _) (by assumption))).mono ?_); rintro e w4 ⟨rfl, hb2⟩)
        | (go_at_call 15; go_split_ands; (with_reducible refine (CT1.out _ (Hid.out (p := RowKit.Below W3.heap.size W3 _) (by assumption))).mono ?_); rintro e w4 ⟨um, rfl, hum, hb3⟩)
        | (go_at_call 15; go_split_ands; (with_reducible refine (CT2.out _ (Hid.out (p := RowKit.Below W3.heap.size W3 _) (by assumption))).mono ?_); rintro e w4 ⟨ue, rfl, hue, hb4⟩; obtain ⟨be, oe, ce, rfl, _, _, _⟩ := hue.at (List.length_pos_iff.2 HNE.out))
        | (go_at_call 14; go_split_ands; refine (same_yes _ _ (s :: lv) _ (by first | exact (hum.later hb4).later hb5 | exact ((hum.later (below_alloc _ _)).later hb4).later hb5 | exact ((hum.later hb4).later (below_alloc _ _)).later hb5) hra hlm).mono ?_; rintro e w4 ⟨rfl, hb6⟩)
        | (go_at_call 16; go_split_ands; (with_reducible refine (CX1.out _ (Hid.out (p := RowKit.Below W3.heap.size W3 _) (by assumption))).mono ?_); rintro e w4 ⟨rfl, hb7⟩)
        | (go_at_call 16; go_split_ands; (with_reducible refine (CX2.out _ (Hid.out (p := RowKit.Below W3.heap.size W3 _) (by assumption))).mono ?_); rintro e w4 ⟨rfl, hb8⟩)
        | (refine step_append_texts (by rfl) _ _ (by rfl) _ _ 1 1 [s] (by rfl) ?_ (by simp) be oe lv.length ce lv (by rfl) ?_ HNE.out ?_ (by omega) ?_
           · (first | exact ((reads_one (by simp)).later hb3).later hb4 | exact (reads_one (by simp)).later hb4 | exact reads_one (by simp))
           · (first | exact hue | exact hue.later (below_alloc _ _))
           · (have hq := HLV.out; omega)
           intro g cp w5 hra hb5))
      all_goals
        go_split_ands
        go_wp2_with fail
        go_roundg (gk - 1)
        case measure => omega
        case rel => exact ⟨m + 1, s :: lv, by omega, by go_num, by rw [List.length_cons, HLV.out], HSM, Lib.hid (HE3.out.step (Hid.out (p := RowKit.Below W3.heap.size W3 _) (by assumption))), Lib.hid (HB3.out.trans ((Hid.out (p := RowKit.Below W3.heap.size W3 _) (by assumption)).mono HB3.out.size))⟩
    · obtain rfl : m = n := by omega
      have HA := Lib.hid (awake_any wr HE.out.1)
      clear hlv hlt
      go_wp2_with fail
      refine (HA.out).mono ?_; rintro e w6 ⟨rfl, hb⟩
      have HB6 := Lib.hid (HB.out.trans (hb.mono HB.out.size))
      clear hb
      go_wp2_with fail
      go_ret
      exact ⟨rfl, HB6.out⟩
theorem trace_walk (c : Int) (hcm : c ≤ 9223372036854775807) (l : List ByteArray) (v : Value) (w : World) (hg : Laid w) (hr : ReadsS w v l) (hl : l.length ≤ 9223372036854775807) (hsz : ∀ s ∈ l, s.size ≤ 9223372036854775807) :
    Calls Tryd.prog 5 #[.int .i64 c, v] w fun e w' => e = .returned (.bool true) ∧ RowKit.Below w.heap.size w w' := by
  by_cases hf : fewB l = true
  · by_cases hc : c = 0
    · subst hc; exact trace_ok l v w hg hr hf
    · exact trace_err c hc hcm l v w hg hr hf
  · exact trace_not c l v w hg hr hl hsz (Bool.eq_false_iff.2 hf)
end Go.Proofs.YteniicpkkhgkbaaDoor
