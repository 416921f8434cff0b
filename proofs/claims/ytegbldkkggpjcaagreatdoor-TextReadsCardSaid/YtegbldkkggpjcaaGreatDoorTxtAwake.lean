/- The laws' common probe of layer 6. -/
import Derived.Test.YtegbldkkggpjcaaGreatDoorTxtLay
namespace Go.Proofs.YtegbldkkggpjcaaGreatDoor
open Go.RowKit Go.Sort

attribute [local go_sem ↓] Go.wp_at_zero Go.wp_at_succ

def bSeven : ByteArray := ⟨#[7, 2, 104, 105]⟩
def bHi : ByteArray := ⟨#[104, 105]⟩
theorem aw_put7 : putZ 7 = [7] := rfl
theorem aw_w1 : numL ⟨⟨#[]⟩, ⟨#[]⟩, 0⟩ [7] = ⟨⟨#[7]⟩, ⟨#[]⟩, 0⟩ := by
  show layS ⟨⟨#[]⟩, ⟨#[]⟩, 0⟩ pNum (bs (putZ 7)) (putE 7) = _
  rw [aw_put7]
  rfl
theorem aw_w2 : layS ⟨⟨#[7]⟩, ⟨#[]⟩, 0⟩ pText (bs (putZ (bHi.size : Nat)) ++ bHi) 0 = ⟨bSeven, ⟨#[]⟩, 0⟩ := rfl
theorem aw_n : numN ⟨bSeven, 0, ⟨#[]⟩, 0⟩ 6 = 0 := by decide +kernel
theorem aw_e : (numS ⟨bSeven, 0, ⟨#[]⟩, 0⟩ 6).e = 3 := by decide +kernel
theorem aw_p : (numS ⟨bSeven, 0, ⟨#[]⟩, 0⟩ 6).p = pNum := by decide +kernel
theorem aw_pos : (numS ⟨bSeven, 0, ⟨#[]⟩, 0⟩ 6).pos = 0 := by decide +kernel
theorem aw_text : preB [bRead, pNum] ++ lastB (.iface 41 (.int .i64 3)) = ⟨#[114, 101, 97, 100, 58, 32, 110, 117, 109, 58, 32, 101, 114, 114, 111, 114, 32, 51]⟩ := by
  show preB [bRead, pNum] ++ errorB 3 = _
  rw [errorB_3]; rfl
theorem ErrIs.text {w : World} {v : Value} {l : List ByteArray} {e : Int} (h : ErrIs w v l e) (he : e ≠ 0) (hm : e ≤ 9223372036854775807) (hg : Laid w) (hl : l.length ≤ 1000) (hs : ∀ s ∈ l, s.size ≤ 1000) (t : ByteArray) (ht : preB l ++ lastB (.iface 41 (.int .i64 e)) = t) : Calls Tryz.prog 23 #[v] w fun x w' => x = .returned (.string t) ∧ RowKit.Below w.heap.size w w' := by
  rcases h with ⟨h0, _⟩ | ⟨_, h1⟩
  · exact absurd h0 he
  · rw [← ht]; exact text_any l v _ _ w hg h1 (.inr ⟨e, rfl, hm⟩) (Nat.le_refl _) hl hs
/-- What the probe keeps at its end. -/
structure AwSt (I : Impl) (w wr : World) (S : Nat → Prop) (B : Nat) (u : InS) (no : Value) : Prop where
  R : I.R wr S B u
  no : ErrIs wr no [bWrite] 1
  laid : Laid wr
  below : RowKit.Below w.heap.size w wr
theorem AwSt.later {I : Impl} {w wr w2 : World} {S : Nat → Prop} {B : Nat} {u : InS} {no : Value} (h : AwSt I w wr S B u no) (k : RowKit.Below wr.heap.size wr w2) : AwSt I w w2 S B u no :=
  ⟨I.rlater h.R k, h.no.later k, h.laid.below k h.laid.pos, h.below.trans (k.mono h.below.size)⟩

set_option maxRecDepth 100000 in
set_option maxHeartbeats 6400000 in
theorem awake_any (I : Impl) (w : World) (hg : Laid w) : Calls Tryz.prog 6 #[] w fun e w' => e = .returned (.bool true) ∧ RowKit.Below w.heap.size w w' := by
  have HG := Lib.hid hg
  have hpos := hg.pos
  clear hg
  go_enter Tryz.func6, Tryz.ntmps6
  go_wp2_with fail
  have hb0 : RowKit.Below (w.alloc (.cells #[.pointer none, .string ⟨#[]⟩, .int .i64 0] 51)).heap.size (w.alloc (.cells #[.pointer none, .string ⟨#[]⟩, .int .i64 0] 51)) ((w.alloc (.cells #[.pointer none, .string ⟨#[]⟩, .int .i64 0] 51)).alloc (.cells #[.int .i64 7] 3)) := (Below.refl _ _).alloc (Nat.le_refl _) _
  refine (I.wnum (some ⟨w.heap.size + 1, 0, none⟩) 1 1 [7] (I.wlater (I.wzero w) hb0) ((HG.out.alloc _).alloc _) (by have := one_int (w.alloc (.cells #[.pointer none, .string ⟨#[]⟩, .int .i64 0] 51)) 7; rwa [show (w.alloc (.cells #[.pointer none, .string ⟨#[]⟩, .int .i64 0] 51)).heap.size = w.heap.size + 1 by simp] at this) (by decide) (by decide) (fun _ b o s e q => by
    simp only [Option.some.injEq, Addr.mk.injEq] at e
    have : b = w.heap.size := q
    omega) (by decide)).mono ?_
  rw [aw_w1]
  rintro y w1 ⟨rfl, S1, k1, k2, k3⟩
  have hge1 : ∀ k, S1 k → w.heap.size ≤ k := k2.ge (fun k q => Nat.le_of_eq (show w.heap.size = k from (show k = w.heap.size from q).symm)) (by simp; omega)
  have hb1 : RowKit.Below w.heap.size w w1 := (((Below.refl w.heap.size w).alloc (Nat.le_refl _) _).alloc (by simp) _).trans (k3.below (fun k q => Nat.le_of_eq (show w.heap.size = k from (show k = w.heap.size from q).symm)) (by simp; omega))
  have HW1 := Lib.hid k1
  have HB1 := Lib.hid hb1
  have HGE1 := Lib.hid hge1
  have HL1 := Lib.hid (HG.out.below hb1 hpos)
  clear k1 k2 k3 hb1 hge1 hb0
  go_wp2_with fail
  refine (I.wtext bHi HW1.out HL1.out (by decide) (by decide)).mono ?_
  rw [aw_w2]
  rintro y w2 ⟨rfl, S2, k1, k2, k3⟩
  have HW2 := Lib.hid k1
  have HB2 := Lib.hid (HB1.out.trans (k3.below HGE1.out HB1.out.size))
  have HL2 := Lib.hid (HG.out.below HB2.out hpos)
  clear k1 k2 k3 HW1 HB1 HGE1 HL1
  go_wp2_with fail
  refine (I.wdone HW2.out HL2.out (by decide)).mono ?_
  rintro y w3 ⟨v, rfl, he, hb⟩
  obtain rfl : v = .nilIface := by
    rcases he with ⟨_, h⟩ | ⟨h, _⟩
    · exact h
    · exact absurd rfl h
  have HB3 := Lib.hid (HB2.out.trans (hb.mono HB2.out.size))
  have HL3 := Lib.hid (HG.out.below HB3.out hpos)
  clear he hb HW2 HB2 HL2
  have hs7 : bSeven = ⟨#[7, 2, 104, 105]⟩ := rfl
  go_wp2_with fail
  refine (I.new ⟨#[7, 2, 104, 105]⟩ w3 HL3.out (by decide)).mono ?_
  rintro y w4 ⟨B, S4, rfl, k, hge, hb⟩
  have HR4 := Lib.hid (show I.R w4 S4 B ⟨bSeven, 0, ⟨#[]⟩, 0⟩ from k)
  have HGE4 := Lib.hid (show ∀ k, S4 k → w.heap.size ≤ k from fun k q => Nat.le_trans HB3.out.size (hge k q))
  have HB4 := Lib.hid (HB3.out.trans (hb.mono HB3.out.size))
  have HL4 := Lib.hid (HG.out.below HB4.out hpos)
  clear k hge hb HB3 HL3 hs7
  go_wp2_with fail
  refine (I.rnum 6 HR4.out HL4.out (by decide)).mono ?_
  rw [aw_n]
  have he := aw_e
  have hp := aw_p
  have hat := aw_pos
  generalize numS ⟨bSeven, 0, ⟨#[]⟩, 0⟩ 6 = u at *
  obtain ⟨us, ua, up, ue⟩ := u
  simp only at he hp hat
  subst he hp hat
  rintro y w5 ⟨rfl, S5, k1, k2, k3⟩
  have HR5 := Lib.hid k1
  have HB5 := Lib.hid (HB4.out.trans (k3.below HGE4.out HB4.out.size))
  have HL5 := Lib.hid (HG.out.below HB5.out hpos)
  clear k1 k2 k3 HR4 HGE4 HB4 HL4
  go_wp2_with fail
  refine (I.wnone _ HL5.out).mono ?_
  rintro y w6 ⟨no, rfl, he, hb⟩
  have HS := Lib.hid (show AwSt I w w6 S5 B ⟨us, 0, pNum, 3⟩ no from ⟨I.rlater HR5.out hb, he, HL5.out.below hb HL5.out.pos, HB5.out.trans (hb.mono HB5.out.size)⟩)
  clear he hb HR5 HB5 HL5
  go_wp2_with fail
  refine (I.rat HS.out.R HS.out.laid).mono ?_
  rintro y w7 ⟨rfl, hb⟩
  have HS7 := Lib.hid (HS.out.later hb)
  clear hb HS
  go_wp2_with fail
  refine (I.rdone HS7.out.R HS7.out.laid).mono ?_
  rintro y w8 ⟨v1, rfl, he, hb⟩
  have HS8 := Lib.hid (HS7.out.later hb)
  have HE8 := Lib.hid he
  clear he hb HS7
  go_wp2_with fail
  refine (HE8.out.code HS8.out.laid).mono ?_
  rintro y w9 ⟨rfl, hb⟩
  have HS9 := Lib.hid (HS8.out.later hb)
  clear hb HS8 HE8
  go_wp2_with fail
  refine (I.rdone HS9.out.R HS9.out.laid).mono ?_
  rintro y w10 ⟨v2, rfl, he, hb⟩
  have HS10 := Lib.hid (HS9.out.later hb)
  have HE10 := Lib.hid he
  clear he hb HS9
  go_wp2_with fail
  refine (HE10.out.at (by decide) (by decide) HS10.out.laid pNum).mono ?_
  rw [has_second]
  rintro y w11 ⟨rfl, hb⟩
  have HS11 := Lib.hid (HS10.out.later hb)
  clear hb HS10 HE10
  go_wp2_with fail
  refine (I.rdone HS11.out.R HS11.out.laid).mono ?_
  rintro y w12 ⟨v3, rfl, he, hb⟩
  have HS12 := Lib.hid (HS11.out.later hb)
  have HE12 := Lib.hid he
  clear he hb HS11
  go_wp2_with fail
  refine (HE12.out.text (by decide) (by decide) HS12.out.laid (by decide) (by decide) _ aw_text).mono ?_
  rintro y w13 ⟨rfl, hb⟩
  have HS13 := Lib.hid (HS12.out.later hb)
  clear hb HS12 HE12
  go_wp2_with fail
  refine (I.rnone _ HS13.out.laid).mono ?_
  rintro y w14 ⟨v4, rfl, he, hb⟩
  have HS14 := Lib.hid (HS13.out.later hb)
  have HE14 := Lib.hid he
  clear he hb HS13
  go_wp2_with fail
  refine (HE14.out.code HS14.out.laid).mono ?_
  rintro y w15 ⟨rfl, hb⟩
  have HS15 := Lib.hid (HS14.out.later hb)
  clear hb HS14 HE14
  go_wp2_with fail
  refine (I.rnil _ 9 HS15.out.laid).mono ?_
  rintro y w16 ⟨rfl, hb⟩
  have HS16 := Lib.hid (HS15.out.later hb)
  clear hb HS15
  go_wp2_with fail
  refine (HS16.out.no.code HS16.out.laid).mono ?_
  rintro y w17 ⟨rfl, hb⟩
  have HS17 := Lib.hid (HS16.out.later hb)
  clear hb HS16
  go_wp2_with fail
  go_ret
  exact ⟨rfl, HS17.out.below⟩
end Go.Proofs.YtegbldkkggpjcaaGreatDoor
